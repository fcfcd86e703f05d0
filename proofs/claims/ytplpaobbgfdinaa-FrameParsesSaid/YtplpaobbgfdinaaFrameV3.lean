/-
  The law FrameParses: its walk.
-/
import Derived.Test.YtplpaobbgfdinaaFrameR2
namespace Go.Proofs.Ytplpaobbgfdinaa
set_option linter.unusedVariables false
open Go.RowKit

/-- Two blocks of four cells, as they stand, and two slices of bytes that read as texts. -/
abbrev TwoB (w0 : World) (g : Nat) (a b c d : Value) (g' : Nat) (a' b' c' d' : Value) (v1 v2 : Value) (s1 s2 : ByteArray) (w' : World) : Prop :=
  w'.cell? ⟨g, 0, none⟩ = some a ∧ w'.cell? ⟨g, 1, none⟩ = some b ∧ w'.cell? ⟨g, 2, none⟩ = some c ∧ w'.cell? ⟨g, 3, none⟩ = some d ∧
  w'.cell? ⟨g', 0, none⟩ = some a' ∧ w'.cell? ⟨g', 1, none⟩ = some b' ∧ w'.cell? ⟨g', 2, none⟩ = some c' ∧ w'.cell? ⟨g', 3, none⟩ = some d' ∧
  g < w'.heap.size ∧ g' < w'.heap.size ∧ Fresh w0 w' ∧
  (convert 22 9 v1).run Try.prog w' = .ok (.string s1) w' ∧ (convert 22 9 v2).run Try.prog w' = .ok (.string s2) w'
theorem TwoB.fresh {w0 W W' : World} {g g' : Nat} {a b c d a' b' c' d' v1 v2 : Value} {s1 s2 : ByteArray} (h : TwoB w0 g a b c d g' a' b' c' d' v1 v2 s1 s2 W) (hf : Fresh W W')
    (h1 : Hid (∀ W, Fresh w0 W → (convert 22 9 v1).run Try.prog W = .ok (.string s1) W)) (h2 : Hid (∀ W, Fresh w0 W → (convert 22 9 v2).run Try.prog W = .ok (.string s2) W)) : TwoB w0 g a b c d g' a' b' c' d' v1 v2 s1 s2 W' := by
  obtain ⟨c0, c1, c2, c3, d0, d1, d2, d3, hg, hg', hF, _, _⟩ := h
  have k0 : ∀ o, W'.cell? ⟨g, o, none⟩ = W.cell? ⟨g, o, none⟩ := fun o => hf.cell (p := ⟨g, o, none⟩) hg
  have k1 : ∀ o, W'.cell? ⟨g', o, none⟩ = W.cell? ⟨g', o, none⟩ := fun o => hf.cell (p := ⟨g', o, none⟩) hg'
  have hF' := hF.trans hf
  exact ⟨(k0 _).trans c0, (k0 _).trans c1, (k0 _).trans c2, (k0 _).trans c3, (k1 _).trans d0, (k1 _).trans d1, (k1 _).trans d2, (k1 _).trans d3, by have := hf.size; omega, by have := hf.size; omega, hF', h1.out _ hF', h2.out _ hF'⟩

theorem TwoB.fr {w0 W : World} {g g' : Nat} {a b c d a' b' c' d' v1 v2 : Value} {s1 s2 : ByteArray} (h : TwoB w0 g a b c d g' a' b' c' d' v1 v2 s1 s2 W) : Fresh w0 W := h.2.2.2.2.2.2.2.2.2.2.1

set_option maxRecDepth 100000 in
set_option maxHeartbeats 6400000 in
theorem FrameParses_any (A : Option Addr) (l : List UInt8) (c : Nat) (most : Int) (w : World) (hlc : l.length ≤ c) (hcm : c ≤ maxLen) (hA : BS w A l) (_ : (Lit.int .i64 most).wf = true) :
    Calls Try.prog 4 #[.slice A l.length c, .int .i64 most] w fun e w' => e = .returned (.bool true) ∧ Below w.heap.size w w' := by
  have HW := Lib.hid awake_true
  have hcm' := hcm
  unfold maxLen at hcm'
  by_cases h1 : 400 < l.length
  · have h1' : (400 : Int) < (l.length : Int) := by omega
    go_enter Try.func4, Try.ntmps4
    go_wp2_with fail
    with_reducible refine (HW.out _).mono ?_
    rintro e w3 ⟨rfl, hf3⟩
    have HF3 := Lib.hid hf3
    clear hf3
    go_wp2
    go_ret
    exact ⟨rfl, HF3.out⟩
  · have h1' : ¬ (400 : Int) < (l.length : Int) := by omega
    by_cases hk : parseK l most = 0
    · obtain ⟨h9, hm, hs⟩ := parseK_ok hk
      obtain ⟨x, hx⟩ : ∃ x, l[3]? = some x := ⟨_, List.getElem?_eq_getElem (by omega)⟩
      obtain ⟨y, hy⟩ : ∃ y, l[4]? = some y := ⟨_, List.getElem?_eq_getElem (by omega)⟩
      have hx8 := UInt8.toNat_lt x
      have hy8 := UInt8.toNat_lt y
      obtain ⟨N, hN⟩ : ∃ N, numL (l.take 3) = N := ⟨_, rfl⟩
      obtain ⟨S, hS⟩ : ∃ S, numL ((l.drop 5).take 4) % 2147483648 = S := ⟨_, rfl⟩
      have hS31 : S < 2147483648 := by rw [← hS]; exact Nat.mod_lt _ (by omega)
      obtain ⟨pl, hpl⟩ : ∃ pl, (l.take (9 + N)).drop 9 = pl := ⟨_, rfl⟩
      have hN3 := numL_take3 l
      rw [hN] at hm hs hN3
      have hpll : pl.length = N := by rw [← hpl]; simp; omega
      have HP := Lib.hid (fparse_at A l.length c l most w rfl hlc hcm hA x y N S (x.toNat : Int) (y.toNat : Int) (S : Int) (9 + (N : Int)) pl hk hN hx hy hS hpl rfl rfl rfl (by omega))
      have HR := Lib.hid (fun W => rparse_ok l most W (by omega) x y N S hk hN hx hy hS)
      have HRi := Lib.hid (fun W A n c => fright (x.toNat : Int) (y.toNat : Int) (S : Int) A n c W)
      have hR1 : frR (x.toNat : Int) (y.toNat : Int) (S : Int) N = true := by unfold frR; exact decide_eq_true (by omega)
      have hcb := run_str (P := Try.prog) (w := w) hA 22 9 5 Try.underlying22 Try.underlying5 Try.underlying9 c
      have HCB : Hid (∀ W, Fresh w W → (convert 22 9 (.slice A l.length c)).run Try.prog W = .ok (.string (strB l)) W) := fun W h =>
        run_str (P := Try.prog) (hA.fresh h) 22 9 5 Try.underlying22 Try.underlying5 Try.underlying9 c
      have HCC : Hid (∀ W, Fresh w W → (convert 22 9 (.slice (cutA A 9 c) N (c - 9))).run Try.prog W = .ok (.string (strB pl)) W) := fun W h => by
        have := run_str (P := Try.prog) (((hA.fresh h).take (9 + N)).cut 9 c (by simp; omega)) 22 9 5 Try.underlying22 Try.underlying5 Try.underlying9 (c - 9)
        rwa [hpl, hpll] at this
      have hcut := run_cut_mid (P := Try.prog) Try.underlying22 u8_size A l.length c 9 (9 + N) (by omega) (by omega)
      rw [show ((9 : Nat) : Int) = 9 by omega, show ((9 + N : Nat) : Int) = 9 + (N : Int) by omega, show 9 + N - 9 = N by omega] at hcut
      have HPL := Lib.hid hpll
      have HS31 := Lib.hid hS31
      clear hcb hA hN hS hpl hx hy hk hpll h9
      have hR1' := Lib.hid hR1
      clear hR1
      go_enter Try.func4, Try.ntmps4
      go_wp2_with fail
      with_reducible refine HP.out.mono ?_
      rintro e w2 ⟨A2, rfl, hb2, _, hf2⟩
      have HF2 := Lib.hid hf2
      have hF2 := HF2.out.trans (Fresh.alloc w2 (.cells #[.int .i64 (x.toNat : Int), .int .i64 (y.toNat : Int), .int .i64 (S : Int), .slice A2 N N] 24))
      have hcb := HCB.out _ hF2
      have HB2 := Lib.hid (Blk.new w2 24 #[.int .i64 (x.toNat : Int), .int .i64 (y.toNat : Int), .int .i64 (S : Int), .slice A2 N N])
      have HBS2 := Lib.hid (hb2.fresh (Fresh.alloc w2 (.cells #[.int .i64 (x.toNat : Int), .int .i64 (y.toNat : Int), .int .i64 (S : Int), .slice A2 N N] 24)))
      have HF2a := Lib.hid hF2
      clear hf2 hb2 hF2
      go_wp2_with fail
      with_reducible refine (HR.out _).mono ?_
      rintro e w3 ⟨rfl, hf3⟩
      have hb3 := HB2.out.fresh (hf3.trans (Fresh.alloc w3 (.cells #[.int .i64 (x.toNat : Int), .int .i64 (y.toNat : Int), .int .i64 (S : Int), .int .i64 (9 + (N : Int))] 35)))
      have hr3 := Blk.new w3 35 #[.int .i64 (x.toNat : Int), .int .i64 (y.toNat : Int), .int .i64 (S : Int), .int .i64 (9 + (N : Int))]
      have HF3 := Lib.hid (HF2a.out.trans (hf3.trans (Fresh.alloc w3 (.cells #[.int .i64 (x.toNat : Int), .int .i64 (y.toNat : Int), .int .i64 (S : Int), .int .i64 (9 + (N : Int))] 35))))
      have HBS3 := Lib.hid (HBS2.out.fresh (hf3.trans (Fresh.alloc w3 (.cells #[.int .i64 (x.toNat : Int), .int .i64 (y.toNat : Int), .int .i64 (S : Int), .int .i64 (9 + (N : Int))] 35))))
      have HB3 := Lib.hid hb3
      have HR3 := Lib.hid hr3
      clear hf3 hb3 hr3 hcb
      have HC1 : Hid (∀ W, Fresh (w3.alloc (.cells #[.int .i64 (x.toNat : Int), .int .i64 (y.toNat : Int), .int .i64 (S : Int), .int .i64 (9 + (N : Int))] 35)) W → (convert 22 9 (.slice A2 N N)).run Try.prog W = .ok (.string (strB pl)) W) := fun W h => by
        have := run_str (P := Try.prog) (HBS3.out.fresh h) 22 9 5 Try.underlying22 Try.underlying5 Try.underlying9 N
        rwa [HPL.out] at this
      have HC2 : Hid (∀ W, Fresh (w3.alloc (.cells #[.int .i64 (x.toNat : Int), .int .i64 (y.toNat : Int), .int .i64 (S : Int), .int .i64 (9 + (N : Int))] 35)) W → (convert 22 9 (.slice (cutA A 9 c) N (c - 9))).run Try.prog W = .ok (.string (strB pl)) W) := fun W h => HCC.out W (HF3.out.trans h)
      obtain ⟨SP, hSP⟩ : ∃ SP, SP = strB pl := ⟨_, rfl⟩
      rw [← hSP] at HC1 HC2
      clear hSP
      have hqs : (SP.toList == SP.toList) = true := by simp
      have hE : ∀ W, (Op.equalIn 10000 35 (.agg #[.int .i64 (x.toNat : Int), .int .i64 (y.toNat : Int), .int .i64 (S : Int), .int .i64 (9 + (N : Int))]) (.agg #[.int .i64 (x.toNat : Int), .int .i64 (y.toNat : Int), .int .i64 (S : Int), .int .i64 (9 + (N : Int))])).run Try.prog W = .ok true W := fun W => by
        have := run_equalIn_ints (P := Try.prog) Try.underlying35 Try.underlying3 (by kernel_rfl) 9998 [(x.toNat : Int), (y.toNat : Int), (S : Int), 9 + (N : Int)] [(x.toNat : Int), (y.toNat : Int), (S : Int), 9 + (N : Int)] rfl rfl W
        rw [decide_eq_true rfl] at this
        exact this
      have HS3 : Hid (TwoB (w3.alloc (.cells #[.int .i64 (x.toNat : Int), .int .i64 (y.toNat : Int), .int .i64 (S : Int), .int .i64 (9 + (N : Int))] 35)) w2.heap.size (.int .i64 (x.toNat : Int)) (.int .i64 (y.toNat : Int)) (.int .i64 (S : Int)) (.slice A2 N N) w3.heap.size (.int .i64 (x.toNat : Int)) (.int .i64 (y.toNat : Int)) (.int .i64 (S : Int)) (.int .i64 (9 + (N : Int))) (.slice A2 N N) (.slice (cutA A 9 c) N (c - 9)) SP SP (World.drew (w3.alloc (.cells #[.int .i64 (x.toNat : Int), .int .i64 (y.toNat : Int), .int .i64 (S : Int), .int .i64 (9 + (N : Int))] 35)))) := by
        have F := Fresh.drew (w3.alloc (.cells #[.int .i64 (x.toNat : Int), .int .i64 (y.toNat : Int), .int .i64 (S : Int), .int .i64 (9 + (N : Int))] 35))
        have hb := HB3.out.drew
        have hr := HR3.out.drew
        exact ⟨hb.cell 0, hb.cell 1, hb.cell 2, hb.cell 3, hr.cell 0, hr.cell 1, hr.cell 2, hr.cell 3, hb.lt, hr.lt, F, HC1.out _ F, HC2.out _ F⟩
      have HRi' : Hid (∀ W, Calls Try.prog 11 #[.agg #[.int .i64 (x.toNat : Int), .int .i64 (y.toNat : Int), .int .i64 (S : Int), .slice A2 N N]] W fun e w' => e = .returned (.bool true) ∧ Fresh W w') := fun W => by
        have := HRi.out W A2 N N
        rwa [hR1'.out] at this
      have i9 : (9 : Int) ≤ 9 + (N : Int) := by omega
      go_wp2_with fail
      go_region_held3 (fun w' => w'.cell? ⟨w2.heap.size, 0, none⟩ = some (.int .i64 (x.toNat : Int)) ∧ w'.cell? ⟨w2.heap.size, 1, none⟩ = some (.int .i64 (y.toNat : Int)) ∧ w'.cell? ⟨w2.heap.size, 2, none⟩ = some (.int .i64 (S : Int)) ∧ w'.cell? ⟨w2.heap.size, 3, none⟩ = some (.slice A2 N N) ∧
          w'.cell? ⟨w3.heap.size, 0, none⟩ = some (.int .i64 (x.toNat : Int)) ∧ w'.cell? ⟨w3.heap.size, 1, none⟩ = some (.int .i64 (y.toNat : Int)) ∧ w'.cell? ⟨w3.heap.size, 2, none⟩ = some (.int .i64 (S : Int)) ∧ w'.cell? ⟨w3.heap.size, 3, none⟩ = some (.int .i64 (9 + (N : Int))) ∧
          w2.heap.size < w'.heap.size ∧ w3.heap.size < w'.heap.size ∧ Fresh (w3.alloc (.cells #[.int .i64 (x.toNat : Int), .int .i64 (y.toNat : Int), .int .i64 (S : Int), .int .i64 (9 + (N : Int))] 35)) w' ∧
          (convert 22 9 (.slice A2 N N)).run Try.prog w' = .ok (.string SP) w' ∧ (convert 22 9 (.slice (cutA A 9 c) N (c - 9))).run Try.prog w' = .ok (.string SP) w')
        (first | assumption | exact HS3.out | exact TwoB.fresh (by assumption) hfk HC1 HC2)
        (first
          | (go_at_call 11; with_reducible refine (HRi'.out _).mono ?_; rintro e w4 ⟨rfl, hfk⟩)
          | (go_at_call 9; with_reducible refine (HW.out _).mono ?_; rintro e w5 ⟨rfl, hfk⟩))
      have HT7 := Lib.hid (TwoB.fr (by assumption : TwoB (w3.alloc (.cells #[.int .i64 (x.toNat : Int), .int .i64 (y.toNat : Int), .int .i64 (S : Int), .int .i64 (9 + (N : Int))] 35)) w2.heap.size (.int .i64 (x.toNat : Int)) (.int .i64 (y.toNat : Int)) (.int .i64 (S : Int)) (.slice A2 N N) w3.heap.size (.int .i64 (x.toNat : Int)) (.int .i64 (y.toNat : Int)) (.int .i64 (S : Int)) (.int .i64 (9 + (N : Int))) (.slice A2 N N) (.slice (cutA A 9 c) N (c - 9)) SP SP _))
      clear hqs
      go_wp2
      go_ret
      exact ⟨rfl, HF3.out.trans HT7.out⟩
    · obtain ⟨k, hk'⟩ : ∃ k, parseK l most = k := ⟨_, rfl⟩
      have hk0 : k ≠ 0 := fun e => hk (hk'.trans e)
      have HP := Lib.hid (fparse_no A l.length c l most (k : Int) w rfl hlc hcm hA k hk' hk0 rfl)
      have HR := Lib.hid (fun W => rparse_no l most W (by omega) k (k : Int) hk' hk0 rfl)
      have HEZ := Lib.hid (fun W => fequal_at 0 0 0 none 0 [] 0 0 0 0 none 0 [] 0 W true rfl rfl (BS.nil _ _) (BS.nil _ _) (by decide))
      have HCB : Hid (∀ W, Fresh w W → (convert 22 9 (.slice A l.length c)).run Try.prog W = .ok (.string (strB l)) W) := fun W h =>
        run_str (P := Try.prog) (hA.fresh h) 22 9 5 Try.underlying22 Try.underlying5 Try.underlying9 c
      have hz0 : ((k : Int) != 0) = true := by rw [bne_iff_ne]; omega
      have hzz : ((k : Int) != (k : Int)) = false := by simp
      clear hk hk' hk0 hA
      go_enter Try.func4, Try.ntmps4
      go_wp2_with fail
      with_reducible refine HP.out.mono ?_
      rintro e w2 ⟨rfl, hf2⟩
      have hb2 := Blk.new w2 24 #[.int .i64 0, .int .i64 0, .int .i64 0, .slice none 0 0]
      have HF2 := Lib.hid (hf2.trans (Fresh.alloc w2 (.cells #[.int .i64 0, .int .i64 0, .int .i64 0, .slice none 0 0] 24)))
      have hcb := HCB.out _ HF2.out
      have HB2 := Lib.hid hb2
      clear hf2 hb2
      go_wp2_with fail
      with_reducible refine (HR.out _).mono ?_
      rintro e w3 ⟨rfl, hf3⟩
      obtain ⟨c0, c1, c2, c3⟩ := (HB2.out.fresh hf3).c4
      have hlt := (HB2.out.fresh hf3).lt
      have HF3 := Lib.hid (HF2.out.trans (hf3.trans (Fresh.alloc w3 (.cells #[.int .i64 0, .int .i64 0, .int .i64 0, .int .i64 0] 35))))
      clear hf3 hcb
      go_wp2_with fail
      with_reducible refine (HEZ.out _).mono ?_
      rintro e w4 ⟨rfl, hf4⟩
      have HF4 := Lib.hid (HF3.out.trans hf4)
      clear hf4 c0 c1 c2 c3 hlt
      go_wp2_with fail
      with_reducible refine (HW.out _).mono ?_
      rintro e w5 ⟨rfl, hf5⟩
      have HF5 := Lib.hid (HF4.out.trans hf5)
      clear hf5
      go_wp2
      go_ret
      exact ⟨rfl, HF5.out⟩
end Go.Proofs.Ytplpaobbgfdinaa
