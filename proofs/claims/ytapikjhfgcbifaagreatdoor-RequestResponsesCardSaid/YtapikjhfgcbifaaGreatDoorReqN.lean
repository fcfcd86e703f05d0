/-
  The laws of layer 22: the document's Status; Equal.
-/
import Derived.Test.YtapikjhfgcbifaaGreatDoorReqI
namespace Go.Proofs.YtapikjhfgcbifaaGreatDoor
set_option maxRecDepth 100000
set_option linter.unusedVariables false
set_option linter.unusedSimpArgs false
open Go.RowKit
theorem three_list {s : ByteArray} (h : s.size = 3) : ∃ a b c : UInt8, s.data.toList = [a, b, c] := by
  have h1 := Lib.size_eq s
  rw [h] at h1
  match hd : s.data.toList, h1 with
  | [a, b, c], _ => exact ⟨a, b, c, rfl⟩
theorem st3_nums {a b c : Nat} (ha : 49 ≤ a ∧ a ≤ 53) (hb : 48 ≤ b ∧ b ≤ 57) (hc : 48 ≤ c ∧ c ≤ 57) :
    IntKind.u8.wrap ((a : Int) - 48) = ((a - 48 : Nat) : Int) ∧ IntKind.u8.wrap ((b : Int) - 48) = ((b - 48 : Nat) : Int) ∧ IntKind.u8.wrap ((c : Int) - 48) = ((c - 48 : Nat) : Int) ∧ IntKind.i64.wrap ((a - 48 : Nat) : Int) = ((a - 48 : Nat) : Int) ∧ IntKind.i64.wrap ((b - 48 : Nat) : Int) = ((b - 48 : Nat) : Int) ∧ IntKind.i64.wrap ((c - 48 : Nat) : Int) = ((c - 48 : Nat) : Int) ∧ IntKind.i64.wrap (((a - 48 : Nat) : Int) * 100) = ((a - 48 : Nat) : Int) * 100 ∧ IntKind.i64.wrap (((b - 48 : Nat) : Int) * 10) = ((b - 48 : Nat) : Int) * 10 ∧ IntKind.i64.wrap (((a - 48 : Nat) : Int) * 100 + ((b - 48 : Nat) : Int) * 10) = ((a - 48 : Nat) : Int) * 100 + ((b - 48 : Nat) : Int) * 10 ∧ IntKind.i64.wrap (((a - 48 : Nat) : Int) * 100 + ((b - 48 : Nat) : Int) * 10 + ((c - 48 : Nat) : Int)) = ((a - 48 : Nat) : Int) * 100 + ((b - 48 : Nat) : Int) * 10 + ((c - 48 : Nat) : Int) := by
  have h8 : ∀ x : Nat, 48 ≤ x → x ≤ 57 → IntKind.u8.wrap ((x : Int) - 48) = ((x - 48 : Nat) : Int) := fun x h0 h1 => by
    rw [show ((x : Int) - 48) = ((x - 48 : Nat) : Int) by omega]
    unfold IntKind.wrap
    simp [IntKind.bits, IntKind.signed]
    omega
  exact ⟨h8 a (by omega) (by omega), h8 b hb.1 hb.2, h8 c hc.1 hc.2, IntWalk.i64_in _ (by omega), IntWalk.i64_in _ (by omega), IntWalk.i64_in _ (by omega), IntWalk.i64_in _ (by omega), IntWalk.i64_in _ (by omega), IntWalk.i64_in _ (by omega), IntWalk.i64_in _ (by omega)⟩
def StQ (s : ByteArray) (w : World) (e : Ending) (w' : World) : Prop := e = .returned (.int .i64 (stN s.data.toList : Int)) ∧ Fresh w w'
set_option maxHeartbeats 6400000 in
theorem rf_status (s : ByteArray) (w : World) (hs : s.size ≤ 4611686018427387904) : Calls Tryz.prog 27 #[.string s] w (StQ s w) := by
  have HNO : Hid (∀ W, stN s.data.toList = 0 → Fresh w W → StQ s w (.returned (.int .i64 0)) W) := Lib.hid (fun W h hf => ⟨by rw [h]; rfl, hf⟩)
  have HYES : Hid (∀ (z : Int) W, z = (stN s.data.toList : Int) → Fresh w W → StQ s w (.returned (.int .i64 z)) W) := Lib.hid (fun z W h hf => ⟨by rw [h], hf⟩)
  generalize StQ s w = PP at *
  by_cases h3 : s.size = 3
  rotate_left
  · have h0 : stN s.data.toList = 0 := by
      unfold stN
      split
      · rename_i a b c he
        exfalso
        apply h3
        rw [Lib.size_eq, he]
        rfl
      · rfl
    have HX := Lib.hid (HNO.out w h0 (Fresh.refl _))
    have d0 : ((s.size : Int) != 3) = true := by simp; omega
    clear h3 h0
    go_enter Tryz.func27, Tryz.ntmps27
    go_wp2_with fail
    exact HX.out
  obtain ⟨a, b, c, hl⟩ := three_list h3
  have b0 : 0 < s.size := by omega
  have b1 : 1 < s.size := by omega
  have b2 : 2 < s.size := by omega
  have g0 : s[0]'b0 = a := by
    have := Lib.data_getElem? s 0 b0
    rw [hl] at this
    simpa using this.symm
  have g1 : s[1]'b1 = b := by
    have := Lib.data_getElem? s 1 b1
    rw [hl] at this
    simpa using this.symm
  have g2 : s[2]'b2 = c := by
    have := Lib.data_getElem? s 2 b2
    rw [hl] at this
    simpa using this.symm
  have d0 : ((s.size : Int) != 3) = false := by simp; omega
  have hst : stN s.data.toList = if (49 ≤ a.toNat ∧ a.toNat ≤ 53) ∧ (48 ≤ b.toNat ∧ b.toNat ≤ 57) ∧ (48 ≤ c.toNat ∧ c.toNat ≤ 57) then 100 * (a.toNat - 48) + 10 * (b.toNat - 48) + (c.toNat - 48) else 0 := by rw [hl]; rfl
  have HST := Lib.hid hst
  have q0 : (0 : Int) < (s.size : Int) := by omega
  have q1 : (1 : Int) < (s.size : Int) := by omega
  have q2 : (2 : Int) < (s.size : Int) := by omega
  clear hst hl h3
  have HZ : Hid (¬ ((49 ≤ a.toNat ∧ a.toNat ≤ 53) ∧ (48 ≤ b.toNat ∧ b.toNat ≤ 57) ∧ (48 ≤ c.toNat ∧ c.toNat ≤ 57)) → PP (.returned (.int .i64 0)) w) := Lib.hid (fun h => HNO.out w (by rw [HST.out, if_neg h]) (Fresh.refl _))
  by_cases halo : a.toNat < 49
  · have HX := Lib.hid (HZ.out (by omega))
    have dd : (a.toNat : Int) < 49 := by omega
    clear  halo
    go_enter Tryz.func27, Tryz.ntmps27
    go_wp2_with fail
    exact HX.out
  have ehalo : decide ((a.toNat : Int) < 49) = false := decide_eq_false (by omega)
  by_cases hahi : 53 < a.toNat
  · have HX := Lib.hid (HZ.out (by omega))
    have dd : (53 : Int) < (a.toNat : Int) := by omega
    clear halo hahi
    go_enter Tryz.func27, Tryz.ntmps27
    go_wp2_with fail
    exact HX.out
  have ehahi : decide ((53 : Int) < (a.toNat : Int)) = false := decide_eq_false (by omega)
  by_cases hblo : b.toNat < 48
  · have HX := Lib.hid (HZ.out (by omega))
    have dd : (b.toNat : Int) < 48 := by omega
    clear halo hahi hblo
    go_enter Tryz.func27, Tryz.ntmps27
    go_wp2_with fail
    exact HX.out
  have ehblo : decide ((b.toNat : Int) < 48) = false := decide_eq_false (by omega)
  by_cases hbhi : 57 < b.toNat
  · have HX := Lib.hid (HZ.out (by omega))
    have dd : (57 : Int) < (b.toNat : Int) := by omega
    clear halo hahi hblo hbhi
    go_enter Tryz.func27, Tryz.ntmps27
    go_wp2_with fail
    exact HX.out
  have ehbhi : decide ((57 : Int) < (b.toNat : Int)) = false := decide_eq_false (by omega)
  by_cases hclo : c.toNat < 48
  · have HX := Lib.hid (HZ.out (by omega))
    have dd : (c.toNat : Int) < 48 := by omega
    clear halo hahi hblo hbhi hclo
    go_enter Tryz.func27, Tryz.ntmps27
    go_wp2_with fail
    exact HX.out
  have ehclo : decide ((c.toNat : Int) < 48) = false := decide_eq_false (by omega)
  by_cases hchi : 57 < c.toNat
  · have HX := Lib.hid (HZ.out (by omega))
    have dd : (57 : Int) < (c.toNat : Int) := by omega
    clear halo hahi hblo hbhi hclo hchi
    go_enter Tryz.func27, Tryz.ntmps27
    go_wp2_with fail
    exact HX.out
  have ehchi : decide ((57 : Int) < (c.toNat : Int)) = false := decide_eq_false (by omega)
  obtain ⟨n1, n2, n3, n4, n5, n6, n7, n8, n9, n10⟩ := st3_nums (a := a.toNat) (b := b.toNat) (c := c.toNat) ⟨by omega, by omega⟩ ⟨by omega, by omega⟩ ⟨by omega, by omega⟩
  have HX : Hid (∀ W, Fresh w W → PP (.returned (.int .i64 (((a.toNat - 48 : Nat) : Int) * 100 + ((b.toNat - 48 : Nat) : Int) * 10 + ((c.toNat - 48 : Nat) : Int)))) W) := Lib.hid (fun W hf => HYES.out _ W (by
    rw [HST.out, if_pos ⟨⟨by omega, by omega⟩, ⟨by omega, by omega⟩, ⟨by omega, by omega⟩⟩]
    omega) hf)
  clear halo hahi hblo hbhi hclo hchi
  go_enter Tryz.func27, Tryz.ntmps27
  go_upto_region 3 with fail
  go_quiet (fail)
  all_goals
    go_wp2_with fail
    exact HX.out _ (Fresh.drewN _ _)
set_option maxHeartbeats 3200000 in
theorem sl_equal (A B : Option Addr) (c d : Nat) (n : Nat) (xs : List FldT) (w : World) (hx : xs.length = n) (hm : Many fldD 2 w A xs) (hk : Many fldD 2 w B xs) (hl : n ≤ 1000000) :
    Calls Tryz.prog 46 #[.slice A n c, .slice B n d] w fun e w' => e = .returned (.bool true) ∧ Fresh w w' := by
  have HM := Lib.hid hm
  have HK := Lib.hid hk
  have HN := Lib.hid hx
  have hnn : ((n : Int) != (n : Int)) = false := by simp
  clear hx hm hk
  go_enter Tryz.func46, Tryz.ntmps46
  go_wp2_with fail
  go_loopw [13] (fun i wr => ∃ u : Nat, u ≤ n ∧ i = .int .i64 (u : Int) ∧ Fresh w wr) (fun i _ => n - (intOf i).toNat)
  case atStart => exact ⟨0, Nat.zero_le _, rfl, Fresh.refl _⟩
  case round =>
    obtain ⟨u, hu, rfl, hf⟩ := hrel
    have HFJ := Lib.hid hf
    clear hf
    by_cases huj : u < n
    · have huj' : (u : Int) < (n : Int) := by omega
      obtain ⟨g', hg⟩ : ∃ g, xs[u]? = some g := ⟨_, List.getElem?_eq_getElem (by rw [HN.out]; exact huj)⟩
      obtain ⟨b1, o1, rfl, hb1, z0, z1⟩ := (HM.out.fresh HFJ.out).fdAt u g' hg
      obtain ⟨b2, o2, rfl, hb2, k0, k1⟩ := (HK.out.fresh HFJ.out).fdAt u g' hg
      obtain ⟨F1, F2⟩ := g'
      simp only at z0 z1 k0 k1
      have hE := run_eq_fld 9998 F1 F2
      clear hb1 hb2 hg
      go_upto_region 6 with fail
      go_quiet (fail)
      all_goals
        go_wp2
        go_roundw
        case rel => exact ⟨u + 1, by omega, by go_num, HFJ.out.trans (Fresh.drewN _ _)⟩
        case measure => simp [intOf]; omega
    · obtain rfl : u = n := by omega
      have hnj : ¬ (u : Int) < (u : Int) := by omega
      go_wp2_with fail
      go_ret
      exact ⟨rfl, HFJ.out⟩
theorem rq_equal (z : Int) (A B : Option Addr) (c d : Nat) (n : Nat) (xs : List FldT) (w : World) (hx : xs.length = n) (hm : Many fldD 2 w A xs) (hk : Many fldD 2 w B xs) (hl : n ≤ 1000000) :
    Calls Tryz.prog 26 #[.agg #[.int .i64 z, .slice A n c], .agg #[.int .i64 z, .slice B n d]] w fun e w' => e = .returned (.bool true) ∧ Fresh w w' := by
  have HE := Lib.hid (fun W (hf : Fresh w W) => sl_equal A B c d n xs W hx (hm.fresh hf) (hk.fresh hf) hl)
  have hzz : (z == z) = true := by simp
  clear hx hm hk hl
  go_enter Tryz.func26, Tryz.ntmps26
  go_upto_region 1 with fail
  refine wp_gen (fun W => Blk W w.heap.size 53 #[.int .i64 z, .slice A n c] ∧ Blk W (w.heap.size + 1) 53 #[.int .i64 z, .slice B n d] ∧ Fresh w W) ⟨(Blk.new w _ _).fresh (Fresh.alloc _ _), by simpa using Blk.new (w.alloc (.cells #[.int .i64 z, .slice A n c] 53)) 53 #[.int .i64 z, .slice B n d], (Fresh.alloc _ _).trans (Fresh.alloc _ _)⟩ ?_
  rintro W ⟨h1, h2, hf⟩
  obtain ⟨p, hp⟩ : ∃ p, w.heap.size = p := ⟨_, rfl⟩
  obtain ⟨q, hq⟩ : ∃ q, p + 1 = q := ⟨_, rfl⟩
  rw [hp] at h1 h2 ⊢
  rw [hq] at h2 ⊢
  obtain ⟨y0, y1⟩ := h1.c2
  obtain ⟨x0, x1⟩ := h2.c2
  have HF := Lib.hid hf
  clear h1 h2 hp hq hf
  go_wp2_with fail
  with_reducible refine (HE.out _ HF.out).mono ?_
  rintro e w2 ⟨rfl, hf2⟩
  have HF2 := Lib.hid (HF.out.trans hf2)
  clear hf2
  go_wp2_with fail
  go_ret
  exact ⟨rfl, HF2.out⟩
end Go.Proofs.YtapikjhfgcbifaaGreatDoor

