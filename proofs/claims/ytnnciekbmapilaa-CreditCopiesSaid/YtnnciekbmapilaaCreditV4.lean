/-
  The law CreditCopies: its walk.
-/
import Derived.Test.YtnnciekbmapilaaCreditV3
namespace Go.Proofs.Ytnnciekbmapilaa
set_option linter.unusedVariables false
open Go.RowKit

structure CoR (w : World) (c g k n m p kk : Nat) (f : Nat → Int) (T : Nat) (d gd kd md : Nat) (A : Option Addr) (len : Nat) (R : Nat → Nat → Int) (j : Nat) (wr : World) : Prop where
  pl : PlR w d gd kd n md A len R j wr
  two : Two wr c g k n p kk f T
  blk : Blk wr m 31 #[.slice (some ⟨p, 0, none⟩) n kk, .int .i64 ((T : Nat) : Int)]
  ap : c ≠ d ∧ c ≠ gd ∧ c ≠ md ∧ g ≠ d ∧ g ≠ gd ∧ g ≠ md ∧ m ≠ d ∧ m ≠ gd ∧ m ≠ md
section
variable {w wr wx : World} {c g k n m p kk T d gd kd md len j : Nat} {f : Nat → Int} {A : Option Addr} {R : Nat → Nat → Int}
theorem CoR.fresh (h : CoR w c g k n m p kk f T d gd kd md A len R j wr) (hf : Fresh wr wx) : CoR w c g k n m p kk f T d gd kd md A len R j wx :=
  ⟨h.pl.fresh hf, h.two.fresh hf, h.blk.fresh hf, h.ap⟩
theorem CoR.step {q kq U : Nat} {f' : Nat → Int} (h : CoR w c g k n m p kk f T d gd kd md A len R j wr) (hA : IntRows w 3 A len R) (hU : U ≤ j + 1) (h2 : Two wx d gd kd n q kq f' U) (ho : Only (fun i => i = d ∨ i = gd) wr wx) :
    CoR w c g k n m p kk f T d gd kd md A len R (j + 1) ((wx.setCell ⟨md, 0, none⟩ (.slice (some ⟨q, 0, none⟩) n kq)).setCell ⟨md, 1, none⟩ (.int .i64 ((U : Nat) : Int))) := by
  obtain ⟨hp, ht, hb, ap⟩ := h
  have ho2 : Only (· = md) wx ((wx.setCell ⟨md, 0, none⟩ (.slice (some ⟨q, 0, none⟩) n kq)).setCell ⟨md, 1, none⟩ (.int .i64 ((U : Nat) : Int))) := (Only.setCell wx ⟨md, 0, none⟩ _).trans (Only.setCell _ ⟨md, 1, none⟩ _)
  obtain ⟨p0, kk0, f0, T0, hT0, htw, hbm⟩ := hp.two
  have hpd := Ints.ne_cr ht.ints htw.cr
  have hpm : p ≠ md := fun e => by subst e; exact ht.ints.ne hbm (by decide) rfl
  have ht1 := ht.only ho (by omega) (by omega) (by omega)
  have hb1 := hb.only ho (by omega)
  exact ⟨(hp.step hA hU h2 ho).1, ht1.only ho2 (by omega) (by omega) (by omega), hb1.only ho2 (by omega), ap⟩
end
set_option maxRecDepth 100000 in
set_option maxHeartbeats 6400000 in
theorem CreditCopies_any (n : Int) (A : Option Addr) (len cap : Nat) (R : Nat → Nat → Int) (A2 : Option Addr) (len2 cap2 : Nat) (R2 : Nat → Nat → Int) (w : World) (_ : (Lit.int .i64 n).wf = true) (hlen : len ≤ maxLen) (hA : IntRows w 3 A len R) (hlen2 : len2 ≤ maxLen) (hA2 : IntRows w 3 A2 len2 R2) :
    Calls Try.prog 6 #[.int .i64 n, .slice A len cap, .slice A2 len2 cap2] w fun e w' => e = .returned (.bool true) ∧ Below w.heap.size w w' := by
  unfold maxLen at hlen hlen2
  by_cases hall : len ≤ 60 ∧ len2 ≤ 60 ∧ 1 ≤ n ∧ n ≤ 64
  · obtain ⟨hl, hl2, h1, h2⟩ := hall
    obtain ⟨N, rfl⟩ : ∃ N : Nat, n = (N : Int) := ⟨n.toNat, by omega⟩
    have n1 : 1 ≤ N := by omega
    have n2 : N ≤ 64 := by omega
    have HA := Lib.hid hA
    have HA2 := Lib.hid hA2
    clear hA hA2 h1 h2
    have a0 : decide (60 < (len : Int)) = false := by simp; omega
    have a01 : decide (60 < (len2 : Int)) = false := by simp; omega
    have a1 : decide ((N : Int) < 1) = false := by simp; omega
    have a2 : decide (64 < (N : Int)) = false := by simp; omega
    go_enter Try.func6, Try.ntmps6
    go_wp2_with fail
    with_reducible refine (cr_new_yes N _ n1 n2).mono ?_
    rintro e w1 ⟨c, g, k, rfl, hc, hg, hcr, hf1⟩
    have HCR := Lib.hid hcr
    have HF1 := Lib.hid hf1
    have HCG := Lib.hid (And.intro hc hg)
    clear hcr hf1 hc hg
    go_wp2_with fail
    with_reducible refine (ref_first N _ n1 n2).mono ?_
    rintro e w2 ⟨p, kk, rfl, hp, hi, hf2⟩
    have HT0 : Hid (Two w2 c g k N p kk (part 65535 N) 0) := Lib.hid ⟨by rw [Nat.zero_mod]; exact HCR.out.fresh hf2, hi⟩
    have HF2 := Lib.hid (HF1.out.trans hf2)
    clear hi hp hf2
    go_wp2_with fail
    have HR : Hid (PlR w c g k N w2.heap.size A len R 0 (w2.alloc (.cells #[.slice (some ⟨p, 0, none⟩) N kk, .int .i64 0] 31))) := Lib.hid
      ⟨⟨p, kk, _, 0, by omega, HT0.out.fresh (Fresh.alloc _ _), Blk.new _ _ _⟩, HA.out.fresh (HF2.out.allocS _), HF2.out.allocS _, HCG.out.1, HCG.out.2, HF2.out.size, by have := HT0.out.cr.lt; omega, by have := HT0.out.cr.lt; omega⟩
    clear HT0 HCR HCG HF1 HF2
    generalize w2.heap.size = m at *
    go_loopw [50] (fun i wr => ∃ j : Nat, j ≤ len ∧ i = .int .i64 j ∧ PlR w c g k N m A len R j wr) (fun i _ => len - (intOf i).toNat)
    case atStart => exact ⟨0, by omega, rfl, HR.out⟩
    case round =>
      obtain ⟨j, hj, rfl, hR⟩ := hrel
      clear HR
      by_cases hlt : j < len
      · obtain ⟨bb, oo, rfl, hbb, hcells⟩ := hR.rows.1 (by omega)
        have c0 := hcells j 0 hlt (by omega)
        have c1 := hcells j 1 hlt (by omega)
        have c2 := hcells j 2 hlt (by omega)
        simp only [Nat.add_zero] at c0
        clear hcells
        generalize hk0 : R j 0 = kd at *
        generalize hk1 : R j 1 = tn at *
        generalize hk2 : R j 2 = x at *
        clear hk0 hk1 hk2
        have HR := Lib.hid hR
        have HO := Lib.hid (hR.fresh (Fresh.alloc wr (.cells #[.int .i64 kd, .int .i64 tn, .int .i64 x] 34)))
        obtain ⟨p1, kk1, f1, T1, hT1, h21, hb1⟩ := HO.out.two
        have HB : Hid (Blk (wr.alloc (.cells #[.int .i64 kd, .int .i64 tn, .int .i64 x] 34)) wr.heap.size 34 #[.int .i64 kd, .int .i64 tn, .int .i64 x]) := Lib.hid (Blk.new _ _ _)
        have HS := Lib.hid (step_any c g k N p1 kk1 f1 T1 kd tn x _ h21 (by omega))
        have m0 := hb1.cell 0
        have m1 := hb1.cell 1
        simp only [List.getElem?_toArray, List.getElem?_cons_zero, List.getElem?_cons_succ] at m0 m1
        have hml : m < wr.heap.size := by
          obtain ⟨_, _, _, _, _, _, hb⟩ := hR.two
          exact hb.lt
        have HB1 := Lib.hid hb1
        have HT1 := Lib.hid hT1
        have HML := Lib.hid hml
        clear hR h21 hb1 hT1
        have hmne : wr.heap.size ≠ m := by omega
        go_wp2_with fail
        refine HS.out.mono ?_
        rintro e w4 ⟨p2, kk2, f2, T2, rfl, hT2, h22, ho2⟩
        have HX := Lib.hid (HO.out.step HA.out (by have := HT1.out; omega) h22 ho2)
        have hb2 := HB1.out.only ho2 (fun e => by rcases e with e | e; exact HO.out.nc e.symm; exact HO.out.ng e.symm)
        have u0 := hb2.cell 0
        have u1 := hb2.cell 1
        have z0 := hb2.frozen 0
        have z1 := hb2.frozen 1
        simp only [List.getElem?_toArray, List.getElem?_cons_zero, List.getElem?_cons_succ] at u0 u1
        clear h22 ho2 hb2 hT2 c0 c1 c2 m0 m1
        go_wp2_with fail
        go_roundw
        case rel => exact ⟨j + 1, by omega, by go_num, HX.out.1⟩
        case measure => simp [intOf]; omega
      · obtain rfl : j = len := by omega
        obtain ⟨p1, kk1, f1, T1, hT1, h21, hb1⟩ := hR.two
        have hml : m < wr.heap.size := hb1.lt
        have hcl := h21.cr.lt
        have m0 := hb1.cell 0
        have m1 := hb1.cell 1
        simp only [List.getElem?_toArray, List.getElem?_cons_zero, List.getElem?_cons_succ] at m0 m1
        have HR := Lib.hid hR
        have HC := Lib.hid (cr_copy c g k N (T1 % N) f1 wr h21.cr)
        have H21 := Lib.hid h21
        have HB1 := Lib.hid hb1
        have HT1 := Lib.hid hT1
        clear hR h21 hb1 hT1 m0 m1
        go_wp2_with fail
        refine HC.out.mono ?_
        rintro e w4 ⟨d, gd, kd, rfl, hd, hgd, hdr, hf4⟩
        have hb4 := HB1.out.fresh hf4
        have m0 := hb4.cell 0
        have m1 := hb4.cell 1
        simp only [List.getElem?_toArray, List.getElem?_cons_zero, List.getElem?_cons_succ] at m0 m1
        have HQ : Hid (CoR w c g k N m p1 kk1 f1 T1 d gd kd w4.heap.size A2 len2 R2 60 (w4.alloc (.cells #[.slice (some ⟨p1, 0, none⟩) N kk1, .int .i64 ((T1 : Nat) : Int)] 31))) := Lib.hid (by
          have hfw := HR.out.fr.trans hf4
          have l1 := hdr.lt
          have l2 := HR.out.fr.size
          have l3 := hf4.size
          have hT := HT1.out
          exact ⟨⟨⟨p1, kk1, f1, T1, by omega, ⟨hdr.fresh (Fresh.alloc _ _), (H21.out.ints.fresh hf4).fresh (Fresh.alloc _ _)⟩, Blk.new _ _ _⟩, HA2.out.fresh (hfw.allocS _), hfw.allocS _, by omega, by omega, by omega, by omega, by omega⟩,
            (H21.out.fresh hf4).fresh (Fresh.alloc _ _), hb4.alloc _, ⟨by omega, by omega, by omega, by omega, by omega, by omega, by omega, by omega, by omega⟩⟩)
        clear hb4 hd hgd hdr hf4 HC HR H21 HB1
        go_wp2_with fail
        generalize w4.heap.size = md at *
        clear m0 m1
        go_loopw [69] (fun i wr => ∃ j : Nat, j ≤ len2 ∧ i = .int .i64 j ∧ CoR w c g k N m p1 kk1 f1 T1 d gd kd md A2 len2 R2 (60 + j) wr) (fun i _ => len2 - (intOf i).toNat)
        case atStart => exact ⟨0, by omega, rfl, HQ.out⟩
        case round =>
          obtain ⟨i, hi, rfl, hR⟩ := hrel
          clear HQ
          by_cases hlt : i < len2
          · obtain ⟨bb, oo, rfl, hbb, hcells⟩ := hR.pl.rows.1 (by omega)
            have c0 := hcells i 0 hlt (by omega)
            have c1 := hcells i 1 hlt (by omega)
            have c2 := hcells i 2 hlt (by omega)
            simp only [Nat.add_zero] at c0
            clear hcells
            generalize hk0 : R2 i 0 = kd0 at *
            generalize hk1 : R2 i 1 = tn at *
            generalize hk2 : R2 i 2 = x at *
            clear hk0 hk1 hk2
            have HR := Lib.hid hR
            have HO := Lib.hid (hR.fresh (Fresh.alloc wr (.cells #[.int .i64 kd0, .int .i64 tn, .int .i64 x] 34)))
            obtain ⟨q1, kq1, e1, U1, hU1, h21, hb1⟩ := HO.out.pl.two
            have HS := Lib.hid (step_any d gd kd N q1 kq1 e1 U1 kd0 tn x _ h21 (by omega))
            have m0 := hb1.cell 0
            have m1 := hb1.cell 1
            simp only [List.getElem?_toArray, List.getElem?_cons_zero, List.getElem?_cons_succ] at m0 m1
            have hml : md < wr.heap.size := by
              obtain ⟨_, _, _, _, _, _, hb⟩ := hR.pl.two
              exact hb.lt
            have HB1 := Lib.hid hb1
            have HU1 := Lib.hid hU1
            clear hR h21 hb1 hU1
            have hmne : wr.heap.size ≠ md := by omega
            go_wp2_with fail
            refine HS.out.mono ?_
            rintro e w5 ⟨q2, kq2, e2, U2, rfl, hU2, h22, ho2⟩
            have HX := Lib.hid (HO.out.step HA2.out (by have := HU1.out; omega) h22 ho2)
            have hb2 := HB1.out.only ho2 (fun e => by rcases e with e | e; exact HO.out.pl.nc e.symm; exact HO.out.pl.ng e.symm)
            have u0 := hb2.cell 0
            have u1 := hb2.cell 1
            have z0 := hb2.frozen 0
            have z1 := hb2.frozen 1
            simp only [List.getElem?_toArray, List.getElem?_cons_zero, List.getElem?_cons_succ] at u0 u1
            clear h22 ho2 hb2 hU2 c0 c1 c2 m0 m1
            go_wp2_with fail
            go_roundw
            case rel => exact ⟨i + 1, by omega, by go_num, HX.out⟩
            case measure => simp [intOf]; omega
          · obtain rfl : i = len2 := by omega
            obtain ⟨q1, kq1, e1, U1, hU1, h21, hb1⟩ := hR.pl.two
            have HR := Lib.hid hR
            have m0 := hR.blk.cell 0
            have m1 := hR.blk.cell 1
            have d0 := hb1.cell 0
            have d1 := hb1.cell 1
            simp only [List.getElem?_toArray, List.getElem?_cons_zero, List.getElem?_cons_succ] at m0 m1 d0 d1
            have H21 := Lib.hid h21
            have HB1 := Lib.hid hb1
            clear hR h21 hb1 hU1
            go_wp2_with fail
            refine (same_any c g k N p1 kk1 f1 T1 _ HR.out.two).mono ?_
            rintro e w6 ⟨rfl, hf6⟩
            have hb6 := HB1.out.fresh hf6
            have d0 := hb6.cell 0
            have d1 := hb6.cell 1
            simp only [List.getElem?_toArray, List.getElem?_cons_zero, List.getElem?_cons_succ] at d0 d1
            have HF6 := Lib.hid hf6
            clear hf6 hb6
            go_wp2_with fail
            refine (same_any d gd kd N q1 kq1 e1 U1 _ (H21.out.fresh HF6.out)).mono ?_
            rintro e w7 ⟨rfl, hf7⟩
            have HF7 := Lib.hid hf7
            clear hf7
            go_wp2_with fail
            refine (cr_awake _).mono ?_
            rintro e w8 ⟨rfl, hf8⟩
            go_wp2_with fail
            go_ret
            exact ⟨rfl, ((HR.out.pl.fr.trans HF6.out).trans HF7.out).trans hf8⟩
  · clear hA hA2
    by_cases c0 : (60 : Int) < len
    · clear hall
      go_enter Try.func6, Try.ntmps6
      go_wp2_with fail
      refine (cr_awake _).mono ?_
      rintro e w5 ⟨rfl, hf5⟩
      go_wp2_with fail
      go_ret
      exact ⟨rfl, hf5⟩
    · have d0 : decide ((60 : Int) < len) = false := by simpa using c0
      by_cases c1 : (60 : Int) < len2
      · clear hall
        go_enter Try.func6, Try.ntmps6
        go_wp2_with fail
        refine (cr_awake _).mono ?_
        rintro e w5 ⟨rfl, hf5⟩
        go_wp2_with fail
        go_ret
        exact ⟨rfl, hf5⟩
      · have d1 : decide ((60 : Int) < len2) = false := by simpa using c1
        by_cases c2 : n < 1
        · clear hall
          go_enter Try.func6, Try.ntmps6
          go_wp2_with fail
          refine (cr_awake _).mono ?_
          rintro e w5 ⟨rfl, hf5⟩
          go_wp2_with fail
          go_ret
          exact ⟨rfl, hf5⟩
        · have d2 : decide (n < 1) = false := by simpa using c2
          have c3 : 64 < n := by omega
          clear hall
          go_enter Try.func6, Try.ntmps6
          go_wp2_with fail
          refine (cr_awake _).mono ?_
          rintro e w5 ⟨rfl, hf5⟩
          go_wp2_with fail
          go_ret
          exact ⟨rfl, hf5⟩
end Go.Proofs.Ytnnciekbmapilaa
