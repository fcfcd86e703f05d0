/-
  The law CreditPlays: its walk.
-/
import Derived.Test.YtnnciekbmapilaaCredit8
import Derived.Test.YtnnciekbmapilaaOpen
namespace Go.Proofs.Ytnnciekbmapilaa
set_option linter.unusedVariables false
open Go.RowKit

theorem Two.fresh {w w' : World} {c g k n p kk T : Nat} {f : Nat → Int} (h : Two w c g k n p kk f T) (hf : Fresh w w') : Two w' c g k n p kk f T := ⟨h.cr.fresh hf, h.ints.fresh hf⟩
theorem Two.only {S : Nat → Prop} {w w' : World} {c g k n p kk T : Nat} {f : Nat → Int} (h : Two w c g k n p kk f T) (ho : Only S w w') (h1 : ¬ S c) (h2 : ¬ S g) (h3 : ¬ S p) : Two w' c g k n p kk f T := ⟨h.cr.only ho h1 h2, h.ints.only ho h3⟩
theorem Ints.ne_cr {w : World} {c g k n p kk m t : Nat} {f f' : Nat → Int} (h : Ints w p m kk f') (hc : Cr w c g k n f t) : p ≠ c ∧ p ≠ g := by
  refine ⟨fun e => ?_, fun e => ?_⟩
  · exact h.ne hc.blk (by decide) e.symm
  · obtain ⟨cur, _, _, _, hb, _⟩ := hc.prt
    exact h.ne hb (by decide) e.symm
/-- The loop's state: the model's block is m. -/
structure PlR (w : World) (c g k n m : Nat) (A : Option Addr) (len : Nat) (R : Nat → Nat → Int) (j : Nat) (wr : World) : Prop where
  two : ∃ p kk f T, T ≤ j ∧ Two wr c g k n p kk f T ∧ Blk wr m 31 #[.slice (some ⟨p, 0, none⟩) n kk, .int .i64 ((T : Nat) : Int)]
  rows : IntRows wr 3 A len R
  fr : Fresh w wr
  hc : w.heap.size ≤ c
  hg : w.heap.size ≤ g
  hm : w.heap.size ≤ m
  nc : c ≠ m
  ng : g ≠ m
theorem PlR.fresh {w wr wx : World} {c g k n m : Nat} {A : Option Addr} {len : Nat} {R : Nat → Nat → Int} {j : Nat} (h : PlR w c g k n m A len R j wr) (hf : Fresh wr wx) : PlR w c g k n m A len R j wx := by
  obtain ⟨⟨p, kk, f, T, hT, h2, hb⟩, hr, hfr, hc, hg, hm, nc, ng⟩ := h
  exact ⟨⟨p, kk, f, T, hT, h2.fresh hf, hb.fresh hf⟩, hr.fresh hf, hfr.trans hf, hc, hg, hm, nc, ng⟩
theorem rows_below {w w' : World} {A : Option Addr} {len : Nat} {R : Nat → Nat → Int} (h : IntRows w 3 A len R) (hf : Fresh w w') : IntRows w' 3 A len R := h.fresh hf
/-- A step of both, and the model laid back. -/
theorem PlR.step {w wr wx : World} {c g k n m : Nat} {A : Option Addr} {len : Nat} {R : Nat → Nat → Int} {j p kk T : Nat} {f : Nat → Int} (h : PlR w c g k n m A len R j wr) (hA : IntRows w 3 A len R) (hT : T ≤ j + 1) (h2 : Two wx c g k n p kk f T) (ho : Only (fun i => i = c ∨ i = g) wr wx) :
    PlR w c g k n m A len R (j + 1) ((wx.setCell ⟨m, 0, none⟩ (.slice (some ⟨p, 0, none⟩) n kk)).setCell ⟨m, 1, none⟩ (.int .i64 ((T : Nat) : Int))) ∧ Two ((wx.setCell ⟨m, 0, none⟩ (.slice (some ⟨p, 0, none⟩) n kk)).setCell ⟨m, 1, none⟩ (.int .i64 ((T : Nat) : Int))) c g k n p kk f T := by
  obtain ⟨⟨p0, kk0, f0, T0, hT0, _, hb⟩, hr, hfr, hc, hg, hm, nc, ng⟩ := h
  have hb1 := hb.only ho (fun e => by rcases e with e | e; exact nc e.symm; exact ng e.symm)
  have hpm : p ≠ m := fun e => by subst e; exact h2.ints.ne hb1 (by decide) rfl
  have ho2 : Only (· = m) wx ((wx.setCell ⟨m, 0, none⟩ (.slice (some ⟨p, 0, none⟩) n kk)).setCell ⟨m, 1, none⟩ (.int .i64 ((T : Nat) : Int))) := (Only.setCell wx ⟨m, 0, none⟩ _).trans (Only.setCell _ ⟨m, 1, none⟩ _)
  have hf2 : Fresh w ((wx.setCell ⟨m, 0, none⟩ (.slice (some ⟨p, 0, none⟩) n kk)).setCell ⟨m, 1, none⟩ (.int .i64 ((T : Nat) : Int))) :=
    Only.fresh (S := fun i => w.heap.size ≤ i) (((Only.of_fresh hfr).trans (ho.mono (fun i e => by rcases e with rfl | rfl; exact hc; exact hg)) ).trans (ho2.mono (fun i e => by rw [e]; exact hm))) (fun i hi e => by omega)
  refine ⟨⟨⟨p, kk, f, T, hT, h2.only ho2 nc ng hpm, ?_⟩, rows_below hA hf2, hf2, hc, hg, hm, nc, ng⟩, h2.only ho2 nc ng hpm⟩
  simpa using (hb1.set 0 (.slice (some ⟨p, 0, none⟩) n kk)).set 1 (.int .i64 ((T : Nat) : Int))
set_option maxHeartbeats 3200000 in
theorem CreditPlays_any (n : Int) (A : Option Addr) (len cap : Nat) (R : Nat → Nat → Int) (w : World) (_ : (Lit.int .i64 n).wf = true) (hlen : len ≤ maxLen) (hA : IntRows w 3 A len R) :
    Calls Try.prog 3 #[.int .i64 n, .slice A len cap] w fun e w' => e = .returned (.bool true) ∧ Below w.heap.size w w' := by
  unfold maxLen at hlen
  by_cases hl : len ≤ 100
  · by_cases hn : 1 ≤ n ∧ n ≤ 64
    · obtain ⟨h1, h2⟩ := hn
      obtain ⟨N, rfl⟩ : ∃ N : Nat, n = (N : Int) := ⟨n.toNat, by omega⟩
      have n1 : 1 ≤ N := by omega
      have n2 : N ≤ 64 := by omega
      have HA := Lib.hid hA
      clear hA h1 h2
      have a1 : decide ((N : Int) < 1) = false := by simp; omega
      have a2 : decide (64 < (N : Int)) = false := by simp; omega
      go_enter Try.func3, Try.ntmps3
      go_wp2_with fail
      with_reducible refine (cr_new_yes N _ n1 n2).mono ?_
      rintro e w1 ⟨c, g, k, rfl, hc, hg, hcr, hf1⟩
      have HCR := Lib.hid hcr
      have HF1 := Lib.hid hf1
      have HCG := Lib.hid (And.intro hc hg)
      clear hcr hf1 hc hg
      go_wp2_with fail
      with_reducible refine (ref_first N _ n1 n2).mono ?_
      rintro e w2 ⟨p, kk, rfl, hp, hi, hf2⟩
      have HT0 : Hid (Two w2 c g k N p kk (part 65535 N) 0) := Lib.hid ⟨by rw [Nat.zero_mod]; exact HCR.out.fresh hf2, hi⟩
      have HF2 := Lib.hid (HF1.out.trans hf2)
      clear hi hp hf2
      go_wp2_with fail
      have HR : Hid (PlR w c g k N w2.heap.size A len R 0 (w2.alloc (.cells #[.slice (some ⟨p, 0, none⟩) N kk, .int .i64 0] 31))) := Lib.hid
        ⟨⟨p, kk, _, 0, by omega, HT0.out.fresh (Fresh.alloc _ _), Blk.new _ _ _⟩, HA.out.fresh (HF2.out.allocS _), HF2.out.allocS _, HCG.out.1, HCG.out.2, HF2.out.size, by have := HT0.out.cr.lt; omega, by have := HT0.out.cr.lt; omega⟩
      have HT1 := Lib.hid (HT0.out.fresh (Fresh.alloc w2 (.cells #[.slice (some ⟨p, 0, none⟩) N kk, .int .i64 0] 31)))
      refine (same_any c g k N p kk (part 65535 N) 0 _ HT1.out).mono ?_
      rintro e w3 ⟨rfl, hf3⟩
      have HR3 := Lib.hid (HR.out.fresh hf3)
      clear hf3 HR HT1 HT0 HCR HCG HF1 HF2
      go_wp2_with fail
      generalize w2.heap.size = m at *
      go_loopw [50] (fun i wr => ∃ j : Nat, j ≤ len ∧ i = .int .i64 j ∧ PlR w c g k N m A len R j wr) (fun i _ => len - (intOf i).toNat)
      case atStart => exact ⟨0, by omega, rfl, HR3.out⟩
      case round =>
        obtain ⟨j, hj, rfl, hR⟩ := hrel
        clear HR3
        by_cases hlt : j < len
        · obtain ⟨bb, oo, rfl, hbb, hcells⟩ := hR.rows.1 (by omega)
          have c0 := hcells j 0 hlt (by omega)
          have c1 := hcells j 1 hlt (by omega)
          have c2 := hcells j 2 hlt (by omega)
          simp only [Nat.add_zero] at c0
          clear hcells
          generalize hk0 : R j 0 = kd at *
          generalize hk1 : R j 1 = tn at *
          generalize hk2 : R j 2 = x at *
          clear hk0 hk1 hk2
          have HR := Lib.hid hR
          have HO := Lib.hid (hR.fresh (Fresh.alloc wr (.cells #[.int .i64 kd, .int .i64 tn, .int .i64 x] 34)))
          obtain ⟨p1, kk1, f1, T1, hT1, h21, hb1⟩ := HO.out.two
          have HB : Hid (Blk (wr.alloc (.cells #[.int .i64 kd, .int .i64 tn, .int .i64 x] 34)) wr.heap.size 34 #[.int .i64 kd, .int .i64 tn, .int .i64 x]) := Lib.hid (Blk.new _ _ _)
          have HS := Lib.hid (step_any c g k N p1 kk1 f1 T1 kd tn x _ h21 (by omega))
          have m0 := hb1.cell 0
          have m1 := hb1.cell 1
          simp only [List.getElem?_toArray, List.getElem?_cons_zero, List.getElem?_cons_succ] at m0 m1
          have hml : m < wr.heap.size := by
            obtain ⟨_, _, _, _, _, _, hb⟩ := hR.two
            exact hb.lt
          have HB1 := Lib.hid hb1
          have HT1 := Lib.hid hT1
          have HML := Lib.hid hml
          clear hR h21 hb1 hT1
          have hmne : wr.heap.size ≠ m := by omega
          go_wp2_with fail
          refine HS.out.mono ?_
          rintro e w4 ⟨p2, kk2, f2, T2, rfl, hT2, h22, ho2⟩
          have HX := Lib.hid (HO.out.step HA.out (by have := HT1.out; omega) h22 ho2)
          have hb2 := HB1.out.only ho2 (fun e => by rcases e with e | e; exact HO.out.nc e.symm; exact HO.out.ng e.symm)
          have u0 := hb2.cell 0
          have u1 := hb2.cell 1
          have z0 := hb2.frozen 0
          have z1 := hb2.frozen 1
          simp only [List.getElem?_toArray, List.getElem?_cons_zero, List.getElem?_cons_succ] at u0 u1
          clear h22 ho2 hb2 hT2 c0 c1 c2 m0 m1
          go_wp2_with fail
          refine (same_any c g k N p2 kk2 f2 T2 _ HX.out.2).mono ?_
          rintro e w5 ⟨rfl, hf5⟩
          have HY := Lib.hid (HX.out.1.fresh hf5)
          clear hf5 HX
          go_wp2_with fail
          go_roundw
          case rel => exact ⟨j + 1, by omega, by go_num, HY.out⟩
          case measure => simp [intOf]; omega
        · obtain rfl : j = len := by omega
          have HF := Lib.hid hR.fr
          clear hR
          go_wp2_with fail
          refine (cr_awake _).mono ?_
          rintro e w5 ⟨rfl, hf5⟩
          go_wp2_with fail
          go_ret
          exact ⟨rfl, HF.out.trans hf5⟩
    · have H := Lib.hid (fun w => cr_new_no n w hn)
      clear hA
      by_cases h1 : n < 1
      · clear hn
        go_enter Try.func3, Try.ntmps3
        go_wp2_with fail
        refine (H.out _).mono ?_
        rintro e w1 ⟨rfl, rfl⟩
        go_wp2_with fail
        refine (cr_awake _).mono ?_
        rintro e w5 ⟨rfl, hf5⟩
        go_wp2_with fail
        go_ret
        exact ⟨rfl, hf5⟩
      · have h2 : 64 < n := by omega
        clear hn
        go_enter Try.func3, Try.ntmps3
        go_wp2_with fail
        refine (H.out _).mono ?_
        rintro e w1 ⟨rfl, rfl⟩
        go_wp2_with fail
        refine (cr_awake _).mono ?_
        rintro e w5 ⟨rfl, hf5⟩
        go_wp2_with fail
        go_ret
        exact ⟨rfl, hf5⟩
  · clear hA
    go_enter Try.func3, Try.ntmps3
    go_wp2_with fail
    refine (cr_awake _).mono ?_
    rintro e w5 ⟨rfl, hf5⟩
    go_wp2_with fail
    go_ret
    exact ⟨rfl, hf5⟩
end Go.Proofs.Ytnnciekbmapilaa
