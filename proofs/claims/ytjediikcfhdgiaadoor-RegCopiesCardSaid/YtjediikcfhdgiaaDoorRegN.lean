/-
  The law RegCopies: its walk.
-/
import Derived.Test.YtjediikcfhdgiaaDoorRegM
import Derived.Test.YtjediikcfhdgiaaDoorRegJ
namespace Go.Proofs.YtjediikcfhdgiaaDoor
set_option maxRecDepth 100000
set_option linter.unusedVariables false
set_option linter.unusedSimpArgs false
open Go.RowKit Go.Maps
theorem rg_new_no (a b : Int) (w : World) (h : ¬ (1 ≤ a ∧ a ≤ 64 ∧ 1 ≤ b ∧ b ≤ 65536)) : Calls Tryd.prog 9 #[.int .i64 a, .int .i64 b] w fun e w' => e = .returned (.tuple #[.pointer none, .int .i64 11]) ∧ w' = w := by
  by_cases ha : 1 ≤ a ∧ a ≤ 64
  · have HT := Lib.hid (fun w => rg_tens_yes a w ha.1 ha.2)
    by_cases hb : b < 1
    · have d0 : decide (b < 1) = true := decide_eq_true hb
      clear h ha
      go_enter Tryd.func9, Tryd.ntmps9
      go_wp2_with fail
      with_reducible refine (HT.out _).mono ?_
      rintro e w1 ⟨rfl, hw⟩
      obtain rfl : w = w1 := hw.symm
      go_wp2_with fail
      go_ret2
      exact ⟨rfl, rfl⟩
    · have d0 : decide (b < 1) = false := decide_eq_false hb
      have d1 : decide (65536 < b) = true := decide_eq_true (by omega)
      clear h ha
      go_enter Tryd.func9, Tryd.ntmps9
      go_wp2_with fail
      with_reducible refine (HT.out _).mono ?_
      rintro e w1 ⟨rfl, hw⟩
      obtain rfl : w = w1 := hw.symm
      go_wp2_with fail
      go_ret2
      exact ⟨rfl, rfl⟩
  · have HT := Lib.hid (fun w => rg_tens_no a w ha)
    clear h ha
    go_enter Tryd.func9, Tryd.ntmps9
    go_wp2_with fail
    with_reducible refine (HT.out _).mono ?_
    rintro e w1 ⟨rfl, hw⟩
    obtain rfl : w = w1 := hw.symm
    go_wp2_with fail
    go_ret2
    exact ⟨rfl, rfl⟩
/-- The first loop: a list of the document's beside the registry (like PlR, in a world of its own). -/
def RcP (w : World) (e : Ending) (w' : World) : Prop := e = .returned (.bool true) ∧ Fresh w w'
set_option maxHeartbeats 25600000 in
theorem copies_no (z : CaseR) (A2 : Option Addr) (l2 c2 : Nat) (w : World) (hz : z.Ok w) (hT : Tbl w) (hno : ¬ (1 ≤ z.a ∧ z.a ≤ 64 ∧ 1 ≤ z.b ∧ z.b ≤ 65536)) : Calls Tryd.prog 6 #[z.v, .slice A2 l2 c2] w (RcP w) := by
  have HFIN : Hid (∀ W, Fresh w W → RcP w (.returned (.bool true)) W) := Lib.hid (fun W h => ⟨rfl, h⟩)
  have HAW := Lib.hid (fun W (hf : Fresh w W) => rg_awake W (hT.fresh hf))
  clear hz hT
  generalize RcP w = PP at *
  obtain ⟨a, b, A, cc, xs⟩ := z
  unfold CaseR.v CaseR.arr
  simp only at hno ⊢
  obtain ⟨m, hm⟩ : ∃ m, xs.length = m := ⟨_, rfl⟩
  rw [hm]
  clear hm
  have HNW := Lib.hid (fun W => rg_new_no a b W hno)
  have hc : a < 1 ∨ (1 ≤ a ∧ 64 < a) ∨ (1 ≤ a ∧ a ≤ 64 ∧ b < 1) ∨ (1 ≤ a ∧ a ≤ 64 ∧ 1 ≤ b ∧ 65536 < b) := by omega
  clear hno
  go_enter Tryd.func6, Tryd.ntmps6
  go_upto_region 1 with fail
  obtain ⟨b0, hb0⟩ : ∃ b0, w.heap.size = b0 := ⟨_, rfl⟩
  rw [hb0]
  refine wp_gen (fun W => Fresh w W ∧ Blk W b0 24 #[.int .i64 a, .int .i64 b, .slice A m cc]) ⟨Fresh.alloc _ _, Blk.mkAt hb0⟩ ?_
  clear hb0
  rintro W ⟨hf0, hz0⟩
  have HF0 := Lib.hid hf0
  obtain ⟨z0, z1, z2⟩ := hz0.c3
  clear hf0 hz0
  go_wp2_with fail
  with_reducible refine (HNW.out _).mono ?_
  rintro e w1 ⟨rfl, hw⟩
  obtain rfl : W = w1 := hw.symm
  rcases hc with h | ⟨h0, h⟩ | ⟨h0, h1, h⟩ | ⟨h0, h1, h2, h⟩
  · have d0 : decide (a < 1) = true := decide_eq_true h
    clear h
    go_wp2_with fail
    with_reducible refine (HAW.out _ HF0.out).mono ?_
    rintro e w2 ⟨rfl, hf2⟩
    have HX := Lib.hid (HFIN.out _ (HF0.out.trans hf2))
    clear hf2
    go_wp2_with fail
    exact HX.out
  · have d0 : decide (a < 1) = false := decide_eq_false (by omega)
    have d1 : decide (64 < a) = true := decide_eq_true h
    clear h0 h
    go_wp2_with fail
    with_reducible refine (HAW.out _ HF0.out).mono ?_
    rintro e w2 ⟨rfl, hf2⟩
    have HX := Lib.hid (HFIN.out _ (HF0.out.trans hf2))
    clear hf2
    go_wp2_with fail
    exact HX.out
  · have d0 : decide (a < 1) = false := decide_eq_false (by omega)
    have d1 : decide (64 < a) = false := decide_eq_false (by omega)
    have d2 : decide (b < 1) = true := decide_eq_true h
    clear h0 h1 h
    go_wp2_with fail
    with_reducible refine (HAW.out _ HF0.out).mono ?_
    rintro e w2 ⟨rfl, hf2⟩
    have HX := Lib.hid (HFIN.out _ (HF0.out.trans hf2))
    clear hf2
    go_wp2_with fail
    exact HX.out
  · have d0 : decide (a < 1) = false := decide_eq_false (by omega)
    have d1 : decide (64 < a) = false := decide_eq_false (by omega)
    have d2 : decide (b < 1) = false := decide_eq_false (by omega)
    have d3 : decide (65536 < b) = true := decide_eq_true h
    clear h0 h1 h2 h
    go_wp2_with fail
    with_reducible refine (HAW.out _ HF0.out).mono ?_
    rintro e w2 ⟨rfl, hf2⟩
    have HX := Lib.hid (HFIN.out _ (HF0.out.trans hf2))
    clear hf2
    go_wp2_with fail
    exact HX.out
end Go.Proofs.YtjediikcfhdgiaaDoor

