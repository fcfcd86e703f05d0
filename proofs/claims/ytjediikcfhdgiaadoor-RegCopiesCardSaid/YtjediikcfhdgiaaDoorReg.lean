/-
  Package reg: whose a stream is.
-/
import Derived.Test.YtjediikcfhdgiaaDoorGen
namespace Go.Proofs.YtjediikcfhdgiaaDoor
set_option maxRecDepth 100000
set_option linter.unusedVariables false
set_option linter.unusedSimpArgs false
open Go.RowKit
theorem rg_tick_yes (t : Int) (w : World) (h0 : 0 ≤ t) (h1 : t ≤ 1073741823) : Calls Tryd.prog 30 #[.int .i64 t] w fun e w' => e = .returned (.bool true) ∧ w' = w := by
  go_enter Tryd.func30, Tryd.ntmps30
  go_wp2
  go_ret
  exact ⟨rfl, rfl⟩
theorem rg_tick_no (t : Int) (w : World) (h : ¬ (0 ≤ t ∧ t ≤ 1073741823)) : Calls Tryd.prog 30 #[.int .i64 t] w fun e w' => e = .returned (.bool false) ∧ w' = w := by
  by_cases h0 : 0 ≤ t
  · have d1 : decide (t ≤ 1073741823) = false := decide_eq_false (by omega)
    clear h
    go_enter Tryd.func30, Tryd.ntmps30
    go_wp2
    go_ret
    exact ⟨rfl, rfl⟩
  · have d1 : decide (0 ≤ t) = false := decide_eq_false h0
    clear h
    go_enter Tryd.func30, Tryd.ntmps30
    go_wp2
    go_ret
    exact ⟨rfl, rfl⟩
theorem rg_tens_yes (t : Int) (w : World) (h0 : 1 ≤ t) (h1 : t ≤ 64) : Calls Tryd.prog 22 #[.int .i64 t] w fun e w' => e = .returned (.bool true) ∧ w' = w := by
  go_enter Tryd.func22, Tryd.ntmps22
  go_wp2
  go_ret
  exact ⟨rfl, rfl⟩
theorem rg_tens_no (t : Int) (w : World) (h : ¬ (1 ≤ t ∧ t ≤ 64)) : Calls Tryd.prog 22 #[.int .i64 t] w fun e w' => e = .returned (.bool false) ∧ w' = w := by
  by_cases h0 : 1 ≤ t
  · have d1 : decide (t ≤ 64) = false := decide_eq_false (by omega)
    clear h
    go_enter Tryd.func22, Tryd.ntmps22
    go_wp2
    go_ret
    exact ⟨rfl, rfl⟩
  · have d1 : decide (1 ≤ t) = false := decide_eq_false h0
    clear h
    go_enter Tryd.func22, Tryd.ntmps22
    go_wp2
    go_ret
    exact ⟨rfl, rfl⟩
theorem rg_id_yes (t z : Int) (w : World) (h0 : 0 ≤ t) (h1 : t ≤ 1073741823) (hz : z = 2 * t + 1) : Calls Tryd.prog 15 #[.int .i64 t] w fun e w' => e = .returned (.int .i64 z) ∧ w' = w := by
  subst hz
  have HT := Lib.hid (fun w => rg_tick_yes t w h0 h1)
  go_enter Tryd.func15, Tryd.ntmps15
  go_wp2_with fail
  with_reducible refine (HT.out _).mono ?_
  rintro e w1 ⟨rfl, hw⟩
  obtain rfl : w = w1 := hw.symm
  go_wp2_with fail
  go_ret
  exact ⟨rfl, rfl⟩
theorem rg_id_no (t : Int) (w : World) (h : ¬ (0 ≤ t ∧ t ≤ 1073741823)) : Calls Tryd.prog 15 #[.int .i64 t] w fun e w' => e = .returned (.int .i64 0) ∧ w' = w := by
  have HT := Lib.hid (fun w => rg_tick_no t w h)
  clear h
  go_enter Tryd.func15, Tryd.ntmps15
  go_wp2_with fail
  with_reducible refine (HT.out _).mono ?_
  rintro e w1 ⟨rfl, hw⟩
  obtain rfl : w = w1 := hw.symm
  go_wp2_with fail
  go_ret
  exact ⟨rfl, rfl⟩
/-- A right number. -/
theorem rg_own_yes (t n : Int) (w : World) (h0 : 0 ≤ t) (h1 : t ≤ 1073741823) (h2 : 1 ≤ n) (h3 : n ≤ 64) : Calls Tryd.prog 16 #[.int .i64 (2 * t + 1), .int .i64 n] w fun e w' => e = .returned (.tuple #[.int .i64 (t % n), .bool true]) ∧ w' = w := by
  have HT := Lib.hid (fun w => rg_tens_yes n w h2 h3)
  have d0 : decide ((2 * t + 1) < 1) = false := decide_eq_false (by omega)
  have d1 : decide (2147483647 < (2 * t + 1)) = false := decide_eq_false (by omega)
  have d2 : (2 * t + 1).tmod 2 = 1 := by rw [Int.tmod_eq_emod_of_nonneg (by omega)]; omega
  have d3 : (2 * t + 1 - 1).tdiv 2 = t := by rw [Int.tdiv_eq_ediv_of_nonneg (by omega)]; omega
  have d4 : t.tmod n = t % n := Int.tmod_eq_emod_of_nonneg h0
  have d5 : (2 * t + 1) % 2 = 1 := by omega
  have d6 : (2 * t + 1 - 1) / 2 = t := by omega
  have d7 : 2 * t / 2 = t := by omega
  go_enter Tryd.func16, Tryd.ntmps16
  go_wp2_with fail
  with_reducible refine (HT.out _).mono ?_
  rintro e w1 ⟨rfl, hw⟩
  obtain rfl : w = w1 := hw.symm
  go_wp2_with fail
  go_ret2
  exact ⟨rfl, rfl⟩
theorem rg_own_even (t n : Int) (w : World) (h0 : 0 ≤ t) (h1 : t ≤ 1073741823) : Calls Tryd.prog 16 #[.int .i64 (2 * t + 1 + 1), .int .i64 n] w fun e w' => e = .returned (.tuple #[.int .i64 0, .bool false]) ∧ w' = w := by
  have d0 : decide ((2 * t + 1 + 1) < 1) = false := decide_eq_false (by omega)
  by_cases h : t ≤ 1073741822
  · have d1 : decide (2147483647 < (2 * t + 1 + 1)) = false := decide_eq_false (by omega)
    have d2 : (2 * t + 1 + 1).tmod 2 = 0 := by rw [Int.tmod_eq_emod_of_nonneg (by omega)]; omega
    have d5 : (2 * t + 1 + 1) % 2 = 0 := by omega
    clear h
    go_enter Tryd.func16, Tryd.ntmps16
    go_wp2_with fail
    go_ret2
    exact ⟨rfl, rfl⟩
  · have d1 : 2147483647 < (2 * t + 1 + 1) := by omega
    clear h
    go_enter Tryd.func16, Tryd.ntmps16
    go_wp2_with fail
    go_ret2
    exact ⟨rfl, rfl⟩
theorem rg_own_no (t n : Int) (w : World) (h0 : 0 ≤ t) (h1 : t ≤ 1073741823) (h : ¬ (1 ≤ n ∧ n ≤ 64)) : Calls Tryd.prog 16 #[.int .i64 (2 * t + 1), .int .i64 n] w fun e w' => e = .returned (.tuple #[.int .i64 0, .bool false]) ∧ w' = w := by
  have HT := Lib.hid (fun w => rg_tens_no n w h)
  have d0 : decide ((2 * t + 1) < 1) = false := decide_eq_false (by omega)
  have d1 : decide (2147483647 < (2 * t + 1)) = false := decide_eq_false (by omega)
  have d2 : (2 * t + 1).tmod 2 = 1 := by rw [Int.tmod_eq_emod_of_nonneg (by omega)]; omega
  have d5 : (2 * t + 1) % 2 = 1 := by omega
  clear h
  go_enter Tryd.func16, Tryd.ntmps16
  go_wp2_with fail
  with_reducible refine (HT.out _).mono ?_
  rintro e w1 ⟨rfl, hw⟩
  obtain rfl : w = w1 := hw.symm
  go_wp2_with fail
  go_ret2
  exact ⟨rfl, rfl⟩
end Go.Proofs.YtjediikcfhdgiaaDoor

