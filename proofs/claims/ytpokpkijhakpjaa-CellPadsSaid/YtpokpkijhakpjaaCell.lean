/-
  Contracts of package cell: numbers, Fill.
-/
import Derived.Test.YtpokpkijhakpjaaFrameA
import Derived.Test.YtpokpkijhakpjaaFrameR2
import Derived.Test.YtpokpkijhakpjaaMake
import Derived.Test.YtpokpkijhakpjaaGen
namespace Go.Proofs.Ytpokpkijhakpjaa
set_option linter.unusedVariables false
open Go.RowKit

theorem ce_right (n : Int) (w : World) :
    Calls Try.prog 25 #[.int .i64 n] w fun e w' => e = .returned (.bool (decide (1 ≤ n ∧ n ≤ 1024))) ∧ w = w' := by
  by_cases h0 : 1 ≤ n
  · by_cases h1 : n ≤ 1024
    · have e : decide (1 ≤ n ∧ n ≤ 1024) = true := by simp [h0, h1]
      rw [e]; clear e
      go_enter Try.func25, Try.ntmps25
      go_wp2_with fail
      go_ret
      exact ⟨rfl, rfl⟩
    · have e : decide (1 ≤ n ∧ n ≤ 1024) = false := by simp [h1]
      have h1' : decide (n ≤ 1024) = false := by simpa using h1
      rw [e]; clear e
      go_enter Try.func25, Try.ntmps25
      go_wp2_with fail
      go_ret
      exact ⟨rfl, rfl⟩
  · have e : decide (1 ≤ n ∧ n ≤ 1024) = false := by simp [h0]
    have h1' : decide (1 ≤ n) = false := by simpa using h0
    rw [e]; clear e
    go_enter Try.func25, Try.ntmps25
    go_wp2_with fail
    go_ret
    exact ⟨rfl, rfl⟩
theorem ce_right_yes (n : Int) (w : World) (h0 : 1 ≤ n) (h1 : n ≤ 1024) : Calls Try.prog 25 #[.int .i64 n] w fun e w' => e = .returned (.bool true) ∧ w = w' := by
  have := ce_right n w
  rwa [show decide (1 ≤ n ∧ n ≤ 1024) = true by simp [h0, h1]] at this
theorem ce_right_no (n : Int) (w : World) (h : ¬ (1 ≤ n ∧ n ≤ 1024)) : Calls Try.prog 25 #[.int .i64 n] w fun e w' => e = .returned (.bool false) ∧ w = w' := by
  have := ce_right n w
  rwa [show decide (1 ≤ n ∧ n ≤ 1024) = false by simpa using h] at this
theorem ce_len_yes (n : Int) (w : World) (h0 : 1 ≤ n) (h1 : n ≤ 1024) : Calls Try.prog 12 #[.int .i64 n] w fun e w' => e = .returned (.int .i64 (n + 18)) ∧ w = w' := by
  go_enter Try.func12, Try.ntmps12
  go_wp2_with fail
  with_reducible refine (ce_right_yes n _ h0 h1).mono ?_
  rintro e w1 ⟨rfl, rfl⟩
  go_wp2_with fail
  go_ret
  exact ⟨rfl, rfl⟩
theorem ce_len_no (n : Int) (w : World) (h : ¬ (1 ≤ n ∧ n ≤ 1024)) : Calls Try.prog 12 #[.int .i64 n] w fun e w' => e = .returned (.int .i64 0) ∧ w = w' := by
  have H := Lib.hid (fun w => ce_right_no n w h)
  clear h
  go_enter Try.func12, Try.ntmps12
  go_wp2_with fail
  with_reducible refine (H.out _).mono ?_
  rintro e w1 ⟨rfl, rfl⟩
  go_wp2_with fail
  go_ret
  exact ⟨rfl, rfl⟩
theorem ce_room_yes (n : Int) (w : World) (h0 : 1 ≤ n) (h1 : n ≤ 1024) : Calls Try.prog 13 #[.int .i64 n] w fun e w' => e = .returned (.int .i64 (n + 9)) ∧ w = w' := by
  go_enter Try.func13, Try.ntmps13
  go_wp2_with fail
  with_reducible refine (ce_right_yes n _ h0 h1).mono ?_
  rintro e w1 ⟨rfl, rfl⟩
  go_wp2_with fail
  go_ret
  exact ⟨rfl, rfl⟩
theorem ce_room_no (n : Int) (w : World) (h : ¬ (1 ≤ n ∧ n ≤ 1024)) : Calls Try.prog 13 #[.int .i64 n] w fun e w' => e = .returned (.int .i64 0) ∧ w = w' := by
  have H := Lib.hid (fun w => ce_right_no n w h)
  clear h
  go_enter Try.func13, Try.ntmps13
  go_wp2_with fail
  with_reducible refine (H.out _).mono ?_
  rintro e w1 ⟨rfl, rfl⟩
  go_wp2_with fail
  go_ret
  exact ⟨rfl, rfl⟩
def cellsK (n c : Int) : Int := if n < 1 ∨ c < 2 then 0 else (n - 1) / (c - 1) + 1
theorem ce_cells (n c : Int) (w : World) (hn : n ≤ 9223372036854775807) (hc : c ≤ 9223372036854775807) : Calls Try.prog 23 #[.int .i64 n, .int .i64 c] w fun e w' => e = .returned (.int .i64 (cellsK n c)) ∧ w = w' := by
  by_cases h0 : n < 1
  · have e : cellsK n c = 0 := if_pos (.inl h0)
    rw [e]; clear e
    go_enter Try.func23, Try.ntmps23
    go_wp2_with fail
    go_ret
    exact ⟨rfl, rfl⟩
  · by_cases h1 : c < 2
    · have e : cellsK n c = 0 := if_pos (.inr h1)
      have h0' : decide (n < 1) = false := by simpa using h0
      rw [e]; clear e
      go_enter Try.func23, Try.ntmps23
      go_wp2_with fail
      go_ret
      exact ⟨rfl, rfl⟩
    · have e : cellsK n c = (n - 1) / (c - 1) + 1 := if_neg (by omega)
      have h0' : decide (n < 1) = false := by simpa using h0
      have h1' : decide (c < 2) = false := by simpa using h1
      have d0 := Int.ediv_nonneg (show (0 : Int) ≤ n - 1 by omega) (show (0 : Int) ≤ c - 1 by omega)
      have d1 := Int.ediv_le_self (c - 1) (show (0 : Int) ≤ n - 1 by omega)
      have hn0 : ¬ (c - 1) = 0 := by omega
      have hn1 : 0 < c - 1 := by omega
      have hn2 : 0 ≤ n - 1 := by omega
      have hq : (n - 1).tdiv (c - 1) = (n - 1) / (c - 1) := Int.tdiv_eq_ediv_of_nonneg hn2
      rw [e]; clear e h0 h1
      go_enter Try.func23, Try.ntmps23
      go_wp2_with fail
      go_ret
      exact ⟨rfl, rfl⟩
end Go.Proofs.Ytpokpkijhakpjaa
