/-
  The law's own helpers of slots, and the document's answers.
-/
import Derived.Test.YtalojmebbccdnaaSlotsW
namespace Go.Proofs.Ytalojmebbccdnaa
set_option linter.unusedVariables false
open Go.RowKit

theorem right_yes (t n : Int) (w : World) (h0 : 0 ≤ t) (h1 : t < 1073741824) (h2 : 1 ≤ n) (h3 : n ≤ 64) :
    Calls Try.prog 10 #[.int .i64 t, .int .i64 n] w fun e w' => e = .returned (.bool true) ∧ w = w' := by
  go_enter Try.func10, Try.ntmps10
  go_wp2
  go_ret
  exact ⟨rfl, rfl⟩
set_option maxHeartbeats 400000 in
theorem right_no (t n : Int) (w : World) (h : ¬ (0 ≤ t ∧ t < 1073741824 ∧ 1 ≤ n ∧ n ≤ 64)) :
    Calls Try.prog 10 #[.int .i64 t, .int .i64 n] w fun e w' => e = .returned (.bool false) ∧ w = w' := by
  by_cases h0 : 0 ≤ t
  · by_cases h1 : t < 1073741824
    · by_cases h2 : 1 ≤ n
      · have h3 : ¬ n ≤ 64 := by omega
        have H3 : decide (n ≤ 64) = false := by simpa using h3
        clear h
        go_enter Try.func10, Try.ntmps10
        go_wp2
        go_ret
        exact ⟨rfl, rfl⟩
      · have H3 : decide (1 ≤ n) = false := by simpa using h2
        clear h
        go_enter Try.func10, Try.ntmps10
        go_wp2
        go_ret
        exact ⟨rfl, rfl⟩
    · have H3 : decide (t < 1073741824) = false := by simpa using h1
      clear h
      go_enter Try.func10, Try.ntmps10
      go_wp2
      go_ret
      exact ⟨rfl, rfl⟩
  · have H3 : decide (0 ≤ t) = false := by simpa using h0
    clear h
    go_enter Try.func10, Try.ntmps10
    go_wp2
    go_ret
    exact ⟨rfl, rfl⟩

theorem c_next : SM.nextOf 2 3 3 = 5 := by decide
theorem c_a7 : SM.ahead 7 0 3 = 3 := by decide
theorem c_a0 : SM.ahead 0 0 3 = 0 := by decide

set_option maxHeartbeats 400000 in
theorem awake_true (w : World) :
    Calls Try.prog 12 #[] w fun e w' => e = .returned (.bool true) ∧ Fresh w w' := by
  go_enter Try.func12, Try.ntmps12
  go_wp2_with fail
  refine (next_yes 2 3 3 _ (by omega) (by omega) (by omega) (by omega) (by omega) (by omega) (by rw [c_next]; omega)).mono ?_
  rw [c_next]
  rintro e w1 ⟨rfl, hf1⟩
  go_wp2_with fail
  refine (owner_yes 5 3 _ (by omega) (by omega) (by omega) (by omega)).mono ?_
  rintro e w2 ⟨rfl, hf2⟩
  go_wp2_with fail
  refine (owner_no (-1) 3 _ (by omega)).mono ?_
  rintro e w3 ⟨rfl, hf3⟩
  go_wp2_with fail
  refine (between_yes 0 7 0 3 _ (by omega) (by omega) (by omega) (by omega) (by omega) (by omega) (by omega)).mono ?_
  rw [c_a7, c_a0]
  rintro e w4 ⟨rfl, hf4⟩
  go_wp2_with fail
  refine (round_yes 7 3 _ (by omega) (by omega) (by omega) (by omega)).mono ?_
  rintro e w5 ⟨rfl, hf5⟩
  go_wp2_with fail
  refine (wait_yes 2 3 4 _ (by omega) (by omega) (by omega) (by omega) (by omega) (by omega)).mono ?_
  rintro e w6 ⟨rfl, hf6⟩
  go_wp2_with fail
  go_ret
  exact ⟨rfl, ((((hf1.trans hf2).trans hf3).trans hf4).trans hf5).trans hf6⟩

set_option maxHeartbeats 400000 in
theorem ref_next (a f n : Int) (w : World) (h0 : 0 ≤ f) (h1 : f < 1073741824) (h2 : 1 ≤ n) (h3 : n ≤ 64) (h4 : 0 ≤ a) (h5 : a < n) :
    Calls Try.prog 14 #[.int .i64 a, .int .i64 f, .int .i64 n] w fun e w' => e = .returned (.int .i64 (SM.nextOf a f n)) ∧ w = w' := by
  have hbd := SM.next_bd a f n h2 h4 h5
  have hmod := SM.next_mod a f n h2 h4 h5
  have hfirst := Lib.hid (fun t => SM.next_first a f n t h2 h4 h5)
  generalize SM.nextOf a f n = nx at *
  have HM := Lib.hid hmod; clear hmod
  go_enter Try.func14, Try.ntmps14
  go_wp2
  go_loop [7] (fun i => ∃ t : Int, f ≤ t ∧ t ≤ nx ∧ i = .int .i64 t) (fun i => (nx - intOf i).toNat)
  case atStart => exact ⟨f, by omega, by omega, rfl⟩
  case round =>
    obtain ⟨t, ht, hl, rfl⟩ := hrel
    by_cases hlt : t < nx
    · have hne := hfirst.out t ht hlt
      have hb : (t % n != a) = true := by simpa using hne
      clear hne
      go_wp2
      go_round
      case rel => exact ⟨t + 1, by omega, by omega, rfl⟩
      case measure => simp [intOf]; omega
    · obtain rfl : t = nx := by omega
      have hb : (t % n != a) = false := by simpa using HM.out
      go_wp2
      go_ret
      exact ⟨rfl, rfl⟩

set_option maxHeartbeats 400000 in
theorem ref_between (f t a n : Int) (w : World) (h0 : 0 ≤ f) (h1 : f ≤ t) (h1' : t < 1073741824) (h2 : 1 ≤ n) (h3 : n ≤ 64) (h4 : 0 ≤ a) (h5 : a < n) :
    Calls Try.prog 16 #[.int .i64 f, .int .i64 t, .int .i64 a, .int .i64 n] w fun e w' => e = .returned (.int .i64 (SM.ahead t a n - SM.ahead f a n)) ∧ w = w' := by
  go_enter Try.func16, Try.ntmps16
  go_wp2
  go_loop [9, 10] (fun c i => ∃ x : Int, f ≤ x ∧ x ≤ t ∧ i = .int .i64 x ∧ c = .int .i64 (SM.ahead x a n - SM.ahead f a n)) (fun _ i => (t - intOf i).toNat)
  case atStart => exact ⟨f, by omega, by omega, rfl, by rw [Int.sub_self]⟩
  case round =>
    obtain ⟨x, hx, hl, rfl, rfl⟩ := hrel
    by_cases hlt : x < t
    · have hs := SM.ahead_succ x a n h2 h4 h5
      have hm := SM.ahead_mono f x a n h2 h4 h5 hx
      have hd := SM.ahead_diff f x a n h2 h4 h5 hx
      by_cases he : x % n = a
      · rw [if_pos he] at hs
        have HS := Lib.hid hs
        have hb : (x % n == a) = true := by simpa using he
        clear hs he
        go_wp2
        go_round
        case rel => exact ⟨x + 1, by omega, by omega, rfl, by rw [HS.out]; exact congrArg (Value.int .i64) (by omega)⟩
        case measure => simp [intOf]; omega
      · rw [if_neg he] at hs
        have HS := Lib.hid hs
        have hb : (x % n == a) = false := by simpa using he
        clear hs he
        go_wp2
        go_round
        case rel => exact ⟨x + 1, by omega, by omega, rfl, by rw [HS.out]; exact congrArg (Value.int .i64) (by omega)⟩
        case measure => simp [intOf]; omega
    · obtain rfl : x = t := by omega
      go_wp2
      go_ret
      exact ⟨rfl, rfl⟩
end Go.Proofs.Ytalojmebbccdnaa
