/-
  The laws of windows: their walks.
-/
import Derived.Test.YtdcifbkdibnoaaaWindowL
import Derived.Test.YtdcifbkdibnoaaaOpen
namespace Go.Proofs.Ytdcifbkdibnoaaa
set_option linter.unusedVariables false
open Go.RowKit

theorem ref_step (n k a b : Int) (w : World) (h0 : -2147483648 ≤ n) (h1 : n ≤ 2147483647) :
    Calls Try.prog 14 #[.int .i64 n, .int .i64 k, .int .i64 a, .int .i64 b] w fun e w' => e = .returned (.tuple #[.int .i64 (stepF n k a b).1, .int .i64 (stepF n k a b).2]) ∧ w = w' := by
  by_cases hk : k = 3
  · subst hk
    by_cases c1 : a < 0
    · have e : stepF n 3 a b = (n, 11) := by unfold stepF; rw [if_pos rfl, if_pos (by omega)]
      rw [e]; clear e
      go_enter Try.func14, Try.ntmps14
      go_wp2
      go_ret2
      exact ⟨rfl, rfl⟩
    · by_cases c2 : 2147483647 < a
      · have e : stepF n 3 a b = (n, 11) := by unfold stepF; rw [if_pos rfl, if_pos (by omega)]
        rw [e]; clear e
        go_enter Try.func14, Try.ntmps14
        go_wp2
        go_ret2
        exact ⟨rfl, rfl⟩
      · by_cases c3 : b < 0
        · have e : stepF n 3 a b = (n, 11) := by unfold stepF; rw [if_pos rfl, if_pos (by omega)]
          rw [e]; clear e
          go_enter Try.func14, Try.ntmps14
          go_wp2
          go_ret2
          exact ⟨rfl, rfl⟩
        · by_cases c4 : 2147483647 < b
          · have e : stepF n 3 a b = (n, 11) := by unfold stepF; rw [if_pos rfl, if_pos (by omega)]
            rw [e]; clear e
            go_enter Try.func14, Try.ntmps14
            go_wp2
            go_ret2
            exact ⟨rfl, rfl⟩
          · by_cases c5 : 2147483647 < n + b - a
            · have e : stepF n 3 a b = (n, 103) := by unfold stepF; rw [if_pos rfl, if_neg (by omega), if_pos c5]
              rw [e]; clear e
              go_enter Try.func14, Try.ntmps14
              go_wp2
              go_ret2
              exact ⟨rfl, rfl⟩
            · by_cases c6 : n + b - a < -2147483648
              · have e : stepF n 3 a b = (n, 11) := by unfold stepF; rw [if_pos rfl, if_neg (by omega), if_neg c5, if_pos c6]
                rw [e]; clear e
                go_enter Try.func14, Try.ntmps14
                go_wp2
                go_ret2
                exact ⟨rfl, rfl⟩
              · have e : stepF n 3 a b = (n + b - a, 0) := by unfold stepF; rw [if_pos rfl, if_neg (by omega), if_neg c5, if_neg c6]
                rw [e]; clear e
                go_enter Try.func14, Try.ntmps14
                go_wp2
                go_ret2
                exact ⟨rfl, rfl⟩
  · have hk3 : (k == 3) = false := by simpa using hk
    by_cases c1 : a < 0
    · have e : stepF n k a b = (n, 11) := by unfold stepF; rw [if_neg hk, if_pos (by omega)]
      rw [e]; clear e hk
      go_enter Try.func14, Try.ntmps14
      go_wp2
      go_ret2
      exact ⟨rfl, rfl⟩
    · by_cases c2 : 2147483647 < a
      · have e : stepF n k a b = (n, 11) := by unfold stepF; rw [if_neg hk, if_pos (by omega)]
        rw [e]; clear e hk
        go_enter Try.func14, Try.ntmps14
        go_wp2
        go_ret2
        exact ⟨rfl, rfl⟩
      · by_cases hk1 : k = 1
        · subst hk1
          clear hk hk3
          by_cases c3 : a = 0
          · have e : stepF n 1 a b = (n, 11) := by unfold stepF; rw [if_neg (by omega), if_neg (by omega), if_pos rfl, if_pos c3]
            rw [e]; clear e
            have c3' : (a == 0) = true := by simpa using c3
            clear c3
            go_enter Try.func14, Try.ntmps14
            go_wp2
            go_ret2
            exact ⟨rfl, rfl⟩
          · have c3' : (a == 0) = false := by simpa using c3
            by_cases c4 : 2147483647 < n + a
            · have e : stepF n 1 a b = (n, 103) := by unfold stepF; rw [if_neg (by omega), if_neg (by omega), if_pos rfl, if_neg c3, if_pos c4]
              rw [e]; clear e c3
              go_enter Try.func14, Try.ntmps14
              go_wp2
              go_ret2
              exact ⟨rfl, rfl⟩
            · have e : stepF n 1 a b = (n + a, 0) := by unfold stepF; rw [if_neg (by omega), if_neg (by omega), if_pos rfl, if_neg c3, if_neg c4]
              rw [e]; clear e c3
              go_enter Try.func14, Try.ntmps14
              go_wp2
              go_ret2
              exact ⟨rfl, rfl⟩
        · have hk1' : (k == 1) = false := by simpa using hk1
          by_cases c3 : 0 < a
          · by_cases c4 : n < a
            · have e : stepF n k a b = (n, 15) := by unfold stepF; rw [if_neg hk, if_neg (by omega), if_neg hk1, if_pos ⟨c3, c4⟩]
              rw [e]; clear e hk hk1
              go_enter Try.func14, Try.ntmps14
              go_wp2
              go_ret2
              exact ⟨rfl, rfl⟩
            · have e : stepF n k a b = (n - a, 0) := by unfold stepF; rw [if_neg hk, if_neg (by omega), if_neg hk1, if_neg (by omega)]
              rw [e]; clear e hk hk1
              have c4' : decide (n < a) = false := by simpa using c4
              go_enter Try.func14, Try.ntmps14
              go_wp2
              go_ret2
              exact ⟨rfl, rfl⟩
          · have e : stepF n k a b = (n - a, 0) := by unfold stepF; rw [if_neg hk, if_neg (by omega), if_neg hk1, if_neg (by omega)]
            rw [e]; clear e hk hk1
            have c3' : decide (0 < a) = false := by simpa using c3
            go_enter Try.func14, Try.ntmps14
            go_wp2
            go_ret2
            exact ⟨rfl, rfl⟩

set_option maxHeartbeats 800000 in
theorem WindowOwed_any (g k l : Int) (w : World) (_ : (Lit.int .i64 g).wf = true) (_ : (Lit.int .i64 k).wf = true) (_ : (Lit.int .i64 l).wf = true) :
    Calls Try.prog 7 #[.int .i64 g, .int .i64 k, .int .i64 l] w fun e w' => e = .returned (.bool true) ∧ Below w.heap.size w w' := by
  by_cases c1 : g < 0
  · go_enter Try.func7, Try.ntmps7
    go_wp2_with fail
    refine (awake_true _).mono ?_
    rintro e w1 ⟨rfl, hf⟩
    go_wp2_with fail
    go_ret
    exact ⟨rfl, hf⟩
  · by_cases c2 : k < 0
    · go_enter Try.func7, Try.ntmps7
      go_wp2_with fail
      refine (awake_true _).mono ?_
      rintro e w1 ⟨rfl, hf⟩
      go_wp2_with fail
      go_ret
      exact ⟨rfl, hf⟩
    · by_cases c3 : 1099511627776 < g
      · go_enter Try.func7, Try.ntmps7
        go_wp2_with fail
        refine (awake_true _).mono ?_
        rintro e w1 ⟨rfl, hf⟩
        go_wp2_with fail
        go_ret
        exact ⟨rfl, hf⟩
      · by_cases c4 : 1099511627776 < k
        · go_enter Try.func7, Try.ntmps7
          go_wp2_with fail
          refine (awake_true _).mono ?_
          rintro e w1 ⟨rfl, hf⟩
          go_wp2_with fail
          go_ret
          exact ⟨rfl, hf⟩
        · have H := Lib.hid (fun w => owed_any g k l w (by omega) (by omega) (by omega) (by omega))
          by_cases c5 : g - k < 1
          · rw [if_pos (.inl c5)] at H
            go_enter Try.func7, Try.ntmps7
            go_wp2_with fail
            refine (H.out _).mono ?_
            rintro e w1 ⟨rfl, rfl⟩
            go_wp2_with fail
            refine (awake_true _).mono ?_
            rintro e w1 ⟨rfl, hf⟩
            go_wp2_with fail
            go_ret
            exact ⟨rfl, hf⟩
          · by_cases c6 : g - k < l
            · rw [if_pos (.inr c6)] at H
              go_enter Try.func7, Try.ntmps7
              go_wp2_with fail
              refine (H.out _).mono ?_
              rintro e w1 ⟨rfl, rfl⟩
              go_wp2_with fail
              refine (awake_true _).mono ?_
              rintro e w1 ⟨rfl, hf⟩
              go_wp2_with fail
              go_ret
              exact ⟨rfl, hf⟩
            · rw [if_neg (by omega)] at H
              have H2 := Lib.hid (fun w => owed_any g (k + (g - k)) l w (by omega) (by omega) (by omega) (by omega))
              rw [if_pos (.inl (by omega))] at H2
              rw [show k + (g - k) = g by omega] at H2
              have c6' : decide (g - k < l) = false := by simpa using c6
              have e1 : k + (g - k) = g := by omega
              go_enter Try.func7, Try.ntmps7
              go_wp2_with fail
              refine (H.out _).mono ?_
              rintro e w1 ⟨rfl, rfl⟩
              go_wp2_with fail
              refine (H2.out _).mono ?_
              rintro e w1 ⟨rfl, rfl⟩
              go_wp2_with fail
              refine (awake_true _).mono ?_
              rintro e w1 ⟨rfl, hf⟩
              go_wp2_with fail
              go_ret
              exact ⟨rfl, hf⟩

theorem new_win {w w1 : World} (hf : Fresh w w1) (n : Int) (h0 : -2147483648 ≤ n) (h1 : n ≤ 2147483647) :
    WIs (w1.alloc (.cells #[.int .i64 n] 25)) w1.heap.size n := ⟨Blk.new _ _ _, h0, h1⟩

theorem WPost.below {b : Nat} {w0 w w' : World} (h : Below b w0 w) (ho : Only (· = b) w w') (hb : b < w.heap.size) : Below b w0 w' :=
  h.trans (ho.below (by omega) (fun k hk => by omega))
end Go.Proofs.Ytdcifbkdibnoaaa
