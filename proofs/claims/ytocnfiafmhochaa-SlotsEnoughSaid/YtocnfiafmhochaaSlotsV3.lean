/-
  The law SlotsEnough: its walk.
-/
import Derived.Test.YtocnfiafmhochaaSlotsL
import Derived.Deep.QuietTactic
import Derived.BigQuiet
namespace Go.Proofs.Ytocnfiafmhochaa
set_option linter.unusedVariables false
open Go.RowKit
theorem Fresh.drewN (w : World) (n : Nat) : Fresh w (w.drewN n) := by
  induction n with
  | zero => exact Fresh.refl _
  | succ n ih => exact Below.drew ih

set_option maxHeartbeats 800000 in
theorem SlotsEnough_any (f n c q : Int) (w : World) (wf : (Lit.int .i64 f).wf = true) (_ : (Lit.int .i64 n).wf = true) (_ : (Lit.int .i64 c).wf = true) (_ : (Lit.int .i64 q).wf = true) :
    Calls Try.prog 6 #[.agg #[.int .i64 f, .int .i64 n, .int .i64 c, .int .i64 q]] w fun e w' => e = .returned (.bool true) ∧ Below w.heap.size w w' := by
  by_cases hr : 0 ≤ c ∧ c ≤ 1048576 ∧ 0 ≤ q ∧ q ≤ 1048576 ∧ 0 ≤ n ∧ n ≤ 1048576
  · obtain ⟨c0, c1, q0, q1, n0, n1⟩ := hr
    obtain ⟨m0, m1⟩ := mul_bd (c + q) n 2097152 1048576 (by omega) (by omega) n0 n1
    by_cases hA : 0 ≤ f ∧ f < 1073741824 ∧ 1 ≤ n ∧ n ≤ 64
    · obtain ⟨h0, h1, h2, h3⟩ := hA
      by_cases hB : 0 ≤ f + (c + q) * n ∧ f + (c + q) * n < 1073741824 ∧ 1 ≤ n ∧ n ≤ 64
      · obtain ⟨g0, g1, _, _⟩ := hB
        by_cases hz : c + q = 0
        · have HZ := Lib.hid hz
          have hcq : (0 != c + q) = false := by rw [HZ.out]; rfl
          clear hz
          go_enter Try.func6, Try.ntmps6
          go_wp2
          go_quiet (fail)
          go_wp2_with fail
          refine (wait_yes _ _ _ _ c0 c1 q0 q1 n0 n1).mono ?_
          rintro e w1 ⟨rfl, hf1⟩
          go_wp2_with fail
          refine (right_yes _ _ _ h0 h1 h2 h3).mono ?_
          rintro e w2 ⟨rfl, rfl⟩
          go_wp2_with fail
          refine (right_yes _ _ _ g0 g1 h2 h3).mono ?_
          rintro e w2 ⟨rfl, rfl⟩
          go_wp2_with fail
          go_loopw [69] (fun i wr => ∃ k : Nat, (k : Int) ≤ n ∧ i = .int .i64 k ∧ Fresh w wr) (fun i _ => (n - intOf i).toNat)
          case atStart => exact ⟨0, by omega, rfl, ((Fresh.drewN _ _).trans hf1).tA⟩
          case round =>
            obtain ⟨k, hk, rfl, hf⟩ := hrel
            by_cases hlk : (k : Int) < n
            · have H1 := Lib.hid (fun w => between_no f (f + (c + q) * n) k n w (by rw [HZ.out]; omega))
              go_wp2_with fail
              refine (H1.out _).mono ?_
              rintro e w1 ⟨rfl, hf1⟩
              go_wp2_with fail
              go_roundw
              case rel => exact ⟨k + 1, by omega, by go_num, hf.trans hf1⟩
              case measure => simp [intOf]; omega
            · go_wp2_with fail
              refine (awake_true _).mono ?_
              rintro e w3 ⟨rfl, hf3⟩
              go_wp2_with fail
              go_ret
              exact ⟨rfl, hf.trans hf3⟩
        · have hz' : 0 < c + q := by omega
          clear hz
          have hp : 0 < (c + q) * n := Int.mul_pos (by omega) (by omega)
          go_enter Try.func6, Try.ntmps6
          go_wp2
          go_quiet (fail)
          go_wp2_with fail
          refine (wait_yes _ _ _ _ c0 c1 q0 q1 n0 n1).mono ?_
          rintro e w1 ⟨rfl, hf1⟩
          go_wp2_with fail
          refine (right_yes _ _ _ h0 h1 h2 h3).mono ?_
          rintro e w2 ⟨rfl, rfl⟩
          go_wp2_with fail
          refine (right_yes _ _ _ g0 g1 h2 h3).mono ?_
          rintro e w2 ⟨rfl, rfl⟩
          go_wp2_with fail
          go_loopw [69] (fun i wr => ∃ k : Nat, (k : Int) ≤ n ∧ i = .int .i64 k ∧ Fresh w wr) (fun i _ => (n - intOf i).toNat)
          case atStart => exact ⟨0, by omega, rfl, ((Fresh.drewN _ _).trans hf1).tA⟩
          case round =>
            obtain ⟨k, hk, rfl, hf⟩ := hrel
            by_cases hlk : (k : Int) < n
            · have e4 : SM.ahead (f + (c + q) * n) k n - SM.ahead f k n = c + q := by
                have := SM.ahead_add f k n (c + q) h2
                omega
              have H1 := Lib.hid (fun w => between_yes f (f + (c + q) * n) k n w h0 (by omega) (by omega) h2 h3 (by omega) hlk)
              rw [e4] at H1
              clear e4
              go_wp2_with fail
              refine (H1.out _).mono ?_
              rintro e w1 ⟨rfl, hf1⟩
              go_wp2_with fail
              go_roundw
              case rel => exact ⟨k + 1, by omega, by go_num, hf.trans hf1⟩
              case measure => simp [intOf]; omega
            · go_wp2_with fail
              refine (awake_true _).mono ?_
              rintro e w3 ⟨rfl, hf3⟩
              go_wp2_with fail
              go_ret
              exact ⟨rfl, hf.trans hf3⟩
      · have HR := Lib.hid (fun w => right_no (f + (c + q) * n) n w hB)
        clear hB
        go_enter Try.func6, Try.ntmps6
        go_wp2
        go_quiet (fail)
        go_wp2_with fail
        refine (wait_yes _ _ _ _ c0 c1 q0 q1 n0 n1).mono ?_
        rintro e w1 ⟨rfl, hf1⟩
        go_wp2_with fail
        refine (right_yes _ _ _ h0 h1 h2 h3).mono ?_
        rintro e w2 ⟨rfl, rfl⟩
        go_wp2_with fail
        refine (HR.out _).mono ?_
        rintro e w2 ⟨rfl, rfl⟩
        go_wp2_with fail
        refine (awake_true _).mono ?_
        rintro e w3 ⟨rfl, hf3⟩
        go_wp2_with fail
        go_ret
        exact ⟨rfl, ((Fresh.drewN _ _).trans hf1).tA.trans hf3⟩
    · have HR := Lib.hid (fun w => right_no f n w hA)
      clear hA
      go_enter Try.func6, Try.ntmps6
      go_wp2
      go_quiet (fail)
      go_wp2_with fail
      refine (wait_yes _ _ _ _ c0 c1 q0 q1 n0 n1).mono ?_
      rintro e w1 ⟨rfl, hf1⟩
      go_wp2_with fail
      refine (HR.out _).mono ?_
      rintro e w2 ⟨rfl, rfl⟩
      go_wp2_with fail
      refine (awake_true _).mono ?_
      rintro e w3 ⟨rfl, hf3⟩
      go_wp2_with fail
      go_ret
      exact ⟨rfl, ((Fresh.drewN _ _).trans hf1).tA.trans hf3⟩
  · have HW := Lib.hid (fun w => wait_no c q n w hr)
    by_cases g0 : c < 0
    · clear hr
      go_enter Try.func6, Try.ntmps6
      go_wp2
      go_quiet (fail)
      go_wp2_with fail
      refine (HW.out _).mono ?_
      rintro e w1 ⟨rfl, hf1⟩
      go_wp2_with fail
      refine (awake_true _).mono ?_
      rintro e w3 ⟨rfl, hf3⟩
      go_wp2_with fail
      go_ret
      exact ⟨rfl, ((Fresh.drewN _ _).trans hf1).tA.trans hf3⟩
    · skip
      by_cases g1 : q < 0
      · clear hr
        go_enter Try.func6, Try.ntmps6
        go_wp2
        go_quiet (fail)
        go_wp2_with fail
        refine (HW.out _).mono ?_
        rintro e w1 ⟨rfl, hf1⟩
        go_wp2_with fail
        refine (awake_true _).mono ?_
        rintro e w3 ⟨rfl, hf3⟩
        go_wp2_with fail
        go_ret
        exact ⟨rfl, ((Fresh.drewN _ _).trans hf1).tA.trans hf3⟩
      · skip
        by_cases g2 : n < 0
        · clear hr
          go_enter Try.func6, Try.ntmps6
          go_wp2
          go_quiet (fail)
          go_wp2_with fail
          refine (HW.out _).mono ?_
          rintro e w1 ⟨rfl, hf1⟩
          go_wp2_with fail
          refine (awake_true _).mono ?_
          rintro e w3 ⟨rfl, hf3⟩
          go_wp2_with fail
          go_ret
          exact ⟨rfl, ((Fresh.drewN _ _).trans hf1).tA.trans hf3⟩
        · skip
          by_cases g3 : 1048576 < c
          · clear hr
            go_enter Try.func6, Try.ntmps6
            go_wp2
            go_quiet (fail)
            go_wp2_with fail
            refine (HW.out _).mono ?_
            rintro e w1 ⟨rfl, hf1⟩
            go_wp2_with fail
            refine (awake_true _).mono ?_
            rintro e w3 ⟨rfl, hf3⟩
            go_wp2_with fail
            go_ret
            exact ⟨rfl, ((Fresh.drewN _ _).trans hf1).tA.trans hf3⟩
          · skip
            by_cases g4 : 1048576 < q
            · clear hr
              go_enter Try.func6, Try.ntmps6
              go_wp2
              go_quiet (fail)
              go_wp2_with fail
              refine (HW.out _).mono ?_
              rintro e w1 ⟨rfl, hf1⟩
              go_wp2_with fail
              refine (awake_true _).mono ?_
              rintro e w3 ⟨rfl, hf3⟩
              go_wp2_with fail
              go_ret
              exact ⟨rfl, ((Fresh.drewN _ _).trans hf1).tA.trans hf3⟩
            · have g5 : 1048576 < n := by omega
              clear hr
              go_enter Try.func6, Try.ntmps6
              go_wp2
              go_quiet (fail)
              go_wp2_with fail
              refine (HW.out _).mono ?_
              rintro e w1 ⟨rfl, hf1⟩
              go_wp2_with fail
              refine (awake_true _).mono ?_
              rintro e w3 ⟨rfl, hf3⟩
              go_wp2_with fail
              go_ret
              exact ⟨rfl, ((Fresh.drewN _ _).trans hf1).tA.trans hf3⟩
end Go.Proofs.Ytocnfiafmhochaa
