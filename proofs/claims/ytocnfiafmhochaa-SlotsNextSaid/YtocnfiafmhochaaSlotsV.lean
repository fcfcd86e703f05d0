/-
  The laws of slots: their walks.
-/
import Derived.Test.YtocnfiafmhochaaSlotsL
namespace Go.Proofs.Ytocnfiafmhochaa
set_option linter.unusedVariables false
open Go.RowKit

set_option maxHeartbeats 800000 in
theorem SlotsOwners_any (t n : Int) (w : World) (_ : (Lit.int .i64 t).wf = true) (_ : (Lit.int .i64 n).wf = true) :
    Calls Try.prog 3 #[.int .i64 t, .int .i64 n] w fun e w' => e = .returned (.bool true) ∧ Below w.heap.size w w' := by
  by_cases h : 0 ≤ t ∧ t ≤ 1073741823 ∧ 1 ≤ n ∧ n ≤ 64
  · obtain ⟨h0, h1, h2, h3⟩ := h
    have r0 := Int.emod_nonneg t (show n ≠ 0 by omega)
    have r1 := Int.emod_lt_of_pos t (show 0 < n by omega)
    have hs := Int.mul_ediv_add_emod t n
    rw [Int.mul_comm] at hs
    have q0 := Int.ediv_nonneg h0 (show 0 ≤ n by omega)
    have q1 : 0 ≤ t / n * n := Int.mul_nonneg q0 (by omega)
    have HS : Hid ((t / n * n + t % n == t) = true) := by show _ = _; rw [hs]; simp
    have hle : t / n * n + t % n ≤ 1073741823 := by omega
    clear hs
    go_enter Try.func3, Try.ntmps3
    go_wp2_with fail
    refine (owner_yes _ _ _ h0 h1 h2 h3).mono ?_
    rintro e w1 ⟨rfl, hf1⟩
    go_wp2_with fail
    refine (right_yes _ _ _ h0 (by omega) h2 h3).mono ?_
    rintro e w2 ⟨rfl, rfl⟩
    go_wp2_with fail
    refine (round_yes _ _ _ h0 h1 h2 h3).mono ?_
    rintro e w2 ⟨rfl, hf2⟩
    have hs := HS.out
    go_wp2_with fail
    refine (awake_true _).mono ?_
    rintro e w3 ⟨rfl, hf3⟩
    go_wp2_with fail
    go_ret
    exact ⟨rfl, (hf1.trans hf2).trans hf3⟩
  · have H := Lib.hid h
    have H' : Hid (¬ (0 ≤ t ∧ t < 1073741824 ∧ 1 ≤ n ∧ n ≤ 64)) := fun hh => h (by omega)
    clear h
    go_enter Try.func3, Try.ntmps3
    go_wp2_with fail
    refine (owner_no _ _ _ H.out).mono ?_
    rintro e w1 ⟨rfl, hf1⟩
    go_wp2_with fail
    refine (right_no _ _ _ H'.out).mono ?_
    rintro e w2 ⟨rfl, rfl⟩
    go_wp2_with fail
    refine (round_no _ _ _ H.out).mono ?_
    rintro e w2 ⟨rfl, hf2⟩
    go_wp2_with fail
    refine (awake_true _).mono ?_
    rintro e w3 ⟨rfl, hf3⟩
    go_wp2_with fail
    go_ret
    exact ⟨rfl, (hf1.trans hf2).trans hf3⟩

set_option maxHeartbeats 800000 in
theorem SlotsNext_any (a f n : Int) (w : World) (_ : (Lit.int .i64 a).wf = true) (_ : (Lit.int .i64 f).wf = true) (_ : (Lit.int .i64 n).wf = true) :
    Calls Try.prog 4 #[.int .i64 a, .int .i64 f, .int .i64 n] w fun e w' => e = .returned (.bool true) ∧ Below w.heap.size w w' := by
  by_cases hr : 0 ≤ f ∧ f ≤ 1073741823 ∧ 1 ≤ n ∧ n ≤ 64
  · obtain ⟨h0, h1, h2, h3⟩ := hr
    by_cases ha : 0 ≤ a
    · by_cases hb : a < n
      · have hbd := SM.next_bd a f n h2 ha hb
        by_cases hx : SM.nextOf a f n ≤ 1073741823
        · have HN := Lib.hid (fun w => next_yes a f n w h0 h1 h2 h3 ha hb hx)
          have HR := Lib.hid (fun w => ref_next a f n w h0 (by omega) h2 h3 ha hb)
          generalize SM.nextOf a f n = nx at *
          go_enter Try.func4, Try.ntmps4
          go_wp2_with fail
          refine (HN.out _).mono ?_
          rintro e w1 ⟨rfl, hf1⟩
          go_wp2_with fail
          refine (right_yes _ _ _ h0 (by omega) h2 h3).mono ?_
          rintro e w2 ⟨rfl, rfl⟩
          go_wp2_with fail
          refine (HR.out _).mono ?_
          rintro e w2 ⟨rfl, rfl⟩
          go_wp2_with fail
          refine (HR.out _).mono ?_
          rintro e w2 ⟨rfl, rfl⟩
          go_wp2_with fail
          refine (awake_true _).mono ?_
          rintro e w3 ⟨rfl, hf3⟩
          go_wp2_with fail
          go_ret
          exact ⟨rfl, hf1.trans hf3⟩
        · have HN := Lib.hid (fun w => next_no a f n w (by omega))
          have HR := Lib.hid (fun w => ref_next a f n w h0 (by omega) h2 h3 ha hb)
          generalize SM.nextOf a f n = nx at *
          go_enter Try.func4, Try.ntmps4
          go_wp2_with fail
          refine (HN.out _).mono ?_
          rintro e w1 ⟨rfl, hf1⟩
          go_wp2_with fail
          refine (right_yes _ _ _ h0 (by omega) h2 h3).mono ?_
          rintro e w2 ⟨rfl, rfl⟩
          go_wp2_with fail
          refine (HR.out _).mono ?_
          rintro e w2 ⟨rfl, rfl⟩
          go_wp2_with fail
          refine (awake_true _).mono ?_
          rintro e w3 ⟨rfl, hf3⟩
          go_wp2_with fail
          go_ret
          exact ⟨rfl, hf1.trans hf3⟩
      · have HN := Lib.hid (fun w => next_no a f n w (by omega))
        go_enter Try.func4, Try.ntmps4
        go_wp2_with fail
        refine (HN.out _).mono ?_
        rintro e w1 ⟨rfl, hf1⟩
        go_wp2_with fail
        refine (right_yes _ _ _ h0 (by omega) h2 h3).mono ?_
        rintro e w2 ⟨rfl, rfl⟩
        go_wp2_with fail
        refine (awake_true _).mono ?_
        rintro e w3 ⟨rfl, hf3⟩
        go_wp2_with fail
        go_ret
        exact ⟨rfl, hf1.trans hf3⟩
    · have HN := Lib.hid (fun w => next_no a f n w (by omega))
      go_enter Try.func4, Try.ntmps4
      go_wp2_with fail
      refine (HN.out _).mono ?_
      rintro e w1 ⟨rfl, hf1⟩
      go_wp2_with fail
      refine (right_yes _ _ _ h0 (by omega) h2 h3).mono ?_
      rintro e w2 ⟨rfl, rfl⟩
      go_wp2_with fail
      refine (awake_true _).mono ?_
      rintro e w3 ⟨rfl, hf3⟩
      go_wp2_with fail
      go_ret
      exact ⟨rfl, hf1.trans hf3⟩
  · have HN := Lib.hid (fun w => next_no a f n w (by omega))
    have HR := Lib.hid (fun w => right_no f n w (by omega))
    clear hr
    go_enter Try.func4, Try.ntmps4
    go_wp2_with fail
    refine (HN.out _).mono ?_
    rintro e w1 ⟨rfl, hf1⟩
    go_wp2_with fail
    refine (HR.out _).mono ?_
    rintro e w2 ⟨rfl, rfl⟩
    go_wp2_with fail
    refine (awake_true _).mono ?_
    rintro e w3 ⟨rfl, hf3⟩
    go_wp2_with fail
    go_ret
    exact ⟨rfl, hf1.trans hf3⟩

set_option maxHeartbeats 800000 in
theorem SlotsRounds_any (r n : Int) (w : World) (_ : (Lit.int .i64 r).wf = true) (_ : (Lit.int .i64 n).wf = true) :
    Calls Try.prog 8 #[.int .i64 r, .int .i64 n] w fun e w' => e = .returned (.bool true) ∧ Below w.heap.size w w' := by
  by_cases hr : 1 ≤ n ∧ n ≤ 64 ∧ 0 ≤ r ∧ r ≤ 1048576
  · obtain ⟨h0, h1, h2, h3⟩ := hr
    obtain ⟨m0, m1⟩ := mul_bd r n 1048576 64 h2 h3 (by omega) h1
    have m2 : (r + 1) * n = r * n + n := by rw [Int.add_mul]; omega
    have m3 : r * n + n ≤ 67108928 := by omega
    have M2 := Lib.hid m2; clear m2
    go_enter Try.func8, Try.ntmps8
    go_wp2_with fail
    go_loopw [27] (fun i wr => ∃ k : Nat, (k : Int) ≤ n ∧ i = .int .i64 k ∧ Fresh w wr) (fun i _ => (n - intOf i).toNat)
    case atStart => exact ⟨0, by omega, rfl, Fresh.refl _⟩
    case round =>
      obtain ⟨k, hk, rfl, hf⟩ := hrel
      by_cases hlt : (k : Int) < n
      · have e1 : (r * n + k) % n = k := by rw [Int.add_comm, Int.add_mul_emod_self_right, Int.emod_eq_of_lt (by omega) hlt]
        have e2 : (r * n + k) / n = r := by rw [Int.add_comm, Int.add_mul_ediv_right _ _ (by omega), Int.ediv_eq_zero_of_lt (by omega) hlt]; omega
        have e3 : SM.nextOf k (r * n) n = r * n + k := by
          unfold SM.nextOf
          rw [Int.sub_mul_emod_self_right, Int.emod_eq_of_lt (by omega) hlt]
        have e4 : SM.ahead (r * n + n) k n - SM.ahead (r * n) k n = 1 := by
          have := SM.ahead_add (r * n) k n 1 h0
          rw [Int.one_mul] at this
          omega
        have H1 := Lib.hid (fun w => owner_yes (r * n + k) n w (by omega) (by omega) h0 h1)
        have H2 := Lib.hid (fun w => next_yes k (r * n) n w (by omega) (by omega) h0 h1 (by omega) hlt (by omega))
        have H3 := Lib.hid (fun w => round_yes (r * n + k) n w (by omega) (by omega) h0 h1)
        have H4 := Lib.hid (fun w => between_yes (r * n) (r * n + n) k n w (by omega) (by omega) (by omega) h0 h1 (by omega) hlt)
        rw [e1] at H1
        rw [e3] at H2
        rw [e2] at H3
        rw [e4, ← M2.out] at H4
        clear e1 e2 e3 e4
        have m4 : (r + 1) * n ≤ 67108928 := by rw [M2.out]; omega
        have m5 : 0 ≤ (r + 1) * n := by rw [M2.out]; omega
        go_wp2_with fail
        refine (H1.out _).mono ?_
        rintro e w1 ⟨rfl, hf1⟩
        go_wp2_with fail
        refine (H2.out _).mono ?_
        rintro e w2 ⟨rfl, hf2⟩
        go_wp2_with fail
        refine (H3.out _).mono ?_
        rintro e w3 ⟨rfl, hf3⟩
        go_wp2_with fail
        refine (H4.out _).mono ?_
        rintro e w4 ⟨rfl, hf4⟩
        go_wp2_with fail
        go_roundw
        case rel => exact ⟨k + 1, by omega, by go_num, (((hf.trans hf1).trans hf2).trans hf3).trans hf4⟩
        case measure => simp [intOf]; omega
      · go_wp2_with fail
        refine (awake_true _).mono ?_
        rintro e w3 ⟨rfl, hf3⟩
        go_wp2_with fail
        go_ret
        exact ⟨rfl, hf.trans hf3⟩
  · by_cases g0 : n < 1
    · clear hr
      go_enter Try.func8, Try.ntmps8
      go_wp2_with fail
      refine (awake_true _).mono ?_
      rintro e w3 ⟨rfl, hf3⟩
      go_wp2_with fail
      go_ret
      exact ⟨rfl, hf3⟩
    · by_cases g1 : 64 < n
      · clear hr
        go_enter Try.func8, Try.ntmps8
        go_wp2_with fail
        refine (awake_true _).mono ?_
        rintro e w3 ⟨rfl, hf3⟩
        go_wp2_with fail
        go_ret
        exact ⟨rfl, hf3⟩
      · by_cases g2 : r < 0
        · clear hr
          go_enter Try.func8, Try.ntmps8
          go_wp2_with fail
          refine (awake_true _).mono ?_
          rintro e w3 ⟨rfl, hf3⟩
          go_wp2_with fail
          go_ret
          exact ⟨rfl, hf3⟩
        · have g3 : 1048576 < r := by omega
          clear hr
          go_enter Try.func8, Try.ntmps8
          go_wp2_with fail
          refine (awake_true _).mono ?_
          rintro e w3 ⟨rfl, hf3⟩
          go_wp2_with fail
          go_ret
          exact ⟨rfl, hf3⟩
end Go.Proofs.Ytocnfiafmhochaa
