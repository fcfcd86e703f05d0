/-
  The laws of slots: between two ticks.
-/
import Derived.Test.YtocnfiafmhochaaSlotsL
import Derived.Deep.QuietTactic
import Derived.BigQuiet
namespace Go.Proofs.Ytocnfiafmhochaa
set_option linter.unusedVariables false
open Go.RowKit

set_option maxHeartbeats 800000 in
theorem SlotsBetween_any (f t n : Int) (w : World) (_ : (Lit.int .i64 f).wf = true) (_ : (Lit.int .i64 t).wf = true) (_ : (Lit.int .i64 n).wf = true) :
    Calls Try.prog 5 #[.int .i64 f, .int .i64 t, .int .i64 n] w fun e w' => e = .returned (.bool true) ∧ Below w.heap.size w w' := by
  have HB := Lib.hid (fun w => between_no f t (-1) n w (by omega))
  by_cases hr : 0 ≤ f ∧ f < 1073741824 ∧ 1 ≤ n ∧ n ≤ 64
  · by_cases ht : 0 ≤ t ∧ t < 1073741824 ∧ 1 ≤ n ∧ n ≤ 64
    · obtain ⟨h0, h1, h2, h3⟩ := hr
      obtain ⟨t0, t1, _, _⟩ := ht
      by_cases hd : t - f ≤ 500
      · have HE := Lib.hid (fun w => between_no f t n n w (by omega))
        by_cases hlt : f < t
        · have hsz : SM.sumTo n t n - SM.sumTo n f n = t - f := by rw [SM.sum_all t n h2, SM.sum_all f n h2]
          have HZ := Lib.hid hsz; clear hsz
          have hmax : max (t - f) 0 = t - f := by omega
          have HM := Lib.hid hmax; clear hmax
          go_enter Try.func5, Try.ntmps5
          go_wp2_with fail
          refine (right_yes _ _ _ h0 h1 h2 h3).mono ?_
          rintro e w2 ⟨rfl, rfl⟩
          go_wp2_with fail
          refine (right_yes _ _ _ t0 t1 h2 h3).mono ?_
          rintro e w2 ⟨rfl, rfl⟩
          go_wp2_with fail
          go_loopw [7, 36] (fun s i wr => ∃ k : Nat, (k : Int) ≤ n ∧ i = .int .i64 k ∧ s = .int .i64 (SM.sumTo k t n - SM.sumTo k f n) ∧ 0 ≤ SM.sumTo k t n - SM.sumTo k f n ∧ SM.sumTo k t n - SM.sumTo k f n ≤ k * 500 ∧ Fresh w wr) (fun _ i _ => (n - intOf i).toNat)
          case atStart => exact ⟨0, by omega, rfl, by rw [show ((0 : Nat) : Int) = 0 from rfl, SM.sum_zero t n h2, SM.sum_zero f n h2]; rfl, by rw [show ((0 : Nat) : Int) = 0 from rfl, SM.sum_zero t n h2, SM.sum_zero f n h2]; omega, by rw [show ((0 : Nat) : Int) = 0 from rfl, SM.sum_zero t n h2, SM.sum_zero f n h2]; omega, Fresh.refl _⟩
          case round =>
            obtain ⟨k, hk, rfl, rfl, hs0, hs1, hf⟩ := hrel
            by_cases hlk : (k : Int) < n
            · have hd0 := SM.ahead_mono f t k n h2 (by omega) hlk (by omega)
              have hd1 := SM.ahead_diff f t k n h2 (by omega) hlk (by omega)
              have e1 := SM.sum_succ k t n
              have e2 := SM.sum_succ k f n
              have hsum : SM.sumTo ((k : Int) + 1) t n - SM.sumTo ((k : Int) + 1) f n = (SM.sumTo k t n - SM.sumTo k f n) + (SM.ahead t k n - SM.ahead f k n) := by omega
              clear e1 e2
              have HS := Lib.hid hsum; clear hsum
              have H1 := Lib.hid (fun w => between_yes f t k n w h0 hlt (by omega) h2 h3 (by omega) hlk)
              have H2 := Lib.hid (fun w => ref_between f t k n w h0 (by omega) t1 h2 h3 (by omega) hlk)
              have hd0' : 0 ≤ SM.ahead t k n - SM.ahead f k n := by omega
              have hd1' : SM.ahead t k n - SM.ahead f k n ≤ 500 := by omega
              clear hd0 hd1
              generalize SM.ahead t k n - SM.ahead f k n = d at *
              generalize SM.sumTo k t n - SM.sumTo k f n = s at *
              have hs1' : s ≤ 32000 := by omega
              go_wp2_with fail
              refine (H1.out _).mono ?_
              rintro e w1 ⟨rfl, hf1⟩
              go_wp2_with fail
              refine (H2.out _).mono ?_
              rintro e w2 ⟨rfl, rfl⟩
              go_wp2_with fail
              go_roundw
              case rel => exact ⟨k + 1, by omega, by go_num, by rw [show ((k + 1 : Nat) : Int) = (k : Int) + 1 by omega, HS.out], by rw [show ((k + 1 : Nat) : Int) = (k : Int) + 1 by omega, HS.out]; omega, by rw [show ((k + 1 : Nat) : Int) = (k : Int) + 1 by omega, HS.out]; omega, hf.trans hf1⟩
              case measure => simp [intOf]; omega
            · obtain rfl : (k : Int) = n := by omega
              have hz := HZ.out
              have hb : (SM.sumTo k t k - SM.sumTo k f k == t - f) = true := by rw [hz]; simp
              clear hz
              generalize SM.sumTo k t k - SM.sumTo k f k = s at *
              go_wp2_with fail
              refine (HE.out _).mono ?_
              rintro e w1 ⟨rfl, hf1⟩
              go_wp2_with fail
              refine (awake_true _).mono ?_
              rintro e w3 ⟨rfl, hf3⟩
              go_wp2_with fail
              go_ret
              exact ⟨rfl, (hf.trans hf1).trans hf3⟩
        · by_cases heq : f = t
          · subst heq
            have hmax : (0 == max (f - f) 0) = true := by simp
            have HM := hmax
            go_enter Try.func5, Try.ntmps5
            go_wp2_with fail
            refine (right_yes _ _ _ h0 h1 h2 h3).mono ?_
            rintro e w2 ⟨rfl, rfl⟩
            go_wp2_with fail
            refine (right_yes _ _ _ t0 t1 h2 h3).mono ?_
            rintro e w2 ⟨rfl, rfl⟩
            go_wp2_with fail
            go_loopw [7, 36] (fun s i wr => ∃ k : Nat, (k : Int) ≤ n ∧ i = .int .i64 k ∧ s = .int .i64 0 ∧ Fresh w wr) (fun _ i _ => (n - intOf i).toNat)
            case atStart => exact ⟨0, by omega, rfl, rfl, Fresh.refl _⟩
            case round =>
              obtain ⟨k, hk, rfl, rfl, hf⟩ := hrel
              by_cases hlk : (k : Int) < n
              · have H1 := Lib.hid (fun w => between_no f f k n w (by omega))
                have H2 := Lib.hid (fun w => ref_between f f k n w h0 (by omega) t1 h2 h3 (by omega) hlk)
                rw [Int.sub_self] at H2
                go_wp2_with fail
                refine (H1.out _).mono ?_
                rintro e w1 ⟨rfl, hf1⟩
                go_wp2_with fail
                refine (H2.out _).mono ?_
                rintro e w2 ⟨rfl, rfl⟩
                go_wp2_with fail
                go_roundw
                case rel => exact ⟨k + 1, by omega, by go_num, rfl, hf.trans hf1⟩
                case measure => simp [intOf]; omega
              · obtain rfl : (k : Int) = n := by omega
                go_wp2_with fail
                refine (HE.out _).mono ?_
                rintro e w1 ⟨rfl, hf1⟩
                go_wp2_with fail
                refine (awake_true _).mono ?_
                rintro e w3 ⟨rfl, hf3⟩
                go_wp2_with fail
                go_ret
                exact ⟨rfl, (hf.trans hf1).trans hf3⟩
          · have hgt : t < f := by omega
            have hmax : (0 == max (t - f) 0) = true := by simp; omega
            go_enter Try.func5, Try.ntmps5
            go_wp2_with fail
            refine (right_yes _ _ _ h0 h1 h2 h3).mono ?_
            rintro e w2 ⟨rfl, rfl⟩
            go_wp2_with fail
            refine (right_yes _ _ _ t0 t1 h2 h3).mono ?_
            rintro e w2 ⟨rfl, rfl⟩
            go_wp2_with fail
            go_loopw [7, 36] (fun s i wr => ∃ k : Nat, (k : Int) ≤ n ∧ i = .int .i64 k ∧ s = .int .i64 0 ∧ Fresh w wr) (fun _ i _ => (n - intOf i).toNat)
            case atStart => exact ⟨0, by omega, rfl, rfl, Fresh.refl _⟩
            case round =>
              obtain ⟨k, hk, rfl, rfl, hf⟩ := hrel
              by_cases hlk : (k : Int) < n
              · have H1 := Lib.hid (fun w => between_no f t k n w (by omega))
                go_wp2_with fail
                refine (H1.out _).mono ?_
                rintro e w1 ⟨rfl, hf1⟩
                go_wp2_with fail
                go_roundw
                case rel => exact ⟨k + 1, by omega, by go_num, rfl, hf.trans hf1⟩
                case measure => simp [intOf]; omega
              · obtain rfl : (k : Int) = n := by omega
                go_wp2_with fail
                refine (HE.out _).mono ?_
                rintro e w1 ⟨rfl, hf1⟩
                go_wp2_with fail
                refine (awake_true _).mono ?_
                rintro e w3 ⟨rfl, hf3⟩
                go_wp2_with fail
                go_ret
                exact ⟨rfl, (hf.trans hf1).trans hf3⟩
      · have hd' : 500 < t - f := by omega
        go_enter Try.func5, Try.ntmps5
        go_wp2_with fail
        refine (right_yes _ _ _ h0 h1 h2 h3).mono ?_
        rintro e w2 ⟨rfl, rfl⟩
        go_wp2_with fail
        refine (right_yes _ _ _ t0 t1 h2 h3).mono ?_
        rintro e w2 ⟨rfl, rfl⟩
        go_wp2_with fail
        refine (HB.out _).mono ?_
        rintro e w3 ⟨rfl, hf1⟩
        go_wp2_with fail
        refine (awake_true _).mono ?_
        rintro e w3 ⟨rfl, hf3⟩
        go_wp2_with fail
        go_ret
        exact ⟨rfl, hf1.trans hf3⟩
    · have HR := Lib.hid (fun w => right_no t n w ht)
      obtain ⟨h0, h1, h2, h3⟩ := hr
      clear ht
      go_enter Try.func5, Try.ntmps5
      go_wp2_with fail
      refine (right_yes _ _ _ h0 h1 h2 h3).mono ?_
      rintro e w2 ⟨rfl, rfl⟩
      go_wp2_with fail
      refine (HR.out _).mono ?_
      rintro e w2 ⟨rfl, rfl⟩
      go_wp2_with fail
      refine (HB.out _).mono ?_
      rintro e w3 ⟨rfl, hf1⟩
      go_wp2_with fail
      refine (awake_true _).mono ?_
      rintro e w3 ⟨rfl, hf3⟩
      go_wp2_with fail
      go_ret
      exact ⟨rfl, hf1.trans hf3⟩
  · have HR := Lib.hid (fun w => right_no f n w hr)
    clear hr
    go_enter Try.func5, Try.ntmps5
    go_wp2_with fail
    refine (HR.out _).mono ?_
    rintro e w2 ⟨rfl, rfl⟩
    go_wp2_with fail
    refine (HB.out _).mono ?_
    rintro e w3 ⟨rfl, hf1⟩
    go_wp2_with fail
    refine (awake_true _).mono ?_
    rintro e w3 ⟨rfl, hf3⟩
    go_wp2_with fail
    go_ret
    exact ⟨rfl, hf1.trans hf3⟩
end Go.Proofs.Ytocnfiafmhochaa
