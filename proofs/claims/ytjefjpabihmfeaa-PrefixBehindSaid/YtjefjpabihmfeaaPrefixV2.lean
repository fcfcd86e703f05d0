/-
  The laws PrefixDecodes and PrefixGrows: their walks.
-/
import Derived.Test.YtjefjpabihmfeaaPrefixV
namespace Go.Proofs.Ytjefjpabihmfeaa
set_option linter.unusedVariables false
open Go.RowKit

theorem okP_yes0 {n b : Int} (h : okP n b 0) : ∃ n' b' : Nat, n = n' ∧ b = b' ∧ 1 ≤ b' ∧ b' ≤ 8 ∧ n' ≤ 2147483647 := by
  obtain ⟨h1, h2, h3, h4, _⟩ := h
  exact ⟨n.toNat, b.toNat, by omega, by omega, by omega, by omega, by omega⟩

set_option maxHeartbeats 1600000 in
theorem PrefixDecodes_any (A : Option Addr) (l : List UInt8) (c : Nat) (b : Int) (w : World) (hlc : l.length ≤ c) (hcm : c ≤ maxLen) (hA : BS w A l) (hb : -9223372036854775808 ≤ b ∧ b ≤ 9223372036854775807) :
    Calls Try.prog 4 #[.slice A l.length c, .int .i64 b] w fun e w' => e = .returned (.bool true) ∧ Below w.heap.size w w' := by
  unfold maxLen at hcm
  have HW := Lib.hid awake_true
  by_cases h200 : 200 < l.length
  · have h200' : (200 : Int) < (l.length : Int) := by omega
    clear hA
    go_enter Try.func4, Try.ntmps4
    go_wp2_with fail
    refine (HW.out _).mono ?_
    rintro e w2 ⟨rfl, hf⟩
    have HF := Lib.hid hf
    clear hf
    go_wp2
    go_ret
    exact ⟨rfl, HF.out⟩
  · have h200' : ¬ (200 : Int) < (l.length : Int) := by omega
    by_cases hbr : 1 ≤ b ∧ b ≤ 8
    · obtain ⟨n, rfl⟩ : ∃ n : Nat, b = n := ⟨b.toNat, by omega⟩
      have hb1 : 1 ≤ n := by omega
      have hb8 : n ≤ 8 := by omega
      have HD := Lib.hid (dec_any A c n l w hb1 hb8 (by omega) hA)
      have HR := Lib.hid (fun w => ref_dec n l w hb1 hb8 (by omega))
      have HS : Hid (∀ W, Fresh w W → (convert 22 9 (.slice A l.length c)).run Try.prog W = .ok (.string (strB l)) W) := fun W h =>
        run_str (P := Try.prog) (hA.fresh h) 22 9 5 Try.underlying22 Try.underlying5 Try.underlying9 c
      have h1' : ¬ ((n : Int) < 1) := by omega
      have h2' : ¬ (8 < (n : Int)) := by omega
      clear hA hbr
      generalize decL l n = r at *
      generalize strB l = S at *
      obtain ⟨r1, r2, r3⟩ := r
      unfold decV at HD HR
      have e1 : (r1 == r1) = true := beq_self_eq_true r1
      have e2 : (r2 == r2) = true := beq_self_eq_true r2
      have e3 : (r3 == r3) = true := beq_self_eq_true r3
      go_enter Try.func4, Try.ntmps4
      go_wp2_with fail
      refine HD.out.mono ?_
      rintro e w1 ⟨rfl, hf⟩
      have HF := Lib.hid hf
      have hs := HS.out _ hf
      clear hf
      go_wp2_with fail
      refine (HR.out _).mono ?_
      rintro e w2 ⟨rfl, hf2⟩
      have HF2 := Lib.hid hf2
      clear hf2
      go_wp2_with fail
      refine (HW.out _).mono ?_
      rintro e w3 ⟨rfl, hf3⟩
      have HF3 := Lib.hid hf3
      clear hf3
      go_wp2
      go_ret
      exact ⟨rfl, HF.out.trans (HF2.out.trans HF3.out)⟩
    · have HD := Lib.hid (dec_bits A c l.length b w hbr)
      unfold decV at HD
      clear hA
      by_cases h1 : b < 1
      · clear hbr
        go_enter Try.func4, Try.ntmps4
        go_wp2_with fail
        refine HD.out.mono ?_
        rintro e w1 ⟨rfl, hf⟩
        have HF := Lib.hid hf
        clear hf
        go_wp2_with fail
        refine (HW.out _).mono ?_
        rintro e w3 ⟨rfl, hf3⟩
        have HF3 := Lib.hid hf3
        clear hf3
        go_wp2
        go_ret
        exact ⟨rfl, HF.out.trans HF3.out⟩
      · have h2 : 8 < b := by omega
        clear hbr
        go_enter Try.func4, Try.ntmps4
        go_wp2_with fail
        refine HD.out.mono ?_
        rintro e w1 ⟨rfl, hf⟩
        have HF := Lib.hid hf
        clear hf
        go_wp2_with fail
        refine (HW.out _).mono ?_
        rintro e w3 ⟨rfl, hf3⟩
        have HF3 := Lib.hid hf3
        clear hf3
        go_wp2
        go_ret
        exact ⟨rfl, HF.out.trans HF3.out⟩

set_option maxHeartbeats 3200000 in
theorem PrefixGrows_any (n m b : Int) (w : World) (hn : -9223372036854775808 ≤ n ∧ n ≤ 9223372036854775807) (hm : -9223372036854775808 ≤ m ∧ m ≤ 9223372036854775807) (hb : -9223372036854775808 ≤ b ∧ b ≤ 9223372036854775807) :
    Calls Try.prog 7 #[.int .i64 n, .int .i64 m, .int .i64 b] w fun e w' => e = .returned (.bool true) ∧ Below w.heap.size w w' := by
  have HW := Lib.hid awake_true
  by_cases h1 : okP n b 0
  · obtain ⟨n, b, rfl, rfl, hb1, hb8, hn'⟩ := okP_yes0 h1
    have HR1 : Hid (Calls Try.prog 9 #[.int .i64 (n : Int), .int .i64 (b : Int), .int .i64 0] w fun e w' => e = .returned (.bool true) ∧ w = w') := right_yes n b 0 w hb1 hb8 hn' (Nat.pow_pos (by omega))
    by_cases h2 : okP m b 0
    · obtain ⟨m, b', rfl, hbb, _, _, hm'⟩ := okP_yes0 h2
      have HR2 : Hid (Calls Try.prog 9 #[.int .i64 (m : Int), .int .i64 (b : Int), .int .i64 0] w fun e w' => e = .returned (.bool true) ∧ w = w') := right_yes m b 0 w hb1 hb8 hm' (Nat.pow_pos (by omega))
      clear h1 h2 hbb
      by_cases h8 : b = 8
      · subst h8
        rw [show ((8 : Nat) : Int) = 8 from rfl] at HR1 HR2
        clear hb1 hb8
        rcases Nat.lt_trichotomy n m with hlt | rfl | hlt
        · have hlt' : (n : Int) < (m : Int) := by omega
          have hlt2 : ¬ (m : Int) < (n : Int) := by omega
          have HL1 : Hid (∀ W, Calls Try.prog 10 #[.int .i64 (n : Int), .int .i64 8] W fun e w' => e = .returned (.int .i64 (encL n 8 0).length) ∧ Fresh W w') := fun W => len_yes n 8 W (by omega) (by omega) (by omega)
          have HL2 : Hid (∀ W, Calls Try.prog 10 #[.int .i64 (m : Int), .int .i64 8] W fun e w' => e = .returned (.int .i64 (encL m 8 0).length) ∧ Fresh W w') := fun W => len_yes m 8 W (by omega) (by omega) (by omega)
          have p1 : (1 : Int) ≤ ((encL n 8 0).length : Int) := by have := (encL_length n 8 0 (by omega)).1; omega
          have p2 : ((encL n 8 0).length : Int) ≤ ((encL m 8 0).length : Int) := by have := encL_mono n m 8 0 (by omega); omega
          have p3 : ((encL m 8 0).length : Int) ≤ 6 := by have := (encL_length m 8 0 (by omega)).2; omega
          generalize (encL n 8 0).length = x1 at *
          generalize (encL m 8 0).length = x2 at *
          go_enter Try.func7, Try.ntmps7
          go_wp2_with fail
          with_reducible refine HR1.out.mono ?_
          rintro e w1 ⟨rfl, rfl⟩
          go_wp2_with fail
          with_reducible refine (HR2.out).mono ?_
          rintro e w1 ⟨rfl, rfl⟩
          go_wp2_with fail
          with_reducible refine (HL1.out _).mono ?_
          rintro e w2 ⟨rfl, hf2⟩
          have HF2 := Lib.hid hf2
          clear hf2
          go_wp2_with fail
          with_reducible refine (HL2.out _).mono ?_
          rintro e w3 ⟨rfl, hf3⟩
          have HF3 := Lib.hid hf3
          clear hf3
          go_wp2_with fail
          with_reducible refine (HW.out _).mono ?_
          rintro e w6 ⟨rfl, hf6⟩
          have HF6 := Lib.hid hf6
          clear hf6
          go_wp2
          go_ret
          exact ⟨rfl, HF2.out.trans (HF3.out.trans (HF6.out))⟩
        · have hlt' : ¬ (n : Int) < (n : Int) := by omega
          have HL1 : Hid (∀ W, Calls Try.prog 10 #[.int .i64 (n : Int), .int .i64 8] W fun e w' => e = .returned (.int .i64 (encL n 8 0).length) ∧ Fresh W w') := fun W => len_yes n 8 W (by omega) (by omega) (by omega)
          have HL2 : Hid (∀ W, Calls Try.prog 10 #[.int .i64 (n : Int), .int .i64 8] W fun e w' => e = .returned (.int .i64 (encL n 8 0).length) ∧ Fresh W w') := fun W => len_yes n 8 W (by omega) (by omega) (by omega)
          have p1 : (1 : Int) ≤ ((encL n 8 0).length : Int) := by have := (encL_length n 8 0 (by omega)).1; omega
          have p2 : ((encL n 8 0).length : Int) ≤ ((encL n 8 0).length : Int) := by have := encL_mono n n 8 0 (by omega); omega
          have p3 : ((encL n 8 0).length : Int) ≤ 6 := by have := (encL_length n 8 0 (by omega)).2; omega
          generalize (encL n 8 0).length = x1 at *
          go_enter Try.func7, Try.ntmps7
          go_wp2_with fail
          with_reducible refine HR1.out.mono ?_
          rintro e w1 ⟨rfl, rfl⟩
          go_wp2_with fail
          with_reducible refine (HR2.out).mono ?_
          rintro e w1 ⟨rfl, rfl⟩
          go_wp2_with fail
          with_reducible refine (HL1.out _).mono ?_
          rintro e w2 ⟨rfl, hf2⟩
          have HF2 := Lib.hid hf2
          clear hf2
          go_wp2_with fail
          with_reducible refine (HL2.out _).mono ?_
          rintro e w3 ⟨rfl, hf3⟩
          have HF3 := Lib.hid hf3
          clear hf3
          go_wp2_with fail
          with_reducible refine (HW.out _).mono ?_
          rintro e w6 ⟨rfl, hf6⟩
          have HF6 := Lib.hid hf6
          clear hf6
          go_wp2
          go_ret
          exact ⟨rfl, HF2.out.trans (HF3.out.trans (HF6.out))⟩
        · have hlt' : (m : Int) < (n : Int) := by omega
          have hlt2 : ¬ (n : Int) < (m : Int) := by omega
          have HL1 : Hid (∀ W, Calls Try.prog 10 #[.int .i64 (m : Int), .int .i64 8] W fun e w' => e = .returned (.int .i64 (encL m 8 0).length) ∧ Fresh W w') := fun W => len_yes m 8 W (by omega) (by omega) (by omega)
          have HL2 : Hid (∀ W, Calls Try.prog 10 #[.int .i64 (n : Int), .int .i64 8] W fun e w' => e = .returned (.int .i64 (encL n 8 0).length) ∧ Fresh W w') := fun W => len_yes n 8 W (by omega) (by omega) (by omega)
          have p1 : (1 : Int) ≤ ((encL m 8 0).length : Int) := by have := (encL_length m 8 0 (by omega)).1; omega
          have p2 : ((encL m 8 0).length : Int) ≤ ((encL n 8 0).length : Int) := by have := encL_mono m n 8 0 (by omega); omega
          have p3 : ((encL n 8 0).length : Int) ≤ 6 := by have := (encL_length n 8 0 (by omega)).2; omega
          generalize (encL m 8 0).length = x1 at *
          generalize (encL n 8 0).length = x2 at *
          go_enter Try.func7, Try.ntmps7
          go_wp2_with fail
          with_reducible refine HR1.out.mono ?_
          rintro e w1 ⟨rfl, rfl⟩
          go_wp2_with fail
          with_reducible refine (HR2.out).mono ?_
          rintro e w1 ⟨rfl, rfl⟩
          go_wp2_with fail
          with_reducible refine (HL1.out _).mono ?_
          rintro e w2 ⟨rfl, hf2⟩
          have HF2 := Lib.hid hf2
          clear hf2
          go_wp2_with fail
          with_reducible refine (HL2.out _).mono ?_
          rintro e w3 ⟨rfl, hf3⟩
          have HF3 := Lib.hid hf3
          clear hf3
          go_wp2_with fail
          with_reducible refine (HW.out _).mono ?_
          rintro e w6 ⟨rfl, hf6⟩
          have HF6 := Lib.hid hf6
          clear hf6
          go_wp2
          go_ret
          exact ⟨rfl, HF2.out.trans (HF3.out.trans (HF6.out))⟩
      · have h8' : ((b : Int) == 8) = false := by rw [beq_eq_false_iff_ne]; omega
        rcases Nat.lt_trichotomy n m with hlt | rfl | hlt
        · have hlt' : (n : Int) < (m : Int) := by omega
          have hlt2 : ¬ (m : Int) < (n : Int) := by omega
          have HL1 : Hid (∀ W, Calls Try.prog 10 #[.int .i64 (n : Int), .int .i64 (b : Int)] W fun e w' => e = .returned (.int .i64 (encL n b 0).length) ∧ Fresh W w') := fun W => len_yes n b W (by omega) (by omega) (by omega)
          have HL2 : Hid (∀ W, Calls Try.prog 10 #[.int .i64 (m : Int), .int .i64 (b : Int)] W fun e w' => e = .returned (.int .i64 (encL m b 0).length) ∧ Fresh W w') := fun W => len_yes m b W (by omega) (by omega) (by omega)
          have p1 : (1 : Int) ≤ ((encL n b 0).length : Int) := by have := (encL_length n b 0 (by omega)).1; omega
          have p2 : ((encL n b 0).length : Int) ≤ ((encL m b 0).length : Int) := by have := encL_mono n m b 0 (by omega); omega
          have p3 : ((encL m b 0).length : Int) ≤ 6 := by have := (encL_length m b 0 (by omega)).2; omega
          have p4 : ((encL n (b + 1) 0).length : Int) ≤ ((encL n b 0).length : Int) := by have := encL_bits n b; omega
          have HL3 : Hid (∀ W, Calls Try.prog 10 #[.int .i64 (n : Int), .int .i64 (b : Int)] W fun e w' => e = .returned (.int .i64 (encL n b 0).length) ∧ Fresh W w') := fun W => len_yes n b W (by omega) (by omega) (by omega)
          have eb : ((b + 1 : Nat) : Int) = (b : Int) + 1 := by omega
          have HL4 : Hid (∀ W, Calls Try.prog 10 #[.int .i64 (n : Int), .int .i64 ((b : Int) + 1)] W fun e w' => e = .returned (.int .i64 (encL n (b + 1) 0).length) ∧ Fresh W w') := fun W => by
            have := len_yes n (b + 1) W (by omega) (by omega) (by omega)
            rw [eb] at this
            exact this
          clear eb
          generalize (encL n (b + 1) 0).length = x4 at *
          generalize (encL n b 0).length = x1 at *
          generalize (encL m b 0).length = x2 at *
          go_enter Try.func7, Try.ntmps7
          go_wp2_with fail
          with_reducible refine HR1.out.mono ?_
          rintro e w1 ⟨rfl, rfl⟩
          go_wp2_with fail
          with_reducible refine (HR2.out).mono ?_
          rintro e w1 ⟨rfl, rfl⟩
          go_wp2_with fail
          with_reducible refine (HL1.out _).mono ?_
          rintro e w2 ⟨rfl, hf2⟩
          have HF2 := Lib.hid hf2
          clear hf2
          go_wp2_with fail
          with_reducible refine (HL2.out _).mono ?_
          rintro e w3 ⟨rfl, hf3⟩
          have HF3 := Lib.hid hf3
          clear hf3
          go_wp2_with fail
          with_reducible refine (HL4.out _).mono ?_
          rintro e w4 ⟨rfl, hf4⟩
          have HF4 := Lib.hid hf4
          clear hf4
          go_wp2_with fail
          with_reducible refine (HL3.out _).mono ?_
          rintro e w5 ⟨rfl, hf5⟩
          have HF5 := Lib.hid hf5
          clear hf5
          go_wp2_with fail
          with_reducible refine (HW.out _).mono ?_
          rintro e w6 ⟨rfl, hf6⟩
          have HF6 := Lib.hid hf6
          clear hf6
          go_wp2
          go_ret
          exact ⟨rfl, HF2.out.trans (HF3.out.trans (HF4.out.trans (HF5.out.trans (HF6.out))))⟩
        · have hlt' : ¬ (n : Int) < (n : Int) := by omega
          have HL1 : Hid (∀ W, Calls Try.prog 10 #[.int .i64 (n : Int), .int .i64 (b : Int)] W fun e w' => e = .returned (.int .i64 (encL n b 0).length) ∧ Fresh W w') := fun W => len_yes n b W (by omega) (by omega) (by omega)
          have HL2 : Hid (∀ W, Calls Try.prog 10 #[.int .i64 (n : Int), .int .i64 (b : Int)] W fun e w' => e = .returned (.int .i64 (encL n b 0).length) ∧ Fresh W w') := fun W => len_yes n b W (by omega) (by omega) (by omega)
          have p1 : (1 : Int) ≤ ((encL n b 0).length : Int) := by have := (encL_length n b 0 (by omega)).1; omega
          have p2 : ((encL n b 0).length : Int) ≤ ((encL n b 0).length : Int) := by have := encL_mono n n b 0 (by omega); omega
          have p3 : ((encL n b 0).length : Int) ≤ 6 := by have := (encL_length n b 0 (by omega)).2; omega
          have p4 : ((encL n (b + 1) 0).length : Int) ≤ ((encL n b 0).length : Int) := by have := encL_bits n b; omega
          have HL3 : Hid (∀ W, Calls Try.prog 10 #[.int .i64 (n : Int), .int .i64 (b : Int)] W fun e w' => e = .returned (.int .i64 (encL n b 0).length) ∧ Fresh W w') := fun W => len_yes n b W (by omega) (by omega) (by omega)
          have eb : ((b + 1 : Nat) : Int) = (b : Int) + 1 := by omega
          have HL4 : Hid (∀ W, Calls Try.prog 10 #[.int .i64 (n : Int), .int .i64 ((b : Int) + 1)] W fun e w' => e = .returned (.int .i64 (encL n (b + 1) 0).length) ∧ Fresh W w') := fun W => by
            have := len_yes n (b + 1) W (by omega) (by omega) (by omega)
            rw [eb] at this
            exact this
          clear eb
          generalize (encL n (b + 1) 0).length = x4 at *
          generalize (encL n b 0).length = x1 at *
          go_enter Try.func7, Try.ntmps7
          go_wp2_with fail
          with_reducible refine HR1.out.mono ?_
          rintro e w1 ⟨rfl, rfl⟩
          go_wp2_with fail
          with_reducible refine (HR2.out).mono ?_
          rintro e w1 ⟨rfl, rfl⟩
          go_wp2_with fail
          with_reducible refine (HL1.out _).mono ?_
          rintro e w2 ⟨rfl, hf2⟩
          have HF2 := Lib.hid hf2
          clear hf2
          go_wp2_with fail
          with_reducible refine (HL2.out _).mono ?_
          rintro e w3 ⟨rfl, hf3⟩
          have HF3 := Lib.hid hf3
          clear hf3
          go_wp2_with fail
          with_reducible refine (HL4.out _).mono ?_
          rintro e w4 ⟨rfl, hf4⟩
          have HF4 := Lib.hid hf4
          clear hf4
          go_wp2_with fail
          with_reducible refine (HL3.out _).mono ?_
          rintro e w5 ⟨rfl, hf5⟩
          have HF5 := Lib.hid hf5
          clear hf5
          go_wp2_with fail
          with_reducible refine (HW.out _).mono ?_
          rintro e w6 ⟨rfl, hf6⟩
          have HF6 := Lib.hid hf6
          clear hf6
          go_wp2
          go_ret
          exact ⟨rfl, HF2.out.trans (HF3.out.trans (HF4.out.trans (HF5.out.trans (HF6.out))))⟩
        · have hlt' : (m : Int) < (n : Int) := by omega
          have hlt2 : ¬ (n : Int) < (m : Int) := by omega
          have HL1 : Hid (∀ W, Calls Try.prog 10 #[.int .i64 (m : Int), .int .i64 (b : Int)] W fun e w' => e = .returned (.int .i64 (encL m b 0).length) ∧ Fresh W w') := fun W => len_yes m b W (by omega) (by omega) (by omega)
          have HL2 : Hid (∀ W, Calls Try.prog 10 #[.int .i64 (n : Int), .int .i64 (b : Int)] W fun e w' => e = .returned (.int .i64 (encL n b 0).length) ∧ Fresh W w') := fun W => len_yes n b W (by omega) (by omega) (by omega)
          have p1 : (1 : Int) ≤ ((encL m b 0).length : Int) := by have := (encL_length m b 0 (by omega)).1; omega
          have p2 : ((encL m b 0).length : Int) ≤ ((encL n b 0).length : Int) := by have := encL_mono m n b 0 (by omega); omega
          have p3 : ((encL n b 0).length : Int) ≤ 6 := by have := (encL_length n b 0 (by omega)).2; omega
          have p4 : ((encL n (b + 1) 0).length : Int) ≤ ((encL n b 0).length : Int) := by have := encL_bits n b; omega
          have HL3 : Hid (∀ W, Calls Try.prog 10 #[.int .i64 (n : Int), .int .i64 (b : Int)] W fun e w' => e = .returned (.int .i64 (encL n b 0).length) ∧ Fresh W w') := fun W => len_yes n b W (by omega) (by omega) (by omega)
          have eb : ((b + 1 : Nat) : Int) = (b : Int) + 1 := by omega
          have HL4 : Hid (∀ W, Calls Try.prog 10 #[.int .i64 (n : Int), .int .i64 ((b : Int) + 1)] W fun e w' => e = .returned (.int .i64 (encL n (b + 1) 0).length) ∧ Fresh W w') := fun W => by
            have := len_yes n (b + 1) W (by omega) (by omega) (by omega)
            rw [eb] at this
            exact this
          clear eb
          generalize (encL n (b + 1) 0).length = x4 at *
          generalize (encL m b 0).length = x1 at *
          generalize (encL n b 0).length = x2 at *
          go_enter Try.func7, Try.ntmps7
          go_wp2_with fail
          with_reducible refine HR1.out.mono ?_
          rintro e w1 ⟨rfl, rfl⟩
          go_wp2_with fail
          with_reducible refine (HR2.out).mono ?_
          rintro e w1 ⟨rfl, rfl⟩
          go_wp2_with fail
          with_reducible refine (HL1.out _).mono ?_
          rintro e w2 ⟨rfl, hf2⟩
          have HF2 := Lib.hid hf2
          clear hf2
          go_wp2_with fail
          with_reducible refine (HL2.out _).mono ?_
          rintro e w3 ⟨rfl, hf3⟩
          have HF3 := Lib.hid hf3
          clear hf3
          go_wp2_with fail
          with_reducible refine (HL4.out _).mono ?_
          rintro e w4 ⟨rfl, hf4⟩
          have HF4 := Lib.hid hf4
          clear hf4
          go_wp2_with fail
          with_reducible refine (HL3.out _).mono ?_
          rintro e w5 ⟨rfl, hf5⟩
          have HF5 := Lib.hid hf5
          clear hf5
          go_wp2_with fail
          with_reducible refine (HW.out _).mono ?_
          rintro e w6 ⟨rfl, hf6⟩
          have HF6 := Lib.hid hf6
          clear hf6
          go_wp2
          go_ret
          exact ⟨rfl, HF2.out.trans (HF3.out.trans (HF4.out.trans (HF5.out.trans (HF6.out))))⟩
    · have HR2 : Hid (∀ W, Calls Try.prog 9 #[.int .i64 m, .int .i64 b, .int .i64 0] W fun e w' => e = .returned (.bool false) ∧ W = w') := fun W => right_no m b 0 W h2
      clear h1 h2
      go_enter Try.func7, Try.ntmps7
      go_wp2_with fail
      refine HR1.out.mono ?_
      rintro e w1 ⟨rfl, rfl⟩
      go_wp2_with fail
      refine (HR2.out _).mono ?_
      rintro e w1 ⟨rfl, rfl⟩
      go_wp2_with fail
      refine (HW.out _).mono ?_
      rintro e w3 ⟨rfl, hf3⟩
      have HF3 := Lib.hid hf3
      clear hf3
      go_wp2
      go_ret
      exact ⟨rfl, HF3.out⟩
  · have HR1 := Lib.hid (right_no n b 0 w h1)
    clear h1
    go_enter Try.func7, Try.ntmps7
    go_wp2_with fail
    refine HR1.out.mono ?_
    rintro e w1 ⟨rfl, rfl⟩
    go_wp2_with fail
    refine (HW.out _).mono ?_
    rintro e w3 ⟨rfl, hf3⟩
    have HF3 := Lib.hid hf3
    clear hf3
    go_wp2
    go_ret
    exact ⟨rfl, HF3.out⟩
end Go.Proofs.Ytjefjpabihmfeaa
