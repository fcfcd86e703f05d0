/-
  The law WindowCan: its walk.
-/
import Derived.Test.YtdcifbkdibnoaaaWindowV4
namespace Go.Proofs.Ytdcifbkdibnoaaa
set_option linter.unusedVariables false
open Go.RowKit

theorem step_shift0 (n b : Int) (h0 : 0 ≤ n) (h1 : n ≤ 2147483647) : (stepF n 3 b 0) = (n - b, 0) ∧ 0 ≤ b ∧ b ≤ 2147483647 ∨ ¬ (stepF n 3 b 0).2 = 0 := by
  unfold stepF
  rw [if_pos rfl]
  by_cases c : b < 0 ∨ 2147483647 < b ∨ (0 : Int) < 0 ∨ (2147483647 : Int) < 0
  · rw [if_pos c]; right; simp
  · rw [if_neg c, if_neg (by omega), if_neg (by omega)]; left; exact ⟨by simp, by omega, by omega⟩

set_option maxHeartbeats 1600000 in
theorem WindowCan_any (n b m : Int) (w : World) (_ : (Lit.int .i64 n).wf = true) (_ : (Lit.int .i64 b).wf = true) (_ : (Lit.int .i64 m).wf = true) :
    Calls Try.prog 4 #[.int .i64 n, .int .i64 b, .int .i64 m] w fun e w' => e = .returned (.bool true) ∧ Below w.heap.size w w' := by
  by_cases hn : 0 ≤ n ∧ n ≤ 2147483647
  · obtain ⟨h0, h1⟩ := hn
    rcases step_shift0 n b h0 h1 with ⟨hs, b0, b1⟩ | hs
    · have HS := Lib.hid hs
      clear hs
      go_enter Try.func4, Try.ntmps4
      go_wp2_with fail
      refine (wnew_yes n _ h0 h1).mono ?_
      rintro e w1 ⟨rfl, hf1⟩
      have HW := Lib.hid (new_win hf1 n (by omega) h1)
      go_wp2_with fail
      refine (shift_w w1.heap.size n b 0 _ HW.out).mono ?_
      rw [HS.out]
      rintro e w2 ⟨rfl, hW2, ho2⟩
      have hbl : Below w.heap.size w w2 := (Below.trans hf1 ((Below.refl _ _).alloc hf1.size _)).trans (ho2.below (by have := hf1.size; simp; omega) (fun k hk => by have := hf1.size; omega))
      clear HW ho2
      generalize n - b = s at *
      simp only at hW2
      have dw := hW2.cell
      have hs0 := hW2.2.1
      have hs1 := hW2.2.2
      by_cases hm : 2147483647 < m
      · have hcan : ¬ (m = 0 ∨ (1 ≤ m ∧ m ≤ s)) := by omega
        have HC := Lib.hid (fun w => can_no s m w hcan)
        have HSp := Lib.hid (fun p w => spend_range p m w (by omega))
        clear hcan
        have HW2 := Lib.hid hW2
        clear hW2
        go_wp2_with fail
        refine (HC.out _).mono ?_
        rintro e w3 ⟨rfl, hf3⟩
        have dw3 := (HW2.out.fresh hf3).cell
        clear dw
        go_wp2_with fail
        refine (wsize_any s _).mono ?_
        rintro e w4 ⟨rfl, hf4⟩
        have dw4 := ((HW2.out.fresh hf3).fresh hf4).cell
        clear dw3
        go_wp2_with fail
        refine (HSp.out _ _).mono ?_
        rintro e w5 ⟨rfl, rfl⟩
        go_wp2_with fail
        refine (awake_true _).mono ?_
        rintro e w6 ⟨rfl, hf6⟩
        go_wp2_with fail
        go_ret
        exact ⟨rfl, hbl.trans (Below.mono (hf3.trans (hf4.trans hf6)) hbl.size)⟩
      · by_cases hcan : m = 0 ∨ (1 ≤ m ∧ m ≤ s)
        · have HC := Lib.hid (fun w => can_yes s m w hcan)
          have hst : stepF s 2 m 0 = (s - m, 0) := by
            unfold stepF; rw [if_neg (by omega), if_neg (by omega), if_neg (by omega), if_neg (by omega)]
          have HST := Lib.hid hst
          clear hst
          have hcb : 0 ≤ m := by omega
          have hcb2 : -4294967296 ≤ s - m := by omega
          clear hcan
          have HW2 := Lib.hid hW2
          clear hW2
          go_wp2_with fail
          refine (HC.out _).mono ?_
          rintro e w3 ⟨rfl, hf3⟩
          have dw3 := (HW2.out.fresh hf3).cell
          clear dw
          go_wp2_with fail
          refine (wsize_any s _).mono ?_
          rintro e w4 ⟨rfl, hf4⟩
          clear dw3
          go_wp2_with fail
          refine (spend_w w1.heap.size s m 0 _ ((HW2.out.fresh hf3).fresh hf4)).mono ?_
          rw [HST.out]
          rintro e w5 ⟨rfl, hW5, ho5⟩
          have dw5 := hW5.cell
          simp only at dw5
          have HW5 := Lib.hid hW5
          clear hW5
          have hlt5 : w.heap.size ≤ w4.heap.size := Nat.le_trans hbl.size (Nat.le_trans hf3.size hf4.size)
          have hbl5 : Below w.heap.size w w5 := (hbl.trans (Below.mono (hf3.trans hf4) hbl.size)).trans (ho5.below hlt5 (fun k hk => by have := hf1.size; omega))
          clear ho5
          go_wp2_with fail
          refine (wsize_any (s - m) _).mono ?_
          rintro e w6 ⟨rfl, hf6⟩
          go_wp2_with fail
          refine (awake_true _).mono ?_
          rintro e w7 ⟨rfl, hf7⟩
          go_wp2_with fail
          go_ret
          exact ⟨rfl, hbl5.trans (Below.mono (hf6.trans hf7) hbl5.size)⟩
        · have HC := Lib.hid (fun w => can_no s m w hcan)
          have hst : ∃ r, stepF s 2 m 0 = (s, r) ∧ (r == 0) = false := by
            by_cases hm0 : m < 0
            · exact ⟨11, by unfold stepF; rw [if_neg (by omega), if_pos (by omega)], rfl⟩
            · exact ⟨15, by unfold stepF; rw [if_neg (by omega), if_neg (by omega), if_neg (by omega), if_pos (by omega)], rfl⟩
          obtain ⟨r, hst, hr⟩ := hst
          have hrn : (r != 0) = true := by simp at hr ⊢; exact hr
          have HST := Lib.hid hst
          clear hst
          clear hcan
          have HW2 := Lib.hid hW2
          clear hW2
          go_wp2_with fail
          refine (HC.out _).mono ?_
          rintro e w3 ⟨rfl, hf3⟩
          have dw3 := (HW2.out.fresh hf3).cell
          clear dw
          go_wp2_with fail
          refine (wsize_any s _).mono ?_
          rintro e w4 ⟨rfl, hf4⟩
          clear dw3
          go_wp2_with fail
          refine (spend_w w1.heap.size s m 0 _ ((HW2.out.fresh hf3).fresh hf4)).mono ?_
          rw [HST.out]
          rintro e w5 ⟨rfl, hW5, ho5⟩
          have dw5 := hW5.cell
          simp only at dw5
          have HW5 := Lib.hid hW5
          clear hW5
          have hlt5 : w.heap.size ≤ w4.heap.size := Nat.le_trans hbl.size (Nat.le_trans hf3.size hf4.size)
          have hbl5 : Below w.heap.size w w5 := (hbl.trans (Below.mono (hf3.trans hf4) hbl.size)).trans (ho5.below hlt5 (fun k hk => by have := hf1.size; omega))
          clear ho5
          go_wp2_with fail
          refine (wsize_any s _).mono ?_
          rintro e w6 ⟨rfl, hf6⟩
          go_wp2_with fail
          refine (awake_true _).mono ?_
          rintro e w7 ⟨rfl, hf7⟩
          go_wp2_with fail
          go_ret
          exact ⟨rfl, hbl5.trans (Below.mono (hf6.trans hf7) hbl5.size)⟩
    · have hr : ((stepF n 3 b 0).2 != 0) = true := by simpa using hs
      clear hs
      have HBD := Lib.hid (stepF_bd n 3 b 0 (by omega) (by omega))
      generalize hq : stepF n 3 b 0 = r at *
      obtain ⟨r1, r2⟩ := r
      simp only at hr
      have HQ := Lib.hid hq
      clear hq
      go_enter Try.func4, Try.ntmps4
      go_wp2_with fail
      refine (wnew_yes n _ h0 h1).mono ?_
      rintro e w1 ⟨rfl, hf1⟩
      have HW := Lib.hid (new_win hf1 n (by omega) h1)
      go_wp2_with fail
      refine (shift_w w1.heap.size n b 0 _ HW.out).mono ?_
      rw [HQ.out]
      rintro e w2 ⟨rfl, hW2, ho2⟩
      have hbl : Below w.heap.size w w2 := (Below.trans hf1 ((Below.refl _ _).alloc hf1.size _)).trans (ho2.below (by have := hf1.size; simp; omega) (fun k hk => by have := hf1.size; omega))
      clear HW ho2 hW2
      go_wp2_with fail
      refine (awake_true _).mono ?_
      rintro e w6 ⟨rfl, hf6⟩
      go_wp2_with fail
      go_ret
      exact ⟨rfl, hbl.trans (Below.mono hf6 hbl.size)⟩
  · have HN := Lib.hid (fun w => wnew_no n w hn)
    clear hn
    go_enter Try.func4, Try.ntmps4
    go_wp2_with fail
    refine (HN.out _).mono ?_
    rintro e w1 ⟨rfl, hf1⟩
    go_wp2_with fail
    refine (awake_true _).mono ?_
    rintro e w6 ⟨rfl, hf6⟩
    go_wp2_with fail
    go_ret
    exact ⟨rfl, (hf1.trans (Fresh.alloc _ _)).trans hf6⟩
end Go.Proofs.Ytdcifbkdibnoaaa
