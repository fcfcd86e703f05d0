/-
  The law WindowParts: its walk.
-/
import Derived.Test.YtdcifbkdibnoaaaWindowV
import Derived.Deep.RegionWith
import Derived.Deep.RegionHeld3
import Derived.IntWalk
namespace Go.Proofs.Ytdcifbkdibnoaaa
set_option linter.unusedVariables false
open Go.RowKit

def psum (t : Int) (n : Nat) (k : Nat) : Int := (k : Int) * (t / n) + min (k : Int) (t % n)
theorem psum_succ (t : Int) (n k : Nat) : psum t n (k + 1) = psum t n k + part t n k := by
  unfold psum part
  rw [show ((k + 1 : Nat) : Int) = (k : Int) + 1 by omega, Int.add_mul]
  split <;> omega
theorem psum_all (t : Int) (n : Nat) (hn : 0 < n) : psum t n n = t := by
  have r1 := Int.emod_lt_of_pos t (show (0 : Int) < n by omega)
  have e1 := Int.mul_ediv_add_emod t n
  unfold psum; omega
theorem part_mono (t : Int) (n i j : Nat) (h : i ≤ j) : part t n j ≤ part t n i ∧ part t n i ≤ part t n j + 1 := by
  unfold part
  repeat' split
  all_goals omega
theorem part_nonneg (t : Int) (n i : Nat) (h0 : 0 ≤ t) : 0 ≤ part t n i := by
  have := Int.ediv_nonneg h0 (show (0 : Int) ≤ n by omega)
  unfold part; split <;> omega
theorem psum_le (t : Int) (n k : Nat) (h0 : 0 ≤ t) (hn : 0 < n) (hk : k ≤ n) : 0 ≤ psum t n k ∧ psum t n k ≤ t := by
  have q0 := Int.ediv_nonneg h0 (show (0 : Int) ≤ n by omega)
  have r0 := Int.emod_nonneg t (show (n : Int) ≠ 0 by omega)
  have e1 := Int.mul_ediv_add_emod t n
  have m1 : (k : Int) * (t / n) ≤ n * (t / n) := Int.mul_le_mul_of_nonneg_right (by omega) q0
  have m0 : 0 ≤ (k : Int) * (t / n) := Int.mul_nonneg (by omega) q0
  unfold psum; omega

set_option maxHeartbeats 800000 in
theorem WindowParts_any (t n : Int) (w : World) (wt : (Lit.int .i64 t).wf = true) (_ : (Lit.int .i64 n).wf = true) :
    Calls Try.prog 6 #[.int .i64 t, .int .i64 n] w fun e w' => e = .returned (.bool true) ∧ Below w.heap.size w w' := by
  by_cases hr : 1 ≤ n ∧ n ≤ 64 ∧ 0 ≤ t
  · obtain ⟨h1, h2, h3⟩ := hr
    have hb := wf_i64_bd wt
    obtain ⟨m, rfl⟩ : ∃ m : Nat, n = m := ⟨n.toNat, by omega⟩
    clear wt
    have HP := Lib.hid (fun w => parts_yes t m w (by omega) (by omega) h3 hb.2)
    have hb2 := hb.2
    clear hb
    go_enter Try.func6, Try.ntmps6
    go_wp2_with fail
    refine (HP.out _).mono ?_
    rintro e w1 ⟨rfl, hB, hf⟩
    have hcell : ∀ j, j < m → w1.cell? ⟨w.heap.size, j, none⟩ = some (.int .i64 (part t m j)) := fun j hj => by
      rw [hB.cell, intsA_get, partsL_get t m j hj]; rfl
    have HC := Lib.hid hcell
    clear hcell hB
    have c0 := HC.out 0 (by omega)
    have cl := HC.out (m - 1) (by omega)
    have HZ := Lib.hid (psum_all t m (by omega))
    go_wp2_with fail
    go_loop [6, 30] (fun s i => ∃ k : Nat, k ≤ m ∧ i = .int .i64 k ∧ s = .int .i64 (psum t m k)) (fun _ i => m - (intOf i).toNat)
    case atStart =>
      have r0 := Int.emod_nonneg t (show (m : Int) ≠ 0 by omega)
      exact ⟨0, by omega, rfl, congrArg (Value.int .i64) (by unfold psum; omega)⟩
    case round =>
      obtain ⟨k, hk, rfl, rfl⟩ := hrel
      by_cases hlt : k < m
      · have ck := HC.out k hlt
        have hs := psum_succ t m k
        have HS := Lib.hid hs
        have b1 := psum_le t m (k + 1) h3 (by omega) (by omega)
        have b0 := psum_le t m k h3 (by omega) (by omega)
        have pn := part_nonneg t m k h3
        have g1 := (part_mono t m k (m - 1) (by omega)).1
        have g2 := (part_mono t m 0 k (by omega)).1
        rw [hs] at b1
        clear hs
        by_cases hk0 : k = 0
        · subst hk0
          have : psum t m 0 = 0 := by
            have r0 := Int.emod_nonneg t (show (m : Int) ≠ 0 by omega)
            unfold psum; omega
          have HS0 : Hid (psum t m 1 = part t m 0) := by
            have := HS.out
            rw [show 0 + 1 = 1 from rfl] at this
            show _ = _
            omega
          go_wp2_with fail
          go_round
          case rel => exact ⟨1, by omega, rfl, by rw [HS0.out]⟩
          case measure => simp [intOf]; omega
        · have hkp : 0 < k := by omega
          have hkpi : (0 : Int) < (k : Int) := by omega
          have cp := HC.out (k - 1) (by omega)
          have g3 := (part_mono t m (k - 1) k (by omega)).1
          have ek : ((k - 1 : Nat) : Int) = (k : Int) - 1 := by omega
          go_wp2_with fail
          go_round
          case rel => exact ⟨k + 1, by omega, by go_num, by rw [HS.out]⟩
          case measure => simp [intOf]; omega
      · obtain rfl : k = m := by omega
        rw [HZ.out]
        have g1 := part_mono t k 0 (k - 1) (by omega)
        have e1 : ((k - 1 : Nat) : Int) = (k : Int) - 1 := by omega
        have g2 : part t k 0 - part t k (k - 1) ≤ 1 := by omega
        have g3 : 0 ≤ part t k 0 - part t k (k - 1) := by omega
        have p0 := part_nonneg t k 0 h3
        have p1 := part_nonneg t k (k - 1) h3
        have p2 := (psum_le t k 1 h3 (by omega) (by omega)).2
        rw [show 1 = 0 + 1 from rfl, psum_succ] at p2
        have p3 : psum t k 0 = 0 := by
          have r0 := Int.emod_nonneg t (show (k : Int) ≠ 0 by omega)
          unfold psum; omega
        have p4 : part t k 0 ≤ t := by omega
        have p5 : (0 : Int) < (k : Int) := by omega
        have p6 : 0 < k := by omega
        have p7 : ((k : Int) - 1).toNat = k - 1 := by omega
        have p8 : (0 : Int) ≤ (k : Int) - 1 := by omega
        have p9 : (1 : Int) ≤ (k : Int) := by omega
        have pa : k - 1 < k := by omega
        clear p2 p3 e1
        go_wp2_with fail
        have hg : w.heap.size < w1.heap.size := cell_block_lt (a := ⟨w.heap.size, 0, none⟩) c0
        have q1 : IntKind.i64.wrap ((k : Int) - 1) = (k : Int) - 1 := IntWalk.i64_in _ (by omega)
        have q2 : (k : Int) - 1 < (k : Int) := by omega
        have q3 : IntKind.i64.wrap (part t k 0 - part t k (k - 1)) = part t k 0 - part t k (k - 1) := IntWalk.i64_in _ (by omega)
        go_region_held3 (fun w' => w'.cell? ⟨w.heap.size, 0, none⟩ = some (.int .i64 (part t k 0)) ∧ w'.cell? ⟨w.heap.size, k - 1, none⟩ = some (.int .i64 (part t k (k - 1))))
          (first
            | go_keep
            | (go_split_ands
               refine ⟨?_, ?_⟩
               · (rw [hf2.cell (by simpa using hg)]; assumption)
               · (rw [hf2.cell (by simpa using hg)]; assumption)))
          ((go_at_call 8; refine (awake_true _).mono ?_; rintro e w2 ⟨rfl, hf2⟩))
        go_wp2_with fail
        go_ret
        exact ⟨rfl, hf.trans ((Fresh.drew _).trans hf2)⟩
  · have HP := Lib.hid (fun w => parts_no t n w (by omega))
    by_cases c1 : t < 0
    · clear hr
      go_enter Try.func6, Try.ntmps6
      go_wp2_with fail
      refine (HP.out _).mono ?_
      rintro e w1 ⟨rfl, rfl⟩
      go_wp2_with fail
      refine (awake_true _).mono ?_
      rintro e w1 ⟨rfl, hf⟩
      go_wp2_with fail
      go_ret
      exact ⟨rfl, hf⟩
    · by_cases c2 : n < 1
      · clear hr
        go_enter Try.func6, Try.ntmps6
        go_wp2_with fail
        refine (HP.out _).mono ?_
        rintro e w1 ⟨rfl, rfl⟩
        go_wp2_with fail
        refine (awake_true _).mono ?_
        rintro e w1 ⟨rfl, hf⟩
        go_wp2_with fail
        go_ret
        exact ⟨rfl, hf⟩
      · have c3 : 64 < n := by omega
        clear hr
        go_enter Try.func6, Try.ntmps6
        go_wp2_with fail
        refine (HP.out _).mono ?_
        rintro e w1 ⟨rfl, rfl⟩
        go_wp2_with fail
        refine (awake_true _).mono ?_
        rintro e w1 ⟨rfl, hf⟩
        go_wp2_with fail
        go_ret
        exact ⟨rfl, hf⟩
end Go.Proofs.Ytdcifbkdibnoaaa
