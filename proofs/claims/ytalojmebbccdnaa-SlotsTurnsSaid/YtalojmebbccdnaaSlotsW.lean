/-
  Walks of package slots: the contracts of its functions.
-/
import Derived.Test.YtalojmebbccdnaaRows
import Derived.Test.YtalojmebbccdnaaSlotsM
import Derived.Test.YtalojmebbccdnaaMem
import Derived.WalkKit
import Derived.WalkLawsBesides
import Derived.WalkSpells
import Derived.ProofKit
import Derived.OpenShut
import Derived.Outline
import Derived.Lib.Hide
namespace Go.Proofs.Ytalojmebbccdnaa
set_option linter.unusedVariables false
open Go.RowKit

def inB (lo hi : Int) (l : List Int) : Bool := l.all fun x => decide (lo ≤ x) && decide (x ≤ hi)

theorem inB_succ (lo hi : Int) (zs : List Int) (k : Nat) (hk : k < zs.length) (h : inB lo hi (zs.take k) = true) (h1 : lo ≤ zs[k]?.getD 0) (h2 : zs[k]?.getD 0 ≤ hi) : inB lo hi (zs.take (k + 1)) = true := by
  unfold inB at *
  rw [List.take_add_one, List.all_append, h]
  simp [List.getElem?_eq_getElem hk] at h1 h2 ⊢
  exact ⟨h1, h2⟩
theorem inB_not (lo hi : Int) (zs : List Int) (n k : Nat) (hn : n ≤ zs.length) (hk : k < n) (h : zs[k]?.getD 0 < lo ∨ hi < zs[k]?.getD 0) : inB lo hi (zs.take n) = false := by
  rw [← Bool.not_eq_true]
  intro ha
  unfold inB at ha
  rw [List.all_eq_true] at ha
  have hk' : k < zs.length := by omega
  rw [List.getElem?_eq_getElem hk', Option.getD_some] at h
  have := ha zs[k] (by rw [List.mem_take_iff_getElem]; exact ⟨k, by omega, rfl⟩)
  simp at this
  omega

set_option maxHeartbeats 400000 in
theorem within_any (lo hi : Int) (b off n cap : Nat) (zs : List Int) (w : World) (hz : n ≤ zs.length) (hn : n ≤ 9223372036854775807)
    (hc : ∀ j, j < zs.length → w.cell? ⟨b, off + j, none⟩ = some (.int .i64 (zs.getD j 0))) :
    Calls Try.prog 19 #[.int .i64 lo, .int .i64 hi, .slice (some ⟨b, off, none⟩) n cap] w fun e w' => e = .returned (.bool (inB lo hi (zs.take n))) ∧ w = w' := by
  go_enter Try.func19, Try.ntmps19
  go_wp2
  go_loop [11] (fun i => ∃ k : Nat, k ≤ n ∧ i = .int .i64 k ∧ inB lo hi (zs.take k) = true) (fun i => n - (intOf i).toNat)
  case atStart => exact ⟨0, Nat.zero_le _, rfl, rfl⟩
  case round =>
    obtain ⟨k, hk, rfl, hin⟩ := hrel
    have hcell : k < n → w.cell? ⟨b, off + k, none⟩ = some (.int .i64 (zs.getD k 0)) := fun _ => hc k (by omega)
    go_wp2
    · have hlt : k < n := by assumption
      have hor : zs[k]?.getD 0 < lo ∨ hi < zs[k]?.getD 0 := by assumption
      go_ret
      exact ⟨ret_bool (inB_not lo hi zs n k hz hlt hor).symm, rfl⟩
    · have hlt : k < n := by assumption
      have hand : lo ≤ zs[k]?.getD 0 ∧ zs[k]?.getD 0 ≤ hi := by assumption
      go_round
      case rel => exact ⟨k + 1, by omega, by go_num, inB_succ lo hi zs k (by omega) hin hand.1 hand.2⟩
      case measure => simp [intOf]; omega
    · have hlt : k < n := by assumption
      have hor : zs[k]?.getD 0 < lo := by assumption
      go_ret
      exact ⟨ret_bool (inB_not lo hi zs n k hz hlt (.inl hor)).symm, rfl⟩
    · have hge : ¬ k < n := by assumption
      obtain rfl : k = n := by omega
      go_ret
      exact ⟨ret_bool hin.symm, rfl⟩

/-- One number, in a new block. -/
theorem within_1 (lo hi x : Int) (w : World) :
    Calls Try.prog 19 #[.int .i64 lo, .int .i64 hi, .slice (some ⟨w.heap.size, 0, none⟩) 1 1] (w.alloc (.cells #[.int .i64 x] 3)) fun e w' => e = .returned (.bool (decide (lo ≤ x) && decide (x ≤ hi))) ∧ w.alloc (.cells #[.int .i64 x] 3) = w' := by
  have h := within_any lo hi w.heap.size 0 1 1 [x] (w.alloc (.cells #[.int .i64 x] 3)) (by simp) (by omega) (by
    intro j hj
    simp only [List.length_singleton] at hj
    obtain rfl : j = 0 := by omega
    simp)
  simpa [inB] using h

theorem rightTenants_any (n : Int) (w : World) :
    Calls Try.prog 20 #[.int .i64 n] w fun e w' => e = .returned (.bool (decide (1 ≤ n) && decide (n ≤ 64))) ∧ Fresh w w' := by
  go_enter Try.func20, Try.ntmps20
  go_wp2_with (go_at_call 19; refine (within_1 _ _ _ _).mono ?_; rintro e w' ⟨rfl, rfl⟩)
  go_ret
  exact ⟨rfl, Fresh.alloc _ _⟩

def okB (t n : Int) : Bool := (decide (0 ≤ t) && decide (t ≤ 1073741823)) && (decide (1 ≤ n) && decide (n ≤ 64))

set_option maxHeartbeats 400000 in
theorem owner_yes (t n : Int) (w : World) (h0 : 0 ≤ t) (h1 : t ≤ 1073741823) (h2 : 1 ≤ n) (h3 : n ≤ 64) :
    Calls Try.prog 9 #[.int .i64 t, .int .i64 n] w fun e w' => e = .returned (.tuple #[.int .i64 (t % n), .int .i64 0]) ∧ Fresh w w' := by
  go_enter Try.func9, Try.ntmps9
  go_wp2_with (first | (go_at_call 19; refine (within_1 _ _ _ _).mono ?_; rintro e w' ⟨rfl, rfl⟩) | (go_at_call 20; refine (rightTenants_any _ _).mono ?_; rintro e w' ⟨rfl, hf⟩))
  go_ret2
  exact ⟨rfl, hf.tA⟩

set_option maxHeartbeats 400000 in
theorem owner_no (t n : Int) (w : World) (h : ¬ (0 ≤ t ∧ t ≤ 1073741823 ∧ 1 ≤ n ∧ n ≤ 64)) :
    Calls Try.prog 9 #[.int .i64 t, .int .i64 n] w fun e w' => e = .returned (.tuple #[.int .i64 0, .int .i64 11]) ∧ Fresh w w' := by
  by_cases h0 : 0 ≤ t ∧ t ≤ 1073741823
  · have HA : Hid ((decide (0 ≤ t) && decide (t ≤ 1073741823)) = true) := by show _ = _; simp [h0]
    have HB : Hid ((decide (1 ≤ n) && decide (n ≤ 64)) = false) := by
      show _ = _
      rw [← Bool.not_eq_true]; intro hh; simp at hh; omega
    clear h h0
    go_enter Try.func9, Try.ntmps9
    go_wp2_with (first | (go_at_call 19; refine (within_1 _ _ _ _).mono ?_; rw [HA.out]; rintro e w' ⟨rfl, rfl⟩) | (go_at_call 20; refine (rightTenants_any _ _).mono ?_; rw [HB.out]; rintro e w' ⟨rfl, hf⟩))
    go_ret2
    exact ⟨rfl, hf.tA⟩
  · have HA : Hid ((decide (0 ≤ t) && decide (t ≤ 1073741823)) = false) := by
      show _ = _
      rw [← Bool.not_eq_true]; intro hh; simp at hh; omega
    clear h h0
    go_enter Try.func9, Try.ntmps9
    go_wp2_with (go_at_call 19; refine (within_1 _ _ _ _).mono ?_; rw [HA.out]; rintro e w' ⟨rfl, rfl⟩)
    go_ret2
    exact ⟨rfl, Fresh.alloc _ _⟩

set_option maxHeartbeats 400000 in
theorem round_yes (t n : Int) (w : World) (h0 : 0 ≤ t) (h1 : t ≤ 1073741823) (h2 : 1 ≤ n) (h3 : n ≤ 64) :
    Calls Try.prog 11 #[.int .i64 t, .int .i64 n] w fun e w' => e = .returned (.int .i64 (t / n)) ∧ Fresh w w' := by
  go_enter Try.func11, Try.ntmps11
  go_wp2_with (go_at_call 9; refine (owner_yes _ _ _ h0 h1 h2 h3).mono ?_; rintro e w' ⟨rfl, hf⟩)
  go_ret
  exact ⟨rfl, hf⟩
theorem round_no (t n : Int) (w : World) (h : ¬ (0 ≤ t ∧ t ≤ 1073741823 ∧ 1 ≤ n ∧ n ≤ 64)) :
    Calls Try.prog 11 #[.int .i64 t, .int .i64 n] w fun e w' => e = .returned (.int .i64 0) ∧ Fresh w w' := by
  have H := Lib.hid h; clear h
  go_enter Try.func11, Try.ntmps11
  go_wp2_with (go_at_call 9; refine (owner_no _ _ _ H.out).mono ?_; rintro e w' ⟨rfl, hf⟩)
  go_ret
  exact ⟨rfl, hf⟩

set_option maxHeartbeats 400000 in
theorem rightTenant_any (a n : Int) (w : World) :
    Calls Try.prog 21 #[.int .i64 a, .int .i64 n] w fun e w' => e = .returned (.bool ((decide (1 ≤ n) && decide (n ≤ 64)) && (decide (0 ≤ a) && decide (a ≤ n - 1)))) ∧ Fresh w w' := by
  by_cases h : (decide (1 ≤ n) && decide (n ≤ 64)) = true
  · have hb : 1 ≤ n ∧ n ≤ 64 := by simpa using h
    obtain ⟨h2, h3⟩ := hb
    have H := Lib.hid h; clear h
    rw [H.out, Bool.true_and]
    go_enter Try.func21, Try.ntmps21
    go_wp2_with (first | (go_at_call 19; refine (within_1 _ _ _ _).mono ?_; rintro e w' ⟨rfl, rfl⟩) | (go_at_call 20; refine (rightTenants_any _ _).mono ?_; rw [H.out]; rintro e w' ⟨rfl, hf⟩))
    go_ret
    exact ⟨rfl, hf.trans (Fresh.alloc _ _)⟩
  · rw [Bool.not_eq_true] at h
    have H := Lib.hid h; clear h
    rw [H.out, Bool.false_and]
    go_enter Try.func21, Try.ntmps21
    go_wp2_with (go_at_call 20; refine (rightTenants_any _ _).mono ?_; rw [H.out]; rintro e w' ⟨rfl, hf⟩)
    go_ret
    exact ⟨rfl, hf⟩

set_option maxHeartbeats 400000 in
theorem next_yes (a f n : Int) (w : World) (h0 : 0 ≤ f) (h1 : f ≤ 1073741823) (h2 : 1 ≤ n) (h3 : n ≤ 64) (h4 : 0 ≤ a) (h5 : a < n) (h6 : SM.nextOf a f n ≤ 1073741823) :
    Calls Try.prog 13 #[.int .i64 a, .int .i64 f, .int .i64 n] w fun e w' => e = .returned (.tuple #[.int .i64 (SM.nextOf a f n), .int .i64 0]) ∧ Fresh w w' := by
  have r0 := Int.emod_nonneg f (show n ≠ 0 by omega)
  have r1 := Int.emod_lt_of_pos f (show 0 < n by omega)
  have s0 := Int.emod_nonneg (a - f) (show n ≠ 0 by omega)
  have s1 := Int.emod_lt_of_pos (a - f) (show 0 < n by omega)
  have h5' : a ≤ n - 1 := by omega
  unfold SM.nextOf at h6 ⊢
  go_enter Try.func13, Try.ntmps13
  go_wp2_with (first | (go_at_call 9; refine (owner_yes _ _ _ h0 h1 h2 h3).mono ?_; rintro e w' ⟨rfl, hf⟩) | (go_at_call 21; refine (rightTenant_any _ _ _).mono ?_; rintro e w' ⟨rfl, hg⟩))
  go_ret2
  exact ⟨rfl, hf.trans hg⟩

set_option maxHeartbeats 400000 in
theorem next_no (a f n : Int) (w : World) (h : ¬ (0 ≤ f ∧ f ≤ 1073741823 ∧ 1 ≤ n ∧ n ≤ 64 ∧ 0 ≤ a ∧ a < n ∧ SM.nextOf a f n ≤ 1073741823)) :
    Calls Try.prog 13 #[.int .i64 a, .int .i64 f, .int .i64 n] w fun e w' => e = .returned (.tuple #[.int .i64 0, .int .i64 11]) ∧ Fresh w w' := by
  by_cases hr : 0 ≤ f ∧ f ≤ 1073741823 ∧ 1 ≤ n ∧ n ≤ 64
  · obtain ⟨h0, h1, h2, h3⟩ := hr
    have r0 := Int.emod_nonneg f (show n ≠ 0 by omega)
    have r1 := Int.emod_lt_of_pos f (show 0 < n by omega)
    have s0 := Int.emod_nonneg (a - f) (show n ≠ 0 by omega)
    have s1 := Int.emod_lt_of_pos (a - f) (show 0 < n by omega)
    by_cases hB : ((decide (1 ≤ n) && decide (n ≤ 64)) && (decide (0 ≤ a) && decide (a ≤ n - 1))) = true
    · have h6 : ¬ f + (a - f) % n ≤ 1073741823 := by unfold SM.nextOf at h; simp at hB; omega
      have h4 : 0 ≤ a := by simp at hB; omega
      have h5 : a ≤ n - 1 := by simp at hB; omega
      clear h
      have HB := Lib.hid hB; clear hB
      go_enter Try.func13, Try.ntmps13
      go_wp2_with (first | (go_at_call 9; refine (owner_yes _ _ _ h0 h1 h2 h3).mono ?_; rintro e w' ⟨rfl, hf⟩) | (go_at_call 21; refine (rightTenant_any _ _ _).mono ?_; rw [HB.out]; rintro e w' ⟨rfl, hg⟩))
      go_ret2
      exact ⟨rfl, hf.trans hg⟩
    · clear h
      rw [Bool.not_eq_true] at hB
      have HB := Lib.hid hB; clear hB
      go_enter Try.func13, Try.ntmps13
      go_wp2_with (first | (go_at_call 9; refine (owner_yes _ _ _ h0 h1 h2 h3).mono ?_; rintro e w' ⟨rfl, hf⟩) | (go_at_call 21; refine (rightTenant_any _ _ _).mono ?_; rw [HB.out]; rintro e w' ⟨rfl, hg⟩))
      go_ret2
      exact ⟨rfl, hf.trans hg⟩
  · clear h
    have H := Lib.hid hr; clear hr
    go_enter Try.func13, Try.ntmps13
    go_wp2_with (go_at_call 9; refine (owner_no _ _ _ H.out).mono ?_; rintro e w' ⟨rfl, hf⟩)
    go_ret2
    exact ⟨rfl, hf⟩

set_option maxHeartbeats 400000 in
theorem ahead_any (x a n : Int) (w : World) (h0 : 0 ≤ x) (h1 : x ≤ 1073741823) (h2 : 1 ≤ n) :
    Calls Try.prog 22 #[.int .i64 x, .int .i64 a, .int .i64 n] w fun e w' => e = .returned (.int .i64 (SM.ahead x a n)) ∧ w = w' := by
  have q0 := Int.ediv_nonneg h0 (show 0 ≤ n by omega)
  have q1 := Int.ediv_le_self n h0
  by_cases h : a < x % n
  · have e : SM.ahead x a n = x / n + 1 := by unfold SM.ahead; rw [if_pos h]
    rw [e]; clear e
    go_enter Try.func22, Try.ntmps22
    go_wp2
    go_ret
    exact ⟨rfl, rfl⟩
  · have e : SM.ahead x a n = x / n := by unfold SM.ahead; rw [if_neg h]; omega
    rw [e]; clear e
    go_enter Try.func22, Try.ntmps22
    go_wp2
    go_ret
    exact ⟨rfl, rfl⟩

theorem within_2 (lo hi x y : Int) (w : World) :
    Calls Try.prog 19 #[.int .i64 lo, .int .i64 hi, .slice (some ⟨w.heap.size, 0, none⟩) 2 2] (w.alloc (.cells #[.int .i64 x, .int .i64 y] 3)) fun e w' => e = .returned (.bool ((decide (lo ≤ x) && decide (x ≤ hi)) && (decide (lo ≤ y) && decide (y ≤ hi)))) ∧ w.alloc (.cells #[.int .i64 x, .int .i64 y] 3) = w' := by
  have h := within_any lo hi w.heap.size 0 2 2 [x, y] (w.alloc (.cells #[.int .i64 x, .int .i64 y] 3)) (by simp) (by omega) (by
    intro j hj
    match j, hj with
    | 0, _ => simp
    | 1, _ => simp)
  simpa [inB] using h
theorem within_3 (lo hi x y z : Int) (w : World) :
    Calls Try.prog 19 #[.int .i64 lo, .int .i64 hi, .slice (some ⟨w.heap.size, 0, none⟩) 3 3] (w.alloc (.cells #[.int .i64 x, .int .i64 y, .int .i64 z] 3)) fun e w' => e = .returned (.bool ((decide (lo ≤ x) && decide (x ≤ hi)) && ((decide (lo ≤ y) && decide (y ≤ hi)) && (decide (lo ≤ z) && decide (z ≤ hi))))) ∧ w.alloc (.cells #[.int .i64 x, .int .i64 y, .int .i64 z] 3) = w' := by
  have h := within_any lo hi w.heap.size 0 3 3 [x, y, z] (w.alloc (.cells #[.int .i64 x, .int .i64 y, .int .i64 z] 3)) (by simp) (by omega) (by
    intro j hj
    match j, hj with
    | 0, _ => simp
    | 1, _ => simp
    | 2, _ => simp)
  simpa [inB] using h

set_option maxHeartbeats 400000 in
theorem between_yes (f t a n : Int) (w : World) (h0 : 0 ≤ f) (h1 : f < t) (h2 : t ≤ 1073741823) (h3 : 1 ≤ n) (h4 : n ≤ 64) (h5 : 0 ≤ a) (h6 : a < n) :
    Calls Try.prog 15 #[.int .i64 f, .int .i64 t, .int .i64 a, .int .i64 n] w fun e w' => e = .returned (.int .i64 (SM.ahead t a n - SM.ahead f a n)) ∧ Fresh w w' := by
  have b0 := SM.ahead_bd f a n h3 h0 (by omega)
  have b1 := SM.ahead_bd t a n h3 (by omega) h2
  have h6' : a ≤ n - 1 := by omega
  go_enter Try.func15, Try.ntmps15
  go_wp2_with (first | (go_at_call 19; refine (within_2 _ _ _ _ _).mono ?_; rintro e w' ⟨rfl, rfl⟩) | (go_at_call 21; refine (rightTenant_any _ _ _).mono ?_; rintro e w' ⟨rfl, hg⟩) | (go_at_call 22; refine (ahead_any _ _ _ _ (by omega) (by omega) (by omega)).mono ?_; rintro e w' ⟨rfl, rfl⟩))
  go_ret
  exact ⟨rfl, hg.tA⟩

set_option maxHeartbeats 400000 in
theorem between_no (f t a n : Int) (w : World) (h : ¬ (0 ≤ f ∧ f < t ∧ t ≤ 1073741823 ∧ 1 ≤ n ∧ n ≤ 64 ∧ 0 ≤ a ∧ a < n)) :
    Calls Try.prog 15 #[.int .i64 f, .int .i64 t, .int .i64 a, .int .i64 n] w fun e w' => e = .returned (.int .i64 0) ∧ Fresh w w' := by
  by_cases hA : ((decide (0 ≤ f) && decide (f ≤ 1073741823)) && (decide (0 ≤ t) && decide (t ≤ 1073741823))) = true
  · by_cases hB : ((decide (1 ≤ n) && decide (n ≤ 64)) && (decide (0 ≤ a) && decide (a ≤ n - 1))) = true
    · have hle : t ≤ f := by simp at hA hB; omega
      clear h
      have HA := Lib.hid hA; have HB := Lib.hid hB; clear hA hB
      go_enter Try.func15, Try.ntmps15
      go_wp2_with (first | (go_at_call 19; refine (within_2 _ _ _ _ _).mono ?_; rw [HA.out]; rintro e w' ⟨rfl, rfl⟩) | (go_at_call 21; refine (rightTenant_any _ _ _).mono ?_; rw [HB.out]; rintro e w' ⟨rfl, hg⟩))
      go_ret
      exact ⟨rfl, hg.tA⟩
    · clear h
      rw [Bool.not_eq_true] at hB
      have HA := Lib.hid hA; have HB := Lib.hid hB; clear hA hB
      go_enter Try.func15, Try.ntmps15
      go_wp2_with (first | (go_at_call 19; refine (within_2 _ _ _ _ _).mono ?_; rw [HA.out]; rintro e w' ⟨rfl, rfl⟩) | (go_at_call 21; refine (rightTenant_any _ _ _).mono ?_; rw [HB.out]; rintro e w' ⟨rfl, hg⟩))
      go_ret
      exact ⟨rfl, hg.tA⟩
  · clear h
    rw [Bool.not_eq_true] at hA
    have HA := Lib.hid hA; clear hA
    go_enter Try.func15, Try.ntmps15
    go_wp2_with (go_at_call 19; refine (within_2 _ _ _ _ _).mono ?_; rw [HA.out]; rintro e w' ⟨rfl, rfl⟩)
    go_ret
    exact ⟨rfl, Fresh.alloc _ _⟩

theorem mul_bd (a b m n : Int) (h0 : 0 ≤ a) (h1 : a ≤ m) (h2 : 0 ≤ b) (h3 : b ≤ n) : 0 ≤ a * b ∧ a * b ≤ m * n :=
  ⟨Int.mul_nonneg h0 h2, Int.mul_le_mul h1 h3 h2 (by omega)⟩

set_option maxHeartbeats 400000 in
theorem wait_yes (c q n : Int) (w : World) (h0 : 0 ≤ c) (h1 : c ≤ 1048576) (h2 : 0 ≤ q) (h3 : q ≤ 1048576) (h4 : 0 ≤ n) (h5 : n ≤ 1048576) :
    Calls Try.prog 17 #[.int .i64 c, .int .i64 q, .int .i64 n] w fun e w' => e = .returned (.int .i64 ((c + q) * n)) ∧ Fresh w w' := by
  have b := mul_bd (c + q) n 2097152 1048576 (by omega) (by omega) h4 h5
  obtain ⟨b0, b1⟩ := b
  go_enter Try.func17, Try.ntmps17
  go_wp2_with (go_at_call 19; refine (within_3 _ _ _ _ _ _).mono ?_; rintro e w' ⟨rfl, rfl⟩)
  go_ret
  exact ⟨rfl, Fresh.alloc _ _⟩
set_option maxHeartbeats 400000 in
theorem wait_no (c q n : Int) (w : World) (h : ¬ (0 ≤ c ∧ c ≤ 1048576 ∧ 0 ≤ q ∧ q ≤ 1048576 ∧ 0 ≤ n ∧ n ≤ 1048576)) :
    Calls Try.prog 17 #[.int .i64 c, .int .i64 q, .int .i64 n] w fun e w' => e = .returned (.int .i64 0) ∧ Fresh w w' := by
  have H : Hid (((decide (0 ≤ c) && decide (c ≤ 1048576)) && ((decide (0 ≤ q) && decide (q ≤ 1048576)) && (decide (0 ≤ n) && decide (n ≤ 1048576)))) = false) := by
    show _ = false
    rw [← Bool.not_eq_true]; intro hh; simp at hh; omega
  clear h
  go_enter Try.func17, Try.ntmps17
  go_wp2_with (go_at_call 19; refine (within_3 _ _ _ _ _ _).mono ?_; rw [H.out]; rintro e w' ⟨rfl, rfl⟩)
  go_ret
  exact ⟨rfl, Fresh.alloc _ _⟩
end Go.Proofs.Ytalojmebbccdnaa
