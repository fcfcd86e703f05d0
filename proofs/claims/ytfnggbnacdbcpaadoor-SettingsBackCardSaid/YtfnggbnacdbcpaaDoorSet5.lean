/-
  Layer 16: the document's answers by contract; the law SettingsApply.
-/
import Derived.Test.YtfnggbnacdbcpaaDoorSet4
namespace Go.Proofs.YtfnggbnacdbcpaaDoor
set_option linter.unusedVariables false
open Go.RowKit Go.ChangeShapes Go.WideShapes Go.Deep
theorem ref_first (w : World) : Calls Tryd.prog 10 #[] w fun en w' => en = .returned firstV.val ∧ Fresh w w' := by
  go_enter Tryd.func10, Tryd.ntmps10
  go_wp2
  go_returns
  exact ⟨rfl, by repeat (first | with_reducible exact Fresh.refl _ | with_reducible apply Fresh.drewS | with_reducible apply Fresh.allocS | (with_reducible refine Fresh.step2 ?_ ?_; focus (simp only []; omega)))⟩
theorem set_numbers (s : SetV) (w : World) : Calls Tryd.prog 11 #[s.val] w fun en w' => en = .returned s.val ∧ Fresh w w' := by
  obtain ⟨ta, pu, sm, wi, fr, li⟩ := s
  dsimp only [SetV.val]
  go_enter Tryd.func11, Tryd.ntmps11
  go_wp2
  go_returns
  exact ⟨rfl, by repeat (first | with_reducible exact Fresh.refl _ | with_reducible apply Fresh.drewS | with_reducible apply Fresh.allocS | (with_reducible refine Fresh.step2 ?_ ?_; focus (simp only []; omega)))⟩
/-- A pair of the document's: what it makes of a set. -/
def oneR (s : SetV) (n v : Int) : SetV := if wrongC n v = 0 then set1 s n v else s
set_option maxRecDepth 100000 in
set_option maxHeartbeats 3200000 in
theorem ref_one (s : SetV) (n v : Int) (w : World) (s' : SetV) (c : Int) (hs : oneR s n v = s') (hc : wrongC n v = c) :
    Calls Tryd.prog 12 #[s.val, .int .i64 n, .int .i64 v] w fun en w' => en = .returned (.tuple #[s'.val, .int .i64 c]) ∧ Fresh w w' := by
  obtain ⟨ta, pu, sm, wi, fr, li⟩ := s
  have key : (v < 0 ∧ c = 101 ∧ s' = ⟨ta, pu, sm, wi, fr, li⟩) ∨ (¬ v < 0 ∧ 4294967295 < v ∧ c = 101 ∧ s' = ⟨ta, pu, sm, wi, fr, li⟩) ∨
      (¬ v < 0 ∧ ¬ 4294967295 < v ∧ n < 1 ∧ c = 0 ∧ s' = ⟨ta, pu, sm, wi, fr, li⟩) ∨ (¬ v < 0 ∧ ¬ 4294967295 < v ∧ ¬ n < 1 ∧ 6 < n ∧ c = 0 ∧ s' = ⟨ta, pu, sm, wi, fr, li⟩) ∨
      (¬ v < 0 ∧ ¬ 4294967295 < v ∧ n = 1 ∧ c = 0 ∧ s' = ⟨v, pu, sm, wi, fr, li⟩) ∨
      (¬ v < 0 ∧ ¬ 4294967295 < v ∧ n = 2 ∧ 1 < v ∧ c = 101 ∧ s' = ⟨ta, pu, sm, wi, fr, li⟩) ∨ (¬ v < 0 ∧ ¬ 4294967295 < v ∧ n = 2 ∧ ¬ 1 < v ∧ c = 0 ∧ s' = ⟨ta, v, sm, wi, fr, li⟩) ∨
      (¬ v < 0 ∧ ¬ 4294967295 < v ∧ n = 3 ∧ c = 0 ∧ s' = ⟨ta, pu, v, wi, fr, li⟩) ∨
      (¬ v < 0 ∧ ¬ 4294967295 < v ∧ n = 4 ∧ 2147483647 < v ∧ c = 103 ∧ s' = ⟨ta, pu, sm, wi, fr, li⟩) ∨ (¬ v < 0 ∧ ¬ 4294967295 < v ∧ n = 4 ∧ ¬ 2147483647 < v ∧ c = 0 ∧ s' = ⟨ta, pu, sm, v, fr, li⟩) ∨
      (¬ v < 0 ∧ ¬ 4294967295 < v ∧ n = 5 ∧ v < 16384 ∧ c = 101 ∧ s' = ⟨ta, pu, sm, wi, fr, li⟩) ∨ (¬ v < 0 ∧ ¬ 4294967295 < v ∧ n = 5 ∧ ¬ v < 16384 ∧ 16777215 < v ∧ c = 101 ∧ s' = ⟨ta, pu, sm, wi, fr, li⟩) ∨ (¬ v < 0 ∧ ¬ 4294967295 < v ∧ n = 5 ∧ ¬ v < 16384 ∧ ¬ 16777215 < v ∧ c = 0 ∧ s' = ⟨ta, pu, sm, wi, v, li⟩) ∨
      (¬ v < 0 ∧ ¬ 4294967295 < v ∧ n = 6 ∧ c = 0 ∧ s' = ⟨ta, pu, sm, wi, fr, v⟩) := by
    unfold oneR at hs
    rw [hc] at hs
    unfold wrongC at hc
    by_cases h0 : v < 0
    · left
      rw [if_pos h0] at hc
      subst hc
      exact ⟨h0, rfl, hs.symm.trans (if_neg (by decide))⟩
    rw [if_neg h0] at hc
    by_cases h1 : 4294967295 < v
    · right; left
      rw [if_pos h1] at hc
      subst hc
      exact ⟨h0, h1, rfl, hs.symm.trans (if_neg (by decide))⟩
    rw [if_neg h1] at hc
    have hn : n < 1 ∨ 6 < n ∨ n = 1 ∨ n = 2 ∨ n = 3 ∨ n = 4 ∨ n = 5 ∨ n = 6 := by omega
    rcases hn with h | h | rfl | rfl | rfl | rfl | rfl | rfl
    · have a : ¬ n = 1 ∧ ¬ n = 2 ∧ ¬ n = 3 ∧ ¬ n = 4 ∧ ¬ n = 5 ∧ ¬ n = 6 := by omega
      simp [a] at hc
      subst hc
      simp [set1, a] at hs
      simp [h0, h1, h, hs.symm]
    · have a : ¬ n = 1 ∧ ¬ n = 2 ∧ ¬ n = 3 ∧ ¬ n = 4 ∧ ¬ n = 5 ∧ ¬ n = 6 ∧ ¬ n < 1 := by omega
      simp [a] at hc
      subst hc
      simp [set1, a] at hs
      simp [h0, h1, h, a, hs.symm]
    · simp at hc; subst hc; simp [set1] at hs; simp [h0, h1, hs.symm]
    · by_cases b : 1 < v
      · simp [b] at hc; subst hc; simp at hs; simp [h0, h1, b, hs.symm]
      · simp [b] at hc; subst hc; simp [set1] at hs; simp [h0, h1, b, hs.symm]
    · simp at hc; subst hc; simp [set1] at hs; simp [h0, h1, hs.symm]
    · by_cases b : 2147483647 < v
      · simp [b] at hc; subst hc; simp at hs; simp [h0, h1, b, hs.symm]
      · simp [b] at hc; subst hc; simp [set1] at hs; simp [h0, h1, b, hs.symm]
    · by_cases b : v < 16384
      · simp [b] at hc; subst hc; simp at hs; simp [h0, h1, b, hs.symm]
      · by_cases d : 16777215 < v
        · simp [b, d] at hc; subst hc; simp at hs; simp [h0, h1, b, d, hs.symm]
        · simp [b, d] at hc; subst hc; simp [set1] at hs; simp [h0, h1, b, d, hs.symm]
    · simp at hc; subst hc; simp [set1] at hs; simp [h0, h1, hs.symm]
  clear hs hc
  dsimp only [SetV.val]
  rcases key with ⟨k1, rfl, rfl⟩ | ⟨k1, k2, rfl, rfl⟩ | ⟨k1, k2, k3, rfl, rfl⟩ | ⟨k1, k2, k3, k4, rfl, rfl⟩ | ⟨k1, k2, rfl, rfl, rfl⟩ | ⟨k1, k2, rfl, k3, rfl, rfl⟩ | ⟨k1, k2, rfl, k3, rfl, rfl⟩ | ⟨k1, k2, rfl, rfl, rfl⟩ | ⟨k1, k2, rfl, k3, rfl, rfl⟩ | ⟨k1, k2, rfl, k3, rfl, rfl⟩ | ⟨k1, k2, rfl, k3, rfl, rfl⟩ | ⟨k1, k2, rfl, k3, k4, rfl, rfl⟩ | ⟨k1, k2, rfl, k3, k4, rfl, rfl⟩ | ⟨k1, k2, rfl, rfl, rfl⟩
  case inr.inr.inl =>
    go_enter Tryd.func12, Tryd.ntmps12
    go_wp2
    go_returns
    exact ⟨rfl, by repeat (first | with_reducible exact Fresh.refl _ | with_reducible apply Fresh.drewS | with_reducible apply Fresh.allocS | (with_reducible refine Fresh.step2 ?_ ?_; focus (simp only []; omega)))⟩
  case inr.inr.inr.inl =>
    go_enter Tryd.func12, Tryd.ntmps12
    go_wp2
    go_returns
    exact ⟨rfl, by repeat (first | with_reducible exact Fresh.refl _ | with_reducible apply Fresh.drewS | with_reducible apply Fresh.allocS | (with_reducible refine Fresh.step2 ?_ ?_; focus (simp only []; omega)))⟩
  all_goals
    go_enter Tryd.func12, Tryd.ntmps12
    go_wp2
    go_returns
    exact ⟨rfl, by repeat (first | with_reducible exact Fresh.refl _ | with_reducible apply Fresh.drewS | with_reducible apply Fresh.allocS | (with_reducible refine Fresh.step2 ?_ ?_; focus (simp only []; omega)))⟩
end Go.Proofs.YtfnggbnacdbcpaaDoor
