/-
  The law SlotsTurns: its first statement (four boxed variables at once), by an invariant.
-/
import Derived.Test.YtalojmebbccdnaaSlotsT
import Derived.Test.YtalojmebbccdnaaInv3
namespace Go.Proofs.Ytalojmebbccdnaa
set_option linter.unusedVariables false
open Go.RowKit Go.Shelf

def vT (f a n s : Int) (g0 : Nat) (k : Nat) : Option Value := (([some (.pointer (some ⟨g0, 0, none⟩)), some (.int .i64 f), some (.pointer (some ⟨g0, 1, none⟩)), some (.int .i64 a), some (.pointer (some ⟨g0, 2, none⟩)), some (.int .i64 n), some (.pointer (some ⟨g0, 3, none⟩)), some (.int .i64 s)] : List (Option Value))[k]?).join
def stT (f a n s : Int) (k : Nat) : Int := if k = 8 then f else if k = 9 then a else if k = 10 then n else s
structure J1 (f a n s : Int) (g0 B0 : Nat) (w : World) (L : Array Bool) (u : Nat → Value) (W : World) : Prop where
  vals : ∀ k x, vT f a n s g0 k = some x → L.getD k false = true → u k = x
  box : ∀ k, 8 ≤ k → k < 12 → L.getD k false = true → ∃ b, u k = .pointer (some ⟨b, 0, none⟩) ∧ B0 ≤ b ∧ Boxed W b 3 (.int .i64 (if L.getD (k + 4) false = true then stT f a n s k else 0))
  ne : ∀ k k', 8 ≤ k → k < 12 → 8 ≤ k' → k' < 12 → k ≠ k' → L.getD k false = true → L.getD k' false = true → u k ≠ u k'
  late : ∀ k, 8 ≤ k → k < 12 → L.getD (k + 4) false = true → L.getD k false = true
  bel : Below B0 w W
section
variable {f a n s : Int} {g0 B0 : Nat} {w W : World} {L : Array Bool} {u : Nat → Value}
theorem J1.start (h : Below B0 w W) : J1 f a n s g0 B0 w (Array.replicate 16 false) u W :=
  ⟨fun k x _ h => by simp [Array.getD] at h, fun k _ _ h => by simp [Array.getD] at h, fun k _ _ _ _ _ _ h => by simp [Array.getD] at h, fun k _ _ h => by simp [Array.getD] at h, h⟩
theorem J1.val (h : J1 f a n s g0 B0 w L u W) (hs : L.size = 16) {i : Nat} (hi : i < 8) (v : Value) (hv : vT f a n s g0 i = some v) : J1 f a n s g0 B0 w (L.setIfInBounds i true) (updV u i v) W := by
  refine ⟨fun k x hx hl => ?_, fun k h8 h12 hl => ?_, fun k k' h1 h2 h3 h4 hne hl hl' => ?_, fun k h1 h2 hl => ?_, h.bel⟩
  · by_cases e : k = i
    · subst e
      rw [updV_same]
      rw [hv] at hx
      exact Option.some.inj hx
    · rw [updV_ne e]
      rw [getD_set _ _ _ _ (by omega), if_neg e] at hl
      exact h.vals k x hx hl
  · rw [getD_set _ _ _ _ (by omega), if_neg (by omega)] at hl
    rw [updV_ne (by omega), getD_set _ _ _ _ (by omega), if_neg (show ¬ k + 4 = i by omega)]
    exact h.box k h8 h12 hl
  · rw [getD_set _ _ _ _ (by omega), if_neg (by omega)] at hl hl'
    rw [updV_ne (by omega), updV_ne (by omega)]
    exact h.ne k k' h1 h2 h3 h4 hne hl hl'
  · rw [getD_set _ _ _ _ (by omega), if_neg (by omega)] at hl ⊢
    exact h.late k h1 h2 hl
theorem J1.new (h : J1 f a n s g0 B0 w L u W) (hBw : B0 ≤ w.heap.size) (hs : L.size = 16) {i : Nat} (h8 : 8 ≤ i) (hi : i < 12) (hf : L.getD i true = false) : J1 f a n s g0 B0 w (L.setIfInBounds i true) (updV u i (.pointer (some ⟨W.heap.size, 0, none⟩))) (W.alloc (.cells #[.int .i64 0] 3)) := by
  have hf' := getD_tf hf
  have hlt : ∀ k, 8 ≤ k → k < 12 → L.getD k false = true → ∃ b, u k = .pointer (some ⟨b, 0, none⟩) ∧ b < W.heap.size := fun k h1 h2 hl => by
    obtain ⟨b, e, _, hb⟩ := h.box k h1 h2 hl
    exact ⟨b, e, hb.lt⟩
  have hB := Nat.le_trans hBw h.bel.size
  refine ⟨fun k x hx hl => ?_, fun k h1 h2 hl => ?_, fun k k' h1 h2 h3 h4 hne hl hl' => ?_, fun k h1 h2 hl => ?_, h.bel.alloc hB _⟩
  · have hk : k < 8 := by
      rcases Nat.lt_or_ge k 8 with h | h
      · exact h
      · unfold vT at hx
        rw [List.getElem?_eq_none (by simpa using h)] at hx
        cases hx
    rw [updV_ne (by omega)]
    rw [getD_set _ _ _ _ (by omega), if_neg (by omega)] at hl
    exact h.vals k x hx hl
  · rw [getD_set _ _ _ _ (by omega), if_neg (show ¬ k + 4 = i by omega)]
    by_cases e : k = i
    · subst e
      have : ¬ L.getD (k + 4) false = true := fun hh => by rw [h.late k h1 h2 hh] at hf'; cases hf'
      rw [updV_same, if_neg this]
      exact ⟨_, rfl, hB, Boxed.new _ _ _⟩
    · rw [getD_set _ _ _ _ (by omega), if_neg e] at hl
      rw [updV_ne e]
      obtain ⟨b, e1, e2, e3⟩ := h.box k h1 h2 hl
      exact ⟨b, e1, e2, e3.alloc _⟩
  · rw [getD_set _ _ _ _ (by omega)] at hl hl'
    by_cases e : k = i
    · have e' : ¬ k' = i := by omega
      rw [if_neg e'] at hl'
      subst e
      rw [updV_same, updV_ne e']
      obtain ⟨b, e1, e2⟩ := hlt k' h3 h4 hl'
      rw [e1]
      intro hh
      simp at hh
      all_goals omega
    · rw [if_neg e] at hl
      rw [updV_ne e]
      obtain ⟨b, e1, e2⟩ := hlt k h1 h2 hl
      by_cases e' : k' = i
      · subst e'
        rw [updV_same, e1]
        intro hh
        simp at hh
        all_goals omega
      · rw [if_neg e'] at hl'
        rw [updV_ne e']
        exact h.ne k k' h1 h2 h3 h4 hne hl hl'
  · rw [getD_set _ _ _ _ (by omega), if_neg (by omega)] at hl
    rw [getD_set _ _ _ _ (by omega)]
    by_cases e : k = i
    · rw [if_pos e]
    · rw [if_neg e]
      exact h.late k h1 h2 hl
theorem J1.put (h : J1 f a n s g0 B0 w L u W) (hs : L.size = 16) {i b : Nat} (h8 : 8 ≤ i) (hi : i < 12) (hl0 : L.getD i false = true) (hb : u i = .pointer (some ⟨b, 0, none⟩)) (hB0 : B0 ≤ b) (v : Value) : J1 f a n s g0 B0 w (L.setIfInBounds (i + 4) true) (updV u (i + 4) v) (W.setCell ⟨b, 0, none⟩ (.int .i64 (stT f a n s i))) := by
  refine ⟨fun k x hx hl => ?_, fun k h1 h2 hl => ?_, fun k k' h1 h2 h3 h4 hne hl hl' => ?_, fun k h1 h2 hl => ?_, h.bel.setCell (p := ⟨b, 0, none⟩) hB0 _⟩
  · have hk : k < 8 := by
      rcases Nat.lt_or_ge k 8 with h | h
      · exact h
      · unfold vT at hx
        rw [List.getElem?_eq_none (by simpa using h)] at hx
        cases hx
    rw [updV_ne (by omega)]
    rw [getD_set _ _ _ _ (by omega), if_neg (by omega)] at hl
    exact h.vals k x hx hl
  · rw [getD_set _ _ _ _ (by omega), if_neg (by omega)] at hl
    rw [updV_ne (by omega), getD_set _ _ _ _ (by omega)]
    obtain ⟨b', e1, e2, e3⟩ := h.box k h1 h2 hl
    by_cases e : k = i
    · subst e
      rw [e1] at hb
      have hb' : b' = b := by simpa using hb
      subst hb'
      rw [if_pos rfl, if_pos rfl]
      exact ⟨_, e1, e2, e3.set _⟩
    · rw [if_neg (show ¬ k + 4 = i + 4 by omega)]
      refine ⟨b', e1, e2, e3.other (fun hh => ?_) _⟩
      subst hh
      exact h.ne k i h1 h2 h8 hi e hl hl0 (e1.trans hb.symm)
  · rw [getD_set _ _ _ _ (by omega), if_neg (by omega)] at hl hl'
    rw [updV_ne (by omega), updV_ne (by omega)]
    exact h.ne k k' h1 h2 h3 h4 hne hl hl'
  · rw [getD_set _ _ _ _ (by omega)] at hl
    rw [getD_set _ _ _ _ (by omega), if_neg (show ¬ k = i + 4 by omega)]
    by_cases e : k = i
    · subst e; exact hl0
    · rw [if_neg (by omega)] at hl
      exact h.late k h1 h2 hl
end
end Go.Proofs.Ytalojmebbccdnaa
