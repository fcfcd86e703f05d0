/-
  The law RegAlone: one tenant's streams in two registries. No Go in sight.
-/
import Derived.Test.YtjediikcfhdgiaaDoorReg6
namespace Go.Proofs.YtjediikcfhdgiaaDoor
set_option maxRecDepth 100000
set_option linter.unusedVariables false
set_option linter.unusedSimpArgs false
open Go.RowKit Go.Maps
/-- A tenant's streams: numbers and states. -/
def prX (n t : Nat) (X : List StD) : List (Int × Int) := (X.filter fun s => decide (ownI n s.id = t)).map fun s => (s.id, s.a)
theorem pr_cnt (n t : Nat) (X : List StD) : cntX n X t = ((prX n t X).length : Int) := by
  unfold cntX prX
  rw [List.length_map, List.countP_eq_length_filter]
theorem pr_push_in {n t : Nat} (X : List StD) {s : StD} (h : ownI n s.id = t) : prX n t (X ++ [s]) = prX n t X ++ [(s.id, s.a)] := by
  unfold prX
  rw [List.filter_append, List.map_append]
  simp [h]
theorem pr_push_out {n t : Nat} (X : List StD) {s : StD} (h : ownI n s.id ≠ t) : prX n t (X ++ [s]) = prX n t X := by
  unfold prX
  rw [List.filter_append, List.map_append]
  simp [h]
theorem pr_find {n t : Nat} {id : Int} (h : ownI n id = t) : ∀ X : List StD, (X.find? fun s => decide (s.id = id)).map (·.a) = ((prX n t X).find? fun x => decide (x.1 = id)).map (·.2)
  | [] => rfl
  | s :: r => by
    have ih := pr_find h r
    unfold prX at *
    simp only [List.find?_cons, List.filter_cons]
    by_cases e : s.id = id
    · subst e
      simp [h]
    · by_cases ho : ownI n s.id = t
      · simp [e, ho, ih]
      · simp [e, ho, ih]
theorem dV_pr {n t : Nat} {id e : Int} (h : ownI n id = t) {X Y : List StD} (hp : prX n t Y = prX n t X) : dV X id e = dV Y id e := by
  have h1 := pr_find h X
  have h2 := pr_find h Y
  rw [hp, ← h1] at h2
  unfold dV
  cases hx : X.find? (fun s => decide (s.id = id)) with
  | none =>
    rw [hx] at h2
    cases hy : Y.find? (fun s => decide (s.id = id)) with
    | none => rfl
    | some y => rw [hy] at h2; simp at h2
  | some x =>
    rw [hx] at h2
    cases hy : Y.find? (fun s => decide (s.id = id)) with
    | none => rw [hy] at h2; simp at h2
    | some y =>
      rw [hy] at h2
      simp at h2
      simp only [h2]
theorem pr_gone_out {n t : Nat} {id : Int} (h : ownI n id ≠ t) (X : List StD) : prX n t (gone id X) = prX n t X := by
  unfold prX gone
  rw [List.filter_filter]
  congr 1
  apply List.filter_congr
  intro s hs
  by_cases e : s.id = id
  · subst e; simp [h]
  · simp [e]
theorem pr_gone_in {n t : Nat} {id : Int} (X : List StD) : prX n t (gone id X) = (prX n t X).filter fun x => decide (x.1 ≠ id) := by
  unfold prX gone
  rw [List.filter_filter, List.filter_map, List.filter_filter]
  congr 1
  apply List.filter_congr
  intro s hs
  simp [Bool.and_comm]
theorem pr_led_out {n t : Nat} {s : StD} {a : Int} {cs : List Int} (h : ownI n s.id ≠ t) (X : List StD) : prX n t (led s a cs X) = prX n t X := by
  unfold prX led
  rw [List.filter_map, List.map_map]
  have e : (X.filter ((fun s => decide (ownI n s.id = t)) ∘ fun u => if u.id = s.id then (⟨u.id, u.p, a, cs⟩ : StD) else u)) = X.filter fun s => decide (ownI n s.id = t) := by
    apply List.filter_congr
    intro u _
    simp only [Function.comp]
    split <;> rfl
  rw [e]
  apply List.map_congr_left
  intro u hu
  have hu2 := (List.mem_filter.1 hu).2
  simp only [decide_eq_true_eq] at hu2
  simp only [Function.comp]
  rw [if_neg (fun e => h (by rw [← e]; exact hu2))]
theorem pr_led_in {n t : Nat} {s : StD} {a : Int} {cs : List Int} (X : List StD) : prX n t (led s a cs X) = (prX n t X).map fun x => if x.1 = s.id then (x.1, a) else x := by
  unfold prX led
  rw [List.filter_map, List.map_map, List.map_map]
  have e : (X.filter ((fun s => decide (ownI n s.id = t)) ∘ fun u => if u.id = s.id then (⟨u.id, u.p, a, cs⟩ : StD) else u)) = X.filter fun s => decide (ownI n s.id = t) := by
    apply List.filter_congr
    intro u _
    simp only [Function.comp]
    split <;> rfl
  rw [e]
  apply List.map_congr_left
  intro u hu
  simp only [Function.comp]
  split <;> rfl
theorem pr_step_out {n t : Nat} {id : Int} (h : ownI n id ≠ t) (X : List StD) (e : Int) : prX n t (stepX X id e) = prX n t X := by
  unfold stepX
  cases hx : X.find? (fun s => decide (s.id = id)) with
  | none => rfl
  | some s =>
    have hs := (find_mem hx).2
    subst hs
    simp only
    split
    · exact pr_gone_out h X
    · exact pr_led_out h X
theorem pr_step_in {n t : Nat} {id : Int} (h : ownI n id = t) {X Y : List StD} (hp : prX n t Y = prX n t X) (e : Int) : prX n t (stepX Y id e) = prX n t (stepX X id e) := by
  have h1 := pr_find h X
  have h2 := pr_find h Y
  rw [hp, ← h1] at h2
  unfold stepX
  cases hx : X.find? (fun s => decide (s.id = id)) with
  | none =>
    rw [hx] at h2
    cases hy : Y.find? (fun s => decide (s.id = id)) with
    | none => exact hp
    | some y => rw [hy] at h2; simp at h2
  | some x =>
    rw [hx] at h2
    cases hy : Y.find? (fun s => decide (s.id = id)) with
    | none => rw [hy] at h2; simp at h2
    | some y =>
      rw [hy] at h2
      simp at h2
      have e1 := (find_mem hx).2
      have e2 := (find_mem hy).2
      simp only [h2]
      split
      · rw [pr_gone_in, pr_gone_in, hp]
      · rw [pr_led_in, pr_led_in, hp, e1, e2]
theorem mem_step {X : List StD} {id e : Int} {u : StD} (h : u ∈ stepX X id e) : ∃ v ∈ X, u.id = v.id := by
  unfold stepX at h
  split at h
  · split at h
    · exact ⟨u, (gone_mem h).1, rfl⟩
    · obtain ⟨v, hv, rfl⟩ := led_mem h
      exact ⟨v, hv, by split <;> rfl⟩
  · exact ⟨u, h, rfl⟩
theorem len_step (X : List StD) (id e : Int) : (stepX X id e).length ≤ X.length := by
  unfold stepX
  split
  · split
    · exact List.length_filter_le _ _
    · simp [led]
  · exact Nat.le_refl _
/-- Two registries of which the second one has one tenant's streams alone. -/
structure TwoR (w : World) (n t : Nat) (q : Int) (g mb lb h mb2 lb2 : Nat) (k : Nat) (last : Int) (W : World) : Prop where
  fr : Fresh w W
  two : ∃ (X Y : List StD) (lg lh : Int), RegX W w.heap.size g mb lb n q lg k k X ∧ RegX W w.heap.size h mb2 lb2 n q lh k k Y ∧ (∀ b, blkX g mb lb X b → ¬ blkX h mb2 lb2 Y b) ∧ prX n t Y = prX n t X ∧ X.length ≤ k ∧ Y.length ≤ k ∧ lg ≤ 2 * last + 2 ∧ lh ≤ 2 * last + 2
  l0 : -1 ≤ last
  l1 : last ≤ 1073741823
theorem TwoR.fresh {w W W' : World} {n t g mb lb h mb2 lb2 k : Nat} {q last : Int} (H : TwoR w n t q g mb lb h mb2 lb2 k last W) (hf : Fresh W W') : TwoR w n t q g mb lb h mb2 lb2 k last W' := by
  obtain ⟨X, Y, lg, lh, h1, h2, h3⟩ := H.two
  exact { H with fr := H.fr.trans hf, two := ⟨X, Y, lg, lh, h1.fresh hf, h2.fresh hf, h3⟩ }
theorem TwoR.next {w W : World} {n t g mb lb h mb2 lb2 k : Nat} {q last : Int} (H : TwoR w n t q g mb lb h mb2 lb2 k last W) {l2 : Int} (hl : last ≤ l2) (hl2 : l2 ≤ 1073741823) : TwoR w n t q g mb lb h mb2 lb2 (k + 1) l2 W := by
  obtain ⟨X, Y, lg, lh, h1, h2, h3, h4, h5, h6, h7, h8⟩ := H.two
  have := H.l0
  exact { fr := H.fr, two := ⟨X, Y, lg, lh, h1.mono (by omega) (by omega), h2.mono (by omega) (by omega), h3, h4, by omega, by omega, by omega, by omega⟩, l0 := by omega, l1 := hl2 }
end Go.Proofs.YtjediikcfhdgiaaDoor

