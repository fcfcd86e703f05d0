/-
  The law CleanParts.
-/
import Derived.Test.YtmeeofplpffboaaDoorClnM
namespace Go.Proofs.YtmeeofplpffboaaDoor
set_option maxRecDepth 100000
set_option linter.unusedVariables false
set_option linter.unusedSimpArgs false
open Go.RowKit
theorem clnR_no {l : List FldT} {n : Nat} {xs : List LnD} (h : clnR l = (n, xs)) (hn : n ≠ 0) : ∃ (k : Nat) (f : FldT), l[k]? = some f ∧ (∀ (j : Nat) g, j < k → l[j]? = some g → wrongF g = 0) ∧ wrongF f = n ∧ xs = [] := by
  by_cases hall : ∀ (j : Nat) f, l[j]? = some f → wrongF f = 0
  · have h1 := clnR_ok (l := l) (fun f hf => by
      obtain ⟨j, hj⟩ := List.getElem?_of_mem hf
      exact hall j f hj)
    rw [h] at h1
    injection h1 with h2 _
    exact absurd h2 hn
  · have hex : ∃ j : Nat, ∃ f, l[j]? = some f ∧ wrongF f ≠ 0 := by
      apply Classical.byContradiction
      intro hno
      apply hall
      intro j f hf
      apply Classical.byContradiction
      intro h0
      exact hno ⟨j, f, hf, h0⟩
    obtain ⟨j, hj⟩ := hex
    induction j using Nat.strongRecOn with
    | ind j ih =>
      obtain ⟨f, hf, hne⟩ := hj
      by_cases hq : ∃ i, i < j ∧ ∃ g, l[i]? = some g ∧ wrongF g ≠ 0
      · obtain ⟨i, hi, h⟩ := hq
        exact ih i hi h
      · have ha : ∀ (i : Nat) g, i < j → l[i]? = some g → wrongF g = 0 := fun i g hi hg => by
          by_cases h0 : wrongF g = 0
          · exact h0
          · exact absurd ⟨i, hi, g, hg, h0⟩ hq
        have h1 := clnR_bad hf ha hne
        rw [h] at h1
        injection h1 with h2 h3
        exact ⟨j, f, hf, ha, h2.symm, h3⟩
theorem clnR_yes {l : List FldT} {xs : List LnD} (h : clnR l = (0, xs)) : (∀ (j : Nat) f, l[j]? = some f → wrongF f = 0) ∧ xs = keepR l := by
  have hall : ∀ (j : Nat) f, l[j]? = some f → wrongF f = 0 := fun j => by
    induction j using Nat.strongRecOn with
    | ind j ih =>
      intro f hf
      apply Classical.byContradiction
      intro h0
      have h1 := clnR_bad hf (fun i g hi hg => ih i hi g hg) h0
      rw [h] at h1
      injection h1 with h2 _
      exact h0 h2.symm
  refine ⟨hall, ?_⟩
  have h1 := clnR_ok (l := l) (fun f hf => by
    obtain ⟨j, hj⟩ := List.getElem?_of_mem hf
    exact hall j f hj)
  rw [h] at h1
  injection h1
/-- Two parts. -/
theorem clnR_app {a b : List FldT} {n m : Nat} {xs ys : List LnD} (ha : clnR a = (n, xs)) (hb : clnR b = (m, ys)) :
    clnR (a ++ b) = if n ≠ 0 then (n, []) else if m ≠ 0 then (m, []) else (0, xs ++ ys) := by
  by_cases hn : n = 0
  · subst hn
    obtain ⟨h1, rfl⟩ := clnR_yes ha
    by_cases hm : m = 0
    · subst hm
      obtain ⟨h2, rfl⟩ := clnR_yes hb
      rw [if_neg (by simp), if_neg (by simp), clnR_ok (fun f hf => by
        rcases List.mem_append.1 hf with hf | hf
        · obtain ⟨j, hj⟩ := List.getElem?_of_mem hf
          exact h1 j f hj
        · obtain ⟨j, hj⟩ := List.getElem?_of_mem hf
          exact h2 j f hj)]
      unfold keepR
      rw [List.filter_append, List.map_append]
    · obtain ⟨k, f, hk, h2, rfl, _⟩ := clnR_no hb hm
      rw [if_neg (by simp), if_pos hm]
      refine clnR_bad (k := a.length + k) (by rw [List.getElem?_append_right (by omega), Nat.add_sub_cancel_left]; exact hk) (fun j g hj hg => ?_) hm
      by_cases h3 : j < a.length
      · rw [List.getElem?_append_left h3] at hg
        exact h1 j g hg
      · rw [List.getElem?_append_right (by omega)] at hg
        exact h2 (j - a.length) g (by omega) hg
  · obtain ⟨k, f, hk, h2, rfl, _⟩ := clnR_no ha hn
    rw [if_pos hn]
    have hkl := (List.getElem?_eq_some_iff.1 hk).1
    refine clnR_bad (k := k) (by rw [List.getElem?_append_left hkl]; exact hk) (fun j g hj hg => ?_) hn
    rw [List.getElem?_append_left (by omega)] at hg
    exact h2 j g hj hg
/-! An append of a slice of fields to an own row. -/
theorem rowD_at {x : FldT} {k : Nat} {xs : List FldT} (hf : xs[k]? = some x) : ∀ j, j < 2 → (rowD xs)[k * 2 + j]? = (fldD x)[j]? := by
  intro j hj
  induction xs generalizing k with
  | nil => cases hf
  | cons y r ih =>
    unfold rowD at *
    cases k with
    | zero =>
      simp only [List.getElem?_cons_zero, Option.some.injEq] at hf
      subst hf
      rw [List.flatMap_cons, List.getElem?_append_left (by simp [fldD]; omega)]
      simp
    | succ k =>
      rw [List.flatMap_cons, List.getElem?_append_right (by simp [fldD]; omega)]
      have := ih (k := k) (by simpa using hf)
      rw [show (k + 1) * 2 + j - (fldD y).length = k * 2 + j by simp [fldD]; omega]
      exact this
theorem fd_one (ys : List FldT) : ∀ u ∈ rowD ys, u.oneCell' = true := fun u hu => by
  simp only [rowD, List.mem_flatMap, fldD, List.mem_cons, List.not_mem_nil, or_false] at hu
  obtain ⟨x, _, rfl | rfl⟩ := hu <;> rfl
theorem own_manyD {w : World} {base n c : Nat} {E : TypeId} {A : Option Addr} {xs : List FldT} (h : Own w base E 2 (.slice A n c) n (rowD xs)) : Many fldD 2 w A xs := by
  intro hn
  have hl := h.length
  rw [rowD_length] at hl
  rcases h.form with ⟨_, h0, _⟩ | ⟨g, cap, e, hb, hlt, _, _, hc⟩
  · omega
  · injection e with e1
    refine ⟨g, 0, e1, hlt, fun k hk j hj => ?_⟩
    have := rowD_at (List.getElem?_eq_getElem hk) j hj
    rw [Nat.zero_add, (hc _ (by rw [rowD_length]; omega)).1, this]
theorem moreFd {w0 w : World} {base n : Nat} {v : Value} {xs : List FldT} (h : Own w base 23 2 v n (rowD xs)) (hb : Below base w0 w) (hbase : base ≤ w0.heap.size) (A : Option Addr) (c : Nat) (ys : List FldT) (hm : Many fldD 2 w A ys) (hn : n + ys.length ≤ 3000) :
    ∃ A' c' w', (Builtin.append_ #[28, 28] 28 #[v, .slice A ys.length c]).run Tryd.prog w = .ok (.slice A' (n + ys.length) c') w' ∧ Own w' base 23 2 (.slice A' (n + ys.length) c') (n + ys.length) (rowD (xs ++ ys)) ∧ Below base w0 w' := by
  obtain ⟨i, hi, hiz, his, hib⟩ := info_parts fld_info
  cases A with
  | none =>
    have hl : ys = [] := by
      rcases ys with _ | ⟨x, l⟩
      · rfl
      · obtain ⟨b, o, e, _⟩ := hm (by simp)
        cases e
    subst hl
    rcases h.2 with ⟨rfl, rfl⟩ | ⟨g, cap, cur, rfl, _, _, hnc, _⟩
    · refine ⟨none, 0, w, ?_, by simpa using h, hb⟩
      simp [Builtin.append_, run_underlying Tryd.underlying28, sizeOf, typeInfo, hi, Builtin.lenOf, Builtin.firstCells]
    · refine ⟨_, cap, w, ?_, by simpa using h, hb⟩
      simp [Builtin.append_, run_underlying Tryd.underlying28, sizeOf, typeInfo, hi, Builtin.lenOf, Builtin.firstCells, hnc, storeCells]
  | some a =>
    have hcs : ∀ j u, (rowD ys)[j]? = some u → w.cell? (a.add j) = some u := fun j u hj => by
      have hjl : j < (rowD ys).length := (List.getElem?_eq_some_iff.1 hj).1
      rw [rowD_length] at hjl
      obtain ⟨b, o, e, _, hc⟩ := hm (by omega)
      injection e with e
      subst e
      have hd : j = j / 2 * 2 + j % 2 := by omega
      rw [add_eq _ _ rfl]
      have h1 := hc (j / 2) (by omega) (j % 2) (by omega)
      have h2 := rowD_at (List.getElem?_eq_getElem (show j / 2 < ys.length by omega)) (j % 2) (by omega)
      rw [← hd] at h2
      rw [hj] at h2
      rw [← h2] at h1
      rw [← h1]
      simp only
      congr 2
      omega
    obtain ⟨v', w', hr, ho, hg, hnil⟩ := run_append_own (P := Tryd.prog) w base 28 28 23 i _ 2 32 Tryd.underlying28 hi hiz his hib rfl (by omega) v n _ h a ys.length c (rowD ys) (rowD_length ys) hcs (fd_one ys) (by unfold maxLen; omega) (by omega) (by have := hb.size; omega)
    obtain ⟨A', c', rfl, _⟩ := Own.slice (show Own w' base _ 2 v' _ _ from ho)
    have hlt := h.lt
    refine ⟨A', c', w', hr, ?_, hb.grown hg (by have := hb.size; omega) (fun k hk => (hlt k hk).1)⟩
    unfold rowD at ho ⊢
    rw [List.flatMap_append]
    exact ho
end Go.Proofs.YtmeeofplpffboaaDoor

