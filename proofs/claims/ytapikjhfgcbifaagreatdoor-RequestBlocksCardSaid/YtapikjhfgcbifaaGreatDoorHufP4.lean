/-
  Texts laid together: HufH HufO.
-/
import Derived.Test.YtapikjhfgcbifaaGreatDoorHufP3
import Derived.Test.YtapikjhfgcbifaaGreatDoorHufP2
import Derived.Deep.QuietTactic
import Derived.BigQuiet
/-
  The document's code: what bits say.
-/
namespace Go.Proofs.YtapikjhfgcbifaaGreatDoor
set_option linter.unusedVariables false
set_option linter.unusedSimpArgs false
open Go.RowKit
/-- The symbol found among the first k. -/
def foundK (E : List Bool) (k : Nat) : Int := match nextS E with
  | some s => if s < k then (s : Int) else -1
  | none => -1
theorem foundK_zero (E : List Bool) : foundK E 0 = -1 := by
  unfold foundK
  cases nextS E <;> simp
theorem foundK_hit {E : List Bool} {x : Nat} (hx : x < 257) (h : codeB x <+: E) : foundK E (x + 1) = (x : Int) := by
  unfold foundK
  rw [nextS_some.2 ⟨hx, h⟩]
  simp
theorem foundK_miss {E : List Bool} {x : Nat} (h : ¬ codeB x <+: E) : foundK E (x + 1) = foundK E x := by
  unfold foundK
  cases hn : nextS E with
  | none => rfl
  | some s =>
    have h1 := nextS_some.1 hn
    have h2 : s ≠ x := fun e => h (e ▸ h1.2)
    by_cases h3 : s < x
    · simp [h3, show s < x + 1 by omega]
    · simp [h3, show ¬ s < x + 1 by omega]
theorem foundK_none {E : List Bool} (h : nextS E = none) (k : Nat) : foundK E k = -1 := by
  unfold foundK
  rw [h]
theorem foundK_some {E : List Bool} {s : Nat} (h : nextS E = some s) : foundK E 257 = (s : Int) := by
  unfold foundK
  rw [h]
  simp [(nextS_some.1 h).1]
theorem txB_cut (D : List Bool) (a m : Nat) (h : a + m ≤ D.length) : (txB D).extract a (a + m) = txB ((D.drop a).take m) := by
  apply ByteArray.ext
  apply Array.ext'
  have e : ∀ X : List Bool, (txB X).data.toList = X.map chB := fun X => strB_data _
  simp only [ByteArray.data_extract, Array.toList_extract, e, List.extract_eq_take_drop, List.map_take, List.map_drop]
  congr 1
  omega
theorem pre_take {x : Nat} {E : List Bool} : codeB x <+: E ↔ E.take (ln x) = codeB x := by
  constructor
  · intro h
    have := List.prefix_iff_eq_take.1 h
    rw [codeB_length] at this
    exact this.symm
  · intro h
    rw [← h]
    exact List.take_prefix _ _
theorem padOk_bit {E : List Bool} {j : Nat} (hj : j < E.length) (h : E[j] = false) : padOk E = false := by
  unfold padOk
  have : E.all id = false := by
    rw [Bool.eq_false_iff]
    intro h2
    have h3 := List.all_eq_true.1 h2 _ (List.getElem_mem hj)
    rw [h] at h3
    cases h3
  rw [this, Bool.and_false]
theorem padOk_all {E : List Bool} (h7 : E.length ≤ 7) (h : ∀ j (hj : j < E.length), E[j] = true) : padOk E = true := by
  unfold padOk
  rw [decide_eq_true h7, Bool.true_and, List.all_eq_true]
  intro b hb
  obtain ⟨j, hj, rfl⟩ := List.getElem_of_mem hb
  exact h j hj
theorem toList_ne {V U : ByteArray} (h : V ≠ U) : (V.toList == U.toList) = false := by
  rw [Bool.eq_false_iff]
  intro h2
  have h3 := eq_of_beq h2
  rw [ByteArray.toList_eq, ByteArray.toList_eq] at h3
  exact h (ByteArray.ext (Array.ext' h3))
end Go.Proofs.YtapikjhfgcbifaaGreatDoor

/-
  The document's text of bytes, by what is told of them.
-/
namespace Go.Proofs.YtapikjhfgcbifaaGreatDoor
set_option linter.unusedVariables false
open Go.RowKit
theorem IsEnc.text {l O : List UInt8} (h : IsEnc l O) {p : Nat} (hp : p ≤ 7) (h8 : (szB l + p) % 8 = 0) : txB (encB l ++ ones p) = txB (bitsL O) := by
  obtain ⟨q, hq, e⟩ := h
  have k := congrArg List.length e
  rw [bitsL_length, List.length_append] at k
  simp only [ones, List.length_replicate] at k
  unfold szB at h8
  have : p = q := by omega
  subst this
  rw [e]
theorem szB_ge (l : List UInt8) : l.length * 5 ≤ szB l := by
  induction l with
  | nil => simp
  | cons c r ih =>
    have hc := UInt8.toNat_lt c
    have := (ln_ok (s := c.toNat) (by omega)).1
    unfold szB at ih ⊢
    rw [encB_cons, List.length_append, codeB_length, List.length_cons]
    omega
end Go.Proofs.YtapikjhfgcbifaaGreatDoor

