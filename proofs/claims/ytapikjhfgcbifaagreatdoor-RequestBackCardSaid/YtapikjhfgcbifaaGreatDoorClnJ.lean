/-
  The laws' small.
-/
import Derived.Test.YtapikjhfgcbifaaGreatDoorClnG
import Derived.Test.YtapikjhfgcbifaaGreatDoorClnO
namespace Go.Proofs.YtapikjhfgcbifaaGreatDoor
set_option maxRecDepth 100000
set_option linter.unusedVariables false
set_option linter.unusedSimpArgs false
open Go.RowKit
def sz5 (f : FldT) : Nat := 5 + f.1.size + f.2.size
def sum21 (l : List FldT) : Nat := (l.map sz5).sum
theorem sum21_take {l : List FldT} {k : Nat} {f : FldT} (h : l[k]? = some f) : sum21 (l.take (k + 1)) = sum21 (l.take k) + sz5 f := by
  obtain ⟨hk, rfl⟩ := List.getElem?_eq_some_iff.1 h
  unfold sum21
  rw [List.take_succ_eq_append_getElem hk, List.map_append, List.sum_append]
  rfl
theorem sum21_mem {l : List FldT} {f : FldT} (h : f ∈ l) : sz5 f ≤ sum21 l := by
  induction l with
  | nil => cases h
  | cons g r ih =>
    unfold sum21 at *
    simp only [List.map_cons, List.sum_cons]
    rcases List.mem_cons.1 h with rfl | h
    · omega
    · have := ih h; omega
theorem sum21_len (l : List FldT) : 5 * l.length ≤ sum21 l := by
  induction l with
  | nil => simp [sum21]
  | cons g r ih =>
    unfold sum21 at *
    simp only [List.map_cons, List.sum_cons, List.length_cons]
    have : 5 ≤ sz5 g := by unfold sz5; omega
    omega
/-- Fields that are gone through. -/
def Small21 (l : List FldT) : Prop := l.length ≤ 400 ∧ ∀ f ∈ l, f.1.size ≤ 2000 ∧ f.2.size ≤ 2000
theorem small21_of {l : List FldT} (h : sum21 l ≤ 2000) : Small21 l := ⟨by have := sum21_len l; omega, fun f hf => by
  have := sum21_mem hf
  unfold sz5 at this
  omega⟩
def SmlP (l : List FldT) (w : World) (e : Ending) (w' : World) : Prop := ∃ r : Bool, e = .returned (.bool r) ∧ (r = true → Small21 l) ∧ Fresh w w'
theorem sm_nums {s a b k n : Nat} (h : s ≤ 2000) (ha : a ≤ 140737488351232) (hb : b ≤ 140737488351232) (hk : k < n) (hn : n ≤ 140737488351232) : IntKind.i64.wrap (5 + (a : Int)) = 5 + (a : Int) ∧ IntKind.i64.wrap (5 + (a : Int) + (b : Int)) = 5 + (a : Int) + (b : Int) ∧ IntKind.i64.wrap ((s : Int) + (5 + (a : Int) + (b : Int))) = (s : Int) + (5 + (a : Int) + (b : Int)) ∧ ((s + (5 + a + b) : Nat) : Int) = (s : Int) + (5 + (a : Int) + (b : Int)) ∧ (k : Int) < (n : Int) ∧ IntKind.i64.wrap ((k : Int) + 1) = (k : Int) + 1 := ⟨IntWalk.i64_in _ (by omega), IntWalk.i64_in _ (by omega), IntWalk.i64_in _ (by omega), by omega, by omega, IntWalk.i64_in _ (by omega)⟩
end Go.Proofs.YtapikjhfgcbifaaGreatDoor

