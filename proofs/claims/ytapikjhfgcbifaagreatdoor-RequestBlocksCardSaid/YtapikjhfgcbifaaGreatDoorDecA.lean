/-
  Layer 7: what a block says. No Go in sight.
-/
import Derived.Test.YtapikjhfgcbifaaGreatDoorLitP
import Derived.Test.YtapikjhfgcbifaaGreatDoorStat6
import Derived.Test.YtapikjhfgcbifaaGreatDoorDynR
namespace Go.Proofs.YtapikjhfgcbifaaGreatDoor
set_option maxRecDepth 100000
set_option linter.unusedVariables false
open Go.RowKit
/-- The field of a number, the table's fields the oldest first. -/
def entR (fs : List FldT) (n : Nat) : Option FldT :=
  if 1 ≤ n ∧ n ≤ 61 then some (fldAt (n - 1)) else if 61 < n ∧ n - 61 ≤ fs.length then fs[fs.length - (n - 61)]? else none
theorem entR_static (fs : List FldT) {n : Nat} (h1 : 1 ≤ n) (h2 : n ≤ 61) : entR fs n = some (fldAt (n - 1)) := by
  unfold entR; rw [if_pos ⟨h1, h2⟩]
theorem entR_dyn (fs : List FldT) {n : Nat} (h1 : 61 < n) (h2 : n - 61 ≤ fs.length) : entR fs n = fs[fs.length - (n - 61)]? := by
  unfold entR; rw [if_neg (by omega), if_pos ⟨h1, h2⟩]
theorem entR_none (fs : List FldT) {n : Nat} (h : n = 0 ∨ (61 < n ∧ fs.length < n - 61)) : entR fs n = none := by
  unfold entR
  rw [if_neg (by omega), if_neg (by omega)]
/-- A form's kind by its first byte: 0 a whole entry, 1 added, 2 a limit, 3 never, 4 without; and its bits. -/
def kindR (x : Nat) : Nat := if 128 ≤ x then 0 else if 64 ≤ x then 1 else if 32 ≤ x then 2 else if 16 ≤ x then 3 else 4
def bitsR (x : Nat) : Nat := if 128 ≤ x then 7 else if 64 ≤ x then 6 else if 32 ≤ x then 5 else 4
theorem bitsR_bd (x : Nat) : 4 ≤ bitsR x ∧ bitsR x ≤ 7 := by unfold bitsR; (repeat' split) <;> omega
theorem kindR_bd (x : Nat) : kindR x ≤ 4 := by unfold kindR; (repeat' split) <;> omega
/-- A field whose value is written out: an error's number, or the field, and how many bytes its texts have. -/
def fieldR (fs : List FldT) (n : Nat) (l : List UInt8) : Nat × FldT × Nat :=
  let nm : Nat × ByteArray × Nat := if n = 0 then (if (litR l 4096).2.2 = 0 then (0, strB (litR l 4096).1, (litR l 4096).2.1) else ((litR l 4096).2.2, strB [], 0))
    else match entR fs n with
      | some f => (0, f.1, 0)
      | none => (23, strB [], 0)
  if nm.1 = 0 then (if (litR (l.drop nm.2.2) 4096).2.2 = 0 then (0, (nm.2.1, strB (litR (l.drop nm.2.2) 4096).1), nm.2.2 + (litR (l.drop nm.2.2) 4096).2.1) else ((litR (l.drop nm.2.2) 4096).2.2, (strB [], strB []), 0))
  else (nm.1, (strB [], strB []), 0)
/-- A line of a form of a kind. -/
def lineR (fs : List FldT) (k n : Nat) (l : List UInt8) : Nat × FldT × Nat :=
  if k = 0 then (match entR fs n with
    | some f => (0, f, 0)
    | none => (23, (strB [], strB []), 0))
  else fieldR fs n l
end Go.Proofs.YtapikjhfgcbifaaGreatDoor

