/-
  Package request: the places of a request's lines.
-/
import Derived.Test.YtapikjhfgcbifaaGreatDoorReqB
import Derived.Test.YtapikjhfgcbifaaGreatDoorClnF
import Derived.Deep.RegionHeld3
import Derived.Deep.RegionLaw
import Derived.Deep.Cut
import Derived.RegionTactic
import Derived.BigRegion
namespace Go.Proofs.YtapikjhfgcbifaaGreatDoor
set_option maxRecDepth 100000
set_option linter.unusedVariables false
set_option linter.unusedSimpArgs false
open Go.RowKit
def mthN : ByteArray := ⟨#[58, 109, 101, 116, 104, 111, 100]⟩
def schN : ByteArray := ⟨#[58, 115, 99, 104, 101, 109, 101]⟩
def pthN : ByteArray := ⟨#[58, 112, 97, 116, 104]⟩
def autN : ByteArray := ⟨#[58, 97, 117, 116, 104, 111, 114, 105, 116, 121]⟩
/-- A request. -/
structure RqV where
  (m s p a : ByteArray)
  (FA : Option Addr) (fc : Nat) (fs : List FldT)
  (BA : Option Addr) (bc : Nat) (bd : List UInt8)
def RqV.arr (r : RqV) : Array Value := #[.string r.m, .string r.s, .string r.p, .string r.a, .slice r.FA r.fs.length r.fc, .slice r.BA r.bd.length r.bc]
/-- May its four texts be? -/
def rightR (m s p a : ByteArray) : Bool := mthB m.data.toList && (schB s && (pthB p && visB a.data.toList))
def autL (a : ByteArray) : List LnD := if a.data.toList = [] then [] else [((autN, a), false)]
def baseR (m s p a : ByteArray) : List LnD := [((mthN, m), false), ((schN, s), false), ((pthN, p), false)] ++ autL a
/-- A request's lines, or the first error. -/
def linesR (m s p a : ByteArray) (fs : List FldT) : Nat × List LnD :=
  if rightR m s p a = false then (31, []) else if (clnR fs).1 ≠ 0 then ((clnR fs).1, []) else (0, baseR m s p a ++ (clnR fs).2)
/-- What places tells: where each text is, and what tells whether it may stand there. -/
def plcA (b : Nat) : Array Value := #[.string mthN, .pointer (some ⟨b, 0, none⟩), .func (.func 47) #[] #[], .string schN, .pointer (some ⟨b, 1, none⟩), .func (.func 48) #[] #[], .string pthN, .pointer (some ⟨b, 2, none⟩), .func (.func 49) #[] #[], .string autN, .pointer (some ⟨b, 3, none⟩), .func (.func 50) #[] #[]]
theorem rq_places (b : Nat) (w : World) : Calls Tryz.prog 34 #[.pointer (some ⟨b, 0, none⟩)] w fun e w' => ∃ q, e = .returned (.slice (some ⟨q, 0, none⟩) 4 4) ∧ Blk w' q 72 (plcA b) ∧ w.heap.size ≤ q ∧ Fresh w w' := by
  go_enter Tryz.func34, Tryz.ntmps34
  go_wp2_with fail
  go_region
  all_goals
    go_wp2_with fail
    go_ret
    exact ⟨_, rfl, Blk.new _ _ _, Nat.le_refl _, (Fresh.drew _).trans (Fresh.alloc _ _)⟩
end Go.Proofs.YtapikjhfgcbifaaGreatDoor

