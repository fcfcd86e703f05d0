/-
  What is new is not a decoder's.
-/
import Derived.Test.YtffdhegflnhfjaaDecK3
namespace Go.Proofs.Ytffdhegflnhfjaa
set_option linter.unusedVariables false
open Go.RowKit
theorem S7.notNewE {w0 w W : World} {d p g : Nat} {v : Value} {fs : List FldT} {lim most bound : Int} {dead : Bool} {l : List UInt8} {A : Option Addr} (h : S7 w0 w d p v fs lim most bound dead) (hg : ∀ b o, A = some ⟨b, o, none⟩ → w.heap.size ≤ b) : NotIn p v A l ∧ ∀ b o, A = some ⟨b, o, none⟩ → ¬ (b = d ∨ b = p ∨ v.ownBlock = some b) := by
  have key : ∀ b o, A = some ⟨b, o, none⟩ → ¬ (b = d ∨ b = p ∨ v.ownBlock = some b) := fun b o e hh => by
    have hb := hg b o e
    rcases hh with hh | hh | hh
    · have := h.dec.blk.lt; omega
    · have := h.dec.tab.blk.lt; omega
    · have := (h.dec.tab.ne _ hh).2; omega
  exact ⟨fun _ b o e hh => key b o e (.inr hh), key⟩
end Go.Proofs.Ytffdhegflnhfjaa

