/-
  Blocks of a row of allocations.
-/
import Derived.Test.YtcdghmidpaeloaaGen
namespace Go.Proofs.Ytcdghmidpaeloaa
set_option linter.unusedVariables false
open Go.RowKit
theorem Blk.mkAt {w : World} {g : Nat} {t : TypeId} {cs : Array Value} (h : w.heap.size = g) : Blk (w.alloc (.cells cs t)) g t cs := by
  subst h
  exact Blk.new w t cs
theorem Blk.set2 {w : World} {g i : Nat} {t : TypeId} {cs ds : Array Value} {u : Value} (h : Blk w g t cs) (hd : cs.setIfInBounds i u = ds) : Blk (w.setCell ⟨g, i, none⟩ u) g t ds := by
  subst hd
  exact h.set i u
end Go.Proofs.Ytcdghmidpaeloaa

