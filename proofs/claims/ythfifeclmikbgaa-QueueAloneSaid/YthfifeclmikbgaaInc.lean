/-
  Bytes of one's own block that a loop changes in place.
-/
import Derived.Test.YthfifeclmikbgaaOwn
import Derived.Test.YthfifeclmikbgaaMore
import Derived.Test.YthfifeclmikbgaaMake
import Derived.Test.YthfifeclmikbgaaRet
namespace Go.Proofs.Ythfifeclmikbgaa
set_option linter.unusedVariables false
open Go.RowKit
/-- Block g holds n bytes, and it alone may have changed. -/
def IncS (w : World) (g n : Nat) (wr : World) : Prop := Only (· = g) w wr ∧ ∃ l : List UInt8, l.length = n ∧ Blk wr g 5 (bytesA l)
theorem IncS.start {w : World} {g : Nat} {l : List UInt8} (h : Blk w g 5 (bytesA l)) : IncS w g l.length w := ⟨Only.refl _ _, l, rfl, h⟩
theorem bytesA_set (l : List UInt8) (k : Nat) (y : UInt8) : (bytesA l).setIfInBounds k (byteV y) = bytesA (l.set k y) := by
  apply Array.toList_inj.1
  simp [bytesA, List.map_set]
theorem IncS.step {w wr : World} {g n : Nat} (h : IncS w g n wr) (k : Nat) (hk : k < n) : ∃ x : UInt8, wr.cell? ⟨g, k, none⟩ = some (.int .u8 (x.toNat : Int)) ∧ wr.frozen? ⟨g, k, none⟩ = false ∧ ((x.toNat : Int) + 1) % 256 = ((x + 1).toNat : Int) ∧
    ∀ y : UInt8, IncS w g n (wr.setCell ⟨g, k, none⟩ (.int .u8 (y.toNat : Int))) := by
  obtain ⟨ho, l, hl, hb⟩ := h
  subst hl
  refine ⟨l[k], ?_, hb.frozen k, by simp, fun y => ⟨ho.trans (Only.setCell wr ⟨g, k, none⟩ _), l.set k y, by simp, ?_⟩⟩
  · rw [hb.cell, bytesA_get, List.getElem?_eq_getElem hk]; rfl
  · have := hb.set k (byteV y)
    rw [bytesA_set] at this
    exact this
end Go.Proofs.Ythfifeclmikbgaa
