/-
  Bytes of one's own block that a loop changes in place.
-/
import Derived.Test.YtapikjhfgcbifaaGreatDoorOwn
import Derived.Test.YtapikjhfgcbifaaGreatDoorMore
import Derived.Test.YtapikjhfgcbifaaGreatDoorMake
import Derived.Test.YtapikjhfgcbifaaGreatDoorRet
namespace Go.Proofs.YtapikjhfgcbifaaGreatDoor
set_option linter.unusedVariables false
open Go.RowKit
/-- Block g holds n bytes, and it alone may have changed. -/
def IncS (w : World) (g n : Nat) (wr : World) : Prop := Only (· = g) w wr ∧ ∃ l : List UInt8, l.length = n ∧ Blk wr g 5 (bytesA l)
theorem IncS.start {w : World} {g : Nat} {l : List UInt8} (h : Blk w g 5 (bytesA l)) : IncS w g l.length w := ⟨Only.refl _ _, l, rfl, h⟩
theorem bytesA_set (l : List UInt8) (k : Nat) (y : UInt8) : (bytesA l).setIfInBounds k (byteV y) = bytesA (l.set k y) := by
  apply Array.toList_inj.1
  simp [bytesA, List.map_set]
theorem IncS.step {w wr : World} {g n : Nat} (h : IncS w g n wr) (k : Nat) (hk : k < n) : ∃ x : UInt8, wr.cell? ⟨g, k, none⟩ = some (.int .u8 (x.toNat : Int)) ∧ wr.frozen? ⟨g, k, none⟩ = false ∧ ((x.toNat : Int) + 1) % 256 = ((x + 1).toNat : Int) ∧
    ∀ y : UInt8, IncS w g n (wr.setCell ⟨g, k, none⟩ (.int .u8 (y.toNat : Int))) := by
  obtain ⟨ho, l, hl, hb⟩ := h
  subst hl
  refine ⟨l[k], ?_, hb.frozen k, by simp, fun y => ⟨ho.trans (Only.setCell wr ⟨g, k, none⟩ _), l.set k y, by simp, ?_⟩⟩
  · rw [hb.cell, bytesA_get, List.getElem?_eq_getElem hk]; rfl
  · have := hb.set k (byteV y)
    rw [bytesA_set] at this
    exact this
theorem Fresh.only {S : Nat → Prop} {w w1 w2 : World} (hf : Fresh w w1) (ho : Only S w1 w2) (hS : ∀ k, S k → w.heap.size ≤ k) : Fresh w w2 :=
  Only.fresh (S := fun _ => False) ((Only.of_fresh hf).trans' ho (fun i hi e => by have := hS i e; omega)) (fun _ _ h => h)
/-- The first m bytes of the slice at A may have changed, nothing else. -/
def IncD (w : World) (A : Option Addr) (m : Nat) (wr : World) : Prop := Only (fun k => 0 < m ∧ A = some ⟨k, 0, none⟩) w wr ∧ ∀ g (l0 : List UInt8), Blk w g 5 (bytesA l0) → ∃ l : List UInt8, l.length = l0.length ∧ Blk wr g 5 (bytesA l)
theorem IncD.start (w : World) (A : Option Addr) (m : Nat) : IncD w A m w := ⟨Only.refl _ _, fun g l0 h => ⟨l0, rfl, h⟩⟩
theorem IncD.step {w wr : World} {A : Option Addr} {m : Nat} (h : IncD w A m wr) (h0 : 0 < m → ∃ g l, A = some ⟨g, 0, none⟩ ∧ m ≤ l.length ∧ Blk w g 5 (bytesA l)) (k : Nat) (hk : k < m) : ∃ (g : Nat) (x : UInt8), A = some ⟨g, 0, none⟩ ∧ wr.cell? ⟨g, k, none⟩ = some (.int .u8 (x.toNat : Int)) ∧ wr.frozen? ⟨g, k, none⟩ = false ∧ ((x.toNat : Int) + 1) % 256 = ((x + 1).toNat : Int) ∧
    ∀ y : UInt8, IncD w A m (wr.setCell ⟨g, k, none⟩ (.int .u8 (y.toNat : Int))) := by
  obtain ⟨ho, hb⟩ := h
  obtain ⟨g, l0, rfl, hl0, hb0⟩ := h0 (by omega)
  obtain ⟨l, hl, hbl⟩ := hb g l0 hb0
  have hkl : k < l.length := by omega
  refine ⟨g, l[k], rfl, ?_, hbl.frozen k, by simp, fun y => ⟨ho.step ⟨g, k, none⟩ _ (.inl ⟨by omega, rfl⟩), fun g' l' hb' => ?_⟩⟩
  · rw [hbl.cell, bytesA_get, List.getElem?_eq_getElem hkl]; rfl
  · by_cases e : g' = g
    · subst e
      obtain ⟨l2, hl2, hb2⟩ := hb _ l' hb'
      have := hb2.set k (byteV y)
      rw [bytesA_set] at this
      exact ⟨l2.set k y, by simp [hl2], this⟩
    · obtain ⟨l2, hl2, hb2⟩ := hb g' l' hb'
      exact ⟨l2, hl2, hb2.far (fun e' => e e') _⟩
end Go.Proofs.YtapikjhfgcbifaaGreatDoor

