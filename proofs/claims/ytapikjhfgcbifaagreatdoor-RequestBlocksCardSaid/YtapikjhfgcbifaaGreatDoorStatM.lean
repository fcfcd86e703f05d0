/-
  Texts laid together: Stat7 Stat8 Stat9.
-/
import Derived.Test.YtapikjhfgcbifaaGreatDoorStat6
/-
  The laws StaticGets, StaticNames.
-/
namespace Go.Proofs.YtapikjhfgcbifaaGreatDoor
set_option maxRecDepth 100000
set_option linter.unusedVariables false
open Go.RowKit

theorem prF_self (p : Fld) : prF p p = true := by simp [prF]
set_option maxRecDepth 100000 in
theorem tbl_apart : ∀ k, k < 61 → ∀ j, j < k → prF (fldAt k) (fldAt j) = false := by
  simp only [prF, eqD_eq]
  decide +kernel
section
variable {w : World}
end
end Go.Proofs.YtapikjhfgcbifaaGreatDoor

/-
  The law StaticNames.
-/
namespace Go.Proofs.YtapikjhfgcbifaaGreatDoor
set_option maxRecDepth 100000
set_option linter.unusedVariables false
open Go.RowKit

theorem str_info : (Tryz.prog.info? 9).map (fun i => i.size) = some 1 := by kernel_rfl
section
variable {w : World}
end
end Go.Proofs.YtapikjhfgcbifaaGreatDoor

/-
  The law StaticFinds.
-/
namespace Go.Proofs.YtapikjhfgcbifaaGreatDoor
set_option maxRecDepth 100000
set_option linter.unusedVariables false
open Go.RowKit

def prN (nm : ByteArray) (p : Fld) : Bool := p.1.toList == nm.toList
theorem FstIx.uniq {pr : Fld → Bool} {z z' : Int} (h : FstIx pr z) (h' : FstIx pr z') : z = z' := by
  rcases h' with ⟨rfl, hn⟩ | ⟨k, hk, rfl, hy, hn⟩
  · rcases h with ⟨h, _⟩ | ⟨k, hk, rfl, hy, _⟩
    · exact h
    · rw [hn k hk] at hy; cases hy
  · exact h.at k hk hy hn
/-- Where a field is, or its name: the place; is it whole? -/
def FdIx (q : Fld) (z : Int) (ex : Bool) : Prop := (∃ k : Nat, k < 61 ∧ z = (k : Int) + 1 ∧ ex = true ∧ prF q (fldAt k) = true ∧ ∀ j, j < k → prF q (fldAt j) = false) ∨ (ex = false ∧ (∀ j, j < 61 → prF q (fldAt j) = false) ∧ FstIx (prN q.1) z)
theorem FdIx.uniq {q : Fld} {z z' : Int} {ex ex' : Bool} (h : FdIx q z ex) (h' : FdIx q z' ex') : z = z' ∧ ex = ex' := by
  rcases h with ⟨k, hk, rfl, rfl, hy, hn⟩ | ⟨rfl, hn, hz⟩
  · rcases h' with ⟨k', hk', rfl, rfl, hy', hn'⟩ | ⟨rfl, hn', hz'⟩
    · refine ⟨?_, rfl⟩
      rcases Nat.lt_trichotomy k k' with h | h | h
      · rw [hn' k h] at hy; cases hy
      · rw [h]
      · rw [hn k' h] at hy'; cases hy'
    · rw [hn' k hk] at hy; cases hy
  · rcases h' with ⟨k', hk', rfl, rfl, hy', hn'⟩ | ⟨rfl, hn', hz'⟩
    · rw [hn k' hk'] at hy'; cases hy'
    · exact ⟨hz.uniq hz', rfl⟩
def FR (pr : Fld → Bool) (m : Nat) (f : Int) : Prop := (f = 0 ∧ ∀ j, m ≤ j → j < 61 → pr (fldAt j) = false) ∨ (∃ k : Nat, k < 61 ∧ f = (k : Int) + 1 ∧ pr (fldAt k) = true ∧ ∀ j, m ≤ j → j < k → pr (fldAt j) = false)
theorem FR.yes {pr : Fld → Bool} {m : Nat} (hm : m < 61) (h : pr (fldAt m) = true) : FR pr m ((m : Int) + 1) := .inr ⟨m, hm, rfl, h, fun j h1 h2 => by omega⟩
theorem FR.no {pr : Fld → Bool} {m : Nat} {f : Int} (hf : FR pr (m + 1) f) (h : pr (fldAt m) = false) : FR pr m f := by
  rcases hf with ⟨rfl, hn⟩ | ⟨k, hk, rfl, hy, hn⟩
  · exact .inl ⟨rfl, fun j h1 h2 => by
      rcases Nat.lt_or_ge m j with h3 | h3
      · exact hn j h3 h2
      · obtain rfl : j = m := by omega
        exact h⟩
  · exact .inr ⟨k, hk, rfl, hy, fun j h1 h2 => by
      rcases Nat.lt_or_ge m j with h3 | h3
      · exact hn j h3 h2
      · obtain rfl : j = m := by omega
        exact h⟩
theorem FR.ix {pr : Fld → Bool} {f : Int} (h : FR pr 0 f) : FstIx pr f := by
  rcases h with ⟨rfl, hn⟩ | ⟨k, hk, rfl, hy, hn⟩
  · exact .inl ⟨rfl, fun j hj => hn j (by omega) hj⟩
  · exact .inr ⟨k, hk, rfl, hy, fun j hj => hn j (by omega) hj⟩
def RfP (q : Fld) (w : World) (e : Ending) (w' : World) : Prop := ∃ z ex, e = .returned (.tuple #[.int .i64 z, .int .i64 (if ex then 1 else 0)]) ∧ FdIx q z ex ∧ Fresh w w'
end Go.Proofs.YtapikjhfgcbifaaGreatDoor

