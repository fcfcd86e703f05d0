/-
  Texts laid together: Dyn7 Dyn8 Dyn9.
-/
import Derived.Test.YtapikjhfgcbifaaGreatDoorDynQ
import Derived.Test.YtapikjhfgcbifaaGreatDoorShape
import Derived.Test.YtapikjhfgcbifaaGreatDoorChain
/-
  The document's Size and Resize of a list of fields.
-/
namespace Go.Proofs.YtapikjhfgcbifaaGreatDoor
set_option linter.unusedVariables false
set_option linter.unusedSimpArgs false
open Go.RowKit
theorem Many.atD2 {w : World} {A : Option Addr} {xs : List FldT} (h : Many fldD 2 w A xs) (k : Nat) (x : FldT) (hx : xs[k]? = some x) :
    ∃ b o, A = some ⟨b, o, none⟩ ∧ b < w.heap.size ∧ w.cell? ⟨b, o + k * 2, none⟩ = some (.string x.1) ∧ w.cell? ⟨b, o + k * 2 + 1, none⟩ = some (.string x.2) := by
  obtain ⟨hk, rfl⟩ := List.getElem?_eq_some_iff.1 hx
  obtain ⟨b, o, e, hb, hc⟩ := h (by omega)
  exact ⟨b, o, e, hb, by have := hc k hk 0 (by omega); simpa [fldD] using this, by have := hc k hk 1 (by omega); simpa [fldD] using this⟩
theorem Many.takeD {w : World} {A : Option Addr} {xs : List FldT} (h : Many fldD 2 w A xs) (n : Nat) : Many fldD 2 w A (xs.take n) := by
  intro hn
  have hl : 0 < xs.length := by rw [List.length_take] at hn; omega
  obtain ⟨b, o, e, hb, hc⟩ := h hl
  refine ⟨b, o, e, hb, fun k hk j hj => ?_⟩
  rw [List.length_take] at hk
  rw [hc k (by omega) j hj, List.getElem_take]
theorem tz_take (xs : List FldT) (k : Nat) (f : FldT) (h : xs[k]? = some f) : tz (xs.take (k + 1)) = tz (xs.take k) + fz f := by
  obtain ⟨hk, rfl⟩ := List.getElem?_eq_some_iff.1 h
  rw [List.take_succ_eq_append_getElem hk, tz_append]
  simp [tz]
theorem tz_take_le (xs : List FldT) (k : Nat) : tz (xs.take k) ≤ tz xs := by
  have h := tz_append (xs.take k) (xs.drop k)
  rw [List.take_append_drop] at h
  omega
end Go.Proofs.YtapikjhfgcbifaaGreatDoor

/-
  The document's Resize and Add of a list of fields.
-/
namespace Go.Proofs.YtapikjhfgcbifaaGreatDoor
set_option linter.unusedVariables false
set_option linter.unusedSimpArgs false
open Go.RowKit
def lenV (v : Value) : Nat := match v with
  | .slice _ n _ => n
  | _ => 0
theorem tz_reverse (l : List FldT) : tz l.reverse = tz l := by
  simp [tz, List.sum_reverse]
theorem take_rev (fs : List FldT) (k : Nat) : fs.reverse.take (fs.length - k) = (fs.drop k).reverse := by
  rw [List.reverse_drop]
theorem wrap_e64 (n : Int) : IntKind.i64.wrap n = wrap64 n := by
  unfold wrap64
  exact IntKind.wrap_i64 n
end Go.Proofs.YtapikjhfgcbifaaGreatDoor

/-
  The document's Add to a list of fields.
-/
namespace Go.Proofs.YtapikjhfgcbifaaGreatDoor
set_option linter.unusedVariables false
set_option linter.unusedSimpArgs false
open Go.RowKit
theorem own_many {w : World} {base n c : Nat} {E : TypeId} {A : Option Addr} {xs : List FldT} (h : Own w base E 2 (.slice A n c) n (rowD xs)) : Many fldD 2 w A xs := by
  intro hn
  have hl := h.length
  rw [rowD_length] at hl
  rcases h.form with ⟨_, h0, _⟩ | ⟨g, cap, e, hb, hlt, _, _, hc⟩
  · omega
  · injection e with e1
    refine ⟨g, 0, e1, hlt, fun k hk j hj => ?_⟩
    obtain ⟨r0, r1⟩ := rowD_at (List.getElem?_eq_getElem hk)
    have hj' : j = 0 ∨ j = 1 := by omega
    rcases hj' with rfl | rfl
    · rw [Nat.zero_add, Nat.add_zero, (hc _ (by rw [rowD_length]; omega)).1, r0]; rfl
    · rw [Nat.zero_add, (hc _ (by rw [rowD_length]; omega)).1, r1]; rfl
theorem goneN_neg (l : List FldT) (room : Int) (h : room < 0) : goneN l room = l.length := by
  induction l with
  | nil => rfl
  | cons f r ih => rw [goneN, if_pos (by omega), ih]; rfl
theorem addF_no (fs : List FldT) (lim : Int) (f : FldT) (h : lim < (fz f : Int)) : addF fs lim f = [] := by
  unfold addF
  rw [if_neg (by omega), goneN_neg _ _ (by omega), List.drop_length]
end Go.Proofs.YtapikjhfgcbifaaGreatDoor

