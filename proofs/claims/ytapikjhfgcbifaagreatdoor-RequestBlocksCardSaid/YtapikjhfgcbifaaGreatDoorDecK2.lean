/-
  Texts laid together: DecI DecJ DecK DecL DecM DecN DecP.
-/
import Derived.Test.YtapikjhfgcbifaaGreatDoorDecV1
/-
  Package decode: Dead, New, Table.
-/
namespace Go.Proofs.YtapikjhfgcbifaaGreatDoor
set_option maxRecDepth 100000
set_option linter.unusedVariables false
set_option linter.unusedSimpArgs false
open Go.RowKit
theorem de_new (most bound : Int) (w : World) (h0 : 0 ≤ most) (h1 : most ≤ 65536) (hb0 : 0 ≤ bound) (hb1 : bound ≤ 16384) :
    Calls Tryz.prog 18 #[.int .i64 most, .int .i64 bound] w fun e w' => ∃ d p, e = .returned (.tuple #[.pointer (some ⟨d, 0, none⟩), .int .i64 0]) ∧ w.heap.size ≤ p ∧ p < d ∧ (∀ base, DecAt w' base d p (.slice none 0 0) [] most most bound false) ∧ Fresh w w' := by
  have HNW := Lib.hid (dy_new most h0 h1 w)
  have e1 : ¬ bound < 0 := by omega
  have e2 : ¬ (16384 : Int) < bound := by omega
  have e1d : decide (bound < 0) = false := decide_eq_false e1
  have e2d : decide ((16384 : Int) < bound) = false := decide_eq_false e2
  go_enter Tryz.func18, Tryz.ntmps18
  go_wp2_with fail
  with_reducible refine HNW.out.mono ?_
  rintro e w1 ⟨p, rfl, hp, ht, hf⟩
  have HP := Lib.hid hp
  have HT := Lib.hid ht
  have HF := Lib.hid hf
  clear hp ht hf
  go_wp2
  go_ret2
  exact ⟨w1.heap.size, p, rfl, HP.out, (HT.out 0).blk.lt, fun base => ⟨Blk.new w1 _ _, (HT.out base).fresh (Fresh.alloc _ _)⟩, HF.out.trans (Fresh.alloc _ _)⟩
end Go.Proofs.YtapikjhfgcbifaaGreatDoor

/-
  Package decode: Copy.
-/
namespace Go.Proofs.YtapikjhfgcbifaaGreatDoor
set_option maxRecDepth 100000
set_option linter.unusedVariables false
set_option linter.unusedSimpArgs false
open Go.RowKit
end Go.Proofs.YtapikjhfgcbifaaGreatDoor

/-
  Package decode: New, refused.
-/
namespace Go.Proofs.YtapikjhfgcbifaaGreatDoor
set_option maxRecDepth 100000
set_option linter.unusedVariables false
set_option linter.unusedSimpArgs false
open Go.RowKit
theorem de_new_no (most bound : Int) (w : World) (h : most < 0 ∨ 65536 < most ∨ bound < 0 ∨ 16384 < bound) :
    Calls Tryz.prog 18 #[.int .i64 most, .int .i64 bound] w fun e w' => e = .returned (.tuple #[.pointer none, .int .i64 11]) ∧ Fresh w w' := by
  by_cases hm : most < 0 ∨ 65536 < most
  · have HNW := Lib.hid (dy_new_no most hm w)
    go_enter Tryz.func18, Tryz.ntmps18
    go_wp2_with fail
    with_reducible refine HNW.out.mono ?_
    rintro e w1 ⟨rfl, rfl⟩
    go_wp2
    go_ret2
    exact ⟨rfl, Fresh.refl _⟩
  · have HNW := Lib.hid (dy_new most (by omega) (by omega) w)
    by_cases hb : bound < 0
    · have e1d : decide (bound < 0) = true := decide_eq_true hb
      go_enter Tryz.func18, Tryz.ntmps18
      go_wp2_with fail
      with_reducible refine HNW.out.mono ?_
      rintro e w1 ⟨p, rfl, hp, ht, hf⟩
      have HF := Lib.hid hf
      clear hp ht hf
      go_wp2
      go_ret2
      exact ⟨rfl, HF.out⟩
    · have e2 : (16384 : Int) < bound := by omega
      have e1d : decide (bound < 0) = false := decide_eq_false hb
      have e2d : decide ((16384 : Int) < bound) = true := decide_eq_true e2
      go_enter Tryz.func18, Tryz.ntmps18
      go_wp2_with fail
      with_reducible refine HNW.out.mono ?_
      rintro e w1 ⟨p, rfl, hp, ht, hf⟩
      have HF := Lib.hid hf
      clear hp ht hf
      go_wp2
      go_ret2
      exact ⟨rfl, HF.out⟩
end Go.Proofs.YtapikjhfgcbifaaGreatDoor

/-
  The document's bits.
-/
namespace Go.Proofs.YtapikjhfgcbifaaGreatDoor
set_option maxRecDepth 100000
set_option linter.unusedVariables false
set_option linter.unusedSimpArgs false
open Go.RowKit
end Go.Proofs.YtapikjhfgcbifaaGreatDoor

/-
  Package decode: Fields.
-/
namespace Go.Proofs.YtapikjhfgcbifaaGreatDoor
set_option maxRecDepth 100000
set_option linter.unusedVariables false
set_option linter.unusedSimpArgs false
open Go.RowKit
end Go.Proofs.YtapikjhfgcbifaaGreatDoor

/-
  The document's entry.
-/
namespace Go.Proofs.YtapikjhfgcbifaaGreatDoor
set_option maxRecDepth 100000
set_option linter.unusedVariables false
set_option linter.unusedSimpArgs false
open Go.RowKit
def En7P (fs : List FldT) (n : Nat) (w : World) (e : Ending) (w' : World) : Prop := (match entR fs n with
  | some f => e = .returned (.tuple #[.agg #[.string f.1, .string f.2], .int .i64 1])
  | none => e = .returned (.tuple #[nofV, .int .i64 0])) ∧ Fresh w w'
end Go.Proofs.YtapikjhfgcbifaaGreatDoor

/-
  The document's Decode of layer 7: its rows, its state, how a line's texts are read.
-/
namespace Go.Proofs.YtapikjhfgcbifaaGreatDoor
set_option maxRecDepth 100000
set_option linter.unusedVariables false
set_option linter.unusedSimpArgs false
open Go.RowKit
def nvI (b : Bool) : Int := if b then 1 else 0
def lnR (x : LnD) : List Value := [.string x.1.1, .string x.1.2, .int .i64 (nvI x.2)]
def rowR (l : List LnD) : List Value := l.flatMap lnR
theorem rowR_length (l : List LnD) : (rowR l).length = l.length * 3 := by
  induction l with
  | nil => rfl
  | cons x r ih => unfold rowR at *; rw [List.flatMap_cons, List.length_append, ih, List.length_cons]; simp [lnR]; omega
theorem rowR_at {x : LnD} {k : Nat} {xs : List LnD} (hf : xs[k]? = some x) : ∀ j, j < 3 → (rowR xs)[k * 3 + j]? = (lnR x)[j]? := by
  intro j hj
  induction xs generalizing k with
  | nil => cases hf
  | cons y r ih =>
    unfold rowR at *
    cases k with
    | zero =>
      simp only [List.getElem?_cons_zero, Option.some.injEq] at hf
      subst hf
      rw [List.flatMap_cons, List.getElem?_append_left (by simp [lnR]; omega)]
      simp
    | succ k =>
      rw [List.flatMap_cons, List.getElem?_append_right (by simp [lnR]; omega)]
      have := ih (k := k) (by simpa using hf)
      rw [show (k + 1) * 3 + j - (lnR y).length = k * 3 + j by simp [lnR]; omega]
      exact this
theorem own_manyR {w : World} {base n c : Nat} {E : TypeId} {A : Option Addr} {xs : List LnD} (h : Own w base E 3 (.slice A n c) n (rowR xs)) : Many lnR 3 w A xs := by
  intro hn
  have hl := h.length
  rw [rowR_length] at hl
  rcases h.form with ⟨_, h0, _⟩ | ⟨g, cap, e, hb, hlt, _, _, hc⟩
  · omega
  · injection e with e1
    refine ⟨g, 0, e1, hlt, fun k hk j hj => ?_⟩
    have := rowR_at (List.getElem?_eq_getElem hk) j hj
    rw [Nat.zero_add, (hc _ (by rw [rowR_length]; omega)).1, this]
/-- How the texts of a line are read, place by place. -/
def inR (kd n : Nat) : Nat → Nat → FldT → List UInt8 → Nat × FldT × List UInt8
  | 0, _, f, l => (0, f, l)
  | m + 1, k, f, l => if kd = 0 ∨ (k = 0 ∧ 0 < n) then inR kd n m (k + 1) f l
    else if (litR l 4096).2.2 ≠ 0 then ((litR l 4096).2.2, f, l)
    else inR kd n m (k + 1) (if k = 0 then (strB (litR l 4096).1, f.2) else (f.1, strB (litR l 4096).1)) (l.drop (litR l 4096).2.1)
theorem inR_line (gs : List FldT) (kd n : Nat) (l : List UInt8) (f0 : FldT) (h : kd = 0 ∨ 0 < n → entR gs n = some f0) :
    (inR kd n 2 0 f0 l).1 = (lineR gs kd n l).1 ∧ ((lineR gs kd n l).1 = 0 → (inR kd n 2 0 f0 l).2.1 = (lineR gs kd n l).2.1 ∧ (inR kd n 2 0 f0 l).2.2 = l.drop (lineR gs kd n l).2.2) := by
  by_cases hk : kd = 0
  · have he := h (.inl hk)
    have h1 : lineR gs kd n l = (0, f0, 0) := by unfold lineR; rw [if_pos hk, he]
    have h2 : inR kd n 2 0 f0 l = (0, f0, l) := by simp [inR, hk]
    rw [h1, h2]
    exact ⟨rfl, fun _ => ⟨rfl, by simp⟩⟩
  · have h1 : lineR gs kd n l = fieldR gs n l := by unfold lineR; rw [if_neg hk]
    rw [h1]
    by_cases hn : 0 < n
    · have he := h (.inr hn)
      rw [fieldR_entry (by omega) he]
      unfold valR
      simp only [List.drop_zero, Nat.zero_add]
      by_cases hz : (litR l 4096).2.2 = 0
      · have h2 : inR kd n 2 0 f0 l = (0, (f0.1, strB (litR l 4096).1), l.drop (litR l 4096).2.1) := by simp [inR, hk, hn, hz]
        rw [h2, if_pos hz]
        exact ⟨rfl, fun _ => ⟨rfl, rfl⟩⟩
      · have h2 : inR kd n 2 0 f0 l = ((litR l 4096).2.2, f0, l) := by simp [inR, hk, hn, hz]
        rw [h2, if_neg hz]
        exact ⟨rfl, fun hh => absurd hh hz⟩
    · obtain rfl : n = 0 := by omega
      by_cases hz : (litR l 4096).2.2 = 0
      · rw [fieldR_text hz]
        unfold valR
        by_cases hz2 : (litR (l.drop (litR l 4096).2.1) 4096).2.2 = 0
        · have h2 : inR kd 0 2 0 f0 l = (0, (strB (litR l 4096).1, strB (litR (l.drop (litR l 4096).2.1) 4096).1), (l.drop (litR l 4096).2.1).drop (litR (l.drop (litR l 4096).2.1) 4096).2.1) := by simp [inR, hk, hz, hz2]
          rw [h2, if_pos hz2]
          exact ⟨rfl, fun _ => ⟨rfl, by rw [List.drop_drop]⟩⟩
        · have h2 : (inR kd 0 2 0 f0 l).1 = (litR (l.drop (litR l 4096).2.1) 4096).2.2 := by simp [inR, hk, hz, hz2]
          rw [h2, if_neg hz2]
          exact ⟨rfl, fun hh => absurd hh hz2⟩
      · rw [fieldR_text_no hz]
        have h2 : inR kd 0 2 0 f0 l = ((litR l 4096).2.2, f0, l) := by simp [inR, hk, hz]
        rw [h2]
        exact ⟨rfl, fun hh => absurd hh hz⟩
theorem inR_skip {kd n m k : Nat} {f : FldT} {l : List UInt8} (h : kd = 0 ∨ (k = 0 ∧ 0 < n)) : inR kd n (m + 1) k f l = inR kd n m (k + 1) f l := by rw [inR, if_pos h]
theorem inR_err {kd n m k : Nat} {f : FldT} {l : List UInt8} (h : ¬ (kd = 0 ∨ (k = 0 ∧ 0 < n))) (he : (litR l 4096).2.2 ≠ 0) : inR kd n (m + 1) k f l = ((litR l 4096).2.2, f, l) := by rw [inR, if_neg h, if_pos he]
theorem inR_read {kd n m k : Nat} {f : FldT} {l : List UInt8} (h : ¬ (kd = 0 ∨ (k = 0 ∧ 0 < n))) (he : ¬ (litR l 4096).2.2 ≠ 0) : inR kd n (m + 1) k f l = inR kd n m (k + 1) (if k = 0 then (strB (litR l 4096).1, f.2) else (f.1, strB (litR l 4096).1)) (l.drop (litR l 4096).2.1) := by rw [inR, if_neg h, if_neg he]
section
variable {w wr W : World} {s0 r0 c : Nat} {A : Option Addr} {gs : List FldT} {lm most bound : Int} {ov : Value} {out : List LnD}
end
end Go.Proofs.YtapikjhfgcbifaaGreatDoor

