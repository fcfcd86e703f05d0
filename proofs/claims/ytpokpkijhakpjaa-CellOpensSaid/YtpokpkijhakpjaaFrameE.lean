/-
  Rows of frames, cell by cell.
-/
import Derived.Test.YtpokpkijhakpjaaFrameA
namespace Go.Proofs.Ytpokpkijhakpjaa
set_option linter.unusedVariables false
open Go.RowKit

theorem flat4_length (fs : List (Fr × Option Addr)) : (fs.flatMap cellsF).length = fs.length * 4 := by
  induction fs with
  | nil => rfl
  | cons p fs ih => rw [List.flatMap_cons, List.length_append, ih, List.length_cons]; show 4 + _ = _; omega
theorem flat4_get (fs : List (Fr × Option Addr)) (k j : Nat) (hj : j < 4) : (fs.flatMap cellsF)[k * 4 + j]? = (fs[k]?).bind fun p => (cellsF p)[j]? := by
  induction fs generalizing k with
  | nil => simp
  | cons p fs ih =>
    rw [List.flatMap_cons]
    have h4 : (cellsF p).length = 4 := rfl
    cases k with
    | zero => rw [List.getElem?_append_left (by omega)]; simp
    | succ k =>
      rw [List.getElem?_append_right (by omega), h4, show (k + 1) * 4 + j - 4 = k * 4 + j by omega, ih k]
      simp
/-- The cells of frame k. -/
theorem OwnF.cells {w : World} {base n c : Nat} {A : Option Addr} {fs : List (Fr × Option Addr)} (h : OwnF w base (.slice A n c) fs) (k : Nat) (p : Fr × Option Addr) (hp : fs[k]? = some p) :
    ∃ g, A = some ⟨g, 0, none⟩ ∧ g < w.heap.size ∧ base ≤ g ∧ w.cell? ⟨g, k * 4, none⟩ = some (.int .i64 (p.1.x.toNat : Int)) ∧ w.cell? ⟨g, k * 4 + 1, none⟩ = some (.int .i64 (p.1.y.toNat : Int)) ∧ w.cell? ⟨g, k * 4 + 2, none⟩ = some (.int .i64 (p.1.st : Int)) ∧ w.cell? ⟨g, k * 4 + 3, none⟩ = some (.slice p.2 p.1.pl.length p.1.pl.length) := by
  have hk : k < fs.length := (List.getElem?_eq_some_iff.1 hp).1
  rcases h.1.form with ⟨e, h0, _⟩ | ⟨g, cap, e, hb, hlt, _, _, hc⟩
  · omega
  · injection e with e1
    have key : ∀ j, j < 4 → w.cell? ⟨g, k * 4 + j, none⟩ = (cellsF p)[j]? := fun j hj => by
      rw [(hc (k * 4 + j) (by rw [flat4_length]; omega)).1, flat4_get fs k j hj, hp]
      rfl
    exact ⟨g, e1, hlt, hb, key 0 (by omega), key 1 (by omega), key 2 (by omega), key 3 (by omega)⟩

/-- Two rows of four cells, as they stand. -/
abbrev EightS (w0 : World) (g o : Nat) (g' o' : Nat) (a b c d a' b' c' d' : Value) (w' : World) : Prop :=
  w'.cell? ⟨g, o, none⟩ = some a ∧ w'.cell? ⟨g, o + 1, none⟩ = some b ∧ w'.cell? ⟨g, o + 2, none⟩ = some c ∧ w'.cell? ⟨g, o + 3, none⟩ = some d ∧
  w'.cell? ⟨g', o', none⟩ = some a' ∧ w'.cell? ⟨g', o' + 1, none⟩ = some b' ∧ w'.cell? ⟨g', o' + 2, none⟩ = some c' ∧ w'.cell? ⟨g', o' + 3, none⟩ = some d' ∧
  g < w'.heap.size ∧ g' < w'.heap.size ∧ Fresh w0 w'
theorem EightS.fresh {w0 W W' : World} {g o g' o' : Nat} {a b c d a' b' c' d' : Value} (h : EightS w0 g o g' o' a b c d a' b' c' d' W) (hf : Fresh W W') : EightS w0 g o g' o' a b c d a' b' c' d' W' := by
  obtain ⟨c0, c1, c2, c3, d0, d1, d2, d3, hg, hg', hF⟩ := h
  have k0 : ∀ o, W'.cell? ⟨g, o, none⟩ = W.cell? ⟨g, o, none⟩ := fun o => hf.cell (p := ⟨g, o, none⟩) hg
  have k1 : ∀ o, W'.cell? ⟨g', o, none⟩ = W.cell? ⟨g', o, none⟩ := fun o => hf.cell (p := ⟨g', o, none⟩) hg'
  exact ⟨(k0 _).trans c0, (k0 _).trans c1, (k0 _).trans c2, (k0 _).trans c3, (k1 _).trans d0, (k1 _).trans d1, (k1 _).trans d2, (k1 _).trans d3, by have := hf.size; omega, by have := hf.size; omega, hF.trans hf⟩
theorem EightS.fr {w0 W : World} {g o g' o' : Nat} {a b c d a' b' c' d' : Value} (h : EightS w0 g o g' o' a b c d a' b' c' d' W) : Fresh w0 W := h.2.2.2.2.2.2.2.2.2.2

end Go.Proofs.Ytpokpkijhakpjaa
