/-
  Frames that came in.
-/
import Derived.Test.YtginhebfjbhmnaaGreatG01
import Derived.Test.YtginhebfjbhmnaaGreatG17
namespace Go.Proofs.YtginhebfjbhmnaaGreat
set_option maxRecDepth 100000
set_option linter.unusedVariables false
open Go.RowKit
section
open Go.ChangeShapes Go.WideShapes Go.Deep
/-- Frames that came in. -/
structure FrsV where
  (A : Option Addr) (c : Nat) (xs : List FrV)
structure FrsV.Ok (w : World) (s : FrsV) : Prop where
  le : s.xs.length ≤ s.c
  max : s.c ≤ maxLen
  rows : Many FrV.cells 4 w s.A s.xs
  ok : ∀ x ∈ s.xs, x.Ok w
variable {H : Type} {enc : TypeId × Value → H} {w : World} {base : Nat} {spare : Nat → Bool} {held : Bool} {v : Value} {d : DataW H} {p : List MemPlace} {r : Reach} {b0 : Nat}
theorem open_frames (hv : Value.okWide Tryz.prog w r b0 22 v) (hd : DataW.Trod enc Tryz.prog w base spare held 22 v d p) :
    ∃ s : FrsV, v = .slice s.A s.xs.length s.c ∧ s.Ok w := by
  have h := (opens_slice (sz := 4) Tryz.underlying22 opens_frame (by kernel_rfl) (by omega)).sl Tryz.underlying22 hv hd
  obtain ⟨A, xs, c, e, h1, h2, h3, h4⟩ := h.rows (R := fun w (x : FrV) => x.Ok w) (f := FrV.cells) (fun _ hq => hq)
  simp at e
  exact ⟨⟨A, c, xs⟩, e, h1, h2, h3, h4⟩
end

theorem Many.at_ {α : Type} {f : α → List Value} {w : World} {A : Option Addr} {xs : List α} (h : Many f 4 w A xs) (k : Nat) (x : α) (hx : xs[k]? = some x) :
    ∃ b o, A = some ⟨b, o, none⟩ ∧ b < w.heap.size ∧ w.cell? ⟨b, o + k * 4, none⟩ = (f x)[0]? ∧ w.cell? ⟨b, o + k * 4 + 1, none⟩ = (f x)[1]? ∧ w.cell? ⟨b, o + k * 4 + 2, none⟩ = (f x)[2]? ∧ w.cell? ⟨b, o + k * 4 + 3, none⟩ = (f x)[3]? := by
  obtain ⟨hk, rfl⟩ := List.getElem?_eq_some_iff.1 hx
  obtain ⟨b, o, e, hb, hc⟩ := h (by omega)
  exact ⟨b, o, e, hb, hc k hk 0 (by omega), hc k hk 1 (by omega), hc k hk 2 (by omega), hc k hk 3 (by omega)⟩
theorem FrsV.Ok.fresh {w w' : World} {s : FrsV} (h : s.Ok w) (hf : Fresh w w') : s.Ok w' := ⟨h.le, h.max, h.rows.fresh hf, fun x hx => (h.ok x hx).fresh hf⟩
/-- Frames whose payloads are within the reach. -/
structure FrsV.OkW (w : World) (s : FrsV) : Prop where
  ok : s.Ok w
  sz : ∀ x ∈ s.xs, x.l.length ≤ 140737488351232
section
open Go.ChangeShapes Go.WideShapes Go.Deep
theorem opensW_frame : OpensW Tryz.prog 34 (fun w cs => ∃ f : FrV, cs = f.cells ∧ f.Ok w ∧ f.l.length ≤ 140737488351232) :=
  (opensW_struct (sz := 4) [(0, 1, QInt .i64), (1, 1, QInt .i64), (2, 1, QInt .i64), (3, 1, QBytesW)] Tryz.underlying34 (by kernel_rfl) (by
    intro p hp
    simp only [List.mem_cons, List.not_mem_nil, or_false] at hp
    rcases hp with rfl | rfl | rfl | rfl
    · exact ⟨0, _, rfl, rfl, by kernel_rfl, (opens_int Tryz.underlying3).w⟩
    · exact ⟨1, _, rfl, rfl, by kernel_rfl, (opens_int Tryz.underlying3).w⟩
    · exact ⟨2, _, rfl, rfl, by kernel_rfl, (opens_int Tryz.underlying3).w⟩
    · exact ⟨3, _, rfl, rfl, by kernel_rfl, opensW_bytes Tryz.underlying28 Tryz.underlying5 (by kernel_rfl) (by kernel_rfl)⟩)).mono (by
    intro w cs ⟨hl, h⟩
    match cs, hl with
    | [c0, c1, c2, c3], _ =>
      simp only [List.forall_mem_cons, List.drop_zero, List.drop_succ_cons, List.take_succ_cons, List.take_zero] at h
      obtain ⟨⟨z0, e0, w0⟩, ⟨z1, e1, w1⟩, ⟨z2, e2, w2⟩, ⟨A, l, c, e3, h1, h2, h3⟩, _⟩ := h
      simp only [List.cons.injEq, and_true] at e0 e1 e2 e3
      subst e0 e1 e2 e3
      exact ⟨⟨z0, z1, z2, A, c, l⟩, rfl, ⟨wf_i64_bd w0, wf_i64_bd w1, wf_i64_bd w2, h1, (show c ≤ maxLen by unfold maxLen; omega), h3⟩, by show l.length ≤ _; omega⟩)
variable {H : Type} {enc : TypeId × Value → H} {w : World} {base : Nat} {held : Bool} {v : Value} {d : DataW H} {p : List MemPlace} {r : Reach} {b0 : Nat}
theorem open_framesW (hv : Value.okWide Tryz.prog w r b0 22 v) (hd : DataW.Trod enc Tryz.prog w base (fun _ => true) held 22 v d p) (hw : ∀ m ∈ d.weights Tryz.prog 22, m ≤ reachBytes) :
    ∃ s : FrsV, v = .slice s.A s.xs.length s.c ∧ s.OkW w := by
  have h := (opensW_slice (sz := 4) (bytes := Tryz.prog.bytesOf 34) Tryz.underlying22 opensW_frame (by kernel_rfl) (by omega) rfl).sl Tryz.underlying22 hv hd hw
  obtain ⟨A, xs, c, e, h1, h2, _, h3, h4⟩ := h.many (R := fun w (x : FrV) => x.Ok w ∧ x.l.length ≤ 140737488351232) (f := FrV.cells) (fun _ hq => hq)
  simp at e
  exact ⟨⟨A, c, xs⟩, e, ⟨h1, h2, h3, fun x hx => (h4 x hx).1⟩, fun x hx => (h4 x hx).2⟩
end
end Go.Proofs.YtginhebfjbhmnaaGreat

