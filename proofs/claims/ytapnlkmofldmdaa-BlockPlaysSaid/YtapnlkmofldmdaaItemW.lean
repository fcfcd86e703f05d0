/-
  Items that came in, with what they weigh.
-/
import Derived.Test.YtapnlkmofldmdaaItem
import Derived.Test.YtapnlkmofldmdaaShapeW
namespace Go.Proofs.Ytapnlkmofldmdaa
set_option linter.unusedVariables false
open Go.RowKit Go.ChangeShapes Go.WideShapes Go.Deep
theorem opensW_item : OpensW Try.prog 34 (fun w cs => ∃ x : ItV, cs = x.cells ∧ x.Ok w ∧ x.l.length ≤ 140737488351232) :=
  (opensW_struct (sz := 15) [(0, 1, QInt .i64), (1, 1, QInt .i64), (2, 1, QBytesW), (3, 1, QBool), (4, 1, QBool), (5, 1, QBool), (6, 1, QInt .i64), (7, 1, QInt .i64), (8, 1, QInt .i64), (9, 1, QInt .i64), (10, 1, QInt .i64), (11, 1, QInt .i64), (12, 1, QBool), (13, 1, QBool),
      (14, 1, QSl 2 (fun w cs => cs.length = 2 * 1 ∧ ∀ i, i < 2 → QInt .i64 w ((cs.drop (i * 1)).take 1)))] Try.underlying34 (by kernel_rfl) (by
    intro p hp
    simp only [List.mem_cons, List.not_mem_nil, or_false] at hp
    rcases hp with rfl | rfl | rfl | rfl | rfl | rfl | rfl | rfl | rfl | rfl | rfl | rfl | rfl | rfl | rfl
    · exact ⟨0, _, rfl, rfl, by kernel_rfl, (opens_int Try.underlying3).w⟩
    · exact ⟨1, _, rfl, rfl, by kernel_rfl, (opens_int Try.underlying3).w⟩
    · exact ⟨2, _, rfl, rfl, by kernel_rfl, opensW_bytes Try.underlying31 Try.underlying5 (by kernel_rfl) (by kernel_rfl)⟩
    · exact ⟨3, _, rfl, rfl, by kernel_rfl, (opens_bool Try.underlying4).w⟩
    · exact ⟨4, _, rfl, rfl, by kernel_rfl, (opens_bool Try.underlying4).w⟩
    · exact ⟨5, _, rfl, rfl, by kernel_rfl, (opens_bool Try.underlying4).w⟩
    · exact ⟨6, _, rfl, rfl, by kernel_rfl, (opens_int Try.underlying3).w⟩
    · exact ⟨7, _, rfl, rfl, by kernel_rfl, (opens_int Try.underlying3).w⟩
    · exact ⟨8, _, rfl, rfl, by kernel_rfl, (opens_int Try.underlying3).w⟩
    · exact ⟨9, _, rfl, rfl, by kernel_rfl, (opens_int Try.underlying3).w⟩
    · exact ⟨10, _, rfl, rfl, by kernel_rfl, (opens_int Try.underlying3).w⟩
    · exact ⟨11, _, rfl, rfl, by kernel_rfl, (opens_int Try.underlying3).w⟩
    · exact ⟨12, _, rfl, rfl, by kernel_rfl, (opens_bool Try.underlying4).w⟩
    · exact ⟨13, _, rfl, rfl, by kernel_rfl, (opens_bool Try.underlying4).w⟩
    · exact ⟨14, _, rfl, rfl, by kernel_rfl, (opens_slice Try.underlying32 (opens_array Try.underlying87 (by kernel_rfl) (by kernel_rfl) (opens_int Try.underlying3)) (by kernel_rfl) (by omega)).w⟩)).mono (by
    intro w cs ⟨hl, h⟩
    match cs, hl with
    | [c0, c1, c2, c3, c4, c5, c6, c7, c8, c9, c10, c11, c12, c13, c14], _ =>
      simp only [List.forall_mem_cons, List.drop_zero, List.drop_succ_cons, List.take_succ_cons, List.take_zero] at h
      obtain ⟨⟨z0, e0, _⟩, ⟨z1, e1, _⟩, ⟨A, l, c, e2, h1, h2, h3⟩, ⟨b3, e3⟩, ⟨b4, e4⟩, ⟨b5, e5⟩, ⟨z6, e6, _⟩, ⟨z7, e7, _⟩, ⟨z8, e8, _⟩, ⟨z9, e9, _⟩, ⟨z10, e10, _⟩, ⟨z11, e11, _⟩, ⟨b12, e12⟩, ⟨b13, e13⟩, h14, _⟩ := h
      obtain ⟨PA, ps, pc, e14, p1, p2, p3, _⟩ := h14.rows (R := fun _ (_ : Int × Int) => True) (f := pairC) (fun cs ⟨hl, hq⟩ => by
        match cs, hl with
        | [a, b], _ =>
          obtain ⟨x, ex, _⟩ := hq 0 (by omega)
          obtain ⟨y, ey, _⟩ := hq 1 (by omega)
          simp at ex ey
          subst ex ey
          exact ⟨(x, y), rfl, trivial⟩)
      simp only [List.cons.injEq, and_true] at e0 e1 e2 e3 e4 e5 e6 e7 e8 e9 e10 e11 e12 e13 e14
      subst e0 e1 e2 e3 e4 e5 e6 e7 e8 e9 e10 e11 e12 e13 e14
      exact ⟨⟨z0, z1, A, c, l, b3, b4, b5, z6, z7, z8, z9, z10, z11, b12, b13, PA, pc, ps⟩, rfl, ⟨h1, (show c ≤ maxLen by unfold maxLen; omega), h3, p1, p2, p3⟩, by show l.length ≤ _; omega⟩)
/-- Items whose texts are within the reach. -/
structure ItsV.OkW (w : World) (s : ItsV) : Prop where
  ok : s.Ok w
  sz : ∀ x ∈ s.xs, x.l.length ≤ 140737488351232
section
variable {H : Type} {enc : TypeId × Value → H} {w : World} {base : Nat} {held : Bool} {v : Value} {d : DataW H} {p : List MemPlace} {r : Reach} {b0 : Nat}
theorem open_itemsW (hv : Value.okWide Try.prog w r b0 22 v) (hd : DataW.Trod enc Try.prog w base (fun _ => true) held 22 v d p) (hw : ∀ m ∈ d.weights Try.prog 22, m ≤ reachBytes) :
    ∃ s : ItsV, v = .slice s.A s.xs.length s.c ∧ s.OkW w := by
  have h := (opensW_slice (sz := 15) (bytes := Try.prog.bytesOf 34) Try.underlying22 opensW_item (by kernel_rfl) (by omega) rfl).sl Try.underlying22 hv hd hw
  obtain ⟨A, xs, c, e, h1, h2, _, h3, h4⟩ := h.many (R := fun w (x : ItV) => x.Ok w ∧ x.l.length ≤ 140737488351232) (f := ItV.cells) (fun _ hq => hq)
  simp at e
  exact ⟨⟨A, c, xs⟩, e, ⟨h1, h2, h3, fun x hx => (h4 x hx).1⟩, fun x hx => (h4 x hx).2⟩
end
end Go.Proofs.Ytapnlkmofldmdaa
