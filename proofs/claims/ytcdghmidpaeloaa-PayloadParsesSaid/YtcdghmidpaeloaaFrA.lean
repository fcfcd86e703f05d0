/-
  A frame that came in.
-/
import Derived.Test.YtcdghmidpaeloaaFrameM
import Derived.Test.YtcdghmidpaeloaaShapeW
namespace Go.Proofs.Ytcdghmidpaeloaa
set_option linter.unusedVariables false
open Go.RowKit Go.ChangeShapes Go.WideShapes Go.Deep
theorem opens_frameA : Opens Try.prog 24 (fun w cs => ∃ f : FrV, cs = f.cells ∧ f.Ok w) :=
  (opens_struct (sz := 4) [(0, 1, QInt .i64), (1, 1, QInt .i64), (2, 1, QInt .i64), (3, 1, QBytes)] Try.underlying24 (by kernel_rfl) (by
    intro p hp
    simp only [List.mem_cons, List.not_mem_nil, or_false] at hp
    rcases hp with rfl | rfl | rfl | rfl
    · exact ⟨0, _, rfl, rfl, by kernel_rfl, opens_int Try.underlying3⟩
    · exact ⟨1, _, rfl, rfl, by kernel_rfl, opens_int Try.underlying3⟩
    · exact ⟨2, _, rfl, rfl, by kernel_rfl, opens_int Try.underlying3⟩
    · exact ⟨3, _, rfl, rfl, by kernel_rfl, opens_bytes Try.underlying22 Try.underlying5 (by kernel_rfl)⟩)).mono (by
    intro w cs ⟨hl, h⟩
    match cs, hl with
    | [c0, c1, c2, c3], _ =>
      obtain ⟨z0, e0, w0⟩ := h _ (List.mem_cons_self ..)
      obtain ⟨z1, e1, w1⟩ := h _ (List.mem_cons_of_mem _ (List.mem_cons_self ..))
      obtain ⟨z2, e2, w2⟩ := h _ (List.mem_cons_of_mem _ (List.mem_cons_of_mem _ (List.mem_cons_self ..)))
      obtain ⟨A, l, c, e3, h1, h2, h3⟩ := h _ (List.mem_cons_of_mem _ (List.mem_cons_of_mem _ (List.mem_cons_of_mem _ (List.mem_cons_self ..))))
      simp at e0 e1 e2 e3
      subst e0 e1 e2 e3
      exact ⟨⟨z0, z1, z2, A, c, l⟩, rfl, wf_i64_bd w0, wf_i64_bd w1, wf_i64_bd w2, h1, h2, h3⟩)
section
variable {H : Type} {enc : TypeId × Value → H} {w : World} {base : Nat} {spare : Nat → Bool} {held : Bool} {v : Value} {d : DataW H} {p : List MemPlace} {r : Reach} {b0 : Nat}
theorem open_frameA (hv : Value.okWide Try.prog w r b0 24 v) (hd : DataW.Trod enc Try.prog w base spare held 24 v d p) :
    ∃ f : FrV, v = .agg #[.int .i64 f.ty, .int .i64 f.fl, .int .i64 f.st, .slice f.A f.l.length f.c] ∧ f.Ok w := by
  obtain ⟨cs, rfl, f, hc, hf⟩ := opens_frameA.agg Try.underlying24 hv hd
  refine ⟨f, ?_, hf⟩
  congr 1
  apply Array.toList_inj.1
  rw [hc]
  rfl
end
end Go.Proofs.Ytcdghmidpaeloaa

