/-
  Opening an argument that is a slice of whole numbers.
-/
import Derived.Test.YtnnciekbmapilaaShape
namespace Go.Proofs.Ytnnciekbmapilaa
set_option linter.unusedVariables false
open Go.RowKit Go.ChangeShapes Go.WideShapes Go.Deep

structure IntSl where
  (A : Option Addr) (c : Nat) (xs : List Int)
def IntSl.val (x : IntSl) : Value := .slice x.A x.xs.length x.c
structure IntSl.Ok (w : World) (x : IntSl) : Prop where
  le : x.xs.length ≤ x.c
  max : x.c ≤ maxLen
  row : Many (fun z : Int => [Value.int .i64 z]) 1 w x.A x.xs
  bd : ∀ z ∈ x.xs, -9223372036854775808 ≤ z ∧ z ≤ 9223372036854775807
theorem IntSl.Ok.fresh {w w' : World} {x : IntSl} (h : x.Ok w) (hf : Fresh w w') : x.Ok w' := ⟨h.le, h.max, h.row.fresh hf, h.bd⟩
theorem IntSl.Ok.at {w : World} {x : IntSl} (h : x.Ok w) {j : Nat} (hj : j < x.xs.length) : ∃ b o, x.A = some ⟨b, o, none⟩ ∧ b < w.heap.size ∧ w.cell? ⟨b, o + j, none⟩ = some (.int .i64 x.xs[j]) := by
  obtain ⟨b, o, e, hb, hc⟩ := h.row (by omega)
  refine ⟨b, o, e, hb, ?_⟩
  have := hc j hj 0 (by omega)
  simpa using this
theorem opens_ints : Opens Try.prog 28 (QSl 1 (QInt .i64)) := opens_slice Try.underlying28 (opens_int Try.underlying3) (by kernel_rfl) (by omega)
section
variable {H : Type} {enc : TypeId × Value → H} {w : World} {base : Nat} {spare : Nat → Bool} {held : Bool}
theorem open_intsl {v : Value} {d : DataW H} {p : List MemPlace} {r : Reach} {b0 : Nat} (hv : Value.okWide Try.prog w r b0 28 v) (h : DataW.Trod enc Try.prog w base spare held 28 v d p) : ∃ x : IntSl, v = x.val ∧ x.Ok w := by
  have hq := opens_ints.sl Try.underlying28 hv h
  obtain ⟨A, xs, c, e, h1, h2, h3, h4⟩ := QSl.rows (f := fun z : Int => [Value.int .i64 z]) (R := fun _ z => (Lit.int .i64 z).wf = true) hq (fun cs ⟨z, e, hz⟩ => ⟨z, e, hz⟩)
  have e' : v = .slice A xs.length c := by simpa using e
  exact ⟨⟨A, c, xs⟩, e', h1, h2, h3, fun z hz => wf_i64_bd (h4 z hz)⟩
end
end Go.Proofs.Ytnnciekbmapilaa
