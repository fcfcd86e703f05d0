/-
  A slice of bytes as an argument, its place bounded.
-/
import Derived.Test.YtffdhegflnhfjaaShapeW
namespace Go.Proofs.Ytffdhegflnhfjaa
set_option maxRecDepth 100000
set_option linter.unusedVariables false
open Go.RowKit Go.ChangeShapes Go.WideShapes Go.Deep
section
variable {H : Type} {enc : TypeId × Value → H} {w : World} {base : Nat} {held : Bool} {v : Value} {d : DataW H} {p : List MemPlace} {r : Reach} {b0 : Nat}
theorem open_bsl1 (hv : Value.okWide Try.prog w r b0 34 v) (hd : DataW.Trod enc Try.prog w base (fun _ => true) held 34 v d p) (hw : ∀ m ∈ d.weights Try.prog 34, m ≤ reachBytes) : ∃ x : BSl, v = .slice x.A x.l.length x.c ∧ x.Ok w := by
  have h := (opensW_bytes Try.underlying34 Try.underlying5 (by kernel_rfl) (by kernel_rfl)).sl Try.underlying34 hv hd hw
  obtain ⟨x, e, ho⟩ := h.bsl
  simp [BSl.cells] at e
  exact ⟨x, e, ho⟩
end
end Go.Proofs.Ytffdhegflnhfjaa

