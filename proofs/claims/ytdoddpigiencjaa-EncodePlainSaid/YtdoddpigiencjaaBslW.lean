/-
  A slice of bytes as an argument, its place bounded.
-/
import Derived.Test.YtdoddpigiencjaaShapeW
namespace Go.Proofs.Ytdoddpigiencjaa
set_option maxRecDepth 100000
set_option linter.unusedVariables false
open Go.RowKit Go.ChangeShapes Go.WideShapes Go.Deep
section
variable {H : Type} {enc : TypeId × Value → H} {w : World} {base : Nat} {held : Bool} {v : Value} {d : DataW H} {p : List MemPlace} {r : Reach} {b0 : Nat}
theorem open_bsl1 (hv : Value.okWide Try.prog w r b0 29 v) (hd : DataW.Trod enc Try.prog w base (fun _ => true) held 29 v d p) (hw : ∀ m ∈ d.weights Try.prog 29, m ≤ reachBytes) : ∃ x : BSl, v = .slice x.A x.l.length x.c ∧ x.Ok w := by
  have h := (opensW_bytes Try.underlying29 Try.underlying5 (by kernel_rfl) (by kernel_rfl)).sl Try.underlying29 hv hd hw
  obtain ⟨x, e, ho⟩ := h.bsl
  simp [BSl.cells] at e
  exact ⟨x, e, ho⟩
end
end Go.Proofs.Ytdoddpigiencjaa

