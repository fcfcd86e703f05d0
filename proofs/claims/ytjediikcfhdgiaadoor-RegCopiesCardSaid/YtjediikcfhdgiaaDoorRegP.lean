/-
  The law RegCopies: whole; the opener of its second argument.
-/
import Derived.Test.YtjediikcfhdgiaaDoorRegO
namespace Go.Proofs.YtjediikcfhdgiaaDoor
set_option maxRecDepth 100000
set_option linter.unusedVariables false
set_option linter.unusedSimpArgs false
open Go.RowKit Go.Maps
structure OpsR where
  (A : Option Addr) (c : Nat) (xs : List OpR)
def OpsR.v (s : OpsR) : Value := .slice s.A s.xs.length s.c
structure OpsR.Ok (w : World) (s : OpsR) : Prop where
  le : s.xs.length ≤ s.c
  max : s.c ≤ maxLen
  rows : Many OpR.cells 3 w s.A s.xs
  ok : ∀ o ∈ s.xs, o.In
section
variable {H : Type} {enc : TypeId × Value → H} {w : World} {base : Nat} {held : Bool} {v : Value} {d : DataW H} {p : List MemPlace} {r : Reach} {b0 : Nat}
theorem open_opsr (hv : Value.okWide Tryd.prog w r b0 22 v) (hd : DataW.Trod enc Tryd.prog w base (fun _ => true) held 22 v d p) (hw : ∀ m ∈ d.weights Tryd.prog 22, m ≤ reachBytes) : ∃ s : OpsR, v = s.v ∧ OpsR.Ok w s := by
  have h := (opensW_slice (sz := 3) (bytes := 24) Tryd.underlying22 opens_opr (by kernel_rfl) (by omega) (by kernel_rfl)).sl Tryd.underlying22 hv hd hw
  obtain ⟨A, xs, c, e, h1, h2, _, h3, h4⟩ := h.many (R := fun w (o : OpR) => o.In) (f := OpR.cells) (fun _ hq => hq)
  simp at e
  exact ⟨⟨A, c, xs⟩, e, ⟨h1, h2, h3, h4⟩⟩
end
theorem RegCopies_any (z : CaseR) (s : OpsR) (w : World) (hz : z.Ok w) (hs : OpsR.Ok w s) (hT : Tbl w) : Calls Tryd.prog 6 #[z.v, s.v] w fun e w' => e = .returned (.bool true) ∧ Below w.heap.size w w' := by
  by_cases hok : 1 ≤ z.a ∧ z.a ≤ 64 ∧ 1 ≤ z.b ∧ z.b ≤ 65536
  · exact copies_yes z s.A s.xs s.c w hz hs.le hs.max hs.rows hs.ok hT hok
  · exact copies_no z s.A s.xs.length s.c w hz hT hok
end Go.Proofs.YtjediikcfhdgiaaDoor

