/-
  The law BlockSplits: any input.
-/
import Derived.Test.YtapnlkmofldmdaaBlockT
namespace Go.Proofs.Ytapnlkmofldmdaa
set_option linter.unusedVariables false
open Go.RowKit

theorem BlockSplits_any (f : PdV) (w : World) (hf : f.Ok w) :
    Calls Try.prog 4 #[.agg #[.int .i64 f.st, .slice f.A f.l.length f.c, .bool f.e, .int .i64 f.n]] w fun e w' => e = .returned (.bool true) ∧ Below w.heap.size w w' := by
  obtain ⟨st, A, c, l, e, n⟩ := f
  obtain ⟨_, _, hle, hmax, hbs⟩ := hf
  simp only at *
  show Calls _ _ _ _ (LwP w)
  by_cases hl : 300 < l.length
  · exact spl_long n hl
  by_cases hb : st < 1 ∨ 2147483647 < st ∨ n < 1 ∨ 16384 < n
  · exact spl_no n (by omega) hb
  obtain ⟨m, rfl⟩ : ∃ m : Nat, n = (m : Int) := ⟨n.toNat, by omega⟩
  exact spl_yes m (by omega) hle hmax hbs (by omega) (by omega) (by omega) (by omega)
end Go.Proofs.Ytapnlkmofldmdaa
