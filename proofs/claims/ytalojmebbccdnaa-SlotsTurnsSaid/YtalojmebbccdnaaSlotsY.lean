/-
  The law SlotsTurns, whatever its input.
-/
import Derived.Test.YtalojmebbccdnaaSlotsX
namespace Go.Proofs.Ytalojmebbccdnaa
set_option linter.unusedVariables false
open Go.RowKit Go.Shelf

theorem SlotsTurns_any (f a n s : Int) (w : World) (_ : (Lit.int .i64 f).wf = true) (_ : (Lit.int .i64 a).wf = true) (_ : (Lit.int .i64 n).wf = true) (_ : (Lit.int .i64 s).wf = true) :
    Calls Try.prog 7 #[.agg #[.int .i64 f, .int .i64 a, .int .i64 n, .int .i64 s]] w fun e w' => e = .returned (.bool true) ∧ Below w.heap.size w w' := by
  by_cases h : 1 ≤ s ∧ s ≤ 200
  · exact turns_ok f a n s h.1 h.2 w
  · exact turns_small f a n s (by omega) w
end Go.Proofs.Ytalojmebbccdnaa
