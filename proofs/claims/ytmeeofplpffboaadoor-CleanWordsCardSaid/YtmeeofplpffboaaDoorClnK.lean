/-
  The law CleanWords.
-/
import Derived.Test.YtmeeofplpffboaaDoorClnI
import Derived.Test.YtmeeofplpffboaaDoorClnO
namespace Go.Proofs.YtmeeofplpffboaaDoor
open Go.RowKit
theorem CleanWordsW_any (f : FldT) (w : World) (h : f.Ok w) : Calls Tryd.prog 3 #[.agg #[.string f.1, .string f.2]] w fun e w' => e = .returned (.bool true) ∧ Fresh w w' := CleanWords_any f w
end Go.Proofs.YtmeeofplpffboaaDoor

