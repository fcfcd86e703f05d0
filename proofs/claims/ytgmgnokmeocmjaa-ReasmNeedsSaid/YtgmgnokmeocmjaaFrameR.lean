/-
  The document's answers for layer 9.
-/
import Derived.Test.YtgmgnokmeocmjaaFrameL
namespace Go.Proofs.Ytgmgnokmeocmjaa
set_option linter.unusedVariables false
open Go.RowKit

end Go.Proofs.Ytgmgnokmeocmjaa
