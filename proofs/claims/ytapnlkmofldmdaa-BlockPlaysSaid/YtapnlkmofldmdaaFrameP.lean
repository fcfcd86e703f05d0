/-
  Contracts of package frame: Parse.
-/
import Derived.Test.YtapnlkmofldmdaaFrameB
import Derived.Test.YtapnlkmofldmdaaRdr
namespace Go.Proofs.Ytapnlkmofldmdaa
set_option linter.unusedVariables false
open Go.RowKit

end Go.Proofs.Ytapnlkmofldmdaa
