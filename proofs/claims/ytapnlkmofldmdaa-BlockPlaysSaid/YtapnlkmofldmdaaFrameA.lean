/-
  Contracts of package frame: All.
-/
import Derived.Test.YtapnlkmofldmdaaFrameP
import Derived.Test.YtapnlkmofldmdaaOwn
namespace Go.Proofs.Ytapnlkmofldmdaa
set_option linter.unusedVariables false
open Go.RowKit

end Go.Proofs.Ytapnlkmofldmdaa
