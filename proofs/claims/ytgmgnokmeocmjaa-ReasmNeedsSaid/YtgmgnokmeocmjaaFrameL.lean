/-
  The fixed answers of the laws of layer 9.
-/
import Derived.Test.YtgmgnokmeocmjaaFrameP
import Derived.Test.YtgmgnokmeocmjaaOctetL
namespace Go.Proofs.Ytgmgnokmeocmjaa
set_option linter.unusedVariables false
open Go.RowKit

end Go.Proofs.Ytgmgnokmeocmjaa
