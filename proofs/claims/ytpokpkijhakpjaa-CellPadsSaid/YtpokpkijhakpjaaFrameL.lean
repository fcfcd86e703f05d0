/-
  The fixed answers of the laws of layer 9.
-/
import Derived.Test.YtpokpkijhakpjaaFrameP
import Derived.Test.YtpokpkijhakpjaaOctetL
namespace Go.Proofs.Ytpokpkijhakpjaa
set_option linter.unusedVariables false
open Go.RowKit

end Go.Proofs.Ytpokpkijhakpjaa
