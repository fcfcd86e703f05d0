/-
  Package huff: Code.
-/
import Derived.Test.YtkdbndgkgpcmfaaHuf5
namespace Go.Proofs.Ytkdbndgkgpcmfaa
set_option linter.unusedVariables false
set_option linter.unusedSimpArgs false
open Go.RowKit
attribute [local go_sem high] fold_lnA run_index_lnA
theorem u8_infoH : (Try.prog.info? 5).map (fun i => (i.zero, i.size, i.bytes)) = some (some (.int .u8 0), 1, 1) := by kernel_rfl
end Go.Proofs.Ytkdbndgkgpcmfaa
