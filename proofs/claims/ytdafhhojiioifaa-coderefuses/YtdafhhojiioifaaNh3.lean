/- Products, at all pairs. -/
import Derived.Test.YtdafhhojiioifaaNh
namespace Go.Proofs.Ytdafhhojiioifaa
open Go.RowKit Go.Fl Go.Shelf
set_option maxRecDepth 100000
set_option linter.unusedVariables false
set_option linter.unusedSectionVars false
theorem kMul_k : fds.all kMul = true := by kernel_rfl
end Go.Proofs.Ytdafhhojiioifaa
