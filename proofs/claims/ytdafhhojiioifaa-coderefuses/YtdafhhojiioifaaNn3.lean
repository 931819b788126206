/- The reference's products, at all pairs. -/
import Derived.Test.YtdafhhojiioifaaNn0
namespace Go.Proofs.Ytdafhhojiioifaa
open Go.Fl
set_option maxRecDepth 100000
theorem kRm_d3 : kRmR (fds.getD 26 ⟨2, 1, 2, 1, [0], 1, 0⟩) 24 8 = true := by kernel_rfl
theorem kRm_d4 : kRmR (fds.getD 26 ⟨2, 1, 2, 1, [0], 1, 0⟩) 32 8 = true := by kernel_rfl
theorem kRm_d5 : kRmR (fds.getD 26 ⟨2, 1, 2, 1, [0], 1, 0⟩) 40 8 = true := by kernel_rfl
theorem kRm_d6 : kRmR (fds.getD 26 ⟨2, 1, 2, 1, [0], 1, 0⟩) 48 8 = true := by kernel_rfl
theorem kRm_d7 : kRmR (fds.getD 26 ⟨2, 1, 2, 1, [0], 1, 0⟩) 56 8 = true := by kernel_rfl
end Go.Proofs.Ytdafhhojiioifaa
