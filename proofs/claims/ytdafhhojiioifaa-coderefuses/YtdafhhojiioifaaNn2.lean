/- The reference's products, at all pairs. -/
import Derived.Test.YtdafhhojiioifaaNn0
namespace Go.Proofs.Ytdafhhojiioifaa
open Go.Fl
set_option maxRecDepth 100000
theorem kRm_c : (((fds.drop 18).take 8).all fun F => kRmR F 0 F.q) = true := by kernel_rfl
theorem kRm_d0 : kRmR (fds.getD 26 ⟨2, 1, 2, 1, [0], 1, 0⟩) 0 8 = true := by kernel_rfl
theorem kRm_d1 : kRmR (fds.getD 26 ⟨2, 1, 2, 1, [0], 1, 0⟩) 8 8 = true := by kernel_rfl
theorem kRm_d2 : kRmR (fds.getD 26 ⟨2, 1, 2, 1, [0], 1, 0⟩) 16 8 = true := by kernel_rfl
end Go.Proofs.Ytdafhhojiioifaa
