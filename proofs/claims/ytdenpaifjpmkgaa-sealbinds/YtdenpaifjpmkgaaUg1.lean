/- SealBinds: its loop has no loops over functions. -/
import Derived.Test.YtdenpaifjpmkgaaUg
namespace Go.Proofs.Ytdenpaifjpmkgaa
open Go.Ev
set_option maxRecDepth 100000
theorem bLps_1t10 : bLps 2 1 false true 10 = true := by kernel_rfl
theorem bLps_1t6 : bLps 2 1 false true 6 = true := by kernel_rfl
theorem bLps_1t7 : bLps 2 1 false true 7 = true := by kernel_rfl
theorem bLps_1t8 : bLps 2 1 false true 8 = true := by kernel_rfl
theorem bLps_1t9 : bLps 2 1 false true 9 = true := by kernel_rfl
theorem bLps_1f8 : bLps 2 1 false false 8 = true := by kernel_rfl
theorem bLps_1f9 : bLps 2 1 false false 9 = true := by kernel_rfl
end Go.Proofs.Ytdenpaifjpmkgaa
