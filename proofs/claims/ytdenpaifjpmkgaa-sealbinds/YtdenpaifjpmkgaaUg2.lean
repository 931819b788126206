/- SealBinds: its loop has no loops over functions. -/
import Derived.Test.YtdenpaifjpmkgaaUg
namespace Go.Proofs.Ytdenpaifjpmkgaa
open Go.Ev
set_option maxRecDepth 100000
theorem bLps_2t10 : bLps 3 1 false true 10 = true := by kernel_rfl
theorem bLps_2t6 : bLps 3 1 false true 6 = true := by kernel_rfl
theorem bLps_2t7 : bLps 3 1 false true 7 = true := by kernel_rfl
theorem bLps_2t8 : bLps 3 1 false true 8 = true := by kernel_rfl
theorem bLps_2t9 : bLps 3 1 false true 9 = true := by kernel_rfl
theorem bLps_2f8 : bLps 3 1 false false 8 = true := by kernel_rfl
theorem bLps_2f9 : bLps 3 1 false false 9 = true := by kernel_rfl
end Go.Proofs.Ytdenpaifjpmkgaa
