/- SealBinds: its loop has no loops over functions. -/
import Derived.Test.YtdenpaifjpmkgaaUg
namespace Go.Proofs.Ytdenpaifjpmkgaa
open Go.Ev
set_option maxRecDepth 100000
theorem bLps_0t10 : bLps 2 0 true true 10 = true := by kernel_rfl
theorem bLps_0t6 : bLps 2 0 true true 6 = true := by kernel_rfl
theorem bLps_0t7 : bLps 2 0 true true 7 = true := by kernel_rfl
theorem bLps_0t8 : bLps 2 0 true true 8 = true := by kernel_rfl
theorem bLps_0t9 : bLps 2 0 true true 9 = true := by kernel_rfl
theorem bLps_0f8 : bLps 2 0 true false 8 = true := by kernel_rfl
theorem bLps_0f9 : bLps 2 0 true false 9 = true := by kernel_rfl
end Go.Proofs.Ytdenpaifjpmkgaa
