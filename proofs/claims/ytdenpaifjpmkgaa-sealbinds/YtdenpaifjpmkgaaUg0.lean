/- SealBinds: its loop has no loops over functions. -/
import Derived.Test.YtdenpaifjpmkgaaUg
namespace Go.Proofs.Ytdenpaifjpmkgaa
open Go.Ev
set_option maxRecDepth 100000
theorem bLps_0t10 : bLps 2 0 true true 10 = true := by kernel_rfl
theorem bLps_0t6 : bLps 2 0 true true 6 = true := by kernel_rfl
theorem bLps_0t7 : bLps 2 0 true true 7 = true := by kernel_rfl
theorem bLps_0t8 : bLps 2 0 true true 8 = true := by kernel_rfl
theorem bLps_0t9 : bLps 2 0 true true 9 = true := by kernel_rfl
theorem bLps_0f8 : bLps 2 0 true false 8 = true := by kernel_rfl
theorem bLps_0f9 : bLps 2 0 true false 9 = true := by kernel_rfl
theorem bLps_1t10 : bLps 2 1 false true 10 = true := by kernel_rfl
theorem bLps_1t6 : bLps 2 1 false true 6 = true := by kernel_rfl
theorem bLps_1t7 : bLps 2 1 false true 7 = true := by kernel_rfl
theorem bLps_1t8 : bLps 2 1 false true 8 = true := by kernel_rfl
theorem bLps_1t9 : bLps 2 1 false true 9 = true := by kernel_rfl
theorem bLps_1f8 : bLps 2 1 false false 8 = true := by kernel_rfl
theorem bLps_1f9 : bLps 2 1 false false 9 = true := by kernel_rfl
theorem bLps_2t10 : bLps 3 1 false true 10 = true := by kernel_rfl
theorem bLps_2t6 : bLps 3 1 false true 6 = true := by kernel_rfl
theorem bLps_2t7 : bLps 3 1 false true 7 = true := by kernel_rfl
theorem bLps_2t8 : bLps 3 1 false true 8 = true := by kernel_rfl
theorem bLps_2t9 : bLps 3 1 false true 9 = true := by kernel_rfl
theorem bLps_2f8 : bLps 3 1 false false 8 = true := by kernel_rfl
theorem bLps_2f9 : bLps 3 1 false false 9 = true := by kernel_rfl
end Go.Proofs.Ytdenpaifjpmkgaa
