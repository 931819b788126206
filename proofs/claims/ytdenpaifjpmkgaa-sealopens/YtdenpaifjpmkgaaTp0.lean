/- SealOpens, evaluated: one way in which the list is told. -/
import Derived.Test.YtdenpaifjpmkgaaTo
namespace Go.Proofs.Ytdenpaifjpmkgaa
open Go.Ev
set_option maxRecDepth 100000
theorem oGot_0_0 : oGotD 0 0 = true := by kernel_rfl
theorem oGot_0_1 : oGotD 0 1 = true := by kernel_rfl
theorem oGot_0_2 : oGotD 0 2 = true := by kernel_rfl
theorem oGot_0_3 : oGotD 0 3 = true := by kernel_rfl
theorem oGot_0_4 : oGotD 0 4 = true := by kernel_rfl
theorem oGot_0_5 : oGotD 0 5 = true := by kernel_rfl
theorem oGot_0_6 : oGotD 0 6 = true := by kernel_rfl
theorem oGot_0_7 : oGotD 0 7 = true := by kernel_rfl
theorem oGot_0_8 : oGotD 0 8 = true := by kernel_rfl
theorem oGot_0_9 : oGotD 0 9 = true := by kernel_rfl
end Go.Proofs.Ytdenpaifjpmkgaa
