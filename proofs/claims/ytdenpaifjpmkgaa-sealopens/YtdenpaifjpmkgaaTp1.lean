/- SealOpens, evaluated: one way in which the list is told. -/
import Derived.Test.YtdenpaifjpmkgaaTo
namespace Go.Proofs.Ytdenpaifjpmkgaa
open Go.Ev
set_option maxRecDepth 100000
theorem oGot_1_0 : oGotD 1 0 = true := by kernel_rfl
theorem oGot_1_1 : oGotD 1 1 = true := by kernel_rfl
theorem oGot_1_2 : oGotD 1 2 = true := by kernel_rfl
theorem oGot_1_3 : oGotD 1 3 = true := by kernel_rfl
theorem oGot_1_4 : oGotD 1 4 = true := by kernel_rfl
theorem oGot_1_5 : oGotD 1 5 = true := by kernel_rfl
theorem oGot_1_6 : oGotD 1 6 = true := by kernel_rfl
theorem oGot_1_7 : oGotD 1 7 = true := by kernel_rfl
theorem oGot_1_8 : oGotD 1 8 = true := by kernel_rfl
theorem oGot_1_9 : oGotD 1 9 = true := by kernel_rfl
end Go.Proofs.Ytdenpaifjpmkgaa
