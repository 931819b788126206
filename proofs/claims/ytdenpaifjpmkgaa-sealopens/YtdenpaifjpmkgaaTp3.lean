/- SealOpens, evaluated: one way in which the list is told. -/
import Derived.Test.YtdenpaifjpmkgaaTo
namespace Go.Proofs.Ytdenpaifjpmkgaa
open Go.Ev
set_option maxRecDepth 100000
theorem oGot_3_0 : oGotD 3 0 = true := by kernel_rfl
theorem oGot_3_1 : oGotD 3 1 = true := by kernel_rfl
theorem oGot_3_2 : oGotD 3 2 = true := by kernel_rfl
theorem oGot_3_3 : oGotD 3 3 = true := by kernel_rfl
theorem oGot_3_4 : oGotD 3 4 = true := by kernel_rfl
theorem oGot_3_5 : oGotD 3 5 = true := by kernel_rfl
theorem oGot_3_6 : oGotD 3 6 = true := by kernel_rfl
theorem oGot_3_7 : oGotD 3 7 = true := by kernel_rfl
theorem oGot_3_8 : oGotD 3 8 = true := by kernel_rfl
theorem oGot_3_9 : oGotD 3 9 = true := by kernel_rfl
end Go.Proofs.Ytdenpaifjpmkgaa
