/- SealOpens, evaluated: one way in which the list is told. -/
import Derived.Test.YtdenpaifjpmkgaaTo
namespace Go.Proofs.Ytdenpaifjpmkgaa
open Go.Ev
set_option maxRecDepth 100000
theorem oGot_2_0 : oGotD 2 0 = true := by kernel_rfl
theorem oGot_2_1 : oGotD 2 1 = true := by kernel_rfl
theorem oGot_2_2 : oGotD 2 2 = true := by kernel_rfl
theorem oGot_2_3 : oGotD 2 3 = true := by kernel_rfl
theorem oGot_2_4 : oGotD 2 4 = true := by kernel_rfl
theorem oGot_2_5 : oGotD 2 5 = true := by kernel_rfl
theorem oGot_2_6 : oGotD 2 6 = true := by kernel_rfl
theorem oGot_2_7 : oGotD 2 7 = true := by kernel_rfl
theorem oGot_2_8 : oGotD 2 8 = true := by kernel_rfl
theorem oGot_2_9 : oGotD 2 9 = true := by kernel_rfl
end Go.Proofs.Ytdenpaifjpmkgaa
