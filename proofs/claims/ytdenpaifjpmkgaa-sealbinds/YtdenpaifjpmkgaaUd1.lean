/- SealBinds: the checks of its loop. -/
import Derived.Test.YtdenpaifjpmkgaaUc
namespace Go.Proofs.Ytdenpaifjpmkgaa
open Go.Ev
set_option maxRecDepth 100000
theorem bChk_1t10 : bChk 2 1 false true 10 = true := by kernel_rfl
theorem bChk_1t6 : bChk 2 1 false true 6 = true := by kernel_rfl
theorem bChk_1t7 : bChk 2 1 false true 7 = true := by kernel_rfl
theorem bChk_1t8 : bChk 2 1 false true 8 = true := by kernel_rfl
theorem bChk_1t9 : bChk 2 1 false true 9 = true := by kernel_rfl
theorem bChk_1f8 : bChk 2 1 false false 8 = true := by kernel_rfl
theorem bChk_1f9 : bChk 2 1 false false 9 = true := by kernel_rfl
end Go.Proofs.Ytdenpaifjpmkgaa
