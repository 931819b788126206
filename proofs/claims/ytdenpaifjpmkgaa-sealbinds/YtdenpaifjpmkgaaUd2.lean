/- SealBinds: the checks of its loop. -/
import Derived.Test.YtdenpaifjpmkgaaUc
namespace Go.Proofs.Ytdenpaifjpmkgaa
open Go.Ev
set_option maxRecDepth 100000
theorem bChk_2t10 : bChk 3 1 false true 10 = true := by kernel_rfl
theorem bChk_2t6 : bChk 3 1 false true 6 = true := by kernel_rfl
theorem bChk_2t7 : bChk 3 1 false true 7 = true := by kernel_rfl
theorem bChk_2t8 : bChk 3 1 false true 8 = true := by kernel_rfl
theorem bChk_2t9 : bChk 3 1 false true 9 = true := by kernel_rfl
theorem bChk_2f8 : bChk 3 1 false false 8 = true := by kernel_rfl
theorem bChk_2f9 : bChk 3 1 false false 9 = true := by kernel_rfl
end Go.Proofs.Ytdenpaifjpmkgaa
