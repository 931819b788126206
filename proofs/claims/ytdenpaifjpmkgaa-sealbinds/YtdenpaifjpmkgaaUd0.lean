/- SealBinds: the checks of its loop. -/
import Derived.Test.YtdenpaifjpmkgaaUc
namespace Go.Proofs.Ytdenpaifjpmkgaa
open Go.Ev
set_option maxRecDepth 100000
theorem bChk_0t10 : bChk 2 0 true true 10 = true := by kernel_rfl
theorem bChk_0t6 : bChk 2 0 true true 6 = true := by kernel_rfl
theorem bChk_0t7 : bChk 2 0 true true 7 = true := by kernel_rfl
theorem bChk_0t8 : bChk 2 0 true true 8 = true := by kernel_rfl
theorem bChk_0t9 : bChk 2 0 true true 9 = true := by kernel_rfl
theorem bChk_0f8 : bChk 2 0 true false 8 = true := by kernel_rfl
theorem bChk_0f9 : bChk 2 0 true false 9 = true := by kernel_rfl
end Go.Proofs.Ytdenpaifjpmkgaa
