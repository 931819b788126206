/- SealChanges, evaluated: one way in which the list is told. -/
import Derived.Test.YtdenpaifjpmkgaaTg
namespace Go.Proofs.Ytdenpaifjpmkgaa
open Go.Ev
set_option maxRecDepth 100000
theorem cGot_0 : ((List.range 10).all fun d => cGot 0 d true && cGot 0 d false) = true := by kernel_rfl
end Go.Proofs.Ytdenpaifjpmkgaa

/- SealChanges, evaluated: one way in which the list is told. -/
namespace Go.Proofs.Ytdenpaifjpmkgaa
open Go.Ev
set_option maxRecDepth 100000
theorem cGot_1 : ((List.range 10).all fun d => cGot 1 d true && cGot 1 d false) = true := by kernel_rfl
end Go.Proofs.Ytdenpaifjpmkgaa
