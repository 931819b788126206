/- SealChanges, evaluated: one way in which the list is told. -/
import Derived.Test.YtdenpaifjpmkgaaTg
namespace Go.Proofs.Ytdenpaifjpmkgaa
open Go.Ev
set_option maxRecDepth 100000
theorem cGot_2 : ((List.range 10).all fun d => cGot 2 d true && cGot 2 d false) = true := by kernel_rfl
end Go.Proofs.Ytdenpaifjpmkgaa

/- SealChanges, evaluated: one way in which the list is told. -/
namespace Go.Proofs.Ytdenpaifjpmkgaa
open Go.Ev
set_option maxRecDepth 100000
theorem cGot_3 : ((List.range 10).all fun d => cGot 3 d true && cGot 3 d false) = true := by kernel_rfl
end Go.Proofs.Ytdenpaifjpmkgaa
