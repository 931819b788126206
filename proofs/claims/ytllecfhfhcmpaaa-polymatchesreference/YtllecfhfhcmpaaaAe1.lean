/- The reference's Make, evaluated. -/
import Derived.Test.YtllecfhfhcmpaaaAi0
namespace Go.Proofs.Ytllecfhfhcmpaaa
open Go.Ev Go.Fl
set_option linter.unusedSectionVars false
variable [Rho]
theorem rm_1 : ((rmk.drop 9).take 5).all (fun x=>chk noOrc 40 (rmakeF x)) = true:=by kernel_rfl
end Go.Proofs.Ytllecfhfhcmpaaa
