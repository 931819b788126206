/- The reference's Make, evaluated. -/
import Derived.Test.YtllecfhfhcmpaaaAi0
namespace Go.Proofs.Ytllecfhfhcmpaaa
open Go.Ev Go.Fl
set_option linter.unusedSectionVars false
variable [Rho]
theorem rm_2 : ((rmk.drop 14).take 4).all (fun x=>chk noOrc 40 (rmakeF x)) = true:=by kernel_rfl
end Go.Proofs.Ytllecfhfhcmpaaa
