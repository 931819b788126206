/- The reference's Make, evaluated. -/
import Derived.Test.YtjphnpbknaedcaaAe
namespace Go.Proofs.Ytjphnpbknaedcaa
open Go.Ev Go.Fl
set_option linter.unusedSectionVars false
variable [Rho]
theorem rm_1 : ((rmk.drop 9).take 5).all (fun x => chk noOrc 11 (rmakeF x)) = true := by kernel_rfl
end Go.Proofs.Ytjphnpbknaedcaa
