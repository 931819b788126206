/- The reference's Make, evaluated. -/
import Derived.Test.YtjphnpbknaedcaaAe
namespace Go.Proofs.Ytjphnpbknaedcaa
open Go.Ev Go.Fl
set_option linter.unusedSectionVars false
variable [Rho]
theorem rm_2 : ((rmk.drop 14).take 4).all (fun x => chk noOrc 11 (rmakeF x)) = true := by kernel_rfl
end Go.Proofs.Ytjphnpbknaedcaa
