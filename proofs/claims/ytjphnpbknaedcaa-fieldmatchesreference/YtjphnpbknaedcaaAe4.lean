/- The reference's Make, evaluated. -/
import Derived.Test.YtjphnpbknaedcaaAe
namespace Go.Proofs.Ytjphnpbknaedcaa
open Go.Ev Go.Fl
set_option linter.unusedSectionVars false
variable [Rho]
theorem rm_0 : ((rmk.drop 0).take 9).all (fun x => chk noOrc 11 (rmakeF x)) = true := by kernel_rfl
end Go.Proofs.Ytjphnpbknaedcaa

/- The reference's Make, evaluated. -/
namespace Go.Proofs.Ytjphnpbknaedcaa
open Go.Ev Go.Fl
set_option linter.unusedSectionVars false
variable [Rho]
theorem rm_1 : ((rmk.drop 9).take 5).all (fun x => chk noOrc 11 (rmakeF x)) = true := by kernel_rfl
end Go.Proofs.Ytjphnpbknaedcaa

/- The reference's Make, evaluated. -/
namespace Go.Proofs.Ytjphnpbknaedcaa
open Go.Ev Go.Fl
set_option linter.unusedSectionVars false
variable [Rho]
theorem rm_2 : ((rmk.drop 14).take 4).all (fun x => chk noOrc 11 (rmakeF x)) = true := by kernel_rfl
end Go.Proofs.Ytjphnpbknaedcaa

/- The reference's Make, evaluated. -/
namespace Go.Proofs.Ytjphnpbknaedcaa
open Go.Ev Go.Fl
set_option linter.unusedSectionVars false
variable [Rho]
theorem rm_3 : ((rmk.drop 18).take 5).all (fun x => chk noOrc 11 (rmakeF x)) = true := by kernel_rfl
end Go.Proofs.Ytjphnpbknaedcaa

/- The reference's Make, evaluated. -/
namespace Go.Proofs.Ytjphnpbknaedcaa
open Go.Ev Go.Fl
set_option linter.unusedSectionVars false
variable [Rho]
theorem rm_4 : ((rmk.drop 23).take 4).all (fun x => chk noOrc 11 (rmakeF x)) = true := by kernel_rfl
end Go.Proofs.Ytjphnpbknaedcaa
