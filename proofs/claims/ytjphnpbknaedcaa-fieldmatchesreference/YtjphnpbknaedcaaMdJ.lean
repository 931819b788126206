/- What is known of calls. -/
import Derived.Test.YtjphnpbknaedcaaMa
namespace Go.Proofs.Ytjphnpbknaedcaa
open Go.Ev
set_option linter.unusedSectionVars false
variable [Rho]

theorem parts_a : ((List.range' 2 15).map partsF).all (chk noOrc 45) = true := by kernel_rfl
theorem parts_b : ((List.range' 17 15).map partsF).all (chk noOrc 45) = true := by kernel_rfl

end Go.Proofs.Ytjphnpbknaedcaa

/- What is known of calls. -/
namespace Go.Proofs.Ytjphnpbknaedcaa
open Go.Ev
set_option linter.unusedSectionVars false
variable [Rho]

theorem parts_c : ((List.range' 32 15).map partsF).all (chk noOrc 45) = true := by kernel_rfl
theorem parts_d : ((List.range' 47 18).map partsF).all (chk noOrc 45) = true := by kernel_rfl

end Go.Proofs.Ytjphnpbknaedcaa
