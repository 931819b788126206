/- What is known of calls. -/
import Derived.Test.YtjphnpbknaedcaaMc
namespace Go.Proofs.Ytjphnpbknaedcaa
open Go.Ev
set_option linter.unusedSectionVars false
variable [Rho]
theorem make_e : ([16].map makeF).all (chk noOrc 10) = true := by kernel_rfl
theorem make_f : ([32].map makeF).all (chk noOrc 10) = true := by kernel_rfl
theorem make_g : ([64].map makeF).all (chk noOrc 10) = true := by kernel_rfl
end Go.Proofs.Ytjphnpbknaedcaa
