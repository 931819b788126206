/- What is known of calls. -/
import Derived.Test.YtjphnpbknaedcaaMc
namespace Go.Proofs.Ytjphnpbknaedcaa
open Go.Ev
set_option linter.unusedSectionVars false
variable [Rho]
theorem make_c : ([4, 8, 9, 25].map makeF).all (chk noOrc 10) = true := by kernel_rfl
theorem make_d : ([27, 49].map makeF).all (chk noOrc 10) = true := by kernel_rfl
end Go.Proofs.Ytjphnpbknaedcaa
