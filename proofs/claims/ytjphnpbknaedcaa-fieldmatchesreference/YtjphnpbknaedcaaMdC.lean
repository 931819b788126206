/- What is known of calls. -/
import Derived.Test.YtjphnpbknaedcaaMc
namespace Go.Proofs.Ytjphnpbknaedcaa
open Go.Ev
set_option linter.unusedSectionVars false
variable [Rho]
theorem make_c : ([4, 8, 9, 25].map makeF).all (chk noOrc 10) = true := by kernel_rfl
theorem make_d : ([27, 49].map makeF).all (chk noOrc 10) = true := by kernel_rfl
end Go.Proofs.Ytjphnpbknaedcaa

/- What is known of calls. -/
namespace Go.Proofs.Ytjphnpbknaedcaa
open Go.Ev
set_option linter.unusedSectionVars false
variable [Rho]
theorem make_a : ([2, 3, 5, 7, 11, 13, 17, 19, 23].map makeF).all (chk noOrc 10) = true := by kernel_rfl
theorem make_b : ([29, 31, 37, 41, 43, 47, 53, 59, 61].map makeF).all (chk noOrc 10) = true := by kernel_rfl
end Go.Proofs.Ytjphnpbknaedcaa

/- What is known of calls. -/
namespace Go.Proofs.Ytjphnpbknaedcaa
open Go.Ev
set_option linter.unusedSectionVars false
variable [Rho]
theorem make_e : ([16].map makeF).all (chk noOrc 10) = true := by kernel_rfl
theorem make_f : ([32].map makeF).all (chk noOrc 10) = true := by kernel_rfl
theorem make_g : ([64].map makeF).all (chk noOrc 10) = true := by kernel_rfl
end Go.Proofs.Ytjphnpbknaedcaa
