/- FieldPowers, evaluated. -/
import Derived.Test.YtjphnpbknaedcaaCc
namespace Go.Proofs.Ytjphnpbknaedcaa
open Go.Ev Go.Fl
theorem pw_23 : ((fds.zipIdx.drop 23).take 1).all pwAll = true := by kernel_rfl
theorem os_a : (fds.take 19).all chkOs = true := by kernel_rfl
theorem os_b : ((fds.drop 19).take 4).all chkOs = true := by kernel_rfl
theorem os_c : (fds.drop 23).all chkOs = true := by kernel_rfl
theorem o0_k : fds.all chkO0 = true := by kernel_rfl
end Go.Proofs.Ytjphnpbknaedcaa
