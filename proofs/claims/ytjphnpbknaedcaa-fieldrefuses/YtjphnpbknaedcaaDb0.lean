/- FieldRefuses, its second part evaluated. -/
import Derived.Test.YtjphnpbknaedcaaDa
namespace Go.Proofs.Ytjphnpbknaedcaa
open Go.Ev Go.Fl
theorem b0_0 : ((fds.zipIdx.drop 0).take 9).all (chkBs 0) = true := by kernel_rfl
theorem b0_1 : ((fds.zipIdx.drop 9).take 9).all (chkBs 0) = true := by kernel_rfl
theorem b0_2 : ((fds.zipIdx.drop 18).take 9).all (chkBs 0) = true := by kernel_rfl
end Go.Proofs.Ytjphnpbknaedcaa
