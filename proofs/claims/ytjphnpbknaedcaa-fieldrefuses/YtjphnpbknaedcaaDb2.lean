/- FieldRefuses, its second part evaluated. -/
import Derived.Test.YtjphnpbknaedcaaDa
namespace Go.Proofs.Ytjphnpbknaedcaa
open Go.Ev Go.Fl
theorem b2_0 : ((fds.zipIdx.drop 0).take 9).all (chkBs 2) = true := by kernel_rfl
theorem b2_1 : ((fds.zipIdx.drop 9).take 9).all (chkBs 2) = true := by kernel_rfl
theorem b2_2 : ((fds.zipIdx.drop 18).take 9).all (chkBs 2) = true := by kernel_rfl
end Go.Proofs.Ytjphnpbknaedcaa
