/- FieldRefuses, its second part evaluated. -/
import Derived.Test.YtjphnpbknaedcaaDa
namespace Go.Proofs.Ytjphnpbknaedcaa
open Go.Ev Go.Fl
theorem b1_0 : ((fds.zipIdx.drop 0).take 9).all (chkBs 1) = true := by kernel_rfl
theorem b1_1 : ((fds.zipIdx.drop 9).take 9).all (chkBs 1) = true := by kernel_rfl
theorem b1_2 : ((fds.zipIdx.drop 18).take 9).all (chkBs 1) = true := by kernel_rfl
end Go.Proofs.Ytjphnpbknaedcaa
