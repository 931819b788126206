/- FieldPowers, evaluated. -/
import Derived.Test.YtjphnpbknaedcaaCc
namespace Go.Proofs.Ytjphnpbknaedcaa
open Go.Ev Go.Fl
theorem pw_20 : ((fds.zipIdx.drop 20).take 1).all pwAll = true := by kernel_rfl
theorem pw_21 : ((fds.zipIdx.drop 21).take 1).all pwAll = true := by kernel_rfl
theorem pw_22 : ((fds.zipIdx.drop 22).take 1).all pwAll = true := by kernel_rfl
end Go.Proofs.Ytjphnpbknaedcaa
