/- FieldPowers, evaluated. -/
import Derived.Test.YtjphnpbknaedcaaCc
namespace Go.Proofs.Ytjphnpbknaedcaa
open Go.Ev Go.Fl
theorem pw_0 : ((fds.zipIdx.drop 0).take 12).all pwAll = true := by kernel_rfl
theorem pw_12 : ((fds.zipIdx.drop 12).take 2).all pwAll = true := by kernel_rfl
theorem pw_14 : ((fds.zipIdx.drop 14).take 2).all pwAll = true := by kernel_rfl
theorem pw_24 : ((fds.zipIdx.drop 24).take 1).all pwAll = true := by kernel_rfl
end Go.Proofs.Ytjphnpbknaedcaa
