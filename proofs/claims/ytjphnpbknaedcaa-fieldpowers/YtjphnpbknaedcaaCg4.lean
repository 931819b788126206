/- FieldPowers, evaluated. -/
import Derived.Test.YtjphnpbknaedcaaCc
namespace Go.Proofs.Ytjphnpbknaedcaa
open Go.Ev Go.Fl
theorem pw_25 : ((fds.zipIdx.drop 25).take 1).all pwAll = true := by kernel_rfl
theorem pw_26 : ((fds.zipIdx.drop 26).take 1).all pwAll = true := by kernel_rfl
end Go.Proofs.Ytjphnpbknaedcaa
