/- FieldFrobenius, evaluated. -/
import Derived.Test.YtjphnpbknaedcaaBa
namespace Go.Proofs.Ytjphnpbknaedcaa
open Go.Ev Go.Fl
theorem fr_1 : ((fds.zipIdx.drop 16).take 6).all frAll = true := by kernel_rfl
end Go.Proofs.Ytjphnpbknaedcaa
