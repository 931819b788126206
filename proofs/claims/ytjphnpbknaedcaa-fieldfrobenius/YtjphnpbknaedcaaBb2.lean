/- FieldFrobenius, evaluated. -/
import Derived.Test.YtjphnpbknaedcaaBa
namespace Go.Proofs.Ytjphnpbknaedcaa
open Go.Ev Go.Fl
theorem fr_2 : (fds.zipIdx.drop 22).all frAll = true := by kernel_rfl
end Go.Proofs.Ytjphnpbknaedcaa
