/- FieldFrobenius, evaluated. -/
import Derived.Test.YtjphnpbknaedcaaBa
namespace Go.Proofs.Ytjphnpbknaedcaa
open Go.Ev Go.Fl
theorem trc_k : fds.all chkTrc = true := by kernel_rfl
theorem fr_0 : (fds.zipIdx.take 16).all frAll = true := by kernel_rfl
end Go.Proofs.Ytjphnpbknaedcaa
