/- FieldAxioms, evaluated. -/
import Derived.Test.YtjphnpbknaedcaaAf
namespace Go.Proofs.Ytjphnpbknaedcaa
open Go.Ev Go.Fl
theorem ax_0 : ((fds.zipIdx.drop 1).take 9).all axAll = true := by kernel_rfl
end Go.Proofs.Ytjphnpbknaedcaa
