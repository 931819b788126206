/- FieldAxioms, evaluated. -/
import Derived.Test.YtjphnpbknaedcaaAf
namespace Go.Proofs.Ytjphnpbknaedcaa
open Go.Ev Go.Fl
theorem ax_1 : ((fds.zipIdx.drop 10).take 9).all axAll = true := by kernel_rfl
end Go.Proofs.Ytjphnpbknaedcaa
