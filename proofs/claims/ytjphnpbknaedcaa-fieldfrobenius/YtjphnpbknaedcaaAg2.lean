/- FieldAxioms, evaluated. -/
import Derived.Test.YtjphnpbknaedcaaAf
namespace Go.Proofs.Ytjphnpbknaedcaa
open Go.Ev Go.Fl
theorem ax_2 : ((fds.zipIdx.drop 19).take 8).all axAll = true := by kernel_rfl
theorem ax_2e : ((axRun2 0 0 0 && axRun2 0 0 1) && (axRun2 0 1 0 && axRun2 0 1 1)) && ((axRun2 1 0 0 && axRun2 1 0 1) && (axRun2 1 1 0 && axRun2 1 1 1)) = true := by kernel_rfl
end Go.Proofs.Ytjphnpbknaedcaa
