/- FieldPowers, evaluated. -/
import Derived.Test.YtjphnpbknaedcaaCc
namespace Go.Proofs.Ytjphnpbknaedcaa
open Go.Ev Go.Fl
theorem pw_16 : ((fds.zipIdx.drop 16).take 2).all pwAll = true := by kernel_rfl
theorem pw_18 : ((fds.zipIdx.drop 18).take 1).all pwAll = true := by kernel_rfl
theorem pw_19 : ((fds.zipIdx.drop 19).take 1).all pwAll = true := by kernel_rfl
theorem on_k : fds.all chkOrdN = true := by kernel_rfl
theorem pr_k : fds.all chkPr = true := by kernel_rfl
end Go.Proofs.Ytjphnpbknaedcaa
