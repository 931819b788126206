/- FieldMatchesReference, evaluated. -/
import Derived.Test.YtjphnpbknaedcaaHa
namespace Go.Proofs.Ytjphnpbknaedcaa
open Go.Ev Go.Fl
theorem ms_0_d : ((fds.zipIdx.drop 14).take 4).all (chkMs 0) = true := by kernel_rfl
theorem ms_0_e : ((fds.zipIdx.drop 18).take 5).all (chkMs 0) = true := by kernel_rfl
theorem ms_0_f : ((fds.zipIdx.drop 23).take 4).all (chkMs 0) = true := by kernel_rfl
end Go.Proofs.Ytjphnpbknaedcaa

/- FieldMatchesReference, evaluated. -/
namespace Go.Proofs.Ytjphnpbknaedcaa
open Go.Ev Go.Fl
theorem ms_1_a : ((fds.zipIdx.drop 0).take 5).all (chkMs 1) = true := by kernel_rfl
theorem ms_1_b : ((fds.zipIdx.drop 5).take 5).all (chkMs 1) = true := by kernel_rfl
theorem ms_1_c : ((fds.zipIdx.drop 10).take 4).all (chkMs 1) = true := by kernel_rfl
end Go.Proofs.Ytjphnpbknaedcaa

/- FieldMatchesReference, evaluated. -/
namespace Go.Proofs.Ytjphnpbknaedcaa
open Go.Ev Go.Fl
theorem ms_1_d : ((fds.zipIdx.drop 14).take 4).all (chkMs 1) = true := by kernel_rfl
theorem ms_1_e : ((fds.zipIdx.drop 18).take 5).all (chkMs 1) = true := by kernel_rfl
theorem ms_1_f : ((fds.zipIdx.drop 23).take 4).all (chkMs 1) = true := by kernel_rfl
end Go.Proofs.Ytjphnpbknaedcaa
