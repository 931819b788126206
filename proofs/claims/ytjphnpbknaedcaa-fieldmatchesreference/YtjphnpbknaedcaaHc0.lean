/- FieldMatchesReference, evaluated. -/
import Derived.Test.YtjphnpbknaedcaaHa
namespace Go.Proofs.Ytjphnpbknaedcaa
open Go.Ev Go.Fl
theorem ma_0 : chkMA 0 (qRepM 0) = true := by kernel_rfl
theorem ma_1 : chkMA 0 (qRepM 1) = true := by kernel_rfl
theorem ma_k : allLt 32 (fun j => chkMA (clsM (j + 2)) (I (j + 2))) = true := by kernel_rfl
theorem ma_l : allLt 31 (fun j => chkMA (clsM (j + 34)) (I (j + 34))) = true := by kernel_rfl
end Go.Proofs.Ytjphnpbknaedcaa

/- FieldMatchesReference, evaluated. -/
namespace Go.Proofs.Ytjphnpbknaedcaa
open Go.Ev Go.Fl
theorem ms_0_a : ((fds.zipIdx.drop 0).take 5).all (chkMs 0) = true := by kernel_rfl
theorem ms_0_b : ((fds.zipIdx.drop 5).take 5).all (chkMs 0) = true := by kernel_rfl
theorem ms_0_c : ((fds.zipIdx.drop 10).take 4).all (chkMs 0) = true := by kernel_rfl
end Go.Proofs.Ytjphnpbknaedcaa
