/- What is known of calls. -/
import Derived.Test.YtjphnpbknaedcaaMb
namespace Go.Proofs.Ytjphnpbknaedcaa
open Go.Ev
theorem times_d : (timess 7 2 1 7 [0, 1, 2, 3, 4, 5, 6]).all (chk noOrc 58) = true := by kernel_rfl
theorem times_e0 : (timess 2 5 1 16 [0]).all (chk noOrc 58) = true := by kernel_rfl
theorem times_e1 : (timess 2 5 1 16 [1]).all (chk noOrc 58) = true := by kernel_rfl
theorem times_f0 : (timess 2 5 2 8 [0, 1]).all (chk noOrc 58) = true := by kernel_rfl
theorem times_f2 : (timess 2 5 2 8 [2, 3]).all (chk noOrc 58) = true := by kernel_rfl
end Go.Proofs.Ytjphnpbknaedcaa
