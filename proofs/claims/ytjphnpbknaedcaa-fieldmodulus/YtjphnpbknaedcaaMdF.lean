/- What is known of calls. -/
import Derived.Test.YtjphnpbknaedcaaMb
namespace Go.Proofs.Ytjphnpbknaedcaa
open Go.Ev
theorem times_c0 : (timess 2 6 3 8 [0, 1]).all (chk noOrc 58) = true := by kernel_rfl
theorem times_c2 : (timess 2 6 3 8 [2, 3]).all (chk noOrc 58) = true := by kernel_rfl
theorem times_c4 : (timess 2 6 3 8 [4, 5]).all (chk noOrc 58) = true := by kernel_rfl
theorem times_c6 : (timess 2 6 3 8 [6, 7]).all (chk noOrc 58) = true := by kernel_rfl
end Go.Proofs.Ytjphnpbknaedcaa
