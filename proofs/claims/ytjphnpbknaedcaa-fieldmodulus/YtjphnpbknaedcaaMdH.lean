/- What is known of calls. -/
import Derived.Test.YtjphnpbknaedcaaMb
namespace Go.Proofs.Ytjphnpbknaedcaa
open Go.Ev
theorem times_g : (timess 3 3 1 9 [0, 1, 2] ++ timess 5 2 1 5 [0, 1, 2, 3, 4]).all (chk noOrc 58) = true := by kernel_rfl
theorem times_h : (timess 2 4 1 8 [0, 1] ++ timess 2 4 2 4 [0, 1, 2, 3]).all (chk noOrc 58) = true := by kernel_rfl
theorem times_i : (timess 3 2 1 3 [0, 1, 2] ++ (timess 2 3 1 4 [0, 1] ++ timess 2 2 1 2 [0, 1])).all (chk noOrc 58) = true := by kernel_rfl
end Go.Proofs.Ytjphnpbknaedcaa
