/- What is known of calls. -/
import Derived.Test.YtjphnpbknaedcaaMb
namespace Go.Proofs.Ytjphnpbknaedcaa
open Go.Ev
theorem times_b0 : (timess 2 6 2 16 [0, 1]).all (chk noOrc 58) = true := by kernel_rfl
theorem times_b2 : (timess 2 6 2 16 [2, 3]).all (chk noOrc 58) = true := by kernel_rfl
theorem monic_b : (monics 7 1 7 ++ (monics 3 1 3 ++ (monics 3 2 9 ++ monics 5 1 5))).all (chk noOrc 59) = true := by kernel_rfl
end Go.Proofs.Ytjphnpbknaedcaa
