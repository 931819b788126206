/- What is known of calls. -/
import Derived.Test.YtjphnpbknaedcaaMb
namespace Go.Proofs.Ytjphnpbknaedcaa
open Go.Ev
theorem times_a0 : (timess 2 6 1 32 [0]).all (chk noOrc 58) = true := by kernel_rfl
theorem times_a1 : (timess 2 6 1 32 [1]).all (chk noOrc 58) = true := by kernel_rfl
theorem monic_a : (monics 2 1 2 ++ (monics 2 5 32 ++ (monics 2 2 4 ++ (monics 2 4 16 ++ monics 2 3 8)))).all (chk noOrc 59) = true := by kernel_rfl
end Go.Proofs.Ytjphnpbknaedcaa
