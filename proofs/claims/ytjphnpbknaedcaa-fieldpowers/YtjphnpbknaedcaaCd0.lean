/- Powers, evaluated by classes of exponents. -/
import Derived.Test.YtjphnpbknaedcaaCa
namespace Go.Proofs.Ytjphnpbknaedcaa
open Go.Ev Go.Fl
theorem ps_a : ((fds.drop 0).take 12).all (fun F => chkPs F 0 (F.q - 1)) = true := by kernel_rfl
theorem ps_b : ((fds.drop 12).take 3).all (fun F => chkPs F 0 (F.q - 1)) = true := by kernel_rfl
theorem ps_c : ((fds.drop 21).take 1).all (fun F => chkPs F 0 (F.q - 1)) = true := by kernel_rfl
end Go.Proofs.Ytjphnpbknaedcaa
