/- Powers, evaluated by classes of exponents. -/
import Derived.Test.YtjphnpbknaedcaaCc
namespace Go.Proofs.Ytjphnpbknaedcaa
open Go.Ev Go.Fl
theorem ps_a : ((fds.drop 0).take 12).all (fun F => chkPs F 0 (F.q - 1)) = true := by kernel_rfl
theorem ps_b : ((fds.drop 12).take 3).all (fun F => chkPs F 0 (F.q - 1)) = true := by kernel_rfl
theorem ps_c : ((fds.drop 21).take 1).all (fun F => chkPs F 0 (F.q - 1)) = true := by kernel_rfl
end Go.Proofs.Ytjphnpbknaedcaa

/- Powers, evaluated by classes of exponents. -/
namespace Go.Proofs.Ytjphnpbknaedcaa
open Go.Ev Go.Fl
theorem ps_d : ((fds.drop 15).take 2).all (fun F => chkPs F 0 (F.q - 1)) = true := by kernel_rfl
theorem ps_e : ((fds.drop 17).take 2).all (fun F => chkPs F 0 (F.q - 1)) = true := by kernel_rfl
theorem ps_f : ((fds.drop 22).take 1).all (fun F => chkPs F 0 (F.q - 1)) = true := by kernel_rfl
end Go.Proofs.Ytjphnpbknaedcaa
