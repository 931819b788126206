/- Powers, evaluated by classes of exponents. -/
import Derived.Test.YtjphnpbknaedcaaCc
namespace Go.Proofs.Ytjphnpbknaedcaa
open Go.Ev Go.Fl
theorem ps_g : ((fds.drop 19).take 2).all (fun F => chkPs F 0 (F.q - 1)) = true := by kernel_rfl
theorem ps_h : ((fds.drop 23).take 1).all (fun F => chkPs F 0 (F.q - 1)) = true := by kernel_rfl
theorem ps_i : ((fds.drop 24).take 1).all (fun F => chkPs F 0 (F.q - 1)) = true := by kernel_rfl
end Go.Proofs.Ytjphnpbknaedcaa

/- Powers, evaluated by classes of exponents. -/
namespace Go.Proofs.Ytjphnpbknaedcaa
open Go.Ev Go.Fl
theorem ps_j : ((fds.drop 25).take 1).all (fun F => chkPs F 0 (F.q - 1)) = true := by kernel_rfl
theorem ps_k : ((fds.drop 26).take 1).all (fun F => chkPs F 0 (F.q - 1)) = true := by kernel_rfl
theorem zs_k : fds.all chkZs = true := by kernel_rfl
end Go.Proofs.Ytjphnpbknaedcaa
