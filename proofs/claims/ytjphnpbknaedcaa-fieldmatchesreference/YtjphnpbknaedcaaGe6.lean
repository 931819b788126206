/- The reference's functions, evaluated. -/
import Derived.Test.YtjphnpbknaedcaaGd
namespace Go.Proofs.Ytjphnpbknaedcaa
open Go.Ev Go.Fl
theorem radd_p : primes.all (chkR2 20 Gf.add) = true := by kernel_rfl
theorem radd_m : mids.all (chkR2 20 Gf.add) = true := by kernel_rfl
theorem radd_a : (fdOf 49).all (chkR2 20 Gf.add) = true := by kernel_rfl
theorem radd_b : (fdOf 64).all (chkR2 20 Gf.add) = true := by kernel_rfl
theorem radd_ok : ∀ F ∈ fds, (chkR2 20 Gf.add) F = true := split radd_p radd_m radd_a radd_b
theorem rneg_p : primes.all (chkR1 26 Gf.neg) = true := by kernel_rfl
theorem rneg_m : mids.all (chkR1 26 Gf.neg) = true := by kernel_rfl
theorem rneg_a : (fdOf 49).all (chkR1 26 Gf.neg) = true := by kernel_rfl
theorem rneg_b : (fdOf 64).all (chkR1 26 Gf.neg) = true := by kernel_rfl
theorem rneg_ok : ∀ F ∈ fds, (chkR1 26 Gf.neg) F = true := split rneg_p rneg_m rneg_a rneg_b
end Go.Proofs.Ytjphnpbknaedcaa

/- The reference's functions, evaluated. -/
namespace Go.Proofs.Ytjphnpbknaedcaa
open Go.Ev Go.Fl
theorem rsub_p : primes.all (chkR2 22 Gf.sub) = true := by kernel_rfl
theorem rsub_m : mids.all (chkR2 22 Gf.sub) = true := by kernel_rfl
theorem rsub_a : (fdOf 49).all (chkR2 22 Gf.sub) = true := by kernel_rfl
theorem rsub_b : (fdOf 64).all (chkR2 22 Gf.sub) = true := by kernel_rfl
theorem rsub_ok : ∀ F ∈ fds, (chkR2 22 Gf.sub) F = true := split rsub_p rsub_m rsub_a rsub_b
end Go.Proofs.Ytjphnpbknaedcaa

/- The reference's functions, evaluated. -/
namespace Go.Proofs.Ytjphnpbknaedcaa
open Go.Ev Go.Fl
theorem rmul_p : primes.all (chkR2 24 Gf.mul) = true := by kernel_rfl
theorem rmul_m : mids.all (chkR2 24 Gf.mul) = true := by kernel_rfl
theorem rmul_a : (fdOf 49).all (chkR2 24 Gf.mul) = true := by kernel_rfl
theorem rmul_b : (fdOf 64).all (chkR2 24 Gf.mul) = true := by kernel_rfl
theorem rmul_ok : ∀ F ∈ fds, (chkR2 24 Gf.mul) F = true := split rmul_p rmul_m rmul_a rmul_b
end Go.Proofs.Ytjphnpbknaedcaa

/- The reference's functions, evaluated. -/
namespace Go.Proofs.Ytjphnpbknaedcaa
open Go.Ev Go.Fl
theorem sz_k : fds.all chkSz = true := by kernel_rfl
theorem ri0_k : fds.all chkRI0 = true := by kernel_rfl
theorem ro0_k : fds.all chkRO0 = true := by kernel_rfl
theorem rp0_k : fds.all chkRP0 = true := by kernel_rfl
theorem rz_k : fds.all chkRZ = true := by kernel_rfl
theorem rpr_k : fds.all chkRPr = true := by kernel_rfl
theorem rtr_k : fds.all chkRTr = true := by kernel_rfl
end Go.Proofs.Ytjphnpbknaedcaa

/- The reference's functions, evaluated. -/
namespace Go.Proofs.Ytjphnpbknaedcaa
open Go.Ev Go.Fl
theorem rpw_k : fds.all chkPws = true := by kernel_rfl
end Go.Proofs.Ytjphnpbknaedcaa

/- The reference's functions, evaluated. -/
namespace Go.Proofs.Ytjphnpbknaedcaa
open Go.Ev Go.Fl
theorem ros_a : (fds.take 19).all chkROs = true := by kernel_rfl
theorem ros_b : ((fds.drop 19).take 4).all chkROs = true := by kernel_rfl
theorem ros_c : (fds.drop 23).all chkROs = true := by kernel_rfl
end Go.Proofs.Ytjphnpbknaedcaa
