/- Contracts evaluated: expand, Neg. -/
import Derived.Test.YtjphnpbknaedcaaAa
namespace Go.Proofs.Ytjphnpbknaedcaa
open Go.Ev Go.Fl
theorem ex_p : primes.all (chkEx) = true := by kernel_rfl
theorem ex_m : mids.all (chkEx) = true := by kernel_rfl
theorem ex_a : (fdOf 49).all (chkEx) = true := by kernel_rfl
theorem ex_b : (fdOf 64).all (chkEx) = true := by kernel_rfl
theorem ex_ok : ∀ F ∈ fds, (chkEx) F = true := split ex_p ex_m ex_a ex_b
theorem neg_p : primes.all (chk1 25 Gf.neg) = true := by kernel_rfl
theorem neg_m : mids.all (chk1 25 Gf.neg) = true := by kernel_rfl
theorem neg_a : (fdOf 49).all (chk1 25 Gf.neg) = true := by kernel_rfl
theorem neg_b : (fdOf 64).all (chk1 25 Gf.neg) = true := by kernel_rfl
theorem neg_ok : ∀ F ∈ fds, (chk1 25 Gf.neg) F = true := split neg_p neg_m neg_a neg_b
end Go.Proofs.Ytjphnpbknaedcaa

/- Contracts evaluated: Add. -/
namespace Go.Proofs.Ytjphnpbknaedcaa
open Go.Ev Go.Fl
theorem add_p : primes.all (chk2 19 Gf.add) = true := by kernel_rfl
theorem add_m : mids.all (chk2 19 Gf.add) = true := by kernel_rfl
theorem add_a : (fdOf 49).all (chk2 19 Gf.add) = true := by kernel_rfl
theorem add_b : (fdOf 64).all (chk2 19 Gf.add) = true := by kernel_rfl
theorem add_ok : ∀ F ∈ fds, (chk2 19 Gf.add) F = true := split add_p add_m add_a add_b
end Go.Proofs.Ytjphnpbknaedcaa

/- Contracts evaluated: Sub. -/
namespace Go.Proofs.Ytjphnpbknaedcaa
open Go.Ev Go.Fl
theorem sub_p : primes.all (chk2 21 Gf.sub) = true := by kernel_rfl
theorem sub_m : mids.all (chk2 21 Gf.sub) = true := by kernel_rfl
theorem sub_a : (fdOf 49).all (chk2 21 Gf.sub) = true := by kernel_rfl
theorem sub_b : (fdOf 64).all (chk2 21 Gf.sub) = true := by kernel_rfl
theorem sub_ok : ∀ F ∈ fds, (chk2 21 Gf.sub) F = true := split sub_p sub_m sub_a sub_b
end Go.Proofs.Ytjphnpbknaedcaa
