/- Contracts evaluated: Mul. -/
import Derived.Test.YtjphnpbknaedcaaAa
import Derived.Test.YtjphnpbknaedcaaAd
namespace Go.Proofs.Ytjphnpbknaedcaa
open Go.Ev Go.Fl
theorem mul_p : primes.all (chk2 23 Gf.mul) = true := by kernel_rfl
theorem mul_m : mids.all (chk2 23 Gf.mul) = true := by kernel_rfl
end Go.Proofs.Ytjphnpbknaedcaa

/- Contracts evaluated: Mul. -/
namespace Go.Proofs.Ytjphnpbknaedcaa
open Go.Ev Go.Fl
theorem mul_a : (fdOf 49).all (chk2 23 Gf.mul) = true := by kernel_rfl
theorem mul_b : (fdOf 64).all (chk2 23 Gf.mul) = true := by kernel_rfl
theorem mul_ok : ∀ F ∈ fds, chk2 23 Gf.mul F = true := split mul_p mul_m mul_a mul_b
end Go.Proofs.Ytjphnpbknaedcaa

/- Inverses and powers, evaluated. -/
namespace Go.Proofs.Ytjphnpbknaedcaa
open Go.Ev Go.Fl
theorem inv_k : fds.all chkInv = true := by kernel_rfl
theorem powP_k : fds.all (fun F => chkPow F.p F) = true := by kernel_rfl
end Go.Proofs.Ytjphnpbknaedcaa
