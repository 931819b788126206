/- Contracts evaluated: Mul. -/
import Derived.Test.YtjphnpbknaedcaaAa
namespace Go.Proofs.Ytjphnpbknaedcaa
open Go.Ev Go.Fl
theorem mul_p : primes.all (chk2 23 Gf.mul) = true := by kernel_rfl
theorem mul_m : mids.all (chk2 23 Gf.mul) = true := by kernel_rfl
end Go.Proofs.Ytjphnpbknaedcaa
