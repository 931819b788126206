/- Contracts evaluated: Mul. -/
import Derived.Test.YtllecfhfhcmpaaaAi0
namespace Go.Proofs.Ytllecfhfhcmpaaa
open Go.Ev Go.Fl
theorem mul_p : primes.all (chk2 68 Gf.mul) = true:=by kernel_rfl
theorem mul_m : mids.all (chk2 68 Gf.mul) = true:=by kernel_rfl
end Go.Proofs.Ytllecfhfhcmpaaa
