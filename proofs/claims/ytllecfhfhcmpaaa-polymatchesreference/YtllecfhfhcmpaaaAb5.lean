/- Contracts evaluated: Mul. -/
import Derived.Test.YtllecfhfhcmpaaaAb4
namespace Go.Proofs.Ytllecfhfhcmpaaa
open Go.Ev Go.Fl
theorem mul_a : (fdOf 49).all (chk2 68 Gf.mul) = true:=by kernel_rfl
theorem mul_b : (fdOf 64).all (chk2 68 Gf.mul) = true:=by kernel_rfl
theorem mul_ok : ∀ F ∈ fds,chk2 68 Gf.mul F = true:=split mul_p mul_m mul_a mul_b
end Go.Proofs.Ytllecfhfhcmpaaa
