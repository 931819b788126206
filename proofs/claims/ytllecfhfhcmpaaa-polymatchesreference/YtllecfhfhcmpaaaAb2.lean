/- Contracts evaluated: Add. -/
import Derived.Test.YtllecfhfhcmpaaaAi0
namespace Go.Proofs.Ytllecfhfhcmpaaa
open Go.Ev Go.Fl
theorem add_p : primes.all (chk2 73 Gf.add) = true:=by kernel_rfl
theorem add_m : mids.all (chk2 73 Gf.add) = true:=by kernel_rfl
theorem add_a : (fdOf 49).all (chk2 73 Gf.add) = true:=by kernel_rfl
theorem add_b : (fdOf 64).all (chk2 73 Gf.add) = true:=by kernel_rfl
theorem add_ok : ∀ F ∈ fds,(chk2 73 Gf.add) F = true:=split add_p add_m add_a add_b
end Go.Proofs.Ytllecfhfhcmpaaa
