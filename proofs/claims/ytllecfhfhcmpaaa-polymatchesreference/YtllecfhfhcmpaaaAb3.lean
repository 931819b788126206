/- Contracts evaluated: Sub. -/
import Derived.Test.YtllecfhfhcmpaaaAi0
namespace Go.Proofs.Ytllecfhfhcmpaaa
open Go.Ev Go.Fl
theorem sub_p : primes.all (chk2 69 Gf.sub) = true:=by kernel_rfl
theorem sub_m : mids.all (chk2 69 Gf.sub) = true:=by kernel_rfl
theorem sub_a : (fdOf 49).all (chk2 69 Gf.sub) = true:=by kernel_rfl
theorem sub_b : (fdOf 64).all (chk2 69 Gf.sub) = true:=by kernel_rfl
theorem sub_ok : ∀ F ∈ fds,(chk2 69 Gf.sub) F = true:=split sub_p sub_m sub_a sub_b
end Go.Proofs.Ytllecfhfhcmpaaa
