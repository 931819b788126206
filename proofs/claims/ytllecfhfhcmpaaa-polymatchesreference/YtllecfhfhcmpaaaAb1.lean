/- Contracts evaluated: expand, Neg. -/
import Derived.Test.YtllecfhfhcmpaaaAi0
namespace Go.Proofs.Ytllecfhfhcmpaaa
open Go.Ev Go.Fl
theorem ex_p : primes.all (chkEx) = true:=by kernel_rfl
theorem ex_m : mids.all (chkEx) = true:=by kernel_rfl
theorem ex_a : (fdOf 49).all (chkEx) = true:=by kernel_rfl
theorem ex_b : (fdOf 64).all (chkEx) = true:=by kernel_rfl
theorem ex_ok : ∀ F ∈ fds,(chkEx) F = true:=split ex_p ex_m ex_a ex_b
theorem neg_p : primes.all (chk1 72 Gf.neg) = true:=by kernel_rfl
theorem neg_m : mids.all (chk1 72 Gf.neg) = true:=by kernel_rfl
theorem neg_a : (fdOf 49).all (chk1 72 Gf.neg) = true:=by kernel_rfl
theorem neg_b : (fdOf 64).all (chk1 72 Gf.neg) = true:=by kernel_rfl
theorem neg_ok : ∀ F ∈ fds,(chk1 72 Gf.neg) F = true:=split neg_p neg_m neg_a neg_b
end Go.Proofs.Ytllecfhfhcmpaaa
