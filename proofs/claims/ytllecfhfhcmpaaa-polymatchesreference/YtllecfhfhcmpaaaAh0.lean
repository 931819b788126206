/- Inverses and powers, evaluated. -/
import Derived.Test.YtllecfhfhcmpaaaAi0
namespace Go.Proofs.Ytllecfhfhcmpaaa
open Go.Ev Go.Fl
theorem inv_k : fds.all chkInv = true:=by kernel_rfl
end Go.Proofs.Ytllecfhfhcmpaaa
