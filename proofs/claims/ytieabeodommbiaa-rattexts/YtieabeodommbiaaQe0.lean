/- RatField, evaluated with letters: one sign of the second fraction. -/
import Derived.Test.YtieabeodommbiaaQe
namespace Go.Proofs.Ytieabeodommbiaa
open Go.Ev
theorem run0ts : (bools.all fun t => runOf 0 true t) = true := by kernel_rfl
theorem run0fs : (bools.all fun t => runOf 0 false t) = true := by kernel_rfl
end Go.Proofs.Ytieabeodommbiaa
