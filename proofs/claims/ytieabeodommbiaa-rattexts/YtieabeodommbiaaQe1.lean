/- RatField, evaluated with letters: one sign of the second fraction. -/
import Derived.Test.YtieabeodommbiaaQe
namespace Go.Proofs.Ytieabeodommbiaa
open Go.Ev
theorem run1ts : (bools.all fun t => runOf 1 true t) = true := by kernel_rfl
theorem run1fs : (bools.all fun t => runOf 1 false t) = true := by kernel_rfl
end Go.Proofs.Ytieabeodommbiaa
