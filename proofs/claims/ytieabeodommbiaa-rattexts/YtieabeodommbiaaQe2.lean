/- RatField, evaluated with letters: one sign of the second fraction. -/
import Derived.Test.YtieabeodommbiaaQe
namespace Go.Proofs.Ytieabeodommbiaa
open Go.Ev
theorem run2ts : (bools.all fun t => runOf 2 true t) = true := by kernel_rfl
theorem run2fs : (bools.all fun t => runOf 2 false t) = true := by kernel_rfl
end Go.Proofs.Ytieabeodommbiaa
