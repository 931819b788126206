/- RatOrder, evaluated with letters: one way to differ. -/
import Derived.Test.YtieabeodommbiaaQk
namespace Go.Proofs.Ytieabeodommbiaa
open Go.Ev
theorem orderT3 : orderRuns 3 true = true := by kernel_rfl
theorem orderF3 : orderRuns 3 false = true := by kernel_rfl
end Go.Proofs.Ytieabeodommbiaa
