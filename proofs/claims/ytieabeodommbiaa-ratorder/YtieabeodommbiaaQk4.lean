/- RatOrder, evaluated with letters: one way to differ. -/
import Derived.Test.YtieabeodommbiaaQk
namespace Go.Proofs.Ytieabeodommbiaa
open Go.Ev
theorem orderT4 : orderRuns 4 true = true := by kernel_rfl
theorem orderF4 : orderRuns 4 false = true := by kernel_rfl
end Go.Proofs.Ytieabeodommbiaa
