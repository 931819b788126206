/- RatOrder, evaluated with letters: one way to differ. -/
import Derived.Test.YtieabeodommbiaaQk
namespace Go.Proofs.Ytieabeodommbiaa
open Go.Ev
theorem orderT1 : orderRuns 1 true = true := by kernel_rfl
theorem orderF1 : orderRuns 1 false = true := by kernel_rfl
end Go.Proofs.Ytieabeodommbiaa
