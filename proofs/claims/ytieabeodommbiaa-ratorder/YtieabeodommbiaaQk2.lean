/- RatOrder, evaluated with letters: one way to differ. -/
import Derived.Test.YtieabeodommbiaaQk
namespace Go.Proofs.Ytieabeodommbiaa
open Go.Ev
theorem orderT2 : orderRuns 2 true = true := by kernel_rfl
theorem orderF2 : orderRuns 2 false = true := by kernel_rfl
end Go.Proofs.Ytieabeodommbiaa
