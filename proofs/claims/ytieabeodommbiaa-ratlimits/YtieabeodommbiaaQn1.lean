/- RatLimits, evaluated with letters: a part of the first powers. -/
import Derived.Test.YtieabeodommbiaaQn
namespace Go.Proofs.Ytieabeodommbiaa
open Go.Ev
theorem lim0 : limRuns 0 8 = true := by kernel_rfl
theorem lim1 : limRuns 8 8 = true := by kernel_rfl
theorem lim2 : limRuns 16 8 = true := by kernel_rfl
theorem lim3 : limRuns 24 8 = true := by kernel_rfl
end Go.Proofs.Ytieabeodommbiaa
