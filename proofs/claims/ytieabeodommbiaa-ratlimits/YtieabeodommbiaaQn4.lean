/- RatLimits, evaluated with letters: a part of the first powers. -/
import Derived.Test.YtieabeodommbiaaQn
namespace Go.Proofs.Ytieabeodommbiaa
open Go.Ev
theorem lim12 : limRuns 96 8 = true := by kernel_rfl
theorem lim13 : limRuns 104 8 = true := by kernel_rfl
theorem lim14 : limRuns 112 8 = true := by kernel_rfl
theorem lim15 : limRuns 120 5 = true := by kernel_rfl
end Go.Proofs.Ytieabeodommbiaa
