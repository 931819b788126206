/- RatLimits, evaluated with letters: a part of the first powers. -/
import Derived.Test.YtieabeodommbiaaQn
namespace Go.Proofs.Ytieabeodommbiaa
open Go.Ev
theorem lim8 : limRuns 64 8 = true := by kernel_rfl
theorem lim9 : limRuns 72 8 = true := by kernel_rfl
theorem lim10 : limRuns 80 8 = true := by kernel_rfl
theorem lim11 : limRuns 88 8 = true := by kernel_rfl
end Go.Proofs.Ytieabeodommbiaa
