/- RatLimits, evaluated with letters: a part of the first powers. -/
import Derived.Test.YtieabeodommbiaaQn
namespace Go.Proofs.Ytieabeodommbiaa
open Go.Ev
theorem lim4 : limRuns 32 8 = true := by kernel_rfl
theorem lim5 : limRuns 40 8 = true := by kernel_rfl
theorem lim6 : limRuns 48 8 = true := by kernel_rfl
theorem lim7 : limRuns 56 8 = true := by kernel_rfl
end Go.Proofs.Ytieabeodommbiaa
