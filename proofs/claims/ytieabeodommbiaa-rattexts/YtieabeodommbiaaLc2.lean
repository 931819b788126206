/- RatLowest, evaluated: one way of its end. -/
import Derived.Test.YtieabeodommbiaaLb
namespace Go.Proofs.Ytieabeodommbiaa
open Go.Ev
theorem low_run20 : (allB fun s => allB fun t => allB fun p => allC fun q => lowRun s t p q 0 2) = true := by kernel_rfl
theorem low_run21 : (allB fun s => allB fun t => allB fun p => allC fun q => lowRun s t p q 1 2) = true := by kernel_rfl
theorem low_run22 : (allB fun s => allB fun t => allB fun p => allC fun q => lowRun s t p q 2 2) = true := by kernel_rfl
end Go.Proofs.Ytieabeodommbiaa
