/- RatLowest, evaluated: one way of its end. -/
import Derived.Test.YtieabeodommbiaaLb
namespace Go.Proofs.Ytieabeodommbiaa
open Go.Ev
theorem low_run10 : (allB fun s => allB fun t => allB fun p => allC fun q => lowRun s t p q 0 1) = true := by kernel_rfl
theorem low_run11 : (allB fun s => allB fun t => allB fun p => allC fun q => lowRun s t p q 1 1) = true := by kernel_rfl
theorem low_run12 : (allB fun s => allB fun t => allB fun p => allC fun q => lowRun s t p q 2 1) = true := by kernel_rfl
end Go.Proofs.Ytieabeodommbiaa
