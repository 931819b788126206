/- RatLowest, evaluated: one way of its end. -/
import Derived.Test.YtieabeodommbiaaLb
namespace Go.Proofs.Ytieabeodommbiaa
open Go.Ev
theorem low_run00 : (allB fun s => allB fun t => allB fun p => allC fun q => lowRun s t p q 0 0) = true := by kernel_rfl
theorem low_run01 : (allB fun s => allB fun t => allB fun p => allC fun q => lowRun s t p q 1 0) = true := by kernel_rfl
theorem low_run02 : (allB fun s => allB fun t => allB fun p => allC fun q => lowRun s t p q 2 0) = true := by kernel_rfl
end Go.Proofs.Ytieabeodommbiaa
