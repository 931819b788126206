/- SealOneChange: the runs. -/
import Derived.Test.YtdenpaifjpmkgaaLb
namespace Go.Proofs.Ytdenpaifjpmkgaa
open Go.Ev
set_option maxRecDepth 100000
theorem got_30 (p q r : Bool) : got 1 0 p q r true true = true := by cases p <;> cases q <;> cases r <;> kernel_rfl
theorem got_31 (p q r : Bool) : got 1 0 p q r false true = true := by cases p <;> cases q <;> cases r <;> kernel_rfl
end Go.Proofs.Ytdenpaifjpmkgaa
