/- SealOneChange: the runs. -/
import Derived.Test.YtdenpaifjpmkgaaLb
namespace Go.Proofs.Ytdenpaifjpmkgaa
open Go.Ev
set_option maxRecDepth 100000
theorem got_10 (p q r : Bool) : got 1 1 p q r true true = true := by cases p <;> cases q <;> cases r <;> kernel_rfl
theorem got_11 (p q r : Bool) : got 1 1 p q r true false = true := by cases p <;> cases q <;> cases r <;> kernel_rfl
end Go.Proofs.Ytdenpaifjpmkgaa
