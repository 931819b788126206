/- SealOneChange: the runs. -/
import Derived.Test.YtdenpaifjpmkgaaLb
namespace Go.Proofs.Ytdenpaifjpmkgaa
open Go.Ev
set_option maxRecDepth 100000
theorem got_40 (p q r : Bool) : got 0 1 p q r true true = true := by cases p <;> cases q <;> cases r <;> kernel_rfl
theorem got_41 (p q r : Bool) : got 0 1 p q r true false = true := by cases p <;> cases q <;> cases r <;> kernel_rfl
theorem got_42 (p q r : Bool) : got 0 0 p q r true true = true := by cases p <;> cases q <;> cases r <;> kernel_rfl
end Go.Proofs.Ytdenpaifjpmkgaa
