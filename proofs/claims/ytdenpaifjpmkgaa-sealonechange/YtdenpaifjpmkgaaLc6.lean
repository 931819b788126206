/- SealOneChange: the runs. -/
import Derived.Test.YtdenpaifjpmkgaaLb
namespace Go.Proofs.Ytdenpaifjpmkgaa
open Go.Ev
set_option maxRecDepth 100000
theorem got_60 (p q r : Bool) : got 0 4 p q r true true = true := by cases p <;> cases q <;> cases r <;> kernel_rfl
theorem got_61 (p q r : Bool) : got 1 4 p q r true true = true := by cases p <;> cases q <;> cases r <;> kernel_rfl
theorem got_62 (p q r : Bool) : got 1 4 p q r false true = true := by cases p <;> cases q <;> cases r <;> kernel_rfl
theorem got_63 (p q r : Bool) : got 4 4 p q r true true = true := by cases p <;> cases q <;> cases r <;> kernel_rfl
end Go.Proofs.Ytdenpaifjpmkgaa
