/- What is known of calls: the examples. -/
import Derived.Test.YtjphnpbknaedcaaMdC
namespace Go.Proofs.Ytjphnpbknaedcaa
open Go.Ev
set_option linter.unusedSectionVars false
variable [Rho]

def examplesF : Fct := { args := [], old := [], v := .bool true, sel := [], new := [] }

def L2 : List (FuncId × List Fct) := [(10, [4, 8, 9, 25].map makeF)]
theorem L2_ok : FactsOk Try.prog L2 := ⟨chkAll_ok (noOrc_ok _) make_c, trivial⟩

theorem examples_chk : chk (orcOf L2) 9 examplesF = true := by kernel_rfl
theorem examples_ok : examplesF.Holds Try.prog 9 := chk_ok (orcOf_ok L2_ok) examples_chk

end Go.Proofs.Ytjphnpbknaedcaa
