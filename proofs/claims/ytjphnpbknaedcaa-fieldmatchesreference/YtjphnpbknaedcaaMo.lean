/- What is known of calls. -/
import Derived.Test.YtjphnpbknaedcaaMdJ
namespace Go.Proofs.Ytjphnpbknaedcaa
open Go.Ev
set_option linter.unusedSectionVars false
variable [Rho]

theorem parts_ok : ∀ F ∈ partsFs, F.Holds Try.prog 45 := by
  intro F hF
  simp only [partsFs, List.mem_append] at hF
  rcases hF with h | h | h | h
  · exact chkAll_ok (noOrc_ok _) parts_a F h
  · exact chkAll_ok (noOrc_ok _) parts_b F h
  · exact chkAll_ok (noOrc_ok _) parts_c F h
  · exact chkAll_ok (noOrc_ok _) parts_d F h

def L1 : List (FuncId × List Fct) := [(45, partsFs)]
theorem L1_ok : FactsOk Try.prog L1 := ⟨parts_ok, trivial⟩

theorem orders_chk : chk (orcOf L1) 39 ordersF = true := by kernel_rfl
theorem orders_ok : ordersF.Holds Try.prog 39 := chk_ok (orcOf_ok L1_ok) orders_chk

end Go.Proofs.Ytjphnpbknaedcaa
