/- All that is evaluated of the program's functions. -/
import Derived.Test.YtjphnpbknaedcaaGg
import Derived.Test.YtjphnpbknaedcaaCd1
import Derived.Test.YtjphnpbknaedcaaCd3
namespace Go.Proofs.Ytjphnpbknaedcaa
open Go.Ev Go.Fl
set_option linter.unusedSectionVars false
set_option linter.unusedVariables false

theorem ps_ok {F : Gf} (h : F ∈ fds) : chkPs F 0 (F.q - 1) = true := by
  have e : fds = (fds.drop 0).take 12 ++ ((fds.drop 12).take 3 ++ ((fds.drop 15).take 2 ++ ((fds.drop 17).take 2 ++ ((fds.drop 19).take 2 ++ ((fds.drop 21).take 1 ++ ((fds.drop 22).take 1 ++ ((fds.drop 23).take 1 ++ ((fds.drop 24).take 1 ++ ((fds.drop 25).take 1 ++ (fds.drop 26).take 1))))))))) := by rfl
  rw [e] at h
  simp only [List.mem_append] at h
  rcases h with h | h | h | h | h | h | h | h | h | h | h
  · exact List.all_eq_true.1 ps_a F h
  · exact List.all_eq_true.1 ps_b F h
  · exact List.all_eq_true.1 ps_d F h
  · exact List.all_eq_true.1 ps_e F h
  · exact List.all_eq_true.1 ps_g F h
  · exact List.all_eq_true.1 ps_c F h
  · exact List.all_eq_true.1 ps_f F h
  · exact List.all_eq_true.1 ps_h F h
  · exact List.all_eq_true.1 ps_i F h
  · exact List.all_eq_true.1 ps_j F h
  · exact List.all_eq_true.1 ps_k F h

theorem opsZ_ok {F : Gf} (h : F ∈ fds) : OpsZ F := by
  have hp := ps_ok h
  have key : ∀ r, r < F.q - 1 → chkPP F r = true ∧ chkPM F r = true := fun r hr => by
    have := allLt_ok hp r hr
    simp only [Bool.and_eq_true, Nat.zero_add] at this
    exact this
  exact { toOpsOk := ops_ok h, pp := fun r hr => (key r hr).1, pm := fun r hr => (key r hr).2, pz := List.all_eq_true.1 zs_k F h }

theorem os3_a : (fds.take 19).all chkOs = true := by kernel_rfl
theorem os3_b : ((fds.drop 19).take 4).all chkOs = true := by kernel_rfl
theorem os3_c : (fds.drop 23).all chkOs = true := by kernel_rfl
theorem o03_k : fds.all chkO0 = true := by kernel_rfl
theorem pr3_k : fds.all chkPr = true := by kernel_rfl
theorem trc3_k : fds.all chkTrc = true := by kernel_rfl
theorem opsW3_ok {F : Gf} (h : F ∈ fds) : OpsW F := by
  have e : fds = fds.take 19 ++ (fds.drop 19).take 4 ++ fds.drop 23 := by rfl
  have hO : chkOs F = true := by
    have h' := h
    rw [e] at h'
    simp only [List.mem_append] at h'
    rcases h' with (h' | h') | h'
    · exact List.all_eq_true.1 os3_a F h'
    · exact List.all_eq_true.1 os3_b F h'
    · exact List.all_eq_true.1 os3_c F h'
  exact { toOpsZ := opsZ_ok h, ordN := List.all_eq_true.1 on_r F h, ords := hO, ord0 := List.all_eq_true.1 o03_k F h, prim := List.all_eq_true.1 pr3_k F h }
theorem opsP3_ok {F : Gf} (h : F ∈ fds) : OpsP F := { toOpsOk := ops_ok h, powP := List.all_eq_true.1 powP_k F h, trc := List.all_eq_true.1 trc3_k F h }
end Go.Proofs.Ytjphnpbknaedcaa
