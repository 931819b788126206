/- SealOneChange: the law as a fact, whatever the lists. -/
import Derived.Test.YtdenpaifjpmkgaaLd
namespace Go.Proofs.Ytdenpaifjpmkgaa
open Go.Ev
open Go.RowKit (Below)
set_option maxRecDepth 100000
set_option linter.unusedVariables false
set_option linter.unusedSectionVars false

section
variable {I : In} (hz : I.Ok)
include hz
theorem z0_ok : @SX.ok I.R (zX 0) := by
  show (0 : Int) ≤ @Rho.ρ I.R 6 ∧ @Rho.ρ I.R 6 ≤ MU
  rw [mk_num (by omega)]
  exact hz.z 0
theorem oL_eval : @SX.eval I.R oL = I.vL := by
  show wapp .add .i64 (@Rho.ρ I.R 6) 0 = _
  rw [mk_num (by omega)]; rfl
theorem oB_eval : @SX.eval I.R oB = I.vB := by
  show wapp .add .u8 (@Rho.ρ I.R 6) 0 = _
  rw [mk_num (by omega)]; rfl
theorem zI_rel (π : Inj) (lm : List Nat) : @VR I.R π lm zI (.int .i64 I.vL) := by
  letI := I.R
  have h := vL_i64 I
  unfold i64 at h
  have : VR π lm zI (.int .i64 (SX.eval oL)) := .sym ⟨z0_ok hz, trivial⟩ (by rw [oL_eval hz]; exact h.1) (by rw [oL_eval hz]; exact h.2)
  rw [oL_eval hz] at this
  exact this
theorem zB_rel (π : Inj) (lm : List Nat) : @VR I.R π lm zB (.int .u8 I.vB) := by
  letI := I.R
  have h := vB_byt I
  unfold byt at h
  have : VR π lm zB (.int .u8 (SX.eval oB)) := .sym ⟨z0_ok hz, trivial⟩ (by rw [oB_eval hz]; exact h.1) (by rw [oB_eval hz]; exact h.2)
  rw [oB_eval hz] at this
  exact this
theorem tab_ok {a b : Nat} (ha : a = 1 → 0 < I.l.length) (hb : b = 1 → 0 < I.b.length) :
    (tabL a b (decide (I.z 0 = I.z 2)) (decide (I.z 1 = I.z 2)) (decide (I.z 0 = I.z 1)) (decide (I.l.getD I.iL 0 = I.vL)) (decide (I.b.getD I.iB 0 = I.vB))).Ok I.R := by
  refine { cmps := cmps_ok hz ha hb, cells := ?_, puts := ?_, apps := ?_ }
  · intro x hx
    rcases List.mem_append.1 hx with hx | hx
    · obtain ⟨h1, hx⟩ := mem_if hx
      have hl := ha h1
      have hi := iL_lt hz hl
      simp only [List.mem_cons, List.not_mem_nil, or_false] at hx
      rcases hx with rfl | rfl
      · intro _
        refine cell_i64 (k := 0) (i := I.iL) ?_ (by rw [mk_len (by omega)]; exact hi) (by rw [mk_num (by omega), mk_el (by omega)]; rfl) (by rw [mk_el (by omega)]; exact (getL hz I.iL).1) (by rw [mk_el (by omega)]; exact (getL hz I.iL).2)
        show @Rho.ρ I.R 2 + @SX.eval I.R arL = _
        rw [mk_num (by omega), arL_eval hz hl, mk_skip (by omega)]
        show (I.oL : Int) + _ = ((I.oL + I.iL : Nat) : Int)
        omega
      · intro _
        refine ⟨I.iL, ?_, ?_, fun π lm => ?_⟩
        · simp only
          rw [arL_eval hz hl, mk_skip (by omega)]
          show _ = ((0 + I.iL : Nat) : Int)
          omega
        · rw [mk_len (by omega)]; simpa [In.ls] using hi
        · rw [mk_val (by omega)]
          show @VR I.R π lm zI (.int .i64 ((I.l.set I.iL I.vL).getD I.iL 0))
          rw [set_eq hi]; exact zI_rel hz π lm
    · obtain ⟨h1, hx⟩ := mem_if hx
      have hl := hb h1
      have hi := iB_lt hz hl
      have hg : byt (I.b.getD I.iB 0) := get_byt hz.b _
      simp only [List.mem_cons, List.not_mem_nil, or_false] at hx
      rcases hx with rfl | rfl
      · intro _
        refine cell_i64 (k := 1) (i := I.iB) ?_ (by rw [mk_len (by omega)]; exact hi) (by rw [mk_num (by omega), mk_el (by omega)]; rfl) (by rw [mk_el (by omega)]; exact hg.1) (by rw [mk_el (by omega)]; exact hg.2)
        show @Rho.ρ I.R 5 + @SX.eval I.R arB = _
        rw [mk_num (by omega), arB_eval hz hl, mk_skip (by omega)]
        show (I.oB : Int) + _ = ((I.oB + I.iB : Nat) : Int)
        omega
      · intro _
        refine ⟨I.iB, ?_, ?_, fun π lm => ?_⟩
        · simp only
          rw [arB_eval hz hl, mk_skip (by omega)]
          show _ = ((0 + I.iB : Nat) : Int)
          omega
        · rw [mk_len (by omega)]; simpa [In.ls] using hi
        · rw [mk_val (by omega)]
          show @VR I.R π lm zB (.int .u8 ((I.b.set I.iB I.vB).getD I.iB 0))
          rw [set_eq hi]; exact zB_rel hz π lm
  · intro x hx
    rcases List.mem_append.1 hx with hx | hx
    · obtain ⟨h1, hx⟩ := mem_if hx
      have hl := ha h1
      have hi := iL_lt hz hl
      obtain rfl := List.mem_singleton.1 hx
      intro _ _
      dsimp only
      refine ⟨by rw [mk_skip (by omega), mk_skip (by omega)]; rfl, by rw [mk_len (by omega), mk_len (by omega)]; simp [In.ls], I.iL, ?_, ?_, ?_, fun j hj _ => ?_⟩
      · rw [arL_eval hz hl, mk_skip (by omega)]
        show _ = ((0 + I.iL : Nat) : Int)
        omega
      · rw [mk_len (by omega)]; exact hi
      · rw [mk_val (by omega)]
        show Value.int .i64 (@SX.eval I.R oL) = .int .i64 ((I.l.set I.iL I.vL).getD I.iL 0)
        rw [set_eq hi, oL_eval hz]
      · rw [mk_val (by omega), mk_val (by omega)]
        show Value.int .i64 ((I.l.set I.iL I.vL).getD j 0) = .int .i64 (I.l.getD j 0)
        rw [set_ne hj]
    · obtain ⟨h1, hx⟩ := mem_if hx
      have hl := hb h1
      have hi := iB_lt hz hl
      obtain rfl := List.mem_singleton.1 hx
      intro _ _
      dsimp only
      refine ⟨by rw [mk_skip (by omega), mk_skip (by omega)]; rfl, by rw [mk_len (by omega), mk_len (by omega)]; simp [In.ls], I.iB, ?_, ?_, ?_, fun j hj _ => ?_⟩
      · rw [arB_eval hz hl, mk_skip (by omega)]
        show _ = ((0 + I.iB : Nat) : Int)
        omega
      · rw [mk_len (by omega)]; exact hi
      · rw [mk_val (by omega)]
        show Value.int .u8 (@SX.eval I.R oB) = .int .u8 ((I.b.set I.iB I.vB).getD I.iB 0)
        rw [set_eq hi, oB_eval hz]
      · rw [mk_val (by omega), mk_val (by omega)]
        show Value.int .u8 ((I.b.set I.iB I.vB).getD j 0) = .int .u8 (I.b.getD j 0)
        rw [set_ne hj]
  · intro x hx
    rcases List.mem_append.1 hx with hx | hx
    · obtain ⟨h1, hx⟩ := mem_if hx
      obtain rfl := List.mem_singleton.1 hx
      have e0 : @SX.eval I.R (nl 1) = (I.l.length : Int) := mk_num (by omega)
      have e2 : @SX.eval I.R (.free 2) = (I.oL : Int) := mk_num (by omega)
      have s0 : @lskip I.R 0 = I.oL := mk_skip (by omega)
      have n0 : @llen I.R 0 = I.l.length := mk_len (by omega)
      have n2 : @llen I.R 2 = I.l.length := mk_len (by omega)
      intro _ _
      refine ⟨mk_skip (k := 2) (by omega), ?_, trivial, ?_⟩
      · show (List.range (@llen I.R 2)).map (@lval I.R 2 (.int .i64)) = [] ++ (List.range (@SX.eval I.R (nl 1)).toNat).map fun i => @lval I.R 0 (.int .i64) ((@SX.eval I.R (.free 2)).toNat - @lskip I.R 0 + i)
        rw [e0, e2, s0, n2, List.nil_append]
        refine List.map_congr_left fun i hi => ?_
        rw [mk_val (by omega), mk_val (by omega)]
        show Value.int .i64 (I.l.getD i 0) = .int .i64 (I.l.getD _ 0)
        congr 2; omega
      · show @lskip I.R 0 ≤ (@SX.eval I.R (.free 2)).toNat ∧ (@SX.eval I.R (.free 2)).toNat + (@SX.eval I.R (nl 1)).toNat ≤ @lskip I.R 0 + @llen I.R 0
        rw [e0, e2, s0, n0]; omega
    · obtain ⟨h1, hx⟩ := mem_if hx
      obtain rfl := List.mem_singleton.1 hx
      have e0 : @SX.eval I.R (nb 1) = (I.b.length : Int) := mk_num (by omega)
      have e2 : @SX.eval I.R (.free 5) = (I.oB : Int) := mk_num (by omega)
      have s0 : @lskip I.R 1 = I.oB := mk_skip (by omega)
      have n0 : @llen I.R 1 = I.b.length := mk_len (by omega)
      have n2 : @llen I.R 4 = I.b.length := mk_len (by omega)
      intro _ _
      refine ⟨mk_skip (k := 4) (by omega), ?_, trivial, ?_⟩
      · show (List.range (@llen I.R 4)).map (@lval I.R 4 (.int .u8)) = [] ++ (List.range (@SX.eval I.R (nb 1)).toNat).map fun i => @lval I.R 1 (.int .u8) ((@SX.eval I.R (.free 5)).toNat - @lskip I.R 1 + i)
        rw [e0, e2, s0, n2, List.nil_append]
        refine List.map_congr_left fun i hi => ?_
        rw [mk_val (by omega), mk_val (by omega)]
        show Value.int .u8 (I.b.getD i 0) = .int .u8 (I.b.getD _ 0)
        congr 2; omega
      · show @lskip I.R 1 ≤ (@SX.eval I.R (.free 5)).toNat ∧ (@SX.eval I.R (.free 5)).toNat + (@SX.eval I.R (nb 1)).toNat ≤ @lskip I.R 1 + @llen I.R 1
        rw [e0, e2, s0, n0]; omega
end
end Go.Proofs.Ytdenpaifjpmkgaa
