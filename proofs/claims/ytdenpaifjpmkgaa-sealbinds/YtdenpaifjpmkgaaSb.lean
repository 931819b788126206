/- Steps of digests: what the functions answer; the examples. -/
import Derived.Test.YtdenpaifjpmkgaaSa
import Derived.Test.YtdenpaifjpmkgaaChecked
namespace Go.Proofs.Ytdenpaifjpmkgaa
open Go.RowKit (Below)
open Go.Ev
set_option maxRecDepth 100000

theorem fit [Rho] : Fit Try.prog := fit_of (by kernel_rfl)
abbrev rho (l : List Int) : Rho := ⟨fun i => l.getD i 0⟩
abbrev MU : Int := 18446744073709551615
abbrev lu (i : Nat) : AV := .sym .u64 (.var i 0 MU) 0 MU
section
variable [Rho]
theorem luf {i : Nat} {n : Int} (h : Rho.ρ i = n) (hn : u64 n) : (lu i).fine0 := by
  unfold u64 at hn
  show (0 ≤ Rho.ρ i ∧ Rho.ρ i ≤ 18446744073709551615) ∧ 0 ≤ Rho.ρ i ∧ Rho.ρ i ≤ 18446744073709551615
  rw [h]; omega
end

noncomputable def stepX (h w : SX) : SX :=
  .wop .mul .u64 (.wop .xor .u64 (.wop .mul .u64 (.wop .xor .u64 h w) (.lit 11400714819323198485)) (.wop .shr .u64 (.wop .mul .u64 (.wop .xor .u64 h w) (.lit 11400714819323198485)) (.lit 29))) (.lit 13787848793156543929)
noncomputable def backX (h x : SX) : SX :=
  .wop .xor .u64 (.wop .mul .u64 (.wop .xor .u64 (.wop .xor .u64 (.wop .mul .u64 x (.lit 10871156337175269513)) (.wop .shr .u64 (.wop .mul .u64 x (.lit 10871156337175269513)) (.lit 29)))
    (.wop .shr .u64 (.wop .mul .u64 x (.lit 10871156337175269513)) (.lit 58))) (.lit 17428512612931826493)) h

section
variable [Rho]
theorem stepX_eval (h w : SX) : (stepX h w).eval = stepI h.eval w.eval := by
  simp only [stepX, SX.eval]
  rw [w_mul, w_xor, w_mul, w_xor, show (29 : Int) = ((29 : Nat) : Int) from rfl, w_shr _ 29 (by omega) (nu_u64 _)]
  simp only [bv_nu]
  rfl
theorem backX_eval (h w : SX) : (backX h w).eval = backI h.eval w.eval := by
  simp only [backX, SX.eval]
  rw [w_xor, w_mul, w_xor, w_xor, w_mul, show (29 : Int) = ((29 : Nat) : Int) from rfl, w_shr _ 29 (by omega) (nu_u64 _), show (58 : Int) = ((58 : Nat) : Int) from rfl, w_shr _ 58 (by omega) (nu_u64 _)]
  simp only [bv_nu]
  rfl
end

theorem step_run : okRun Try.prog (orcOf []) 11 [lu 0, lu 1] (.sym .u64 (stepX (.var 0 0 MU) (.var 1 0 MU)) 0 MU) = true := by kernel_rfl
theorem back_run : okRun Try.prog (orcOf []) 13 [lu 0, lu 1] (.sym .u64 (backX (.var 0 0 MU) (.var 1 0 MU)) 0 MU) = true := by kernel_rfl

theorem step_c (h w : Int) (hh : u64 h) (hw : u64 w) (W : World) : Calls Try.prog 11 #[.int .u64 h, .int .u64 w] W fun e W' => e = .returned (.int .u64 (stepI h w)) ∧ Below W.heap.size W W' := by
  letI := rho [h, w]
  refine (run_open fit (orcOf_ok (L := []) trivial) step_run ⟨luf rfl hh, luf rfl hw, trivial⟩ W).mono ?_
  rintro e W' ⟨rfl, hb⟩
  refine ⟨?_, hb⟩
  show Ending.returned (.int .u64 (stepX (.var 0 0 MU) (.var 1 0 MU)).eval) = _
  rw [stepX_eval]; rfl
theorem back_c (h x : Int) (hh : u64 h) (hx : u64 x) (W : World) : Calls Try.prog 13 #[.int .u64 h, .int .u64 x] W fun e W' => e = .returned (.int .u64 (backI h x)) ∧ Below W.heap.size W W' := by
  letI := rho [h, x]
  refine (run_open fit (orcOf_ok (L := []) trivial) back_run ⟨luf rfl hh, luf rfl hx, trivial⟩ W).mono ?_
  rintro e W' ⟨rfl, hb⟩
  refine ⟨?_, hb⟩
  show Ending.returned (.int .u64 (backX (.var 0 0 MU) (.var 1 0 MU)).eval) = _
  rw [backX_eval]; rfl

theorem ex_run : okRun Try.prog (orcOf []) 9 [] (.bool true) = true := by kernel_rfl
theorem ex_c (W : World) : Calls Try.prog 9 #[] W fun e W' => e = .returned (.bool true) ∧ Below W.heap.size W W' :=
  letI := rho []
  run_open fit (orcOf_ok (L := []) trivial) ex_run trivial W

end Go.Proofs.Ytdenpaifjpmkgaa
