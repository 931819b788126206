/- Steps of digests: numbers of 64 bits. -/
import Derived.Test.YtdenpaifjpmkgaaEvNo
import Derived.Test.YtdenpaifjpmkgaaChecked
namespace Go.Proofs.Ytdenpaifjpmkgaa
open Go.Ev

abbrev W64 := BitVec 64
def c1 : W64 := 11400714819323198485
def c2 : W64 := 13787848793156543929
def i1 : W64 := 17428512612931826493
def i2 : W64 := 10871156337175269513
def fold (a : W64) : W64 := a ^^^ a >>> 29
def unfold3 (b : W64) : W64 := b ^^^ b >>> 29 ^^^ b >>> 58
def stepB (h w : W64) : W64 := fold ((h ^^^ w) * c1) * c2
def backB (h x : W64) : W64 := unfold3 (x * i2) * i1 ^^^ h

theorem unfold_fold (a : W64) : unfold3 (fold a) = a := by
  unfold unfold3 fold
  apply BitVec.eq_of_getLsbD_eq
  intro i hi
  simp only [BitVec.getLsbD_xor, BitVec.getLsbD_ushiftRight]
  have e1 : a.getLsbD (29 + (58 + i)) = false := BitVec.getLsbD_of_ge a _ (by omega)
  rw [e1, show 29 + (29 + i) = 58 + i by omega]
  cases a.getLsbD i <;> cases a.getLsbD (29 + i) <;> cases a.getLsbD (58 + i) <;> rfl
theorem fold_unfold (b : W64) : fold (unfold3 b) = b := by
  unfold unfold3 fold
  apply BitVec.eq_of_getLsbD_eq
  intro i hi
  simp only [BitVec.getLsbD_xor, BitVec.getLsbD_ushiftRight]
  have e1 : b.getLsbD (58 + (29 + i)) = false := BitVec.getLsbD_of_ge b _ (by omega)
  rw [e1, show 29 + (29 + i) = 58 + i by omega]
  cases b.getLsbD i <;> cases b.getLsbD (29 + i) <;> cases b.getLsbD (58 + i) <;> rfl
theorem mul_one' (x : W64) : x * 1 = x := BitVec.mul_one x
theorem c1i1 : c1 * i1 = 1 := by decide
theorem c2i2 : c2 * i2 = 1 := by decide
theorem back_step (h w : W64) : backB h (stepB h w) = w := by
  unfold backB stepB
  rw [BitVec.mul_assoc, c2i2, mul_one', unfold_fold, BitVec.mul_assoc, c1i1, mul_one', BitVec.xor_comm h w, BitVec.xor_assoc, BitVec.xor_self, BitVec.xor_zero]
theorem step_back (h x : W64) : stepB h (backB h x) = x := by
  unfold backB stepB
  rw [BitVec.xor_comm h, BitVec.xor_assoc, BitVec.xor_self, BitVec.xor_zero, BitVec.mul_assoc, BitVec.mul_comm i1 c1, c1i1, mul_one', fold_unfold, BitVec.mul_assoc, BitVec.mul_comm i2 c2, c2i2, mul_one']
theorem step_comm (h w : W64) : stepB h w = stepB w h := by unfold stepB; rw [BitVec.xor_comm]
theorem step_inj {h w v : W64} (e : stepB h w = stepB h v) : w = v := by
  have := congrArg (backB h) e
  rwa [back_step, back_step] at this
theorem step_inj' {h g w : W64} (e : stepB h w = stepB g w) : h = g := by
  rw [step_comm h, step_comm g] at e; exact step_inj e

/-! as Go's numbers -/
def u64 (n : Int) : Prop := 0 ≤ n ∧ n ≤ 18446744073709551615
def bv (n : Int) : W64 := BitVec.ofInt 64 n
def nu (b : W64) : Int := (b.toNat : Int)
theorem nu_u64 (b : W64) : u64 (nu b) := by
  have := b.isLt
  unfold u64 nu
  omega
theorem bv_nu (b : W64) : bv (nu b) = b := by
  apply BitVec.eq_of_toNat_eq
  simp [bv, nu]
theorem nu_bv {n : Int} (h : u64 n) : nu (bv n) = n := by
  unfold u64 at h
  simp [bv, nu, BitVec.toNat_ofInt]
  omega
theorem nu_inj {a b : W64} (h : nu a = nu b) : a = b := by rw [← bv_nu a, ← bv_nu b, h]
theorem nu_ofInt (n : Int) : nu (bv n) = n % 18446744073709551616 := by
  simp only [bv, nu, BitVec.toNat_ofInt]
  omega
theorem bv_mul (a b : Int) : bv a * bv b = bv (a * b) := (BitVec.ofInt_mul a b).symm
theorem w_mul (a b : Int) : wapp .mul .u64 a b = nu (bv a * bv b) := by
  rw [bv_mul, nu_ofInt]
  show IntKind.u64.wrap (a * b) = _
  rw [IntKind.wrap_u64]
theorem w_xor (a b : Int) : wapp .xor .u64 a b = nu (bv a ^^^ bv b) := by
  have := (bv a ^^^ bv b).isLt
  simp only [wapp, nu]
  show IntKind.u64.wrap ((bv a ^^^ bv b).toNat : Int) = _
  rw [IntKind.wrap_u64]
  omega
theorem w_shr (a : Int) (k : Nat) (hk : k < 64) (h : u64 a) : wapp .shr .u64 a k = nu (bv a >>> k) := by
  have e : nu (bv a) = a := nu_bv h
  simp only [wapp, nu, BitVec.toNat_ushiftRight]
  rw [Nat.shiftRight_eq_div_pow, Int.fdiv_eq_ediv_of_nonneg _ (Int.le_of_lt (Int.pow_pos (by omega)))]
  unfold nu at e
  have hm : min (k : Int).toNat IntKind.u64.bits = k := by simp [IntKind.bits]; omega
  rw [hm]
  conv => lhs; rw [← e]
  simp

def stepI (h w : Int) : Int := nu (stepB (bv h) (bv w))
def backI (h x : Int) : Int := nu (backB (bv h) (bv x))
end Go.Proofs.Ytdenpaifjpmkgaa

/- Steps of digests: what the functions answer; the examples. -/
namespace Go.Proofs.Ytdenpaifjpmkgaa
open Go.RowKit (Below)
open Go.Ev
set_option maxRecDepth 100000

theorem fit [Rho] : Fit Try.prog := fit_of (by kernel_rfl)
abbrev rho (l : List Int) : Rho := ⟨fun i => l.getD i 0⟩
abbrev MU : Int := 18446744073709551615
abbrev lu (i : Nat) : AV := .sym .u64 (.var i 0 MU) 0 MU
section
variable [Rho]
theorem luf {i : Nat} {n : Int} (h : Rho.ρ i = n) (hn : u64 n) : (lu i).fine0 := by
  unfold u64 at hn
  show (0 ≤ Rho.ρ i ∧ Rho.ρ i ≤ 18446744073709551615) ∧ 0 ≤ Rho.ρ i ∧ Rho.ρ i ≤ 18446744073709551615
  rw [h]; omega
end

noncomputable def stepX (h w : SX) : SX :=
  .wop .mul .u64 (.wop .xor .u64 (.wop .mul .u64 (.wop .xor .u64 h w) (.lit 11400714819323198485)) (.wop .shr .u64 (.wop .mul .u64 (.wop .xor .u64 h w) (.lit 11400714819323198485)) (.lit 29))) (.lit 13787848793156543929)
noncomputable def backX (h x : SX) : SX :=
  .wop .xor .u64 (.wop .mul .u64 (.wop .xor .u64 (.wop .xor .u64 (.wop .mul .u64 x (.lit 10871156337175269513)) (.wop .shr .u64 (.wop .mul .u64 x (.lit 10871156337175269513)) (.lit 29)))
    (.wop .shr .u64 (.wop .mul .u64 x (.lit 10871156337175269513)) (.lit 58))) (.lit 17428512612931826493)) h

section
variable [Rho]
theorem stepX_eval (h w : SX) : (stepX h w).eval = stepI h.eval w.eval := by
  simp only [stepX, SX.eval]
  rw [w_mul, w_xor, w_mul, w_xor, show (29 : Int) = ((29 : Nat) : Int) from rfl, w_shr _ 29 (by omega) (nu_u64 _)]
  simp only [bv_nu]
  rfl
theorem backX_eval (h w : SX) : (backX h w).eval = backI h.eval w.eval := by
  simp only [backX, SX.eval]
  rw [w_xor, w_mul, w_xor, w_xor, w_mul, show (29 : Int) = ((29 : Nat) : Int) from rfl, w_shr _ 29 (by omega) (nu_u64 _), show (58 : Int) = ((58 : Nat) : Int) from rfl, w_shr _ 58 (by omega) (nu_u64 _)]
  simp only [bv_nu]
  rfl
end

theorem step_run : okRun Try.prog (orcOf []) 11 [lu 0, lu 1] (.sym .u64 (stepX (.var 0 0 MU) (.var 1 0 MU)) 0 MU) = true := by kernel_rfl
theorem back_run : okRun Try.prog (orcOf []) 13 [lu 0, lu 1] (.sym .u64 (backX (.var 0 0 MU) (.var 1 0 MU)) 0 MU) = true := by kernel_rfl

theorem step_c (h w : Int) (hh : u64 h) (hw : u64 w) (W : World) : Calls Try.prog 11 #[.int .u64 h, .int .u64 w] W fun e W' => e = .returned (.int .u64 (stepI h w)) ∧ Below W.heap.size W W' := by
  letI := rho [h, w]
  refine (run_open fit (orcOf_ok (L := []) trivial) step_run ⟨luf rfl hh, luf rfl hw, trivial⟩ W).mono ?_
  rintro e W' ⟨rfl, hb⟩
  refine ⟨?_, hb⟩
  show Ending.returned (.int .u64 (stepX (.var 0 0 MU) (.var 1 0 MU)).eval) = _
  rw [stepX_eval]; rfl
theorem back_c (h x : Int) (hh : u64 h) (hx : u64 x) (W : World) : Calls Try.prog 13 #[.int .u64 h, .int .u64 x] W fun e W' => e = .returned (.int .u64 (backI h x)) ∧ Below W.heap.size W W' := by
  letI := rho [h, x]
  refine (run_open fit (orcOf_ok (L := []) trivial) back_run ⟨luf rfl hh, luf rfl hx, trivial⟩ W).mono ?_
  rintro e W' ⟨rfl, hb⟩
  refine ⟨?_, hb⟩
  show Ending.returned (.int .u64 (backX (.var 0 0 MU) (.var 1 0 MU)).eval) = _
  rw [backX_eval]; rfl

theorem ex_run : okRun Try.prog (orcOf []) 9 [] (.bool true) = true := by kernel_rfl
theorem ex_c (W : World) : Calls Try.prog 9 #[] W fun e W' => e = .returned (.bool true) ∧ Below W.heap.size W W' :=
  letI := rho []
  run_open fit (orcOf_ok (L := []) trivial) ex_run trivial W

end Go.Proofs.Ytdenpaifjpmkgaa
