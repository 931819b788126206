/- SealSteps: what it answers, for all numbers. -/
import Derived.Test.YtdenpaifjpmkgaaSc
namespace Go.Proofs.Ytdenpaifjpmkgaa
open Go.RowKit (Below)
open Go.Ev
set_option maxRecDepth 100000

/-- how b is told by a -/
def kOf (a b : Int) : Nat := if b = a then 0 else if a < b then 1 else 2
def dOf (a b : Int) : Int := if a < b then b - a else a - b
section
variable [Rho]
theorem relX_eval {e : SX} {i : Nat} {b : Int} (h : Rho.ρ i = dOf e.eval b) : (relX e i (kOf e.eval b)).eval = b := by
  unfold kOf
  split
  · rename_i h1; exact h1.symm
  · split
    · rename_i h1 h2; simp only [relX, SX.eval, SOp.app, h, dOf, if_pos h2]; omega
    · rename_i h1 h2; simp only [relX, SX.eval, SOp.app, h, dOf, if_neg h2]; omega
theorem relX_ok {e : SX} {i : Nat} {b : Int} (he : e.ok) (h0 : u64 e.eval) (hb : u64 b) (h : Rho.ρ i = dOf e.eval b) : (relX e i (kOf e.eval b)).ok := by
  unfold u64 at h0 hb
  have key : kOf e.eval b ≠ 0 → 1 ≤ Rho.ρ i ∧ Rho.ρ i ≤ 18446744073709551615 := fun hk => by
    have : b ≠ e.eval := fun h => hk (by unfold kOf; rw [if_pos h])
    rw [h]; unfold dOf; split <;> omega
  rcases h3 : kOf e.eval b with _ | _ | k
  · exact he
  · exact ⟨he, key (by omega)⟩
  · exact ⟨he, key (by omega)⟩
theorem su_fine {e : SX} (h : e.ok) (h1 : u64 e.eval) : (su e).fine0 := ⟨h, h1.1, h1.2⟩
omit [Rho] in
theorem kOf_lt (a b : Int) : kOf a b = 0 ∨ kOf a b = 1 ∨ kOf a b = 2 := by unfold kOf; split <;> (try split) <;> simp
omit [Rho] in
theorem kOf_0 {a b : Int} : (kOf a b == 0) = decide (a = b) := by
  unfold kOf
  split
  · rename_i h; simp [h]
  · rename_i h
    have h' : ¬ a = b := fun e => h e.symm
    split <;> simp [h']

theorem holds2 {f : FuncId} {x y v : SX} {nx ny nv : Int} (hx : x.eval = nx) (hy : y.eval = ny) (hv : v.eval = nv) (ho : v.ok) (hu : u64 nv) (hb : hasBody Try.prog f = true)
    (hc : ∀ w : World, Calls Try.prog f #[.int .u64 nx, .int .u64 ny] w fun e w' => e = .returned (.int .u64 nv) ∧ Below w.heap.size w w') : (F2 (su x) (su y) (su v)).Holds Try.prog f := by
  subst hx hy hv
  exact fct_flat rfl rfl rfl (su_fine ho hu) hb hc
end

section
variable [Rho]
theorem one {f : FuncId} {F : Fct} (h : F.Holds Try.prog f) : ∀ F' ∈ [F], F'.Holds Try.prog f := fun F' hF => by rw [List.mem_singleton.1 hF]; exact h
theorem two {f : FuncId} {F : Fct} {l : List Fct} (h : F.Holds Try.prog f) (hl : ∀ F' ∈ l, F'.Holds Try.prog f) : ∀ F' ∈ F :: l, F'.Holds Try.prog f := fun F' hF => by
  rcases List.mem_cons.1 hF with e | e
  · rw [e]; exact h
  · exact hl F' e
end
theorem body9 : hasBody Try.prog 9 = true := by kernel_rfl
theorem body11 : hasBody Try.prog 11 = true := by kernel_rfl
theorem body13 : hasBody Try.prog 13 = true := by kernel_rfl

theorem stepI_u (h w : Int) : u64 (stepI h w) := nu_u64 _
theorem backI_u (h w : Int) : u64 (backI h w) := nu_u64 _
theorem back_stepI {a b : Int} (hb : u64 b) : backI a (stepI a b) = b := by
  unfold backI stepI; rw [bv_nu, back_step, nu_bv hb]
theorem step_backI {a c : Int} (hc : u64 c) : stepI a (backI a c) = c := by
  unfold backI stepI; rw [bv_nu, step_back, nu_bv hc]
theorem stepI_inj {a b c : Int} (hb : u64 b) (hc : u64 c) : stepI a b = stepI a c ↔ b = c := by
  constructor
  · intro h
    have := congrArg (backI a) h
    rwa [back_stepI hb, back_stepI hc] at this
  · intro h; rw [h]
theorem stepI_comm (a b : Int) : stepI a b = stepI b a := by unfold stepI; rw [step_comm]
theorem stepI_inj' {a b c : Int} (ha : u64 a) (hc : u64 c) : stepI a b = stepI c b ↔ a = c := by
  rw [stepI_comm a, stepI_comm c]; exact stepI_inj ha hc

/-- what a call of two numbers answers -/
def Is (f : FuncId) (x y v : Int) : Prop := ∀ w : World, Calls Try.prog f #[.int .u64 x, .int .u64 y] w fun e w' => e = .returned (.int .u64 v) ∧ Below w.heap.size w w'

theorem steps_any (a b c x y z u : Int) (ha : u64 a) (hb : u64 b) (hc : u64 c) (hx : u64 x) (hy : u64 y) (hz : u64 z) (hu : u64 u) (c1 : Is 11 a b x) (c2 : Is 11 a c y) (c3 : Is 11 c b z) (c4 : Is 11 a u c) (c5 : Is 13 a x b) (c6 : Is 13 a c u)
    (f1 : fitsK (kOf b c) (kOf x y) = true) (f2 : fitsK (kOf c a) (kOf x z) = true) (w : World) :
    Calls Try.prog 4 #[.int .u64 a, .int .u64 b, .int .u64 c] w fun e w' => e = .returned (.bool true) ∧ Below w.heap.size w w' := by
  letI := rho [dOf c a, b, dOf b c, x, dOf x y, dOf x z, u]
  have eB : bX.eval = b := rfl
  have oB : bX.ok := hb
  have eC : (cX (kOf b c)).eval = c := relX_eval (e := bX) rfl
  have oC : (cX (kOf b c)).ok := relX_ok (e := bX) oB hb hc rfl
  have eA : (aX (kOf b c) (kOf c a)).eval = a := by
    have := relX_eval (e := cX (kOf b c)) (i := 0) (b := a) (by rw [eC]; rfl)
    rwa [eC] at this
  have oA : (aX (kOf b c) (kOf c a)).ok := by
    have := relX_ok (e := cX (kOf b c)) (i := 0) (b := a) oC (by rw [eC]; exact hc) ha (by rw [eC]; rfl)
    rwa [eC] at this
  have eX : xX.eval = x := rfl
  have oX : xX.ok := hx
  have eY : (relX xX 4 (kOf x y)).eval = y := relX_eval (e := xX) rfl
  have oY : (relX xX 4 (kOf x y)).ok := relX_ok (e := xX) oX hx hy rfl
  have eZ : (relX xX 5 (kOf x z)).eval = z := relX_eval (e := xX) rfl
  have oZ : (relX xX 5 (kOf x z)).ok := relX_ok (e := xX) oX hx hz rfl
  have eU : uX.eval = u := rfl
  have oU : uX.ok := hu
  have mem : ∀ x y : Int, kOf x y ∈ [0, 1, 2] := fun x y => by rcases kOf_lt x y with h | h | h <;> simp [h]
  have hrun := steps_run (mem b c) (mem c a) (mem x y) (mem x z) (by rw [f1, f2]; rfl)
  generalize kOf b c = k at *
  generalize kOf c a = l at *
  generalize kOf x y = m at *
  generalize kOf x z = n at *
  have key := run_open fit (orcOf_ok (L := stepsFacts k l m n) ⟨?_, ?_, ?_, trivial⟩) hrun
    ⟨su_fine oA (by rw [eA]; exact ha), su_fine oB hb, su_fine oC (by rw [eC]; exact hc), trivial⟩ w
  · simp only [List.map_cons, List.map_nil, AV.vl1, AV.vl0, eA, eB, eC] at key
    exact key
  · exact one (fct_flat rfl rfl rfl trivial body9 ex_c)
  · exact two (holds2 eA eB eX oX hx body11 c1) (two (holds2 eA eC eY oY hy body11 c2) (two (holds2 eC eB eZ oZ hz body11 c3) (one (holds2 eA eU eC oC hc body11 c4))))
  · exact two (holds2 eA eX eB oB hb body13 c5) (one (holds2 eA eC eU oU hu body13 c6))

theorem steps_c (a b c : Int) (ha : u64 a) (hb : u64 b) (hc : u64 c) (w : World) :
    Calls Try.prog 4 #[.int .u64 a, .int .u64 b, .int .u64 c] w fun e w' => e = .returned (.bool true) ∧ Below w.heap.size w w' := by
  have c4 : Is 11 a (backI a c) c := by have := step_c a (backI a c) ha (backI_u a c); rwa [step_backI hc] at this
  have c5 : Is 13 a (stepI a b) b := by have := back_c a (stepI a b) ha (stepI_u a b); rwa [back_stepI hb] at this
  have f1 : fitsK (kOf b c) (kOf (stepI a b) (stepI a c)) = true := by
    unfold fitsK; rw [kOf_0, kOf_0, beq_iff_eq]; exact decide_eq_decide.2 (stepI_inj hb hc).symm
  have f2 : fitsK (kOf c a) (kOf (stepI a b) (stepI c b)) = true := by
    unfold fitsK; rw [kOf_0, kOf_0, beq_iff_eq]
    exact decide_eq_decide.2 ⟨fun e => ((stepI_inj' ha hc).2 e.symm), fun e => ((stepI_inj' ha hc).1 e).symm⟩
  exact steps_any a b c _ _ _ _ ha hb hc (stepI_u a b) (stepI_u a c) (stepI_u c b) (backI_u a c) (step_c a b ha hb) (step_c a c ha hc) (step_c c b hc hb) c4 c5 (back_c a c ha hc) f1 f2 w

end Go.Proofs.Ytdenpaifjpmkgaa
