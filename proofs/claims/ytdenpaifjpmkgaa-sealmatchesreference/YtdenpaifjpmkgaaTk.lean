/- SealChanges: what it answers, whatever it is given. -/
import Derived.Test.YtdenpaifjpmkgaaTk0
import Derived.Test.YtdenpaifjpmkgaaTj1
import Derived.Test.YtdenpaifjpmkgaaTj3
namespace Go.Proofs.Ytdenpaifjpmkgaa
open Go.Ev
open Go.RowKit (Below)
set_option maxRecDepth 100000
set_option linter.unusedVariables false
set_option linter.unusedSectionVars false

theorem cGot_get {a d : Nat} (ha : a < 4) (hd : d < 10) (s : Bool) : cGot a d s = true := by
  have key : ∀ {f : Nat → Bool}, (List.range 10).all f = true → f d = true := fun h => List.all_eq_true.1 h d (List.mem_range.2 hd)
  have h : (cGot a d true && cGot a d false) = true := by
    match a, ha with
    | 0, _ => exact key (f := fun d => cGot 0 d true && cGot 0 d false) cGot_0
    | 1, _ => exact key (f := fun d => cGot 1 d true && cGot 1 d false) cGot_1
    | 2, _ => exact key (f := fun d => cGot 2 d true && cGot 2 d false) cGot_2
    | 3, _ => exact key (f := fun d => cGot 3 d true && cGot 3 d false) cGot_3
  rw [Bool.and_eq_true] at h
  cases s
  · exact h.2
  · exact h.1
theorem cLaw_good : (cLaw 0).good = true ∧ (cLaw 1).good = true ∧ (cLaw 2).good = true ∧ (cLaw 3).good = true := ⟨by kernel_rfl, by kernel_rfl, by kernel_rfl, by kernel_rfl⟩

theorem changes_c {I : InT} (h : I.Ok) (hm : I.m = 300) (hl : I.l.length ≤ 9223372036854775807) {W : World} {nl : Bool} {v0 : Value} (hv : GivenT W I.off I.cap I.l nl v0) :
    Calls Try.prog 7 #[v0, .agg #[.int .u16 I.k0, .int .u16 I.k1], .int .u64 I.v] W fun e W' => e = .returned (.bool true) ∧ Below W.heap.size W W' := by
  obtain ⟨a, ha, hnl⟩ := cls_of I nl (fun e => by subst e; cases hv with | nil hn => exact hn)
  obtain ⟨π, hw, hr⟩ := g_arg h ha hl hv hnl
  have hn := t_n h
  have hi := t_i h
  have ha4 : a < 4 := by rcases ha with e | e | e | e <;> omega
  letI := I.R
  have eN := t_nE h
  have eI := t_iE h
  rw [hm] at eN eI
  have lG : LetL I.R 50 I.G := t_let (by omega) rfl
  have lC : LetL I.R 53 I.G := t_let (by omega) rfl
  have lO : LetL I.R 52 I.O := t_let (by omega) rfl
  have e17 : Rho.ρ 17 = I.v := t_num (by omega)
  have e20 : Rho.ρ 20 = rootL I.G := t_num (by omega)
  have e21 : Rho.ρ 21 = I.G.getD I.i 0 := t_num (by omega)
  have e22 : Rho.ρ 22 = rootL I.O := t_num (by omega)
  have hGL := t_GL h
  have hcs : (climbL I.n I.i I.v I.P).1 = rootL I.O ∧ (climbL I.n I.i I.v I.P).2 = true := by
    have := climb_set I.G I.i I.v (by omega)
    rw [hGL] at this
    show (climbL I.n I.i I.v (pathL I.G I.i)).1 = rootL (I.G.set I.i I.v) ∧ (climbL I.n I.i I.v (pathL I.G I.i)).2 = true
    rw [this]; exact ⟨rfl, rfl⟩
  have hk : @KnowOk I.R (cTabL (decide (I.v = I.G.getD I.i 0))).know := by
    refine KTab.ok { cmps := ?_, cells := ?_, puts := ?_, apps := ?_ }
    · intro x hx
      simp only [cTabL, List.mem_cons, List.not_mem_nil, or_false] at hx
      rcases hx with rfl | rfl | rfl | rfl
      · refine ⟨by simp [cmpNo], fun _ _ => ?_⟩
        show some (decide ((iX 300).eval < (gX 300).eval)) = some true
        rw [eN, eI]; simp only [Option.some.injEq, decide_eq_true_eq]; omega
      · refine ⟨by simp [cmpNo], fun _ _ => ?_⟩
        show some (decide ((iX 300).eval ≥ (gX 300).eval)) = some false
        rw [eN, eI]; simp only [Option.some.injEq, decide_eq_false_iff_not]; omega
      · refine ⟨by simp [cmpNo], fun _ _ => eqB h ?_⟩
        show Rho.ρ 20 = Rho.ρ 22 ↔ _
        rw [e20, e22]
        exact root_set (by omega) (t_Gu h) h.v
      · refine ⟨by simp [cmpNo], fun _ _ => eqB h ?_⟩
        show Rho.ρ 17 = Rho.ρ 21 ↔ _
        rw [e17, e21]
    · intro x hx _
      obtain rfl := List.mem_singleton.1 hx
      exact t_cell h I.R lG (by omega) eI e21 (t_lA h)
    · intro x hx _ _
      obtain rfl := List.mem_singleton.1 hx
      exact t_put h I.R lC lO (by omega) eI (by show Value.int .u64 (Rho.ρ 17) = _; rw [e17])
    · intro x hx _ _
      obtain rfl := List.mem_singleton.1 hx
      exact t_copy h I.R lG lC (by rw [eN, hGL])
  have hf : FactsOk Try.prog (cFacts a I.d) := by
    have o1 := t_open h (k := 50) (.inl rfl)
    have o2 := t_open h (k := 52) (.inr ⟨rfl, hm⟩)
    have r1 := t_rootG h
    have r2 := t_rootO h
    have c1 := t_climb h (leaf := 17) (r := 22) e17 h.v (by rw [e22]; exact hcs.1.symm) hcs.2.symm
    have g1 := grown_fct (t_grow h ha)
    rw [hm] at o1 o2 r1 r2 c1 g1
    refine ⟨fun F hF => ?_, fun F hF => ?_, fun F hF => ?_, fun F hF => ?_, fun F hF => ?_, trivial⟩
    · obtain rfl := List.mem_singleton.1 hF; exact ex_hold
    · obtain rfl := List.mem_singleton.1 hF; exact g1
    · simp only [List.mem_cons, List.not_mem_nil, or_false] at hF
      rcases hF with rfl | rfl
      · exact o1
      · exact o2
    · simp only [List.mem_cons, List.not_mem_nil, or_false] at hF
      rcases hF with rfl | rfl
      · exact r1
      · exact r2
    · obtain rfl := List.mem_singleton.1 hF; exact c1
  have hgood : (cLaw a).good = true := by
    match a, ha4 with
    | 0, _ => exact cLaw_good.1
    | 1, _ => exact cLaw_good.2.1
    | 2, _ => exact cLaw_good.2.2.1
    | 3, _ => exact cLaw_good.2.2.2
  have hF : Fct.Holds Try.prog 7 (cLaw a) := @Fct.holds I.R Try.prog (orcOf (cFacts a I.d)) (cTabL (decide (I.v = I.G.getD I.i 0))).know hk fit (orcOf_ok hf) 5000 7 (cLaw a) hgood (cGot_get ha4 (t_d h) _)
  have hagg : VR π [] (.agg [k16 3, k16 15]) (.agg #[.int .u16 I.k0, .int .u16 I.k1]) := by
    have hl2 : LR π [] [k16 3, k16 15] [.int .u16 I.k0, .int .u16 I.k1] := LR.cons (k16_rel (I := I) (a := 3) (by omega) rfl h.k0 π) (LR.cons (k16_rel (I := I) (a := 15) (by omega) rfl h.k1 π) LR.nil)
    exact .agg hl2.1 hl2.2
  exact Fct.calls hF rfl (π := π) (vs := #[v0, .agg #[.int .u16 I.k0, .int .u16 I.k1], .int .u64 I.v]) hw (LR.cons hr (LR.cons hagg (LR.cons (dA_rel (I := I) (a := 17) (by omega) rfl h.v π) LR.nil)))
end Go.Proofs.Ytdenpaifjpmkgaa
