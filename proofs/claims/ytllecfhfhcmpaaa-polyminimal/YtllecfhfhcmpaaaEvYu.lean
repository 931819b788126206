/- Polynomials over the fields with at most 64 elements: division exists, roots are few, values determine. -/
import Derived.Test.YtllecfhfhcmpaaaEvYt
namespace Go.Fl
set_option linter.unusedVariables false
set_option linter.unusedSectionVars false

variable {F : Gf}
section
variable (hF : Ok F)
include hF
theorem DM.exists {A B : List Nat} (hA : Po F A) (hB : Po F B) (hb : B ≠ []) : ∃ Q R, DM F A B Q R := by
 have key : ∀ s L Q, s ≤ Q.length → DL F A B L Q s → ∃ Q' R', DM F A B Q' R' := by
  intro s
  induction s with
  | zero => intro L Q _ h; exact ⟨_, _, DL.fin hF hb h⟩
  | succ s ih =>
   intro L Q hs h
   have h2 := DL.step hF hB hb h (by omega)
   exact ih _ _ (by rw [List.length_set]; omega) h2
 exact key _ _ _ (by simp) (DL.start hF hA.el hb)
theorem ev_eq {A Q R : List Nat} {a : Nat} (ha : a < F.q) (hA : Po F A) (h : DM F A [F.neg a, 1] Q R) : R.length ≤ 1 ∧ R = trL [ev F a A] := by
 have hl := h.len
 have hl1 : R.length ≤ 1 := by simp at hl; omega
 have hlin : Po F [F.neg a, 1] := ⟨In.cons (hF.neg_lt a) (In.cons hF.one_lt In.nil), by simp [Cn]⟩
 have e1 := fn_DM hF hA hlin.el h
 have e2 : ev F a A = ev F a R := by
  rw [e1, ev_addP hF ha (mulP_po hF _ _).el h.r.el, ev_mulP hF ha h.q.el hlin.el, ev_lin hF _ _ ha, hF.sub_self ha, Ok.mul_z, hF.zero_add (ev_lt hF a R)]
 refine ⟨hl1, ?_⟩
 rw [e2]
 match R, hl1, h.r with
 | [], _, _ => rfl
 | [r], _, hr =>
  have h2 : ev F a [r] = r := by
   show F.add (F.mul 0 a) r = r
   rw [Ok.z_mul, hF.zero_add hr.el.head]
  rw [h2, trL_of hr.cn]
/-- a root is divided off -/
theorem root_off {A : List Nat} {a : Nat} (ha : a < F.q) (hA : Po F A) (h : ev F a A = 0) : ∃ Q, Po F Q ∧ A = mulP F Q [F.neg a, 1] := by
 have hlin : Po F [F.neg a, 1] := ⟨In.cons (hF.neg_lt a) (In.cons hF.one_lt In.nil), by simp [Cn]⟩
 obtain ⟨Q, R, hd⟩ := DM.exists hF hA hlin (by simp)
 have h2 := (ev_eq hF ha hA hd).2
 rw [h] at h2
 have h3 : R = [] := by rw [h2]; rfl
 refine ⟨Q, hd.q, ?_⟩
 have e1 := fn_DM hF hA hlin.el hd
 rw [h3, addP_nil hF (mulP_po hF _ _)] at e1
 exact e1
theorem mul_zero_of {a b : Nat} (ha : a < F.q) (hb : b < F.q) (h : F.mul a b = 0) : a = 0 ∨ b = 0 := by
 by_cases h0 : a = 0
 ·exact .inl h0
 ·refine .inr (hF.mul_cancel hb hF.zero_lt ha h0 ?_)
  rw [h, Ok.mul_z]
theorem sub_zero_of {a b : Nat} (ha : a < F.q) (hb : b < F.q) (h : F.sub a b = 0) : a = b := by
 have := hF.sub_add ha b
 rw [h, hF.zero_add hb] at this
 exact this.symm
theorem roots_lt : ∀ {X A : List Nat}, X.Nodup → (∀ x ∈ X, x < F.q ∧ ev F x A = 0) → Po F A → A ≠ [] → X.length < A.length
 | [], A, _, _, _, hn => List.length_pos_iff.2 hn
 | a :: X, A, hd, h, hA, hn => by
  have hlin : Po F [F.neg a, 1] := ⟨In.cons (hF.neg_lt a) (In.cons hF.one_lt In.nil), by simp [Cn]⟩
  have ha := h a (by simp)
  obtain ⟨Q, hQ, e⟩ := root_off hF ha.1 hA ha.2
  have hq : Q ≠ [] := fun e2 => hn (by rw [e, e2]; rfl)
  have hl := mulP_len hF hQ hlin hq (by simp)
  rw [← e] at hl
  rw [List.nodup_cons] at hd
  have := roots_lt hd.2 (A := Q) (fun x hx => by
   have hxx := h x (by simp [hx])
   refine ⟨hxx.1, ?_⟩
   have e3 := hxx.2
   rw [e, ev_mulP hF hxx.1 hQ.el hlin.el, ev_lin hF _ _ hxx.1] at e3
   rcases mul_zero_of hF (ev_lt hF x Q) (hF.add_lt _ _) e3 with h1 | h1
   ·exact h1
   ·have := sub_zero_of hF hxx.1 ha.1 h1
    subst this
    exact absurd hx hd.1) hQ hq
  simp only [List.length_cons, List.length_nil] at hl ⊢
  omega
/-- values determine a polynomial -/
theorem val_uniq {P P' X : List Nat} (hP : Po F P) (hP' : Po F P') (hd : X.Nodup) (hX : In F X) (l1 : P.length ≤ X.length) (l2 : P'.length ≤ X.length) (h : ∀ x ∈ X, ev F x P = ev F x P') : P = P' := by
 have hneg : Po F [F.neg 1] := po_one hF _ (hF.neg_lt 1) (neg_one_ne hF)
 obtain ⟨D, hD⟩ : ∃ D, D = addP F P (mulP F [F.neg 1] P') := ⟨_, rfl⟩
 have hDp : Po F D := by rw [hD]; exact addP_po hF hP.el (mulP_po hF _ _).el
 have hfd : fn D = pa F (fn P) (ps F (F.neg 1) (fn P')) := by rw [hD, fn_addP hF hP.el (mulP_po hF _ _).el, fn_mulP hF, pm_const hF]
 by_cases h0 : D = []
 ·refine hP.ext hP' ?_
  rw [h0, fn_nil] at hfd
  funext i
  have h1 : F.add (fn P i) (F.mul (F.neg 1) (fn P' i)) = 0 := (congrFun hfd i).symm
  rw [hF.neg_mul (hP'.el.el hF i)] at h1
  exact sub_zero_of hF (hP.el.el hF i) (hP'.el.el hF i) h1
 ·exfalso
  have hlt := roots_lt hF hd (A := D) (fun x hx => ⟨hX x hx, by
   rw [hD, ev_addP hF (hX x hx) hP.el (mulP_po hF _ _).el, ev_mulP hF (hX x hx) hneg.el hP'.el, h x hx]
   have e : ev F x [F.neg 1] = F.neg 1 := by
    show F.add (F.mul 0 x) (F.neg 1) = F.neg 1
    rw [Ok.z_mul, hF.zero_add (hF.neg_lt 1)]
   rw [e, hF.neg_mul (ev_lt hF x P')]
   exact hF.add_neg _⟩) hDp h0
  have l3 : D.length ≤ X.length := by
   rw [hD]
   have := addP_len hF P (mulP F [F.neg 1] P')
   have h4 := mulP_le hF hneg hP'
   simp only [List.length_cons, List.length_nil] at h4
   omega
  omega
end
end Go.Fl
