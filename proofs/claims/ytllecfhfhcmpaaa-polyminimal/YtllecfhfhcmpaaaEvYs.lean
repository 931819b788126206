/- Polynomials over the fields with at most 64 elements: common divisors. -/
import Derived.Test.YtllecfhfhcmpaaaEvYr
namespace Go.Fl
set_option linter.unusedVariables false
set_option linter.unusedSectionVars false

variable {F : Gf}
section
variable (hF : Ok F)
include hF
theorem pm_const (x : Nat) (f : Cf) : pm F [x] f = ps F x f := by
 show pa F (ps F x f) (sh pz) = ps F x f
 rw [sh_z hF, pa_zero hF (el_s hF x f)]
theorem neg_one_ne : F.neg 1 ≠ 0 := fun e => by
 have h := hF.add_neg 1
 rw [e, hF.add_zero hF.one_lt] at h
 exact absurd h (by decide)
theorem po_one (x : Nat) (hx : x < F.q) (h0 : x ≠ 0) : Po F [x] := ⟨In.cons hx In.nil, by simp [Cn, h0]⟩
theorem dv_rem {d P T Q R : List Nat} (hd : Po F d) (hP : Po F P) (hT : Po F T) (hR : Po F R) (e : fn P = pa F (pm F T (fn Q)) (fn R)) (h1 : Dv F d P) (h2 : Dv F d Q) : Dv F d R := by
 have e2 : R = addP F P (mulP F [F.neg 1] (mulP F T Q)) := hR.ext (addP_po hF hP.el (mulP_po hF _ _).el) (by
  rw [fn_addP hF hP.el (mulP_po hF _ _).el, fn_mulP hF, fn_mulP hF, pm_const hF, e]
  have hel := el_m hF T (fn Q)
  generalize pm F T (fn Q) = u at hel
  rw [pa_comm hF u, pa_assoc hF, pa_neg hF hel, pa_zero hF (hR.el.el hF)])
 rw [e2]
 exact dv_add hF hd h1 (dv_mul hF hd (po_one hF _ (hF.neg_lt _) (neg_one_ne hF)) (dv_mul hF hd hT h2))
theorem dv_of {d P T Q R : List Nat} (hd : Po F d) (hP : Po F P) (hT : Po F T) (hR : Po F R) (e : fn P = pa F (pm F T (fn Q)) (fn R)) (h1 : Dv F d Q) (h2 : Dv F d R) : Dv F d P := by
 have e2 : P = addP F (mulP F T Q) R := hP.ext (addP_po hF (mulP_po hF _ _).el hR.el) (by rw [fn_addP hF (mulP_po hF _ _).el hR.el, fn_mulP hF, e])
 rw [e2]
 exact dv_add hF hd (dv_mul hF hd hT h1) h2
end
/-- the common divisors of P and Q are those of A and B -/
def GR (F : Gf) (A B P Q : List Nat) : Prop := ∀ d, Po F d → (Dv F d P ∧ Dv F d Q ↔ Dv F d A ∧ Dv F d B)
theorem GR.refl (F : Gf) (A B : List Nat) : GR F A B A B := fun _ _ => Iff.rfl
theorem GR.step (hF : Ok F) {A B P Q T R : List Nat} (hP : Po F P) (hQ : Po F Q) (h : GR F A B P Q) (hd : DM F P Q T R) : GR F A B Q R := fun d hdp => by
 rw [← h d hdp]
 constructor
 ·rintro ⟨h1, h2⟩
  exact ⟨dv_of hF hdp hP hd.q hd.r hd.eq h1 h2, h1⟩
 ·rintro ⟨h1, h2⟩
  exact ⟨h2, dv_rem hF hdp hP hd.q hd.r hd.eq h1 h2⟩
/-- the monic common divisor of the greatest degree -/
structure IsGcd (F : Gf) (A B G : List Nat) : Prop where
 po : Po F G
 mo : G = [] ∨ G.getLast? = some 1
 dv : ∀ d, Po F d → (Dv F d G ↔ Dv F d A ∧ Dv F d B)
theorem dv_of_nil {a : List Nat} (hF : Ok F) (h : Dv F [] a) : a = [] := by
 obtain ⟨c, _, rfl⟩ := h
 exact mulP_nil hF c
theorem IsGcd.uniq (hF : Ok F) {A B G G' : List Nat} (h : IsGcd F A B G) (h' : IsGcd F A B G') : G = G' := by
 have h1 : Dv F G G' := (h'.dv G h.po).2 ((h.dv G h.po).1 (dv_refl hF h.po))
 have h2 : Dv F G' G := (h.dv G' h'.po).2 ((h'.dv G' h'.po).1 (dv_refl hF h'.po))
 rcases h.mo with rfl | m
 ·exact (dv_of_nil hF h1).symm
 ·rcases h'.mo with rfl | m'
  ·exact dv_of_nil hF h2
  ·exact dv_anti hF h.po h'.po h1 h2 m m'
/-- the monic multiple -/
def monP (F : Gf) (A : List Nat) : List Nat := if A = [] then [] else mulP F A (trL [F.inv (A.getD (A.length - 1) 0)])
theorem monP_nil (F : Gf) : monP F [] = [] := rfl
theorem monP_ne {F : Gf} {A : List Nat} (h : A ≠ []) : monP F A = mulP F A (trL [F.inv (A.getD (A.length - 1) 0)]) := if_neg h
section
variable (hF : Ok F)
include hF
theorem inv_ne {x : Nat} (hx : x < F.q) (h0 : x ≠ 0) : F.inv x ≠ 0 := fun e => by
 have h := hF.mul_inv hx h0
 rw [e, Ok.mul_z] at h
 exact absurd h (by decide)
theorem monP_po (A : List Nat) : Po F (monP F A) := by
 unfold monP
 split
 ·exact Po.nil
 ·exact mulP_po hF _ _
theorem last_get {l : List Nat} (hl : l ≠ []) {x : Nat} (h : l.getD (l.length - 1) 0 = x) : l.getLast? = some x := by
 have p := List.length_pos_iff.2 hl
 rw [List.getLast?_eq_getElem?]
 rw [List.getD_eq_getElem?_getD, List.getElem?_eq_getElem (by omega)] at h
 rw [List.getElem?_eq_getElem (by omega)]
 exact congrArg some h
theorem monP_spec {A : List Nat} (hA : Po F A) (hn : A ≠ []) : (monP F A).getLast? = some 1 ∧ (monP F A).length = A.length ∧ ∃ c, c < F.q ∧ c ≠ 0 ∧ monP F A = mulP F [c] A ∧ A = mulP F [A.getD (A.length - 1) 0] (monP F A) := by
 obtain ⟨x, hx⟩ : ∃ x, x = A.getD (A.length - 1) 0 := ⟨_, rfl⟩
 have hxq : x < F.q := by rw [hx]; exact hA.el.get hF _
 have hx0 : x ≠ 0 := by rw [hx]; exact cn_last hA.cn hn
 have hi0 := inv_ne hF hxq hx0
 have hiq := hF.inv_lt x
 have hpi := po_one hF _ hiq hi0
 have hpx := po_one hF _ hxq hx0
 have e1 : monP F A = mulP F A [F.inv x] := by rw [monP_ne hn, ← hx, trL_of hpi.cn]
 have l1 := mulP_len hF hA hpi hn (by simp)
 have t1 := mulP_top hF hA hpi hn (by simp)
 have p1 := List.length_pos_iff.2 hn
 have l2 : (monP F A).length = A.length := by rw [e1, l1]; simp
 have hne : monP F A ≠ [] := fun e => by rw [e] at l2; simp at l2; omega
 refine ⟨last_get hF hne ?_, l2, F.inv x, hiq, hi0, by rw [e1, mulP_comm hF hA.el hpi.el], ?_⟩
 ·rw [l2, e1]
  have e2 : fn (mulP F A [F.inv x]) (A.length - 1) = F.mul x (F.inv x) := by
   have e3 : A.length - 1 + ([F.inv x].length - 1) = A.length - 1 := by simp
   rw [e3] at t1
   rw [t1, ← hx]; rfl
  rw [hF.mul_inv hxq hx0] at e2
  exact e2
 ·rw [← hx, e1, mulP_comm hF hA.el hpi.el, ← mulP_assoc hF hpx.el hpi.el hA.el]
  have e4 : mulP F [x] [F.inv x] = [1] := (mulP_po hF _ _).ext (po_one hF 1 hF.one_lt (by decide)) (by
   rw [fn_mulP hF, pm_const hF]
   funext i
   match i with
   | 0 => show F.mul x (F.inv x) = 1; exact hF.mul_inv hxq hx0
   | i + 1 => show F.mul x 0 = 0; exact Ok.mul_z x)
  rw [e4, mulP_comm hF (po_one hF 1 hF.one_lt (by decide)).el hA.el, mulP_one hF hA]
theorem GR.fin {A B P : List Nat} (hP : Po F P) (h : GR F A B P []) : IsGcd F A B (monP F P) := by
 by_cases hn : P = []
 ·subst hn
  refine ⟨Po.nil, .inl rfl, fun d hd => ?_⟩
  rw [monP_nil, ← h d hd]
  exact ⟨fun h => ⟨h, h⟩, fun h => h.1⟩
 ·obtain ⟨h1, h2, c, hc, hc0, e1, e2⟩ := monP_spec hF hP hn
  refine ⟨monP_po hF P, .inr h1, fun d hd => ?_⟩
  rw [← h d hd]
  constructor
  ·intro hh
   refine ⟨?_, dv_nil hF d⟩
   rw [e2]
   exact dv_mul hF hd (po_one hF _ (hP.el.get hF _) (cn_last hP.cn hn)) hh
  ·rintro ⟨hh, _⟩
   rw [e1]
   exact dv_mul hF hd (po_one hF _ hc hc0) hh
end
end Go.Fl
