/- Polynomials: division by taking off multiples by powers of x. -/
import Derived.Test.YtllecfhfhcmpaaaEvYv
namespace Go.Fl
set_option linter.unusedVariables false
set_option linter.unusedSectionVars false
def shL (c n : Nat) : List Nat:=List.replicate n 0 ++ [c]
theorem shL_len (c n : Nat) : (shL c n).length = n + 1:=by unfold shL; simp
theorem shL_get (c n : Nat) : (shL c n).getD n 0 = c:=by unfold shL; simp [List.getD]
theorem shL_po {F : Gf} (hF : Ok F) {c n : Nat} (hc : c < F.q) (h0 : c ≠ 0) : Po F (shL c n):=⟨fun x hx=>by
 unfold shL at hx
 rcases List.mem_append.1 hx with h | h
 ·rw [List.eq_of_mem_replicate h]; exact hF.zero_lt
 ·rw [List.mem_singleton.1 h]; exact hc,by unfold shL Cn; simp [h0]⟩
def negP (F : Gf) (A : List Nat) : List Nat:=trL (A.map F.neg)
variable {F : Gf}
section
variable (hF : Ok F)
include hF
theorem negP_po (A : List Nat) : Po F (negP F A):=Po.tr fun x hx=>by
 obtain ⟨y,_,rfl⟩:=List.mem_map.1 hx
 exact hF.neg_lt y
theorem fn_negP (A : List Nat) (i : Nat) : fn (negP F A) i = F.neg (fn A i):=by
 unfold negP
 rw [fn_trL]
 show (A.map F.neg).getD i 0 = F.neg (A.getD i 0)
 rw [List.getD_eq_getElem?_getD,List.getD_eq_getElem?_getD,List.getElem?_map]
 cases A[i]? with
 | none=>exact (hF.neg_zero).symm
 | some x=>rfl
theorem negP_len (A : List Nat) : (negP F A).length ≤ A.length:=by
 unfold negP
 have:=trL_len (A.map F.neg)
 rwa [List.length_map] at this
theorem take_off {A0 D Q R : List Nat} (hD : Po F D) (hQ : Po F Q) (hR : Po F R) (hd : D ≠ []) (hl : D.length ≤ R.length) (inv : addP F (mulP F Q D) R = A0) {c : Nat} (hc : c = F.mul (R.getD (R.length - 1) 0) (F.inv (D.getD (D.length - 1) 0))) :
  Po F (shL c (R.length - D.length)) ∧ (addP F R (negP F (mulP F (shL c (R.length - D.length)) D))).length < R.length ∧
   addP F (mulP F (addP F Q (shL c (R.length - D.length))) D) (addP F R (negP F (mulP F (shL c (R.length - D.length)) D))) = A0:=by
 have hdl : 0 < D.length:=List.length_pos_iff.2 hd
 have hr : R ≠ []:=fun e=>by rw [e] at hl; simp at hl; exact hd hl
 have h1 : D.getD (D.length - 1) 0 ≠ 0:=cn_last hD.cn hd
 have h2 : R.getD (R.length - 1) 0 ≠ 0:=cn_last hR.cn hr
 have q1:=hD.el.get hF (D.length - 1)
 have q2:=hR.el.get hF (R.length - 1)
 have hi:=hF.inv_lt (D.getD (D.length - 1) 0)
 have hcq : c < F.q:=by rw [hc]; exact hF.mul_lt _ _
 have hc0 : c ≠ 0:=fun e=>by
  rw [hc] at e
  rcases mul_zero_of hF q2 hi e with e | e
  ·exact h2 e
  ·exact inv_ne hF q1 h1 e
 have ht:=shL_po hF (n:=R.length - D.length) hcq hc0
 have htn : shL c (R.length - D.length) ≠ []:=fun e=>by have:=shL_len c (R.length - D.length); rw [e] at this; simp at this
 have hml:=mulP_len hF ht hD htn hd
 have hmt:=mulP_top hF ht hD htn hd
 rw [shL_len] at hml hmt
 rw [show R.length - D.length + 1 - 1 = R.length - D.length by omega,shL_get] at hmt
 rw [show R.length - D.length + (D.length - 1) = R.length - 1 by omega] at hmt
 have htop : F.mul c (D.getD (D.length - 1) 0) = R.getD (R.length - 1) 0:=by
  rw [hc,hF.mul_assoc,Ok.mul_comm (F.inv _),hF.mul_inv q1 h1,hF.mul_one q2]
 rw [htop] at hmt
 have hN:=negP_po hF (mulP F (shL c (R.length - D.length)) D)
 have hM:=mulP_po hF (shL c (R.length - D.length)) D
 refine ⟨ht,?_,?_⟩
 ·have:=cn_len (addP_po hF hR.el hN.el).cn (n:=R.length - 1) (fun i hi=>by
   rw [fn_addP hF hR.el hN.el]
   show F.add (fn R i) (fn (negP F (mulP F (shL c (R.length - D.length)) D)) i) = 0
   rw [fn_negP hF]
   by_cases e : i = R.length - 1
   ·rw [e,hmt]; exact hF.add_neg _
   ·rw [fn_ge (l:=R) (by omega),fn_ge (l:=mulP F (shL c (R.length - D.length)) D) (by rw [hml]; omega),hF.neg_zero]
    exact hF.add_zero hF.zero_lt)
  have:=List.length_pos_iff.2 hr
  omega
 ·rw [← inv,mulP_addP hF hQ.el ht.el hD.el]
  refine (addP_po hF (addP_po hF (mulP_po hF _ _).el hM.el).el (addP_po hF hR.el hN.el).el).ext (addP_po hF (mulP_po hF _ _).el hR.el) ?_
  rw [fn_addP hF (addP_po hF (mulP_po hF _ _).el hM.el).el (addP_po hF hR.el hN.el).el,fn_addP hF (mulP_po hF _ _).el hM.el,fn_addP hF hR.el hN.el,fn_addP hF (mulP_po hF _ _).el hR.el,pa_swap hF]
  have : pa F (fn (mulP F (shL c (R.length - D.length)) D)) (fn (negP F (mulP F (shL c (R.length - D.length)) D))) = pz:=funext fun i=>by
   show F.add _ (fn (negP F _) i) = 0
   rw [fn_negP hF]
   exact hF.add_neg _
  rw [this]
  exact pa_zero hF (el_a hF _ _)
end
end Go.Fl
/- Polynomials: the sum of multiples that are 1 at one place and 0 at the others. -/
namespace Go.Fl
set_option linter.unusedVariables false
set_option linter.unusedSectionVars false
variable {F : Gf}
def facL (F : Gf) (a b : Nat) : List Nat:=[F.mul (F.neg b) (F.inv (F.sub a b)),F.inv (F.sub a b)]
section
variable (hF : Ok F)
include hF
theorem facL_in (a b : Nat) : In F (facL F a b):=In.cons (hF.mul_lt _ _) (In.cons (hF.inv_lt _) In.nil)
theorem facL_ev {a b v : Nat} (hv : v < F.q) (hb : b < F.q) : ev F v (facL F a b) = F.mul (F.inv (F.sub a b)) (F.sub v b):=by
 show F.add (F.mul (F.add (F.mul 0 v) (F.inv (F.sub a b))) v) (F.mul (F.neg b) (F.inv (F.sub a b))) = _
 have hi:=hF.inv_lt (F.sub a b)
 rw [Ok.z_mul,hF.zero_add hi,Ok.mul_comm (F.neg b),← hF.mul_add hv (hF.neg_lt b) hi]
 rfl
theorem facL_one {a b : Nat} (ha : a < F.q) (hb : b < F.q) (hne : a ≠ b) : ev F a (facL F a b) = 1:=by
 rw [facL_ev hF ha hb,Ok.mul_comm]
 exact hF.mul_inv (hF.add_lt _ _) (fun e=>hne (sub_zero_of hF ha hb e))
theorem facL_zero {a b : Nat} (hb : b < F.q) : ev F b (facL F a b) = 0:=by rw [facL_ev hF hb hb,hF.sub_self hb,Ok.mul_z]
theorem mul_fac_len {T : List Nat} (hT : In F T) (a b : Nat) (h1 : 0 < T.length) : (mulP F T (facL F a b)).length ≤ T.length + 1:=
 cn_len (mulP_po hF _ _).cn (fun i hi=>by
  rw [fn_mulP hF]
  exact pm_ge hF (n:=2) (fun j hj=>fn_ge (l:=facL F a b) (by show 2 ≤ j; exact hj)) i (by omega) (.inr (by decide)))
end
structure InI (F : Gf) (X : List Nat) (y i k : Nat) (T : List Nat) : Prop where
 el : In F T
 len : T.length ≤ (if i < k then k else k + 1)
 pos : 0 < T.length ∨ True
 here : ev F (X.getD i 0) T = y
 zero : ∀ j,j < k → j ≠ i → ev F (X.getD j 0) T = 0
 dif : ∀ j,j < k → j ≠ i → X.getD j 0 ≠ X.getD i 0
structure InO (F : Gf) (X Y : List Nat) (n i : Nat) (S : List Nat) : Prop where
 po : Po F S
 len : S.length ≤ n
 here : ∀ j,j < i → ev F (X.getD j 0) S = Y.getD j 0
 zero : ∀ j,i ≤ j → j < n → ev F (X.getD j 0) S = 0
 dif : ∀ m,m < i → ∀ j,j < n → j ≠ m → X.getD j 0 ≠ X.getD m 0
section
variable (hF : Ok F) {X Y : List Nat} (hX : In F X) (hY : In F Y)
include hF
theorem InI.start {y i : Nat} (hy : y < F.q) : InI F X y i 0 [y]:=
 ⟨In.cons hy In.nil,by simp,.inr trivial,by
  show F.add (F.mul 0 _) y = y
  rw [Ok.z_mul,hF.zero_add hy],fun j h=>by omega,fun j h=>by omega⟩
include hX
theorem InI.step {y i k : Nat} {T : List Nat} (hT : InI F X y i k T) (hy : y < F.q) (hki : k ≠ i) (hne : X.getD k 0 ≠ X.getD i 0) : InI F X y i (k + 1) (mulP F T (facL F (X.getD i 0) (X.getD k 0))):=by
 have hl:=facL_in hF (X.getD i 0) (X.getD k 0)
 have qx : ∀ j,X.getD j 0 < F.q:=fun j=>hX.get hF j
 refine ⟨(mulP_po hF _ _).el,?_,.inr trivial,?_,fun j hj hji=>?_,fun j hj hji=>?_⟩
 ·have h:=hT.len
  have h2 : (mulP F T (facL F (X.getD i 0) (X.getD k 0))).length ≤ T.length + 1:=by
   rcases Nat.eq_zero_or_pos T.length with e | e
   ·rw [List.length_eq_zero_iff.1 e,nil_mulP hF]; simp
   ·exact mul_fac_len hF hT.el _ _ e
  by_cases h1 : i < k
  ·rw [if_pos h1] at h; rw [if_pos (by omega)]; omega
  ·rw [if_neg h1] at h; rw [if_neg (by omega)]; omega
 ·rw [ev_mulP hF (qx i) hT.el hl,hT.here,facL_one hF (qx i) (qx k) (fun e=>hne e.symm),hF.mul_one hy]
 ·rw [ev_mulP hF (qx j) hT.el hl]
  by_cases e : j = k
  ·rw [e,facL_zero hF (qx k),Ok.mul_z]
  ·rw [hT.zero j (by omega) hji,Ok.z_mul]
 ·by_cases e : j = k
  ·rw [e]; exact hne
  ·exact hT.dif j (by omega) hji
omit hF hX in
theorem InI.skip {y i : Nat} {T : List Nat} (hT : InI F X y i i T) : InI F X y i (i + 1) T:=
 ⟨hT.el,by have h:=hT.len; rw [if_neg (by omega)] at h; rw [if_pos (by omega)]; exact h,.inr trivial,hT.here,fun j hj hji=>hT.zero j (by omega) hji,fun j hj hji=>hT.dif j (by omega) hji⟩
omit hX in
theorem InO.start (n : Nat) : InO F X Y n 0 []:=⟨Po.nil,Nat.zero_le _,fun j h=>by omega,fun j _ _=>rfl,fun m h=>by omega⟩
include hY
theorem InO.step {n i : Nat} {S T : List Nat} (hS : InO F X Y n i S) (hi : i < n) (hT : InI F X (Y.getD i 0) i n T) : InO F X Y n (i + 1) (addP F S T):=by
 have qx : ∀ j,X.getD j 0 < F.q:=fun j=>hX.get hF j
 refine ⟨addP_po hF hS.po.el hT.el,?_,fun j hj=>?_,fun j h1 h2=>?_,fun m hm j hj hjm=>?_⟩
 ·have h:=hT.len
  rw [if_pos hi] at h
  have:=addP_len hF S T
  have:=hS.len
  omega
 ·rw [ev_addP hF (qx j) hS.po.el hT.el]
  by_cases e : j = i
  ·rw [e,hS.zero i (Nat.le_refl _) hi,hT.here,hF.zero_add (hY.get hF i)]
  ·rw [hS.here j (by omega),hT.zero j (by omega) e,hF.add_zero (hY.get hF j)]
 ·rw [ev_addP hF (qx j) hS.po.el hT.el,hS.zero j (by omega) h2,hT.zero j h2 (by omega),hF.add_zero hF.zero_lt]
 ·by_cases e : m = i
  ·rw [e] at hjm ⊢; exact hT.dif j hj hjm
  ·exact hS.dif m (by omega) j hj hjm
omit hF hX hY in
theorem InO.nodup {n : Nat} {S : List Nat} (hS : InO F X Y n n S) (hn : X.length = n) : X.Nodup:=by
 rw [List.Nodup,List.pairwise_iff_getElem]
 intro i j hi hj hij e
 refine hS.dif i (by omega) j (by omega) (by omega) ?_
 rw [List.getD_eq_getElem?_getD,List.getD_eq_getElem?_getD,List.getElem?_eq_getElem hi,List.getElem?_eq_getElem hj]
 simp [e]
end
end Go.Fl
