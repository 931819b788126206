/- Polynomials over the fields with at most 64 elements: differences, division, common divisors. -/
import Derived.Test.YtllecfhfhcmpaaaEvYp
namespace Go.Fl
set_option linter.unusedVariables false
set_option linter.unusedSectionVars false
variable {F : Gf}
namespace Ok
theorem neg_zero (h : Ok F) : F.neg 0 = 0:=by have:=h.add_neg 0; rwa [h.zero_add (h.neg_lt _)] at this
theorem neg_mul (h : Ok F) {a : Nat} (ha : a < F.q) : F.mul (F.neg 1) a = F.neg a:=by
 have e : F.add a (F.mul (F.neg 1) a) = 0:=by
  have:=h.add_mul h.one_lt (h.neg_lt 1) ha
  rw [h.add_neg,h.one_mul ha,Ok.z_mul] at this
  exact this.symm
 exact h.add_left_cancel (h.mul_lt _ _) (h.neg_lt _) (e.trans (h.add_neg a).symm)
end Ok
def subP (F : Gf) (a b : List Nat) : List Nat:=addP F a (b.map (F.mul (F.neg 1)))
def shN : Nat → Cf → Cf
 | 0,f=>f
 | n + 1,f=>sh (shN n f)
theorem shN_at (f : Cf) : ∀ (n i : Nat),shN n f i = if i < n then 0 else f (i - n)
 | 0,i=>by simp [shN]
 | n + 1,0=>by simp [shN,sh]
 | n + 1,i + 1=>by
  show shN n f i = _
  rw [shN_at f n i]
  by_cases h : i < n
  ·rw [if_pos h,if_pos (by omega)]
  ·rw [if_neg h,if_neg (by omega),show i + 1 - (n + 1) = i - n by omega]
section
variable (hF : Ok F)
include hF
theorem subP_po {a b : List Nat} (ha : In F a) : Po F (subP F a b):=addP_po hF ha (mapL_in hF _ _)
theorem fn_subP {a b : List Nat} (ha : In F a) : fn (subP F a b) = pa F (fn a) (ps F (F.neg 1) (fn b)):=by unfold subP; rw [fn_addP hF ha (mapL_in hF _ _),fn_map hF]
theorem pa_neg {f : Cf} (h : El F f) : pa F f (ps F (F.neg 1) f) = pz:=funext fun i=>by
 show F.add (f i) (F.mul (F.neg 1) (f i)) = 0
 rw [hF.neg_mul (h i)]; exact hF.add_neg _
theorem el_shN {f : Cf} (h : El F f) : ∀ n,El F (shN n f)
 | 0=>h
 | n + 1=>el_h hF (el_shN h n)
theorem pm_set {g : Cf} (hg : El F g) {x : Nat} (hx : x < F.q) : ∀ {l : List Nat} {s : Nat},In F l → s < l.length → l.getD s 0 = 0 → pm F (l.set s x) g = pa F (pm F l g) (shN s (ps F x g))
 | [],s,_,h,_=>by simp at h
 | y :: l,0,hl,_,h0=>by
  have : y = 0:=h0
  subst this
  show pa F (ps F x g) (sh (pm F l g)) = pa F (pa F (ps F 0 g) (sh (pm F l g))) (ps F x g)
  rw [z_ps hF,zero_pa hF (el_h hF (el_m hF _ _)),pa_comm hF]
 | y :: l,s + 1,hl,h,h0=>by
  show pa F (ps F y g) (sh (pm F (l.set s x) g)) = pa F (pa F (ps F y g) (sh (pm F l g))) (sh (shN s (ps F x g)))
  rw [pm_set hg hx hl.tail (by simpa using h) (by simpa using h0),sh_pa hF,pa_assoc hF]
structure DM (F : Gf) (a b Q R : List Nat) : Prop where
 q : Po F Q
 r : Po F R
 eq : fn a = pa F (pm F Q (fn b)) (fn R)
 len : R.length < b.length
theorem pa_cancel {f g k : Cf} (hg : El F g) (hk : El F k) (e : pa F f g = pa F f k) : g = k:=funext fun i=>hF.add_left_cancel (hg i) (hk i) (congrFun e i)
theorem DM.uniq {a b Q R Q' R' : List Nat} (hb : Po F b) (h : DM F a b Q R) (h' : DM F a b Q' R') : Q = Q' ∧ R = R':=by
 have hbn : b ≠ []:=fun e=>by have:=h.len; rw [e] at this; simp at this
 have hD:=subP_po hF (a:=Q) (b:=Q') h.q.el
 have key : pm F (subP F Q Q') (fn b) = pa F (fn R') (ps F (F.neg 1) (fn R)):=by
  have e1:=h.eq.symm.trans h'.eq
  rw [pm_congr hF hD.el (addL_in hF h.q.el (mapL_in hF (F.neg 1) Q')) (by rw [fn_subP hF h.q.el,fn_addL hF h.q.el (mapL_in hF _ _),fn_map hF]) hb.el,pm_addL hF h.q.el (mapL_in hF _ _) (hb.el.el hF),pm_map hF (hF.neg_lt 1)]
  funext i
  have e2:=congrFun e1 i
  have l1 : pm F Q (fn b) i < F.q:=el_m hF _ _ i
  have l2 : pm F Q' (fn b) i < F.q:=el_m hF _ _ i
  have l3 : fn R i < F.q:=h.r.el.el hF i
  have l4 : fn R' i < F.q:=h'.r.el.el hF i
  show F.add (pm F Q (fn b) i) (F.mul (F.neg 1) (pm F Q' (fn b) i)) = F.add (fn R' i) (F.mul (F.neg 1) (fn R i))
  have e3 : F.add (pm F Q (fn b) i) (fn R i) = F.add (pm F Q' (fn b) i) (fn R' i):=e2
  rw [hF.neg_mul l2,hF.neg_mul l3]
  generalize pm F Q (fn b) i = x at *
  generalize pm F Q' (fn b) i = y at *
  generalize fn R i = u at *
  generalize fn R' i = v at *
  have k1 : x = F.sub (F.add y v) u:=(hF.sub_eq (hF.add_lt _ _) l1 e3).symm
  rw [k1]
  unfold Gf.sub
  rw [Ok.add_comm y v,hF.add_assoc,hF.add_assoc,Ok.add_comm y,hF.add_assoc,Ok.add_comm (F.neg y),hF.add_neg,hF.add_zero (hF.neg_lt _)]
 have hz : subP F Q Q' = []:=by
  rcases Decidable.em (subP F Q Q' = []) with hz | hz
  ·exact hz
  ·exfalso
   have h1:=mulP_top hF hD hb hz hbn
   have hne:=hF.mul_ne (cn_last hD.cn hz) (cn_last hb.cn hbn)
   rw [← h1,fn_mulP hF,key] at hne
   apply hne
   have hlb:=List.length_pos_iff.2 hbn
   have:=h.len
   have:=h'.len
   show F.add (fn R' _) (F.mul _ (fn R _)) = 0
   rw [fn_ge (l:=R') (by omega),fn_ge (l:=R) (by omega),Ok.mul_z]
   exact hF.add_zero hF.zero_lt
 have hQ : Q = Q':=h.q.ext h'.q (by
  have e:=fn_subP hF (a:=Q) (b:=Q') h.q.el
  rw [hz,fn_nil] at e
  funext i
  have e1:=congrFun e i
  have l2 : fn Q' i < F.q:=h'.q.el.el hF i
  have l1 : fn Q i < F.q:=h.q.el.el hF i
  have e2 : F.add (fn Q i) (F.neg (fn Q' i)) = 0:=by
   have : (0 : Nat) = F.add (fn Q i) (F.mul (F.neg 1) (fn Q' i)):=e1
   rw [hF.neg_mul l2] at this
   exact this.symm
  have:=hF.sub_add l1 (fn Q' i)
  unfold Gf.sub at this
  rw [e2,hF.zero_add l2] at this
  exact this.symm)
 refine ⟨hQ,h.r.ext h'.r ?_⟩
 have e1:=h.eq.symm.trans h'.eq
 rw [hQ] at e1
 exact pa_cancel hF (h.r.el.el hF) (h'.r.el.el hF) e1
structure DL (F : Gf) (a b L Q : List Nat) (s : Nat) : Prop where
 ll : L.length = a.length
 lq : Q.length = a.length - (b.length - 1)
 il : In F L
 iq : In F Q
 low : ∀ t,t < s → Q.getD t 0 = 0
 high : ∀ j,s + (b.length - 1) ≤ j → fn L j = 0
 eq : fn a = pa F (pm F Q (fn b)) (fn L)
theorem pm_zeros (g : Cf) : ∀ n,pm F (List.replicate n 0) g = pz
 | 0=>rfl
 | n + 1=>by
  show pa F (ps F 0 g) (sh (pm F (List.replicate n 0) g)) = pz
  rw [pm_zeros g n,z_ps hF,sh_z hF,pa_zero hF (el_z hF)]
theorem DL.start {a b : List Nat} (ha : In F a) (hb : b ≠ []) : DL F a b a (List.replicate (a.length - (b.length - 1)) 0) (a.length - (b.length - 1)):=by
 refine ⟨rfl,by simp,ha,fun x hx=>by rw [List.eq_of_mem_replicate hx]; exact hF.zero_lt,fun t ht=>by simp [List.getD,ht],fun j hj=>fn_ge (by omega),?_⟩
 rw [pm_zeros hF,zero_pa hF (ha.el hF)]
def stepL (F : Gf) (L b : List Nat) (s x k : Nat) : List Nat:=(List.range L.length).map fun j=>if s ≤ j ∧ j < s + k then F.sub (L.getD j 0) (F.mul x (b.getD (j - s) 0)) else L.getD j 0
theorem stepL_len (L b : List Nat) (s x k : Nat) : (stepL F L b s x k).length = L.length:=by simp [stepL]
theorem stepL_get {L b : List Nat} {s x k j : Nat} : (stepL F L b s x k).getD j 0 = if s ≤ j ∧ j < s + k ∧ j < L.length then F.sub (L.getD j 0) (F.mul x (b.getD (j - s) 0)) else L.getD j 0:=by
 unfold stepL
 by_cases hj : j < L.length
 ·rw [List.getD_eq_getElem?_getD,List.getElem?_map,List.getElem?_range hj]
  simp [hj]
 ·rw [List.getD_eq_getElem?_getD,List.getElem?_eq_none (by simp; omega),List.getD_eq_getElem?_getD,List.getElem?_eq_none (by omega)]
  simp
  intro _ _ h
  omega
theorem stepL_in {L b : List Nat} (hL : In F L) (s x k : Nat) : In F (stepL F L b s x k):=by
 intro y hy
 unfold stepL at hy
 obtain ⟨j,_,rfl⟩:=List.mem_map.1 hy
 split
 ·exact hF.sub_lt _ _
 ·exact hL.get hF j
theorem getD_ext {a b : List Nat} (hl : a.length = b.length) (h : ∀ j,j < a.length → a.getD j 0 = b.getD j 0) : a = b:=by
 apply List.ext_getElem hl
 intro j h1 h2
 have:=h j h1
 simpa [List.getD,h1,h2] using this
theorem stepL_zero (L b : List Nat) (s x : Nat) : stepL F L b s x 0 = L:=
 getD_ext hF (by rw [stepL_len hF]) fun j _=>by rw [stepL_get hF,if_neg (by omega)]
theorem stepL_succ {L b : List Nat} {s x k : Nat} (hk : s + k < L.length) : (stepL F L b s x k).set (s + k) (F.sub (L.getD (s + k) 0) (F.mul x (b.getD k 0))) = stepL F L b s x (k + 1):=by
 refine getD_ext hF (by simp [stepL_len hF]) fun j hj=>?_
 rw [List.length_set,stepL_len hF] at hj
 rw [stepL_get hF (k:=k + 1)]
 by_cases e : j = s + k
 ·subst e
  rw [if_pos (by omega),show s + k - s = k by omega]
  simp [List.getD,stepL_len hF,hk]
 ·have : ((stepL F L b s x k).set (s + k) (F.sub (L.getD (s + k) 0) (F.mul x (b.getD k 0)))).getD j 0 = (stepL F L b s x k).getD j 0:=by
   simp only [List.getD_eq_getElem?_getD]
   rw [List.getElem?_set_ne (by omega)]
  rw [this,stepL_get hF]
  by_cases h1 : s ≤ j ∧ j < s + k ∧ j < L.length
  ·rw [if_pos h1,if_pos (by omega)]
  ·rw [if_neg h1,if_neg (by omega)]
theorem stepL_at {L b : List Nat} {s x k : Nat} (h : s + k < L.length) : (stepL F L b s x k).getD (s + k) 0 = L.getD (s + k) 0:=by rw [stepL_get hF,if_neg (by omega)]
theorem DL.step {a b L Q : List Nat} {s : Nat} (hb : Po F b) (hbn : b ≠ []) (h : DL F a b L Q (s + 1)) (hs : s < Q.length) :
  DL F a b (stepL F L b s (F.mul (L.getD (s + (b.length - 1)) 0) (F.inv (b.getD (b.length - 1) 0))) b.length) (Q.set s (F.mul (L.getD (s + (b.length - 1)) 0) (F.inv (b.getD (b.length - 1) 0)))) s:=by
 have hlb:=List.length_pos_iff.2 hbn
 have hlq:=h.lq
 have hll:=h.ll
 have hxq : F.mul (L.getD (s + (b.length - 1)) 0) (F.inv (b.getD (b.length - 1) 0)) < F.q:=hF.mul_lt _ _
 have htop : F.mul (F.mul (L.getD (s + (b.length - 1)) 0) (F.inv (b.getD (b.length - 1) 0))) (b.getD (b.length - 1) 0) = L.getD (s + (b.length - 1)) 0:=by
  rw [hF.mul_assoc,Ok.mul_comm (F.inv _),hF.mul_inv (hb.el.get hF _) (cn_last hb.cn hbn),hF.mul_one (h.il.get hF _)]
 generalize F.mul (L.getD (s + (b.length - 1)) 0) (F.inv (b.getD (b.length - 1) 0)) = x at *
 refine ⟨by rw [stepL_len hF]; exact hll,by rw [List.length_set]; exact hlq,stepL_in hF h.il _ _ _,fun y hy=>?_,fun t ht=>?_,fun j hj=>?_,?_⟩
 ·rcases List.mem_or_eq_of_mem_set hy with hy | rfl
  ·exact h.iq y hy
  ·exact hxq
 ·have:=h.low t (by omega)
  simp only [List.getD_eq_getElem?_getD] at this ⊢
  rw [List.getElem?_set_ne (by omega)]; exact this
 ·show (stepL F L b s x b.length).getD j 0 = 0
  rw [stepL_get hF]
  by_cases hh : s ≤ j ∧ j < s + b.length ∧ j < L.length
  ·rw [if_pos hh]
   have e : j = s + (b.length - 1):=by omega
   subst e
   rw [show s + (b.length - 1) - s = b.length - 1 by omega,htop]
   exact hF.sub_self (h.il.get hF _)
  ·rw [if_neg hh]
   exact h.high j (by omega)
 ·rw [pm_set hF (hb.el.el hF) hxq h.iq hs (h.low s (by omega)),h.eq,pa_assoc hF]
  congr 1
  funext i
  show fn L i = F.add (shN s (ps F x (fn b)) i) ((stepL F L b s x b.length).getD i 0)
  rw [shN_at,stepL_get hF]
  show L.getD i 0 = _
  by_cases h1 : i < s
  ·rw [if_pos h1,if_neg (by omega),hF.zero_add (h.il.get hF _)]
  ·rw [if_neg h1]
   by_cases h2 : i < s + b.length
   ·rw [if_pos (by omega),Ok.add_comm]
    exact (hF.sub_add (h.il.get hF _) _).symm
   ·rw [if_neg (by omega)]
    show _ = F.add (F.mul x (fn b (i - s))) _
    rw [fn_ge (l:=b) (by omega),Ok.mul_z,hF.zero_add (h.il.get hF _)]
theorem DL.fin {a b L Q : List Nat} (hbn : b ≠ []) (h : DL F a b L Q 0) : DM F a b (trL Q) (trL (L.take (min (b.length - 1) L.length))):=by
 have hlb:=List.length_pos_iff.2 hbn
 refine ⟨Po.tr h.iq,Po.tr (h.il.take _),?_,?_⟩
 ·have e : fn (trL (L.take (min (b.length - 1) L.length))) = fn L:=by
   rw [fn_trL]
   funext i
   by_cases hi : i < min (b.length - 1) L.length
   ·show (List.take _ L).getD i 0 = L.getD i 0
    simp only [List.getD_eq_getElem?_getD]
    rw [List.getElem?_take_of_lt hi]
   ·rw [fn_ge (l:=L.take _) (by rw [List.length_take]; omega)]
    by_cases h2 : i < L.length
    ·exact (h.high i (by omega)).symm
    ·exact (fn_ge (by omega)).symm
  rw [e,h.eq]
  congr 1
  have : ∀ (l : List Nat) (g : Cf),In F l → El F g → pm F l g = pm F (trL l) g:=fun l g hl hg=>by
   induction l with
   | nil=>rfl
   | cons x l ih =>
    unfold trL
    split
    ·rename_i hx
     rw [pm_cons hF,ih hl.tail,hx.1,hx.2,z_ps hF]
     show pa F pz (sh pz) = pz
     rw [sh_z hF,pa_zero hF (el_z hF)]
    ·rw [pm_cons hF,pm_cons hF,ih hl.tail]
  funext i
  by_cases hb : El F (fn b)
  ·rw [this Q (fn b) h.iq hb]
  ·have : ∀ (l : List Nat) (g : Cf),pm F l g = pm F (trL l) g:=fun l g=>by
    induction l with
    | nil=>rfl
    | cons x l ih =>
     unfold trL
     split
     ·rename_i hx
      rw [pm_cons hF,ih,hx.1,hx.2,z_ps hF]
      show pa F pz (sh pz) = pz
      rw [sh_z hF,pa_zero hF (el_z hF)]
     ·rw [pm_cons hF,pm_cons hF,ih]
   rw [this]
 ·have h1:=trL_len (L.take (min (b.length - 1) L.length))
  rw [List.length_take] at h1
  omega
end
end Go.Fl
