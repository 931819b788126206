/- Vector and Valid of the reference: what is one. -/
import Derived.Test.YteeofijcndgbfaaTp
namespace Go.Proofs.Yteeofijcndgbfaa
open Go.RowKit Go.Fl
set_option maxRecDepth 100000
set_option linter.unusedVariables false
set_option linter.unusedSimpArgs false
set_option linter.unusedSectionVars false
end Go.Proofs.Yteeofijcndgbfaa
/- Spans of lists of numbers: what Has, Kernel, Combine say. -/
namespace Go.Proofs.Yteeofijcndgbfaa
open Go.Fl
set_option linter.unusedVariables false
set_option linter.unusedSectionVars false
section
variable {F : Gf} (hF : Ok F)
include hF
theorem zV_iff {n : Nat} {f : Cf} : zV (toV n f) = true ↔ ∀ j,j < n → f j = 0:=by
 unfold zV toV
 rw [List.all_eq_true]
 constructor
 ·intro h j hj
  have:=h (f j) (List.mem_map.2 ⟨j,List.mem_range.2 hj,rfl⟩)
  simpa using this
 ·intro h x hx
  obtain ⟨j,hj,rfl⟩:=List.mem_map.1 hx
  simpa using h j (List.mem_range.1 hj)
theorem ker_iff {n : Nat} {A : List (List Nat)} {V : List Nat} (hA : Mn F n A) (hV : Vn F n V) : Sp F ((kerM F n A).map Go.Fl.fn) (Go.Fl.fn V) ↔ ∀ r ∈ A,dt F n (Go.Fl.fn r) (Go.Fl.fn V) = 0:=by
 obtain ⟨hL,hs,-⟩:=redL_ok hF (hA.vs hF)
 have hv:=hV.fn hF
 rw [(kerM_ok hF hA).2,(kerL_ok hF hL).2.1]
 have eA:=(hA.vs hF).els
 constructor
 ·rintro ⟨-,-,h⟩ r hr
  have h1:=(hs _).2 (Sp.mem hF eA (List.mem_map.2 ⟨r,hr,rfl⟩ : Go.Fl.fn r ∈ A.map Go.Fl.fn))
  exact dt_sp hF hv hL.red.el (fun x hx=>by obtain ⟨a,ha,rfl⟩:=List.mem_map.1 hx; exact h a ha) h1
 ·intro h
  refine ⟨hv,hV.hi,fun a ha=>?_⟩
  have h1:=(hs _).1 (Sp.mem hF hL.red.el (List.mem_map.2 ⟨a,ha,rfl⟩ : a.2 ∈ (redL F n (A.map Go.Fl.fn)).map Prod.snd))
  exact dt_sp hF hv eA (fun x hx=>by obtain ⟨r,hr,rfl⟩:=List.mem_map.1 hx; exact h r hr) h1
theorem rank_null {n : Nat} {A : List (List Nat)} (hA : Mn F n A) : (kerM F n A).length + (redM F n A).length = n:=by
 obtain ⟨hL,-,-⟩:=redL_ok hF (hA.vs hF)
 have:=(kerL_ok hF hL).2.2
 unfold kerM redM
 rw [List.length_map,List.length_map]; exact this
theorem redM_red {n : Nat} {A : List (List Nat)} (hA : Mn F n A) : Red F n (pivM F n A) ((redM F n A).map Go.Fl.fn):=by
 obtain ⟨-,hL,e⟩:=redM_ok hF hA
 rw [e]; exact hL.red
theorem redL_self {n : Nat} {L : List (Nat × Cf)} (h : RedL F n L) : redL F n (L.map Prod.snd) = L:=by
 obtain ⟨h1,h2,-⟩:=redL_ok hF (RedL.vs hF h)
 exact RedL.ext hF h1 h h2
end
end Go.Proofs.Yteeofijcndgbfaa
/- Joins and meets as matrices. -/
namespace Go.Proofs.Yteeofijcndgbfaa
open Go.RowKit Go.Fl
set_option linter.unusedVariables false
set_option linter.unusedSectionVars false
section
variable {F : Gf} (hF : Ok F)
include hF
theorem redM_sp {n : Nat} {A : List (List Nat)} (hA : Mn F n A) (v : Cf) : Sp F ((redM F n A).map Go.Fl.fn) v ↔ Sp F (A.map Go.Fl.fn) v:=by
 obtain ⟨-,-,e⟩:=redM_ok hF hA
 rw [e]
 exact (redL_ok hF (hA.vs hF)).2.1 v
end
end Go.Proofs.Yteeofijcndgbfaa
/- The inverse matrix. -/
namespace Go.Proofs.Yteeofijcndgbfaa
open Go.Fl
set_option linter.unusedVariables false
set_option linter.unusedSectionVars false
abbrev eL (n k : Nat) : List Nat:=(List.replicate n 0).set k 1
theorem eL_fn {n k : Nat} (hk : k < n) : Go.Fl.fn (eL n k) = un k:=funext fun j=>by
 show (List.set _ _ _).getD j 0 = if j = k then 1 else 0
 rw [List.getD_eq_getElem?_getD,List.getElem?_set]
 by_cases h : k = j
 ·subst h; rw [if_pos rfl,if_pos rfl]; simp [hk]
 ·rw [if_neg h,if_neg (fun e=>h e.symm),List.getElem?_replicate]; split <;> rfl
theorem idM_get {n i k : Nat} (hk : k < i) : (idM n i).getD k [] = eL n k:=by
 unfold idM
 rw [List.getD_eq_getElem?_getD,List.getElem?_map,List.getElem?_range hk]; rfl
theorem pw_len : ∀ {P : List Nat} {a b : Nat},P.Pairwise (· < ·) → (∀ p ∈ P,a ≤ p ∧ p < b) → P.length ≤ b - a
 | [],_,_,_,_=>Nat.zero_le _
 | p :: P,a,b,h,k=>by
  rw [List.pairwise_cons] at h
  have h1:=k p (by simp)
  have:=pw_len (a:=p + 1) (b:=b) h.2 fun x hx=>⟨h.1 x hx,(k x (by simp [hx])).2⟩
  rw [List.length_cons]; omega
theorem pw_range : ∀ {P : List Nat} {a : Nat},P.Pairwise (· < ·) → (∀ p ∈ P,a ≤ p ∧ p < a + P.length) → P = List.range' a P.length
 | [],_,_,_=>rfl
 | p :: P,a,h,k=>by
  rw [List.pairwise_cons] at h
  rw [List.length_cons] at k ⊢
  have h1:=k p (by simp)
  have h2:=pw_len (a:=p + 1) (b:=a + (P.length + 1)) h.2 fun x hx=>⟨h.1 x hx,(k x (by simp [hx])).2⟩
  obtain rfl : p = a:=by omega
  rw [List.range'_succ]
  congr 1
  exact pw_range h.2 fun x hx=>⟨h.1 x hx,by have:=(k x (by simp [hx])).2; omega⟩
theorem pw_all {P : List Nat} {n : Nat} (h : P.Pairwise (· < ·)) (k : ∀ p ∈ P,p < n) (hl : P.length = n) : P = List.range n:=by
 have:=pw_range (a:=0) h fun p hp=>⟨Nat.zero_le _,by have:=k p hp; omega⟩
 rw [this,hl,List.range_eq_range']
abbrev hf (n : Nat) (f : Cf) : Cf:=fun j=>f (n + j)
def sg (n : Nat) (f : Cf) : Cf:=fun j=>if j < n then f (n + j) else if j < n + n then f (j - n) else 0
section
variable {F : Gf} (hF : Ok F)
include hF
theorem lin_sp {n : Nat} {g h : Cf} (hg : El F g) (hh : El F h) {R : List Cf} (hR : Els F R) (H : ∀ r ∈ R,dt F n r g = dt F n (hf n r) h) {v : Cf} (hv : Sp F R v) : dt F n v g = dt F n (hf n v) h:=by
 obtain ⟨c,hc,rfl⟩:=hv
 induction R generalizing c with
 | nil =>
  show dt F n pz g = dt F n pz h
  rw [dt_z hF,dt_z hF]
 | cons r R ih =>
  have h1:=ih (fun x hx=>hR x (by simp [hx])) (fun x hx=>H x (by simp [hx])) (fun i=>c (i + 1)) (fun i=>hc (i + 1))
  show dt F n (pa F (ps F (c 0) r) (cb F R fun i=>c (i + 1))) g = dt F n (pa F (ps F (c 0) (hf n r)) (hf n (cb F R fun i=>c (i + 1)))) h
  have e1 : El F (hf n (cb F R fun i=>c (i + 1))):=fun i=>cb_el hF _ _ _
  rw [dt_pa hF (el_s hF _ _) (cb_el hF _ _) hg,dt_pa hF (el_s hF _ _) e1 hh,dt_ps hF (hc 0),dt_ps hF (hc 0),h1,H r (by simp)]
theorem cb_sg (n : Nat) : ∀ (R : List Cf) (a : Cf),cb F (R.map (sg n)) a = sg n (cb F R a)
 | [],a=>funext fun j=>by
  show 0 = sg n pz j
  unfold sg
  split
  ·rfl
  ·split <;> rfl
 | r :: R,a=>by
  show pa F (ps F (a 0) (sg n r)) (cb F (R.map (sg n)) fun i=>a (i + 1)) = sg n (pa F (ps F (a 0) r) (cb F R fun i=>a (i + 1)))
  rw [cb_sg n R]
  funext j
  show F.add (F.mul (a 0) (sg n r j)) (sg n _ j) = sg n _ j
  unfold sg
  split
  ·rfl
  ·split
   ·rfl
   ·rw [Ok.mul_z]; exact hF.add_zero hF.zero_lt
theorem sp_sg {n : Nat} {R : List Cf} {v : Cf} (h : Sp F R v) : Sp F (R.map (sg n)) (sg n v):=by
 obtain ⟨c,hc,rfl⟩:=h
 exact ⟨c,hc,cb_sg hF n R c⟩
omit hF in
theorem bes_at {A B : List (List Nat)} {n k : Nat} (la : A.length = n) (lb : B.length = n) (ma : Mn F n A) (hk : k < n) (j : Nat) : Go.Fl.fn ((besM A B).getD k []) j = if j < n then Go.Fl.fn (A.getD k []) j else Go.Fl.fn (B.getD k []) (j - n):=by
 rw [besM_get (by omega) (by omega),fn_app,(mrow ma (by omega)).len]
omit hF in
theorem map_getD' {M : List (List Nat)} {k : Nat} : (M.map Go.Fl.fn).getD k pz = Go.Fl.fn (M.getD k []):=map_fn_get
omit hF in
theorem mem_at {M : List (List Nat)} {r : Cf} (h : r ∈ M.map Go.Fl.fn) : ∃ k,k < M.length ∧ r = Go.Fl.fn (M.getD k []):=by
 obtain ⟨x,hx,rfl⟩:=List.mem_map.1 h
 obtain ⟨k,hk,rfl⟩:=List.getElem_of_mem hx
 exact ⟨k,hk,by rw [List.getD_eq_getElem?_getD,List.getElem?_eq_getElem hk]; rfl⟩
theorem bes_sg {A B : List (List Nat)} {n k : Nat} (la : A.length = n) (lb : B.length = n) (ma : Mn F n A) (mb : Mn F n B) (hk : k < n) : sg n (Go.Fl.fn ((besM A B).getD k [])) = Go.Fl.fn ((besM B A).getD k []):=funext fun j=>by
 rw [bes_at lb la mb hk]
 unfold sg
 rw [bes_at la lb ma hk,bes_at la lb ma hk]
 split
 ·rw [if_neg (by omega),show n + j - n = j by omega]
 ·split
  ·rw [if_pos (by omega)]
  ·rw [fn_ge (by rw [(mrow ma (by omega)).len]; omega)]
theorem sp_turn {A B C D : List (List Nat)} {n : Nat} (la : A.length = n) (lb : B.length = n) (lc : C.length = n) (ld : D.length = n) (ma : Mn F n A) (mb : Mn F n B) (mc : Mn F n C) (md : Mn F n D)
  (h : ∀ v,Sp F ((besM A B).map Go.Fl.fn) v → Sp F ((besM C D).map Go.Fl.fn) v) (v : Cf) (hv : Sp F ((besM B A).map Go.Fl.fn) v) : Sp F ((besM D C).map Go.Fl.fn) v:=by
 have e1:=((besM_mn la lb ma mb).vs hF).els
 have e2:=((besM_mn ld lc md mc).vs hF).els
 have e3 : ((besM C D).map Go.Fl.fn).map (sg n) = (besM D C).map Go.Fl.fn:=by
  rw [List.map_map]
  apply List.ext_getElem (by rw [List.length_map,List.length_map,besM_len lc ld,besM_len ld lc])
  intro k h1 h2
  rw [List.length_map,besM_len lc ld] at h1
  have:=bes_sg hF lc ld mc md h1
  rw [List.getD_eq_getElem?_getD,List.getElem?_eq_getElem (by rw [besM_len lc ld]; exact h1),List.getD_eq_getElem?_getD,List.getElem?_eq_getElem (by rw [besM_len ld lc]; exact h1)] at this
  rw [List.getElem_map,List.getElem_map]; exact this
 refine Sp.le hF e2 (fun r hr=>?_) hv
 obtain ⟨k,hk,rfl⟩:=mem_at hr
 rw [besM_len lb la] at hk
 rw [← bes_sg hF la lb ma mb hk,← e3]
 refine sp_sg hF (h _ ?_)
 rw [← map_getD']
 exact Sp.get hF e1 (by rw [List.length_map,besM_len la lb]; exact hk)
theorem bes_redL {C : List (List Nat)} {n : Nat} (lc : C.length = n) (mc : Mn F n C) : RedL F (n + n) ((List.range n).map fun k=>(k,Go.Fl.fn ((besM (idM n n) C).getD k []))):=by
 have hi:=idM_mn hF n n
 have hm:=besM_mn (idM_len n n) lc hi mc
 have hl:=besM_len (idM_len n n) lc
 have hat : ∀ k,k < n → ∀ j,j < n → Go.Fl.fn ((besM (idM n n) C).getD k []) j = if j = k then 1 else 0:=fun k hk j hj=>by
  rw [bes_at (idM_len n n) lc hi hk,if_pos hj,idM_get hk,eL_fn hk]; rfl
 constructor
 ·rw [List.pairwise_map]
  refine List.Pairwise.imp_of_mem ?_ (List.pairwise_lt_range (n:=n))
  intro a b ha hb hab
  have ha:=List.mem_range.1 ha
  have hb:=List.mem_range.1 hb
  refine ⟨hab,?_,?_⟩
  ·show Go.Fl.fn _ b = 0
   rw [hat a ha b hb,if_neg (by omega)]
  ·show Go.Fl.fn _ a = 0
   rw [hat b hb a ha,if_neg (by omega)]
 ·intro a ha
  obtain ⟨k,hk,rfl⟩:=List.mem_map.1 ha
  have hk:=List.mem_range.1 hk
  have hv:=mrow hm (k:=k) (by omega)
  exact ⟨by show k < n + n; omega,hv.fn hF,by show Go.Fl.fn _ k = 1; rw [hat k hk k hk,if_pos rfl],fun j hj=>by
   have hj : j < k:=hj
   show Go.Fl.fn _ j = 0
   rw [hat k hk j (by omega),if_neg (by omega)],hv.hi⟩
omit hF in
theorem rg_snd {M : List (List Nat)} {n : Nat} (hl : M.length = n) : ((List.range n).map fun k=>(k,Go.Fl.fn (M.getD k []))).map Prod.snd = M.map Go.Fl.fn:=by
 rw [List.map_map]
 apply List.ext_getElem (by simp [hl])
 intro k h1 h2
 rw [List.length_map] at h2
 simp [List.getD_eq_getElem?_getD,List.getElem?_eq_getElem h2]
omit hF in
theorem rg_fst {n : Nat} {f : Nat → Cf} : ((List.range n).map fun k=>(k,f k)).map Prod.fst = List.range n:=by
 rw [List.map_map]
 exact List.map_id _
theorem bes_red {C U : List (List Nat)} {n : Nat} (lc : C.length = n) (mc : Mn F n C) (hU : Mn F (n + n) U) (hs : ∀ v,Sp F ((besM (idM n n) C).map Go.Fl.fn) v ↔ Sp F (U.map Go.Fl.fn) v) : besM (idM n n) C = redM F (n + n) U:=by
 have h:=(bes_redL hF lc mc).red
 rw [rg_snd (besM_len (idM_len n n) lc),rg_fst] at h
 exact (redM_of hF hU (fun r hr=>(besM_mn (idM_len n n) lc (idM_mn hF n n) mc r hr).len) h hs).1
omit hF in
theorem bes_drop {A B : List (List Nat)} {n : Nat} (la : A.length = n) (lb : B.length = n) (ma : Mn F n A) : (besM A B).map (List.drop n) = B:=by
 apply List.ext_getElem (by rw [List.length_map,besM_len la lb,lb])
 intro k h1 h2
 rw [List.length_map,besM_len la lb] at h1
 have:=besM_get (A:=A) (B:=B) (k:=k) (by omega) (by omega)
 rw [List.getD_eq_getElem?_getD,List.getElem?_eq_getElem (by rw [besM_len la lb]; exact h1)] at this
 rw [List.getElem_map,show (besM A B)[k]'(by rw [besM_len la lb]; exact h1) = A.getD k [] ++ B.getD k [] from this,List.drop_left' (mrow ma (by omega)).len,List.getD_eq_getElem?_getD,List.getElem?_eq_getElem h2]; rfl
theorem sp_unit {A : List (List Nat)} {n k : Nat} (hA : Mn F n A) (hp : (pivM F n A).length = n) (hk : k < n) : Sp F (A.map Go.Fl.fn) (un k):=by
 have h:=redM_red hF hA
 have hP:=pw_all h.lt h.bd hp
 have hl:=h.len
 rw [hp] at hl
 rw [hP] at h
 rw [← redM_sp hF hA]
 have e : ((redM F n A).map Go.Fl.fn).getD k pz = un k:=funext fun j=>by
  rcases Nat.lt_or_ge j n with hj | hj
  ·have:=h.pv j (by omega) k (by omega)
   rw [List.getD_eq_getElem?_getD (l:=List.range n),List.getElem?_range hj] at this
   rw [show ((some j).getD 0) = j from rfl] at this
   rw [this]; unfold un; by_cases e : k = j
   ·rw [if_pos e,if_pos e.symm]
   ·rw [if_neg e,if_neg (fun h=>e h.symm)]
  ·rw [h.hi (((redM F n A).map Go.Fl.fn).getD k pz) (by rw [List.getD_eq_getElem?_getD,List.getElem?_eq_getElem (by omega)]; exact List.getElem_mem _) j hj]
   unfold un; rw [if_neg (by omega)]
 rw [← e]
 exact Sp.get hF h.el (by omega)
theorem inv_some {A : List (List Nat)} {n : Nat} (hA : Mn F n A) (la : A.length = n) (hp : (pivM F n A).length = n) : ∃ B,invM F n A = some B ∧ Mn F n B ∧ B.length = n ∧ ∀ v,Sp F ((besM (idM n n) B).map Go.Fl.fn) v ↔ Sp F ((besM A (idM n n)).map Go.Fl.fn) v:=by
 have hi:=idM_mn hF n n
 have hT:=besM_mn la (idM_len n n) hA hi
 have hTl:=besM_len la (idM_len n n)
 have hex : ∀ k,∃ w,k < n → Sp F ((besM A (idM n n)).map Go.Fl.fn) w ∧ cut n w = un k:=fun k=>by
  by_cases hk : k < n
  ·have h:=sp_unit hF hA hp hk
   rw [← besM_cut la (idM_len n n) hA,sp_cut hF] at h
   obtain ⟨w,h⟩:=h
   exact ⟨w,fun _=>h⟩
  ·exact ⟨pz,fun h=>absurd h hk⟩
 obtain ⟨w,hw⟩:=Classical.axiomOfChoice hex
 have hB : Mn F n ((List.range n).map fun k=>toV n (hf n (w k))):=fun r hr=>by
  obtain ⟨k,hk,rfl⟩:=List.mem_map.1 hr
  exact toV_vn fun j=>(hw k (List.mem_range.1 hk)).1.el hF _
 have lB : ((List.range n).map fun k=>toV n (hf n (w k))).length = n:=by simp
 have gB : ∀ k,k < n → ((List.range n).map fun k=>toV n (hf n (w k))).getD k [] = toV n (hf n (w k)):=fun k hk=>by
  rw [List.getD_eq_getElem?_getD,List.getElem?_map,List.getElem?_range hk]; rfl
 generalize ((List.range n).map fun k=>toV n (hf n (w k))) = B at hB lB gB
 have hfw : ∀ k,k < n → Go.Fl.fn ((besM (idM n n) B).getD k []) = w k:=fun k hk=>funext fun j=>by
  rw [bes_at (idM_len n n) lB hi hk,gB k hk,idM_get hk,eL_fn hk]
  obtain ⟨h1,h2⟩:=hw k hk
  by_cases hj : j < n
  ·rw [if_pos hj,← h2,cut_at _ hj]
  ·rw [if_neg hj]
   by_cases hj2 : j - n < n
   ·show (toV n _).getD _ _ = _
    rw [toV_get _ hj2]; show w k (n + (j - n)) = _; rw [show n + (j - n) = j by omega]
   ·rw [fn_ge (by rw [toV_len]; omega),Sp.hi hF (hT.vs hF) h1 j (by omega)]
 have hL:=bes_redL hF lB hB
 have e1:=rg_snd (M:=besM (idM n n) B) (besM_len (idM_len n n) lB)
 have h1 : ∀ v,Sp F ((besM (idM n n) B).map Go.Fl.fn) v → Sp F ((besM A (idM n n)).map Go.Fl.fn) v:=fun v hv=>by
  refine Sp.le hF (hT.vs hF).els (fun r hr=>?_) hv
  obtain ⟨k,hk,rfl⟩:=mem_at hr
  rw [besM_len (idM_len n n) lB] at hk
  rw [hfw k hk]; exact (hw k hk).1
 have hs : ∀ v,Sp F ((besM (idM n n) B).map Go.Fl.fn) v ↔ Sp F ((besM A (idM n n)).map Go.Fl.fn) v:=fun v=>⟨h1 v,fun hv=>by
  have:=hL.fill hF (hT.vs hF).els (fun v hv=>h1 v (by rw [← e1]; exact hv)) (by simp [hTl]) hv
  rwa [e1] at this⟩
 refine ⟨B,?_,hB,lB,hs⟩
 unfold invM
 rw [if_neg (by omega),← bes_red hF lB hB hT hs,bes_drop (idM_len n n) lB hi]
end
abbrev clM (A : List (List Nat)) (i : Nat) : List Nat:=A.map fun r=>r.getD i 0
def tuM (n : Nat) (A : List (List Nat)) : List (List Nat):=(List.range n).map (clM A)
theorem tuM_len (n : Nat) (A : List (List Nat)) : (tuM n A).length = n:=by simp [tuM]
theorem tuM_get {n i : Nat} {A : List (List Nat)} (hi : i < n) : (tuM n A).getD i [] = clM A i:=by
 unfold tuM; rw [List.getD_eq_getElem?_getD,List.getElem?_map,List.getElem?_range hi]; rfl
section
variable {F : Gf} (hF : Ok F)
include hF
theorem clM_vn {A : List (List Nat)} {n m : Nat} (hA : Mn F n A) (la : A.length = m) (i : Nat) : Vn F m (clM A i):=⟨by simp [la],fun x hx=>by
 obtain ⟨r,hr,rfl⟩:=List.mem_map.1 hx
 exact (hA r hr).el.get hF i⟩
theorem dt_un {n k : Nat} {f : Cf} (hf : El F f) (hk : k < n) : dt F n (un k) f = f k:=by
 unfold dt
 rw [sm_one hF (f:=fun j=>F.mul (un k j) (f j)) (fun j=>hF.mul_lt _ _) (x:=k) List.nodup_range (List.mem_range.2 hk) (fun y _ h=>by
  show F.mul (if y = k then 1 else 0) (f y) = 0
  rw [if_neg h,Ok.z_mul])]
 show F.mul (if k = k then 1 else 0) (f k) = f k
 rw [if_pos rfl,hF.one_mul (hf k)]
omit hF in
theorem apM_len (n : Nat) (A : List (List Nat)) (V : List Nat) : (apM F n A V).length = A.length:=by simp [apM]
omit hF in
theorem apM_get {n k : Nat} {A : List (List Nat)} {V : List Nat} (hk : k < A.length) : (apM F n A V).getD k 0 = dt F n (Go.Fl.fn (A.getD k [])) (Go.Fl.fn V):=by
 unfold apM
 rw [List.getD_eq_getElem?_getD,List.getElem?_map,List.getD_eq_getElem?_getD,List.getElem?_eq_getElem hk]; rfl
theorem apM_vn {n m : Nat} {A : List (List Nat)} (la : A.length = m) (V : List Nat) : Vn F m (apM F n A V):=⟨by rw [apM_len,la],fun x hx=>by
 obtain ⟨r,_,rfl⟩:=List.mem_map.1 hx
 exact dt_lt hF _ _ _⟩
theorem apM_unit {n i : Nat} {A : List (List Nat)} (hA : Mn F n A) (hi : i < n) : apM F n A (eL n i) = clM A i:=by
 unfold apM clM
 refine List.map_congr_left fun r hr=>?_
 rw [eL_fn hi,dt_comm hF,dt_un hF ((hA r hr).fn hF) hi]; rfl
omit hF in
theorem vn_ext {n : Nat} {a b : List Nat} (ha : a.length = n) (hb : b.length = n) (h : ∀ j,j < n → a.getD j 0 = b.getD j 0) : a = b:=by
 apply List.ext_getElem (by omega)
 intro j h1 h2
 have:=h j (by omega)
 rwa [List.getD_eq_getElem?_getD,List.getD_eq_getElem?_getD,List.getElem?_eq_getElem h1,List.getElem?_eq_getElem h2] at this
theorem hf_bes {A B : List (List Nat)} {n k : Nat} (la : A.length = n) (lb : B.length = n) (ma : Mn F n A) (hk : k < n) : hf n (Go.Fl.fn ((besM A B).getD k [])) = Go.Fl.fn (B.getD k []):=funext fun j=>by
 show Go.Fl.fn _ (n + j) = _
 rw [bes_at la lb ma hk,if_neg (by omega),show n + j - n = j by omega]
theorem dt_bes {A B : List (List Nat)} {n k : Nat} (la : A.length = n) (lb : B.length = n) (ma : Mn F n A) (hk : k < n) (g : Cf) : dt F n (Go.Fl.fn ((besM A B).getD k [])) g = dt F n (Go.Fl.fn (A.getD k [])) g:=by
 unfold dt
 refine sm_congr hF fun j hj=>?_
 rw [bes_at la lb ma hk,if_pos (List.mem_range.1 hj)]
theorem inv_left {A B : List (List Nat)} {n : Nat} (hA : Mn F n A) (la : A.length = n) (hB : Mn F n B) (lb : B.length = n) (hs : ∀ v,Sp F ((besM (idM n n) B).map Go.Fl.fn) v ↔ Sp F ((besM A (idM n n)).map Go.Fl.fn) v) {V : List Nat} (hV : Vn F n V) :
  apM F n B (apM F n A V) = V:=by
 have hi:=idM_mn hF n n
 have hT:=besM_mn la (idM_len n n) hA hi
 have hR:=besM_mn (idM_len n n) lb hi hB
 refine vn_ext (by rw [apM_len,lb]) hV.len fun k hk=>?_
 rw [apM_get (by omega)]
 have h:=lin_sp hF (n:=n) (g:=Go.Fl.fn V) (h:=Go.Fl.fn (apM F n A V)) (hV.fn hF) ((apM_vn hF la V).fn hF) (hT.vs hF).els (fun r hr=>by
  obtain ⟨j,hj,rfl⟩:=mem_at hr
  rw [besM_len la (idM_len n n)] at hj
  rw [hf_bes hF la (idM_len n n) hA hj,dt_bes hF la (idM_len n n) hA hj,idM_get hj,eL_fn hj,dt_un hF ((apM_vn hF la V).fn hF) hj]
  exact (apM_get (by omega)).symm)
  ((hs _).1 (Sp.get hF (hR.vs hF).els (i:=k) (by rw [List.length_map,besM_len (idM_len n n) lb]; exact hk)))
 rw [map_getD',hf_bes hF (idM_len n n) lb hi hk,dt_bes hF (idM_len n n) lb hi hk,idM_get hk,eL_fn hk,dt_un hF (hV.fn hF) hk] at h
 exact h.symm
theorem inv_cols {A B : List (List Nat)} {n : Nat} (hA : Mn F n A) (la : A.length = n) (hB : Mn F n B) (lb : B.length = n) (hs : ∀ v,Sp F ((besM (idM n n) B).map Go.Fl.fn) v ↔ Sp F ((besM A (idM n n)).map Go.Fl.fn) v) {i : Nat} (hi : i < n) :
  apM F n B (clM A i) = eL n i:=by
 rw [← apM_unit hF hA hi]
 exact inv_left hF hA la hB lb hs (by have:=mrow (idM_mn hF n n) (k:=i) (by rw [idM_len]; exact hi); rwa [idM_get hi] at this)
theorem inv_turn {A B : List (List Nat)} {n : Nat} (hA : Mn F n A) (la : A.length = n) (hB : Mn F n B) (lb : B.length = n) (hs : ∀ v,Sp F ((besM (idM n n) B).map Go.Fl.fn) v ↔ Sp F ((besM A (idM n n)).map Go.Fl.fn) v) (v : Cf) : Sp F ((besM (idM n n) A).map Go.Fl.fn) v ↔ Sp F ((besM B (idM n n)).map Go.Fl.fn) v:=by
 have hi:=idM_mn hF n n
 have li:=idM_len n n
 exact ⟨sp_turn hF la li li lb hA hi hi hB (fun v=>(hs v).2) v,sp_turn hF li lb la li hi hB hA hi (fun v=>(hs v).1) v⟩
theorem inv_right {A B : List (List Nat)} {n : Nat} (hA : Mn F n A) (la : A.length = n) (hB : Mn F n B) (lb : B.length = n) (hs : ∀ v,Sp F ((besM (idM n n) B).map Go.Fl.fn) v ↔ Sp F ((besM A (idM n n)).map Go.Fl.fn) v) {i : Nat} (hi : i < n) :
  apM F n A (clM B i) = eL n i:=inv_cols hF hB lb hA la (inv_turn hF hA la hB lb hs) hi
end
section
variable {F : Gf} (hF : Ok F)
include hF
omit hF in
theorem clM_at {A : List (List Nat)} {k j : Nat} (hk : k < A.length) : Go.Fl.fn (clM A j) k = (A.getD k []).getD j 0:=by
 show (A.map fun r=>r.getD j 0).getD k 0 = _
 rw [List.getD_eq_getElem?_getD,List.getElem?_map,List.getD_eq_getElem?_getD (l:=A),List.getElem?_eq_getElem hk]; rfl
theorem sp_cols {A : List (List Nat)} {n m : Nat} (hA : Mn F n A) (la : A.length = m) {V : List Nat} (hV : Vn F m V) (h : Sp F ((tuM n A).map Go.Fl.fn) (Go.Fl.fn V)) : ∃ x,Vn F n x ∧ apM F n A x = V:=by
 obtain ⟨c,hc,e⟩:=h
 refine ⟨toV n c,toV_vn hc,vn_ext (by rw [apM_len,la]) hV.len fun k hk=>?_⟩
 rw [apM_get (by omega)]
 have e1 : cb F ((tuM n A).map Go.Fl.fn) c = cb F ((List.range n).map fun j=>Go.Fl.fn (clM A j)) fun i=>c ((List.range n).getD i 0):=by
  unfold tuM
  rw [List.map_map]
  refine cb_congr hF fun i hi=>?_
  rw [List.length_map,List.length_range] at hi
  rw [List.getD_eq_getElem?_getD,List.getElem?_range hi]; rfl
 have e2:=congrFun e k
 rw [e1,cb_sm hF] at e2
 rw [show V.getD k 0 = Go.Fl.fn V k from rfl,← e2,dt_comm hF]
 unfold dt
 refine sm_congr hF fun j hj=>?_
 rw [clM_at (by omega)]
 show F.mul ((toV n c).getD j 0) _ = _
 rw [toV_get c (List.mem_range.1 hj)]; rfl
theorem lin_pt {n : Nat} {g : Cf} (hg : El F g) {R : List Cf} (hR : Els F R) (H : ∀ r ∈ R,dt F n r g = r n) {v : Cf} (hv : Sp F R v) : dt F n v g = v n:=by
 obtain ⟨c,hc,rfl⟩:=hv
 induction R generalizing c with
 | nil=>exact dt_z hF n g
 | cons r R ih =>
  have h1:=ih (fun x hx=>hR x (by simp [hx])) (fun x hx=>H x (by simp [hx])) (fun i=>c (i + 1)) (fun i=>hc (i + 1))
  show dt F n (pa F (ps F (c 0) r) (cb F R fun i=>c (i + 1))) g = F.add (F.mul (c 0) (r n)) (cb F R (fun i=>c (i + 1)) n)
  rw [dt_pa hF (el_s hF _ _) (cb_el hF _ _) hg,dt_ps hF (hc 0),h1,H r (by simp)]
theorem eq_mn {A : List (List Nat)} {V : List Nat} {n m : Nat} (hA : Mn F n A) (la : A.length = m) (hV : Vn F m V) : Mn F (n + 1) (eqM A V):=besM_mn la (by rw [colM_len,hV.len]) hA (colM_mn hV.el)
omit hF in
theorem eq_at {A : List (List Nat)} {V : List Nat} {n m k : Nat} (hA : Mn F n A) (la : A.length = m) (lv : V.length = m) (hk : k < m) (j : Nat) : Go.Fl.fn ((eqM A V).getD k []) j = if j < n then (A.getD k []).getD j 0 else if j = n then V.getD k 0 else 0:=by
 have e : (colM V).getD k [] = [V.getD k 0]:=by
  unfold colM
  rw [List.getD_eq_getElem?_getD,List.getElem?_map,List.getD_eq_getElem?_getD,List.getElem?_eq_getElem (by omega)]; rfl
 rw [besM_get (by omega) (by rw [colM_len]; omega),fn_app,(mrow hA (by omega)).len,e]
 split
 ·rfl
 ·split
  ·rename_i h; subst h; rw [Nat.sub_self]; rfl
  ·exact fn_ge (by simp; omega)
theorem eq_dt {A : List (List Nat)} {V x : List Nat} {n m : Nat} (hA : Mn F n A) (la : A.length = m) (hV : Vn F m V) (hx : apM F n A x = V) : ∀ r ∈ (eqM A V).map Go.Fl.fn,dt F n r (Go.Fl.fn x) = r n:=fun r hr=>by
 obtain ⟨k,hk,rfl⟩:=mem_at hr
 have hk : k < m:=by rwa [besM_len la (by rw [colM_len,hV.len])] at hk
 have e : V.getD k 0 = dt F n (Go.Fl.fn (A.getD k [])) (Go.Fl.fn x):=by rw [← hx]; exact apM_get (by omega)
 rw [eq_at hA la hV.len hk,if_neg (Nat.lt_irrefl n),if_pos rfl,e]
 unfold dt
 refine sm_congr hF fun j hj=>?_
 rw [eq_at hA la hV.len hk,if_pos (List.mem_range.1 hj)]; rfl
theorem sol_is {A : List (List Nat)} {V x : List Nat} {n m : Nat} (hA : Mn F n A) (la : A.length = m) (hV : Vn F m V) (hx : Vn F n x) (e : apM F n A x = V) : ∃ y,solM F n (eqM A V) = some y:=by
 have hT:=eq_mn hF hA la hV
 obtain ⟨h1,h2,-⟩:=redL_ok hF (hT.vs hF)
 unfold solM
 by_cases h : n ∈ pivM F (n + 1) (eqM A V)
 ·exfalso
  obtain ⟨a,ha,h3⟩:=List.mem_map.1 h
  have ro:=h1.ro a ha
  have h4:=lin_pt hF (hx.fn hF) (hT.vs hF).els (eq_dt hF hA la hV e) ((h2 _).1 (Sp.mem hF h1.red.el (List.mem_map.2 ⟨a,ha,rfl⟩)))
  have h5 : dt F n a.2 (Go.Fl.fn x) = 0:=sm_zero hF fun j hj=>by rw [ro.lo j (by rw [h3]; exact List.mem_range.1 hj),Ok.z_mul]
  have h6:=ro.one
  rw [h3] at h6
  omega
 ·exact ⟨_,if_neg h⟩
theorem sol_some {A : List (List Nat)} {V x : List Nat} {n m : Nat} (hA : Mn F n A) (la : A.length = m) (hV : Vn F m V) (h : solM F n (eqM A V) = some x) : Vn F n x ∧ apM F n A x = V ∧ ∀ j,j < n → x.getD j 0 ≠ 0 → ∃ i,i < (redM F n A).length ∧ pvt (Go.Fl.fn ((redM F n A).getD i [])) n = j:=by
 have hT:=eq_mn hF hA la hV
 obtain ⟨h1,h2,-⟩:=redL_ok hF (hT.vs hF)
 unfold solM at h
 by_cases hp : n ∈ pivM F (n + 1) (eqM A V)
 ·rw [if_pos hp] at h; cases h
 rw [if_neg hp] at h
 injection h with h
 unfold pivM at hp
 generalize hL : redL F (n + 1) ((eqM A V).map Go.Fl.fn) = L at h1 h2 h hp
 have hb : ∀ a ∈ L,a.1 < n:=fun a ha=>by
  have:=(h1.ro a ha).bd
  have h3 : a.1 ≠ n:=fun e=>hp (List.mem_map.2 ⟨a,ha,e⟩)
  omega
 have hg : ∀ j,j < n → x.getD j 0 = match L.find? (fun a=>a.1 == j) with | some a=>a.2 n | none=>0:=fun j hj=>by
  rw [← h]
  unfold sxK
  rw [range_get' _ hj,List.take_of_length_le (Nat.le_refl _)]; rfl
 have x2 : ∀ j,j < n → x.getD j 0 ≠ 0 → ∃ a ∈ L,a.1 = j:=fun j hj hn=>by
  rw [hg j hj] at hn
  cases e : L.find? (fun a=>a.1 == j) with
  | some a=>exact ⟨a,List.mem_of_find?_eq_some e,by simpa using List.find?_some e⟩
  | none=>rw [e] at hn; exact absurd rfl hn
 have x1 : ∀ a ∈ L,x.getD a.1 0 = a.2 n:=fun a ha=>by
  rw [hg a.1 (hb a ha)]
  cases e : L.find? (fun c=>c.1 == a.1) with
  | some c=>rw [h1.inj hF (List.mem_of_find?_eq_some e) ha (by simpa using List.find?_some e)]
  | none=>rw [List.find?_eq_none] at e; exact absurd (e a ha) (by simp)
 have hx : Vn F n x:=⟨by rw [← h,sxK_len],fun y hy=>by
  rw [← h] at hy
  obtain ⟨j,_,rfl⟩:=List.mem_map.1 hy
  try dsimp only
  split
  ·rename_i a ha
   exact (h1.ro a (List.mem_of_mem_take (List.mem_of_find?_eq_some ha))).el n
  ·exact hF.zero_lt⟩
 have hdt : ∀ r ∈ L.map Prod.snd,dt F n r (Go.Fl.fn x) = r n:=fun r hr=>by
  obtain ⟨a,ha,rfl⟩:=List.mem_map.1 hr
  unfold dt
  rw [sm_one hF (f:=fun j=>F.mul (a.2 j) (Go.Fl.fn x j)) (fun j=>hF.mul_lt _ _) (x:=a.1) List.nodup_range (List.mem_range.2 (hb a ha)) (fun y hy hne=>by
   have hy:=List.mem_range.1 hy
   show F.mul (a.2 y) (x.getD y 0) = 0
   by_cases h0 : x.getD y 0 = 0
   ·rw [h0,Ok.mul_z]
   ·obtain ⟨c,hc,rfl⟩:=x2 y hy h0
    rw [h1.at hF ha hc fun e=>hne e.symm,Ok.z_mul])]
  show F.mul (a.2 a.1) (x.getD a.1 0) = a.2 n
  rw [(h1.ro a ha).one,x1 a ha,hF.one_mul ((h1.ro a ha).el n)]
 refine ⟨hx,vn_ext (by rw [apM_len,la]) hV.len fun k hk=>?_,fun j hj hn=>?_⟩
 ·rw [apM_get (by omega)]
  have h3:=lin_pt hF (hx.fn hF) h1.red.el hdt ((h2 _).2 (Sp.get hF (hT.vs hF).els (i:=k) (by rw [List.length_map,besM_len la (by rw [colM_len,hV.len])]; exact hk)))
  rw [map_getD',eq_at hA la hV.len hk,if_neg (Nat.lt_irrefl n),if_pos rfl] at h3
  rw [← h3]
  unfold dt
  refine sm_congr hF fun j hj=>?_
  rw [eq_at hA la hV.len hk,if_pos (List.mem_range.1 hj)]; rfl
 ·obtain ⟨a,ha,rfl⟩:=x2 j hj hn
  have hM : RedL F n (L.map fun a=>(a.1,cut n a.2)):=by
   constructor
   ·rw [List.pairwise_map]
    refine List.Pairwise.imp_of_mem ?_ h1.pw
    intro a b ha hb' h
    exact ⟨h.1,by show cut n a.2 b.1 = 0; rw [cut_at _ (hb b hb')]; exact h.2.1,by show cut n b.2 a.1 = 0; rw [cut_at _ (hb a ha)]; exact h.2.2⟩
   ·intro c hc
    obtain ⟨a,ha,rfl⟩:=List.mem_map.1 hc
    have ro:=h1.ro a ha
    exact ⟨hb a ha,cut_el hF ro.el,by show cut n a.2 a.1 = 1; rw [cut_at _ (hb a ha)]; exact ro.one,fun j hj=>by
     have hj : j < a.1:=hj
     show cut n a.2 j = 0
     rw [cut_at _ (by have:=hb a ha; omega)]; exact ro.lo j hj,fun j hj=>cut_hi _ hj⟩
  obtain ⟨g1,g2,-⟩:=redL_ok hF (hA.vs hF)
  have e : redL F n (A.map Go.Fl.fn) = L.map fun a=>(a.1,cut n a.2):=RedL.ext hF g1 hM fun v=>by
   rw [g2,← besM_cut (B:=colM V) la (by rw [colM_len,hV.len]) hA,show (L.map fun a=>(a.1,cut n a.2)).map Prod.snd = (L.map Prod.snd).map (cut n) from by rw [List.map_map,List.map_map]; rfl,sp_cut hF,sp_cut hF]
   exact ⟨fun ⟨u,p,q⟩=>⟨u,(h2 u).2 p,q⟩,fun ⟨u,p,q⟩=>⟨u,(h2 u).1 p,q⟩⟩
  obtain ⟨i,hi,hai⟩:=List.getElem_of_mem ha
  have er : redM F n A = L.map fun a=>toV n (cut n a.2):=by
   unfold redM; rw [e,List.map_map]; rfl
  refine ⟨i,by rw [er,List.length_map]; exact hi,?_⟩
  rw [er,List.getD_eq_getElem?_getD,List.getElem?_map,List.getElem?_eq_getElem hi,hai]
  show pvt (Go.Fl.fn (toV n (cut n a.2))) n = a.1
  rw [fn_toV fun j hj=>cut_hi _ hj]
  have ro:=h1.ro a ha
  exact pvt_of (hb a ha) (by rw [cut_at _ (hb a ha),ro.one]; exact Nat.one_ne_zero) fun j hj=>by rw [cut_at _ (by have:=hb a ha; omega)]; exact ro.lo j hj
end
section
variable {F : Gf} (hF : Ok F)
include hF
theorem red_pvt {n : Nat} {P : List Nat} {R : List (List Nat)} (h : Red F n P (R.map Go.Fl.fn)) {i : Nat} (hi : i < R.length) : pvt (Go.Fl.fn (R.getD i [])) n = P.getD i 0:=by
 have hl:=h.len
 rw [List.length_map] at hl
 have hi' : i < (R.map Go.Fl.fn).length:=by rw [List.length_map]; exact hi
 have e:=map_fn_getD hi pz
 refine pvt_of (h.bd _ (by rw [List.getD_eq_getElem?_getD,List.getElem?_eq_getElem (by omega)]; exact List.getElem_mem _)) ?_ fun j hj=>?_
 ·have:=h.pv i hi' i hi'
  rw [if_pos rfl,e] at this
  rw [this]; exact Nat.one_ne_zero
 ·have:=h.lo i hi' j hj
  rwa [e] at this
theorem tuM_tuM {A : List (List Nat)} {n m : Nat} (hA : Mn F n A) (la : A.length = m) : tuM m (tuM n A) = A:=by
 apply List.ext_getElem (by rw [tuM_len,la])
 intro k h1 h2
 have hk : k < m:=by omega
 have e:=tuM_get (A:=tuM n A) hk
 rw [List.getD_eq_getElem?_getD,List.getElem?_eq_getElem h1] at e
 have hv:=mrow hA (k:=k) h2
 have e2 : A.getD k [] = A[k]:=by rw [List.getD_eq_getElem?_getD,List.getElem?_eq_getElem h2]; rfl
 rw [e2] at hv
 rw [show (tuM m (tuM n A))[k] = clM (tuM n A) k from e]
 refine vn_ext (n:=n) (by rw [List.length_map,tuM_len]) hv.len fun j hj=>?_
 have e3:=clM_at (A:=tuM n A) (k:=j) (j:=k) (by rw [tuM_len]; exact hj)
 rw [tuM_get hj] at e3
 rw [show (clM (tuM n A) k).getD j 0 = Go.Fl.fn (clM (tuM n A) k) j from rfl,e3,← e2]
 exact clM_at h2
end
end Go.Proofs.Yteeofijcndgbfaa
/- SpaceKernels: the law's walk. -/
namespace Go.Proofs.Yteeofijcndgbfaa
open Go.RowKit Go.Fl
set_option maxRecDepth 100000
set_option linter.unusedVariables false
set_option linter.unusedSimpArgs false
set_option linter.unusedSectionVars false
abbrev SKL (F : Gf) (b cap n B BM : Nat) (mv : Value) (w1 w : World) : Prop:=FBx B F b cap w ∧ MB BM F b cap n mv w ∧ Hid (FldAt F b cap w ∧ Below w1.heap.size w1 w ∧ B < w.heap.size ∧ BM < w.heap.size)
theorem SKL.keep {F : Gf} {b cap n B BM : Nat} {mv : Value} {w1 w w' : World} (h : SKL F b cap n B BM mv w1 w) (hb : Below w.heap.size w w') : SKL F b cap n B BM mv w1 w':=by
 obtain ⟨h1,h2,h3⟩:=h
 obtain ⟨k1,k2,k3,k4⟩:=h3.out
 exact ⟨h1.below hb k3,⟨(hb.cell k4).trans h2.1,(hb.cell k4).trans h2.2.1,(hb.cell k4).trans h2.2.2.1,(hb.cell k4).trans h2.2.2.2.1,(hb.cell k4).trans h2.2.2.2.2⟩,Lib.hid ⟨k1.below hb,k2.trans (hb.mono k2.size),Nat.lt_of_lt_of_le k3 hb.size,Nat.lt_of_lt_of_le k4 hb.size⟩⟩
abbrev SKC (F : Gf) (b cap n B BM : Nat) (mv : Value) (b1 o1 : Nat) (u : Value) (w1 w : World) : Prop:=SKL F b cap n B BM mv w1 w ∧ w.cell? ⟨b1,o1,none⟩ = some u ∧ Hid (b1 < w.heap.size)
theorem SKC.keep {F : Gf} {b cap n B BM b1 o1 : Nat} {mv u : Value} {w1 w w' : World} (h : SKC F b cap n B BM mv b1 o1 u w1 w) (hb : Below w.heap.size w w') : SKC F b cap n B BM mv b1 o1 u w1 w':=
 ⟨h.1.keep hb,(hb.cell h.2.2.out).trans h.2.1,Lib.hid (Nat.lt_of_lt_of_le h.2.2.out hb.size)⟩
theorem tuM_succ (k : Nat) (A : List (List Nat)) : tuM (k + 1) A = tuM k A ++ [clM A k]:=by unfold tuM; rw [List.range_succ,List.map_append]; rfl
theorem clM_len (A : List (List Nat)) (k : Nat) : (clM A k).length = A.length:=by simp
theorem clM_snoc {A : List (List Nat)} {r k : Nat} (hr : r < A.length) : clM (A.take (r + 1)) k = clM (A.take r) k ++ [(A.getD r []).getD k 0]:=by
 unfold clM; rw [take_snoc (d:=[]) hr,List.map_append]; rfl
def TuO (n : Nat) (A : List (List Nat)) (W : World) (e : Ending) (w' : World) : Prop:=∃ us a c,e = .returned (.slice a n c) ∧ OL (tuM n A) us W.heap.size w' (.slice a n c) ∧ Below W.heap.size W w'
set_option maxHeartbeats 3200000 in
theorem turn_o {n m ca : Nat} {A : List (List Nat)} {aa : Option Addr} {W : World} (hn : n ≤ 100) (hm : m ≤ 100) (la : A.length = m) (hw : ∀ k,k < m → n ≤ (A.getD k []).length) (na : MM A W (.slice aa m ca)) :
  Calls Try.prog 38 #[.int .i64 (n : Nat),.slice aa m ca] W (TuO n A W):=by
 obtain ⟨i0,hi,hz0,hz1,hz2⟩:=info_parts info3
 obtain ⟨j0,ji,jz0,jz1,jz2⟩:=info_parts info27
 have HWD:=Lib.hid hw
 have HLA:=Lib.hid la
 obtain ⟨w2,hw2⟩ : ∃ w2,w2 = W.alloc (.cells #[] 27):=⟨_,rfl⟩
 have HB2 : Hid (Below W.heap.size W w2):=Lib.hid (by rw [hw2]; exact (Below.refl _ _).alloc (Nat.le_refl _) _)
 have HO2 : Hid (OL [] [] W.heap.size w2 (.slice (some ⟨W.heap.size,0,none⟩) 0 0)):=Lib.hid (by rw [hw2]; exact OL.nil W.heap.size W (Nat.le_refl _))
 have HW2:=Lib.hid hw2
 have HNA:=Lib.hid na
 clear na hw2 hw la
 go_enter Try.func38,Try.ntmps38
 go_wp2
 rw [← HW2.out]
 clear HW2
 go_loopw [5,6] (fun v i wr=>∃ (k : Nat) (us : List Value),k ≤ n ∧ i = .int .i64 k ∧ Hid (OL (tuM k A) us W.heap.size wr v) ∧ Hid (Below W.heap.size W wr)) (fun _ i _=>n - (intOf i).toNat)
 case atStart=>exact ⟨0,[],Nat.zero_le _,rfl,HO2,HB2⟩
 case round =>
  obtain ⟨k,us,hk,rfl,HO,KB⟩:=hrel
  obtain ⟨aP,cP,hvs⟩:=HO.out.shape
  rw [tuM_len] at hvs
  subst hvs
  by_cases hlt : k < n
  ·obtain ⟨wo,hwo⟩ : ∃ w,w = wr:=⟨_,rfl⟩
   subst hwo
   have hk5 : k < 100:=by omega
   obtain ⟨w4,hw4⟩ : ∃ w,w = wo.alloc (.cells #[] 3):=⟨_,rfl⟩
   have HE4 : Hid (w4.ownsRow wo.heap.size 3 1 (.slice (some ⟨wo.heap.size,0,none⟩) 0 0) 0 []):=Lib.hid (by rw [hw4]; exact own_empty wo wo.heap.size (Nat.le_refl _))
   have HB4 : Hid (Below wo.heap.size wo w4):=Lib.hid (by rw [hw4]; exact (Below.refl _ _).alloc (Nat.le_refl _) _)
   have HW4:=Lib.hid hw4
   clear hw4
   go_wp2
   rw [← HW4.out]
   clear HW4
   go_loopw [7,8] (fun v i wr=>∃ (r : Nat) (aV : Option Addr) (cV : Nat),r ≤ m ∧ v = .slice aV r cV ∧ i = .int .i64 r ∧ Hid (wr.ownsRow wo.heap.size 3 1 (.slice aV r cV) r ((clM (A.take r) k).map N64)) ∧ Hid (Below wo.heap.size wo wr)) (fun _ i _=>m - (intOf i).toNat)
   case atStart=>exact ⟨0,_,_,Nat.zero_le _,rfl,rfl,HE4,HB4⟩
   case round =>
    obtain ⟨r,aV,cV,hr,rfl,rfl,HV,KV⟩:=hrel
    by_cases hlr : r < m
    ·have hr5 : r < 100:=by omega
     have hrA : r < A.length:=by rw [HLA.out]; exact hlr
     obtain ⟨b1,o1,rfl,a1,c1,hc1,hn1⟩:=MM.at (R:=A) (by rw [HLA.out]; exact HNA.out.below (KB.out.trans (KV.out.mono KB.out.size))) hrA
     obtain ⟨Y,hY⟩ : ∃ L,Hid (A.getD r [] = L):=⟨_,Lib.hid rfl⟩
     have HSN : Hid (clM (A.take (r + 1)) k = clM (A.take r) k ++ [Y.getD k 0]):=Lib.hid (by rw [clM_snoc hrA,hY.out])
     have hky : k < Y.length:=by have:=HWD.out r hlr; rw [hY.out] at this; omega
     rw [hY.out] at hc1 hn1
     obtain ⟨b2,o2,rfl,hc2⟩:=hn1.at hky
     obtain ⟨y,hy⟩ : ∃ y,Hid (Y.getD k 0 = y):=⟨_,Lib.hid rfl⟩
     rw [hy.out] at hc2 HSN
     obtain ⟨ly,hly⟩ : ∃ l,Y.length = l:=⟨_,rfl⟩
     rw [hly] at hc1 hky
     have HKS : Hid (wo.heap.size ≤ wr.heap.size):=Lib.hid KV.out.size
     obtain ⟨CL,hCL⟩ : ∃ L,clM (A.take r) k = L:=⟨_,rfl⟩
     rw [hCL] at HV HSN
     clear hn1 hrA hly hCL
     go_wp2_with (at_builtin; refine wpList_append_own _ rfl _ _ 27 rfl wo.heap.size 3 i0 (.int .i64 0) 1 8 Try.underlying27 hi hz0 hz1 hz2 rfl (by decide) _ _ _ rfl (HV.out.alloc _) ⟨wr.heap.size,0,none⟩ 1 1 [.int .i64 (y : Nat)] rfl rfl (cell_one_new _ _ _) (fun u hu=>by simp at hu; subst hu; rfl) ?c3 ?c4 ?c5 ?_)
     case c3=>unfold maxLen; omega
     case c4=>omega
     case c5=>have:=HKS.out; simp; omega
     intro v' w7 hown' hgrow hnil
     have HO7 : Hid (w7.ownsRow wo.heap.size 3 1 v' (r + 1) ((clM (A.take (r + 1)) k).map N64)):=Lib.hid (by rw [HSN.out,List.map_append]; exact hown')
     have HB7 : Hid (Below wo.heap.size wo w7):=Lib.hid ((KV.out.alloc HKS.out _).trans (Bx.below (Bx.grown hgrow fun j hj=>(HV.out.lt j hj).1) (by have:=HKS.out; simp; omega) fun j hj=>hj))
     obtain ⟨aP2,cP2,hvs⟩ : ∃ a c,v' = .slice a (r + 1) c:=by
      rcases HO7.out.2 with ⟨e,e2⟩ | ⟨_,_,_,e,_⟩
      ·exact ⟨none,0,by rw [e,e2]⟩
      ·exact ⟨_,_,e⟩
     subst hvs
     clear hown' hgrow hnil
     go_wp2
     go_roundw
     case rel=>exact ⟨r + 1,aP2,cP2,by omega,rfl,by go_num,HO7,HB7⟩
     case measure=>simp [intOf]; omega
    ·obtain rfl : m = r:=by omega
     have hlr1 : ¬ (m : Int) < (m : Int):=by omega
     obtain ⟨w6,hw6⟩ : ∃ w,w = wr:=⟨_,rfl⟩
     subst hw6
     have HR2 : Hid (w6.ownsRow 0 3 1 (.slice aV m cV) m ((clM A k).map N64)):=Lib.hid (by have h:=HV.out; rw [List.take_of_length_le (by rw [HLA.out]; exact Nat.le_refl _)] at h; exact own_weak h (Nat.zero_le _))
     have HO6:=Lib.hid (HO.out.below KV.out)
     have KB6 : Hid (Below W.heap.size W w6):=Lib.hid (KB.out.trans (KV.out.mono KB.out.size))
     have HK6 : Hid (W.heap.size ≤ w6.heap.size):=Lib.hid KB6.out.size
     have HDL:=Lib.hid (tuM_len k A)
     have hown6:=HO6.out.own
     rw [HDL.out] at hown6
     have HOW:=Lib.hid hown6
     clear hown6
     go_wp2_with (at_builtin; refine wpList_append_own_at _ rfl _ _ 30 rfl W.heap.size 27 j0 (.slice none 0 0) 1 24 Try.underlying30 ji jz0 jz1 jz2 rfl (by decide) _ _ _ rfl (HOW.out.alloc _) ⟨w6.heap.size,0,none⟩ 1 1 [.slice aV m cV] rfl rfl (cell_one_new _ _ _) (fun u hu=>by simp at hu; subst hu; rfl) ?d3 ?d4 ?d5 ?_)
     case d3=>unfold maxLen; omega
     case d4=>omega
     case d5=>have:=HK6.out; simp; omega
     intro v' w7 hown' hgrow hnil hat
     have hal2 : Below w6.heap.size w6 (w6.alloc (.cells #[.slice aV m cV] 27)):=(Below.refl _ _).alloc (Nat.le_refl _) _
     have HO7 : Hid (OL (tuM (k + 1) A) (us ++ [.slice aV m cV]) W.heap.size w7 v'):=Lib.hid (by
      rw [tuM_succ]
      exact OL.push (HO6.out.below hal2) (by rw [clM_len,HLA.out]; exact own_belowK HR2.out hal2) (by rw [HDL.out]) hown' hgrow)
     have HB7 : Hid (Below W.heap.size W w7):=Lib.hid ((KB6.out.alloc HK6.out _).trans (Bx.below (Bx.grown hgrow fun j hj=>(HOW.out.lt j hj).1) (by have:=HK6.out; simp; omega) fun j hj=>hj))
     clear hown' hgrow hnil hat hal2
     go_wp2
     go_roundw
     case rel=>exact ⟨k + 1,us ++ [.slice aV m cV],by omega,by go_num,HO7,HB7⟩
     case measure=>simp [intOf]; omega
  ·obtain rfl : n = k:=by omega
   have hlt1 : ¬ (n : Int) < (n : Int):=by omega
   go_wp2
   go_ret
   exact ⟨us,aP,cP,rfl,HO.out,KB.out⟩
theorem turn_c {n m ca : Nat} {A : List (List Nat)} {aa : Option Addr} {W : World} (hn : n ≤ 100) (hm : m ≤ 100) (la : A.length = m) (hw : ∀ k,k < m → n ≤ (A.getD k []).length) (na : MM A W (.slice aa m ca)) :
  Calls Try.prog 38 #[.int .i64 (n : Nat),.slice aa m ca] W (MPn (tuM n A) n W):=(turn_o hn hm la hw na).mono fun _ _ ⟨_,a,c,h1,h2,h3⟩=>⟨a,c,h1,h2.mm,h3⟩
end Go.Proofs.Yteeofijcndgbfaa
/- A matrix whose rows are slices that lie elsewhere, in a row of slices of the call's own. -/
namespace Go.Proofs.Yteeofijcndgbfaa
open Go.RowKit Go.Fl
set_option linter.unusedVariables false
set_option linter.unusedSectionVars false
section
variable {L : List (List Nat)} {us : List Value} {base g c : Nat} {w w' : World}
end
theorem MM.vals {R : List (List Nat)} {w : World} {b o c : Nat} (h : MM R w (.slice (some ⟨b,o,none⟩) R.length c)) : ∃ us : List Value,us.length = R.length ∧ (∀ (j : Nat) (u : Value),us[j]? = some u → w.cell? ((⟨b,o,none⟩ : Addr).add j) = some u) ∧ (∀ u ∈ us,u.oneCell' = true) ∧ ∀ i,i < R.length → NN (R.getD i []) w (us.getD i undef):=by
 have hk : ∀ k,∃ u : Value,k < R.length → w.cell? ⟨b,o + k,none⟩ = some u ∧ NN (R.getD k []) w u ∧ u.oneCell' = true:=fun k=>by
  by_cases hk : k < R.length
  ·obtain ⟨b',o',e,a',c',h1,h2⟩:=h.at hk
   injection e with e
   injection e with e1 e2
   subst e1 e2
   exact ⟨_,fun _=>⟨h1,h2,rfl⟩⟩
  ·exact ⟨undef,fun h=>absurd h hk⟩
 obtain ⟨f,hf⟩:=Classical.axiomOfChoice hk
 have hg : ∀ j u,((List.range R.length).map f)[j]? = some u → j < R.length ∧ u = f j:=fun j u hu=>by
  rw [List.getElem?_map,Option.map_eq_some_iff] at hu
  obtain ⟨k,h1,h2⟩:=hu
  have hj : j < R.length:=by
   rcases Nat.lt_or_ge j R.length with h | h
   ·exact h
   ·rw [List.getElem?_eq_none (by simpa using h)] at h1; cases h1
  rw [List.getElem?_range hj] at h1
  injection h1 with h1
  subst h1
  exact ⟨hj,h2.symm⟩
 refine ⟨(List.range R.length).map f,by simp,fun j u hu=>?_,fun u hu=>?_,fun i hi=>?_⟩
 ·obtain ⟨hj,rfl⟩:=hg j u hu
  rw [show (⟨b,o,none⟩ : Addr).add j = ⟨b,o + j,none⟩ from by unfold Addr.add; split <;> simp_all]
  exact (hf j hj).1
 ·obtain ⟨k,h1,rfl⟩:=List.mem_map.1 hu
  exact (hf k (List.mem_range.1 h1)).2.2
 ·rw [range_get' f hi]
  exact (hf i hi).2.1
theorem redM_leN {F : Gf} (hF : Ok F) {n : Nat} {A : List (List Nat)} (h : Mn F n A) : (redM F n A).length ≤ n:=by have:=rank_null hF h; omega
theorem step_append_src {P : Program} {ops : Array Oper} {o : Oper} {a : Act} {w : World} {K : Act → World → Prop} {Q : Exit → Act → World → Prop} {E : Prop}
  (hg : o.guard = none) (s x : Operand) (t : TypeId) (hop : o.op = Op.call { callee:=Callee.builtin Builtin.append,args:=#[s,x],argTypes:=#[t,t] })
  (base : Nat) (e : TypeId) (i : TypeInfo) (z : Value) (size bytes : Nat) (ht : P.underlying t = some (.slice e)) (hi : P.info? e = some i) (hz : i.zero = some z)
  (hsize : i.size = size) (hby : i.bytes = bytes) (hzs : z.cells.size = size) (hsz : 0 < size)
  (v : Value) (n : Nat) (xs : List Value) (hv : a.eval s = v) (hown : w.ownsRow base e size v n xs)
  (ad : Option Addr) (m c : Nat) (news : List Value) (hx : a.eval x = .slice ad m c)
  (hs : (ad = none ∧ m = 0 ∧ c = 0 ∧ news = []) ∨ ∃ d,ad = some d ∧ news.length = m * size ∧ ∀ j u,news[j]? = some u → w.cell? (d.add j) = some u) (h1 : ∀ u ∈ news,u.oneCell' = true)
  (h63 : n + m ≤ maxLen) (hbytes : (n + m) * bytes ≤ 140737488355328) (hbase : base ≤ w.heap.size)
  (hK : ∀ v' w',w'.ownsRow base e size v' (n + m) (xs ++ news) → w.grownBy w' v.ownBlock → K (a.put o.dst v') w') :
  if Region.wanted o (yielded ops a.tmps) = true then Oper.wp P o a w K Q else E:=by
 rcases hs with ⟨rfl,rfl,rfl,rfl⟩ | ⟨d,rfl,hl,hn⟩
 ·have hw : Region.wanted o (yielded ops a.tmps) = true:=by simp [Region.wanted,hg]
  rw [if_pos hw]
  have hrun:=run_append_owned_none (P:=P) w base t o.type e i size ht hi v n xs hown
  unfold Oper.wp
  simp [execOp,hop,resolve,invoke,builtin,hv,hx,hrun,Result.andThen]
  exact hK v w (by simpa using hown) ⟨rfl,rfl,rfl,Nat.le_refl _,fun _ _ _=>rfl⟩
 ·exact step_append_own hg s x t hop base e i z size bytes ht hi hz hsize hby hzs hsz v n xs hv hown d m c news hx hl hn h1 h63 hbytes hbase hK
set_option maxHeartbeats 1600000 in
theorem square_c {F : Gf} {b cap n l ca : Nat} {aa : Option Addr} {W : World} (hA : FldAt F b cap W) (h1 : 1 ≤ n) (hn : n ≤ 6) (hl : l ≤ maxLen) (na : N16 l W (.slice aa l ca)) :
  Calls Try.prog 32 #[FV F b cap,.int .i64 (n : Nat),.slice aa l ca] W fun e w'=>∃ R,Mn F n R ∧ R.length = n ∧ MPn R n W e w':=by
 obtain ⟨w1,hw1⟩ : ∃ w1,w1 = W.alloc (.cells #[.int .i64 F.p,.int .i64 F.e,FM F b cap] 29):=⟨_,rfl⟩
 have HAL : Hid (Below W.heap.size W w1):=Lib.hid (by rw [hw1]; exact (Below.refl _ _).alloc (Nat.le_refl _) _)
 have HFB : Hid (FBx W.heap.size F b cap w1):=Lib.hid (by rw [hw1]; exact FBx.new W F b cap)
 have HJ : Hid (Calls Try.prog 11 #[FV F b cap,.int .i64 (n : Nat),.int .i64 (n : Nat),.slice aa l ca] w1 (RwsP F n n w1)):=Lib.hid (rows_c (hA.below HAL.out) h1 (by omega) hn hl (na.below HAL.out))
 have HW1:=Lib.hid hw1
 obtain ⟨x0,x1,x2⟩:=HFB.out
 clear hA na hw1
 go_enter Try.func32,Try.ntmps32
 go_wp2_with fail
 try rw [← HW1.out]
 try go_wp2_with fail
 with_reducible refine HJ.out.mono ?_
 rintro z w2 ⟨R,hR,hl2,a,c,rfl,hm2,hb⟩
 rw [hl2] at hm2 ⊢
 have HB:=Lib.hid (HAL.out.trans (hb.mono HAL.out.size))
 have HM:=Lib.hid hm2
 have HR:=Lib.hid hR
 have HL:=Lib.hid hl2
 clear hm2 hb hR hl2
 go_wp2
 go_ret
 exact ⟨R,HR.out,HL.out,a,c,rfl,HM.out,HB.out⟩
set_option maxHeartbeats 1600000 in
theorem unit_c {n k : Nat} {W : World} (hn : n ≤ 100) (hlt : k < n) : Calls Try.prog 48 #[.int .i64 (n : Nat),.int .i64 (k : Nat)] W (VPn (eL n k) n W):=by
 obtain ⟨i0,hi,hz0,hz1,hz2⟩:=info_parts info3
 go_enter Try.func48,Try.ntmps48
 go_wp2_with (refine wpList_make_full _ rfl _ _ 27 rfl 0 3 i0 (.int .i64 0) 1 Try.underlying27 hi hz0 hz1 .i64 .i64 (n : Int) (n : Int) n rfl rfl rfl rfl (by rw [hz2]; omega) (by unfold maxLen; omega) (Nat.zero_le _) ?_)
 intro w7 hown hgrow
 have HROW : Hid (Row (List.replicate n 0) W.heap.size w7):=Lib.hid (Row.of_own (n:=n) (base:=0) (by
  have e:=toList_madeCells_one (Value.int .i64 0) n
  rw [List.map_replicate,show N64 0 = Value.int .i64 0 from rfl,← e]
  simpa using hown) (by simp))
 have HG7 : Hid (Bx (fun _=>False) W w7):=Lib.hid (Bx.of ((Below.refl _ _).grown hgrow (by simp) (fun k hk=>by cases hk)))
 have hf7 : w7.frozen? ⟨W.heap.size,k,none⟩ = false:=HROW.out.frozen k
 have hc7 : w7.cell? ⟨W.heap.size,k,none⟩ = some (.int .i64 0):=by
  rw [HROW.out.cell (by simpa using hlt)]; simp [hlt]
 obtain ⟨w8,hw8⟩ : ∃ w8,w8 = (w7.setCell ⟨W.heap.size,k,none⟩ (.int .i64 1)):=⟨_,rfl⟩
 have hb8 : Bx (fun j=>j = W.heap.size) w7 w8:=by rw [hw8]; exact Bx.set (S:=fun j=>j = W.heap.size) rfl _
 have HX8 : Hid (Rw (eL n k) W.heap.size w8):=Lib.hid (by rw [hw8]; exact HROW.out.rw'.set k 1 trivial)
 have HG8 : Hid (Below W.heap.size W w8):=Lib.hid (Bx.below (((HG7.out.mono (T:=fun j=>j = W.heap.size) fun _ e=>e.elim).trans hb8).old fun k hk e=>by omega) (Nat.le_refl _) fun _ e=>e.elim)
 have HW8:=Lib.hid hw8
 clear hown hgrow HROW HG7 hb8 hw8
 go_wp2
 go_ret
 rw [← HW8.out]
 exact ⟨_,_,rfl,.inr ⟨W.heap.size,0,n,by simp,by simp,HX8.out.lt,fun t ht=>by rw [Nat.zero_add]; exact HX8.out.cell t ht⟩,HG8.out⟩
end Go.Proofs.Yteeofijcndgbfaa
