/- reduced (walk): a matrix swept, its rows that are not zero. -/
import Derived.Test.YteeofijcndgbfaaSj
import Derived.Maps.AppendAt
namespace Go.Proofs.Yteeofijcndgbfaa
open Go.RowKit Go.Fl
set_option maxRecDepth 100000
set_option linter.unusedVariables false
set_option linter.unusedSimpArgs false
set_option linter.unusedSectionVars false
set_option maxHeartbeats 6400000 in
theorem reduced_c {F : Gf} {b cap n c : Nat} {M0 : List (List Nat)} {g : Nat} {rs0 : List Nat} {W : World} (hA : FldAt F b cap W) (hn : n ≤ 1000) (hl : M0.length ≤ 1000) (hc : M0.length ≤ c) (h : OM M0 g rs0 n W) (hm : Mn F n M0) (hbg : b ≠ g) (hb : ∀ i,i < M0.length → b ≠ rs0.getD i 0) :
  Calls Try.prog 59 #[MV F b cap n (.slice (some ⟨g,0,none⟩) M0.length c)] W fun e w'=>∃ rs a ca,e = .returned (.tuple #[MV F b cap n (.slice (some ⟨g,0,none⟩) (redM F n M0).length c),.slice a (pivM F n M0).length ca]) ∧ NN (pivM F n M0) w' (.slice a (pivM F n M0).length ca) ∧
   OM (redM F n M0) g rs n w' ∧ (∀ i,i < (redM F n M0).length → ∃ j,j < M0.length ∧ rs.getD i 0 = rs0.getD j 0) ∧ Bx (Mb M0 rs0 g) W w':=by
 have HFF : Hid (Ok F):=Lib.hid (ok_mem hA.mem)
 have HM:=Lib.hid hm
 obtain ⟨w0,hw0⟩ : ∃ w0,w0 = ((W.alloc (.cells #[.int .i64 F.p,.int .i64 F.e,FM F b cap,.int .i64 (n : Nat),.slice (some ⟨g,0,none⟩) M0.length c] 79)).alloc (.cells #[.int .i64 0,.int .i64 0,.slice none 0 0,.int .i64 0,.slice none 0 0] 79)):=⟨_,rfl⟩
 have hal : Below W.heap.size W w0:=by rw [hw0]; exact ((Below.refl _ _).alloc (Nat.le_refl _) _).alloc (by simp) _
 have HS : Hid (W.heap.size + 1 < w0.heap.size):=Lib.hid (by rw [hw0]; simp)
 have HMB : Hid (MB W.heap.size F b cap n (.slice (some ⟨g,0,none⟩) M0.length c) w0):=Lib.hid (by rw [hw0]; exact ⟨(World.cell?_alloc_lt _ _ _ (by simp)).trans (World.cell?_alloc_at _ _ _ _ rfl),(World.cell?_alloc_lt _ _ _ (by simp)).trans (World.cell?_alloc_at _ _ _ _ rfl),(World.cell?_alloc_lt _ _ _ (by simp)).trans (World.cell?_alloc_at _ _ _ _ rfl),(World.cell?_alloc_lt _ _ _ (by simp)).trans (World.cell?_alloc_at _ _ _ _ rfl),(World.cell?_alloc_lt _ _ _ (by simp)).trans (World.cell?_alloc_at _ _ _ _ rfl)⟩)
 have HMR : Hid ((w0.cell? ⟨W.heap.size + 1,0,none⟩ = some (.int .i64 0) ∧ w0.cell? ⟨W.heap.size + 1,1,none⟩ = some (.int .i64 0) ∧ w0.cell? ⟨W.heap.size + 1,2,none⟩ = some (.slice none 0 0) ∧ w0.cell? ⟨W.heap.size + 1,3,none⟩ = some (.int .i64 0) ∧ w0.cell? ⟨W.heap.size + 1,4,none⟩ = some (.slice none 0 0)) ∧
   (∀ t,w0.frozen? ⟨W.heap.size + 1,t,none⟩ = false) ∧ ∀ t,w0.frozen? ⟨W.heap.size,t,none⟩ = false):=Lib.hid (by
  rw [hw0]; exact ⟨⟨World.cell?_alloc_at _ _ _ _ (by simp),World.cell?_alloc_at _ _ _ _ (by simp),World.cell?_alloc_at _ _ _ _ (by simp),World.cell?_alloc_at _ _ _ _ (by simp),World.cell?_alloc_at _ _ _ _ (by simp)⟩,fun t=>World.frozen?_alloc_at _ _ _ _ (by simp),fun t=>(World.frozen?_alloc_past _ _ _ (by simp)).trans (World.frozen?_alloc_at _ _ _ _ rfl)⟩)
 have HXN : Hid (Bx (fun _=>False) W w0):=Lib.hid (Bx.of hal)
 have HF0:=Lib.hid (hA.below hal)
 have HOM:=Lib.hid (h.bx HXN.out id fun _ _=>id)
 have HLT : Hid (∀ k,W.heap.size ≤ k → ¬ Mb M0 rs0 g k):=Lib.hid (by
  rintro k hk (e | ⟨i,hi,e⟩)
  ·have:=h.glt; omega
  ·have:=(h.rw' i hi).lt; omega)
 have HBB:=Lib.hid hb
 have HBG:=Lib.hid hbg
 have HW0:=Lib.hid hw0
 clear hA h hm hbg hb hal hw0
 go_enter Try.func59,Try.ntmps59
 go_wp2_with fail
 rw [← HW0.out]
 clear HW0
 with_reducible refine (sweep_c HF0.out hn hl (Nat.le_refl n) HOM.out HM.out HBG.out HBB.out).mono ?_
 rintro z w1 ⟨P,M,rs,a,ca,rfl,hnp,hsw,hbx,hfr⟩
 obtain ⟨x0,x1,x2,x3,x4⟩:=MB.bx HMB.out hbx (Nat.lt_of_succ_lt HS.out) (HLT.out _ (Nat.le_refl _))
 have hR : ¬ Mb M0 rs0 g (W.heap.size + 1):=HLT.out _ (Nat.le_succ _)
 have hcl : ∀ t,w1.cell? ⟨W.heap.size + 1,t,none⟩ = w0.cell? ⟨W.heap.size + 1,t,none⟩:=fun t=>hbx.cell HS.out hR
 have hfl : ∀ t,w1.frozen? ⟨W.heap.size + 1,t,none⟩ = false:=fun t=>(World.frozen?_of_block (w:=w0) (hbx.block _ HS.out hR)).trans (HMR.out.2.1 t)
 have f4 : w1.frozen? ⟨W.heap.size,4,none⟩ = false:=(World.frozen?_of_block (w:=w0) (hbx.block _ (Nat.lt_of_succ_lt HS.out) (HLT.out _ (Nat.le_refl _)))).trans (HMR.out.2.2 4)
 obtain ⟨⟨r0,r1,r2,r3,r4⟩,-,-⟩:=HMR.out
 rw [← hcl] at r0 r1 r2 r3 r4
 have g0:=hfl 0
 have g1:=hfl 1
 have g2:=hfl 2
 have g3:=hfl 3
 have g4:=hfl 4
 have hpl : P.length ≤ M.length:=by have:=hsw.sw.le; rwa [List.length_map] at this
 have hpc : P.length ≤ c:=by have:=hsw.len; omega
 have hfin:=Sw.redM HFF.out HM.out (fun r hr=>(hsw.mn r hr).len) hsw.sw hsw.sp
 have ER:=Lib.hid hfin.1
 have EP:=Lib.hid hfin.2
 have HSW:=Lib.hid hsw
 have HNP:=Lib.hid hnp
 have HPL:=Lib.hid hpl
 have HC6 : Hid (∀ u0 u1 u2 u3 u4 u5,Bx (fun j=>j = W.heap.size ∨ j = W.heap.size + 1) w1 ((((((w1.setCell ⟨W.heap.size,4,none⟩ u0).setCell ⟨W.heap.size + 1,0,none⟩ u1).setCell ⟨W.heap.size + 1,1,none⟩ u2).setCell ⟨W.heap.size + 1,2,none⟩ u3).setCell ⟨W.heap.size + 1,3,none⟩ u4).setCell ⟨W.heap.size + 1,4,none⟩ u5)):=
  Lib.hid fun _ _ _ _ _ _=>(((((Bx.set (.inl rfl) _).trans (Bx.set (.inr rfl) _)).trans (Bx.set (.inr rfl) _)).trans (Bx.set (.inr rfl) _)).trans (Bx.set (.inr rfl) _)).trans (Bx.set (.inr rfl) _)
 have HFR:=Lib.hid hfr
 have HB1:=Lib.hid (((HXN.out.mono (T:=Mb M0 rs0 g) fun _ e=>e.elim)).trans hbx)
 clear hcl hfl hfin hsw hnp hbx hR hpl hfr
 go_wp2
 have hb6:=HC6.out (.slice (some ⟨g,0,none⟩) P.length c) (.int .i64 F.p) (.int .i64 F.e) (.slice (some ⟨b,0,none⟩) F.e cap) (.int .i64 (n : Nat)) (.slice (some ⟨g,0,none⟩) P.length c)
 refine bodyPost_ret (v:=.tuple #[MV F b cap n (.slice (some ⟨g,0,none⟩) P.length c),.slice a P.length ca]) (by simp [results,Try.results59,go_sem,r0,r1,r2,r3,r4]) rfl ?_
 have eL : (redM F n M0).length = P.length:=by rw [← ER.out,List.length_take]; have:=HPL.out; omega
 have hlt : ∀ k,Mb M0 rs0 g k → ¬ (k = W.heap.size ∨ k = W.heap.size + 1):=fun k hk e=>HLT.out k (by omega) hk
 refine ⟨rs.take P.length,a,ca,by rw [eL,← EP.out],?_,?_,fun i hi=>?_,?_⟩
 ·rw [← EP.out]
  refine HNP.out.bx hb6 fun r o m c' e=>?_
  injection e with e1 e2 e3
  have:=HFR.out r o e1
  have:=HS.out
  omega
 ·rw [← ER.out]
  exact (HSW.out.om.bx hb6 (hlt g (.inl rfl)) fun i hi=>hlt _ (by obtain ⟨j,hj,e⟩:=HSW.out.blk i hi; exact .inr ⟨j,hj,e⟩)).take HPL.out
 ·rw [eL] at hi
  rw [take_getD hi]
  exact HSW.out.blk i (by have:=HPL.out; omega)
 ·exact HB1.out.comp (hb6.mono fun k hk=>(by omega : W.heap.size ≤ k)) (Nat.le_refl _)
abbrev rowV (n r : Nat) : Value:=.slice (some ⟨r,0,none⟩) n n
theorem info27 : (Try.prog.info? 27).map (fun i=>(i.zero,i.size,i.bytes)) = some (some (.slice none 0 0),1,24):=by kernel_rfl
structure OR (D : List (List Nat)) (rs : List Nat) (n base : Nat) (w : World) (v : Value) : Prop where
 own : w.ownsRow base 27 1 v D.length (rs.map (rowV n))
 len : rs.length = D.length
 row : ∀ i,i < D.length → Rw (D.getD i []) (rs.getD i 0) w
 wid : ∀ i,i < D.length → (D.getD i []).length = n
 nd : ∀ i,i < D.length → ∀ k,k < D.length → i ≠ k → rs.getD i 0 ≠ rs.getD k 0
 lo : ∀ i,i < D.length → base ≤ rs.getD i 0
 ng : ∀ i,i < D.length → v.ownBlock ≠ some (rs.getD i 0)
theorem OR.nil (n base : Nat) (w : World) : OR [] [] n base w (.slice none 0 0):=
 ⟨⟨rfl,.inl ⟨rfl,rfl⟩⟩,rfl,fun i hi=>absurd hi (by simp),fun i hi=>absurd hi (by simp),fun i hi=>absurd hi (by simp),fun i hi=>absurd hi (by simp),fun i hi=>absurd hi (by simp)⟩
section
variable {D : List (List Nat)} {rs : List Nat} {n base : Nat} {w w' : World} {v v' : Value}
theorem OR.shape (h : OR D rs n base w v) : ∃ a c,v = .slice a D.length c:=by
 rcases h.own.2 with ⟨e,e2⟩ | ⟨g,cap,cur,e,_⟩
 ·exact ⟨none,0,by rw [e,e2]⟩
 ·exact ⟨_,_,e⟩
theorem OR.bx (h : OR D rs n base w v) {S : Nat → Prop} (hb : Bx S w w') (hs : ∀ k,base ≤ k → ¬ S k) : OR D rs n base w' v:=
 ⟨own_bx h.own hb hs,h.len,fun i hi=>(h.row i hi).bx hb (hs _ (h.lo i hi)),h.wid,h.nd,h.lo,h.ng⟩
theorem OR.weak (h : OR D rs n base w v) {b' : Nat} (hb : b' ≤ base) : OR D rs n b' w v:=
 ⟨⟨h.own.1,h.own.2.imp_right fun ⟨g,cap,cur,h1,h2,h3⟩=>⟨g,cap,cur,h1,Nat.le_trans hb h2,h3⟩⟩,h.len,h.row,h.wid,h.nd,fun i hi=>Nat.le_trans hb (h.lo i hi),h.ng⟩
theorem OR.fresh (h : OR D rs n base w v) {r : Nat} (hr : w.heap.size ≤ r) : (∀ i,i < D.length → rs.getD i 0 ≠ r) ∧ v.ownBlock ≠ some r:=
 ⟨fun i hi e=>by have:=(h.row i hi).lt; omega,fun e=>by have:=(h.own.lt r e).2; omega⟩
theorem getD_snoc {α : Type} {d x : α} {l : List α} {i : Nat} : (l ++ [x]).getD i d = if i < l.length then l.getD i d else if i = l.length then x else d:=by
 simp only [List.getD_eq_getElem?_getD]
 by_cases h : i < l.length
 ·rw [if_pos h,List.getElem?_append_left h]
 ·rw [if_neg h,List.getElem?_append_right (by omega)]
  by_cases e : i = l.length
  ·rw [if_pos e,e]; simp
  ·rw [if_neg e,List.getElem?_eq_none (by simp; omega)]; rfl
theorem OR.push (h : OR D rs n base w v) {L : List Nat} {r : Nat} (hr : Rw L r w) (hl : L.length = n) (hlo : base ≤ r) (hne : ∀ i,i < D.length → rs.getD i 0 ≠ r) (hv : v.ownBlock ≠ some r)
  {m : Nat} (hm : m = D.length + 1) (hown : w'.ownsRow base 27 1 v' m (rs.map (rowV n) ++ [rowV n r])) (hg : w.grownBy w' v.ownBlock) (hat : v'.ownBlock = v.ownBlock ∨ v'.ownBlock = some w.heap.size) : OR (D ++ [L]) (rs ++ [r]) n base w' v':=by
 subst hm
 have hk : ∀ i,i < (D ++ [L]).length → ∃ x,(rs ++ [r]).getD i 0 = x ∧ Rw ((D ++ [L]).getD i []) x w ∧ ((D ++ [L]).getD i []).length = n ∧ base ≤ x ∧ v.ownBlock ≠ some x:=by
  intro i hi
  rw [List.length_append,List.length_singleton] at hi
  rw [getD_snoc,getD_snoc,h.len]
  by_cases e : i < D.length
  ·rw [if_pos e,if_pos e]; exact ⟨_,rfl,h.row i e,h.wid i e,h.lo i e,h.ng i e⟩
  ·have e2 : i = D.length:=by omega
   rw [if_neg e,if_neg e,if_pos e2,if_pos e2]; exact ⟨_,rfl,hr,hl,hlo,hv⟩
 refine ⟨?_,by simp [h.len],fun i hi=>?_,fun i hi=>?_,fun i hi k hk' e=>?_,fun i hi=>?_,fun i hi=>?_⟩
 ·rw [List.length_append,List.length_singleton,List.map_append]; exact hown
 ·obtain ⟨x,hx,h1,h2,h3,h4⟩:=hk i hi
  rw [hx]
  exact h1.bx (S:=fun k=>some k = v.ownBlock) ⟨hg.os,hg.tape,hg.output,hg.size,hg.block⟩ (fun e=>h4 e.symm)
 ·obtain ⟨x,hx,h1,h2,h3,h4⟩:=hk i hi; exact h2
 ·rw [List.length_append,List.length_singleton] at hi hk'
  rw [getD_snoc,getD_snoc,h.len]
  by_cases e1 : i < D.length
  ·rw [if_pos e1]
   by_cases e2 : k < D.length
   ·rw [if_pos e2]; exact h.nd i e1 k e2 e
   ·rw [if_neg e2,if_pos (by omega)]; exact hne i e1
  ·rw [if_neg e1,if_pos (by omega),if_pos (by omega)]; exact (hne k (by omega)).symm
 ·obtain ⟨x,hx,h1,h2,h3,h4⟩:=hk i hi; rw [hx]; exact h3
 ·obtain ⟨x,hx,h1,h2,h3,h4⟩:=hk i hi
  rw [hx]
  rcases hat with e | e
  ·rw [e]; exact h4
  ·rw [e]; intro e2; injection e2 with e2; have:=h1.lt; omega
def OV (D : List (List Nat)) (g : Nat) (rs : List Nat) (n : Nat) (w : World) (v : Value) : Prop:=(D = [] ∧ v = .slice none 0 0) ∨ ∃ c,v = .slice (some ⟨g,0,none⟩) D.length c ∧ D.length ≤ c ∧ OM D g rs n w
theorem OR.ov (h : OR D rs n base w v) : ∃ g,OV D g rs n w v ∧ base ≤ g:=by
 rcases h.own.2 with ⟨e,e2⟩ | ⟨g,cap,cur,rfl,h3,h4,h5,h6,h7,h8⟩
 ·exact ⟨base,.inl ⟨List.eq_nil_of_length_eq_zero e2,e⟩,Nat.le_refl _⟩
 ·refine ⟨g,.inr ⟨cap,rfl,h5,?_⟩,h3⟩
  have hlt : g < w.heap.size:=by
   rcases Nat.lt_or_ge g w.heap.size with h | h
   ·exact h
   ·rw [Array.getElem?_eq_none h] at h4; cases h4
  refine ⟨hlt,h.len,fun i hi=>?_,fun t=>frozen_of_row w g t cur 27 h4,h.row,h.wid,h.nd,fun i hi e=>h.ng i hi (by rw [e]; rfl)⟩
  have:=h.own.cells (g:=g) rfl i (rowV n (rs.getD i 0)) (by
   rw [List.getElem?_map,List.getElem?_eq_getElem (by rw [h.len]; exact hi),List.getD_eq_getElem?_getD,List.getElem?_eq_getElem (by rw [h.len]; exact hi)]; rfl)
  have hadd : (⟨g,0,none⟩ : Addr).add i = ⟨g,i,none⟩:=by unfold Addr.add; split <;> simp_all
  rw [hadd] at this
  exact this
end
theorem flat_take {α : Type} (Ms : List (List α)) {t : Nat} (ht : t < Ms.length) : (Ms.take (t + 1)).flatten = (Ms.take t).flatten ++ Ms.getD t []:=by
 rw [List.take_succ_eq_append_getElem ht,List.flatten_append]
 simp [List.getD_eq_getElem?_getD,List.getElem?_eq_getElem ht]
theorem flat_take_le {α : Type} (Ms : List (List α)) {t k : Nat} (ht : t < Ms.length) (hk : k < (Ms.getD t []).length) : ((Ms.take t).flatten ++ (Ms.getD t []).take k).length < Ms.flatten.length:=by
 have h:=congrArg List.length (List.take_append_drop (t + 1) Ms)
 have e : Ms.flatten = (Ms.take (t + 1)).flatten ++ (Ms.drop (t + 1)).flatten:=by rw [← List.flatten_append,List.take_append_drop]
 rw [e,flat_take Ms ht,List.length_append,List.length_append,List.length_append,List.length_take]
 omega
theorem take_snoc {α : Type} {d : α} {L : List α} {k : Nat} (hk : k < L.length) : L.take (k + 1) = L.take k ++ [L.getD k d]:=by
 rw [List.take_succ_eq_append_getElem hk,List.getD_eq_getElem?_getD,List.getElem?_eq_getElem hk]; rfl
theorem Row.rw' {R : List Nat} {g : Nat} {w : World} (h : Row R g w) : Rw R g w:=⟨h.lt,fun t ht=>h.cell ht,h.frozen⟩
abbrev BX (B : Nat) (F : Gf) (b cap n : Nat) (v : Value) (w : World) : Prop:=MB B F b cap n v w ∧ (∀ t,w.frozen? ⟨B,t,none⟩ = false) ∧ B < w.heap.size
theorem BX.bx {B b cap n : Nat} {F : Gf} {v : Value} {w w' : World} (h : BX B F b cap n v w) {S : Nat → Prop} (hb : Bx S w w') (hs : ¬ S B) : BX B F b cap n v w':=
 ⟨MB.bx h.1 hb h.2.2 hs,fun t=>(World.frozen?_of_block (w:=w) (hb.block B h.2.2 hs)).trans (h.2.1 t),Nat.lt_of_lt_of_le h.2.2 hb.size⟩
theorem BX.put {B b cap n : Nat} {F : Gf} {v : Value} {w : World} (h : BX B F b cap n v w) (u : Value) : BX B F b cap n u (w.setCell ⟨B,4,none⟩ u):=by
 obtain ⟨⟨h0,h1,h2,h3,h4⟩,hf,hl⟩:=h
 refine ⟨⟨?_,?_,?_,?_,World.cell?_setCell_same _ _ _ h4⟩,fun t=>by rw [World.frozen?_setCell]; exact hf t,by simpa [World.setCell] using hl⟩
 ·rw [World.cell?_setCell_other _ _ _ _ (by simp),h0]
 ·rw [World.cell?_setCell_other _ _ _ _ (by simp),h1]
 ·rw [World.cell?_setCell_other _ _ _ _ (by simp),h2]
 ·rw [World.cell?_setCell_other _ _ _ _ (by simp),h3]
theorem OR.past {D : List (List Nat)} {rs : List Nat} {n base : Nat} {w w' : World} {v : Value} (h : OR D rs n base w v) (hb : Bx (fun k=>w.heap.size ≤ k) w w') : OR D rs n base w' v:=
 h.bx (S:=fun _=>False) ⟨hb.os,hb.tape,hb.output,hb.size,fun k hk _=>hb.block k hk (by omega)⟩ fun _ _=>id
def OverP (F : Gf) (b cap n : Nat) (T : List (List Nat)) (W : World) (e : Ending) (w' : World) : Prop:=
 ∃ rs v,e = .returned (MV F b cap n v) ∧ OR T rs n W.heap.size w' v ∧ (T = [] → v = .slice none 0 0) ∧ W.heap.size < w'.heap.size ∧ Below W.heap.size W w'
set_option maxHeartbeats 6400000 in
theorem over_c {F : Gf} {b cap n c : Nat} {a : Option Addr} {Ms : List (List (List Nat))} {W : World} (hA : FldAt F b cap W) (hn : n ≤ 1000) (hl : Ms.length ≤ 1000) (ht : Ms.flatten.length ≤ 1000) (hw : ∀ t,t < Ms.length → ∀ k,k < (Ms.getD t []).length → ((Ms.getD t []).getD k []).length = n) (h : LM Ms W (.slice a Ms.length c)) :
  Calls Try.prog 54 #[FV F b cap,.int .i64 (n : Nat),.slice a Ms.length c] W (OverP F b cap n Ms.flatten W):=by
 obtain ⟨i0,hi,hz0,hz1,hz2⟩:=info_parts info3
 obtain ⟨j0,ji,jz0,jz1,jz2⟩:=info_parts info27
 obtain ⟨w0,hw0⟩ : ∃ w0,w0 = (((W.alloc (.cells #[.int .i64 F.p,.int .i64 F.e,FM F b cap] 29)).alloc (.cells #[.int .i64 0,.int .i64 0,.slice none 0 0,.int .i64 0,.slice none 0 0] 79)).alloc (.cells #[.int .i64 F.p,.int .i64 F.e,FM F b cap,.int .i64 (n : Nat),.slice none 0 0] 79)):=⟨_,rfl⟩
 have hal : Below W.heap.size W w0:=by rw [hw0]; exact (((Below.refl _ _).alloc (Nat.le_refl _) _).alloc (by simp) _).alloc (by simp; omega) _
 have HSZ : Hid (w0.heap.size = W.heap.size + 3):=Lib.hid (by rw [hw0]; simp)
 have HX0 : Hid (Bx (fun _=>False) W w0):=Lib.hid (Bx.of hal)
 have HBX : Hid (BX (W.heap.size + 1 + 1) F b cap n (.slice none 0 0) w0):=Lib.hid (by
  rw [hw0]; exact ⟨⟨World.cell?_alloc_at _ _ _ _ (by simp),World.cell?_alloc_at _ _ _ _ (by simp),World.cell?_alloc_at _ _ _ _ (by simp),World.cell?_alloc_at _ _ _ _ (by simp),World.cell?_alloc_at _ _ _ _ (by simp)⟩,fun t=>World.frozen?_alloc_at _ _ _ _ (by simp),by simp⟩)
 have HRB : Hid ((w0.cell? ⟨W.heap.size + 1,0,none⟩ = some (.int .i64 0) ∧ w0.cell? ⟨W.heap.size + 1,1,none⟩ = some (.int .i64 0) ∧ w0.cell? ⟨W.heap.size + 1,2,none⟩ = some (.slice none 0 0) ∧ w0.cell? ⟨W.heap.size + 1,3,none⟩ = some (.int .i64 0) ∧ w0.cell? ⟨W.heap.size + 1,4,none⟩ = some (.slice none 0 0)) ∧
   (∀ t,w0.frozen? ⟨W.heap.size + 1,t,none⟩ = false)):=Lib.hid (by
  rw [hw0]; exact ⟨⟨(World.cell?_alloc_lt _ _ _ (by simp)).trans (World.cell?_alloc_at _ _ _ _ (by simp)),(World.cell?_alloc_lt _ _ _ (by simp)).trans (World.cell?_alloc_at _ _ _ _ (by simp)),(World.cell?_alloc_lt _ _ _ (by simp)).trans (World.cell?_alloc_at _ _ _ _ (by simp)),(World.cell?_alloc_lt _ _ _ (by simp)).trans (World.cell?_alloc_at _ _ _ _ (by simp)),(World.cell?_alloc_lt _ _ _ (by simp)).trans (World.cell?_alloc_at _ _ _ _ (by simp))⟩,fun t=>(World.frozen?_alloc_past _ _ _ (by simp)).trans (World.frozen?_alloc_at _ _ _ _ (by simp))⟩)
 have HAL:=Lib.hid hal
 have HL:=Lib.hid h
 have HWD:=Lib.hid hw
 have HTL:=Lib.hid ht
 have HW0:=Lib.hid hw0
 clear hA h hw ht hal hw0
 go_enter Try.func54,Try.ntmps54
 go_wp2
 rw [← HW0.out]
 clear HW0
 go_loopw [18] (fun i wr=>∃ (t : Nat) (D : List (List Nat)) (rs : List Nat) (v : Value),t ≤ Ms.length ∧ i = .int .i64 t ∧ Hid (D = (Ms.take t).flatten) ∧ Hid (OR D rs n (W.heap.size + 3) wr v) ∧ Hid (D = [] → v = .slice none 0 0) ∧ Hid (BX (W.heap.size + 1 + 1) F b cap n v wr) ∧ Hid (Bx (fun k=>W.heap.size + 2 ≤ k) w0 wr)) (fun i _=>Ms.length - (intOf i).toNat)
 case atStart=>exact ⟨0,[],[],_,Nat.zero_le _,rfl,Lib.hid rfl,OR.nil _ _ _,Lib.hid (fun _=>rfl),HBX,Bx.refl _ _⟩
 case round =>
  obtain ⟨t,D,rs,v,ht,rfl,HD,HO,HZ,HB,KB⟩:=hrel
  by_cases hlt : t < Ms.length
  ·obtain ⟨L,hL⟩ : ∃ L,Ms.getD t [] = L:=⟨_,rfl⟩
   have HBB : Hid (Below W.heap.size W wr):=Lib.hid (HAL.out.trans (KB.out.below (by have:=HSZ.out; omega) fun k hk=>by omega))
   obtain ⟨b1,o1,rfl,a1,c1,hc,hnL⟩:=HL.out.at hlt
   have hc:=(HBB.out.cell (World.block_lt_of_cell? W _ hc)).trans hc
   have HLT:=Lib.hid hlt
   have ht5 : t < 1000:=by omega
   have HWL:=Lib.hid (HWD.out t hlt)
   have HFL:=Lib.hid (fun k hk=>Nat.lt_of_lt_of_le (flat_take_le Ms (k:=k) hlt hk) HTL.out)
   have HFT : Hid ((Ms.take (t + 1)).flatten = D ++ L):=Lib.hid (by rw [flat_take Ms hlt,HD.out,hL])
   rw [← HD.out] at HFL
   rw [hL] at hc hnL HWL HFL
   have HNL:=Lib.hid hnL
   have HX:=Lib.hid hL
   clear hL hnL
   have hlL : L.length ≤ 1000:=by
    rcases Nat.eq_zero_or_pos L.length with e | e
    ·omega
    ·have:=HFL.out (L.length - 1) (by omega); rw [List.length_append,List.length_take] at this; omega
   go_wp2
   go_loopw [24] (fun i wr=>∃ (k : Nat) (rs : List Nat) (v : Value),k ≤ L.length ∧ i = .int .i64 k ∧ Hid (OR (D ++ L.take k) rs n (W.heap.size + 3) wr v) ∧ Hid (D ++ L.take k = [] → v = .slice none 0 0) ∧ Hid (BX (W.heap.size + 1 + 1) F b cap n v wr) ∧ Hid (Bx (fun k=>W.heap.size + 2 ≤ k) w0 wr)) (fun i _=>L.length - (intOf i).toNat)
   case atStart=>exact ⟨0,rs,v,Nat.zero_le _,rfl,Lib.hid (by rw [List.take_zero,List.append_nil]; exact HO.out),Lib.hid (by rw [List.take_zero,List.append_nil]; exact HZ.out),HB,KB⟩
   case round =>
    obtain ⟨k,rs,v,hk,rfl,HO1,HZ1,HB1,KB1⟩:=hrel
    by_cases hlt1 : k < L.length
    ·obtain ⟨x,hx⟩ : ∃ x,L.getD k [] = x:=⟨_,rfl⟩
     have HBB1 : Hid (Below W.heap.size W wr):=Lib.hid (HAL.out.trans (KB1.out.below (by have:=HSZ.out; omega) fun k hk=>by omega))
     obtain ⟨b2,o2,rfl,a2,c2,hc2,hn2⟩:=(HNL.out.below HBB1.out).at hlt1
     have hxn:=HWL.out k hlt1
     rw [hx] at hc2 hn2 hxn
     rw [hxn] at hc2 hn2
     have HN2:=Lib.hid hn2
     have HX1:=Lib.hid hx
     have HXN:=Lib.hid hxn
     have hk5 : k < 1000:=by omega
     clear hx hn2 hxn
     go_wp2_with (refine wpList_make_full _ rfl _ _ 27 rfl (W.heap.size + 3) 3 i0 (.int .i64 0) 1 Try.underlying27 hi hz0 hz1 .i64 .i64 (n : Int) (n : Int) n rfl rfl rfl rfl (by rw [hz2]; omega) (by unfold maxLen; omega) ?c0 ?_)
     case c0=>have:=HSZ.out; have:=KB1.out.size; omega
     intro w1 hown hgrow
     have HROW : Hid (Row (List.replicate n 0) wr.heap.size w1):=Lib.hid (Row.of_own (n:=n) (base:=W.heap.size + 3) (by
      have e:=toList_madeCells_one (Value.int .i64 0) n
      rw [List.map_replicate,show N64 0 = Value.int .i64 0 from rfl,← e]
      simpa using hown) (by simp))
     have HG1 : Hid (Bx (fun _=>False) wr w1):=Lib.hid (Bx.of ((Below.refl _ _).grown hgrow (by simp) (fun k hk=>by cases hk)))
     clear hown hgrow
     go_wp2_with (refine wpList_copy_splice rfl (.tmp 30) (.tmp 31) 27 27 rfl 3 Try.underlying27 size3 (some ⟨wr.heap.size,0,none⟩) a2 n n n c2 rfl rfl wr.heap.size 0 ((List.replicate n 0).map N64) 3 HROW.out.heap (x.map N64) ?c1 ?c2 ?c3 ?c4 wr.heap.size w1 (Below.refl _ _) (Nat.le_refl _) ?_)
     case c1 =>
      rw [List.length_map,HXN.out]; show n = min n n; omega
     case c2 =>
      intro hp
      rcases HN2.out.bx HG1.out (fun _ _ _ _ _=>id) with ⟨e,h⟩ | ⟨b',off',cap',h,g1,g2,g3⟩
      ·rw [e] at hp; simp at hp
      ·cases h
       exact ⟨_,rfl,fun j a h=>num_cellsK g3 j _ (by rw [List.getElem?_map,h]; rfl)⟩
     case c3=>rw [List.length_map,HXN.out]; simp
     case c4 =>
      intro v hv
      obtain ⟨x,_,rfl⟩:=List.mem_map.1 hv
      rfl
     intro w2 hg2 hb2
     have HROW2 : Hid (Rw x wr.heap.size w2):=Lib.hid (Row.rw' (by
      refine Row.of_heap (base:=0) (by rw [HXN.out]; unfold maxLen; omega) ?_
      have e : x.map N64 = splice ((List.replicate n 0).map N64) 0 (x.map N64):=by
       simp [splice,HXN.out]
      rw [e]
      have h2:=hg2.out
      rw [show (List.map N64 (List.replicate n 0)) = List.replicate n (N64 0) from List.map_replicate]
      exact h2))
     have HG2 : Hid (Bx (fun k=>wr.heap.size ≤ k) wr w2):=Lib.hid ((HG1.out.mono fun _ e=>e.elim).trans ⟨hb2.os,hb2.tape,hb2.output,hb2.size,fun k hk hs=>hb2.block k (by omega)⟩)
     have HS2 : Hid (wr.heap.size < w2.heap.size):=Lib.hid HROW2.out.lt
     have HBX2 : Hid (BX (W.heap.size + 1 + 1) F b cap n v w2):=Lib.hid (HB1.out.bx HG2.out (by have:=HB1.out.2.2; omega))
     have HO2 : Hid (OR (D ++ L.take k) rs n (W.heap.size + 3) w2 v):=Lib.hid (HO1.out.past HG2.out)
     have HFR:=Lib.hid (HO1.out.fresh (Nat.le_refl _))
     have HKS : Hid (W.heap.size + 3 ≤ wr.heap.size):=Lib.hid (by have:=HSZ.out; have:=KB1.out.size; omega)
     have HDL : Hid ((D ++ L.take k).length < 1000):=Lib.hid (HFL.out k hlt1)
     obtain ⟨⟨x0,x1,x2,x3,x4⟩,xf,xl⟩:=HBX2.out
     have f4:=xf 4
     clear hg2 hb2 HROW HG1 HB1 HO1 xf
     go_wp2_with (at_builtin; refine wpList_append_own_at _ rfl _ _ 30 rfl (W.heap.size + 3) 27 j0 (.slice none 0 0) 1 24 Try.underlying30 ji jz0 jz1 jz2 rfl (by decide) _ _ _ rfl (HO2.out.own.alloc _) ⟨w2.heap.size,0,none⟩ 1 1 [rowV n wr.heap.size] rfl rfl ?d1 ?d2 ?d3 ?d4 ?d5 ?_)
     case d1=>exact cell_one_new _ _ _
     case d2=>intro u hu; simp at hu; subst hu; rfl
     case d3=>have:=HDL.out; unfold maxLen; omega
     case d4=>have:=HDL.out; omega
     case d5=>have:=HKS.out; have:=HS2.out; simp; omega
     intro v' w3 hown' hgrow hnil hat
     have hal2 : Bx (fun _=>False) w2 (w2.alloc (.cells #[rowV n wr.heap.size] 27)):=Bx.of ((Below.refl _ _).alloc (Nat.le_refl _) _)
     have HO3 : Hid (OR (D ++ L.take k ++ [x]) (rs ++ [wr.heap.size]) n (W.heap.size + 3) w3 v'):=Lib.hid (OR.push (HO2.out.bx hal2 fun _ _=>id) (HROW2.out.bx hal2 id) HXN.out HKS.out HFR.out.1 HFR.out.2 (by simp; omega) hown' hgrow (by simpa using hat))
     obtain ⟨av,nv,cv,hvs⟩ : ∃ a m c,v' = .slice a m c:=by obtain ⟨a,c,e⟩:=HO3.out.shape; exact ⟨a,_,c,e⟩
     have hb3 : Bx (fun k=>W.heap.size + 3 ≤ k) w2 w3:=(hal2.mono fun _ e=>e.elim).trans (Bx.grown hgrow fun k hk=>(HO2.out.own.lt k hk).1)
     have HBX3 : Hid (BX (W.heap.size + 1 + 1) F b cap n v w3):=Lib.hid (HBX2.out.bx hb3 (by omega))
     have HKB3 : Hid (Bx (fun k=>W.heap.size + 2 ≤ k) w0 w3):=Lib.hid ((KB1.out.trans (HG2.out.mono fun k hk=>by have:=HKS.out; omega)).trans (hb3.mono fun k hk=>by omega))
     clear hown' hgrow hnil hat hal2 hb3
     subst hvs
     clear x0 x1 x2 x3 x4 f4 xl HBX2 HO2 HROW2 HG2 HFR KB1
     obtain ⟨⟨x0,x1,x2,x3,x4⟩,xf,xl⟩:=HBX3.out
     have f4:=xf 4
     clear xf
     have HBX4 : Hid (BX (W.heap.size + 1 + 1) F b cap n (.slice av nv cv) (w3.setCell ⟨W.heap.size + 1 + 1,4,none⟩ (.slice av nv cv))):=Lib.hid (HBX3.out.put (.slice av nv cv))
     have hb4 : Bx (fun k=>k = W.heap.size + 1 + 1) w3 (w3.setCell ⟨W.heap.size + 1 + 1,4,none⟩ (.slice av nv cv)):=Bx.set (S:=fun k=>k = W.heap.size + 1 + 1) rfl _
     have HO4 : Hid (OR (D ++ L.take (k + 1)) (rs ++ [wr.heap.size]) n (W.heap.size + 3) (w3.setCell ⟨W.heap.size + 1 + 1,4,none⟩ (.slice av nv cv)) (.slice av nv cv)):=Lib.hid (by
      rw [take_snoc (d:=[]) hlt1,HX1.out,← List.append_assoc]; exact HO3.out.bx hb4 fun k hk e=>by omega)
     have HKB4 : Hid (Bx (fun k=>W.heap.size + 2 ≤ k) w0 (w3.setCell ⟨W.heap.size + 1 + 1,4,none⟩ (.slice av nv cv))):=Lib.hid (HKB3.out.trans (hb4.mono fun k hk=>by omega))
     clear hb4
     go_wp2
     go_roundw
     case rel=>exact ⟨k + 1,rs ++ [wr.heap.size],.slice av nv cv,by omega,by go_num,HO4,Lib.hid (fun e=>by rw [take_snoc (d:=[]) hlt1] at e; simp at e),HBX4,HKB4⟩
     case measure=>simp [intOf]; omega
    ·obtain rfl : k = L.length:=by omega
     have hlt2 : ¬ (L.length : Int) < (L.length : Int):=by omega
     have HO5 : Hid (OR ((Ms.take (t + 1)).flatten) rs n (W.heap.size + 3) wr v):=Lib.hid (by rw [HFT.out,← List.take_length (l:=L)]; simpa using HO1.out)
     have HZ5 : Hid ((Ms.take (t + 1)).flatten = [] → v = .slice none 0 0):=Lib.hid (by rw [HFT.out,← List.take_length (l:=L)]; simpa using HZ1.out)
     go_wp2
     go_roundw
     case rel=>exact ⟨t + 1,(Ms.take (t + 1)).flatten,rs,v,by have:=HLT.out; omega,by go_num,Lib.hid rfl,HO5,HZ5,HB1,KB1⟩
     case measure=>have:=HLT.out; simp [intOf]; omega
  ·have HE : Hid (D = Ms.flatten):=Lib.hid (by rw [HD.out,List.take_of_length_le (by omega)])
   have hlt1 : ¬ (t : Int) < (Ms.length : Int):=by omega
   have hS : ¬ W.heap.size + 2 ≤ W.heap.size + 1:=by omega
   obtain ⟨⟨x0,x1,x2,x3,x4⟩,xf,xl⟩:=HB.out
   have hcl : ∀ t,wr.cell? ⟨W.heap.size + 1,t,none⟩ = w0.cell? ⟨W.heap.size + 1,t,none⟩:=fun t=>KB.out.cell (by show W.heap.size + 1 < _; have:=HSZ.out; omega) hS
   have hfl : ∀ t,wr.frozen? ⟨W.heap.size + 1,t,none⟩ = false:=fun t=>(World.frozen?_of_block (w:=w0) (KB.out.block _ (by show W.heap.size + 1 < _; have:=HSZ.out; omega) hS)).trans (HRB.out.2 t)
   obtain ⟨⟨r0,r1,r2,r3,r4⟩,-⟩:=HRB.out
   rw [← hcl] at r0 r1 r2 r3 r4
   have g0:=hfl 0
   have g1:=hfl 1
   have g2:=hfl 2
   have g3:=hfl 3
   have g4:=hfl 4
   have HC5 : Hid (∀ u0 u1 u2 u3 u4,Bx (fun j=>j = W.heap.size + 1) wr (((((wr.setCell ⟨W.heap.size + 1,0,none⟩ u0).setCell ⟨W.heap.size + 1,1,none⟩ u1).setCell ⟨W.heap.size + 1,2,none⟩ u2).setCell ⟨W.heap.size + 1,3,none⟩ u3).setCell ⟨W.heap.size + 1,4,none⟩ u4)):=
    Lib.hid fun _ _ _ _ _=>by
     have e : ∀ (w : World) (t : Nat) (u : Value),Bx (fun j=>j = W.heap.size + 1) w (w.setCell ⟨W.heap.size + 1,t,none⟩ u):=fun w t u=>Bx.set (S:=fun j=>j = W.heap.size + 1) rfl u
     exact ((((e _ _ _).trans (e _ _ _)).trans (e _ _ _)).trans (e _ _ _)).trans (e _ _ _)
   obtain ⟨av,nv,cv,hvs⟩ : ∃ a m c,v = .slice a m c:=by obtain ⟨a,c,e⟩:=HO.out.shape; exact ⟨a,_,c,e⟩
   subst hvs
   clear hcl hfl xf xl HB
   go_wp2
   have hb6:=HC5.out (.int .i64 F.p) (.int .i64 F.e) (.slice (some ⟨b,0,none⟩) F.e cap) (.int .i64 (n : Nat)) (.slice av nv cv)
   refine bodyPost_ret (v:=MV F b cap n (.slice av nv cv)) (by simp [results,Try.results54,go_sem,r0,r1,r2,r3,r4]) rfl ?_
   have hbA:=HAL.out.trans (KB.out.below (B:=W.heap.size) (by have:=HSZ.out; omega) fun k hk=>by omega)
   have ho:=(HO.out.bx hb6 fun k hk=>by omega).weak (b':=W.heap.size) (by omega)
   rw [HE.out] at ho
   exact ⟨rs,.slice av nv cv,rfl,ho,fun e=>HZ.out (by rw [HE.out]; exact e),by have:=HSZ.out; have:=KB.out.size; have:=hb6.size; omega,hbA.trans (hb6.below hbA.size fun k hk=>by omega)⟩
set_option maxHeartbeats 6400000 in
theorem raise_nil {F : Gf} {b cap n at' col : Nat} {W : World} :
  Calls Try.prog 96 #[MV F b cap n (.slice none 0 0),.int .i64 (at' : Nat),.int .i64 (col : Nat)] W fun e w'=>e = .returned (.bool false) ∧ Below W.heap.size W w':=by
 have HB0 : Hid (Below W.heap.size W (W.alloc (.cells #[.int .i64 F.p,.int .i64 F.e,FM F b cap,.int .i64 (n : Nat),.slice none 0 0] 79))):=Lib.hid ((Below.refl _ _).alloc (Nat.le_refl _) _)
 have h0 : ¬ (at' : Int) < 0:=by omega
 go_enter Try.func96,Try.ntmps96
 go_wp2
 go_loopw [7] (fun i wr=>i = .int .i64 at' ∧ wr = (W.alloc (.cells #[.int .i64 F.p,.int .i64 F.e,FM F b cap,.int .i64 (n : Nat),.slice none 0 0] 79))) (fun i _=>0)
 case atStart=>exact ⟨rfl,rfl⟩
 case round =>
  obtain ⟨rfl,rfl⟩:=hrel
  go_wp2
  go_ret
  exact ⟨rfl,HB0.out⟩
set_option maxHeartbeats 6400000 in
theorem sweep_nil {F : Gf} {b cap n cols : Nat} {W : World} (hcn : cols ≤ 1000) :
  Calls Try.prog 82 #[MV F b cap n (.slice none 0 0),.int .i64 (cols : Nat)] W fun e w'=>e = .returned (.slice none 0 0) ∧ Below W.heap.size W w':=by
 have HB0 : Hid (Below W.heap.size W (W.alloc (.cells #[.int .i64 F.p,.int .i64 F.e,FM F b cap,.int .i64 (n : Nat),.slice none 0 0] 79))):=Lib.hid ((Below.refl _ _).alloc (Nat.le_refl _) _)
 have HM0 : Hid (MB W.heap.size F b cap n (.slice none 0 0) (W.alloc (.cells #[.int .i64 F.p,.int .i64 F.e,FM F b cap,.int .i64 (n : Nat),.slice none 0 0] 79))):=Lib.hid ⟨World.cell?_alloc_at _ _ _ _ rfl,World.cell?_alloc_at _ _ _ _ rfl,World.cell?_alloc_at _ _ _ _ rfl,World.cell?_alloc_at _ _ _ _ rfl,World.cell?_alloc_at _ _ _ _ rfl⟩
 have HS0 : Hid (W.heap.size < (W.alloc (.cells #[.int .i64 F.p,.int .i64 F.e,FM F b cap,.int .i64 (n : Nat),.slice none 0 0] 79)).heap.size):=Lib.hid (by simp)
 go_enter Try.func82,Try.ntmps82
 go_wp2
 go_loopw [5,9] (fun v i wr=>∃ (k : Nat),k ≤ cols ∧ i = .int .i64 k ∧ v = .slice none 0 0 ∧ Hid (Below (W.heap.size + 1) (W.alloc (.cells #[.int .i64 F.p,.int .i64 F.e,FM F b cap,.int .i64 (n : Nat),.slice none 0 0] 79)) wr)) (fun _ i _=>cols - (intOf i).toNat)
 case atStart=>exact ⟨0,Nat.zero_le _,rfl,rfl,Below.refl _ _⟩
 case round =>
  obtain ⟨k,hk,rfl,rfl,KB⟩:=hrel
  obtain ⟨x0,x1,x2,x3,x4⟩:=MB.bx HM0.out (S:=fun k=>W.heap.size + 1 ≤ k) ⟨KB.out.os,KB.out.tape,KB.out.output,KB.out.size,fun k hk hs=>KB.out.block k (by omega)⟩ HS0.out (by omega)
  by_cases hlt : k < cols
  ·have hk5 : k < 1000:=by omega
   have HR : Hid (Calls Try.prog 96 #[MV F b cap n (.slice none 0 0),.int .i64 0,.int .i64 (k : Nat)] wr fun e w'=>e = .returned (.bool false) ∧ Below wr.heap.size wr w'):=Lib.hid (raise_nil (at':=0))
   go_wp2_with fail
   with_reducible refine HR.out.mono ?_
   rintro z w1 ⟨rfl,hb⟩
   have HB1 : Hid (Below (W.heap.size + 1) (W.alloc (.cells #[.int .i64 F.p,.int .i64 F.e,FM F b cap,.int .i64 (n : Nat),.slice none 0 0] 79)) w1):=Lib.hid (KB.out.trans (hb.mono (by have:=KB.out.size; have:=HS0.out; omega)))
   clear hb x0 x1 x2 x3 x4
   go_wp2
   go_roundw
   case rel=>exact ⟨k + 1,by omega,by go_num,rfl,HB1⟩
   case measure=>simp [intOf]; omega
  ·have hlt1 : ¬ (k : Int) < (cols : Int):=by omega
   have HBF : Hid (Below W.heap.size W wr):=Lib.hid (HB0.out.trans (KB.out.mono (by omega)))
   clear x0 x1 x2 x3 x4
   go_wp2
   go_ret
   exact ⟨rfl,HBF.out⟩
set_option maxHeartbeats 6400000 in
theorem reduced_nil {F : Gf} {b cap n : Nat} {W : World} (hn : n ≤ 1000) :
  Calls Try.prog 59 #[MV F b cap n (.slice none 0 0)] W fun e w'=>e = .returned (.tuple #[MV F b cap n (.slice none 0 0),.slice none 0 0]) ∧ Below W.heap.size W w':=by
 obtain ⟨w0,hw0⟩ : ∃ w0,w0 = ((W.alloc (.cells #[.int .i64 F.p,.int .i64 F.e,FM F b cap,.int .i64 (n : Nat),.slice none 0 0] 79)).alloc (.cells #[.int .i64 0,.int .i64 0,.slice none 0 0,.int .i64 0,.slice none 0 0] 79)):=⟨_,rfl⟩
 have HAL : Hid (Below W.heap.size W w0):=Lib.hid (by rw [hw0]; exact ((Below.refl _ _).alloc (Nat.le_refl _) _).alloc (by simp) _)
 have HS : Hid (w0.heap.size = W.heap.size + 2):=Lib.hid (by rw [hw0]; simp)
 have HMB : Hid (BX W.heap.size F b cap n (.slice none 0 0) w0):=Lib.hid (by rw [hw0]; exact ⟨⟨(World.cell?_alloc_lt _ _ _ (by simp)).trans (World.cell?_alloc_at _ _ _ _ rfl),(World.cell?_alloc_lt _ _ _ (by simp)).trans (World.cell?_alloc_at _ _ _ _ rfl),(World.cell?_alloc_lt _ _ _ (by simp)).trans (World.cell?_alloc_at _ _ _ _ rfl),(World.cell?_alloc_lt _ _ _ (by simp)).trans (World.cell?_alloc_at _ _ _ _ rfl),(World.cell?_alloc_lt _ _ _ (by simp)).trans (World.cell?_alloc_at _ _ _ _ rfl)⟩,fun t=>(World.frozen?_alloc_past _ _ _ (by simp)).trans (World.frozen?_alloc_at _ _ _ _ rfl),by simp; omega⟩)
 have HMR : Hid ((w0.cell? ⟨W.heap.size + 1,0,none⟩ = some (.int .i64 0) ∧ w0.cell? ⟨W.heap.size + 1,1,none⟩ = some (.int .i64 0) ∧ w0.cell? ⟨W.heap.size + 1,2,none⟩ = some (.slice none 0 0) ∧ w0.cell? ⟨W.heap.size + 1,3,none⟩ = some (.int .i64 0) ∧ w0.cell? ⟨W.heap.size + 1,4,none⟩ = some (.slice none 0 0)) ∧
   (∀ t,w0.frozen? ⟨W.heap.size + 1,t,none⟩ = false)):=Lib.hid (by
  rw [hw0]; exact ⟨⟨World.cell?_alloc_at _ _ _ _ (by simp),World.cell?_alloc_at _ _ _ _ (by simp),World.cell?_alloc_at _ _ _ _ (by simp),World.cell?_alloc_at _ _ _ _ (by simp),World.cell?_alloc_at _ _ _ _ (by simp)⟩,fun t=>World.frozen?_alloc_at _ _ _ _ (by simp)⟩)
 have HW0:=Lib.hid hw0
 clear hw0
 go_enter Try.func59,Try.ntmps59
 go_wp2_with fail
 rw [← HW0.out]
 clear HW0
 with_reducible refine (sweep_nil hn).mono ?_
 rintro z w1 ⟨rfl,hb⟩
 have hbx : Bx (fun _=>False) w0 w1:=Bx.of hb
 obtain ⟨⟨x0,x1,x2,x3,x4⟩,xf,xl⟩:=HMB.out.bx hbx id
 have f4:=xf 4
 have hcl : ∀ t,w1.cell? ⟨W.heap.size + 1,t,none⟩ = w0.cell? ⟨W.heap.size + 1,t,none⟩:=fun t=>hbx.cell (by show W.heap.size + 1 < _; have:=HS.out; omega) id
 have hfl : ∀ t,w1.frozen? ⟨W.heap.size + 1,t,none⟩ = false:=fun t=>(World.frozen?_of_block (w:=w0) (hbx.block _ (by show W.heap.size + 1 < _; have:=HS.out; omega) id)).trans (HMR.out.2 t)
 obtain ⟨⟨r0,r1,r2,r3,r4⟩,-⟩:=HMR.out
 rw [← hcl] at r0 r1 r2 r3 r4
 have g0:=hfl 0
 have g1:=hfl 1
 have g2:=hfl 2
 have g3:=hfl 3
 have g4:=hfl 4
 have HC6 : Hid (∀ u0 u1 u2 u3 u4 u5,Bx (fun j=>W.heap.size ≤ j) w1 ((((((w1.setCell ⟨W.heap.size,4,none⟩ u0).setCell ⟨W.heap.size + 1,0,none⟩ u1).setCell ⟨W.heap.size + 1,1,none⟩ u2).setCell ⟨W.heap.size + 1,2,none⟩ u3).setCell ⟨W.heap.size + 1,3,none⟩ u4).setCell ⟨W.heap.size + 1,4,none⟩ u5)):=
  Lib.hid fun _ _ _ _ _ _=>by
   have e : ∀ (w : World) (g t : Nat) (u : Value),W.heap.size ≤ g → Bx (fun j=>W.heap.size ≤ j) w (w.setCell ⟨g,t,none⟩ u):=fun w g t u h=>Bx.set (S:=fun j=>W.heap.size ≤ j) h u
   exact (((((e _ _ _ _ (Nat.le_refl _)).trans (e _ _ _ _ (by omega))).trans (e _ _ _ _ (by omega))).trans (e _ _ _ _ (by omega))).trans (e _ _ _ _ (by omega))).trans (e _ _ _ _ (by omega))
 have HBF : Hid (Below W.heap.size W w1):=Lib.hid (HAL.out.trans (hb.mono HAL.out.size))
 clear hcl hfl hb hbx xf xl HMB
 go_wp2
 have hb6:=HC6.out (.slice none 0 0) (.int .i64 F.p) (.int .i64 F.e) (.slice (some ⟨b,0,none⟩) F.e cap) (.int .i64 (n : Nat)) (.slice none 0 0)
 refine bodyPost_ret (v:=.tuple #[MV F b cap n (.slice none 0 0),.slice none 0 0]) (by simp [results,Try.results59,go_sem,r0,r1,r2,r3,r4]) rfl ?_
 exact ⟨rfl,HBF.out.trans (hb6.below HBF.out.size fun k hk=>hk)⟩
def RedP (F : Gf) (b cap n : Nat) (M0 : List (List Nat)) (rs0 : List Nat) (g : Nat) (W : World) (e : Ending) (w' : World) : Prop:=
 ∃ rs v a ca,e = .returned (.tuple #[MV F b cap n v,.slice a (pivM F n M0).length ca]) ∧ NN (pivM F n M0) w' (.slice a (pivM F n M0).length ca) ∧ OV (redM F n M0) g rs n w' v ∧
  (∀ i,i < (redM F n M0).length → ∃ j,j < M0.length ∧ rs.getD i 0 = rs0.getD j 0) ∧ Bx (Mb M0 rs0 g) W w'
theorem redM_le {F : Gf} (hF : Ok F) {n : Nat} {M : List (List Nat)} (h : Mn F n M) : (redM F n M).length ≤ M.length:=by
 have:=(redL_ok hF (Mn.vs hF h)).2.2
 rw [List.length_map] at this
 unfold redM
 rw [List.length_map]
 exact this
theorem reduced_v {F : Gf} {b cap n : Nat} {M0 : List (List Nat)} {g : Nat} {rs0 : List Nat} {v : Value} {W : World} (hA : FldAt F b cap W) (hn : n ≤ 1000) (hl : M0.length ≤ 1000) (h : OV M0 g rs0 n W v) (hm : Mn F n M0) (hbg : b < g) (hb : ∀ i,i < M0.length → b < rs0.getD i 0) :
  Calls Try.prog 59 #[MV F b cap n v] W (RedP F b cap n M0 rs0 g W):=by
 rcases h with ⟨rfl,rfl⟩ | ⟨c,rfl,hc,ho⟩
 ·refine (reduced_nil hn).mono ?_
  rintro e w1 ⟨rfl,hb1⟩
  exact ⟨[],.slice none 0 0,none,0,rfl,.inl ⟨rfl,rfl⟩,.inl ⟨rfl,rfl⟩,fun i hi=>absurd hi (by simp [redM,redL]),Bx.of hb1⟩
 ·refine (reduced_c hA hn hl hc ho hm (by omega) fun i hi=>by have:=hb i hi; omega).mono ?_
  rintro e w1 ⟨rs,a,ca,rfl,h1,h2,h3,h4⟩
  exact ⟨rs,_,a,ca,rfl,h1,.inr ⟨c,rfl,Nat.le_trans (redM_le (ok_mem hA.mem) hm) hc,h2⟩,h3,h4⟩
end Go.Proofs.Yteeofijcndgbfaa
