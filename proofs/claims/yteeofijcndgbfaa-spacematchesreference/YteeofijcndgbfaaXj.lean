/- SolveIn of the reference. -/
import Derived.Test.YteeofijcndgbfaaEvTk
import Derived.Test.YteeofijcndgbfaaXg
import Derived.Test.YteeofijcndgbfaaTn
import Derived.Test.YteeofijcndgbfaaWd
namespace Go.Proofs.Yteeofijcndgbfaa
open Go.RowKit Go.Fl
set_option maxRecDepth 100000
set_option linter.unusedVariables false
set_option linter.unusedSimpArgs false
set_option linter.unusedSectionVars false
theorem Rg.share3 {G C : World → Value → Value → Value → Prop} {X : Prop} (h : Hid (∀ x a b c,C x a b c → G x a b c) → X) (hr : ∀ x a b c,C x a b c → G x a b c) : X:=h (Lib.hid hr)
theorem zero_o {n : Nat} {W : World} (hn : n ≤ 10000) : Calls Try.prog 44 #[.int .i64 (n : Nat)] W fun e w'=>∃ g c,e = .returned (.slice (some ⟨g,0,none⟩) n c) ∧ w'.ownsRow W.heap.size 3 1 (.slice (some ⟨g,0,none⟩) n c) n ((List.replicate n 0).map N64) ∧ Below W.heap.size W w':=by
 obtain ⟨i0,hi,hz0,hz1,hz2⟩:=info_parts info3
 go_enter Try.func44,Try.ntmps44
 go_wp2_with (refine wpList_make_full _ rfl _ _ 27 rfl W.heap.size 3 i0 (.int .i64 0) 1 Try.underlying27 hi hz0 hz1 .i64 .i64 (n : Int) (n : Int) n rfl rfl rfl rfl (by rw [hz2]; omega) (by unfold maxLen; omega) (Nat.le_refl _) ?_)
 intro w2 hown hgrow
 have HON : Hid (w2.ownsRow W.heap.size 3 1 (.slice (some ⟨W.heap.size,0,none⟩) n n) n ((List.replicate n 0).map N64)):=Lib.hid (by
  have e:=toList_madeCells_one (Value.int .i64 0) n
  rw [List.map_replicate,show N64 0 = Value.int .i64 0 from rfl,← e]
  simpa using hown)
 have HBF : Hid (Below W.heap.size W w2):=Lib.hid ((Below.refl _ _).grown hgrow (Nat.le_refl _) (fun k hk=>by cases hk))
 clear hown hgrow
 go_wp2
 go_ret
 exact ⟨_,_,rfl,HON.out,HBF.out⟩
abbrev SV5 (F : Gf) (b cap n B : Nat) (mv : Value) (b1 o1 b2 o2 : Nat) (u1 u2 : Value) (base : Nat) (wr w : World) : Prop:=MB B F b cap n mv w ∧ w.cell? ⟨b1,o1,none⟩ = some u1 ∧ w.cell? ⟨b2,o2,none⟩ = some u2 ∧ Hid (Below base wr w ∧ base ≤ w.heap.size ∧ B < base ∧ b1 < base ∧ b2 < base)
theorem SV5.go {F : Gf} {b cap n B b1 o1 b2 o2 base : Nat} {mv u1 u2 : Value} {wr w w' : World} (h : SV5 F b cap n B mv b1 o1 b2 o2 u1 u2 base wr w) (hb : Below base w w') : SV5 F b cap n B mv b1 o1 b2 o2 u1 u2 base wr w':=by
 obtain ⟨⟨m0,m1,m2,m3,m4⟩,h2,h3,h4⟩:=h
 obtain ⟨g1,g2,g3,g4,g5⟩:=h4.out
 exact ⟨⟨(hb.cell (p:=⟨B,0,none⟩) g3).trans m0,(hb.cell (p:=⟨B,1,none⟩) g3).trans m1,(hb.cell (p:=⟨B,2,none⟩) g3).trans m2,(hb.cell (p:=⟨B,3,none⟩) g3).trans m3,(hb.cell (p:=⟨B,4,none⟩) g3).trans m4⟩,(hb.cell (p:=⟨b1,o1,none⟩) g4).trans h2,(hb.cell (p:=⟨b2,o2,none⟩) g5).trans h3,Lib.hid ⟨g1.trans hb,Nat.le_trans g2 hb.size,g3,g4,g5⟩⟩
theorem SV5.keep {F : Gf} {b cap n B b1 o1 b2 o2 base : Nat} {mv u1 u2 : Value} {wr w w' : World} (h : SV5 F b cap n B mv b1 o1 b2 o2 u1 u2 base wr w) (hb : Below w.heap.size w w') : SV5 F b cap n B mv b1 o1 b2 o2 u1 u2 base wr w':=h.go (hb.mono h.2.2.2.out.2.1)
theorem eq_row {F : Gf} {n m k : Nat} {A : List (List Nat)} {V : List Nat} (la : A.length = m) (lv : V.length = m) (hk : k < m) : (eqM A V).getD k [] = A.getD k [] ++ [V.getD k 0]:=by
 rw [besM_get (by omega) (by unfold colM; rw [List.length_map]; omega)]
 unfold colM
 rw [List.getD_eq_getElem?_getD (l:=List.map _ V),List.getElem?_map,List.getElem?_eq_getElem (by omega),List.getD_eq_getElem?_getD (l:=V),List.getElem?_eq_getElem (by omega)]; rfl
def SvO (s : Option (List Nat)) (W : World) (e : Ending) (w' : World) : Prop:=
 (s = none ∧ e = .returned (.agg #[.slice none 0 0,.int .i64 4]) ∧ Below W.heap.size W w') ∨
 ∃ x a c,s = some x ∧ e = .returned (.agg #[.slice a x.length c,.int .i64 0]) ∧ w'.ownsRow W.heap.size 3 1 (.slice a x.length c) x.length (x.map N64) ∧ Below W.heap.size W w'
theorem SvO.p {s : Option (List Nat)} {W : World} {e : Ending} {w' : World} (h : SvO s W e w') : SvP s W e w':=by
 rcases h with h | ⟨x,a,c,h1,h2,h3,h4⟩
 ·exact .inl h
 ·exact .inr ⟨x,a,c,h1,h2,NN.of_owns h3,h4⟩
set_option maxHeartbeats 12800000 in
theorem rsolve_o {F : Gf} {b cap n m ca cb : Nat} {A : List (List Nat)} {V : List Nat} {aa ab : Option Addr} {W : World} (hA : FldAt F b cap W) (h1 : 1 ≤ n) (hn : n ≤ 24) (hm : m ≤ 100) (la : A.length = m) (ma : Mn F n A) (mv : Vn F m V) (na : MM A W (.slice aa m ca)) (nv : NN V W (.slice ab m cb)) :
  Calls Try.prog 25 #[MV F b cap n (.slice aa m ca),.slice ab m cb] W (SvO (solM F n (eqM A V)) W):=by
 obtain ⟨i0,hi,hz0,hz1,hz2⟩:=info_parts info3
 obtain ⟨j0,ji,jz0,jz1,jz2⟩:=info_parts info27
 have HFF : Hid (Ok F):=Lib.hid (ok_mem hA.mem)
 obtain ⟨w0,hw0⟩ : ∃ w0,w0 = ((W.alloc (.cells #[.int .i64 F.p,.int .i64 F.e,FM F b cap,.int .i64 (n : Nat),.slice aa m ca] 32)).alloc (.cells #[.slice none 0 0,.int .i64 0] 46)):=⟨_,rfl⟩
 have hal : Below W.heap.size W w0:=by rw [hw0]; exact ((Below.refl _ _).alloc (Nat.le_refl _) _).alloc (by simp) _
 have HAL:=Lib.hid hal
 have HS0 : Hid (w0.heap.size = W.heap.size + 2):=Lib.hid (by rw [hw0]; simp)
 have HMB : Hid (MB W.heap.size F b cap n (.slice aa m ca) w0):=Lib.hid (by rw [hw0]; exact ⟨(World.cell?_alloc_lt _ _ _ (by simp)).trans (World.cell?_alloc_at _ _ _ _ rfl),(World.cell?_alloc_lt _ _ _ (by simp)).trans (World.cell?_alloc_at _ _ _ _ rfl),(World.cell?_alloc_lt _ _ _ (by simp)).trans (World.cell?_alloc_at _ _ _ _ rfl),(World.cell?_alloc_lt _ _ _ (by simp)).trans (World.cell?_alloc_at _ _ _ _ rfl),(World.cell?_alloc_lt _ _ _ (by simp)).trans (World.cell?_alloc_at _ _ _ _ rfl)⟩)
 have HRZ : Hid (w0.cell? ⟨W.heap.size + 1,0,none⟩ = some (.slice none 0 0) ∧ w0.cell? ⟨W.heap.size + 1,1,none⟩ = some (.int .i64 0) ∧ ∀ t,w0.frozen? ⟨W.heap.size + 1,t,none⟩ = false):=Lib.hid (by
  rw [hw0]; exact ⟨World.cell?_alloc_at _ _ _ _ (by simp),World.cell?_alloc_at _ _ _ _ (by simp),fun t=>World.frozen?_alloc_at _ _ _ _ (by simp)⟩)
 have HF0:=Lib.hid (hA.below hal)
 have HNA:=Lib.hid (na.below hal)
 have HNV:=Lib.hid (nv.below hal)
 have HMA:=Lib.hid ma
 have HLA:=Lib.hid la
 have HMV:=Lib.hid mv
 obtain ⟨bs,hbs⟩ : ∃ g,g = W.heap.size + 2:=⟨_,rfl⟩
 have HBS : Hid (bs = w0.heap.size):=Lib.hid (by rw [hbs,HS0.out])
 have HBW : Hid (W.heap.size + 1 < bs):=Lib.hid (by omega)
 obtain ⟨w2,hw2⟩ : ∃ w2,w2 = w0.alloc (.cells #[] 27):=⟨_,rfl⟩
 have HB2 : Hid (Below bs w0 w2):=Lib.hid (by rw [hw2,HBS.out]; exact (Below.refl _ _).alloc (Nat.le_refl _) _)
 have HO2 : Hid (OL [] [] bs w2 (.slice (some ⟨bs,0,none⟩) 0 0)):=Lib.hid (by rw [hw2,HBS.out]; exact OL.nil _ w0 (Nat.le_refl _))
 have HW2:=Lib.hid (by rw [hw0] at hw2; exact hw2)
 obtain ⟨E,hE⟩ : ∃ L,Hid (eqM A V = L):=⟨_,Lib.hid rfl⟩
 have HEL : Hid (E.length = m):=Lib.hid (by rw [← hE.out,besM_len la (by unfold colM; rw [List.length_map,mv.len])])
 have HEM : Hid (Mn F (n + 1) E):=Lib.hid (by rw [← hE.out]; exact eq_mn HFF.out ma la mv)
 have HER : Hid (∀ k,k < m → E.getD k [] = A.getD k [] ++ [V.getD k 0]):=Lib.hid (fun k hk=>by rw [← hE.out]; exact eq_row (F:=F) (n:=n) la mv.len hk)
 rw [hE.out]
 clear hw0 hw2 hal hA na nv ma mv la
 go_enter Try.func25,Try.ntmps25
 go_wp2
 rw [← HW2.out,← hbs]
 clear HW2 hbs
 go_loopw [5,6] (fun v i wr=>∃ (k : Nat) (us : List Value),k ≤ m ∧ i = .int .i64 k ∧ Hid (OL (E.take k) us bs wr v) ∧ Hid (Below bs w0 wr)) (fun _ i _=>m - (intOf i).toNat)
 case atStart=>exact ⟨0,[],Nat.zero_le _,rfl,HO2,HB2⟩
 case round =>
  obtain ⟨k,us,hk,rfl,HO,KB⟩:=hrel
  have HTL : Hid ((E.take k).length = k):=Lib.hid (by rw [List.length_take,HEL.out]; omega)
  obtain ⟨aP,cP,hvs⟩:=HO.out.shape
  rw [HTL.out] at hvs
  subst hvs
  obtain ⟨wo,hwo⟩ : ∃ w,w = wr:=⟨_,rfl⟩
  subst hwo
  have KBS : Hid (Below w0.heap.size w0 wo):=Lib.hid (by rw [← HBS.out]; exact KB.out)
  have HMBo : Hid (MB W.heap.size F b cap n (.slice aa m ca) wo):=Lib.hid (by
   obtain ⟨m0,m1,m2,m3,m4⟩:=HMB.out
   have hl : W.heap.size < w0.heap.size:=by have:=HS0.out; omega
   exact ⟨(KBS.out.cell (p:=⟨W.heap.size,0,none⟩) hl).trans m0,(KBS.out.cell (p:=⟨W.heap.size,1,none⟩) hl).trans m1,(KBS.out.cell (p:=⟨W.heap.size,2,none⟩) hl).trans m2,(KBS.out.cell (p:=⟨W.heap.size,3,none⟩) hl).trans m3,(KBS.out.cell (p:=⟨W.heap.size,4,none⟩) hl).trans m4⟩)
  obtain ⟨q0,q1,q2,q3,q4⟩:=HMBo.out
  have HKS : Hid (bs ≤ wo.heap.size):=Lib.hid (by rw [HBS.out]; exact KBS.out.size)
  by_cases hlt : k < m
  ·have hk5 : k < 100:=by omega
   have hkA : k < A.length:=by rw [HLA.out]; exact hlt
   obtain ⟨Y,hY⟩ : ∃ L,Hid (A.getD k [] = L):=⟨_,Lib.hid rfl⟩
   have HVY : Hid (Vn F n Y):=Lib.hid (by rw [← hY.out]; exact mrow HMA.out hkA)
   obtain ⟨y,hy⟩ : ∃ L,Hid (V.getD k 0 = L):=⟨_,Lib.hid rfl⟩
   have HSUC : Hid (E.take (k + 1) = E.take k ++ [Y ++ [y]]):=Lib.hid (by rw [take_snoc (d:=[]) (by rw [HEL.out]; exact hlt),HER.out k hlt,hY.out,hy.out])
   obtain ⟨b1,o1,rfl,a1,c1,hc1,hny⟩:=MM.at (R:=A) (by rw [HLA.out]; exact HNA.out) hkA
   rw [hY.out,HVY.out.len] at hc1 hny
   obtain ⟨b3,o3,rfl,-⟩:=hny.atm HVY.out.len (k:=0) (by omega)
   obtain ⟨b2,o2,rfl,hc2⟩:=HNV.out.atm HMV.out.len hlt
   rw [hy.out] at hc2
   have HNY:=Lib.hid hny
   have hl1:=World.block_lt_of_cell? w0 _ hc1
   have hl2:=World.block_lt_of_cell? w0 _ hc2
   have hS0 : SV5 F b cap n W.heap.size (.slice (some ⟨b1,o1,none⟩) m ca) b1 (o1 + k) b2 (o2 + k) (.slice (some ⟨b3,o3,none⟩) n c1) (.int .i64 (y : Nat)) bs wo wo.drew:=
    ⟨⟨q0,q1,q2,q3,q4⟩,(KBS.out.cell (p:=⟨b1,o1 + k,none⟩) hl1).trans hc1,(KBS.out.cell (p:=⟨b2,o2 + k,none⟩) hl2).trans hc2,Lib.hid ⟨(Below.refl _ _).drew,HKS.out,by have:=HBW.out; omega,by rw [HBS.out]; exact hl1,by rw [HBS.out]; exact hl2⟩⟩
   have hkli : (k : Int) < (m : Int):=by omega
   clear hc1 hc2 hny hkA hl1 hl2
   go_wp2_with fail
   clear q0 q1 q2 q3 q4
   refine wp_region_held_drew (S:=fun w'=>SV5 F b cap n W.heap.size (.slice (some ⟨b1,o1,none⟩) m ca) b1 (o1 + k) b2 (o2 + k) (.slice (some ⟨b3,o3,none⟩) n c1) (.int .i64 (y : Nat)) bs wo w') (by kernel_rfl) (by with_reducible exact hS0) (fun hHeld=>?_)
   obtain ⟨x0,hx0⟩ : ∃ x,x = wo.drew:=⟨_,rfl⟩
   have HBW0 : Hid (Below wo.heap.size wo x0):=Lib.hid (by rw [hx0]; exact (Below.refl _ _).drew)
   rw [← hx0] at hHeld ⊢
   clear hx0 hS0
   apply Rg.share3 (C:=fun x v19 v25 v30=>SV5 F b cap n W.heap.size (.slice (some ⟨b1,o1,none⟩) m ca) b1 (o1 + k) b2 (o2 + k) (.slice (some ⟨b3,o3,none⟩) n c1) (.int .i64 (y : Nat)) bs wo x ∧ Hid (Below wo.heap.size wo x) ∧ Hid (x.ownsRow wo.heap.size 3 1 v25 n (Y.map N64)) ∧ ∃ g3,Hid (v30 = .slice (some ⟨g3,0,none⟩) 1 1) ∧ Hid (x.cell? ⟨g3,0,none⟩ = some (.int .i64 (y : Nat))))
   case h =>
    intro hrest
    refine Rg.tk 0 ⟨some 18,.move (.tmp 5),30,"ref.go:203",#[],none⟩ ?_
    try simp only [Rg.gp]
    refine Rg.tk 2 ⟨some 20,.fieldAddr 32 (.tmp 2) 2,0,"ref.go:203",#[],none⟩ ?_
    try simp only [Rg.gp]
    refine Rg.tk 3 ⟨some 21,.load 30 (.tmp 20),30,"ref.go:203",#[⟨2,.data⟩],none⟩ ?_
    try simp only [Rg.gp]
    refine Rg.tk 4 ⟨some 22,.move (.tmp 6),3,"ref.go:203",#[],none⟩ ?_
    try simp only [Rg.gp]
    refine Rg.tk 5 ⟨some 23,.indexAddr 30 (.tmp 21) (.tmp 22),0,"ref.go:203",#[⟨3,.data⟩,⟨4,.data⟩],none⟩ ?_
    try simp only [Rg.gp]
    refine Rg.tk 6 ⟨some 24,.load 27 (.tmp 23),27,"ref.go:203",#[⟨5,.data⟩],none⟩ ?_
    try simp only [Rg.gp]
    refine Rg.tk 8 ⟨some 26,.move (.tmp 1),27,"ref.go:203",#[],none⟩ ?_
    try simp only [Rg.gp]
    refine Rg.tk 9 ⟨some 27,.move (.tmp 6),3,"ref.go:203",#[],none⟩ ?_
    try simp only [Rg.gp]
    refine Rg.tk 10 ⟨some 28,.indexAddr 27 (.tmp 26) (.tmp 27),0,"ref.go:203",#[⟨8,.data⟩,⟨9,.data⟩],none⟩ ?_
    try simp only [Rg.gp]
    refine Rg.tk 11 ⟨some 29,.load 3 (.tmp 28),3,"ref.go:203",#[⟨10,.data⟩],none⟩ ?_
    try simp only [Rg.gp]
    refine wpAnyH_ready (rs:=[1,12]) (by kernel_rfl) (by simp) ?_
    refine (AllReadyH.cons (o:=⟨some 19,.buildSlice 27 0 #[],27,"ref.go:203",#[],none⟩) rfl (fun K hK=>?_) (AllReadyH.cons (o:=⟨some 30,.buildSlice 27 1 #[(0,.tmp 29)],27,"ref.go:203",#[⟨11,.data⟩],none⟩) rfl (fun K hK=>?_) AllReadyH.nil))
    ·go_simp
     refine hK.out _ _ ?_ (fun hHeld=>?_)
     ·(try dsimp only)
      exact SV5.keep hHeld ((Below.refl _ _).alloc (Nat.le_refl _) _)
     clear hK K
     try simp only [Rg.gp]
     obtain ⟨g1,hg1⟩ : ∃ g,x0.heap.size = g:=⟨_,rfl⟩
     obtain ⟨y1,hy1⟩ : ∃ x,x = x0.alloc (.cells #[] 3):=⟨_,rfl⟩
     have HBA1 : Hid (Below x0.heap.size x0 y1):=Lib.hid (by rw [hy1]; exact (Below.refl _ _).alloc (Nat.le_refl _) _)
     have HBW1 : Hid (Below wo.heap.size wo y1):=Lib.hid (HBW0.out.trans (HBA1.out.mono HBW0.out.size))
     have HE1 : Hid (y1.ownsRow wo.heap.size 3 1 (.slice (some ⟨g1,0,none⟩) 0 0) 0 []):=Lib.hid (by rw [hy1,← hg1]; exact own_empty x0 wo.heap.size HBW0.out.size)
     rw [← hy1] at hHeld ⊢
     rw [hg1]
     obtain ⟨v19,hv19⟩ : ∃ v,v = Value.slice (some ⟨g1,0,none⟩) 0 0:=⟨_,rfl⟩
     rw [← hv19]
     have HV19:=Lib.hid hv19
     clear hy1 hg1 hv19
     refine wpAnyH_ready (rs:=[7,12]) (by kernel_rfl) (by simp) ?_
     refine (AllReadyH.cons (o:=⟨some 25,.call ⟨.builtin Builtin.append,#[.tmp 19,.tmp 24],#[27,27]⟩,27,"ref.go:203",#[⟨1,.data⟩,⟨6,.data⟩],none⟩) rfl (fun K hK=>?_) (AllReadyH.cons (o:=⟨some 30,.buildSlice 27 1 #[(0,.tmp 29)],27,"ref.go:203",#[⟨11,.data⟩],none⟩) rfl (fun K hK=>?_) AllReadyH.nil))
     ·refine step_append_own rfl _ _ 27 rfl wo.heap.size 3 i0 (.int .i64 0) 1 8 Try.underlying27 hi hz0 hz1 hz2 rfl (by decide) _ _ _ (show _ = Value.slice (some ⟨g1,0,none⟩) 0 0 from HV19.out) HE1.out ⟨b3,o3,none⟩ n c1 (Y.map N64) rfl (by rw [List.length_map,HVY.out.len,Nat.mul_one]) (num_cellsK fun t ht=>by
       have h:=(HNY.out.below (KBS.out.trans (HBW1.out.mono KBS.out.size))).atm HVY.out.len (k:=t) (by rw [← HVY.out.len]; exact ht)
       obtain ⟨b',o',e,h⟩:=h
       injection e with e; injection e with e1 e2
       subst e1 e2
       exact h) (fun u hu=>by obtain ⟨y,_,rfl⟩:=List.mem_map.1 hu; rfl) (by unfold maxLen; omega) (by omega) HBW1.out.size ?_
      intro v25 y7 hown7 hgrow7
      refine hK.out _ _ ?_ (fun hHeld=>?_)
      ·(try dsimp only)
       exact SV5.go hHeld ((below_own hgrow7 (fun k e=>(HE1.out.lt k e).1) HBW1.out.size).mono HKS.out)
      clear hK K
      try simp only [Rg.gp]
      have HBA7 : Hid (Below wo.heap.size y1 y7):=Lib.hid (below_own hgrow7 (fun k e=>(HE1.out.lt k e).1) HBW1.out.size)
      have HBW7 : Hid (Below wo.heap.size wo y7):=Lib.hid (HBW1.out.trans HBA7.out)
      have HE7 : Hid (y7.ownsRow wo.heap.size 3 1 v25 n (Y.map N64)):=Lib.hid (by have h:=hown7; rwa [Nat.zero_add,List.nil_append] at h)
      clear hown7 hgrow7
      refine Rg.rd1 12 ⟨some 30,.buildSlice 27 1 #[(0,.tmp 29)],27,"ref.go:203",#[⟨11,.data⟩],none⟩ fun K hK=>?_
      go_simp
      refine hK.out _ _ ?_ (fun hHeld=>?_)
      ·(try dsimp only)
       exact SV5.keep hHeld ((Below.refl _ _).alloc (Nat.le_refl _) _)
      clear hK K
      try simp only [Rg.gp]
      obtain ⟨g3,hg3⟩ : ∃ g,y7.heap.size = g:=⟨_,rfl⟩
      obtain ⟨y12,hy12⟩ : ∃ x,x = y7.alloc (.cells #[.int .i64 (y : Nat)] 3):=⟨_,rfl⟩
      have HBA12 : Hid (Below y7.heap.size y7 y12):=Lib.hid (by rw [hy12]; exact (Below.refl _ _).alloc (Nat.le_refl _) _)
      have HBW12 : Hid (Below wo.heap.size wo y12):=Lib.hid (HBW7.out.trans (HBA12.out.mono HBW7.out.size))
      have HC12 : Hid (y12.cell? ⟨g3,0,none⟩ = some (.int .i64 (y : Nat)) ∧ g3 < y12.heap.size ∧ True):=Lib.hid (by
       rw [hy12,← hg3]
       exact ⟨World.cell?_alloc_at _ _ _ _ rfl,by simp,trivial⟩)
      rw [← hy12] at hHeld ⊢
      rw [hg3]
      obtain ⟨v30,hv30⟩ : ∃ v,v = Value.slice (some ⟨g3,0,none⟩) 1 1:=⟨_,rfl⟩
      rw [← hv30]
      have HV30:=Lib.hid hv30
      replace HE7:=Lib.hid (own_belowK HE7.out HBA12.out)
      clear hy12 hg3 hv30
      exact hrest.out _ v19 v25 v30 ⟨hHeld,by first | exact HBW12 | exact HBW7,HE7,g3,HV30,Lib.hid (by first | exact HC7.out.1 | exact HC12.out.1)⟩
     ·go_simp
      refine hK.out _ _ ?_ (fun hHeld=>?_)
      ·(try dsimp only)
       exact SV5.keep hHeld ((Below.refl _ _).alloc (Nat.le_refl _) _)
      clear hK K
      try simp only [Rg.gp]
      obtain ⟨g3,hg3⟩ : ∃ g,y1.heap.size = g:=⟨_,rfl⟩
      obtain ⟨y12,hy12⟩ : ∃ x,x = y1.alloc (.cells #[.int .i64 (y : Nat)] 3):=⟨_,rfl⟩
      have HBA12 : Hid (Below y1.heap.size y1 y12):=Lib.hid (by rw [hy12]; exact (Below.refl _ _).alloc (Nat.le_refl _) _)
      have HBW12 : Hid (Below wo.heap.size wo y12):=Lib.hid (HBW1.out.trans (HBA12.out.mono HBW1.out.size))
      have HC12 : Hid (y12.cell? ⟨g3,0,none⟩ = some (.int .i64 (y : Nat)) ∧ g3 < y12.heap.size ∧ g3 ≠ g1):=Lib.hid (by
       rw [hy12,← hg3]
       exact ⟨World.cell?_alloc_at _ _ _ _ rfl,by simp,by have:=(HE1.out.lt g1 rfl).2; omega⟩)
      rw [← hy12] at hHeld ⊢
      rw [hg3]
      obtain ⟨v30,hv30⟩ : ∃ v,v = Value.slice (some ⟨g3,0,none⟩) 1 1:=⟨_,rfl⟩
      rw [← hv30]
      have HV30:=Lib.hid hv30
      replace HE1:=Lib.hid (own_belowK HE1.out HBA12.out)
      clear hy12 hg3 hv30
      refine Rg.rd1 7 ⟨some 25,.call ⟨.builtin Builtin.append,#[.tmp 19,.tmp 24],#[27,27]⟩,27,"ref.go:203",#[⟨1,.data⟩,⟨6,.data⟩],none⟩ fun K hK=>?_
      refine step_append_own rfl _ _ 27 rfl wo.heap.size 3 i0 (.int .i64 0) 1 8 Try.underlying27 hi hz0 hz1 hz2 rfl (by decide) _ _ _ (show _ = Value.slice (some ⟨g1,0,none⟩) 0 0 from HV19.out) HE1.out ⟨b3,o3,none⟩ n c1 (Y.map N64) rfl (by rw [List.length_map,HVY.out.len,Nat.mul_one]) (num_cellsK fun t ht=>by
       have h:=(HNY.out.below (KBS.out.trans (HBW12.out.mono KBS.out.size))).atm HVY.out.len (k:=t) (by rw [← HVY.out.len]; exact ht)
       obtain ⟨b',o',e,h⟩:=h
       injection e with e; injection e with e1 e2
       subst e1 e2
       exact h) (fun u hu=>by obtain ⟨y,_,rfl⟩:=List.mem_map.1 hu; rfl) (by unfold maxLen; omega) (by omega) HBW12.out.size ?_
      intro v25 y7 hown7 hgrow7
      refine hK.out _ _ ?_ (fun hHeld=>?_)
      ·(try dsimp only)
       exact SV5.go hHeld ((below_own hgrow7 (fun k e=>(HE1.out.lt k e).1) HBW12.out.size).mono HKS.out)
      clear hK K
      try simp only [Rg.gp]
      have HBA7 : Hid (Below wo.heap.size y12 y7):=Lib.hid (below_own hgrow7 (fun k e=>(HE1.out.lt k e).1) HBW12.out.size)
      have HBW7 : Hid (Below wo.heap.size wo y7):=Lib.hid (HBW12.out.trans HBA7.out)
      have HE7 : Hid (y7.ownsRow wo.heap.size 3 1 v25 n (Y.map N64)):=Lib.hid (by have h:=hown7; rwa [Nat.zero_add,List.nil_append] at h)
      have HC7 : Hid (y7.cell? ⟨g3,0,none⟩ = some (.int .i64 (y : Nat)) ∧ g3 < y7.heap.size):=Lib.hid (by
       obtain ⟨c,l,ne⟩:=HC12.out
       exact ⟨(World.cell?_of_block (w:=y12) (hgrow7.block g3 l (fun e=>by injection e with e; exact ne e))).trans c,Nat.lt_of_lt_of_le l hgrow7.size⟩)
      clear hown7 hgrow7
      exact hrest.out _ v19 v25 v30 ⟨hHeld,by first | exact HBW12 | exact HBW7,HE7,g3,HV30,Lib.hid (by first | exact HC7.out.1 | exact HC12.out.1)⟩
    ·go_simp
     refine hK.out _ _ ?_ (fun hHeld=>?_)
     ·(try dsimp only)
      exact SV5.keep hHeld ((Below.refl _ _).alloc (Nat.le_refl _) _)
     clear hK K
     try simp only [Rg.gp]
     obtain ⟨g3,hg3⟩ : ∃ g,x0.heap.size = g:=⟨_,rfl⟩
     obtain ⟨y12,hy12⟩ : ∃ x,x = x0.alloc (.cells #[.int .i64 (y : Nat)] 3):=⟨_,rfl⟩
     have HBA12 : Hid (Below x0.heap.size x0 y12):=Lib.hid (by rw [hy12]; exact (Below.refl _ _).alloc (Nat.le_refl _) _)
     have HBW12 : Hid (Below wo.heap.size wo y12):=Lib.hid (HBW0.out.trans (HBA12.out.mono HBW0.out.size))
     have HC12 : Hid (y12.cell? ⟨g3,0,none⟩ = some (.int .i64 (y : Nat)) ∧ g3 < y12.heap.size ∧ True):=Lib.hid (by
      rw [hy12,← hg3]
      exact ⟨World.cell?_alloc_at _ _ _ _ rfl,by simp,trivial⟩)
     rw [← hy12] at hHeld ⊢
     rw [hg3]
     obtain ⟨v30,hv30⟩ : ∃ v,v = Value.slice (some ⟨g3,0,none⟩) 1 1:=⟨_,rfl⟩
     rw [← hv30]
     have HV30:=Lib.hid hv30
     clear hy12 hg3 hv30
     refine Rg.rd1 1 ⟨some 19,.buildSlice 27 0 #[],27,"ref.go:203",#[],none⟩ fun K hK=>?_
     go_simp
     refine hK.out _ _ ?_ (fun hHeld=>?_)
     ·(try dsimp only)
      exact SV5.keep hHeld ((Below.refl _ _).alloc (Nat.le_refl _) _)
     clear hK K
     try simp only [Rg.gp]
     obtain ⟨g1,hg1⟩ : ∃ g,y12.heap.size = g:=⟨_,rfl⟩
     obtain ⟨y1,hy1⟩ : ∃ x,x = y12.alloc (.cells #[] 3):=⟨_,rfl⟩
     have HBA1 : Hid (Below y12.heap.size y12 y1):=Lib.hid (by rw [hy1]; exact (Below.refl _ _).alloc (Nat.le_refl _) _)
     have HBW1 : Hid (Below wo.heap.size wo y1):=Lib.hid (HBW12.out.trans (HBA1.out.mono HBW12.out.size))
     have HE1 : Hid (y1.ownsRow wo.heap.size 3 1 (.slice (some ⟨g1,0,none⟩) 0 0) 0 []):=Lib.hid (by rw [hy1,← hg1]; exact own_empty y12 wo.heap.size HBW12.out.size)
     rw [← hy1] at hHeld ⊢
     rw [hg1]
     obtain ⟨v19,hv19⟩ : ∃ v,v = Value.slice (some ⟨g1,0,none⟩) 0 0:=⟨_,rfl⟩
     rw [← hv19]
     have HV19:=Lib.hid hv19
     have HC1 : Hid (y1.cell? ⟨g3,0,none⟩ = some (.int .i64 (y : Nat)) ∧ g3 < y1.heap.size ∧ g3 ≠ g1):=Lib.hid (by
      obtain ⟨c,l,-⟩:=HC12.out
      exact ⟨(HBA1.out.cell (p:=⟨g3,0,none⟩) l).trans c,Nat.lt_of_lt_of_le l HBA1.out.size,by rw [← hg1]; omega⟩)
     clear hy1 hg1 hv19
     refine Rg.rd1 7 ⟨some 25,.call ⟨.builtin Builtin.append,#[.tmp 19,.tmp 24],#[27,27]⟩,27,"ref.go:203",#[⟨1,.data⟩,⟨6,.data⟩],none⟩ fun K hK=>?_
     refine step_append_own rfl _ _ 27 rfl wo.heap.size 3 i0 (.int .i64 0) 1 8 Try.underlying27 hi hz0 hz1 hz2 rfl (by decide) _ _ _ (show _ = Value.slice (some ⟨g1,0,none⟩) 0 0 from HV19.out) HE1.out ⟨b3,o3,none⟩ n c1 (Y.map N64) rfl (by rw [List.length_map,HVY.out.len,Nat.mul_one]) (num_cellsK fun t ht=>by
      have h:=(HNY.out.below (KBS.out.trans (HBW1.out.mono KBS.out.size))).atm HVY.out.len (k:=t) (by rw [← HVY.out.len]; exact ht)
      obtain ⟨b',o',e,h⟩:=h
      injection e with e; injection e with e1 e2
      subst e1 e2
      exact h) (fun u hu=>by obtain ⟨y,_,rfl⟩:=List.mem_map.1 hu; rfl) (by unfold maxLen; omega) (by omega) HBW1.out.size ?_
     intro v25 y7 hown7 hgrow7
     refine hK.out _ _ ?_ (fun hHeld=>?_)
     ·(try dsimp only)
      exact SV5.go hHeld ((below_own hgrow7 (fun k e=>(HE1.out.lt k e).1) HBW1.out.size).mono HKS.out)
     clear hK K
     try simp only [Rg.gp]
     have HBA7 : Hid (Below wo.heap.size y1 y7):=Lib.hid (below_own hgrow7 (fun k e=>(HE1.out.lt k e).1) HBW1.out.size)
     have HBW7 : Hid (Below wo.heap.size wo y7):=Lib.hid (HBW1.out.trans HBA7.out)
     have HE7 : Hid (y7.ownsRow wo.heap.size 3 1 v25 n (Y.map N64)):=Lib.hid (by have h:=hown7; rwa [Nat.zero_add,List.nil_append] at h)
     have HC7 : Hid (y7.cell? ⟨g3,0,none⟩ = some (.int .i64 (y : Nat)) ∧ g3 < y7.heap.size):=Lib.hid (by
      obtain ⟨c,l,ne⟩:=HC1.out
      exact ⟨(World.cell?_of_block (w:=y1) (hgrow7.block g3 l (fun e=>by injection e with e; exact ne e))).trans c,Nat.lt_of_lt_of_le l hgrow7.size⟩)
     clear hown7 hgrow7
     exact hrest.out _ v19 v25 v30 ⟨hHeld,by first | exact HBW12 | exact HBW7,HE7,g3,HV30,Lib.hid (by first | exact HC7.out.1 | exact HC12.out.1)⟩
   case hr =>
    intro x v19 v25 v30 hx
    obtain ⟨hHeld,HBX,HEX,g3,HV30,HCX⟩:=hx
    refine Rg.rd1 13 ⟨some 31,.call ⟨.builtin Builtin.append,#[.tmp 25,.tmp 30],#[27,27]⟩,27,"ref.go:203",#[⟨7,.data⟩,⟨12,.data⟩,⟨7,.chain⟩],none⟩ fun K hK=>?_
    refine step_append_own rfl _ _ 27 rfl wo.heap.size 3 i0 (.int .i64 0) 1 8 Try.underlying27 hi hz0 hz1 hz2 rfl (by decide) _ _ _ rfl HEX.out ⟨g3,0,none⟩ 1 1 [.int .i64 (y : Nat)] (show _ = Value.slice (some ⟨g3,0,none⟩) 1 1 from HV30.out) rfl (fun j u hj=>by
     match j,hj with
     | 0,hj=>simp at hj; subst hj; exact HCX.out) (fun u hu=>by simp at hu; subst hu; rfl) (by unfold maxLen; omega) (by omega) HBX.out.size ?_
    intro v31 y13 hown13 hgrow13
    refine hK.out _ _ ?_ (fun hHeld=>?_)
    ·(try dsimp only)
     exact SV5.go hHeld ((below_own hgrow13 (fun k e=>(HEX.out.lt k e).1) HBX.out.size).mono HKS.out)
    clear hK K
    try simp only [Rg.gp]
    have HBW13 : Hid (Below wo.heap.size wo y13):=Lib.hid (HBX.out.trans (below_own hgrow13 (fun k e=>(HEX.out.lt k e).1) HBX.out.size))
    have HE13 : Hid (y13.ownsRow 0 3 1 v31 (n + 1) ((Y ++ [y]).map N64)):=Lib.hid (by rw [List.map_append]; exact own_weak hown13 (Nat.zero_le _))
    obtain ⟨a31,c31,hv31⟩ : ∃ a c,v31 = .slice a (n + 1) c:=by
     rcases HE13.out.2 with ⟨e,e2⟩ | ⟨_,_,_,e,_⟩
     ·exact ⟨none,0,by rw [e,e2]⟩
     ·exact ⟨_,_,e⟩
    subst hv31
    have HO13:=Lib.hid (HO.out.below HBW13.out)
    have HOW13 : Hid (y13.ownsRow bs 27 1 (.slice aP k cP) k us):=Lib.hid (by have:=HO13.out.own; rwa [HTL.out] at this)
    have HKS13 : Hid (bs ≤ y13.heap.size):=Lib.hid (Nat.le_trans HKS.out HBW13.out.size)
    clear hown13 hgrow13
    refine Rg.rd1 14 ⟨some 32,.buildSlice 30 1 #[(0,.tmp 31)],30,"ref.go:203",#[⟨13,.data⟩],none⟩ fun K hK=>?_
    go_simp
    refine hK.out _ _ ?_ (fun hHeld=>?_)
    ·(try dsimp only)
     exact SV5.keep hHeld ((Below.refl _ _).alloc (Nat.le_refl _) _)
    clear hK K
    try simp only [Rg.gp]
    refine Rg.rd1 15 ⟨some 33,.call ⟨.builtin Builtin.append,#[.tmp 18,.tmp 32],#[30,30]⟩,30,"ref.go:203",#[⟨0,.data⟩,⟨14,.data⟩,⟨13,.chain⟩],none⟩ fun K hK=>?_
    refine step_append_own rfl _ _ 30 rfl bs 27 j0 (.slice none 0 0) 1 24 Try.underlying30 ji jz0 jz1 jz2 rfl (by decide) _ _ _ rfl (HOW13.out.alloc _) ⟨y13.heap.size,0,none⟩ 1 1 [.slice a31 (n + 1) c31] rfl rfl (cell_one_new _ _ _) (fun u hu=>by simp at hu; subst hu; rfl) ?c3 ?c4 ?c5 ?_
    case c3=>unfold maxLen; omega
    case c4=>omega
    case c5=>have:=HKS13.out; simp; omega
    intro v33 y15 hown15 hgrow15
    refine hK.out _ _ ?_ (fun hHeld=>?_)
    ·(try dsimp only)
     exact SV5.go hHeld (Bx.below (Bx.grown hgrow15 fun j hj=>(HOW13.out.lt j hj).1) (by have:=HKS13.out; simp; omega) fun j hj=>hj)
    clear hK K
    try simp only [Rg.gp]
    refine Rg.tk 16 ⟨some 5,.assign (.tmp 33),30,"ref.go:203",#[⟨15,.data⟩,⟨15,.chain⟩,⟨0,.phase⟩,⟨1,.phase⟩,⟨2,.phase⟩,⟨3,.phase⟩,⟨4,.phase⟩,⟨5,.phase⟩,⟨6,.phase⟩,⟨7,.phase⟩,⟨8,.phase⟩,⟨9,.phase⟩,⟨10,.phase⟩,⟨11,.phase⟩,⟨12,.phase⟩,⟨13,.phase⟩,⟨14,.phase⟩,⟨15,.phase⟩],none⟩ ?_
    try simp only [Rg.gp]
    refine wpAnyH_done (by kernel_rfl) ?_ _
    have HO15 : Hid (OL (E.take (k + 1)) (us ++ [.slice a31 (n + 1) c31]) bs y15 v33):=Lib.hid (by
     rw [HSUC.out]
     have hal2 : Below y13.heap.size y13 (y13.alloc (.cells #[.slice a31 (n + 1) c31] 27)):=(Below.refl _ _).alloc (Nat.le_refl _) _
     exact OL.push (HO13.out.below hal2) (by rw [List.length_append,HVY.out.len]; exact own_belowK HE13.out hal2) (by rw [HTL.out]) hown15 hgrow15)
    have HB15 : Hid (Below bs w0 y15):=Lib.hid (KB.out.trans hHeld.2.2.2.out.1)
    clear hHeld hown15 hgrow15
    go_wp2
    go_roundw
    case rel=>exact ⟨k + 1,_,by omega,by go_num,HO15,HB15⟩
    case measure=>simp [intOf]; omega
  ·obtain rfl : k = m:=by omega
   have hlt1 : ¬ (k : Int) < (k : Int):=by omega
   have HTE : Hid (E.take k = E):=Lib.hid (List.take_of_length_le (by rw [HEL.out]; exact Nat.le_refl _))
   rw [HTE.out] at HO
   obtain ⟨L,hL⟩ : ∃ L,Hid (redL F (n + 1) (E.map Go.Fl.fn) = L):=⟨_,Lib.hid rfl⟩
   have HRL : Hid (RedL F (n + 1) L):=Lib.hid (by rw [← hL.out]; exact (redL_ok HFF.out (HEM.out.vs HFF.out)).1)
   obtain ⟨Q,hQ⟩ : ∃ Q,Hid (redM F (n + 1) E = Q):=⟨_,Lib.hid rfl⟩
   have HQE : Hid (Q = rwL (n + 1) L):=Lib.hid (by rw [← hQ.out,← hL.out]; rfl)
   obtain ⟨ql,hql⟩ : ∃ l,Hid (Q.length = l):=⟨_,Lib.hid rfl⟩
   have HLL : Hid (L.length = ql):=Lib.hid (by have:=hql.out; rw [HQE.out,List.length_map] at this; exact this)
   have hq5 : ql ≤ 100:=by have:=redM_le HFF.out HEM.out; rw [hQ.out,hql.out,HEL.out] at this; omega
   have HQN : Hid (Mn F (n + 1) Q):=Lib.hid (by rw [← hQ.out]; exact (redM_ok HFF.out HEM.out).1)
   have HSM : Hid (solM F n E = if n ∈ L.map Prod.fst then none else some (sxK L n L.length)):=Lib.hid (by unfold solM pivM; rw [hL.out])
   have HRD : Hid (Calls Try.prog 16 #[FV F b cap,.slice aP k cP] wo (MPn Q ql wo)):=Lib.hid (by
    have t:=redr_c (HF0.out.below KBS.out) (n:=n + 1) (m:=k) (aa:=aP) (ca:=cP) (by omega) (by omega) HEL.out HEM.out HO.out.mm
    rw [hQ.out] at t; exact t.mono fun _ _ h=>h.n hql.out)
   go_wp2_with fail
   with_reducible refine HRD.out.mono ?_
   rintro e w3 ⟨aQ,cQ,rfl,hmq,hb3⟩
   have HB3 : Hid (Below w0.heap.size w0 w3):=Lib.hid (KBS.out.trans (hb3.mono KBS.out.size))
   have HMQ3:=Lib.hid hmq
   have HMB3 : Hid (MB W.heap.size F b cap n (.slice aa k ca) w3):=Lib.hid (HMB.out.bx (S:=fun _=>False) (Bx.of HB3.out) (by have:=HS0.out; omega) id)
   clear hmq hb3 HRD q0 q1 q2 q3 q4
   obtain ⟨q0,q1,q2,q3,q4⟩:=HMB3.out
   have HZC : Hid (Calls Try.prog 44 #[.int .i64 (n : Nat)] w3 fun e w'=>∃ g c,e = .returned (.slice (some ⟨g,0,none⟩) n c) ∧ w'.ownsRow w3.heap.size 3 1 (.slice (some ⟨g,0,none⟩) n c) n ((List.replicate n 0).map N64) ∧ Below w3.heap.size w3 w'):=Lib.hid (zero_o (by omega))
   go_wp2_with fail
   with_reducible refine HZC.out.mono ?_
   rintro e w4 ⟨gx,cx,rfl,hox,hb4⟩
   obtain ⟨bx,hbx⟩ : ∃ g,g = w3.heap.size:=⟨_,rfl⟩
   rw [← hbx] at hox
   have HBXS:=Lib.hid hbx
   have HOX : Hid (w4.ownsRow bx 3 1 (.slice (some ⟨gx,0,none⟩) n cx) n ((sxK L n 0).map N64)):=Lib.hid (by rw [sxK_zero]; exact hox)
   have HB4 : Hid (Below bx w3 w4):=Lib.hid (by rw [hbx]; exact hb4)
   clear hox hb4 HZC q0 q1 q2 q3 q4 hbx
   go_wp2
   go_loopw [8] (fun i wr=>∃ k : Nat,k ≤ ql ∧ i = .int .i64 k ∧ Hid (wr.ownsRow bx 3 1 (.slice (some ⟨gx,0,none⟩) n cx) n ((sxK L n k).map N64)) ∧ Hid (∀ i,i < k → (L.map Prod.fst).getD i 0 ≠ n) ∧ Hid (Below bx w3 wr)) (fun i _=>ql - (intOf i).toNat)
   case atStart=>exact ⟨0,Nat.zero_le _,rfl,HOX,Lib.hid (fun i hi=>absurd hi (by omega)),HB4⟩
   case round =>
    obtain ⟨t,ht,rfl,HOt,HNE,KT⟩:=hrel
    obtain ⟨wq,hwq⟩ : ∃ w,w = wr:=⟨_,rfl⟩
    subst hwq
    have KT3 : Hid (Below w3.heap.size w3 wq):=Lib.hid (by rw [← HBXS.out]; exact KT.out)
    have HB0 : Hid (Below w0.heap.size w0 wq):=Lib.hid (HB3.out.trans (KT3.out.mono HB3.out.size))
    have HKQ : Hid (bx ≤ wq.heap.size):=Lib.hid (by rw [HBXS.out]; exact KT3.out.size)
    have HBB : Hid (w0.heap.size ≤ bx):=Lib.hid (by rw [HBXS.out]; exact HB3.out.size)
    have HMBq : Hid (MB W.heap.size F b cap n (.slice aa k ca) wq):=Lib.hid (HMB.out.bx (S:=fun _=>False) (Bx.of HB0.out) (by have:=HS0.out; omega) id)
    have hRR : wq.cell? ⟨W.heap.size + 1,0,none⟩ = some (.slice none 0 0) ∧ wq.cell? ⟨W.heap.size + 1,1,none⟩ = some (.int .i64 0) ∧ wq.frozen? ⟨W.heap.size + 1,0,none⟩ = false ∧ wq.frozen? ⟨W.heap.size + 1,1,none⟩ = false:=by
     have hl : W.heap.size + 1 < w0.heap.size:=by have:=HS0.out; omega
     exact ⟨(HB0.out.cell hl).trans HRZ.out.1,(HB0.out.cell hl).trans HRZ.out.2.1,(World.frozen?_of_block (w:=w0) (HB0.out.block _ hl)).trans (HRZ.out.2.2 0),(World.frozen?_of_block (w:=w0) (HB0.out.block _ hl)).trans (HRZ.out.2.2 1)⟩
    have HRR:=Lib.hid hRR
    clear hRR
    by_cases hlq : t < ql
    ·have hkQ : t < Q.length:=by rw [hql.out]; exact hlq
     have hkL : t < L.length:=by rw [HLL.out]; exact hlq
     obtain ⟨Y,hY⟩ : ∃ X,Hid (Q.getD t [] = X):=⟨_,Lib.hid rfl⟩
     have HVY : Hid (Vn F (n + 1) Y):=Lib.hid (by rw [← hY.out]; exact mrow HQN.out hkQ)
     obtain ⟨pv,hpv⟩ : ∃ X,Hid ((L[t]).1 = X):=⟨_,Lib.hid rfl⟩
     have HYL : Hid (Y = toV (n + 1) (L[t]).2):=Lib.hid (by rw [← hY.out,HQE.out,rwL_get HFF.out hkL])
     have HPV : Hid (pvt (Go.Fl.fn Y) (n + 1) = pv):=Lib.hid (by rw [HYL.out,rwL_pvt HFF.out HRL.out hkL,hpv.out])
     have HPG : Hid ((L.map Prod.fst).getD t 0 = pv):=Lib.hid (by rw [map_fst_getD hkL,hpv.out])
     have hpn : pv ≤ n:=by have:=(HRL.out.ro _ (List.getElem_mem hkL)).bd; rw [hpv.out] at this; omega
     obtain ⟨yy,hyy⟩ : ∃ X,Hid ((L[t]).2 n = X):=⟨_,Lib.hid rfl⟩
     have HYN : Hid (Y.getD n 0 = yy):=Lib.hid (by rw [HYL.out,toV_get _ (by omega),hyy.out])
     have HSX : Hid ((sxK L n t).set pv yy = sxK L n (t + 1)):=Lib.hid (by rw [← hpv.out,← hyy.out]; exact sxK_succ HRL.out hkL)
     obtain ⟨b1,o1,rfl,a1,c1,hc1,hn1⟩:=MM.at (R:=Q) (by rw [hql.out]; exact HMQ3.out) hkQ
     rw [hY.out,HVY.out.len] at hc1 hn1
     obtain ⟨b2,o2,rfl,hc2⟩:=hn1.atm HVY.out.len (k:=n) (by omega)
     rw [HYN.out] at hc2
     have HL1:=Lib.hid (World.block_lt_of_cell? w3 _ hc1)
     have HL2:=Lib.hid (World.block_lt_of_cell? w3 _ hc2)
     have hcw : wq.cell? ⟨b1,o1 + t,none⟩ = some (.slice (some ⟨b2,o2,none⟩) (n + 1) c1):=(KT3.out.cell (p:=⟨b1,o1 + t,none⟩) HL1.out).trans hc1
     have HC1:=Lib.hid hc1
     have HC2:=Lib.hid hc2
     have HPC : Hid (Calls Try.prog 45 #[.slice (some ⟨b2,o2,none⟩) (n + 1) c1] wq fun e w'=>e = .returned (.int .i64 (pv : Nat)) ∧ Below wq.heap.size wq w'):=Lib.hid (by have t:=pivot_c (L:=Y) (a:=some ⟨b2,o2,none⟩) (c:=c1) (W:=wq) (by rw [HVY.out.len]; omega) (by rw [HVY.out.len]; exact hn1.below KT3.out); rw [HVY.out.len,HPV.out] at t; exact t)
     clear hc1 hc2 hn1 hkQ
     have htli : (t : Int) < (ql : Int):=by omega
     go_wp2_with fail
     with_reducible refine HPC.out.mono ?_
     rintro e w5 ⟨rfl,hb5⟩
     have HB5:=Lib.hid hb5
     have HO5:=Lib.hid (own_belowK HOt.out hb5)
     have KT5 : Hid (Below bx w3 w5):=Lib.hid (KT.out.trans (hb5.mono HKQ.out))
     have HMB5 : Hid (MB W.heap.size F b cap n (.slice aa k ca) w5):=Lib.hid (HMBq.out.bx (S:=fun _=>False) (Bx.of hb5) (by have:=HS0.out; have:=HB0.out.size; omega) id)
     clear hcw hb5 HPC
     obtain ⟨q0,q1,q2,q3,q4⟩:=HMB5.out
     by_cases hpe : pv = n
     ·have hpe1 : (pv : Int) = (n : Int):=by omega
      have hpe2 : ((pv : Int) == (n : Int)) = true:=by simp; omega
      have HSN : Hid (solM F n E = none):=Lib.hid (by rw [HSM.out,if_pos (by rw [← hpe,← hpv.out]; exact List.mem_map.2 ⟨_,List.getElem_mem hkL,rfl⟩)])
      obtain ⟨r0,r1,f0,f1⟩ : w5.cell? ⟨W.heap.size + 1,0,none⟩ = some (.slice none 0 0) ∧ w5.cell? ⟨W.heap.size + 1,1,none⟩ = some (.int .i64 0) ∧ w5.frozen? ⟨W.heap.size + 1,0,none⟩ = false ∧ w5.frozen? ⟨W.heap.size + 1,1,none⟩ = false:=by
       have hl : W.heap.size + 1 < wq.heap.size:=by have:=HS0.out; have:=HB0.out.size; omega
       exact ⟨(HB5.out.cell hl).trans HRR.out.1,(HB5.out.cell hl).trans HRR.out.2.1,(World.frozen?_of_block (w:=wq) (HB5.out.block _ hl)).trans HRR.out.2.2.1,(World.frozen?_of_block (w:=wq) (HB5.out.block _ hl)).trans HRR.out.2.2.2⟩
      have HBZ : Hid (Below W.heap.size W ((w5.setCell ⟨W.heap.size + 1,0,none⟩ (.slice none 0 0)).setCell ⟨W.heap.size + 1,1,none⟩ (.int .i64 4))):=Lib.hid ((HAL.out.trans ((HB0.out.trans (HB5.out.mono HB0.out.size)).mono HAL.out.size)).trans (Bx.below (two_bx _ _) (Nat.le_trans HAL.out.size (Nat.le_trans HB0.out.size HB5.out.size)) fun j (hj : j = W.heap.size + 1)=>by omega))
      go_wp2
      refine bodyPost_ret (v:=.agg #[.slice none 0 0,.int .i64 4]) (by simp [results,Try.results25,go_sem,r0,r1]) rfl ?_
      exact .inl ⟨HSN.out,rfl,HBZ.out⟩
     ·have hpe1 : ¬ (pv : Int) = (n : Int):=by omega
      have hpe2 : ((pv : Int) == (n : Int)) = false:=by simp; omega
      have hpl : (pv : Int) < (n : Int):=by omega
      have hpl2 : pv < n:=by omega
      have HNE2 : Hid (∀ i,i < t + 1 → (L.map Prod.fst).getD i 0 ≠ n):=Lib.hid (fun i hi=>by
       by_cases e : i < t
       ·exact HNE.out i e
       ·obtain rfl : i = t:=by omega
        rw [HPG.out]; exact hpe)
      have hbl1 : b1 < bx:=by rw [HBXS.out]; exact HL1.out
      have hbl2 : b2 < bx:=by rw [HBXS.out]; exact HL2.out
      have hS0 : SV5 F b cap n W.heap.size (.slice aa k ca) b1 (o1 + t) b2 (o2 + n) (.slice (some ⟨b2,o2,none⟩) (n + 1) c1) (.int .i64 (yy : Nat)) bx w5 w5.drew:=
       ⟨⟨q0,q1,q2,q3,q4⟩,(KT5.out.cell (p:=⟨b1,o1 + t,none⟩) hbl1).trans HC1.out,(KT5.out.cell (p:=⟨b2,o2 + n,none⟩) hbl2).trans HC2.out,Lib.hid ⟨(Below.refl _ _).drew,by rw [HBXS.out]; exact Nat.le_trans KT3.out.size HB5.out.size,by have:=HBB.out; have:=HS0.out; omega,hbl1,hbl2⟩⟩
      have hnn1 : (n : Int) < (n : Int) + 1:=by omega
      have hgd : w5.drew.cell? ⟨gx,pv,none⟩ = some (.int .i64 ((sxK L n t).getD pv 0 : Nat)):=by
       have h:=World.ownsRow.cellAt HO5.out pv (by omega)
       rw [List.getElem?_map,List.getElem?_eq_getElem (by rw [sxK_len]; exact hpl2)] at h
       rw [List.getD_eq_getElem?_getD,List.getElem?_eq_getElem (by rw [sxK_len]; exact hpl2)]
       exact h
      have hgf : w5.drew.frozen? ⟨gx,pv,none⟩ = false:=World.ownsRow.frozenAt HO5.out pv
      have HGX : Hid (bx ≤ gx):=Lib.hid (World.ownsRow.lt HO5.out gx rfl).1
      have hnc : n ≤ cx:=by
       rcases HO5.out.2 with ⟨e,_⟩ | ⟨_,_,_,e,_,_,h5,_⟩
       ·cases e
       ·injection e with _ _ e3; subst e3; exact h5
      clear hbl1 hbl2
      go_wp2_with fail
      clear q0 q1 q2 q3 q4
      refine wp_region_held_drew (S:=fun w'=>SV5 F b cap n W.heap.size (.slice aa k ca) b1 (o1 + t) b2 (o2 + n) (.slice (some ⟨b2,o2,none⟩) (n + 1) c1) (.int .i64 (yy : Nat)) bx w5 w') (by kernel_rfl) (by with_reducible exact hS0) (fun hHeld=>?_)
      refine Rg.tk 0 ⟨some 57,.move (.tmp 7),27,"ref.go:212",#[],none⟩ ?_
      try simp only [Rg.gp]
      refine Rg.tk 1 ⟨some 58,.move (.tmp 9),3,"ref.go:212",#[],none⟩ ?_
      try simp only [Rg.gp]
      refine Rg.tk 2 ⟨some 59,.move (.tmp 5),30,"ref.go:212",#[],none⟩ ?_
      try simp only [Rg.gp]
      refine Rg.tk 3 ⟨some 60,.move (.tmp 8),3,"ref.go:212",#[],none⟩ ?_
      try simp only [Rg.gp]
      refine Rg.tk 4 ⟨some 61,.indexAddr 30 (.tmp 59) (.tmp 60),0,"ref.go:212",#[⟨2,.data⟩,⟨3,.data⟩],none⟩ ?_
      try simp only [Rg.gp]
      refine Rg.tk 5 ⟨some 62,.load 27 (.tmp 61),27,"ref.go:212",#[⟨4,.data⟩],none⟩ ?_
      try simp only [Rg.gp]
      refine Rg.tk 6 ⟨some 63,.fieldAddr 32 (.tmp 2) 1,0,"ref.go:212",#[],none⟩ ?_
      try simp only [Rg.gp]
      refine Rg.tk 7 ⟨some 64,.load 3 (.tmp 63),3,"ref.go:212",#[⟨6,.data⟩],none⟩ ?_
      try simp only [Rg.gp]
      refine Rg.tk 8 ⟨some 65,.indexAddr 27 (.tmp 62) (.tmp 64),0,"ref.go:212",#[⟨5,.data⟩,⟨7,.data⟩],none⟩ ?_
      try simp only [Rg.gp]
      refine Rg.tk 9 ⟨some 66,.load 3 (.tmp 65),3,"ref.go:212",#[⟨8,.data⟩],none⟩ ?_
      try simp only [Rg.gp]
      refine Rg.tk 10 ⟨some 67,.indexAddr 27 (.tmp 57) (.tmp 58),0,"ref.go:212",#[⟨0,.data⟩,⟨1,.data⟩,⟨0,.phase⟩,⟨1,.phase⟩,⟨2,.phase⟩,⟨3,.phase⟩,⟨4,.phase⟩,⟨5,.phase⟩,⟨6,.phase⟩,⟨7,.phase⟩,⟨8,.phase⟩,⟨9,.phase⟩],none⟩ ?_
      try simp only [Rg.gp]
      refine Rg.rd1 11 ⟨none,.store 3 (.tmp 67) (.tmp 66),0,"ref.go:212",#[⟨10,.data⟩,⟨9,.data⟩,⟨0,.phase⟩,⟨1,.phase⟩,⟨2,.phase⟩,⟨3,.phase⟩,⟨4,.phase⟩,⟨5,.phase⟩,⟨6,.phase⟩,⟨7,.phase⟩,⟨8,.phase⟩,⟨9,.phase⟩],none⟩ fun K hK=>?_
      go_simp
      refine hK.out _ _ ?_ (fun hHeld=>?_)
      ·(try dsimp only)
       exact SV5.go hHeld ((Below.refl _ _).setCell (p:=⟨gx,pv,none⟩) HGX.out _)
      clear hK K
      try simp only [Rg.gp]
      refine wpAnyH_done (by kernel_rfl) ?_ _
      have HO6 : Hid ((w5.setCell ⟨gx,pv,none⟩ (.int .i64 (yy : Nat))).drew.ownsRow bx 3 1 (.slice (some ⟨gx,0,none⟩) n cx) n ((sxK L n (t + 1)).map N64)):=Lib.hid (by
       rw [← HSX.out,List.map_set]
       exact (World.ownsRow.stored HO5.out pv (.int .i64 (yy : Nat))).1)
      have HB6 : Hid (Below bx w3 (w5.setCell ⟨gx,pv,none⟩ (.int .i64 (yy : Nat))).drew):=Lib.hid (KT5.out.trans ((Below.refl _ _).setCell (p:=⟨gx,pv,none⟩) HGX.out _).drew)
      clear hHeld hS0
      go_wp2
      go_roundw
      case rel=>exact ⟨t + 1,by omega,by go_num,HO6,HNE2,HB6⟩
      case measure=>simp [intOf]; omega
    ·obtain rfl : t = ql:=by omega
     have hlt2 : ¬ (t : Int) < (t : Int):=by omega
     have HSS : Hid (solM F n E = some (sxK L n t)):=Lib.hid (by
      rw [HSM.out,if_neg (fun h=>by
       obtain ⟨i,hi,e⟩:=mem_getD h
       rw [List.length_map,HLL.out] at hi
       exact HNE.out i hi e),HLL.out])
     obtain ⟨r0,r1,f0,f1⟩:=HRR.out
     have HBZ : Hid (Below W.heap.size W ((wq.setCell ⟨W.heap.size + 1,0,none⟩ (.slice (some ⟨gx,0,none⟩) n cx)).setCell ⟨W.heap.size + 1,1,none⟩ (.int .i64 0))):=Lib.hid ((HAL.out.trans (HB0.out.mono HAL.out.size)).trans (Bx.below (two_bx _ _) (Nat.le_trans HAL.out.size HB0.out.size) fun j (hj : j = W.heap.size + 1)=>by omega))
     obtain ⟨X,hX⟩ : ∃ X,Hid (sxK L n t = X):=⟨_,Lib.hid rfl⟩
     have HXL : Hid (X.length = n):=Lib.hid (by rw [← hX.out]; exact sxK_len _ _ _)
     rw [hX.out] at HOt HSS
     have HGX : Hid (bx ≤ gx):=Lib.hid (World.ownsRow.lt HOt.out gx rfl).1
     have HNX : Hid (((wq.setCell ⟨W.heap.size + 1,0,none⟩ (.slice (some ⟨gx,0,none⟩) n cx)).setCell ⟨W.heap.size + 1,1,none⟩ (.int .i64 0)).ownsRow W.heap.size 3 1 (.slice (some ⟨gx,0,none⟩) n cx) n (X.map N64)):=Lib.hid (own_bx2 (own_weak HOt.out (by have:=HBB.out; have:=HS0.out; omega)) (two_bx (w:=wq) (B:=W.heap.size + 1) (.slice (some ⟨gx,0,none⟩) n cx) (.int .i64 0)) (fun j e (hj : j = W.heap.size + 1)=>absurd (show gx = j by simpa [Value.ownBlock] using e) (by have:=HGX.out; have:=HBB.out; have:=HS0.out; omega)))
     go_wp2
     refine bodyPost_ret (v:=.agg #[.slice (some ⟨gx,0,none⟩) n cx,.int .i64 0]) (by simp [results,Try.results25,go_sem,r0,r1]) rfl ?_
     exact .inr ⟨X,_,cx,HSS.out,by rw [HXL.out],by rw [HXL.out]; exact HNX.out,HBZ.out⟩
theorem rsolve_c {F : Gf} {b cap n m ca cb : Nat} {A : List (List Nat)} {V : List Nat} {aa ab : Option Addr} {W : World} (hA : FldAt F b cap W) (h1 : 1 ≤ n) (hn : n ≤ 24) (hm : m ≤ 100) (la : A.length = m) (ma : Mn F n A) (mv : Vn F m V) (na : MM A W (.slice aa m ca)) (nv : NN V W (.slice ab m cb)) :
  Calls Try.prog 25 #[MV F b cap n (.slice aa m ca),.slice ab m cb] W (SvP (solM F n (eqM A V)) W):=(rsolve_o hA h1 hn hm la ma mv na nv).mono fun _ _ h=>h.p
end Go.Proofs.Yteeofijcndgbfaa
/- The inverse, column by column. -/
namespace Go.Proofs.Yteeofijcndgbfaa
open Go.Fl
set_option linter.unusedVariables false
set_option linter.unusedSectionVars false
section
variable {F : Gf} (hF : Ok F)
include hF
theorem dt_cb2 {n : Nat} {x : Cf} (hx : El F x) : ∀ {R : List Cf} {c : Cf},Els F R → El F c → dt F n (cb F R c) x = cb F (R.map fun r=>fun _=>dt F n r x) c 0
 | [],c,_,_=>dt_z hF n x
 | r :: R,c,hR,hc=>by
  show dt F n (pa F (ps F (c 0) r) (cb F R fun i=>c (i + 1))) x = F.add (F.mul (c 0) (dt F n r x)) (cb F (R.map fun r=>fun _=>dt F n r x) (fun i=>c (i + 1)) 0)
  rw [dt_pa hF (v:=ps F (c 0) r) (fun i=>hF.mul_lt _ _) (cb_el hF _ _) hx,dt_ps hF (hc 0),dt_cb2 hx (fun r' h=>hR r' (List.mem_cons_of_mem _ h)) (fun i=>hc (i + 1))]
theorem rows_ind {A : List (List Nat)} {n : Nat} (hA : Mn F n A) (la : A.length = n) (h : ∀ j,j < n → ∃ x,Vn F n x ∧ apM F n A x = eL n j) : Ind F (A.map Go.Fl.fn):=fun c hc e i hi=>by
 rw [List.length_map,la] at hi
 obtain ⟨x,hx,hx2⟩:=h i hi
 have hxe:=hx.fn hF
 have h1:=dt_cb2 hF (n:=n) hxe (hA.vs hF).els hc
 rw [e,dt_z hF] at h1
 have h2 : cb F ((A.map Go.Fl.fn).map fun r=>fun _=>dt F n r (Go.Fl.fn x)) c 0 = c i:=by
  refine cb_at1 hF hc (by rw [List.length_map,List.length_map,la]; exact hi) fun k hk=>?_
  rw [List.length_map,List.length_map,la] at hk
  rw [List.getD_eq_getElem?_getD,List.getElem?_map,List.getElem?_map,List.getElem?_eq_getElem (by omega)]
  show dt F n (Go.Fl.fn A[k]) (Go.Fl.fn x) = _
  have e2 : (apM F n A x).getD k 0 = (eL n i).getD k 0:=by rw [hx2]
  rw [apM_get (by omega),List.getD_eq_getElem?_getD,List.getElem?_eq_getElem (by omega)] at e2
  rw [show dt F n (Go.Fl.fn A[k]) (Go.Fl.fn x) = (eL n i).getD k 0 from e2,show (eL n i).getD k 0 = Go.Fl.fn (eL n i) k from rfl,eL_fn hi]
  rfl
 rw [← h2,← h1]
theorem piv_len {A : List (List Nat)} {n : Nat} : (pivM F n A).length = (redM F n A).length:=by unfold pivM redM; rw [List.length_map,List.length_map]
theorem inv_none_of {A : List (List Nat)} {n j : Nat} (hA : Mn F n A) (la : A.length = n) (hj : j < n) (h : solM F n (eqM A (eL n j)) = none) : invM F n A = none:=by
 unfold invM
 by_cases hp : (pivM F n A).length < n
 ·exact if_pos hp
 ·exfalso
  have h1:=rank_null hF hA
  rw [← piv_len hF] at h1
  obtain ⟨B,-,hB,lb,hs⟩:=inv_some hF hA la (by omega)
  have h2:=inv_right hF hA la hB lb hs hj
  obtain ⟨y,hy⟩:=sol_is hF hA la (eL_vn hF j) (clM_vn hF hB lb j) h2
  rw [h] at hy; cases hy
theorem inv_of_cols {A C : List (List Nat)} {n : Nat} (hA : Mn F n A) (la : A.length = n) (lC : C.length = n) (h : ∀ j,j < n → solM F n (eqM A (eL n j)) = some (C.getD j [])) : invM F n A = some (tuM n C):=by
 have hx : ∀ j,j < n → Vn F n (C.getD j []) ∧ apM F n A (C.getD j []) = eL n j:=fun j hj=>by
  obtain ⟨h1,h2,-⟩:=sol_some hF hA la (eL_vn hF j) (h j hj)
  exact ⟨h1,h2⟩
 have hI:=rows_ind hF hA la fun j hj=>⟨_,hx j hj⟩
 have hl:=hI.le hF (S:=(redM F n A).map Go.Fl.fn) (((redM_ok hF hA).1).vs hF).els (fun v hv=>(redM_sp hF hA v).2 (Go.Fl.Sp.mem hF (hA.vs hF).els hv))
 rw [List.length_map,List.length_map,la] at hl
 have h1:=rank_null hF hA
 obtain ⟨B,e,hB,lb,hs⟩:=inv_some hF hA la (by rw [piv_len hF]; omega)
 have hc : ∀ j,j < n → C.getD j [] = clM B j:=fun j hj=>by
  obtain ⟨g1,g2⟩:=hx j hj
  have:=inv_left hF hA la hB lb hs g1
  rw [g2,apM_unit hF hB hj] at this
  exact this.symm
 have hC : C = tuM n B:=by
  apply List.ext_getElem (by rw [lC,tuM_len])
  intro k h1 h2
  have e1:=hc k (by omega)
  rw [List.getD_eq_getElem?_getD,List.getElem?_eq_getElem h1] at e1
  have e2:=tuM_get (n:=n) (A:=B) (i:=k) (by omega)
  rw [List.getD_eq_getElem?_getD,List.getElem?_eq_getElem h2] at e2
  exact e1.trans e2.symm
 rw [e,hC,tuM_tuM hF hB lb]
end
end Go.Proofs.Yteeofijcndgbfaa
/- InverseIn of the reference. -/
namespace Go.Proofs.Yteeofijcndgbfaa
open Go.RowKit Go.Fl
set_option maxRecDepth 100000
set_option linter.unusedVariables false
set_option linter.unusedSimpArgs false
set_option linter.unusedSectionVars false
def SoV (s : Option (List Nat)) (v : Value) (w : World) : Prop:=(s = none ∧ v = .agg #[.slice none 0 0,.int .i64 4]) ∨ ∃ x a c,s = some x ∧ v = .agg #[.slice a x.length c,.int .i64 0] ∧ w.ownsRow 0 3 1 (.slice a x.length c) x.length (x.map N64)
theorem SoV.below {s : Option (List Nat)} {v : Value} {w w' : World} (h : SoV s v w) (hb : Below w.heap.size w w') : SoV s v w':=by
 rcases h with h | ⟨x,a,c,h1,h2,h3⟩
 ·exact .inl h
 ·exact .inr ⟨x,a,c,h1,h2,own_belowK h3 hb⟩
set_option maxHeartbeats 12800000 in
theorem rinv34_c {F : Gf} {b cap n ca : Nat} {A : List (List Nat)} {aa : Option Addr} {W : World} (hA : FldAt F b cap W) (h1 : 1 ≤ n) (hn : n ≤ 24) (la : A.length = n) (ma : Mn F n A) (na : MM A W (.slice aa n ca)) :
  Calls Try.prog 34 #[FV F b cap,.slice aa n ca] W (IvP (invM F n A) W):=by
 obtain ⟨j0,ji,jz0,jz1,jz2⟩:=info_parts info27
 have HFF : Hid (Ok F):=Lib.hid (ok_mem hA.mem)
 obtain ⟨w0,hw0⟩ : ∃ w0,w0 = ((W.alloc (.cells #[.int .i64 F.p,.int .i64 F.e,FM F b cap] 29)).alloc (.cells #[.slice none 0 0,.int .i64 0] 53)):=⟨_,rfl⟩
 have hal : Below W.heap.size W w0:=by rw [hw0]; exact ((Below.refl _ _).alloc (Nat.le_refl _) _).alloc (by simp) _
 have HAL:=Lib.hid hal
 have HS0 : Hid (w0.heap.size = W.heap.size + 2):=Lib.hid (by rw [hw0]; simp)
 have HFB : Hid (FBx W.heap.size F b cap w0):=Lib.hid (by rw [hw0]; exact FBx.below (FBx.new W F b cap) ((Below.refl _ _).alloc (Nat.le_refl _) _) (by simp))
 have HRZ : Hid (w0.cell? ⟨W.heap.size + 1,0,none⟩ = some (.slice none 0 0) ∧ w0.cell? ⟨W.heap.size + 1,1,none⟩ = some (.int .i64 0) ∧ ∀ t,w0.frozen? ⟨W.heap.size + 1,t,none⟩ = false):=Lib.hid (by
  rw [hw0]; exact ⟨World.cell?_alloc_at _ _ _ _ (by simp),World.cell?_alloc_at _ _ _ _ (by simp),fun t=>World.frozen?_alloc_at _ _ _ _ (by simp)⟩)
 have HF0:=Lib.hid (hA.below hal)
 have HNA:=Lib.hid (na.below hal)
 have HMA:=Lib.hid ma
 have HLA:=Lib.hid la
 obtain ⟨bs,hbs⟩ : ∃ g,g = W.heap.size + 2:=⟨_,rfl⟩
 have HBS : Hid (bs = w0.heap.size):=Lib.hid (by rw [hbs,HS0.out])
 have HBW : Hid (W.heap.size + 1 < bs):=Lib.hid (by omega)
 obtain ⟨w2,hw2⟩ : ∃ w2,w2 = w0.alloc (.cells #[] 27):=⟨_,rfl⟩
 have HB2 : Hid (Below bs w0 w2):=Lib.hid (by rw [hw2,HBS.out]; exact (Below.refl _ _).alloc (Nat.le_refl _) _)
 have HO2 : Hid (OL [] [] bs w2 (.slice (some ⟨bs,0,none⟩) 0 0)):=Lib.hid (by rw [hw2,HBS.out]; exact OL.nil _ w0 (Nat.le_refl _))
 have HW2:=Lib.hid (by rw [hw0] at hw2; exact hw2)
 clear hw0 hw2 hal hA na ma la
 go_enter Try.func34,Try.ntmps34
 go_wp2
 rw [← HW2.out,← hbs]
 clear HW2 hbs
 go_loopw [6,7] (fun v i wr=>∃ (k : Nat) (C : List (List Nat)) (us : List Value),k ≤ n ∧ i = .int .i64 k ∧ Hid (OL C us bs wr v) ∧ Hid (C.length = k) ∧ Hid (∀ j,j < k → solM F n (eqM A (eL n j)) = some (C.getD j [])) ∧ Hid (Below bs w0 wr)) (fun _ i _=>n - (intOf i).toNat)
 case atStart=>exact ⟨0,[],[],Nat.zero_le _,rfl,HO2,Lib.hid rfl,Lib.hid (fun j hj=>absurd hj (by omega)),HB2⟩
 case round =>
  obtain ⟨k,C,us,hk,rfl,HO,HCL,HCS,KB⟩:=hrel
  obtain ⟨aP,cP,hvs⟩:=HO.out.shape
  rw [HCL.out] at hvs
  subst hvs
  obtain ⟨wo,hwo⟩ : ∃ w,w = wr:=⟨_,rfl⟩
  subst hwo
  have KBS : Hid (Below w0.heap.size w0 wo):=Lib.hid (by rw [← HBS.out]; exact KB.out)
  have HKS : Hid (bs ≤ wo.heap.size):=Lib.hid (by rw [HBS.out]; exact KBS.out.size)
  have hl1 : W.heap.size + 1 < w0.heap.size:=by have:=HS0.out; omega
  have HRR : Hid (wo.cell? ⟨W.heap.size + 1,0,none⟩ = some (.slice none 0 0) ∧ wo.cell? ⟨W.heap.size + 1,1,none⟩ = some (.int .i64 0) ∧ ∀ t,wo.frozen? ⟨W.heap.size + 1,t,none⟩ = false):=Lib.hid ⟨(KBS.out.cell hl1).trans HRZ.out.1,(KBS.out.cell hl1).trans HRZ.out.2.1,fun t=>(World.frozen?_of_block (w:=w0) (KBS.out.block _ hl1)).trans (HRZ.out.2.2 t)⟩
  have HLR : Hid (W.heap.size + 1 < wo.heap.size):=Lib.hid (Nat.lt_of_lt_of_le hl1 KBS.out.size)
  clear hl1
  by_cases hlt : k < n
  ·obtain ⟨so,hso⟩ : ∃ s,Hid (solM F n (eqM A (eL n k)) = s):=⟨_,Lib.hid rfl⟩
   obtain ⟨EK,hEK⟩ : ∃ L,Hid (eL n k = L):=⟨_,Lib.hid rfl⟩
   have HVE : Hid (Vn F n EK):=Lib.hid (by rw [← hEK.out]; exact eL_vn HFF.out k)
   obtain ⟨x0,x1,x2⟩:=HFB.out.below KBS.out (by have:=HS0.out; omega)
   have hbl : W.heap.size < bs:=by have:=HBW.out; omega
   have hS0 : SZ F b cap W.heap.size W.heap.size 0 W.heap.size 0 (.int .i64 F.p) (.int .i64 F.p) bs wo wo.drew:=
    ⟨⟨x0,x1,x2⟩,x0,x0,Lib.hid ⟨(HF0.out.below KBS.out).bx (Bx.refl (fun _=>False) wo).drew id,(Below.refl _ _).drew,HKS.out,hbl,hbl,hbl,by rw [HBS.out]; exact HF0.out.lt⟩⟩
   have hkli : (k : Int) < (n : Int):=by omega
   clear x0 x1 x2 hbl
   go_wp2_with fail
   refine wp_region_held_drew (S:=fun w'=>SZ F b cap W.heap.size W.heap.size 0 W.heap.size 0 (.int .i64 F.p) (.int .i64 F.p) bs wo w') (by kernel_rfl) (by with_reducible exact hS0) (fun hHeld=>?_)
   obtain ⟨x0,hx0⟩ : ∃ x,x = wo.drew:=⟨_,rfl⟩
   have HBW0 : Hid (Below wo.heap.size wo x0):=Lib.hid (by rw [hx0]; exact (Below.refl _ _).drew)
   rw [← hx0] at hHeld ⊢
   clear hx0 hS0
   apply Rg.share3 (C:=fun x v23 v24 v8=>SZ F b cap W.heap.size W.heap.size 0 W.heap.size 0 (.int .i64 F.p) (.int .i64 F.p) bs wo x ∧ Hid (Below wo.heap.size wo x) ∧ Hid (SoV so v24 x) ∧ ∃ gR,Hid (v8 = .pointer (some ⟨gR,0,none⟩)) ∧ Hid (wo.heap.size ≤ gR) ∧ Hid (x.cell? ⟨gR,0,none⟩ = some (.slice none 0 0) ∧ x.cell? ⟨gR,1,none⟩ = some (.int .i64 0) ∧ (∀ t,x.frozen? ⟨gR,t,none⟩ = false) ∧ (∃ cur,x.heap[gR]? = some (.cells cur 46 (0,0))) ∧ gR < x.heap.size))
   case h =>
    intro hrest
    refine Rg.tk 0 ⟨some 17,.load 29 (.tmp 2),29,"ref.go:257",#[],none⟩ ?_
    try simp only [Rg.gp]
    refine Rg.tk 1 ⟨some 18,.move (.tmp 5),3,"ref.go:257",#[],none⟩ ?_
    try simp only [Rg.gp]
    refine Rg.tk 2 ⟨some 19,.move (.tmp 1),30,"ref.go:257",#[],none⟩ ?_
    try simp only [Rg.gp]
    refine Rg.tk 3 ⟨some 20,.build 32 #[(0,.tmp 17),(1,.tmp 18),(2,.tmp 19)],32,"ref.go:257",#[⟨0,.data⟩,⟨1,.data⟩,⟨2,.data⟩],none⟩ ?_
    try simp only [Rg.gp]
    refine Rg.tk 4 ⟨some 21,.move (.tmp 5),3,"ref.go:257",#[],none⟩ ?_
    try simp only [Rg.gp]
    refine Rg.tk 5 ⟨some 22,.move (.tmp 7),3,"ref.go:257",#[],none⟩ ?_
    try simp only [Rg.gp]
    refine wpAnyH_ready (rs:=[6,8]) (by kernel_rfl) (by simp) ?_
    refine (AllReadyH.cons (o:=⟨some 23,.call ⟨.value (.func 48),#[.tmp 21,.tmp 22],#[3,3]⟩,27,"ref.go:257",#[⟨4,.data⟩,⟨5,.data⟩],none⟩) rfl (fun K hK=>?_) (AllReadyH.cons (o:=⟨some 8,.alloc 46,0,"ref.go:257",#[],none⟩) rfl (fun K hK=>?_) AllReadyH.nil))
    ·go_simp
     go_at_call 48
     with_reducible refine (show Calls Try.prog 48 #[.int .i64 (n : Nat),.int .i64 (k : Nat)] _ (VPn EK n _) from by rw [← hEK.out]; exact unit_c (by omega) hlt).mono ?_
     rintro z y6 ⟨aU,cU,rfl,hnu,hb6⟩
     have HB6 : Hid (Below x0.heap.size x0 y6):=Lib.hid hb6
     have HBW6 : Hid (Below wo.heap.size wo y6):=Lib.hid (HBW0.out.trans (hb6.mono HBW0.out.size))
     have HNU:=Lib.hid hnu
     obtain ⟨v23,hv23⟩ : ∃ v,v = Value.slice aU n cU:=⟨_,rfl⟩
     have HV23:=Lib.hid hv23
     clear hnu hb6
     refine hK.out _ _ ?_ (fun hHeld=>?_)
     ·(try dsimp only)
      exact SZ.keep hHeld HB6.out
     clear hK K
     try simp only [Rg.gp]
     rw [← hv23]
     clear hv23
     refine wpAnyH_ready (rs:=[7,8]) (by kernel_rfl) (by simp) ?_
     refine (AllReadyH.cons (o:=⟨some 24,.call ⟨.value (.func 25),#[.tmp 20,.tmp 23],#[32,27]⟩,46,"ref.go:257",#[⟨3,.data⟩,⟨6,.data⟩,⟨6,.chain⟩],none⟩) rfl (fun K hK=>?_) (AllReadyH.cons (o:=⟨some 8,.alloc 46,0,"ref.go:257",#[],none⟩) rfl (fun K hK=>?_) AllReadyH.nil))
     ·rw [HV23.out]
      go_simp
      go_at_call 25
      with_reducible refine (show Calls Try.prog 25 #[MV F b cap n (.slice aa n ca),.slice aU n cU] _ (SvO so _) from by have t:=rsolve_o hHeld.2.2.2.out.1 h1 hn (by omega) HLA.out HMA.out HVE.out (HNA.out.below (KBS.out.trans (HBW6.out.mono KBS.out.size))) HNU.out; rw [← hEK.out,hso.out] at t; exact t).mono ?_
      rintro z y7 hs7
      obtain ⟨v24,rfl,hb7,HSO⟩ : ∃ v,z = .returned v ∧ Below y6.heap.size y6 y7 ∧ Hid (SoV so v y7):=by
       rcases hs7 with ⟨h1,h2,h3⟩ | ⟨x,a,c,h1,h2,h3,h4⟩
       ·exact ⟨_,h2,h3,Lib.hid (.inl ⟨h1,rfl⟩)⟩
       ·exact ⟨_,h2,h4,Lib.hid (.inr ⟨x,a,c,h1,rfl,own_weak h3 (Nat.zero_le _)⟩)⟩
      have HB7 : Hid (Below y6.heap.size y6 y7):=Lib.hid hb7
      have HBW7 : Hid (Below wo.heap.size wo y7):=Lib.hid (HBW6.out.trans (hb7.mono HBW6.out.size))
      replace HNU:=Lib.hid (HNU.out.below HB7.out)
      clear hs7 hb7
      refine hK.out _ _ ?_ (fun hHeld=>?_)
      ·(try dsimp only)
       exact SZ.keep hHeld HB7.out
      clear hK K
      try simp only [Rg.gp]
      rw [← HV23.out]
      refine Rg.rd1 8 ⟨some 8,.alloc 46,0,"ref.go:257",#[],none⟩ fun K hK=>?_
      go_simp
      refine hK.out _ _ ?_ (fun hHeld=>?_)
      ·(try dsimp only)
       exact SZ.keep hHeld ((Below.refl _ _).alloc (Nat.le_refl _) _)
      clear hK K
      try simp only [Rg.gp]
      obtain ⟨gR,hgR⟩ : ∃ g,y7.heap.size = g:=⟨_,rfl⟩
      obtain ⟨y8,hy8⟩ : ∃ x,x = y7.alloc (.cells #[.slice none 0 0,.int .i64 0] 46):=⟨_,rfl⟩
      have HB8 : Hid (Below y7.heap.size y7 y8):=Lib.hid (by rw [hy8]; exact (Below.refl _ _).alloc (Nat.le_refl _) _)
      have HBW8 : Hid (Below wo.heap.size wo y8):=Lib.hid (HBW7.out.trans (HB8.out.mono HBW7.out.size))
      have HRC : Hid (y8.cell? ⟨gR,0,none⟩ = some (.slice none 0 0) ∧ y8.cell? ⟨gR,1,none⟩ = some (.int .i64 0) ∧ (∀ t,y8.frozen? ⟨gR,t,none⟩ = false) ∧ (∃ cur,y8.heap[gR]? = some (.cells cur 46 (0,0))) ∧ gR < y8.heap.size):=Lib.hid (by
       rw [hy8,← hgR]
       exact ⟨World.cell?_alloc_at _ _ _ _ rfl,World.cell?_alloc_at _ _ _ _ rfl,fun t=>World.frozen?_alloc_at _ _ _ _ rfl,⟨_,heap_alloc_new _ _⟩,by simp⟩)
      have HGW : Hid (wo.heap.size ≤ gR):=Lib.hid (by rw [← hgR]; exact HBW7.out.size)
      replace HNU:=Lib.hid (HNU.out.below HB8.out)
      replace HSO:=Lib.hid (HSO.out.below HB8.out)
      rw [← hy8] at hHeld ⊢
      rw [hgR]
      obtain ⟨v8,hv8⟩ : ∃ v,v = Value.pointer (some ⟨gR,0,none⟩):=⟨_,rfl⟩
      rw [← hv8]
      have HV8:=Lib.hid hv8
      clear hy8 hgR hv8
      exact hrest.out _ v23 v24 v8 ⟨hHeld,by first | exact HBW8 | exact HBW7,HSO,gR,HV8,HGW,HRC⟩
     ·go_simp
      refine hK.out _ _ ?_ (fun hHeld=>?_)
      ·(try dsimp only)
       exact SZ.keep hHeld ((Below.refl _ _).alloc (Nat.le_refl _) _)
      clear hK K
      try simp only [Rg.gp]
      obtain ⟨gR,hgR⟩ : ∃ g,y6.heap.size = g:=⟨_,rfl⟩
      obtain ⟨y8,hy8⟩ : ∃ x,x = y6.alloc (.cells #[.slice none 0 0,.int .i64 0] 46):=⟨_,rfl⟩
      have HB8 : Hid (Below y6.heap.size y6 y8):=Lib.hid (by rw [hy8]; exact (Below.refl _ _).alloc (Nat.le_refl _) _)
      have HBW8 : Hid (Below wo.heap.size wo y8):=Lib.hid (HBW6.out.trans (HB8.out.mono HBW6.out.size))
      have HRC : Hid (y8.cell? ⟨gR,0,none⟩ = some (.slice none 0 0) ∧ y8.cell? ⟨gR,1,none⟩ = some (.int .i64 0) ∧ (∀ t,y8.frozen? ⟨gR,t,none⟩ = false) ∧ (∃ cur,y8.heap[gR]? = some (.cells cur 46 (0,0))) ∧ gR < y8.heap.size):=Lib.hid (by
       rw [hy8,← hgR]
       exact ⟨World.cell?_alloc_at _ _ _ _ rfl,World.cell?_alloc_at _ _ _ _ rfl,fun t=>World.frozen?_alloc_at _ _ _ _ rfl,⟨_,heap_alloc_new _ _⟩,by simp⟩)
      have HGW : Hid (wo.heap.size ≤ gR):=Lib.hid (by rw [← hgR]; exact HBW6.out.size)
      replace HNU:=Lib.hid (HNU.out.below HB8.out)
      rw [← hy8] at hHeld ⊢
      rw [hgR]
      obtain ⟨v8,hv8⟩ : ∃ v,v = Value.pointer (some ⟨gR,0,none⟩):=⟨_,rfl⟩
      rw [← hv8]
      have HV8:=Lib.hid hv8
      clear hy8 hgR hv8
      refine Rg.rd1 7 ⟨some 24,.call ⟨.value (.func 25),#[.tmp 20,.tmp 23],#[32,27]⟩,46,"ref.go:257",#[⟨3,.data⟩,⟨6,.data⟩,⟨6,.chain⟩],none⟩ fun K hK=>?_
      rw [HV23.out]
      go_simp
      go_at_call 25
      with_reducible refine (show Calls Try.prog 25 #[MV F b cap n (.slice aa n ca),.slice aU n cU] _ (SvO so _) from by have t:=rsolve_o hHeld.2.2.2.out.1 h1 hn (by omega) HLA.out HMA.out HVE.out (HNA.out.below (KBS.out.trans (HBW8.out.mono KBS.out.size))) HNU.out; rw [← hEK.out,hso.out] at t; exact t).mono ?_
      rintro z y7 hs7
      obtain ⟨v24,rfl,hb7,HSO⟩ : ∃ v,z = .returned v ∧ Below y8.heap.size y8 y7 ∧ Hid (SoV so v y7):=by
       rcases hs7 with ⟨h1,h2,h3⟩ | ⟨x,a,c,h1,h2,h3,h4⟩
       ·exact ⟨_,h2,h3,Lib.hid (.inl ⟨h1,rfl⟩)⟩
       ·exact ⟨_,h2,h4,Lib.hid (.inr ⟨x,a,c,h1,rfl,own_weak h3 (Nat.zero_le _)⟩)⟩
      have HB7 : Hid (Below y8.heap.size y8 y7):=Lib.hid hb7
      have HBW7 : Hid (Below wo.heap.size wo y7):=Lib.hid (HBW8.out.trans (hb7.mono HBW8.out.size))
      replace HNU:=Lib.hid (HNU.out.below HB7.out)
      replace HRC:=Lib.hid (show y7.cell? ⟨gR,0,none⟩ = some (.slice none 0 0) ∧ y7.cell? ⟨gR,1,none⟩ = some (.int .i64 0) ∧ (∀ t,y7.frozen? ⟨gR,t,none⟩ = false) ∧ (∃ cur,y7.heap[gR]? = some (.cells cur 46 (0,0))) ∧ gR < y7.heap.size from by
       obtain ⟨c0,c1,cf,⟨cur,ch⟩,cl⟩:=HRC.out
       exact ⟨(HB7.out.cell (p:=⟨gR,0,none⟩) cl).trans c0,(HB7.out.cell (p:=⟨gR,1,none⟩) cl).trans c1,fun t=>(World.frozen?_of_block (w:=y8) (HB7.out.block _ cl)).trans (cf t),⟨cur,(HB7.out.block _ cl).trans ch⟩,Nat.lt_of_lt_of_le cl HB7.out.size⟩)
      clear hs7 hb7
      refine hK.out _ _ ?_ (fun hHeld=>?_)
      ·(try dsimp only)
       exact SZ.keep hHeld HB7.out
      clear hK K
      try simp only [Rg.gp]
      rw [← HV23.out]
      exact hrest.out _ v23 v24 v8 ⟨hHeld,by first | exact HBW8 | exact HBW7,HSO,gR,HV8,HGW,HRC⟩
    ·go_simp
     refine hK.out _ _ ?_ (fun hHeld=>?_)
     ·(try dsimp only)
      exact SZ.keep hHeld ((Below.refl _ _).alloc (Nat.le_refl _) _)
     clear hK K
     try simp only [Rg.gp]
     obtain ⟨gR,hgR⟩ : ∃ g,x0.heap.size = g:=⟨_,rfl⟩
     obtain ⟨y8,hy8⟩ : ∃ x,x = x0.alloc (.cells #[.slice none 0 0,.int .i64 0] 46):=⟨_,rfl⟩
     have HB8 : Hid (Below x0.heap.size x0 y8):=Lib.hid (by rw [hy8]; exact (Below.refl _ _).alloc (Nat.le_refl _) _)
     have HBW8 : Hid (Below wo.heap.size wo y8):=Lib.hid (HBW0.out.trans (HB8.out.mono HBW0.out.size))
     have HRC : Hid (y8.cell? ⟨gR,0,none⟩ = some (.slice none 0 0) ∧ y8.cell? ⟨gR,1,none⟩ = some (.int .i64 0) ∧ (∀ t,y8.frozen? ⟨gR,t,none⟩ = false) ∧ (∃ cur,y8.heap[gR]? = some (.cells cur 46 (0,0))) ∧ gR < y8.heap.size):=Lib.hid (by
      rw [hy8,← hgR]
      exact ⟨World.cell?_alloc_at _ _ _ _ rfl,World.cell?_alloc_at _ _ _ _ rfl,fun t=>World.frozen?_alloc_at _ _ _ _ rfl,⟨_,heap_alloc_new _ _⟩,by simp⟩)
     have HGW : Hid (wo.heap.size ≤ gR):=Lib.hid (by rw [← hgR]; exact HBW0.out.size)
     rw [← hy8] at hHeld ⊢
     rw [hgR]
     obtain ⟨v8,hv8⟩ : ∃ v,v = Value.pointer (some ⟨gR,0,none⟩):=⟨_,rfl⟩
     rw [← hv8]
     have HV8:=Lib.hid hv8
     clear hy8 hgR hv8
     refine Rg.rd1 6 ⟨some 23,.call ⟨.value (.func 48),#[.tmp 21,.tmp 22],#[3,3]⟩,27,"ref.go:257",#[⟨4,.data⟩,⟨5,.data⟩],none⟩ fun K hK=>?_
     go_simp
     go_at_call 48
     with_reducible refine (show Calls Try.prog 48 #[.int .i64 (n : Nat),.int .i64 (k : Nat)] _ (VPn EK n _) from by rw [← hEK.out]; exact unit_c (by omega) hlt).mono ?_
     rintro z y6 ⟨aU,cU,rfl,hnu,hb6⟩
     have HB6 : Hid (Below y8.heap.size y8 y6):=Lib.hid hb6
     have HBW6 : Hid (Below wo.heap.size wo y6):=Lib.hid (HBW8.out.trans (hb6.mono HBW8.out.size))
     have HNU:=Lib.hid hnu
     replace HRC:=Lib.hid (show y6.cell? ⟨gR,0,none⟩ = some (.slice none 0 0) ∧ y6.cell? ⟨gR,1,none⟩ = some (.int .i64 0) ∧ (∀ t,y6.frozen? ⟨gR,t,none⟩ = false) ∧ (∃ cur,y6.heap[gR]? = some (.cells cur 46 (0,0))) ∧ gR < y6.heap.size from by
      obtain ⟨c0,c1,cf,⟨cur,ch⟩,cl⟩:=HRC.out
      exact ⟨(HB6.out.cell (p:=⟨gR,0,none⟩) cl).trans c0,(HB6.out.cell (p:=⟨gR,1,none⟩) cl).trans c1,fun t=>(World.frozen?_of_block (w:=y8) (HB6.out.block _ cl)).trans (cf t),⟨cur,(HB6.out.block _ cl).trans ch⟩,Nat.lt_of_lt_of_le cl HB6.out.size⟩)
     obtain ⟨v23,hv23⟩ : ∃ v,v = Value.slice aU n cU:=⟨_,rfl⟩
     have HV23:=Lib.hid hv23
     clear hnu hb6
     refine hK.out _ _ ?_ (fun hHeld=>?_)
     ·(try dsimp only)
      exact SZ.keep hHeld HB6.out
     clear hK K
     try simp only [Rg.gp]
     rw [← hv23]
     clear hv23
     refine Rg.rd1 7 ⟨some 24,.call ⟨.value (.func 25),#[.tmp 20,.tmp 23],#[32,27]⟩,46,"ref.go:257",#[⟨3,.data⟩,⟨6,.data⟩,⟨6,.chain⟩],none⟩ fun K hK=>?_
     rw [HV23.out]
     go_simp
     go_at_call 25
     with_reducible refine (show Calls Try.prog 25 #[MV F b cap n (.slice aa n ca),.slice aU n cU] _ (SvO so _) from by have t:=rsolve_o hHeld.2.2.2.out.1 h1 hn (by omega) HLA.out HMA.out HVE.out (HNA.out.below (KBS.out.trans (HBW6.out.mono KBS.out.size))) HNU.out; rw [← hEK.out,hso.out] at t; exact t).mono ?_
     rintro z y7 hs7
     obtain ⟨v24,rfl,hb7,HSO⟩ : ∃ v,z = .returned v ∧ Below y6.heap.size y6 y7 ∧ Hid (SoV so v y7):=by
      rcases hs7 with ⟨h1,h2,h3⟩ | ⟨x,a,c,h1,h2,h3,h4⟩
      ·exact ⟨_,h2,h3,Lib.hid (.inl ⟨h1,rfl⟩)⟩
      ·exact ⟨_,h2,h4,Lib.hid (.inr ⟨x,a,c,h1,rfl,own_weak h3 (Nat.zero_le _)⟩)⟩
     have HB7 : Hid (Below y6.heap.size y6 y7):=Lib.hid hb7
     have HBW7 : Hid (Below wo.heap.size wo y7):=Lib.hid (HBW6.out.trans (hb7.mono HBW6.out.size))
     replace HNU:=Lib.hid (HNU.out.below HB7.out)
     replace HRC:=Lib.hid (show y7.cell? ⟨gR,0,none⟩ = some (.slice none 0 0) ∧ y7.cell? ⟨gR,1,none⟩ = some (.int .i64 0) ∧ (∀ t,y7.frozen? ⟨gR,t,none⟩ = false) ∧ (∃ cur,y7.heap[gR]? = some (.cells cur 46 (0,0))) ∧ gR < y7.heap.size from by
      obtain ⟨c0,c1,cf,⟨cur,ch⟩,cl⟩:=HRC.out
      exact ⟨(HB7.out.cell (p:=⟨gR,0,none⟩) cl).trans c0,(HB7.out.cell (p:=⟨gR,1,none⟩) cl).trans c1,fun t=>(World.frozen?_of_block (w:=y6) (HB7.out.block _ cl)).trans (cf t),⟨cur,(HB7.out.block _ cl).trans ch⟩,Nat.lt_of_lt_of_le cl HB7.out.size⟩)
     clear hs7 hb7
     refine hK.out _ _ ?_ (fun hHeld=>?_)
     ·(try dsimp only)
      exact SZ.keep hHeld HB7.out
     clear hK K
     try simp only [Rg.gp]
     rw [← HV23.out]
     exact hrest.out _ v23 v24 v8 ⟨hHeld,by first | exact HBW8 | exact HBW7,HSO,gR,HV8,HGW,HRC⟩
   case hr =>
    intro x v23 v24 v8 hx
    obtain ⟨hHeld,HBX,HSO,gR,HV8,HGW,HRC⟩:=hx
    obtain rfl:=HV8.out
    rcases HSO.out with ⟨hso1,rfl⟩ | ⟨X,a24,c24,hso1,rfl,hox⟩
    ·refine Rg.rd1 9 ⟨none,.store 46 (.tmp 8) (.tmp 24),0,"ref.go:257",#[⟨8,.data⟩,⟨7,.data⟩,⟨7,.chain⟩,⟨0,.phase⟩,⟨1,.phase⟩,⟨2,.phase⟩,⟨3,.phase⟩,⟨4,.phase⟩,⟨5,.phase⟩,⟨6,.phase⟩,⟨7,.phase⟩,⟨8,.phase⟩],none⟩ fun K hK=>?_
     obtain ⟨rc0,rc1,rcf,-,-⟩:=HRC.out
     have rf0:=rcf 0
     have rf1:=rcf 1
     clear rcf
     go_simp
     refine hK.out _ _ ?_ (fun hHeld=>?_)
     ·(try dsimp only)
      exact SZ.go hHeld (Bx.below (two_bx (B:=gR) _ _) (Nat.le_trans HKS.out HBX.out.size) fun j (hj : j = gR)=>by rw [hj]; exact Nat.le_trans HKS.out HGW.out)
     clear hK K
     try simp only [Rg.gp]
     refine wpAnyH_done (by kernel_rfl) ?_ _
     have HIV : Hid (invM F n A = none):=Lib.hid (inv_none_of HFF.out HMA.out HLA.out hlt (by rw [hso.out]; exact hso1))
     obtain ⟨w9,hw9⟩ : ∃ w,w = ((x.setCell ⟨gR,0,none⟩ (.slice none 0 0)).setCell ⟨gR,1,none⟩ (.int .i64 4)):=⟨_,rfl⟩
     have HB9 : Hid (Below wo.heap.size wo w9):=Lib.hid (by rw [hw9]; exact HBX.out.trans (Bx.below (two_bx (B:=gR) _ _) HBX.out.size fun j (hj : j = gR)=>by rw [hj]; exact HGW.out))
     have c0 : w9.cell? ⟨gR,0,none⟩ = some (.slice none 0 0):=by rw [hw9,oth _ (by decide)]; exact World.cell?_setCell_same _ _ _ rc0
     have c1 : w9.cell? ⟨gR,1,none⟩ = some (.int .i64 4):=by rw [hw9]; exact World.cell?_setCell_same _ _ _ (by rw [oth _ (by decide)]; exact rc1)
     have r0 : w9.cell? ⟨W.heap.size + 1,0,none⟩ = some (.slice none 0 0):=(HB9.out.cell HLR.out).trans HRR.out.1
     have r1 : w9.cell? ⟨W.heap.size + 1,1,none⟩ = some (.int .i64 0):=(HB9.out.cell HLR.out).trans HRR.out.2.1
     have f0 : w9.frozen? ⟨W.heap.size + 1,0,none⟩ = false:=(World.frozen?_of_block (w:=wo) (HB9.out.block _ HLR.out)).trans (HRR.out.2.2 0)
     have f1 : w9.frozen? ⟨W.heap.size + 1,1,none⟩ = false:=(World.frozen?_of_block (w:=wo) (HB9.out.block _ HLR.out)).trans (HRR.out.2.2 1)
     have HBZ : Hid (Below W.heap.size W ((w9.setCell ⟨W.heap.size + 1,0,none⟩ (.slice none 0 0)).setCell ⟨W.heap.size + 1,1,none⟩ (.int .i64 4))):=Lib.hid ((HAL.out.trans ((KBS.out.trans (HB9.out.mono KBS.out.size)).mono HAL.out.size)).trans (Bx.below (two_bx _ _) (Nat.le_trans HAL.out.size (Nat.le_trans KBS.out.size HB9.out.size)) fun j (hj : j = W.heap.size + 1)=>by omega))
     clear hHeld rc0 rc1 rf0 rf1
     rw [← hw9]
     clear hw9
     go_wp2
     refine bodyPost_ret (v:=.agg #[.slice none 0 0,.int .i64 4]) (by simp [results,Try.results34,go_sem,r0,r1]) rfl ?_
     exact .inl ⟨HIV.out,rfl,HBZ.out⟩
    ·refine Rg.rd1 9 ⟨none,.store 46 (.tmp 8) (.tmp 24),0,"ref.go:257",#[⟨8,.data⟩,⟨7,.data⟩,⟨7,.chain⟩,⟨0,.phase⟩,⟨1,.phase⟩,⟨2,.phase⟩,⟨3,.phase⟩,⟨4,.phase⟩,⟨5,.phase⟩,⟨6,.phase⟩,⟨7,.phase⟩,⟨8,.phase⟩],none⟩ fun K hK=>?_
     obtain ⟨rc0,rc1,rcf,-,-⟩:=HRC.out
     have rf0:=rcf 0
     have rf1:=rcf 1
     clear rcf
     go_simp
     refine hK.out _ _ ?_ (fun hHeld=>?_)
     ·(try dsimp only)
      exact SZ.go hHeld (Bx.below (two_bx (B:=gR) _ _) (Nat.le_trans HKS.out HBX.out.size) fun j (hj : j = gR)=>by rw [hj]; exact Nat.le_trans HKS.out HGW.out)
     clear hK K
     try simp only [Rg.gp]
     refine wpAnyH_done (by kernel_rfl) ?_ _
     have HSS : Hid (∀ j,j < k + 1 → solM F n (eqM A (eL n j)) = some ((C ++ [X]).getD j [])):=Lib.hid (fun j hj=>by
      rw [getD_snoc,HCL.out]
      by_cases e : j < k
      ·rw [if_pos e]; exact HCS.out j e
      ·obtain rfl : j = k:=by omega
       rw [if_neg e,if_pos rfl,hso.out]; exact hso1)
     have HXL : Hid (X.length = n):=Lib.hid ((sol_some HFF.out HMA.out HLA.out (eL_vn HFF.out k) (by rw [hso.out]; exact hso1)).1.len)
     obtain ⟨lx,hlx⟩ : ∃ l,Hid (X.length = l):=⟨_,Lib.hid rfl⟩
     obtain ⟨w9,hw9⟩ : ∃ w,w = ((x.setCell ⟨gR,0,none⟩ (.slice a24 X.length c24)).setCell ⟨gR,1,none⟩ (.int .i64 0)):=⟨_,rfl⟩
     have HB9 : Hid (Below wo.heap.size wo w9):=Lib.hid (by rw [hw9]; exact HBX.out.trans (Bx.below (two_bx (B:=gR) _ _) HBX.out.size fun j (hj : j = gR)=>by rw [hj]; exact HGW.out))
     have HX9 : Hid (w9.ownsRow 0 3 1 (.slice a24 X.length c24) X.length (X.map N64)):=Lib.hid (by
      rw [hw9]
      obtain ⟨cur,hcur⟩:=HRC.out.2.2.2.1
      refine own_bx2 hox (two_bx (B:=gR) _ _) (fun j e (hj : j = gR)=>?_)
      rcases hox.2 with ⟨e2,_⟩ | ⟨g',_,_,e2,_,h3,_⟩
      ·rw [e2] at e; cases e
      ·have e3 : g' = j:=by rw [e2] at e; simpa [Value.ownBlock] using e
       rw [e3,hj,hcur] at h3
       injection h3 with h3
       injection h3 with _ h3 _
       exact absurd h3 (by decide))
     have c0 : w9.cell? ⟨gR,0,none⟩ = some (.slice a24 X.length c24):=by rw [hw9,oth _ (by decide)]; exact World.cell?_setCell_same _ _ _ rc0
     have c1 : w9.cell? ⟨gR,1,none⟩ = some (.int .i64 0):=by rw [hw9]; exact World.cell?_setCell_same _ _ _ (by rw [oth _ (by decide)]; exact rc1)
     have HO9:=Lib.hid (HO.out.below HB9.out)
     have HK9 : Hid (bs ≤ w9.heap.size):=Lib.hid (Nat.le_trans HKS.out HB9.out.size)
     have HOW : Hid (w9.ownsRow bs 27 1 (.slice aP k cP) k us):=Lib.hid (by have:=HO9.out.own; rwa [HCL.out] at this)
     have HB09 : Hid (Below bs w0 w9):=Lib.hid (KB.out.trans (HB9.out.mono HKS.out))
     clear hHeld rc0 rc1 rf0 rf1 hox hso1
     rw [← hw9]
     clear hw9
     rw [hlx.out] at c0
     go_wp2_with (at_builtin; refine wpList_append_own_at _ rfl _ _ 30 rfl bs 27 j0 (.slice none 0 0) 1 24 Try.underlying30 ji jz0 jz1 jz2 rfl (by decide) _ _ _ rfl (HOW.out.alloc _) ⟨w9.heap.size,0,none⟩ 1 1 [.slice a24 lx c24] rfl rfl (cell_one_new _ _ _) (fun u hu=>by simp at hu; subst hu; rfl) ?d3 ?d4 ?d5 ?_)
     case d3=>unfold maxLen; omega
     case d4=>omega
     case d5=>have:=HK9.out; simp; omega
     intro v' w10 hown' hgrow hnil hat
     have hal2 : Below w9.heap.size w9 (w9.alloc (.cells #[.slice a24 lx c24] 27)):=(Below.refl _ _).alloc (Nat.le_refl _) _
     have HO10 : Hid (OL (C ++ [X]) (us ++ [.slice a24 lx c24]) bs w10 v'):=Lib.hid (OL.push (HO9.out.below hal2) (by have h:=own_belowK HX9.out hal2; rw [hlx.out] at h ⊢; exact h) (by rw [HCL.out]) hown' hgrow)
     have HB10 : Hid (Below bs w0 w10):=Lib.hid ((HB09.out.alloc HK9.out _).trans (Bx.below (Bx.grown hgrow fun j hj=>(HOW.out.lt j hj).1) (by have:=HK9.out; simp; omega) fun j hj=>hj))
     have HC10 : Hid ((C ++ [X]).length = k + 1):=Lib.hid (by rw [List.length_append,HCL.out]; rfl)
     clear hown' hgrow hnil hat hal2
     go_wp2
     go_roundw
     case rel=>exact ⟨k + 1,C ++ [X],_,by omega,by go_num,HO10,HC10,HSS,HB10⟩
     case measure=>simp [intOf]; omega
  ·obtain rfl : k = n:=by omega
   have hlt1 : ¬ (k : Int) < (k : Int):=by omega
   have HIV : Hid (invM F k A = some (tuM k C)):=Lib.hid (inv_of_cols HFF.out HMA.out HLA.out HCL.out HCS.out)
   have HTU : Hid (Calls Try.prog 38 #[.int .i64 (k : Nat),.slice aP k cP] wo (MPn (tuM k C) k wo)):=Lib.hid (turn_c (by omega) (by omega) HCL.out (fun j hj=>by
    have:=(sol_some HFF.out HMA.out HLA.out (eL_vn HFF.out j) (HCS.out j hj)).1.len
    omega) HO.out.mm)
   go_wp2_with fail
   with_reducible refine HTU.out.mono ?_
   rintro e w3 ⟨aT,cT,rfl,hmt,hb3⟩
   have r0 : w3.cell? ⟨W.heap.size + 1,0,none⟩ = some (.slice none 0 0):=(hb3.cell HLR.out).trans HRR.out.1
   have r1 : w3.cell? ⟨W.heap.size + 1,1,none⟩ = some (.int .i64 0):=(hb3.cell HLR.out).trans HRR.out.2.1
   have f0 : w3.frozen? ⟨W.heap.size + 1,0,none⟩ = false:=(World.frozen?_of_block (w:=wo) (hb3.block _ HLR.out)).trans (HRR.out.2.2 0)
   have f1 : w3.frozen? ⟨W.heap.size + 1,1,none⟩ = false:=(World.frozen?_of_block (w:=wo) (hb3.block _ HLR.out)).trans (HRR.out.2.2 1)
   have HBZ : Hid (Below W.heap.size W ((w3.setCell ⟨W.heap.size + 1,0,none⟩ (.slice aT k cT)).setCell ⟨W.heap.size + 1,1,none⟩ (.int .i64 0))):=Lib.hid ((HAL.out.trans ((KBS.out.trans (hb3.mono KBS.out.size)).mono HAL.out.size)).trans (Bx.below (two_bx _ _) (Nat.le_trans HAL.out.size (Nat.le_trans KBS.out.size hb3.size)) fun j (hj : j = W.heap.size + 1)=>by omega))
   have HMT:=Lib.hid (hmt.kp (kp_store2 (R:=W.heap.size + 1) (.slice aT k cT) r0 r1) (fun t ht=>by
    rw [tuM_len] at ht
    rw [tuM_get ht,List.length_map,HCL.out]; omega))
   clear hmt hb3 HTU
   go_wp2
   refine bodyPost_ret (v:=.agg #[.slice aT k cT,.int .i64 0]) (by simp [results,Try.results34,go_sem,r0,r1]) rfl ?_
   exact .inr ⟨tuM k C,aT,cT,HIV.out,by rw [tuM_len],by rw [tuM_len]; exact HMT.out,HBZ.out⟩
end Go.Proofs.Yteeofijcndgbfaa
