/- Has: a vector without its coordinates at the pivots is 0. -/
import Derived.Test.YteeofijcndgbfaaEvTk
import Derived.Test.YteeofijcndgbfaaSr
import Derived.Test.YteeofijcndgbfaaEvWl
namespace Go.Proofs.Yteeofijcndgbfaa
open Go.RowKit Go.Fl
set_option maxRecDepth 100000
set_option linter.unusedVariables false
set_option linter.unusedSimpArgs false
set_option linter.unusedSectionVars false
def hasV (F : Gf) (n : Nat) (A : List (List Nat)) (v : List Nat) : Bool:=zV (toV n (clr F (redL F n (A.map Go.Fl.fn)) (Go.Fl.fn v)))
theorem own_row {L : List Nat} {w : World} {base : Nat} {v : Value} (h : w.ownsRow base 3 1 v L.length (L.map N64)) (hl : L ≠ []) : ∃ X cap,v = .slice (some ⟨X,0,none⟩) L.length cap ∧ base ≤ X ∧ Rw L X w ∧ L.length ≤ cap:=by
 have hn:=NN.of_owns h
 rcases h.2 with ⟨_,e⟩ | ⟨g,cap,cur,rfl,h3,h4,h5,h6,h7,h8⟩
 ·exact absurd (List.eq_nil_of_length_eq_zero e) hl
 ·refine ⟨g,cap,rfl,h3,?_,h5⟩
  rcases hn with ⟨e,_⟩ | ⟨b',o',c',e,_,hlt,hc⟩
  ·exact absurd e hl
  ·injection e with e1 e2 e3
   injection e1 with e1
   injection e1 with e1 e2 e3
   subst e1; subst e2
   exact ⟨hlt,fun t ht=>by have:=hc t ht; rwa [Nat.zero_add] at this,fun t=>frozen_of_row w g t cur 3 h4⟩
theorem fold_step {F : Gf} {L : List (Nat × Cf)} {v : Cf} {k : Nat} (hk : k < L.length) : (L.take (k + 1)).foldl (fun x a=>mns F x (x a.1) a.2) v = mns F ((L.take k).foldl (fun x a=>mns F x (x a.1) a.2) v) ((L.take k).foldl (fun x a=>mns F x (x a.1) a.2) v (L[k]).1) (L[k]).2:=by
 rw [List.take_succ_eq_append_getElem hk,List.foldl_append]; rfl
set_option maxHeartbeats 6400000 in
theorem has_c {F : Gf} {b cap n ca cv : Nat} {A : List (List Nat)} {V : List Nat} {aa av : Option Addr} {W : World} (hA : FldAt F b cap W) (h1 : 1 ≤ n) (hn : n ≤ 24) (la : A.length ≤ 500) (ma : Mn F n A) (mv : Vn F n V) (na : MM A W (.slice aa A.length ca)) (nv : NN V W (.slice av n cv)) :
  Calls Try.prog 26 #[FV F b cap,.slice aa A.length ca,.slice av n cv] W fun e w'=>e = .returned (.bool (hasV F n A V)) ∧ Below W.heap.size W w':=by
 obtain ⟨i0,hi,hz0,hz1,hz2⟩:=info_parts info3
 obtain ⟨lA,eA⟩ : ∃ l,A.length = l:=⟨_,rfl⟩
 have HFF : Hid (Ok F):=Lib.hid (ok_mem hA.mem)
 obtain ⟨w1,hw1⟩ : ∃ w1,w1 = W.alloc (.cells #[.int .i64 F.p,.int .i64 F.e,FM F b cap] 29):=⟨_,rfl⟩
 have HAL : Hid (Below W.heap.size W w1):=Lib.hid (by rw [hw1]; exact (Below.refl _ _).alloc (Nat.le_refl _) _)
 have HS1 : Hid (w1.heap.size = W.heap.size + 1):=Lib.hid (by rw [hw1]; simp)
 have HFB : Hid (FBx W.heap.size F b cap w1):=Lib.hid (by rw [hw1]; exact FBx.new W F b cap)
 have HF1:=Lib.hid (hA.below HAL.out)
 have HNA:=Lib.hid (na.below HAL.out)
 have HW : Hid (Calls Try.prog 49 #[.int .i64 (n : Nat),.slice (some ⟨W.heap.size + 1,0,none⟩) 1 1] (w1.alloc (.cells #[.slice aa lA ca] 30)) fun e w'=>e = .returned (.bool true) ∧ Below (w1.alloc (.cells #[.slice aa lA ca] 30)).heap.size (w1.alloc (.cells #[.slice aa lA ca] 30)) w'):=Lib.hid (by
  have t:=have1 hn la ma HNA.out
  rw [eA,HS1.out,show decide (1 ≤ n) = true from by simpa using h1] at t; exact t)
 have HMA:=Lib.hid ma
 have HMV:=Lib.hid mv
 have HNV:=Lib.hid nv
 have EA:=Lib.hid eA
 have HW1:=Lib.hid hw1
 obtain ⟨HB,hHB⟩ : ∃ B,Hid (hasV F n A V = B):=⟨_,Lib.hid rfl⟩
 obtain ⟨L,hL⟩ : ∃ R,Hid (redL F n (A.map Go.Fl.fn) = R):=⟨_,Lib.hid rfl⟩
 obtain ⟨RM,hRM⟩ : ∃ R,Hid (redM F n A = R):=⟨_,Lib.hid rfl⟩
 obtain ⟨P,hP⟩ : ∃ R,Hid (pivM F n A = R):=⟨_,Lib.hid rfl⟩
 obtain ⟨m,hm⟩ : ∃ m,Hid (L.length = m):=⟨_,Lib.hid rfl⟩
 have HRL : Hid (RedL F n L):=Lib.hid (by rw [← hL.out]; exact (redL_ok HFF.out (Mn.vs HFF.out ma)).1)
 have HKN : Hid (KN F n m RM P L):=Lib.hid (by rw [← hm.out,← hL.out,← hRM.out,← hP.out]; exact KN.of HFF.out ma)
 have HRW : Hid (∀ k (hk : k < L.length),fn (RM.getD k []) = (L[k]).2 ∧ P.getD k 0 = (L[k]).1):=Lib.hid (by
  intro k hk
  obtain ⟨h1,h2,h3⟩:=redM_ok HFF.out ma
  have e:=congrArg (fun l=>l.getD k pz) h3
  simp only [map_fn_get] at e
  rw [hL.out,hRM.out] at e
  refine ⟨by rw [e]; exact map_snd_getD hk,?_⟩
  rw [← hP.out]
  unfold pivM
  rw [hL.out]
  exact map_fst_getD hk)
 have HMR : Hid (Mn F n RM):=Lib.hid (by rw [← hRM.out]; exact (redM_ok HFF.out ma).1)
 have HMM : Hid (m ≤ 500):=Lib.hid (by have:=redM_le HFF.out ma; rw [hRM.out,HKN.out.rl] at this; omega)
 have hm5:=HMM.out
 rw [eA] at la ⊢
 rw [hHB.out]
 clear hA ma mv na nv hw1 eA
 go_enter Try.func26,Try.ntmps26
 go_wp2_with fail
 rw [← HW1.out]
 clear HW1
 with_reducible refine HW.out.mono ?_
 rintro z w3 ⟨rfl,hb⟩
 have HB3 : Hid (Below w1.heap.size w1 w3):=Lib.hid ((((Below.refl _ _).alloc (Nat.le_refl _) _)).trans (hb.mono (by simp)))
 have HBW3 : Hid (Below W.heap.size W w3):=Lib.hid (HAL.out.trans (HB3.out.mono HAL.out.size))
 have HF3:=Lib.hid (HF1.out.below HB3.out)
 have HNA3:=Lib.hid (HNA.out.below HB3.out)
 obtain ⟨f0,f1,f2⟩:=HFB.out.below HB3.out (by have:=HS1.out; omega)
 have HO : Hid (Calls Try.prog 54 #[FV F b cap,.int .i64 (n : Nat),.slice (some ⟨w3.heap.size,0,none⟩) 1 1] (w3.alloc (.cells #[.slice aa lA ca] 30)) (OverP F b cap n A (w3.alloc (.cells #[.slice aa lA ca] 30)))):=Lib.hid (by
  have t:=over1 HF3.out hn (by rw [EA.out]; exact la) HMA.out HNA3.out
  rw [EA.out] at t; exact t)
 clear hb HW HF1 HNA
 go_wp2_with fail
 with_reducible refine HO.out.mono ?_
 rintro z w4 ⟨rs0,v0,rfl,hor,-,-,hb⟩
 have HB4 : Hid (Below w3.heap.size w3 w4):=Lib.hid ((((Below.refl _ _).alloc (Nat.le_refl _) _)).trans (hb.mono (by simp)))
 have HBW4 : Hid (Below W.heap.size W w4):=Lib.hid (HBW3.out.trans (HB4.out.mono HBW3.out.size))
 have HF4:=Lib.hid (HF3.out.below HB4.out)
 have HLO : Hid (b < w3.heap.size ∧ W.heap.size ≤ w3.heap.size):=Lib.hid ⟨HF3.out.lt,HBW3.out.size⟩
 obtain ⟨g,hov,hg⟩:=hor.ov
 have HG : Hid (w3.heap.size < g):=Lib.hid (by simp at hg; omega)
 have HRS : Hid (∀ i,i < A.length → w3.heap.size < rs0.getD i 0):=Lib.hid (fun i hi=>by have:=hor.lo i hi; simp at this ⊢; omega)
 have HR : Hid (Calls Try.prog 59 #[MV F b cap n v0] w4 (RedP F b cap n A rs0 g w4)):=Lib.hid (reduced_v HF4.out (by omega) (by rw [EA.out]; omega) hov HMA.out (by have:=HG.out; have:=HLO.out; omega) fun i hi=>by have:=HRS.out i hi; have:=HLO.out; omega)
 obtain ⟨aV,nV,cV0,hvs⟩ : ∃ a m c,v0 = .slice a m c:=by obtain ⟨a,c,e⟩:=hor.shape; exact ⟨a,_,c,e⟩
 subst hvs
 clear hb hor hov hg HO f0 f1 f2
 go_wp2_with fail
 with_reducible refine HR.out.mono ?_
 rintro z w5 ⟨rs,v2,a2,c2,rfl,hnp,hov,-,hbx⟩
 have hb45:=hbx.below (B:=w3.heap.size) HB4.out.size (by
  rintro j (e | ⟨i,hi,e⟩)
  ·have:=HG.out; omega
  ·have:=HRS.out i hi; omega)
 have HB35 : Hid (Below w3.heap.size w3 w5):=Lib.hid (HB4.out.trans hb45)
 have HB5 : Hid (Below W.heap.size W w5):=Lib.hid (HBW3.out.trans (HB35.out.mono HBW3.out.size))
 have HF5:=Lib.hid (HF3.out.below HB35.out)
 rw [hRM.out] at hov
 rw [hP.out,HKN.out.pl] at hnp ⊢
 obtain ⟨aW,cV,hvs⟩:=hov.shape
 rw [HKN.out.rl] at hvs
 subst hvs
 have HOV:=Lib.hid hov
 have HNP:=Lib.hid hnp
 obtain ⟨w6,hw6⟩ : ∃ w6,w6 = (w5.alloc (.cells #[.int .i64 F.p,.int .i64 F.e,FM F b cap,.int .i64 (n : Nat),.slice aW m cV] 79)):=⟨_,rfl⟩
 have hal : Bx (fun _=>False) w5 w6:=by rw [hw6]; exact Bx.of ((Below.refl _ _).alloc (Nat.le_refl _) _)
 have HX6:=Lib.hid hal
 have HS6 : Hid (w6.heap.size = w5.heap.size + 1):=Lib.hid (by rw [hw6]; simp)
 have HBX : Hid (BX w5.heap.size F b cap n (.slice aW m cV) w6):=Lib.hid (by
  rw [hw6]; exact ⟨⟨World.cell?_alloc_at _ _ _ _ rfl,World.cell?_alloc_at _ _ _ _ rfl,World.cell?_alloc_at _ _ _ _ rfl,World.cell?_alloc_at _ _ _ _ rfl,World.cell?_alloc_at _ _ _ _ rfl⟩,fun t=>World.frozen?_alloc_at _ _ _ _ rfl,by simp⟩)
 have hnv6:=HNV.out.below (HB5.out)
 have hnv6:=hnv6.bx hal fun _ _ _ _ _=>id
 have HVL : Hid (V.length = n):=Lib.hid HMV.out.len
 obtain ⟨vb,vo,hav,hvc⟩ : ∃ vb vo,av = some ⟨vb,vo,none⟩ ∧ ∀ t,t < V.length → w6.cell? ⟨vb,vo + t,none⟩ = some (.int .i64 (V.getD t 0 : Nat)):=by
  rcases hnv6 with ⟨e,_⟩ | ⟨b',off',cap',h,_,_,g3⟩
  ·have:=HVL.out; rw [e] at this; simp at this; omega
  ·injection h with h1 h2 h3; exact ⟨b',off',h1,g3⟩
 subst hav
 have HVC:=Lib.hid hvc
 have HW6:=Lib.hid hw6
 clear hov hnp hbx hb45 HR hnv6 hvc hal
 go_wp2_with (at_builtin; refine wpList_append_own _ rfl _ _ 27 rfl (w5.heap.size + 1) 3 i0 (.int .i64 0) 1 8 Try.underlying27 hi hz0 hz1 hz2 rfl (by decide) _ _ _ rfl (nil_own _ _) ⟨vb,vo,none⟩ n cv (V.map N64) rfl ?c0 ?c1 ?c2 ?c3 ?c4 (by simp) ?_)
 case c0=>rw [List.length_map,HVL.out]; simp
 case c1=>rw [← HW6.out]; exact num_cellsK HVC.out
 case c2=>intro u hu; obtain ⟨x,_,rfl⟩:=List.mem_map.1 hu; rfl
 case c3=>unfold maxLen; omega
 case c4=>omega
 intro v' w7 hown' hgrow hnil
 rw [← HW6.out] at hgrow
 have hown : w7.ownsRow w6.heap.size 3 1 v' V.length (V.map N64):=by rw [HVL.out,HS6.out]; simpa using hown'
 obtain ⟨X,cX,hvs,hX,hrw,hcX⟩:=own_row hown (fun e=>by have:=HVL.out; rw [e] at this; simp at this; omega)
 rw [HVL.out] at hvs hcX
 subst hvs
 have HCX:=Lib.hid hcX
 have HG7 : Hid (Bx (fun k=>w6.heap.size ≤ k) w6 w7):=Lib.hid (Bx.grown hgrow fun k hk=>by cases hk)
 have HX7 : Hid (Bx (fun _=>False) w6 w7):=Lib.hid (HG7.out.old fun k hk e=>by omega)
 have HR0:=Lib.hid hrw
 have HXL : Hid (w6.heap.size ≤ X):=Lib.hid hX
 have HOV6:=Lib.hid (HOV.out.bx HX6.out id fun _ _=>id)
 have HNP6:=Lib.hid (HNP.out.bx HX6.out fun _ _ _ _ _=>id)
 have HF6:=Lib.hid (HF5.out.bx HX6.out id)
 have HB7 : Hid (Below W.heap.size W w7):=Lib.hid (HB5.out.trans ((HX6.out.trans HX7.out).below HB5.out.size fun _ e=>e.elim))
 obtain ⟨⟨x0,x1,x2,x3,x4⟩,-,-⟩:=HBX.out.bx HX7.out id
 obtain ⟨G,hG⟩ : ∃ G,w5.heap.size = G:=⟨_,rfl⟩
 rw [hG] at HBX HS6 x0 x1 x2 x3 x4 ⊢
 clear hown hown' hgrow hnil hX hrw hcX HOV HNP HF5 HNV hG
 go_wp2
 go_loopw [33] (fun i wr=>∃ (k : Nat) (R : List Nat),k ≤ m ∧ i = .int .i64 k ∧ Hid (Rw R X wr) ∧ Hid (Vn F n R) ∧ Hid (fn R = (L.take k).foldl (fun x a=>mns F x (x a.1) a.2) (fn V)) ∧ Hid (Bx (fun j=>j = X) w7 wr)) (fun i _=>m - (intOf i).toNat)
 case atStart=>exact ⟨0,V,Nat.zero_le _,rfl,HR0,HMV,Lib.hid rfl,Bx.refl _ _⟩
 case round =>
  obtain ⟨k,R,hk,rfl,KR,HVR,HFR,KB⟩:=hrel
  have HXW : Hid (Bx (fun k=>w6.heap.size ≤ k) w6 wr):=Lib.hid (HG7.out.trans (KB.out.mono fun j e=>by have:=HXL.out; omega))
  by_cases hlt : k < m
  ·have hk5 : k < 1000:=by omega
   have HO6 : Hid (Bx (fun _=>False) w6 wr):=Lib.hid (HXW.out.old fun k hk e=>by omega)
   have hkl : k < L.length:=by rw [hm.out]; exact hlt
   obtain ⟨rfl,hom⟩:=OV.at (D:=RM) (by rw [HKN.out.rl]; exact HOV6.out) (i:=k) (by rw [HKN.out.rl]; exact hlt)
   obtain ⟨rk,hrk⟩ : ∃ r,Hid (rs.getD k 0 = r):=⟨_,Lib.hid rfl⟩
   obtain ⟨pk,hpk⟩ : ∃ x,Hid (P.getD k 0 = x):=⟨_,Lib.hid rfl⟩
   obtain ⟨Y,hY⟩ : ∃ x,Hid (RM.getD k [] = x):=⟨_,Lib.hid rfl⟩
   have hpn : pk < n:=by rw [← hpk.out]; exact HKN.out.pb k hlt
   obtain ⟨yy,hyy⟩ : ∃ x,Hid (R.getD pk 0 = x):=⟨_,Lib.hid rfl⟩
   have HYQ : Hid (yy < F.q):=Lib.hid (by rw [← hyy.out]; exact HVR.out.el.get HFF.out pk)
   have HVY : Hid (Vn F n Y):=Lib.hid (by rw [← hY.out]; exact mrow HMR.out (by rw [HKN.out.rl]; exact hlt))
   have HST : Hid ((L.take (k + 1)).foldl (fun x a=>mns F x (x a.1) a.2) (fn V) = mns F ((L.take k).foldl (fun x a=>mns F x (x a.1) a.2) (fn V)) ((L.take k).foldl (fun x a=>mns F x (x a.1) a.2) (fn V) pk) (fn Y)):=Lib.hid (by
    rw [fold_step hkl,← hpk.out,← hY.out,(HRW.out k hkl).1,(HRW.out k hkl).2])
   have hcg:=hom.row k (by rw [HKN.out.rl]; exact hlt)
   have hry:=hom.rw' k (by rw [HKN.out.rl]; exact hlt)
   obtain ⟨b1,o1,rfl,hcp⟩:=HNP6.out.atm HKN.out.pl hlt
   rw [hrk.out] at hcg hry
   rw [hY.out] at hry
   rw [hpk.out] at hcp
   have HNE : Hid (b ≠ X ∧ rk ≠ X):=Lib.hid (by
    have e1:=HF6.out.lt
    have e2:=hry.lt
    have:=HXL.out
    omega)
   have HNG : Hid (¬ G = X ∧ ¬ b = X):=Lib.hid (by
    have:=HS6.out; have:=HXL.out; have:=HNE.out; omega)
   have HBP : Hid (b1 ≠ X):=Lib.hid (by have e:=World.block_lt_of_cell? w6 _ hcp; simp only at e; have:=HXL.out; omega)
   have hcg:=(HO6.out.cell (World.block_lt_of_cell? w6 _ hcg) id).trans hcg
   have hcp:=(HO6.out.cell (World.block_lt_of_cell? w6 _ hcp) id).trans hcp
   have hry:=hry.bx HO6.out id
   have HRD:=Lib.hid KR.out.drew
   have HNY : Hid (NN Y wr.drew (.slice (some ⟨rk,0,none⟩) n n)):=Lib.hid (.inr ⟨rk,0,n,by rw [HVY.out.len],by rw [HVY.out.len]; exact Nat.le_refl _,hry.lt,fun t ht=>by rw [Nat.zero_add]; exact hry.cell t ht⟩)
   have hcx : wr.drew.cell? ⟨X,pk,none⟩ = some (.int .i64 (yy : Nat)):=by rw [← hyy.out]; exact HRD.out.cell pk (by rw [HVR.out.len]; exact hpn)
   have hS0 : SG F b cap n (.slice (some ⟨g,0,none⟩) m cV) G (fun j=>j = X) wr wr.drew ∧ wr.drew.cell? ⟨b1,o1 + k,none⟩ = some (.int .i64 (pk : Nat)) ∧ Hid (b1 < wr.drew.heap.size):=
    ⟨⟨(HBX.out.bx HO6.out id).1,Lib.hid ((HF6.out.bx HO6.out id).bx (Bx.refl (fun _=>False) wr).drew id),Lib.hid (HBX.out.bx HO6.out id).2.2,Lib.hid (Bx.refl _ _).drew⟩,hcp,Lib.hid (World.block_lt_of_cell? wr _ hcp)⟩
   obtain ⟨⟨x0,x1,x2,x3,x4⟩,-,-⟩:=HBX.out.bx HO6.out id
   clear hom hry hkl
   go_wp2_with fail
   refine wp_region_held_drew (S:=fun w'=>SG F b cap n (.slice (some ⟨g,0,none⟩) m cV) G (fun j=>j = X) wr w' ∧ w'.cell? ⟨b1,o1 + k,none⟩ = some (.int .i64 (pk : Nat)) ∧ Hid (b1 < w'.heap.size)) (by kernel_rfl) (by with_reducible exact hS0) (fun hHeld=>?_)
   refine Rg.tk 0 ⟨some 38,.load 79 (.tmp 7),79,"space.go:79",#[],none⟩ ?_
   try simp only [Rg.gp]
   refine Rg.tk 1 ⟨some 39,.move (.tmp 9),27,"space.go:79",#[],none⟩ ?_
   try simp only [Rg.gp]
   refine Rg.tk 2 ⟨some 40,.move (.tmp 9),27,"space.go:79",#[],none⟩ ?_
   try simp only [Rg.gp]
   refine Rg.tk 3 ⟨some 41,.move (.tmp 8),27,"space.go:79",#[],none⟩ ?_
   try simp only [Rg.gp]
   refine Rg.tk 4 ⟨some 42,.move (.tmp 10),3,"space.go:79",#[],none⟩ ?_
   try simp only [Rg.gp]
   refine Rg.tk 5 ⟨some 43,.indexAddr 27 (.tmp 41) (.tmp 42),0,"space.go:79",#[⟨3,.data⟩,⟨4,.data⟩],none⟩ ?_
   try simp only [Rg.gp]
   refine Rg.tk 6 ⟨some 44,.load 3 (.tmp 43),3,"space.go:79",#[⟨5,.data⟩],none⟩ ?_
   try simp only [Rg.gp]
   refine Rg.tk 7 ⟨some 45,.indexAddr 27 (.tmp 40) (.tmp 44),0,"space.go:79",#[⟨2,.data⟩,⟨6,.data⟩],none⟩ ?_
   try simp only [Rg.gp]
   refine Rg.tk 9 ⟨some 47,.move (.tmp 11),27,"space.go:79",#[],none⟩ ?_
   try simp only [Rg.gp]
   refine Rg.rd1 8 ⟨some 46,.load 3 (.tmp 45),3,"space.go:79",#[⟨7,.data⟩],none⟩ fun K hK=>?_
   go_simp
   refine hK.out _ _ ?_ (fun hHeld=>?_)
   ·(try dsimp only)
    exact hHeld
   clear hK K
   try simp only [Rg.gp]
   refine Rg.rd1 10 ⟨some 48,.call ⟨.value (.func 60),#[.tmp 38,.tmp 39,.tmp 46,.tmp 47],#[79,27,3,27]⟩,0,"space.go:79",#[⟨0,.data⟩,⟨1,.data⟩,⟨8,.data⟩,⟨9,.data⟩],none⟩ fun K hK=>?_
   go_simp
   go_at_call 60
   with_reducible refine (subtract_c hHeld.1.2.1.out HVR.out.el HVY.out.el HYQ.out rfl HVR.out.len HVY.out.len (by omega) HRD.out HNY.out HNE.out.1 HNE.out.2).mono ?_
   rintro z v1 ⟨rfl,hR1,hb3⟩
   refine hK.out _ _ ?_ (fun hHeld=>?_)
   ·(try dsimp only)
    exact ⟨SG.bx hHeld.1 hb3 HNG.out,(hb3.cell hHeld.2.2.out HBP.out).trans hHeld.2.1,Lib.hid (Nat.lt_of_lt_of_le hHeld.2.2.out hb3.size)⟩
   clear hK K
   try simp only [Rg.gp]
   refine wpAnyH_done (by kernel_rfl) ?_ _
   have HR3:=Lib.hid hR1
   have HX3:=Lib.hid (KB.out.trans hHeld.1.2.2.2.out)
   clear hHeld hS0 hR1
   have HV3 : Hid (Vn F n (subK F yy R Y n)):=Lib.hid ⟨by rw [subK_len]; exact HVR.out.len,subK_in HFF.out HVR.out.el _⟩
   have HF3 : Hid (fn (subK F yy R Y n) = (L.take (k + 1)).foldl (fun x a=>mns F x (x a.1) a.2) (fn V)):=Lib.hid (by
    rw [subK_fn HFF.out HYQ.out HVY.out.el HVR.out.len HVY.out.len,HST.out,← HFR.out,← hyy.out]; rfl)
   go_wp2
   go_roundw
   case rel=>exact ⟨k + 1,_,by omega,by go_num,HR3,HV3,HF3,HX3⟩
   case measure=>simp [intOf]; omega
  ·have HE : Hid (k = m):=Lib.hid (by omega)
   have hlt1 : ¬ (k : Int) < (m : Int):=by omega
   have HRC : Hid (R = toV n (clr F L (fn V))):=Lib.hid (by
    have e:=HFR.out
    rw [HE.out,List.take_of_length_le (by rw [hm.out]; exact Nat.le_refl _),clr_fold HFF.out HRL.out.pw (fun a ha=>(HRL.out.ro a ha).el) (HMV.out.el.el HFF.out)] at e
    rw [← e,toV_fn HVR.out.len])
   have HHB : Hid (zV R = HB):=Lib.hid (by rw [← hHB.out,HRC.out,← hL.out]; rfl)
   have HBF : Hid (Below W.heap.size W wr):=Lib.hid (HB5.out.trans ((HX6.out.trans HX7.out).below HB5.out.size (fun _ e=>e.elim) |>.trans (KB.out.below (by have:=HB7.out.size; omega) fun j e=>by have:=HXL.out; have:=HX6.out.size; have:=HB5.out.size; omega)))
   have HNR : Hid (NN R wr (.slice (some ⟨X,0,none⟩) n cX)):=Lib.hid (.inr ⟨X,0,cX,by rw [HVR.out.len],by rw [HVR.out.len]; exact HCX.out,KR.out.lt,fun t ht=>by rw [Nat.zero_add]; exact KR.out.cell t ht⟩)
   have HZ : Hid (Calls Try.prog 61 #[.slice (some ⟨X,0,none⟩) n cX] wr fun e w'=>e = .returned (.bool HB) ∧ Below wr.heap.size wr w'):=Lib.hid (by
    have t:=isZero_c (L:=R) (a:=some ⟨X,0,none⟩) (c:=cX) (by rw [HVR.out.len]; omega) (by rw [HVR.out.len]; exact HNR.out)
    rw [HVR.out.len,HHB.out] at t; exact t)
   go_wp2_with fail
   with_reducible refine HZ.out.mono ?_
   rintro z w9 ⟨rfl,hb⟩
   have HBG : Hid (Below W.heap.size W w9):=Lib.hid (HBF.out.trans (hb.mono HBF.out.size))
   clear hb
   go_wp2
   go_ret
   exact ⟨rfl,HBG.out⟩
def VPost (L : List Nat) (W : World) (e : Ending) (w' : World) : Prop:=∃ a c,e = .returned (.slice a L.length c) ∧ NN L w' (.slice a L.length c) ∧ Below W.heap.size W w'
set_option maxHeartbeats 6400000 in
theorem apply_c {F : Gf} {b cap n ca cx : Nat} {A : List (List Nat)} {X : List Nat} {aa ax : Option Addr} {W : World} (hA : FldAt F b cap W) (h1 : 1 ≤ n) (hn : n ≤ 24) (la : A.length ≤ 500) (ma : Mn F n A) (mx : Vn F n X) (na : MM A W (.slice aa A.length ca)) (nx : NN X W (.slice ax n cx)) :
  Calls Try.prog 21 #[FV F b cap,.slice aa A.length ca,.slice ax n cx] W (VPost (apM F n A X) W):=by
 obtain ⟨i0,hi,hz0,hz1,hz2⟩:=info_parts info3
 obtain ⟨lA,eA⟩ : ∃ l,A.length = l:=⟨_,rfl⟩
 have HFF : Hid (Ok F):=Lib.hid (ok_mem hA.mem)
 obtain ⟨w1,hw1⟩ : ∃ w1,w1 = W.alloc (.cells #[.int .i64 F.p,.int .i64 F.e,FM F b cap] 29):=⟨_,rfl⟩
 have HAL : Hid (Below W.heap.size W w1):=Lib.hid (by rw [hw1]; exact (Below.refl _ _).alloc (Nat.le_refl _) _)
 have HS1 : Hid (w1.heap.size = W.heap.size + 1):=Lib.hid (by rw [hw1]; simp)
 have HFB : Hid (FBx W.heap.size F b cap w1):=Lib.hid (by rw [hw1]; exact FBx.new W F b cap)
 have HF1:=Lib.hid (hA.below HAL.out)
 have HNA:=Lib.hid (na.below HAL.out)
 have HW : Hid (Calls Try.prog 49 #[.int .i64 (n : Nat),.slice (some ⟨W.heap.size + 1,0,none⟩) 1 1] (w1.alloc (.cells #[.slice aa lA ca] 30)) fun e w'=>e = .returned (.bool true) ∧ Below (w1.alloc (.cells #[.slice aa lA ca] 30)).heap.size (w1.alloc (.cells #[.slice aa lA ca] 30)) w'):=Lib.hid (by
  have t:=have1 hn la ma HNA.out
  rw [eA,HS1.out,show decide (1 ≤ n) = true from by simpa using h1] at t; exact t)
 have HMA:=Lib.hid ma
 have HMX:=Lib.hid mx
 have HNX:=Lib.hid nx
 have EA:=Lib.hid eA
 have HW1:=Lib.hid hw1
 rw [eA] at la ⊢
 clear hA ma mx na nx hw1 eA
 go_enter Try.func21,Try.ntmps21
 go_wp2_with fail
 rw [← HW1.out]
 clear HW1
 with_reducible refine HW.out.mono ?_
 rintro z w3 ⟨rfl,hb⟩
 have HB3 : Hid (Below w1.heap.size w1 w3):=Lib.hid ((((Below.refl _ _).alloc (Nat.le_refl _) _)).trans (hb.mono (by simp)))
 have HBW3 : Hid (Below W.heap.size W w3):=Lib.hid (HAL.out.trans (HB3.out.mono HAL.out.size))
 have HF3:=Lib.hid (HF1.out.below HB3.out)
 have HNA3 : Hid (MM A w3 (.slice aa lA ca)):=Lib.hid (by rw [← EA.out]; exact HNA.out.below HB3.out)
 have HNX3:=Lib.hid (HNX.out.below HBW3.out)
 have HFB3:=Lib.hid (HFB.out.below HB3.out (by have:=HS1.out; omega))
 have HSW : Hid (W.heap.size < w3.heap.size):=Lib.hid (by have:=HB3.out.size; have:=HS1.out; omega)
 clear hb HW HF1 HNA HFB HNX
 go_wp2
 go_loopw [7,21] (fun v i wr=>∃ (t : Nat),t ≤ lA ∧ i = .int .i64 t ∧ Hid (wr.ownsRow w3.heap.size 3 1 v (apM F n (A.take t) X).length ((apM F n (A.take t) X).map N64)) ∧ Hid (Below w3.heap.size w3 wr)) (fun _ i _=>lA - (intOf i).toNat)
 case atStart=>exact ⟨0,Nat.zero_le _,rfl,nil_own _ _,Below.refl _ _⟩
 case round =>
  obtain ⟨t,ht,rfl,HO,KB0⟩:=hrel
  obtain ⟨aP,cP,hvs⟩:=(NN.of_owns HO.out).shape
  subst hvs
  by_cases hlt : t < lA
  ·obtain ⟨Y,hY⟩ : ∃ L,Hid (A.getD t [] = L):=⟨_,Lib.hid rfl⟩
   have hltA : t < A.length:=by rw [EA.out]; exact hlt
   have ht5 : t < 500:=by omega
   obtain ⟨b1,o1,rfl,a1,c1,hc,hnY⟩:=MM.at (R:=A) (by rw [EA.out]; exact HNA3.out) hltA
   have hc:=(KB0.out.cell (World.block_lt_of_cell? w3 _ hc)).trans hc
   have HVR : Hid (Vn F n Y):=Lib.hid (by rw [← hY.out]; exact mrow HMA.out hltA)
   rw [hY.out,HVR.out.len] at hc hnY
   have HNY:=Lib.hid hnY
   have HLT:=Lib.hid hltA
   obtain ⟨PT,hPT⟩ : ∃ P,Hid (apM F n (A.take t) X = P):=⟨_,Lib.hid rfl⟩
   have HPS : Hid (apM F n (A.take (t + 1)) X = PT ++ [dK F (fn Y) (fn X) n]):=Lib.hid (by rw [apM_snoc HLT.out,hY.out,hPT.out]; rfl)
   have HPL : Hid (PT.length = t):=Lib.hid (by rw [← hPT.out,apM_len,List.length_take]; omega)
   rw [hPT.out] at HO ⊢
   clear hnY hltA
   go_wp2
   go_loopw [10,27] (fun s i wr=>∃ (j : Nat),j ≤ n ∧ s = .int .i64 (dK F (fn Y) (fn X) j : Nat) ∧ i = .int .i64 j ∧ Hid (wr.ownsRow w3.heap.size 3 1 (.slice aP PT.length cP) PT.length (PT.map N64)) ∧ Hid (Below w3.heap.size w3 wr)) (fun _ i _=>n - (intOf i).toNat)
   case atStart=>exact ⟨0,Nat.zero_le _,rfl,rfl,HO,KB0⟩
   case round =>
    obtain ⟨j,hj,hs,rfl,HO1,KB⟩:=hrel
    obtain ⟨kk,HKE⟩ : ∃ x,Hid (dK F (fn Y) (fn X) j = x):=⟨_,Lib.hid rfl⟩
    rw [HKE.out] at hs
    subst hs
    by_cases hlt1 : j < n
    ·have hj5 : j < 500:=by omega
     obtain ⟨yy,HYE⟩ : ∃ x,Hid (fn Y j = x):=⟨_,Lib.hid rfl⟩
     obtain ⟨xx,HXE⟩ : ∃ x,Hid (fn X j = x):=⟨_,Lib.hid rfl⟩
     have HKQ : Hid (kk < F.q):=Lib.hid (by rw [← HKE.out]; exact dK_lt HFF.out _ _ _)
     have HYQ : Hid (yy < F.q):=Lib.hid (by rw [← HYE.out]; exact HVR.out.fn HFF.out j)
     have HXQ : Hid (xx < F.q):=Lib.hid (by rw [← HXE.out]; exact HMX.out.fn HFF.out j)
     obtain ⟨yb,yo,rfl,hcy⟩:=(HNY.out.below KB.out).atm HVR.out.len hlt1
     obtain ⟨xb,xo,rfl,hcx⟩:=(HNX3.out.below KB.out).atm HMX.out.len hlt1
     rw [show Y.getD j 0 = yy from HYE.out] at hcy
     rw [show X.getD j 0 = xx from HXE.out] at hcx
     have hfb:=HFB3.out.below KB.out HSW.out
     obtain ⟨f0,f1,f2⟩:=HFB3.out.below KB.out HSW.out
     have hS0 : FBx W.heap.size F b cap wr.drew ∧ wr.drew.cell? ⟨xb,xo + j,none⟩ = some (.int .i64 (xx : Nat)) ∧ Hid (Below wr.heap.size wr wr.drew ∧ FldAt F b cap wr.drew ∧ W.heap.size < wr.drew.heap.size ∧ xb < wr.drew.heap.size):=
      ⟨hfb,hcx,Lib.hid ⟨(Below.refl _ _).drew,(HF3.out.below KB.out).bx (Bx.refl (fun _=>False) wr).drew id,Nat.lt_of_lt_of_le HSW.out KB.out.size,World.block_lt_of_cell? wr _ hcx⟩⟩
     go_wp2_with fail
     refine wp_region_held_drew (S:=fun w'=>FBx W.heap.size F b cap w' ∧ w'.cell? ⟨xb,xo + j,none⟩ = some (.int .i64 (xx : Nat)) ∧ Hid (Below wr.heap.size wr w' ∧ FldAt F b cap w' ∧ W.heap.size < w'.heap.size ∧ xb < w'.heap.size)) (by kernel_rfl) (by with_reducible exact hS0) (fun hHeld=>?_)
     refine Rg.tk 0 ⟨some 32,.load 29 (.tmp 3),29,"space.go:43",#[],none⟩ ?_
     try simp only [Rg.gp]
     refine Rg.tk 1 ⟨some 33,.move (.tmp 10),3,"space.go:43",#[],none⟩ ?_
     try simp only [Rg.gp]
     refine Rg.tk 2 ⟨some 34,.load 29 (.tmp 3),29,"space.go:43",#[],none⟩ ?_
     try simp only [Rg.gp]
     refine Rg.tk 3 ⟨some 35,.move (.tmp 12),3,"space.go:43",#[],none⟩ ?_
     try simp only [Rg.gp]
     refine Rg.tk 4 ⟨some 36,.move (.tmp 2),27,"space.go:43",#[],none⟩ ?_
     try simp only [Rg.gp]
     refine Rg.tk 5 ⟨some 37,.move (.tmp 11),3,"space.go:43",#[],none⟩ ?_
     try simp only [Rg.gp]
     refine Rg.tk 6 ⟨some 38,.indexAddr 27 (.tmp 36) (.tmp 37),0,"space.go:43",#[⟨4,.data⟩,⟨5,.data⟩],none⟩ ?_
     try simp only [Rg.gp]
     refine Rg.tk 7 ⟨some 39,.load 3 (.tmp 38),3,"space.go:43",#[⟨6,.data⟩],none⟩ ?_
     try simp only [Rg.gp]
     refine Rg.rd1 8 ⟨some 40,.call ⟨.value (.func 57),#[.tmp 34,.tmp 35,.tmp 39],#[29,3,3]⟩,3,"space.go:43",#[⟨2,.data⟩,⟨3,.data⟩,⟨7,.data⟩],none⟩ fun K hK=>?_
     go_simp
     go_at_call 57
     with_reducible refine (fmul_c HYQ.out HXQ.out hHeld.2.2.out.2.1).mono ?_
     rintro z v1 ⟨rfl,hb3⟩
     refine hK.out _ _ ?_ (fun hHeld=>?_)
     ·(try dsimp only)
      exact ⟨hHeld.1.below hb3 hHeld.2.2.out.2.2.1,(hb3.cell hHeld.2.2.out.2.2.2).trans hHeld.2.1,Lib.hid ⟨hHeld.2.2.out.1.trans (hb3.mono hHeld.2.2.out.1.size),hHeld.2.2.out.2.1.below hb3,Nat.lt_of_lt_of_le hHeld.2.2.out.2.2.1 hb3.size,Nat.lt_of_lt_of_le hHeld.2.2.out.2.2.2 hb3.size⟩⟩
     clear hK K
     try simp only [Rg.gp]
     refine Rg.rd1 9 ⟨some 41,.call ⟨.value (.func 56),#[.tmp 32,.tmp 33,.tmp 40],#[29,3,3]⟩,3,"space.go:43",#[⟨0,.data⟩,⟨1,.data⟩,⟨8,.data⟩,⟨8,.chain⟩],none⟩ fun K hK=>?_
     go_simp
     go_at_call 56
     with_reducible refine (fadd_c HKQ.out (HFF.out.mul_lt _ _) hHeld.2.2.out.2.1).mono ?_
     rintro z v2 ⟨rfl,hb3⟩
     refine hK.out _ _ ?_ (fun hHeld=>?_)
     ·(try dsimp only)
      exact ⟨hHeld.1.below hb3 hHeld.2.2.out.2.2.1,(hb3.cell hHeld.2.2.out.2.2.2).trans hHeld.2.1,Lib.hid ⟨hHeld.2.2.out.1.trans (hb3.mono hHeld.2.2.out.1.size),hHeld.2.2.out.2.1.below hb3,Nat.lt_of_lt_of_le hHeld.2.2.out.2.2.1 hb3.size,Nat.lt_of_lt_of_le hHeld.2.2.out.2.2.2 hb3.size⟩⟩
     clear hK K
     try simp only [Rg.gp]
     refine Rg.tk 10 ⟨some 10,.assign (.tmp 41),3,"space.go:43",#[⟨9,.data⟩,⟨9,.chain⟩,⟨0,.phase⟩,⟨1,.phase⟩,⟨2,.phase⟩,⟨3,.phase⟩,⟨4,.phase⟩,⟨5,.phase⟩,⟨6,.phase⟩,⟨7,.phase⟩,⟨8,.phase⟩,⟨9,.phase⟩],none⟩ ?_
     try simp only [Rg.gp]
     refine wpAnyH_done (by kernel_rfl) ?_ _
     have HB5:=Lib.hid (KB.out.trans (hHeld.2.2.out.1.mono KB.out.size))
     have HO5:=Lib.hid (own_belowK HO1.out hHeld.2.2.out.1)
     clear hHeld hS0
     go_wp2
     go_roundw
     case rel=>exact ⟨j + 1,by omega,by rw [dK_succ HFF.out (HVR.out.fn HFF.out) (HMX.out.fn HFF.out),HKE.out,HYE.out,HXE.out],by go_num,HO5,HB5⟩
     case measure=>simp [intOf]; omega
    ·have HE : Hid (j = n):=Lib.hid (by omega)
     have hlt2 : ¬ (j : Int) < (n : Int):=by omega
     rw [HE.out] at HKE
     have HPL2 : Hid (PT.length < 500):=Lib.hid (by have:=HPL.out; omega)
     have HKS : Hid (w3.heap.size ≤ wr.heap.size):=Lib.hid KB.out.size
     go_wp2_with (at_builtin; refine wpList_append_own _ rfl _ _ 27 rfl w3.heap.size 3 i0 (.int .i64 0) 1 8 Try.underlying27 hi hz0 hz1 hz2 rfl (by decide) _ _ _ rfl (HO1.out.alloc _) ⟨wr.heap.size,0,none⟩ 1 1 [.int .i64 (kk : Nat)] rfl rfl (cell_one_new _ _ _) (fun u hu=>by simp at hu; subst hu; rfl) ?c3 ?c4 ?c5 ?_)
     case c3=>have:=HPL2.out; unfold maxLen; omega
     case c4=>have:=HPL2.out; omega
     case c5=>have:=HKS.out; simp; omega
     intro v' w5 hown' hgrow hnil
     have HO5 : Hid (w5.ownsRow w3.heap.size 3 1 v' (apM F n (A.take (t + 1)) X).length ((apM F n (A.take (t + 1)) X).map N64)):=Lib.hid (by
      rw [HPS.out,HKE.out,List.length_append,List.length_singleton,List.map_append]; exact hown')
     have HB5 : Hid (Below w3.heap.size w3 w5):=Lib.hid ((KB.out.alloc KB.out.size _).trans (Bx.below (Bx.grown hgrow fun k hk=>(HO1.out.lt k hk).1) (by have:=HKS.out; simp; omega) fun k hk=>hk))
     clear hown' hgrow hnil
     go_wp2
     go_roundw
     case rel=>exact ⟨t + 1,by omega,by go_num,HO5,HB5⟩
     case measure=>simp [intOf]; omega
  ·have HE : Hid (A.take t = A):=Lib.hid (List.take_of_length_le (by rw [EA.out]; omega))
   rw [HE.out] at HO ⊢
   have hlt1 : ¬ (t : Int) < (lA : Int):=by omega
   have HBF : Hid (Below W.heap.size W wr):=Lib.hid (HBW3.out.trans (KB0.out.mono HBW3.out.size))
   have HNF:=Lib.hid (NN.of_owns HO.out)
   obtain ⟨lR,hlR⟩ : ∃ l,(apM F n A X).length = l:=⟨_,rfl⟩
   have HLR:=Lib.hid hlR
   rw [hlR] at HNF ⊢
   clear hlR
   go_wp2
   go_ret
   exact ⟨aP,cP,by rw [HLR.out]; rfl,by rw [HLR.out]; exact HNF.out,HBF.out⟩
def RPost (T : List (List Nat)) (n : Nat) (W : World) (e : Ending) (w' : World) : Prop:=∃ rs v,e = .returned v ∧ OR T rs n W.heap.size w' v ∧ Below W.heap.size W w'
theorem rw_new (w : World) (x : Nat) : Rw [x] w.heap.size (w.alloc (.cells #[.int .i64 (x : Nat)] 3)):=
 ⟨by simp,fun t ht=>by
  match t,ht with
  | 0,_=>exact World.cell?_alloc_at _ _ _ _ rfl,fun t=>World.frozen?_alloc_at _ _ _ _ rfl⟩
def colM (B : List Nat) : List (List Nat):=B.map fun c=>[c]
theorem colM_snoc {B : List Nat} {k : Nat} (hk : k < B.length) : colM (B.take (k + 1)) = colM (B.take k) ++ [[B.getD k 0]]:=by
 unfold colM
 rw [take_snoc (d:=0) hk,List.map_append]; rfl
set_option maxHeartbeats 6400000 in
theorem single_c {B : List Nat} {ab : Option Addr} {cb m : Nat} {W : World} (hm : B.length = m) (hl : m ≤ 500) (nb : NN B W (.slice ab m cb)) :
  Calls Try.prog 81 #[.slice ab m cb] W (RPost (colM B) 1 W):=by
 obtain ⟨j0,ji,jz0,jz1,jz2⟩:=info_parts info27
 have HNB:=Lib.hid nb
 have HBL:=Lib.hid hm
 clear nb hm
 go_enter Try.func81,Try.ntmps81
 go_wp2
 go_loopw [3,8] (fun v i wr=>∃ (k : Nat) (rs : List Nat),k ≤ m ∧ i = .int .i64 k ∧ Hid (OR (colM (B.take k)) rs 1 W.heap.size wr v) ∧ Hid (Below W.heap.size W wr)) (fun _ i _=>m - (intOf i).toNat)
 case atStart=>exact ⟨0,[],Nat.zero_le _,rfl,OR.nil _ _ _,Below.refl _ _⟩
 case round =>
  obtain ⟨k,rs,hk,rfl,HO,KB⟩:=hrel
  obtain ⟨aP,cP,hvs⟩:=HO.out.shape
  subst hvs
  obtain ⟨DT,hDT⟩ : ∃ D,Hid (colM (B.take k) = D):=⟨_,Lib.hid rfl⟩
  rw [hDT.out] at HO ⊢
  by_cases hlt : k < m
  ·have hk5 : k < 500:=by omega
   obtain ⟨xx,hxx⟩ : ∃ x,Hid (B.getD k 0 = x):=⟨_,Lib.hid rfl⟩
   obtain ⟨b1,o1,rfl,hc⟩:=(HNB.out.below KB.out).atm HBL.out hlt
   rw [hxx.out] at hc
   have HDL : Hid (DT.length = k):=Lib.hid (by rw [← hDT.out]; unfold colM; rw [List.length_map,List.length_take,HBL.out]; omega)
   have HDN : Hid (colM (B.take (k + 1)) = DT ++ [[xx]]):=Lib.hid (by rw [colM_snoc (by rw [HBL.out]; exact hlt),hDT.out,hxx.out])
   have HFR:=Lib.hid (HO.out.fresh (Nat.le_refl _))
   have HKS : Hid (W.heap.size ≤ wr.heap.size):=Lib.hid KB.out.size
   have HRW:=Lib.hid (rw_new wr xx)
   have HX1 : Hid (Bx (fun _=>False) wr (wr.alloc (.cells #[.int .i64 (xx : Nat)] 3))):=Lib.hid (Bx.of ((Below.refl _ _).alloc (Nat.le_refl _) _))
   have HO1:=Lib.hid (HO.out.bx HX1.out fun _ _=>id)
   go_wp2_with (at_builtin; refine wpList_append_own_at _ rfl _ _ 30 rfl W.heap.size 27 j0 (.slice none 0 0) 1 24 Try.underlying30 ji jz0 jz1 jz2 rfl (by decide) _ _ _ rfl (HO1.out.own.alloc _) ⟨wr.heap.size + 1,0,none⟩ 1 1 [rowV 1 wr.heap.size] rfl rfl ?d1 (fun u hu=>by simp at hu; subst hu; rfl) ?d3 ?d4 ?d5 ?_)
   case d1 =>
    have t:=cell_one_new (wr.alloc (.cells #[.int .i64 (xx : Nat)] 3)) (rowV 1 wr.heap.size) 27
    simpa using t
   case d3=>have:=HDL.out; unfold maxLen; omega
   case d4=>have:=HDL.out; omega
   case d5=>have:=HKS.out; simp; omega
   intro v' w5 hown' hgrow hnil hat
   have hal2 : Bx (fun _=>False) (wr.alloc (.cells #[.int .i64 (xx : Nat)] 3)) ((wr.alloc (.cells #[.int .i64 (xx : Nat)] 3)).alloc (.cells #[rowV 1 wr.heap.size] 27)):=Bx.of ((Below.refl _ _).alloc (Nat.le_refl _) _)
   have HO3 : Hid (OR (colM (B.take (k + 1))) (rs ++ [wr.heap.size]) 1 W.heap.size w5 v'):=Lib.hid (by
    rw [HDN.out]
    exact OR.push (HO1.out.bx hal2 fun _ _=>id) (HRW.out.bx hal2 id) rfl HKS.out HFR.out.1 HFR.out.2 rfl hown' hgrow (by simpa using hat))
   have HB5 : Hid (Below W.heap.size W w5):=Lib.hid ((KB.out.trans ((HX1.out.trans hal2).below KB.out.size fun _ e=>e.elim)).trans (Bx.below (Bx.grown hgrow fun k hk=>(HO1.out.own.lt k hk).1) (by have:=HKS.out; simp; omega) fun k hk=>hk))
   clear hown' hgrow hnil hat hal2
   go_wp2
   go_roundw
   case rel=>exact ⟨k + 1,rs ++ [wr.heap.size],by omega,by go_num,HO3,HB5⟩
   case measure=>simp [intOf]; omega
  ·have HE : Hid (DT = colM B):=Lib.hid (by rw [← hDT.out,List.take_of_length_le (by rw [HBL.out]; omega)])
   have hlt1 : ¬ (k : Int) < (m : Int):=by omega
   go_wp2
   go_ret
   exact ⟨rs,_,rfl,by rw [← HE.out]; exact HO.out,KB.out⟩
def idM (n i : Nat) : List (List Nat):=(List.range i).map fun j=>(List.replicate n 0).set j 1
theorem idM_succ (n i : Nat) : idM n (i + 1) = idM n i ++ [(List.replicate n 0).set i 1]:=by unfold idM; rw [List.range_succ,List.map_append]; rfl
set_option maxHeartbeats 6400000 in
theorem identity_c {n : Nat} {W : World} (hn : n ≤ 500) : Calls Try.prog 84 #[.int .i64 (n : Nat)] W (RPost (idM n n) n W):=by
 obtain ⟨i0,hi,hz0,hz1,hz2⟩:=info_parts info3
 obtain ⟨j0,ji,jz0,jz1,jz2⟩:=info_parts info27
 go_enter Try.func84,Try.ntmps84
 go_wp2
 go_loopw [3,7] (fun v i wr=>∃ (k : Nat) (rs : List Nat),k ≤ n ∧ i = .int .i64 k ∧ Hid (OR (idM n k) rs n W.heap.size wr v) ∧ Hid (Below W.heap.size W wr)) (fun _ i _=>n - (intOf i).toNat)
 case atStart=>exact ⟨0,[],Nat.zero_le _,rfl,OR.nil _ _ _,Below.refl _ _⟩
 case round =>
  obtain ⟨k,rs,hk,rfl,HO,KB⟩:=hrel
  obtain ⟨aP,cP,hvs⟩:=HO.out.shape
  subst hvs
  have HDL : Hid ((idM n k).length = k):=Lib.hid (by simp [idM])
  obtain ⟨DT,hDT⟩ : ∃ D,Hid (idM n k = D):=⟨_,Lib.hid rfl⟩
  rw [hDT.out] at HO HDL ⊢
  by_cases hlt : k < n
  ·have hk5 : k < 500:=by omega
   have HDN : Hid (idM n (k + 1) = DT ++ [(List.replicate n 0).set k 1]):=Lib.hid (by rw [idM_succ,hDT.out])
   have HFR:=Lib.hid (HO.out.fresh (Nat.le_refl _))
   have HKS : Hid (W.heap.size ≤ wr.heap.size):=Lib.hid KB.out.size
   go_wp2_with (refine wpList_make_full _ rfl _ _ 27 rfl 0 3 i0 (.int .i64 0) 1 Try.underlying27 hi hz0 hz1 .i64 .i64 (n : Int) (n : Int) n rfl rfl rfl rfl (by rw [hz2]; omega) (by unfold maxLen; omega) (Nat.zero_le _) ?_)
   intro w7 hown hgrow
   have HROW : Hid (Row (List.replicate n 0) wr.heap.size w7):=Lib.hid (Row.of_own (n:=n) (base:=0) (by
    have e:=toList_madeCells_one (Value.int .i64 0) n
    rw [List.map_replicate,show N64 0 = Value.int .i64 0 from rfl,← e]
    simpa using hown) (by simp))
   have HG7 : Hid (Bx (fun _=>False) wr w7):=Lib.hid (Bx.of ((Below.refl _ _).grown hgrow (by simp) (fun k hk=>by cases hk)))
   have hf7 : w7.frozen? ⟨wr.heap.size,k,none⟩ = false:=HROW.out.frozen k
   have hc7 : w7.cell? ⟨wr.heap.size,k,none⟩ = some (.int .i64 0):=by
    rw [HROW.out.cell (by simpa using hlt)]; simp [hlt]
   obtain ⟨w8,hw8⟩ : ∃ w8,w8 = (w7.setCell ⟨wr.heap.size,k,none⟩ (.int .i64 1)):=⟨_,rfl⟩
   have hb8 : Bx (fun j=>j = wr.heap.size) w7 w8:=by rw [hw8]; exact Bx.set (S:=fun j=>j = wr.heap.size) rfl _
   have HX8 : Hid (Rw ((List.replicate n 0).set k 1) wr.heap.size w8):=Lib.hid (by rw [hw8]; exact HROW.out.rw'.set k 1 trivial)
   have HG8 : Hid (Bx (fun _=>False) wr w8):=Lib.hid (((HG7.out.mono (T:=fun j=>j = wr.heap.size) fun _ e=>e.elim).trans hb8).old fun k hk e=>by omega)
   have HS8 : Hid (wr.heap.size < w8.heap.size):=Lib.hid HX8.out.lt
   have HO1:=Lib.hid (HO.out.bx HG8.out fun _ _=>id)
   have HZ8 : Hid (w8.heap.size = w7.heap.size):=Lib.hid (by rw [hw8]; simp [World.setCell])
   have HW8:=Lib.hid hw8
   clear hown hgrow HROW HG7 hb8 hw8
   go_wp2_with (at_builtin; rw [← HW8.out]; refine wpList_append_own_at _ rfl _ _ 30 rfl W.heap.size 27 j0 (.slice none 0 0) 1 24 Try.underlying30 ji jz0 jz1 jz2 rfl (by decide) _ _ _ rfl (HO1.out.own.alloc _) ⟨w7.heap.size,0,none⟩ 1 1 [rowV n wr.heap.size] rfl rfl ?d1 (fun u hu=>by simp at hu; subst hu; rfl) ?d3 ?d4 ?d5 ?_)
   case d1=>rw [← HZ8.out]; exact cell_one_new _ _ _
   case d3=>have:=HDL.out; unfold maxLen; omega
   case d4=>have:=HDL.out; omega
   case d5=>have:=HKS.out; have:=HS8.out; simp; omega
   intro v' w5 hown' hgrow hnil hat
   have hal2 : Bx (fun _=>False) w8 (w8.alloc (.cells #[rowV n wr.heap.size] 27)):=Bx.of ((Below.refl _ _).alloc (Nat.le_refl _) _)
   have HO3 : Hid (OR (idM n (k + 1)) (rs ++ [wr.heap.size]) n W.heap.size w5 v'):=Lib.hid (by
    rw [HDN.out]
    exact OR.push (HO1.out.bx hal2 fun _ _=>id) (HX8.out.bx hal2 id) (by simp) HKS.out HFR.out.1 HFR.out.2 rfl hown' hgrow (by simpa using hat))
   have HB5 : Hid (Below W.heap.size W w5):=Lib.hid ((KB.out.trans ((HG8.out.trans hal2).below KB.out.size fun _ e=>e.elim)).trans (Bx.below (Bx.grown hgrow fun k hk=>(HO1.out.own.lt k hk).1) (by have:=HKS.out; have:=HS8.out; simp; omega) fun k hk=>hk))
   clear hown' hgrow hnil hat hal2
   go_wp2
   go_roundw
   case rel=>exact ⟨k + 1,rs ++ [wr.heap.size],by omega,by go_num,HO3,HB5⟩
   case measure=>simp [intOf]; omega
  ·have HE : Hid (DT = idM n n):=Lib.hid (by rw [← hDT.out]; congr 1; omega)
   have hlt1 : ¬ (k : Int) < (n : Int):=by omega
   go_wp2
   go_ret
   exact ⟨rs,_,rfl,by rw [← HE.out]; exact HO.out,KB.out⟩
end Go.Proofs.Yteeofijcndgbfaa
