/- Meet: two matrices and their kernels, in any order that is drawn. -/
import Derived.Test.YteeofijcndgbfaaEvTk
import Derived.Test.YteeofijcndgbfaaSq
namespace Go.Proofs.Yteeofijcndgbfaa
open Go.RowKit Go.Fl
set_option maxRecDepth 100000
set_option linter.unusedVariables false
set_option linter.unusedSimpArgs false
set_option linter.unusedSectionVars false
theorem LM.of1 {A : List (List Nat)} {w : World} {a : Option Addr} {c B : Nat} (h : MM A w (.slice a A.length c)) (hc : w.cell? ⟨B,0,none⟩ = some (.slice a A.length c)) (hl : B < w.heap.size) : LM [A] w (.slice (some ⟨B,0,none⟩) 1 1):=by
 refine .inr ⟨B,0,1,rfl,Nat.le_refl _,hl,fun t ht=>?_⟩
 match t,ht with
 | 0,_=>exact ⟨a,c,hc,h⟩
theorem LM.of2 {A A' : List (List Nat)} {w : World} {a a' : Option Addr} {c c' B : Nat} (h : MM A w (.slice a A.length c)) (h' : MM A' w (.slice a' A'.length c')) (hc : w.cell? ⟨B,0,none⟩ = some (.slice a A.length c)) (hc' : w.cell? ⟨B,1,none⟩ = some (.slice a' A'.length c')) (hl : B < w.heap.size) : LM [A,A'] w (.slice (some ⟨B,0,none⟩) 2 2):=by
 refine .inr ⟨B,0,2,rfl,Nat.le_refl _,hl,fun t ht=>?_⟩
 match t,ht with
 | 0,_=>exact ⟨a,c,hc,h⟩
 | 1,_=>exact ⟨a',c',hc',h'⟩
theorem over1x {F : Gf} {b cap n c B : Nat} {a : Option Addr} {A : List (List Nat)} {w : World} (hA : FldAt F b cap w) (hn : n ≤ 24) (la : A.length ≤ 500) (ma : Mn F n A) (h : MM A w (.slice a A.length c)) (hc : w.cell? ⟨B,0,none⟩ = some (.slice a A.length c)) (hl : B < w.heap.size) :
  Calls Try.prog 54 #[FV F b cap,.int .i64 (n : Nat),.slice (some ⟨B,0,none⟩) 1 1] w (OverP F b cap n A w):=by
 have t:=over_c (F:=F) (b:=b) (cap:=cap) (n:=n) (Ms:=[A]) hA (by omega) (by simp) (by simp; omega) (wd1 ma) (LM.of1 h hc hl)
 rw [show [A].flatten = A from by simp] at t
 exact t
theorem over2x {F : Gf} {b cap n c c' B : Nat} {a a' : Option Addr} {A A' : List (List Nat)} {w : World} (hA : FldAt F b cap w) (hn : n ≤ 24) (la : A.length ≤ 500) (la' : A'.length ≤ 500) (ma : Mn F n A) (ma' : Mn F n A') (h : MM A w (.slice a A.length c)) (h' : MM A' w (.slice a' A'.length c'))
  (hc : w.cell? ⟨B,0,none⟩ = some (.slice a A.length c)) (hc' : w.cell? ⟨B,1,none⟩ = some (.slice a' A'.length c')) (hl : B < w.heap.size) :
  Calls Try.prog 54 #[FV F b cap,.int .i64 (n : Nat),.slice (some ⟨B,0,none⟩) 2 2] w (OverP F b cap n (A ++ A') w):=by
 have t:=over_c (F:=F) (b:=b) (cap:=cap) (n:=n) (Ms:=[A,A']) hA (by omega) (by simp) (by simp; omega) (wd2 ma ma') (LM.of2 h h' hc hc' hl)
 rw [show [A,A'].flatten = A ++ A' from by simp] at t
 exact t
theorem over_kernel2 {F : Gf} {b cap n lo hi : Nat} {A : List (List Nat)} {w : World} {rs : List Nat} {v : Value} (hA : FldAt F b cap w) (hn : n ≤ 24) (la : A.length ≤ 1000) (ma : Mn F n A) (hb : b < lo) (h : OR A rs n lo w v)
  (hv : ∀ k,v.ownBlock = some k → lo ≤ k ∧ k < hi) (hr : ∀ i,i < A.length → rs.getD i 0 < hi) (hlh : lo < hi) (hle : hi ≤ w.heap.size) :
  Calls Try.prog 55 #[MV F b cap n v] w fun e w'=>∃ g' rs' v',e = .returned (MV F b cap n v') ∧ OV (kerM F n A) g' rs' n w' v' ∧ Bx (fun k=>lo ≤ k ∧ k < hi) w w':=by
 have key : ∃ g,OV A g rs n w v ∧ lo ≤ g ∧ g < hi:=by
  obtain ⟨g,hov,hg⟩:=h.ov
  rcases hov with e | ⟨c,e1,e2,e3⟩
  ·exact ⟨lo,.inl e,Nat.le_refl _,hlh⟩
  ·exact ⟨g,.inr ⟨c,e1,e2,e3⟩,hv g (by rw [e1]; rfl)⟩
 obtain ⟨g,hov,hg1,hg2⟩:=key
 refine (kernel_c hA (by omega) la hov ma (by omega) (fun i hi'=>by have:=h.lo i hi'; omega) (by omega)).mono ?_
 rintro e w' ⟨g',rs',v',h1,h2,h3⟩
 refine ⟨g',rs',v',h1,h2,h3.mono ?_⟩
 rintro k (e | ⟨i,hi',e⟩)
 ·omega
 ·have:=h.lo i hi'; have:=hr i hi'; omega
structure SM' (F : Gf) (b cap B : Nat) (w1 w : World) : Prop where
 fb : FBx B F b cap w
 fld : FldAt F b cap w
 lt : B < w1.heap.size ∧ b < w1.heap.size
 b1 : Below w1.heap.size w1 w
abbrev SM (F : Gf) (b cap B : Nat) (w1 w : World) : Prop:=FBx B F b cap w ∧ Hid (SM' F b cap B w1 w)
theorem SM'.keep {F : Gf} {b cap B : Nat} {w1 w w' : World} (h : SM' F b cap B w1 w) (hb : Below w1.heap.size w w') : SM' F b cap B w1 w':=
 ⟨⟨(hb.cell h.lt.1).trans h.fb.1,(hb.cell h.lt.1).trans h.fb.2.1,(hb.cell h.lt.1).trans h.fb.2.2⟩,h.fld.bx (S:=fun k=>w1.heap.size ≤ k) ⟨hb.os,hb.tape,hb.output,hb.size,fun k hk hs=>hb.block k (by omega)⟩ (by have:=h.lt; omega),h.lt,h.b1.trans hb⟩
theorem SM.keep {F : Gf} {b cap B : Nat} {w1 w w' : World} (h : SM F b cap B w1 w) (hb : Below w.heap.size w w') : SM F b cap B w1 w':=
 have t:=SM'.keep h.2.out (hb.mono h.2.out.b1.size)
 ⟨t.fb,Lib.hid t⟩
theorem SM.bx {F : Gf} {b cap B : Nat} {w1 w w' : World} (h : SM F b cap B w1 w) {S : Nat → Prop} (hb : Bx S w w') (hs : ∀ k,S k → w1.heap.size ≤ k) : SM F b cap B w1 w':=
 have t:=SM'.keep h.2.out (hb.below h.2.out.b1.size hs)
 ⟨t.fb,Lib.hid t⟩
theorem kerM_le {F : Gf} (hF : Ok F) {n : Nat} {M : List (List Nat)} (h : Mn F n M) : (kerM F n M).length ≤ n:=by
 have:=(kerL_ok hF (redL_ok hF (Mn.vs hF h)).1).2.2
 unfold kerM
 rw [List.length_map]
 omega
set_option maxHeartbeats 6400000 in
theorem meet_c {F : Gf} {b cap n ca cb : Nat} {A B : List (List Nat)} {aa ab : Option Addr} {W : World} (hA : FldAt F b cap W) (h1 : 1 ≤ n) (hn : n ≤ 24) (la : A.length ≤ 500) (lb : B.length ≤ 500) (ma : Mn F n A) (mb : Mn F n B) (na : MM A W (.slice aa A.length ca)) (nb : MM B W (.slice ab B.length cb)) :
  Calls Try.prog 30 #[FV F b cap,.int .i64 (n : Nat),.slice aa A.length ca,.slice ab B.length cb] W (MPost (kerM F n (kerM F n A ++ kerM F n B)) W):=by
 obtain ⟨lA,eA⟩ : ∃ l,A.length = l:=⟨_,rfl⟩
 obtain ⟨lB,eB⟩ : ∃ l,B.length = l:=⟨_,rfl⟩
 have HFF : Hid (Ok F):=Lib.hid (ok_mem hA.mem)
 obtain ⟨w0,hw0⟩ : ∃ w0,w0 = W.alloc (.cells #[.int .i64 F.p,.int .i64 F.e,FM F b cap] 29):=⟨_,rfl⟩
 have HAL : Hid (Below W.heap.size W w0):=Lib.hid (by rw [hw0]; exact (Below.refl _ _).alloc (Nat.le_refl _) _)
 have HS1 : Hid (w0.heap.size = W.heap.size + 1):=Lib.hid (by rw [hw0]; simp)
 have HFB : Hid (FBx W.heap.size F b cap w0):=Lib.hid (by rw [hw0]; exact FBx.new W F b cap)
 have HF0:=Lib.hid (hA.below HAL.out)
 have HBb : Hid (b < W.heap.size):=Lib.hid hA.lt
 have HNA0:=Lib.hid (na.below HAL.out)
 have HNB0:=Lib.hid (nb.below HAL.out)
 have HKL : Hid ((kerM F n A).length ≤ 500 ∧ (kerM F n B).length ≤ 500):=Lib.hid ⟨by have:=kerM_le HFF.out ma; omega,by have:=kerM_le HFF.out mb; omega⟩
 have HKM : Hid (Mn F n (kerM F n A) ∧ Mn F n (kerM F n B)):=Lib.hid ⟨(kerM_ok HFF.out ma).1,(kerM_ok HFF.out mb).1⟩
 have HW : Hid (Calls Try.prog 49 #[.int .i64 (n : Nat),.slice (some ⟨W.heap.size + 1,0,none⟩) 2 2] (w0.alloc (.cells #[.slice aa lA ca,.slice ab lB cb] 30)) fun e w'=>e = .returned (.bool true) ∧ Below (w0.alloc (.cells #[.slice aa lA ca,.slice ab lB cb] 30)).heap.size (w0.alloc (.cells #[.slice aa lA ca,.slice ab lB cb] 30)) w'):=Lib.hid (by
  have t:=have2 (F:=F) (b:=b) (cap:=cap) (n:=n) hn la lb ma mb HNA0.out HNB0.out
  rw [eA,eB,HS1.out,show decide (1 ≤ n) = true from by simpa using h1] at t; exact t)
 have HMA:=Lib.hid ma
 have HMB:=Lib.hid mb
 have HLA:=Lib.hid la
 have HLB:=Lib.hid lb
 have EA:=Lib.hid eA
 have EB:=Lib.hid eB
 have HW0:=Lib.hid hw0
 rw [eA,eB]
 clear hA ma mb na nb la lb hw0 eA eB
 go_enter Try.func30,Try.ntmps30
 go_wp2_with fail
 rw [← HW0.out]
 clear HW0
 with_reducible refine HW.out.mono ?_
 rintro z w1 ⟨rfl,hb⟩
 have HB1 : Hid (Below w0.heap.size w0 w1):=Lib.hid ((((Below.refl _ _).alloc (Nat.le_refl _) _)).trans (hb.mono (by simp)))
 have HBW1 : Hid (Below W.heap.size W w1):=Lib.hid (HAL.out.trans (HB1.out.mono HAL.out.size))
 have HNA : Hid (MM A w1 (.slice aa lA ca)):=Lib.hid (by rw [← EA.out]; exact HNA0.out.below HB1.out)
 have HNB : Hid (MM B w1 (.slice ab lB cb)):=Lib.hid (by rw [← EB.out]; exact HNB0.out.below HB1.out)
 have HBW : Hid (b < w1.heap.size):=Lib.hid (by have:=HBb.out; have:=HBW1.out.size; omega)
 have hfb:=HFB.out.below HB1.out (by have:=HS1.out; omega)
 have hS0 : SM F b cap W.heap.size w1 w1.drew:=⟨hfb,Lib.hid ⟨hfb,(HF0.out.below HB1.out).bx (Bx.refl (fun _=>False) w1).drew id,⟨by have:=HB1.out.size; have:=HS1.out; omega,HBW.out⟩,(Below.refl _ _).drew⟩⟩
 clear hfb hb HW HF0 HNA0 HNB0 HFB
 go_wp2_with fail
 refine wp_region_held_drew (S:=fun w'=>SM F b cap W.heap.size w1 w') (by kernel_rfl) (by with_reducible exact hS0) (fun hHeld=>?_)
 obtain ⟨x0,hx0⟩ : ∃ x,x = w1.drew:=⟨_,rfl⟩
 rw [← hx0] at hHeld ⊢
 have HX0 : Hid (x0.heap.size = w1.heap.size):=Lib.hid (by rw [hx0]; rfl)
 clear hx0 hS0
 refine Rg.tk 0 ⟨some 15,.load 29 (.tmp 4),29,"space.go:103",#[],none⟩ ?_
 try simp only [Rg.gp]
 refine Rg.tk 1 ⟨some 16,.move (.tmp 1),3,"space.go:103",#[],none⟩ ?_
 try simp only [Rg.gp]
 refine Rg.tk 2 ⟨some 17,.load 29 (.tmp 4),29,"space.go:103",#[],none⟩ ?_
 try simp only [Rg.gp]
 refine Rg.tk 3 ⟨some 18,.move (.tmp 1),3,"space.go:103",#[],none⟩ ?_
 try simp only [Rg.gp]
 refine Rg.tk 4 ⟨some 19,.move (.tmp 2),30,"space.go:103",#[],none⟩ ?_
 try simp only [Rg.gp]
 refine Rg.tk 9 ⟨some 24,.load 29 (.tmp 4),29,"space.go:103",#[],none⟩ ?_
 try simp only [Rg.gp]
 refine Rg.tk 10 ⟨some 25,.move (.tmp 1),3,"space.go:103",#[],none⟩ ?_
 try simp only [Rg.gp]
 refine Rg.tk 11 ⟨some 26,.move (.tmp 3),30,"space.go:103",#[],none⟩ ?_
 try simp only [Rg.gp]
 refine wpAnyH_ready (rs:=[5,12]) (by kernel_rfl) (by simp) ?_
 refine (AllReadyH.cons (o:=⟨some 20,.buildSlice 96 1 #[(0,.tmp 19)],96,"space.go:103",#[⟨4,.data⟩],none⟩) rfl (fun K hK=>?_) (AllReadyH.cons (o:=⟨some 27,.buildSlice 96 1 #[(0,.tmp 26)],96,"space.go:103",#[⟨11,.data⟩],none⟩) rfl (fun K hK=>?_) AllReadyH.nil))
 ·go_simp
  refine hK.out _ _ ?_ (fun hHeld=>?_)
  ·(try dsimp only)
   exact SM.keep hHeld ((Below.refl _ _).alloc (Nat.le_refl _) _)
  clear hK K
  try simp only [Rg.gp]
  obtain ⟨x5,hw5⟩ : ∃ x,x = (x0.alloc (.cells #[.slice aa lA ca] 30)):=⟨_,rfl⟩
  have HB5 : Hid (Below x0.heap.size x0 x5):=Lib.hid (by rw [hw5]; exact (Below.refl _ _).alloc (Nat.le_refl _) _)
  have HZ5 : Hid (x5.heap.size = x0.heap.size + 1):=Lib.hid (by rw [hw5]; simp)
  have HC5 : Hid (x5.cell? ⟨x0.heap.size,0,none⟩ = some (.slice aa lA ca)):=Lib.hid (by rw [hw5]; exact World.cell?_alloc_at _ _ _ _ rfl)
  rw [← hw5] at hHeld ⊢
  clear hw5
  refine wpAnyH_ready (rs:=[6,12]) (by kernel_rfl) (by simp) ?_
  refine (AllReadyH.cons (o:=⟨some 21,.call ⟨.value (.func 54),#[.tmp 17,.tmp 18,.tmp 20],#[29,3,96]⟩,79,"space.go:103",#[⟨2,.data⟩,⟨3,.data⟩,⟨5,.data⟩],none⟩) rfl (fun K hK=>?_) (AllReadyH.cons (o:=⟨some 27,.buildSlice 96 1 #[(0,.tmp 26)],96,"space.go:103",#[⟨11,.data⟩],none⟩) rfl (fun K hK=>?_) AllReadyH.nil))
  ·have hSM:=hHeld.2.out
   have hl5 : x0.heap.size < x5.heap.size:=by have:=HZ5.out; omega
   have hc5:=HC5.out
   have hO : Calls Try.prog 54 #[FV F b cap,.int .i64 (n : Nat),.slice (some ⟨x0.heap.size,0,none⟩) 1 1] x5 (OverP F b cap n A x5):=over1x hSM.fld hn HLA.out HMA.out (by rw [EA.out]; exact HNA.out.below hSM.b1) (by rw [EA.out]; exact hc5) hl5
   go_simp
   go_at_call 54
   with_reducible refine hO.mono ?_
   rintro z x6 ⟨rs6,v6,rfl,hor6,-,hlt6,hb6⟩
   have HT6 : Hid (x5.heap.size < x6.heap.size):=Lib.hid hlt6
   obtain ⟨aV6,nV6,cV6,hvs6⟩ : ∃ a m c,v6 = .slice a m c:=by obtain ⟨a,c,e⟩:=hor6.shape; exact ⟨a,_,c,e⟩
   subst hvs6
   have HB6 : Hid (Below x5.heap.size x5 x6):=Lib.hid hb6
   have HO6:=Lib.hid hor6
   clear hO hor6 hb6 hlt6
   refine hK.out _ _ ?_ (fun hHeld=>?_)
   ·(try dsimp only)
    exact SM.keep hHeld HB6.out
   clear hK K
   try simp only [Rg.gp]
   refine wpAnyH_ready (rs:=[7,12]) (by kernel_rfl) (by simp) ?_
   refine (AllReadyH.cons (o:=⟨some 22,.call ⟨.value (.func 55),#[.tmp 21],#[79]⟩,79,"space.go:103",#[⟨6,.data⟩,⟨6,.chain⟩],none⟩) rfl (fun K hK=>?_) (AllReadyH.cons (o:=⟨some 27,.buildSlice 96 1 #[(0,.tmp 26)],96,"space.go:103",#[⟨11,.data⟩],none⟩) rfl (fun K hK=>?_) AllReadyH.nil))
   ·have hSM:=hHeld.2.out
    have hSM0_7 : Hid (w1.heap.size ≤ x5.heap.size):=Lib.hid (by have:=HZ5.out; have:=HX0.out; omega)
    have ho:=HO6.out
    have hle:=Nat.le_refl x6.heap.size
    have hlo : w1.heap.size ≤ x5.heap.size:=hSM0_7.out
    have hKk : Calls Try.prog 55 #[MV F b cap n (.slice aV6 nV6 cV6)] x6 fun e w'=>∃ g' rs' v',e = .returned (MV F b cap n v') ∧ OV (kerM F n A) g' rs' n w' v' ∧ Bx (fun k=>x5.heap.size ≤ k ∧ k < x6.heap.size) x6 w':=over_kernel2 hSM.fld hn (by have:=HLA.out; omega) HMA.out (Nat.lt_of_lt_of_le HBW.out hlo) ho (HO6.out.own.lt) (fun i hi=>(HO6.out.row i hi).lt) (by have:=HZ5.out; have:=HT6.out; have:=HX0.out; omega) hle
    go_simp
    go_at_call 55
    with_reducible refine hKk.mono ?_
    rintro z x7 ⟨g7,rsK7,vK7,rfl,hov7,hbx7⟩
    obtain ⟨aK7,cK7,hvs7⟩:=hov7.shape
    subst hvs7
    have HK7:=Lib.hid hbx7
    have HMM7:=Lib.hid hov7.mm
    have hfd7:=fun w=>field79 F.p F.e (FM F b cap) (n : Nat) aK7 (kerM F n A).length cK7 w
    clear hKk hov7 hbx7 ho hle hlo
    refine hK.out _ _ ?_ (fun hHeld=>?_)
    ·(try dsimp only)
     exact SM.bx hHeld HK7.out fun k hk=>Nat.le_trans hSM0_7.out hk.1
    clear hK K
    try simp only [Rg.gp]
    refine Rg.tk 8 ⟨some 23,.field 79 (.tmp 22) 2,30,"space.go:103",#[⟨7,.data⟩],none⟩ ?_
    try simp only [Rg.gp]
    refine Rg.rd1 12 ⟨some 27,.buildSlice 96 1 #[(0,.tmp 26)],96,"space.go:103",#[⟨11,.data⟩],none⟩ fun K hK=>?_
    go_simp
    refine hK.out _ _ ?_ (fun hHeld=>?_)
    ·(try dsimp only)
     exact SM.keep hHeld ((Below.refl _ _).alloc (Nat.le_refl _) _)
    clear hK K
    try simp only [Rg.gp]
    obtain ⟨x12,hw12⟩ : ∃ x,x = (x7.alloc (.cells #[.slice ab lB cb] 30)):=⟨_,rfl⟩
    have HB12 : Hid (Below x7.heap.size x7 x12):=Lib.hid (by rw [hw12]; exact (Below.refl _ _).alloc (Nat.le_refl _) _)
    have HZ12 : Hid (x12.heap.size = x7.heap.size + 1):=Lib.hid (by rw [hw12]; simp)
    have HC12 : Hid (x12.cell? ⟨x7.heap.size,0,none⟩ = some (.slice ab lB cb)):=Lib.hid (by rw [hw12]; exact World.cell?_alloc_at _ _ _ _ rfl)
    rw [← hw12] at hHeld ⊢
    clear hw12
    refine Rg.rd1 13 ⟨some 28,.call ⟨.value (.func 54),#[.tmp 24,.tmp 25,.tmp 27],#[29,3,96]⟩,79,"space.go:103",#[⟨9,.data⟩,⟨10,.data⟩,⟨12,.data⟩,⟨7,.chain⟩],none⟩ fun K hK=>?_
    have hSM:=hHeld.2.out
    have hl12 : x7.heap.size < x12.heap.size:=by have:=HZ12.out; omega
    have hc12:=HC12.out
    have hO : Calls Try.prog 54 #[FV F b cap,.int .i64 (n : Nat),.slice (some ⟨x7.heap.size,0,none⟩) 1 1] x12 (OverP F b cap n B x12):=over1x hSM.fld hn HLB.out HMB.out (by rw [EB.out]; exact HNB.out.below hSM.b1) (by rw [EB.out]; exact hc12) hl12
    go_simp
    go_at_call 54
    with_reducible refine hO.mono ?_
    rintro z x13 ⟨rs13,v13,rfl,hor13,-,hlt13,hb13⟩
    have HT13 : Hid (x12.heap.size < x13.heap.size):=Lib.hid hlt13
    obtain ⟨aV13,nV13,cV13,hvs13⟩ : ∃ a m c,v13 = .slice a m c:=by obtain ⟨a,c,e⟩:=hor13.shape; exact ⟨a,_,c,e⟩
    subst hvs13
    have HB13 : Hid (Below x12.heap.size x12 x13):=Lib.hid hb13
    have HO13:=Lib.hid hor13
    clear hO hor13 hb13 hlt13
    refine hK.out _ _ ?_ (fun hHeld=>?_)
    ·(try dsimp only)
     exact SM.keep hHeld HB13.out
    clear hK K
    try simp only [Rg.gp]
    refine Rg.rd1 14 ⟨some 29,.call ⟨.value (.func 55),#[.tmp 28],#[79]⟩,79,"space.go:103",#[⟨13,.data⟩,⟨13,.chain⟩],none⟩ fun K hK=>?_
    have hSM:=hHeld.2.out
    have hSM0_14 : Hid (w1.heap.size ≤ x12.heap.size):=Lib.hid (by have:=HZ5.out; have:=HT6.out; have:=HK7.out.size; have:=HZ12.out; have:=HX0.out; omega)
    have ho:=HO13.out
    have hle:=Nat.le_refl x13.heap.size
    have hlo : w1.heap.size ≤ x12.heap.size:=hSM0_14.out
    have hKk : Calls Try.prog 55 #[MV F b cap n (.slice aV13 nV13 cV13)] x13 fun e w'=>∃ g' rs' v',e = .returned (MV F b cap n v') ∧ OV (kerM F n B) g' rs' n w' v' ∧ Bx (fun k=>x12.heap.size ≤ k ∧ k < x13.heap.size) x13 w':=over_kernel2 hSM.fld hn (by have:=HLB.out; omega) HMB.out (Nat.lt_of_lt_of_le HBW.out hlo) ho (HO13.out.own.lt) (fun i hi=>(HO13.out.row i hi).lt) (by have:=HZ5.out; have:=HT6.out; have:=HK7.out.size; have:=HZ12.out; have:=HT13.out; have:=HX0.out; omega) hle
    go_simp
    go_at_call 55
    with_reducible refine hKk.mono ?_
    rintro z x14 ⟨g14,rsK14,vK14,rfl,hov14,hbx14⟩
    obtain ⟨aK14,cK14,hvs14⟩:=hov14.shape
    subst hvs14
    have HK14:=Lib.hid hbx14
    have HMM14:=Lib.hid hov14.mm
    have hfd14:=fun w=>field79 F.p F.e (FM F b cap) (n : Nat) aK14 (kerM F n B).length cK14 w
    clear hKk hov14 hbx14 ho hle hlo
    refine hK.out _ _ ?_ (fun hHeld=>?_)
    ·(try dsimp only)
     exact SM.bx hHeld HK14.out fun k hk=>Nat.le_trans hSM0_14.out hk.1
    clear hK K
    try simp only [Rg.gp]
    have HMM7:=HMM7
    have HMM7:=Lib.hid (HMM7.out.below HB12.out)
    have HMM7:=Lib.hid (HMM7.out.below ((HB13.out.trans (HK14.out.below (B:=x12.heap.size) HB13.out.size fun k hk=>hk.1))))
    refine Rg.tk 15 ⟨some 30,.field 79 (.tmp 29) 2,30,"space.go:103",#[⟨14,.data⟩],none⟩ ?_
    try simp only [Rg.gp]
    refine Rg.rd1 16 ⟨some 31,.buildSlice 96 2 #[(0,.tmp 23),(1,.tmp 30)],96,"space.go:103",#[⟨8,.data⟩,⟨15,.data⟩],none⟩ fun K hK=>?_
    go_simp
    refine hK.out _ _ ?_ (fun hHeld=>?_)
    ·(try dsimp only)
     exact SM.keep hHeld ((Below.refl _ _).alloc (Nat.le_refl _) _)
    clear hK K
    try simp only [Rg.gp]
    obtain ⟨x16,hw16⟩ : ∃ x,x = (x14.alloc (.cells #[.slice aK7 (kerM F n A).length cK7,.slice aK14 (kerM F n B).length cK14] 30)):=⟨_,rfl⟩
    have HB16 : Hid (Below x14.heap.size x14 x16):=Lib.hid (by rw [hw16]; exact (Below.refl _ _).alloc (Nat.le_refl _) _)
    have HZ16 : Hid (x16.heap.size = x14.heap.size + 1):=Lib.hid (by rw [hw16]; simp)
    have HC16 : Hid (x16.cell? ⟨x14.heap.size,0,none⟩ = some (.slice aK7 (kerM F n A).length cK7) ∧ x16.cell? ⟨x14.heap.size,1,none⟩ = some (.slice aK14 (kerM F n B).length cK14)):=Lib.hid (by rw [hw16]; exact ⟨World.cell?_alloc_at _ _ _ _ rfl,World.cell?_alloc_at _ _ _ _ rfl⟩)
    rw [← hw16] at hHeld ⊢
    clear hw16
    refine Rg.rd1 17 ⟨some 32,.call ⟨.value (.func 54),#[.tmp 15,.tmp 16,.tmp 31],#[29,3,96]⟩,79,"space.go:103",#[⟨0,.data⟩,⟨1,.data⟩,⟨16,.data⟩,⟨14,.chain⟩],none⟩ fun K hK=>?_
    have hSM:=hHeld.2.out
    have hl16 : x14.heap.size < x16.heap.size:=by have:=HZ16.out; omega
    have hO : Calls Try.prog 54 #[FV F b cap,.int .i64 (n : Nat),.slice (some ⟨x14.heap.size,0,none⟩) 2 2] x16 (OverP F b cap n (kerM F n A ++ kerM F n B) x16):=over2x hSM.fld hn HKL.out.1 HKL.out.2 HKM.out.1 HKM.out.2 (HMM7.out.below HB16.out) (HMM14.out.below HB16.out) HC16.out.1 HC16.out.2 hl16
    go_simp
    go_at_call 54
    with_reducible refine hO.mono ?_
    rintro z x17 ⟨rs17,v17,rfl,hor17,-,hlt17,hb17⟩
    have HT17 : Hid (x16.heap.size < x17.heap.size):=Lib.hid hlt17
    obtain ⟨aV17,nV17,cV17,hvs17⟩ : ∃ a m c,v17 = .slice a m c:=by obtain ⟨a,c,e⟩:=hor17.shape; exact ⟨a,_,c,e⟩
    subst hvs17
    have HB17 : Hid (Below x16.heap.size x16 x17):=Lib.hid hb17
    have HO17:=Lib.hid hor17
    clear hO hor17 hb17 hlt17
    refine hK.out _ _ ?_ (fun hHeld=>?_)
    ·(try dsimp only)
     exact SM.keep hHeld HB17.out
    clear hK K
    try simp only [Rg.gp]
    refine Rg.rd1 18 ⟨some 33,.call ⟨.value (.func 55),#[.tmp 32],#[79]⟩,79,"space.go:103",#[⟨17,.data⟩,⟨17,.chain⟩],none⟩ fun K hK=>?_
    have hSM:=hHeld.2.out
    have hSM0_18 : Hid (w1.heap.size ≤ x16.heap.size):=Lib.hid (by have:=HZ5.out; have:=HT6.out; have:=HK7.out.size; have:=HZ12.out; have:=HT13.out; have:=HK14.out.size; have:=HZ16.out; have:=HX0.out; omega)
    have ho:=HO17.out
    have hle:=Nat.le_refl x17.heap.size
    have hlo : w1.heap.size ≤ x16.heap.size:=hSM0_18.out
    have hKk : Calls Try.prog 55 #[MV F b cap n (.slice aV17 nV17 cV17)] x17 fun e w'=>∃ g' rs' v',e = .returned (MV F b cap n v') ∧ OV (kerM F n (kerM F n A ++ kerM F n B)) g' rs' n w' v' ∧ Bx (fun k=>x16.heap.size ≤ k ∧ k < x17.heap.size) x17 w':=over_kernel2 hSM.fld hn (by rw [List.length_append]; have:=HKL.out; omega) (mapp HKM.out.1 HKM.out.2) (Nat.lt_of_lt_of_le HBW.out hlo) ho (HO17.out.own.lt) (fun i hi=>(HO17.out.row i hi).lt) (by have:=HZ5.out; have:=HT6.out; have:=HK7.out.size; have:=HZ12.out; have:=HT13.out; have:=HK14.out.size; have:=HZ16.out; have:=HT17.out; have:=HX0.out; omega) hle
    go_simp
    go_at_call 55
    with_reducible refine hKk.mono ?_
    rintro z x18 ⟨g18,rsK18,vK18,rfl,hov18,hbx18⟩
    obtain ⟨aK18,cK18,hvs18⟩:=hov18.shape
    subst hvs18
    have HK18:=Lib.hid hbx18
    have HMM18:=Lib.hid hov18.mm
    have hfd18:=fun w=>field79 F.p F.e (FM F b cap) (n : Nat) aK18 (kerM F n (kerM F n A ++ kerM F n B)).length cK18 w
    clear hKk hov18 hbx18 ho hle hlo
    refine hK.out _ _ ?_ (fun hHeld=>?_)
    ·(try dsimp only)
     exact SM.bx hHeld HK18.out fun k hk=>Nat.le_trans hSM0_18.out hk.1
    clear hK K
    try simp only [Rg.gp]
    refine Rg.tk 19 ⟨some 34,.field 79 (.tmp 33) 2,30,"space.go:103",#[⟨18,.data⟩],none⟩ ?_
    try simp only [Rg.gp]
    refine Rg.tk 20 ⟨some 8,.assign (.tmp 34),30,"space.go:103",#[⟨19,.data⟩,⟨18,.chain⟩,⟨0,.phase⟩,⟨1,.phase⟩,⟨2,.phase⟩,⟨3,.phase⟩,⟨4,.phase⟩,⟨5,.phase⟩,⟨6,.phase⟩,⟨7,.phase⟩,⟨8,.phase⟩,⟨9,.phase⟩,⟨10,.phase⟩,⟨11,.phase⟩,⟨12,.phase⟩,⟨13,.phase⟩,⟨14,.phase⟩,⟨15,.phase⟩,⟨16,.phase⟩,⟨17,.phase⟩,⟨18,.phase⟩,⟨19,.phase⟩],none⟩ ?_
    try simp only [Rg.gp]
    refine wpAnyH_done (by kernel_rfl) ?_ _
    have HBF : Hid (Below W.heap.size W x18):=Lib.hid (HBW1.out.trans (hHeld.2.out.b1.mono HBW1.out.size))
    clear hHeld
    go_wp2
    go_ret
    exact ⟨aK18,cK18,rfl,HMM18.out,HBF.out⟩
   ·go_simp
    refine hK.out _ _ ?_ (fun hHeld=>?_)
    ·(try dsimp only)
     exact SM.keep hHeld ((Below.refl _ _).alloc (Nat.le_refl _) _)
    clear hK K
    try simp only [Rg.gp]
    obtain ⟨x12,hw12⟩ : ∃ x,x = (x6.alloc (.cells #[.slice ab lB cb] 30)):=⟨_,rfl⟩
    have HB12 : Hid (Below x6.heap.size x6 x12):=Lib.hid (by rw [hw12]; exact (Below.refl _ _).alloc (Nat.le_refl _) _)
    have HZ12 : Hid (x12.heap.size = x6.heap.size + 1):=Lib.hid (by rw [hw12]; simp)
    have HC12 : Hid (x12.cell? ⟨x6.heap.size,0,none⟩ = some (.slice ab lB cb)):=Lib.hid (by rw [hw12]; exact World.cell?_alloc_at _ _ _ _ rfl)
    rw [← hw12] at hHeld ⊢
    clear hw12
    refine Rg.rd1 7 ⟨some 22,.call ⟨.value (.func 55),#[.tmp 21],#[79]⟩,79,"space.go:103",#[⟨6,.data⟩,⟨6,.chain⟩],none⟩ fun K hK=>?_
    have hSM:=hHeld.2.out
    have hSM0_7 : Hid (w1.heap.size ≤ x5.heap.size):=Lib.hid (by have:=HZ5.out; have:=HX0.out; omega)
    have ho:=HO6.out
    have hle:=Nat.le_refl x6.heap.size
    have ho:=ho.bx (S:=fun _=>False) (Bx.of HB12.out) fun _ _=>id
    have hle:=Nat.le_trans hle HB12.out.size
    have hlo : w1.heap.size ≤ x5.heap.size:=hSM0_7.out
    have hKk : Calls Try.prog 55 #[MV F b cap n (.slice aV6 nV6 cV6)] x12 fun e w'=>∃ g' rs' v',e = .returned (MV F b cap n v') ∧ OV (kerM F n A) g' rs' n w' v' ∧ Bx (fun k=>x5.heap.size ≤ k ∧ k < x6.heap.size) x12 w':=over_kernel2 hSM.fld hn (by have:=HLA.out; omega) HMA.out (Nat.lt_of_lt_of_le HBW.out hlo) ho (HO6.out.own.lt) (fun i hi=>(HO6.out.row i hi).lt) (by have:=HZ5.out; have:=HT6.out; have:=HX0.out; omega) hle
    go_simp
    go_at_call 55
    with_reducible refine hKk.mono ?_
    rintro z x7 ⟨g7,rsK7,vK7,rfl,hov7,hbx7⟩
    obtain ⟨aK7,cK7,hvs7⟩:=hov7.shape
    subst hvs7
    have HK7:=Lib.hid hbx7
    have HMM7:=Lib.hid hov7.mm
    have hfd7:=fun w=>field79 F.p F.e (FM F b cap) (n : Nat) aK7 (kerM F n A).length cK7 w
    clear hKk hov7 hbx7 ho hle hlo
    refine hK.out _ _ ?_ (fun hHeld=>?_)
    ·(try dsimp only)
     exact SM.bx hHeld HK7.out fun k hk=>Nat.le_trans hSM0_7.out hk.1
    clear hK K
    try simp only [Rg.gp]
    refine Rg.tk 8 ⟨some 23,.field 79 (.tmp 22) 2,30,"space.go:103",#[⟨7,.data⟩],none⟩ ?_
    try simp only [Rg.gp]
    refine Rg.rd1 13 ⟨some 28,.call ⟨.value (.func 54),#[.tmp 24,.tmp 25,.tmp 27],#[29,3,96]⟩,79,"space.go:103",#[⟨9,.data⟩,⟨10,.data⟩,⟨12,.data⟩,⟨7,.chain⟩],none⟩ fun K hK=>?_
    have hSM:=hHeld.2.out
    have hl12 : x6.heap.size < x12.heap.size:=by have:=HZ12.out; omega
    have hc12:=HC12.out
    have hc12:=(HK7.out.cell (p:=⟨x6.heap.size,0,none⟩) hl12 (by rintro ⟨q1,q2⟩; simp only at q1 q2; have:=HZ5.out; have:=HT6.out; have:=HZ12.out; have:=HK7.out.size; have:=HX0.out; omega)).trans hc12
    have hl12:=Nat.lt_of_lt_of_le hl12 HK7.out.size
    have hO : Calls Try.prog 54 #[FV F b cap,.int .i64 (n : Nat),.slice (some ⟨x6.heap.size,0,none⟩) 1 1] x7 (OverP F b cap n B x7):=over1x hSM.fld hn HLB.out HMB.out (by rw [EB.out]; exact HNB.out.below hSM.b1) (by rw [EB.out]; exact hc12) hl12
    go_simp
    go_at_call 54
    with_reducible refine hO.mono ?_
    rintro z x13 ⟨rs13,v13,rfl,hor13,-,hlt13,hb13⟩
    have HT13 : Hid (x7.heap.size < x13.heap.size):=Lib.hid hlt13
    obtain ⟨aV13,nV13,cV13,hvs13⟩ : ∃ a m c,v13 = .slice a m c:=by obtain ⟨a,c,e⟩:=hor13.shape; exact ⟨a,_,c,e⟩
    subst hvs13
    have HB13 : Hid (Below x7.heap.size x7 x13):=Lib.hid hb13
    have HO13:=Lib.hid hor13
    clear hO hor13 hb13 hlt13
    refine hK.out _ _ ?_ (fun hHeld=>?_)
    ·(try dsimp only)
     exact SM.keep hHeld HB13.out
    clear hK K
    try simp only [Rg.gp]
    refine Rg.rd1 14 ⟨some 29,.call ⟨.value (.func 55),#[.tmp 28],#[79]⟩,79,"space.go:103",#[⟨13,.data⟩,⟨13,.chain⟩],none⟩ fun K hK=>?_
    have hSM:=hHeld.2.out
    have hSM0_14 : Hid (w1.heap.size ≤ x7.heap.size):=Lib.hid (by have:=HZ5.out; have:=HT6.out; have:=HZ12.out; have:=HK7.out.size; have:=HX0.out; omega)
    have ho:=HO13.out
    have hle:=Nat.le_refl x13.heap.size
    have hlo : w1.heap.size ≤ x7.heap.size:=hSM0_14.out
    have hKk : Calls Try.prog 55 #[MV F b cap n (.slice aV13 nV13 cV13)] x13 fun e w'=>∃ g' rs' v',e = .returned (MV F b cap n v') ∧ OV (kerM F n B) g' rs' n w' v' ∧ Bx (fun k=>x7.heap.size ≤ k ∧ k < x13.heap.size) x13 w':=over_kernel2 hSM.fld hn (by have:=HLB.out; omega) HMB.out (Nat.lt_of_lt_of_le HBW.out hlo) ho (HO13.out.own.lt) (fun i hi=>(HO13.out.row i hi).lt) (by have:=HZ5.out; have:=HT6.out; have:=HZ12.out; have:=HK7.out.size; have:=HT13.out; have:=HX0.out; omega) hle
    go_simp
    go_at_call 55
    with_reducible refine hKk.mono ?_
    rintro z x14 ⟨g14,rsK14,vK14,rfl,hov14,hbx14⟩
    obtain ⟨aK14,cK14,hvs14⟩:=hov14.shape
    subst hvs14
    have HK14:=Lib.hid hbx14
    have HMM14:=Lib.hid hov14.mm
    have hfd14:=fun w=>field79 F.p F.e (FM F b cap) (n : Nat) aK14 (kerM F n B).length cK14 w
    clear hKk hov14 hbx14 ho hle hlo
    refine hK.out _ _ ?_ (fun hHeld=>?_)
    ·(try dsimp only)
     exact SM.bx hHeld HK14.out fun k hk=>Nat.le_trans hSM0_14.out hk.1
    clear hK K
    try simp only [Rg.gp]
    have HMM7:=HMM7
    have HMM7:=Lib.hid (HMM7.out.below ((HB13.out.trans (HK14.out.below (B:=x7.heap.size) HB13.out.size fun k hk=>hk.1))))
    refine Rg.tk 15 ⟨some 30,.field 79 (.tmp 29) 2,30,"space.go:103",#[⟨14,.data⟩],none⟩ ?_
    try simp only [Rg.gp]
    refine Rg.rd1 16 ⟨some 31,.buildSlice 96 2 #[(0,.tmp 23),(1,.tmp 30)],96,"space.go:103",#[⟨8,.data⟩,⟨15,.data⟩],none⟩ fun K hK=>?_
    go_simp
    refine hK.out _ _ ?_ (fun hHeld=>?_)
    ·(try dsimp only)
     exact SM.keep hHeld ((Below.refl _ _).alloc (Nat.le_refl _) _)
    clear hK K
    try simp only [Rg.gp]
    obtain ⟨x16,hw16⟩ : ∃ x,x = (x14.alloc (.cells #[.slice aK7 (kerM F n A).length cK7,.slice aK14 (kerM F n B).length cK14] 30)):=⟨_,rfl⟩
    have HB16 : Hid (Below x14.heap.size x14 x16):=Lib.hid (by rw [hw16]; exact (Below.refl _ _).alloc (Nat.le_refl _) _)
    have HZ16 : Hid (x16.heap.size = x14.heap.size + 1):=Lib.hid (by rw [hw16]; simp)
    have HC16 : Hid (x16.cell? ⟨x14.heap.size,0,none⟩ = some (.slice aK7 (kerM F n A).length cK7) ∧ x16.cell? ⟨x14.heap.size,1,none⟩ = some (.slice aK14 (kerM F n B).length cK14)):=Lib.hid (by rw [hw16]; exact ⟨World.cell?_alloc_at _ _ _ _ rfl,World.cell?_alloc_at _ _ _ _ rfl⟩)
    rw [← hw16] at hHeld ⊢
    clear hw16
    refine Rg.rd1 17 ⟨some 32,.call ⟨.value (.func 54),#[.tmp 15,.tmp 16,.tmp 31],#[29,3,96]⟩,79,"space.go:103",#[⟨0,.data⟩,⟨1,.data⟩,⟨16,.data⟩,⟨14,.chain⟩],none⟩ fun K hK=>?_
    have hSM:=hHeld.2.out
    have hl16 : x14.heap.size < x16.heap.size:=by have:=HZ16.out; omega
    have hO : Calls Try.prog 54 #[FV F b cap,.int .i64 (n : Nat),.slice (some ⟨x14.heap.size,0,none⟩) 2 2] x16 (OverP F b cap n (kerM F n A ++ kerM F n B) x16):=over2x hSM.fld hn HKL.out.1 HKL.out.2 HKM.out.1 HKM.out.2 (HMM7.out.below HB16.out) (HMM14.out.below HB16.out) HC16.out.1 HC16.out.2 hl16
    go_simp
    go_at_call 54
    with_reducible refine hO.mono ?_
    rintro z x17 ⟨rs17,v17,rfl,hor17,-,hlt17,hb17⟩
    have HT17 : Hid (x16.heap.size < x17.heap.size):=Lib.hid hlt17
    obtain ⟨aV17,nV17,cV17,hvs17⟩ : ∃ a m c,v17 = .slice a m c:=by obtain ⟨a,c,e⟩:=hor17.shape; exact ⟨a,_,c,e⟩
    subst hvs17
    have HB17 : Hid (Below x16.heap.size x16 x17):=Lib.hid hb17
    have HO17:=Lib.hid hor17
    clear hO hor17 hb17 hlt17
    refine hK.out _ _ ?_ (fun hHeld=>?_)
    ·(try dsimp only)
     exact SM.keep hHeld HB17.out
    clear hK K
    try simp only [Rg.gp]
    refine Rg.rd1 18 ⟨some 33,.call ⟨.value (.func 55),#[.tmp 32],#[79]⟩,79,"space.go:103",#[⟨17,.data⟩,⟨17,.chain⟩],none⟩ fun K hK=>?_
    have hSM:=hHeld.2.out
    have hSM0_18 : Hid (w1.heap.size ≤ x16.heap.size):=Lib.hid (by have:=HZ5.out; have:=HT6.out; have:=HZ12.out; have:=HK7.out.size; have:=HT13.out; have:=HK14.out.size; have:=HZ16.out; have:=HX0.out; omega)
    have ho:=HO17.out
    have hle:=Nat.le_refl x17.heap.size
    have hlo : w1.heap.size ≤ x16.heap.size:=hSM0_18.out
    have hKk : Calls Try.prog 55 #[MV F b cap n (.slice aV17 nV17 cV17)] x17 fun e w'=>∃ g' rs' v',e = .returned (MV F b cap n v') ∧ OV (kerM F n (kerM F n A ++ kerM F n B)) g' rs' n w' v' ∧ Bx (fun k=>x16.heap.size ≤ k ∧ k < x17.heap.size) x17 w':=over_kernel2 hSM.fld hn (by rw [List.length_append]; have:=HKL.out; omega) (mapp HKM.out.1 HKM.out.2) (Nat.lt_of_lt_of_le HBW.out hlo) ho (HO17.out.own.lt) (fun i hi=>(HO17.out.row i hi).lt) (by have:=HZ5.out; have:=HT6.out; have:=HZ12.out; have:=HK7.out.size; have:=HT13.out; have:=HK14.out.size; have:=HZ16.out; have:=HT17.out; have:=HX0.out; omega) hle
    go_simp
    go_at_call 55
    with_reducible refine hKk.mono ?_
    rintro z x18 ⟨g18,rsK18,vK18,rfl,hov18,hbx18⟩
    obtain ⟨aK18,cK18,hvs18⟩:=hov18.shape
    subst hvs18
    have HK18:=Lib.hid hbx18
    have HMM18:=Lib.hid hov18.mm
    have hfd18:=fun w=>field79 F.p F.e (FM F b cap) (n : Nat) aK18 (kerM F n (kerM F n A ++ kerM F n B)).length cK18 w
    clear hKk hov18 hbx18 ho hle hlo
    refine hK.out _ _ ?_ (fun hHeld=>?_)
    ·(try dsimp only)
     exact SM.bx hHeld HK18.out fun k hk=>Nat.le_trans hSM0_18.out hk.1
    clear hK K
    try simp only [Rg.gp]
    refine Rg.tk 19 ⟨some 34,.field 79 (.tmp 33) 2,30,"space.go:103",#[⟨18,.data⟩],none⟩ ?_
    try simp only [Rg.gp]
    refine Rg.tk 20 ⟨some 8,.assign (.tmp 34),30,"space.go:103",#[⟨19,.data⟩,⟨18,.chain⟩,⟨0,.phase⟩,⟨1,.phase⟩,⟨2,.phase⟩,⟨3,.phase⟩,⟨4,.phase⟩,⟨5,.phase⟩,⟨6,.phase⟩,⟨7,.phase⟩,⟨8,.phase⟩,⟨9,.phase⟩,⟨10,.phase⟩,⟨11,.phase⟩,⟨12,.phase⟩,⟨13,.phase⟩,⟨14,.phase⟩,⟨15,.phase⟩,⟨16,.phase⟩,⟨17,.phase⟩,⟨18,.phase⟩,⟨19,.phase⟩],none⟩ ?_
    try simp only [Rg.gp]
    refine wpAnyH_done (by kernel_rfl) ?_ _
    have HBF : Hid (Below W.heap.size W x18):=Lib.hid (HBW1.out.trans (hHeld.2.out.b1.mono HBW1.out.size))
    clear hHeld
    go_wp2
    go_ret
    exact ⟨aK18,cK18,rfl,HMM18.out,HBF.out⟩
  ·go_simp
   refine hK.out _ _ ?_ (fun hHeld=>?_)
   ·(try dsimp only)
    exact SM.keep hHeld ((Below.refl _ _).alloc (Nat.le_refl _) _)
   clear hK K
   try simp only [Rg.gp]
   obtain ⟨x12,hw12⟩ : ∃ x,x = (x5.alloc (.cells #[.slice ab lB cb] 30)):=⟨_,rfl⟩
   have HB12 : Hid (Below x5.heap.size x5 x12):=Lib.hid (by rw [hw12]; exact (Below.refl _ _).alloc (Nat.le_refl _) _)
   have HZ12 : Hid (x12.heap.size = x5.heap.size + 1):=Lib.hid (by rw [hw12]; simp)
   have HC12 : Hid (x12.cell? ⟨x5.heap.size,0,none⟩ = some (.slice ab lB cb)):=Lib.hid (by rw [hw12]; exact World.cell?_alloc_at _ _ _ _ rfl)
   rw [← hw12] at hHeld ⊢
   clear hw12
   refine Rg.rd1 6 ⟨some 21,.call ⟨.value (.func 54),#[.tmp 17,.tmp 18,.tmp 20],#[29,3,96]⟩,79,"space.go:103",#[⟨2,.data⟩,⟨3,.data⟩,⟨5,.data⟩],none⟩ fun K hK=>?_
   have hSM:=hHeld.2.out
   have hl5 : x0.heap.size < x5.heap.size:=by have:=HZ5.out; omega
   have hc5:=HC5.out
   have hc5:=(HB12.out.cell (p:=⟨x0.heap.size,0,none⟩) hl5).trans hc5
   have hl5:=Nat.lt_of_lt_of_le hl5 HB12.out.size
   have hO : Calls Try.prog 54 #[FV F b cap,.int .i64 (n : Nat),.slice (some ⟨x0.heap.size,0,none⟩) 1 1] x12 (OverP F b cap n A x12):=over1x hSM.fld hn HLA.out HMA.out (by rw [EA.out]; exact HNA.out.below hSM.b1) (by rw [EA.out]; exact hc5) hl5
   go_simp
   go_at_call 54
   with_reducible refine hO.mono ?_
   rintro z x6 ⟨rs6,v6,rfl,hor6,-,hlt6,hb6⟩
   have HT6 : Hid (x12.heap.size < x6.heap.size):=Lib.hid hlt6
   obtain ⟨aV6,nV6,cV6,hvs6⟩ : ∃ a m c,v6 = .slice a m c:=by obtain ⟨a,c,e⟩:=hor6.shape; exact ⟨a,_,c,e⟩
   subst hvs6
   have HB6 : Hid (Below x12.heap.size x12 x6):=Lib.hid hb6
   have HO6:=Lib.hid hor6
   clear hO hor6 hb6 hlt6
   refine hK.out _ _ ?_ (fun hHeld=>?_)
   ·(try dsimp only)
    exact SM.keep hHeld HB6.out
   clear hK K
   try simp only [Rg.gp]
   refine Rg.rd1 7 ⟨some 22,.call ⟨.value (.func 55),#[.tmp 21],#[79]⟩,79,"space.go:103",#[⟨6,.data⟩,⟨6,.chain⟩],none⟩ fun K hK=>?_
   have hSM:=hHeld.2.out
   have hSM0_7 : Hid (w1.heap.size ≤ x12.heap.size):=Lib.hid (by have:=HZ5.out; have:=HZ12.out; have:=HX0.out; omega)
   have ho:=HO6.out
   have hle:=Nat.le_refl x6.heap.size
   have hlo : w1.heap.size ≤ x12.heap.size:=hSM0_7.out
   have hKk : Calls Try.prog 55 #[MV F b cap n (.slice aV6 nV6 cV6)] x6 fun e w'=>∃ g' rs' v',e = .returned (MV F b cap n v') ∧ OV (kerM F n A) g' rs' n w' v' ∧ Bx (fun k=>x12.heap.size ≤ k ∧ k < x6.heap.size) x6 w':=over_kernel2 hSM.fld hn (by have:=HLA.out; omega) HMA.out (Nat.lt_of_lt_of_le HBW.out hlo) ho (HO6.out.own.lt) (fun i hi=>(HO6.out.row i hi).lt) (by have:=HZ5.out; have:=HZ12.out; have:=HT6.out; have:=HX0.out; omega) hle
   go_simp
   go_at_call 55
   with_reducible refine hKk.mono ?_
   rintro z x7 ⟨g7,rsK7,vK7,rfl,hov7,hbx7⟩
   obtain ⟨aK7,cK7,hvs7⟩:=hov7.shape
   subst hvs7
   have HK7:=Lib.hid hbx7
   have HMM7:=Lib.hid hov7.mm
   have hfd7:=fun w=>field79 F.p F.e (FM F b cap) (n : Nat) aK7 (kerM F n A).length cK7 w
   clear hKk hov7 hbx7 ho hle hlo
   refine hK.out _ _ ?_ (fun hHeld=>?_)
   ·(try dsimp only)
    exact SM.bx hHeld HK7.out fun k hk=>Nat.le_trans hSM0_7.out hk.1
   clear hK K
   try simp only [Rg.gp]
   refine Rg.tk 8 ⟨some 23,.field 79 (.tmp 22) 2,30,"space.go:103",#[⟨7,.data⟩],none⟩ ?_
   try simp only [Rg.gp]
   refine Rg.rd1 13 ⟨some 28,.call ⟨.value (.func 54),#[.tmp 24,.tmp 25,.tmp 27],#[29,3,96]⟩,79,"space.go:103",#[⟨9,.data⟩,⟨10,.data⟩,⟨12,.data⟩,⟨7,.chain⟩],none⟩ fun K hK=>?_
   have hSM:=hHeld.2.out
   have hl12 : x5.heap.size < x12.heap.size:=by have:=HZ12.out; omega
   have hc12:=HC12.out
   have hc12:=(HB6.out.cell (p:=⟨x5.heap.size,0,none⟩) hl12).trans hc12
   have hl12:=Nat.lt_of_lt_of_le hl12 HB6.out.size
   have hc12:=(HK7.out.cell (p:=⟨x5.heap.size,0,none⟩) hl12 (by rintro ⟨q1,q2⟩; simp only at q1 q2; have:=HZ5.out; have:=HZ12.out; have:=HT6.out; have:=HK7.out.size; have:=HX0.out; omega)).trans hc12
   have hl12:=Nat.lt_of_lt_of_le hl12 HK7.out.size
   have hO : Calls Try.prog 54 #[FV F b cap,.int .i64 (n : Nat),.slice (some ⟨x5.heap.size,0,none⟩) 1 1] x7 (OverP F b cap n B x7):=over1x hSM.fld hn HLB.out HMB.out (by rw [EB.out]; exact HNB.out.below hSM.b1) (by rw [EB.out]; exact hc12) hl12
   go_simp
   go_at_call 54
   with_reducible refine hO.mono ?_
   rintro z x13 ⟨rs13,v13,rfl,hor13,-,hlt13,hb13⟩
   have HT13 : Hid (x7.heap.size < x13.heap.size):=Lib.hid hlt13
   obtain ⟨aV13,nV13,cV13,hvs13⟩ : ∃ a m c,v13 = .slice a m c:=by obtain ⟨a,c,e⟩:=hor13.shape; exact ⟨a,_,c,e⟩
   subst hvs13
   have HB13 : Hid (Below x7.heap.size x7 x13):=Lib.hid hb13
   have HO13:=Lib.hid hor13
   clear hO hor13 hb13 hlt13
   refine hK.out _ _ ?_ (fun hHeld=>?_)
   ·(try dsimp only)
    exact SM.keep hHeld HB13.out
   clear hK K
   try simp only [Rg.gp]
   refine Rg.rd1 14 ⟨some 29,.call ⟨.value (.func 55),#[.tmp 28],#[79]⟩,79,"space.go:103",#[⟨13,.data⟩,⟨13,.chain⟩],none⟩ fun K hK=>?_
   have hSM:=hHeld.2.out
   have hSM0_14 : Hid (w1.heap.size ≤ x7.heap.size):=Lib.hid (by have:=HZ5.out; have:=HZ12.out; have:=HT6.out; have:=HK7.out.size; have:=HX0.out; omega)
   have ho:=HO13.out
   have hle:=Nat.le_refl x13.heap.size
   have hlo : w1.heap.size ≤ x7.heap.size:=hSM0_14.out
   have hKk : Calls Try.prog 55 #[MV F b cap n (.slice aV13 nV13 cV13)] x13 fun e w'=>∃ g' rs' v',e = .returned (MV F b cap n v') ∧ OV (kerM F n B) g' rs' n w' v' ∧ Bx (fun k=>x7.heap.size ≤ k ∧ k < x13.heap.size) x13 w':=over_kernel2 hSM.fld hn (by have:=HLB.out; omega) HMB.out (Nat.lt_of_lt_of_le HBW.out hlo) ho (HO13.out.own.lt) (fun i hi=>(HO13.out.row i hi).lt) (by have:=HZ5.out; have:=HZ12.out; have:=HT6.out; have:=HK7.out.size; have:=HT13.out; have:=HX0.out; omega) hle
   go_simp
   go_at_call 55
   with_reducible refine hKk.mono ?_
   rintro z x14 ⟨g14,rsK14,vK14,rfl,hov14,hbx14⟩
   obtain ⟨aK14,cK14,hvs14⟩:=hov14.shape
   subst hvs14
   have HK14:=Lib.hid hbx14
   have HMM14:=Lib.hid hov14.mm
   have hfd14:=fun w=>field79 F.p F.e (FM F b cap) (n : Nat) aK14 (kerM F n B).length cK14 w
   clear hKk hov14 hbx14 ho hle hlo
   refine hK.out _ _ ?_ (fun hHeld=>?_)
   ·(try dsimp only)
    exact SM.bx hHeld HK14.out fun k hk=>Nat.le_trans hSM0_14.out hk.1
   clear hK K
   try simp only [Rg.gp]
   have HMM7:=HMM7
   have HMM7:=Lib.hid (HMM7.out.below ((HB13.out.trans (HK14.out.below (B:=x7.heap.size) HB13.out.size fun k hk=>hk.1))))
   refine Rg.tk 15 ⟨some 30,.field 79 (.tmp 29) 2,30,"space.go:103",#[⟨14,.data⟩],none⟩ ?_
   try simp only [Rg.gp]
   refine Rg.rd1 16 ⟨some 31,.buildSlice 96 2 #[(0,.tmp 23),(1,.tmp 30)],96,"space.go:103",#[⟨8,.data⟩,⟨15,.data⟩],none⟩ fun K hK=>?_
   go_simp
   refine hK.out _ _ ?_ (fun hHeld=>?_)
   ·(try dsimp only)
    exact SM.keep hHeld ((Below.refl _ _).alloc (Nat.le_refl _) _)
   clear hK K
   try simp only [Rg.gp]
   obtain ⟨x16,hw16⟩ : ∃ x,x = (x14.alloc (.cells #[.slice aK7 (kerM F n A).length cK7,.slice aK14 (kerM F n B).length cK14] 30)):=⟨_,rfl⟩
   have HB16 : Hid (Below x14.heap.size x14 x16):=Lib.hid (by rw [hw16]; exact (Below.refl _ _).alloc (Nat.le_refl _) _)
   have HZ16 : Hid (x16.heap.size = x14.heap.size + 1):=Lib.hid (by rw [hw16]; simp)
   have HC16 : Hid (x16.cell? ⟨x14.heap.size,0,none⟩ = some (.slice aK7 (kerM F n A).length cK7) ∧ x16.cell? ⟨x14.heap.size,1,none⟩ = some (.slice aK14 (kerM F n B).length cK14)):=Lib.hid (by rw [hw16]; exact ⟨World.cell?_alloc_at _ _ _ _ rfl,World.cell?_alloc_at _ _ _ _ rfl⟩)
   rw [← hw16] at hHeld ⊢
   clear hw16
   refine Rg.rd1 17 ⟨some 32,.call ⟨.value (.func 54),#[.tmp 15,.tmp 16,.tmp 31],#[29,3,96]⟩,79,"space.go:103",#[⟨0,.data⟩,⟨1,.data⟩,⟨16,.data⟩,⟨14,.chain⟩],none⟩ fun K hK=>?_
   have hSM:=hHeld.2.out
   have hl16 : x14.heap.size < x16.heap.size:=by have:=HZ16.out; omega
   have hO : Calls Try.prog 54 #[FV F b cap,.int .i64 (n : Nat),.slice (some ⟨x14.heap.size,0,none⟩) 2 2] x16 (OverP F b cap n (kerM F n A ++ kerM F n B) x16):=over2x hSM.fld hn HKL.out.1 HKL.out.2 HKM.out.1 HKM.out.2 (HMM7.out.below HB16.out) (HMM14.out.below HB16.out) HC16.out.1 HC16.out.2 hl16
   go_simp
   go_at_call 54
   with_reducible refine hO.mono ?_
   rintro z x17 ⟨rs17,v17,rfl,hor17,-,hlt17,hb17⟩
   have HT17 : Hid (x16.heap.size < x17.heap.size):=Lib.hid hlt17
   obtain ⟨aV17,nV17,cV17,hvs17⟩ : ∃ a m c,v17 = .slice a m c:=by obtain ⟨a,c,e⟩:=hor17.shape; exact ⟨a,_,c,e⟩
   subst hvs17
   have HB17 : Hid (Below x16.heap.size x16 x17):=Lib.hid hb17
   have HO17:=Lib.hid hor17
   clear hO hor17 hb17 hlt17
   refine hK.out _ _ ?_ (fun hHeld=>?_)
   ·(try dsimp only)
    exact SM.keep hHeld HB17.out
   clear hK K
   try simp only [Rg.gp]
   refine Rg.rd1 18 ⟨some 33,.call ⟨.value (.func 55),#[.tmp 32],#[79]⟩,79,"space.go:103",#[⟨17,.data⟩,⟨17,.chain⟩],none⟩ fun K hK=>?_
   have hSM:=hHeld.2.out
   have hSM0_18 : Hid (w1.heap.size ≤ x16.heap.size):=Lib.hid (by have:=HZ5.out; have:=HZ12.out; have:=HT6.out; have:=HK7.out.size; have:=HT13.out; have:=HK14.out.size; have:=HZ16.out; have:=HX0.out; omega)
   have ho:=HO17.out
   have hle:=Nat.le_refl x17.heap.size
   have hlo : w1.heap.size ≤ x16.heap.size:=hSM0_18.out
   have hKk : Calls Try.prog 55 #[MV F b cap n (.slice aV17 nV17 cV17)] x17 fun e w'=>∃ g' rs' v',e = .returned (MV F b cap n v') ∧ OV (kerM F n (kerM F n A ++ kerM F n B)) g' rs' n w' v' ∧ Bx (fun k=>x16.heap.size ≤ k ∧ k < x17.heap.size) x17 w':=over_kernel2 hSM.fld hn (by rw [List.length_append]; have:=HKL.out; omega) (mapp HKM.out.1 HKM.out.2) (Nat.lt_of_lt_of_le HBW.out hlo) ho (HO17.out.own.lt) (fun i hi=>(HO17.out.row i hi).lt) (by have:=HZ5.out; have:=HZ12.out; have:=HT6.out; have:=HK7.out.size; have:=HT13.out; have:=HK14.out.size; have:=HZ16.out; have:=HT17.out; have:=HX0.out; omega) hle
   go_simp
   go_at_call 55
   with_reducible refine hKk.mono ?_
   rintro z x18 ⟨g18,rsK18,vK18,rfl,hov18,hbx18⟩
   obtain ⟨aK18,cK18,hvs18⟩:=hov18.shape
   subst hvs18
   have HK18:=Lib.hid hbx18
   have HMM18:=Lib.hid hov18.mm
   have hfd18:=fun w=>field79 F.p F.e (FM F b cap) (n : Nat) aK18 (kerM F n (kerM F n A ++ kerM F n B)).length cK18 w
   clear hKk hov18 hbx18 ho hle hlo
   refine hK.out _ _ ?_ (fun hHeld=>?_)
   ·(try dsimp only)
    exact SM.bx hHeld HK18.out fun k hk=>Nat.le_trans hSM0_18.out hk.1
   clear hK K
   try simp only [Rg.gp]
   refine Rg.tk 19 ⟨some 34,.field 79 (.tmp 33) 2,30,"space.go:103",#[⟨18,.data⟩],none⟩ ?_
   try simp only [Rg.gp]
   refine Rg.tk 20 ⟨some 8,.assign (.tmp 34),30,"space.go:103",#[⟨19,.data⟩,⟨18,.chain⟩,⟨0,.phase⟩,⟨1,.phase⟩,⟨2,.phase⟩,⟨3,.phase⟩,⟨4,.phase⟩,⟨5,.phase⟩,⟨6,.phase⟩,⟨7,.phase⟩,⟨8,.phase⟩,⟨9,.phase⟩,⟨10,.phase⟩,⟨11,.phase⟩,⟨12,.phase⟩,⟨13,.phase⟩,⟨14,.phase⟩,⟨15,.phase⟩,⟨16,.phase⟩,⟨17,.phase⟩,⟨18,.phase⟩,⟨19,.phase⟩],none⟩ ?_
   try simp only [Rg.gp]
   refine wpAnyH_done (by kernel_rfl) ?_ _
   have HBF : Hid (Below W.heap.size W x18):=Lib.hid (HBW1.out.trans (hHeld.2.out.b1.mono HBW1.out.size))
   clear hHeld
   go_wp2
   go_ret
   exact ⟨aK18,cK18,rfl,HMM18.out,HBF.out⟩
 ·go_simp
  refine hK.out _ _ ?_ (fun hHeld=>?_)
  ·(try dsimp only)
   exact SM.keep hHeld ((Below.refl _ _).alloc (Nat.le_refl _) _)
  clear hK K
  try simp only [Rg.gp]
  obtain ⟨x12,hw12⟩ : ∃ x,x = (x0.alloc (.cells #[.slice ab lB cb] 30)):=⟨_,rfl⟩
  have HB12 : Hid (Below x0.heap.size x0 x12):=Lib.hid (by rw [hw12]; exact (Below.refl _ _).alloc (Nat.le_refl _) _)
  have HZ12 : Hid (x12.heap.size = x0.heap.size + 1):=Lib.hid (by rw [hw12]; simp)
  have HC12 : Hid (x12.cell? ⟨x0.heap.size,0,none⟩ = some (.slice ab lB cb)):=Lib.hid (by rw [hw12]; exact World.cell?_alloc_at _ _ _ _ rfl)
  rw [← hw12] at hHeld ⊢
  clear hw12
  refine Rg.rd1 5 ⟨some 20,.buildSlice 96 1 #[(0,.tmp 19)],96,"space.go:103",#[⟨4,.data⟩],none⟩ fun K hK=>?_
  go_simp
  refine hK.out _ _ ?_ (fun hHeld=>?_)
  ·(try dsimp only)
   exact SM.keep hHeld ((Below.refl _ _).alloc (Nat.le_refl _) _)
  clear hK K
  try simp only [Rg.gp]
  obtain ⟨x5,hw5⟩ : ∃ x,x = (x12.alloc (.cells #[.slice aa lA ca] 30)):=⟨_,rfl⟩
  have HB5 : Hid (Below x12.heap.size x12 x5):=Lib.hid (by rw [hw5]; exact (Below.refl _ _).alloc (Nat.le_refl _) _)
  have HZ5 : Hid (x5.heap.size = x12.heap.size + 1):=Lib.hid (by rw [hw5]; simp)
  have HC5 : Hid (x5.cell? ⟨x12.heap.size,0,none⟩ = some (.slice aa lA ca)):=Lib.hid (by rw [hw5]; exact World.cell?_alloc_at _ _ _ _ rfl)
  rw [← hw5] at hHeld ⊢
  clear hw5
  refine Rg.rd1 6 ⟨some 21,.call ⟨.value (.func 54),#[.tmp 17,.tmp 18,.tmp 20],#[29,3,96]⟩,79,"space.go:103",#[⟨2,.data⟩,⟨3,.data⟩,⟨5,.data⟩],none⟩ fun K hK=>?_
  have hSM:=hHeld.2.out
  have hl5 : x12.heap.size < x5.heap.size:=by have:=HZ5.out; omega
  have hc5:=HC5.out
  have hO : Calls Try.prog 54 #[FV F b cap,.int .i64 (n : Nat),.slice (some ⟨x12.heap.size,0,none⟩) 1 1] x5 (OverP F b cap n A x5):=over1x hSM.fld hn HLA.out HMA.out (by rw [EA.out]; exact HNA.out.below hSM.b1) (by rw [EA.out]; exact hc5) hl5
  go_simp
  go_at_call 54
  with_reducible refine hO.mono ?_
  rintro z x6 ⟨rs6,v6,rfl,hor6,-,hlt6,hb6⟩
  have HT6 : Hid (x5.heap.size < x6.heap.size):=Lib.hid hlt6
  obtain ⟨aV6,nV6,cV6,hvs6⟩ : ∃ a m c,v6 = .slice a m c:=by obtain ⟨a,c,e⟩:=hor6.shape; exact ⟨a,_,c,e⟩
  subst hvs6
  have HB6 : Hid (Below x5.heap.size x5 x6):=Lib.hid hb6
  have HO6:=Lib.hid hor6
  clear hO hor6 hb6 hlt6
  refine hK.out _ _ ?_ (fun hHeld=>?_)
  ·(try dsimp only)
   exact SM.keep hHeld HB6.out
  clear hK K
  try simp only [Rg.gp]
  refine Rg.rd1 7 ⟨some 22,.call ⟨.value (.func 55),#[.tmp 21],#[79]⟩,79,"space.go:103",#[⟨6,.data⟩,⟨6,.chain⟩],none⟩ fun K hK=>?_
  have hSM:=hHeld.2.out
  have hSM0_7 : Hid (w1.heap.size ≤ x5.heap.size):=Lib.hid (by have:=HZ12.out; have:=HZ5.out; have:=HX0.out; omega)
  have ho:=HO6.out
  have hle:=Nat.le_refl x6.heap.size
  have hlo : w1.heap.size ≤ x5.heap.size:=hSM0_7.out
  have hKk : Calls Try.prog 55 #[MV F b cap n (.slice aV6 nV6 cV6)] x6 fun e w'=>∃ g' rs' v',e = .returned (MV F b cap n v') ∧ OV (kerM F n A) g' rs' n w' v' ∧ Bx (fun k=>x5.heap.size ≤ k ∧ k < x6.heap.size) x6 w':=over_kernel2 hSM.fld hn (by have:=HLA.out; omega) HMA.out (Nat.lt_of_lt_of_le HBW.out hlo) ho (HO6.out.own.lt) (fun i hi=>(HO6.out.row i hi).lt) (by have:=HZ12.out; have:=HZ5.out; have:=HT6.out; have:=HX0.out; omega) hle
  go_simp
  go_at_call 55
  with_reducible refine hKk.mono ?_
  rintro z x7 ⟨g7,rsK7,vK7,rfl,hov7,hbx7⟩
  obtain ⟨aK7,cK7,hvs7⟩:=hov7.shape
  subst hvs7
  have HK7:=Lib.hid hbx7
  have HMM7:=Lib.hid hov7.mm
  have hfd7:=fun w=>field79 F.p F.e (FM F b cap) (n : Nat) aK7 (kerM F n A).length cK7 w
  clear hKk hov7 hbx7 ho hle hlo
  refine hK.out _ _ ?_ (fun hHeld=>?_)
  ·(try dsimp only)
   exact SM.bx hHeld HK7.out fun k hk=>Nat.le_trans hSM0_7.out hk.1
  clear hK K
  try simp only [Rg.gp]
  refine Rg.tk 8 ⟨some 23,.field 79 (.tmp 22) 2,30,"space.go:103",#[⟨7,.data⟩],none⟩ ?_
  try simp only [Rg.gp]
  refine Rg.rd1 13 ⟨some 28,.call ⟨.value (.func 54),#[.tmp 24,.tmp 25,.tmp 27],#[29,3,96]⟩,79,"space.go:103",#[⟨9,.data⟩,⟨10,.data⟩,⟨12,.data⟩,⟨7,.chain⟩],none⟩ fun K hK=>?_
  have hSM:=hHeld.2.out
  have hl12 : x0.heap.size < x12.heap.size:=by have:=HZ12.out; omega
  have hc12:=HC12.out
  have hc12:=(HB5.out.cell (p:=⟨x0.heap.size,0,none⟩) hl12).trans hc12
  have hl12:=Nat.lt_of_lt_of_le hl12 HB5.out.size
  have hc12:=(HB6.out.cell (p:=⟨x0.heap.size,0,none⟩) hl12).trans hc12
  have hl12:=Nat.lt_of_lt_of_le hl12 HB6.out.size
  have hc12:=(HK7.out.cell (p:=⟨x0.heap.size,0,none⟩) hl12 (by rintro ⟨q1,q2⟩; simp only at q1 q2; have:=HZ12.out; have:=HZ5.out; have:=HT6.out; have:=HK7.out.size; have:=HX0.out; omega)).trans hc12
  have hl12:=Nat.lt_of_lt_of_le hl12 HK7.out.size
  have hO : Calls Try.prog 54 #[FV F b cap,.int .i64 (n : Nat),.slice (some ⟨x0.heap.size,0,none⟩) 1 1] x7 (OverP F b cap n B x7):=over1x hSM.fld hn HLB.out HMB.out (by rw [EB.out]; exact HNB.out.below hSM.b1) (by rw [EB.out]; exact hc12) hl12
  go_simp
  go_at_call 54
  with_reducible refine hO.mono ?_
  rintro z x13 ⟨rs13,v13,rfl,hor13,-,hlt13,hb13⟩
  have HT13 : Hid (x7.heap.size < x13.heap.size):=Lib.hid hlt13
  obtain ⟨aV13,nV13,cV13,hvs13⟩ : ∃ a m c,v13 = .slice a m c:=by obtain ⟨a,c,e⟩:=hor13.shape; exact ⟨a,_,c,e⟩
  subst hvs13
  have HB13 : Hid (Below x7.heap.size x7 x13):=Lib.hid hb13
  have HO13:=Lib.hid hor13
  clear hO hor13 hb13 hlt13
  refine hK.out _ _ ?_ (fun hHeld=>?_)
  ·(try dsimp only)
   exact SM.keep hHeld HB13.out
  clear hK K
  try simp only [Rg.gp]
  refine Rg.rd1 14 ⟨some 29,.call ⟨.value (.func 55),#[.tmp 28],#[79]⟩,79,"space.go:103",#[⟨13,.data⟩,⟨13,.chain⟩],none⟩ fun K hK=>?_
  have hSM:=hHeld.2.out
  have hSM0_14 : Hid (w1.heap.size ≤ x7.heap.size):=Lib.hid (by have:=HZ12.out; have:=HZ5.out; have:=HT6.out; have:=HK7.out.size; have:=HX0.out; omega)
  have ho:=HO13.out
  have hle:=Nat.le_refl x13.heap.size
  have hlo : w1.heap.size ≤ x7.heap.size:=hSM0_14.out
  have hKk : Calls Try.prog 55 #[MV F b cap n (.slice aV13 nV13 cV13)] x13 fun e w'=>∃ g' rs' v',e = .returned (MV F b cap n v') ∧ OV (kerM F n B) g' rs' n w' v' ∧ Bx (fun k=>x7.heap.size ≤ k ∧ k < x13.heap.size) x13 w':=over_kernel2 hSM.fld hn (by have:=HLB.out; omega) HMB.out (Nat.lt_of_lt_of_le HBW.out hlo) ho (HO13.out.own.lt) (fun i hi=>(HO13.out.row i hi).lt) (by have:=HZ12.out; have:=HZ5.out; have:=HT6.out; have:=HK7.out.size; have:=HT13.out; have:=HX0.out; omega) hle
  go_simp
  go_at_call 55
  with_reducible refine hKk.mono ?_
  rintro z x14 ⟨g14,rsK14,vK14,rfl,hov14,hbx14⟩
  obtain ⟨aK14,cK14,hvs14⟩:=hov14.shape
  subst hvs14
  have HK14:=Lib.hid hbx14
  have HMM14:=Lib.hid hov14.mm
  have hfd14:=fun w=>field79 F.p F.e (FM F b cap) (n : Nat) aK14 (kerM F n B).length cK14 w
  clear hKk hov14 hbx14 ho hle hlo
  refine hK.out _ _ ?_ (fun hHeld=>?_)
  ·(try dsimp only)
   exact SM.bx hHeld HK14.out fun k hk=>Nat.le_trans hSM0_14.out hk.1
  clear hK K
  try simp only [Rg.gp]
  have HMM7:=HMM7
  have HMM7:=Lib.hid (HMM7.out.below ((HB13.out.trans (HK14.out.below (B:=x7.heap.size) HB13.out.size fun k hk=>hk.1))))
  refine Rg.tk 15 ⟨some 30,.field 79 (.tmp 29) 2,30,"space.go:103",#[⟨14,.data⟩],none⟩ ?_
  try simp only [Rg.gp]
  refine Rg.rd1 16 ⟨some 31,.buildSlice 96 2 #[(0,.tmp 23),(1,.tmp 30)],96,"space.go:103",#[⟨8,.data⟩,⟨15,.data⟩],none⟩ fun K hK=>?_
  go_simp
  refine hK.out _ _ ?_ (fun hHeld=>?_)
  ·(try dsimp only)
   exact SM.keep hHeld ((Below.refl _ _).alloc (Nat.le_refl _) _)
  clear hK K
  try simp only [Rg.gp]
  obtain ⟨x16,hw16⟩ : ∃ x,x = (x14.alloc (.cells #[.slice aK7 (kerM F n A).length cK7,.slice aK14 (kerM F n B).length cK14] 30)):=⟨_,rfl⟩
  have HB16 : Hid (Below x14.heap.size x14 x16):=Lib.hid (by rw [hw16]; exact (Below.refl _ _).alloc (Nat.le_refl _) _)
  have HZ16 : Hid (x16.heap.size = x14.heap.size + 1):=Lib.hid (by rw [hw16]; simp)
  have HC16 : Hid (x16.cell? ⟨x14.heap.size,0,none⟩ = some (.slice aK7 (kerM F n A).length cK7) ∧ x16.cell? ⟨x14.heap.size,1,none⟩ = some (.slice aK14 (kerM F n B).length cK14)):=Lib.hid (by rw [hw16]; exact ⟨World.cell?_alloc_at _ _ _ _ rfl,World.cell?_alloc_at _ _ _ _ rfl⟩)
  rw [← hw16] at hHeld ⊢
  clear hw16
  refine Rg.rd1 17 ⟨some 32,.call ⟨.value (.func 54),#[.tmp 15,.tmp 16,.tmp 31],#[29,3,96]⟩,79,"space.go:103",#[⟨0,.data⟩,⟨1,.data⟩,⟨16,.data⟩,⟨14,.chain⟩],none⟩ fun K hK=>?_
  have hSM:=hHeld.2.out
  have hl16 : x14.heap.size < x16.heap.size:=by have:=HZ16.out; omega
  have hO : Calls Try.prog 54 #[FV F b cap,.int .i64 (n : Nat),.slice (some ⟨x14.heap.size,0,none⟩) 2 2] x16 (OverP F b cap n (kerM F n A ++ kerM F n B) x16):=over2x hSM.fld hn HKL.out.1 HKL.out.2 HKM.out.1 HKM.out.2 (HMM7.out.below HB16.out) (HMM14.out.below HB16.out) HC16.out.1 HC16.out.2 hl16
  go_simp
  go_at_call 54
  with_reducible refine hO.mono ?_
  rintro z x17 ⟨rs17,v17,rfl,hor17,-,hlt17,hb17⟩
  have HT17 : Hid (x16.heap.size < x17.heap.size):=Lib.hid hlt17
  obtain ⟨aV17,nV17,cV17,hvs17⟩ : ∃ a m c,v17 = .slice a m c:=by obtain ⟨a,c,e⟩:=hor17.shape; exact ⟨a,_,c,e⟩
  subst hvs17
  have HB17 : Hid (Below x16.heap.size x16 x17):=Lib.hid hb17
  have HO17:=Lib.hid hor17
  clear hO hor17 hb17 hlt17
  refine hK.out _ _ ?_ (fun hHeld=>?_)
  ·(try dsimp only)
   exact SM.keep hHeld HB17.out
  clear hK K
  try simp only [Rg.gp]
  refine Rg.rd1 18 ⟨some 33,.call ⟨.value (.func 55),#[.tmp 32],#[79]⟩,79,"space.go:103",#[⟨17,.data⟩,⟨17,.chain⟩],none⟩ fun K hK=>?_
  have hSM:=hHeld.2.out
  have hSM0_18 : Hid (w1.heap.size ≤ x16.heap.size):=Lib.hid (by have:=HZ12.out; have:=HZ5.out; have:=HT6.out; have:=HK7.out.size; have:=HT13.out; have:=HK14.out.size; have:=HZ16.out; have:=HX0.out; omega)
  have ho:=HO17.out
  have hle:=Nat.le_refl x17.heap.size
  have hlo : w1.heap.size ≤ x16.heap.size:=hSM0_18.out
  have hKk : Calls Try.prog 55 #[MV F b cap n (.slice aV17 nV17 cV17)] x17 fun e w'=>∃ g' rs' v',e = .returned (MV F b cap n v') ∧ OV (kerM F n (kerM F n A ++ kerM F n B)) g' rs' n w' v' ∧ Bx (fun k=>x16.heap.size ≤ k ∧ k < x17.heap.size) x17 w':=over_kernel2 hSM.fld hn (by rw [List.length_append]; have:=HKL.out; omega) (mapp HKM.out.1 HKM.out.2) (Nat.lt_of_lt_of_le HBW.out hlo) ho (HO17.out.own.lt) (fun i hi=>(HO17.out.row i hi).lt) (by have:=HZ12.out; have:=HZ5.out; have:=HT6.out; have:=HK7.out.size; have:=HT13.out; have:=HK14.out.size; have:=HZ16.out; have:=HT17.out; have:=HX0.out; omega) hle
  go_simp
  go_at_call 55
  with_reducible refine hKk.mono ?_
  rintro z x18 ⟨g18,rsK18,vK18,rfl,hov18,hbx18⟩
  obtain ⟨aK18,cK18,hvs18⟩:=hov18.shape
  subst hvs18
  have HK18:=Lib.hid hbx18
  have HMM18:=Lib.hid hov18.mm
  have hfd18:=fun w=>field79 F.p F.e (FM F b cap) (n : Nat) aK18 (kerM F n (kerM F n A ++ kerM F n B)).length cK18 w
  clear hKk hov18 hbx18 ho hle hlo
  refine hK.out _ _ ?_ (fun hHeld=>?_)
  ·(try dsimp only)
   exact SM.bx hHeld HK18.out fun k hk=>Nat.le_trans hSM0_18.out hk.1
  clear hK K
  try simp only [Rg.gp]
  refine Rg.tk 19 ⟨some 34,.field 79 (.tmp 33) 2,30,"space.go:103",#[⟨18,.data⟩],none⟩ ?_
  try simp only [Rg.gp]
  refine Rg.tk 20 ⟨some 8,.assign (.tmp 34),30,"space.go:103",#[⟨19,.data⟩,⟨18,.chain⟩,⟨0,.phase⟩,⟨1,.phase⟩,⟨2,.phase⟩,⟨3,.phase⟩,⟨4,.phase⟩,⟨5,.phase⟩,⟨6,.phase⟩,⟨7,.phase⟩,⟨8,.phase⟩,⟨9,.phase⟩,⟨10,.phase⟩,⟨11,.phase⟩,⟨12,.phase⟩,⟨13,.phase⟩,⟨14,.phase⟩,⟨15,.phase⟩,⟨16,.phase⟩,⟨17,.phase⟩,⟨18,.phase⟩,⟨19,.phase⟩],none⟩ ?_
  try simp only [Rg.gp]
  refine wpAnyH_done (by kernel_rfl) ?_ _
  have HBF : Hid (Below W.heap.size W x18):=Lib.hid (HBW1.out.trans (hHeld.2.out.b1.mono HBW1.out.size))
  clear hHeld
  go_wp2
  go_ret
  exact ⟨aK18,cK18,rfl,HMM18.out,HBF.out⟩
end Go.Proofs.Yteeofijcndgbfaa
