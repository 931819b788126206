/- Solve: equations. -/
import Derived.Test.YteeofijcndgbfaaEvTk
import Derived.Test.YteeofijcndgbfaaSv
import Derived.Test.YteeofijcndgbfaaEvWl
namespace Go.Proofs.Yteeofijcndgbfaa
open Go.RowKit Go.Fl
set_option maxRecDepth 100000
set_option linter.unusedVariables false
set_option linter.unusedSimpArgs false
set_option linter.unusedSectionVars false
theorem OR.bxn {D : List (List Nat)} {rs : List Nat} {n base : Nat} {w w' : World} {v : Value} (h : OR D rs n base w v) {S : Nat → Prop} (hb : Bx S w w') (hr : ∀ i,i < D.length → ¬ S (rs.getD i 0)) (hv : ∀ k,v.ownBlock = some k → ¬ S k) : OR D rs n base w' v:=by
 refine ⟨⟨h.own.1,h.own.2.imp_right ?_⟩,h.len,fun i hi=>(h.row i hi).bx hb (hr i hi),h.wid,h.nd,h.lo,h.ng⟩
 rintro ⟨g,cap,cur,rfl,a2,a3,a4⟩
 have hg : g < w.heap.size:=by
  rcases Nat.lt_or_ge g w.heap.size with h | h
  ·exact h
  ·rw [Array.getElem?_eq_none h] at a3; cases a3
 exact ⟨g,cap,cur,rfl,a2,(hb.block g hg (hv g rfl)).trans a3,a4⟩
def SolP (s : Option (List Nat)) (W : World) (e : Ending) (w' : World) : Prop:=
 (s = none ∧ e = .returned (.tuple #[.slice none 0 0,.int .i64 4]) ∧ Below W.heap.size W w') ∨
 ∃ x a c,s = some x ∧ e = .returned (.tuple #[.slice a x.length c,.int .i64 0]) ∧ NN x w' (.slice a x.length c) ∧ Below W.heap.size W w'
abbrev SQ (F : Gf) (b cap B : Nat) (w1 w : World) : Prop:=FBx B F b cap w ∧ Hid (B < w1.heap.size ∧ Below w1.heap.size w1 w)
theorem SQ.go {F : Gf} {b cap B : Nat} {w1 w w' : World} (h : SQ F b cap B w1 w) (hb : Below w1.heap.size w w') : SQ F b cap B w1 w':=
 ⟨⟨(hb.cell h.2.out.1).trans h.1.1,(hb.cell h.2.out.1).trans h.1.2.1,(hb.cell h.2.out.1).trans h.1.2.2⟩,Lib.hid ⟨h.2.out.1,h.2.out.2.trans hb⟩⟩
theorem SQ.keep {F : Gf} {b cap B : Nat} {w1 w w' : World} (h : SQ F b cap B w1 w) (hb : Below w.heap.size w w') : SQ F b cap B w1 w':=h.go (hb.mono h.2.out.2.size)
theorem SQ.five {F : Gf} {b cap B : Nat} {w1 w : World} (h : SQ F b cap B w1 w) {G : Nat} (hg : w1.heap.size ≤ G) {u0 u1 u2 u3 u4 : Value} : SQ F b cap B w1 (((((w.setCell ⟨G,0,none⟩ u0).setCell ⟨G,1,none⟩ u1).setCell ⟨G,2,none⟩ u2).setCell ⟨G,3,none⟩ u3).setCell ⟨G,4,none⟩ u4):=
 h.go ((five_bx u0 u1 u2 u3 u4).below h.2.out.2.size fun k e=>by omega)
theorem colM_len (V : List Nat) : (colM V).length = V.length:=by simp [colM]
theorem colM_row {V : List Nat} {k : Nat} (hk : k < (colM V).length) : ((colM V).getD k []).length = 1:=by
 unfold colM at *
 rw [List.length_map] at hk
 rw [List.getD_eq_getElem?_getD,List.getElem?_map,List.getElem?_eq_getElem hk]; rfl
abbrev eqM (A : List (List Nat)) (V : List Nat) : List (List Nat):=besM A (colM V)
theorem besM_get {A B : List (List Nat)} {k : Nat} (hk : k < A.length) (hb : k < B.length) : (besM A B).getD k [] = A.getD k [] ++ B.getD k []:=by
 unfold besM
 rw [List.getD_eq_getElem?_getD,List.getElem?_zipWith,List.getD_eq_getElem?_getD,List.getD_eq_getElem?_getD,List.getElem?_eq_getElem hk,List.getElem?_eq_getElem hb]; rfl
theorem besM_len {A B : List (List Nat)} {m : Nat} (ha : A.length = m) (hb : B.length = m) : (besM A B).length = m:=by unfold besM; rw [List.length_zipWith,ha,hb]; omega
theorem besM_mn {F : Gf} {A B : List (List Nat)} {m n k : Nat} (ha : A.length = m) (hb : B.length = m) (ma : Mn F n A) (mb : Mn F k B) : Mn F (n + k) (besM A B):=fun r hr=>by
 obtain ⟨i,hi,rfl⟩:=List.getElem_of_mem hr
 rw [besM_len ha hb] at hi
 have e : (besM A B)[i]'(by rw [besM_len ha hb]; exact hi) = (besM A B).getD i []:=by rw [List.getD_eq_getElem?_getD,List.getElem?_eq_getElem (by rw [besM_len ha hb]; exact hi)]; rfl
 rw [e,besM_get (by omega) (by omega)]
 have h1:=mrow ma (k:=i) (by omega)
 have h2:=mrow mb (k:=i) (by omega)
 refine ⟨by rw [List.length_append,h1.len,h2.len],fun x hx=>?_⟩
 rcases List.mem_append.1 hx with hx | hx
 ·exact h1.el x hx
 ·exact h2.el x hx
theorem besM_cut {F : Gf} {A B : List (List Nat)} {m n : Nat} (ha : A.length = m) (hb : B.length = m) (ma : Mn F n A) : ((besM A B).map Go.Fl.fn).map (cut n) = A.map Go.Fl.fn:=by
 rw [List.map_map]
 apply List.ext_getElem (by rw [List.length_map,List.length_map,besM_len ha hb,ha])
 intro i h1 h2
 rw [List.length_map] at h2
 rw [List.getElem_map,List.getElem_map]
 have e : (besM A B)[i]'(by rw [besM_len ha hb]; omega) = (besM A B).getD i []:=by rw [List.getD_eq_getElem?_getD,List.getElem?_eq_getElem (by rw [besM_len ha hb]; omega)]; rfl
 have e2 : A[i] = A.getD i []:=by rw [List.getD_eq_getElem?_getD,List.getElem?_eq_getElem h2]; rfl
 show cut n (Go.Fl.fn _) = _
 rw [e,besM_get (by omega) (by omega),e2,cut_app (mrow ma (by omega)).len]
theorem colM_mn {F : Gf} {V : List Nat} (h : In F V) : Mn F 1 (colM V):=fun r hr=>by
 obtain ⟨c,hc,rfl⟩:=List.mem_map.1 hr
 exact ⟨rfl,fun x hx=>by rw [List.mem_singleton] at hx; subst hx; exact h _ hc⟩
set_option maxHeartbeats 6400000 in
theorem solve_c {F : Gf} {b cap n m ca cb : Nat} {A : List (List Nat)} {V : List Nat} {aa ab : Option Addr} {W : World} (hA : FldAt F b cap W) (h1 : 1 ≤ n) (hn : n ≤ 24) (hm : m ≤ 500) (la : A.length = m) (ma : Mn F n A) (mv : Vn F m V) (na : MM A W (.slice aa m ca)) (nv : NN V W (.slice ab m cb)) :
  Calls Try.prog 58 #[FV F b cap,.int .i64 (n : Nat),.slice aa m ca,.slice ab m cb] W (SolP (solM F n (eqM A V)) W):=by
 obtain ⟨i0,hi,hz0,hz1,hz2⟩:=info_parts info3
 have HFF : Hid (Ok F):=Lib.hid (ok_mem hA.mem)
 obtain ⟨k,hk⟩ : ∃ k,Hid ((if m = 0 then 0 else n + 1) = k):=⟨_,Lib.hid rfl⟩
 obtain ⟨T,hT⟩ : ∃ T,Hid (eqM A V = T):=⟨_,Lib.hid rfl⟩
 have HTM : Hid (Mn F (n + 1) T):=Lib.hid (by rw [← hT.out]; exact besM_mn la (by rw [colM_len,mv.len]) ma (colM_mn mv.el))
 have HTL : Hid (T.length = m):=Lib.hid (by rw [← hT.out]; exact besM_len la (by rw [colM_len,mv.len]))
 obtain ⟨w0,hw0⟩ : ∃ w1,w1 = W.alloc (.cells #[.int .i64 F.p,.int .i64 F.e,FM F b cap] 29):=⟨_,rfl⟩
 have HAL : Hid (Below W.heap.size W w0):=Lib.hid (by rw [hw0]; exact (Below.refl _ _).alloc (Nat.le_refl _) _)
 have HS1 : Hid (w0.heap.size = W.heap.size + 1):=Lib.hid (by rw [hw0]; simp)
 have HFB : Hid (FBx W.heap.size F b cap w0):=Lib.hid (by rw [hw0]; exact FBx.new W F b cap)
 have HF0:=Lib.hid (hA.below HAL.out)
 have HNA:=Lib.hid (na.below HAL.out)
 have HW : Hid (Calls Try.prog 49 #[.int .i64 (n : Nat),.slice (some ⟨W.heap.size + 1,0,none⟩) 1 1] (w0.alloc (.cells #[.slice aa m ca] 30)) fun e w'=>e = .returned (.bool true) ∧ Below (w0.alloc (.cells #[.slice aa m ca] 30)).heap.size (w0.alloc (.cells #[.slice aa m ca] 30)) w'):=Lib.hid (by
  have t:=have1 (c:=ca) (a:=aa) hn (by rw [la]; exact hm) ma (by rw [la]; exact HNA.out)
  rw [la,HS1.out,show decide (1 ≤ n) = true from by simpa using h1] at t; exact t)
 have HMA:=Lib.hid ma
 have HMV:=Lib.hid mv
 have HLA:=Lib.hid la
 have HNV:=Lib.hid (nv.below HAL.out)
 have HW0:=Lib.hid hw0
 rw [hT.out]
 clear hA ma mv na nv hw0 la
 go_enter Try.func58,Try.ntmps58
 go_wp2_with fail
 rw [← HW0.out]
 clear HW0
 with_reducible refine HW.out.mono ?_
 rintro z w1 ⟨rfl,hb⟩
 have HB1 : Hid (Below w0.heap.size w0 w1):=Lib.hid ((((Below.refl _ _).alloc (Nat.le_refl _) _)).trans (hb.mono (by simp)))
 have HBW1 : Hid (Below W.heap.size W w1):=Lib.hid (HAL.out.trans (HB1.out.mono HAL.out.size))
 have HF1:=Lib.hid (HF0.out.below HB1.out)
 have HNA1:=Lib.hid (HNA.out.below HB1.out)
 have HNV1:=Lib.hid (HNV.out.below HB1.out)
 have HSW : Hid (W.heap.size < w1.heap.size):=Lib.hid (by have:=HB1.out.size; have:=HS1.out; omega)
 have hfb:=HFB.out.below HB1.out (by have:=HS1.out; omega)
 have hS0 : SQ F b cap W.heap.size w1 w1.drew:=⟨hfb,Lib.hid ⟨HSW.out,(Below.refl _ _).drew⟩⟩
 clear hb HW HF0 HNA HNV HFB hfb
 go_wp2_with fail
 go_cut [10] (fun v wx=>∃ G rs v0,v = .pointer (some ⟨G,0,none⟩) ∧ Hid (w1.heap.size ≤ G ∧ (∀ i,i < T.length → rs.getD i 0 ≠ G) ∧ v0.ownBlock ≠ some G) ∧ Hid (BX G F b cap k v0 wx) ∧ Hid (OR T rs (n + 1) w1.heap.size wx v0) ∧ Hid (T = [] → v0 = .slice none 0 0) ∧ Hid (Below w1.heap.size w1 wx))
 case first =>
  refine wp_region_held_drew (S:=fun w'=>SQ F b cap W.heap.size w1 w') (by kernel_rfl) (by with_reducible exact hS0) (fun hHeld=>?_)
  obtain ⟨x0,hx0⟩ : ∃ x,x = w1.drew:=⟨_,rfl⟩
  rw [← hx0] at hHeld ⊢
  have HX0 : Hid (x0.heap.size = w1.heap.size):=Lib.hid (by rw [hx0]; rfl)
  clear hx0 hS0
  refine Rg.tk 0 ⟨some 29,.load 29 (.tmp 4),29,"space.go:56",#[],none⟩ ?_
  try simp only [Rg.gp]
  refine Rg.tk 1 ⟨some 30,.move (.tmp 2),30,"space.go:56",#[],none⟩ ?_
  try simp only [Rg.gp]
  refine Rg.tk 2 ⟨some 31,.move (.tmp 3),27,"space.go:56",#[],none⟩ ?_
  try simp only [Rg.gp]
  refine wpAnyH_ready (rs:=[3,5]) (by kernel_rfl) (by simp) ?_
  refine (AllReadyH.cons (o:=⟨some 32,.call ⟨.value (.func 81),#[.tmp 31],#[27]⟩,30,"space.go:56",#[⟨2,.data⟩],none⟩) rfl (fun K hK=>?_) (AllReadyH.cons (o:=⟨some 10,.alloc 79,0,"space.go:56",#[],none⟩) rfl (fun K hK=>?_) AllReadyH.nil))
  ·have hO : Calls Try.prog 81 #[.slice ab m cb] x0 (RPost (colM V) 1 x0):=single_c HMV.out.len hm (HNV1.out.below hHeld.2.out.2)
   go_simp
   go_at_call 81
   with_reducible refine hO.mono ?_
   rintro z x3 ⟨rs3,v3,rfl,hor3,hb3⟩
   obtain ⟨a3,c3,hvs3⟩:=hor3.shape
   rw [colM_len,HMV.out.len] at hvs3
   subst hvs3
   have HMM3 : Hid (MM (colM V) x3 (.slice a3 m c3)):=Lib.hid (by obtain ⟨g,h,-⟩:=hor3.ov; exact h.mm)
   have HB3 : Hid (Below x0.heap.size x0 x3):=Lib.hid hb3
   clear hO hor3 hb3
   refine hK.out _ _ ?_ (fun hHeld=>?_)
   ·(try dsimp only)
    exact SQ.keep hHeld HB3.out
   clear hK K
   try simp only [Rg.gp]
   refine wpAnyH_ready (rs:=[4,5]) (by kernel_rfl) (by simp) ?_
   refine (AllReadyH.cons (o:=⟨some 33,.call ⟨.value (.func 80),#[.tmp 29,.tmp 30,.tmp 32],#[29,30,30]⟩,79,"space.go:56",#[⟨0,.data⟩,⟨1,.data⟩,⟨3,.data⟩,⟨3,.chain⟩],none⟩) rfl (fun K hK=>?_) (AllReadyH.cons (o:=⟨some 10,.alloc 79,0,"space.go:56",#[],none⟩) rfl (fun K hK=>?_) AllReadyH.nil))
   ·have hmm:=HMM3.out
    have hO:=beside_c (n1:=n) (n2:=1) (ca:=ca) (cb:=c3) (HF1.out.below hHeld.2.out.2) hm (by omega) (by omega) (Nat.le_refl _) HLA.out (by rw [colM_len,HMV.out.len]) (fun k hk=>(mrow HMA.out hk).len) (fun k hk=>colM_row hk) (HNA1.out.below hHeld.2.out.2) hmm
    rw [hk.out,show besM A (colM V) = T from hT.out] at hO
    go_simp
    go_at_call 80
    with_reducible refine hO.mono ?_
    rintro z x4 ⟨rs4,v4,rfl,hor4,hnil4,hlt4,hb4⟩
    obtain ⟨aV,nV,cV,hvs⟩ : ∃ a m c,v4 = .slice a m c:=by obtain ⟨a,c,e⟩:=hor4.shape; exact ⟨a,_,c,e⟩
    subst hvs
    have HB4 : Hid (Below x3.heap.size x3 x4):=Lib.hid hb4
    have HO4:=Lib.hid hor4
    have HN4:=Lib.hid hnil4
    clear hO hor4 hb4 hmm hnil4 hlt4
    refine hK.out _ _ ?_ (fun hHeld=>?_)
    ·(try dsimp only)
     exact SQ.keep hHeld HB4.out
    clear hK K
    try simp only [Rg.gp]
    refine Rg.rd1 5 ⟨some 10,.alloc 79,0,"space.go:56",#[],none⟩ fun K hK=>?_
    go_simp
    refine hK.out _ _ ?_ (fun hHeld=>?_)
    ·(try dsimp only)
     exact SQ.keep hHeld ((Below.refl _ _).alloc (Nat.le_refl _) _)
    clear hK K
    try simp only [Rg.gp]
    obtain ⟨x5,hw5⟩ : ∃ x,x = (x4.alloc (.cells #[.int .i64 0,.int .i64 0,.slice none 0 0,.int .i64 0,.slice none 0 0] 79)):=⟨_,rfl⟩
    have HB5 : Hid (Below x4.heap.size x4 x5):=Lib.hid (by rw [hw5]; exact (Below.refl _ _).alloc (Nat.le_refl _) _)
    have HRZ5 : Hid (RZ x4.heap.size x5):=Lib.hid (by rw [hw5]; exact ⟨⟨World.cell?_alloc_at _ _ _ _ rfl,World.cell?_alloc_at _ _ _ _ rfl,World.cell?_alloc_at _ _ _ _ rfl,World.cell?_alloc_at _ _ _ _ rfl,World.cell?_alloc_at _ _ _ _ rfl⟩,fun t=>World.frozen?_alloc_at _ _ _ _ rfl,by simp⟩)
    have HK5 : Hid (w1.heap.size ≤ x4.heap.size):=Lib.hid (by have t:=HX0.out; have:=HB3.out.size; have:=HB4.out.size; omega)
    rw [← hw5] at hHeld ⊢
    clear hw5
    refine Rg.rd1 6 ⟨none,.store 79 (.tmp 10) (.tmp 33),0,"space.go:56",#[⟨5,.data⟩,⟨4,.data⟩,⟨4,.chain⟩,⟨0,.phase⟩,⟨1,.phase⟩,⟨2,.phase⟩,⟨3,.phase⟩,⟨4,.phase⟩,⟨5,.phase⟩],none⟩ fun K hK=>?_
    have hz:=HRZ5.out
    have HRZ:=Lib.hid hz
    obtain ⟨⟨r0,r1,r2,r3,r4⟩,rf,rl⟩:=hz
    have g0:=rf 0
    have g1:=rf 1
    have g2:=rf 2
    have g3:=rf 3
    have g4:=rf 4
    have HS10:=hHeld
    clear rf rl
    go_simp
    refine hK.out _ _ ?_ (fun hHeld=>?_)
    ·(try dsimp only)
     exact SQ.five HS10 HK5.out
    clear hK K
    try simp only [Rg.gp]
    have HFIN : Hid (BX x4.heap.size F b cap k (.slice aV nV cV) (((((x5.setCell ⟨x4.heap.size,0,none⟩ (.int .i64 F.p)).setCell ⟨x4.heap.size,1,none⟩ (.int .i64 F.e)).setCell ⟨x4.heap.size,2,none⟩ (FM F b cap)).setCell ⟨x4.heap.size,3,none⟩ (.int .i64 (k : Nat))).setCell ⟨x4.heap.size,4,none⟩ (.slice aV nV cV))):=Lib.hid (RZ.five HRZ.out F b cap (k:=k) (.slice aV nV cV) rfl)
    have HFB : Hid (Below w1.heap.size w1 (((((x5.setCell ⟨x4.heap.size,0,none⟩ (.int .i64 F.p)).setCell ⟨x4.heap.size,1,none⟩ (.int .i64 F.e)).setCell ⟨x4.heap.size,2,none⟩ (FM F b cap)).setCell ⟨x4.heap.size,3,none⟩ (.int .i64 (k : Nat))).setCell ⟨x4.heap.size,4,none⟩ (.slice aV nV cV))):=Lib.hid hHeld.2.out.2
    have HGG : Hid (w1.heap.size ≤ x4.heap.size ∧ (∀ i,i < T.length → rs4.getD i 0 ≠ x4.heap.size) ∧ (Value.slice aV nV cV).ownBlock ≠ some x4.heap.size):=Lib.hid ⟨HK5.out,(HO4.out.fresh (Nat.le_refl _)).1,(HO4.out.fresh (Nat.le_refl _)).2⟩
    have ho:=HO4.out.bx (S:=fun _=>False) (Bx.of HB5.out) fun _ _=>id
    have HOF : Hid (OR T rs4 (n + 1) w1.heap.size (((((x5.setCell ⟨x4.heap.size,0,none⟩ (.int .i64 F.p)).setCell ⟨x4.heap.size,1,none⟩ (.int .i64 F.e)).setCell ⟨x4.heap.size,2,none⟩ (FM F b cap)).setCell ⟨x4.heap.size,3,none⟩ (.int .i64 (k : Nat))).setCell ⟨x4.heap.size,4,none⟩ (.slice aV nV cV)) (.slice aV nV cV)):=Lib.hid ((ho.bxn (five_bx (B:=x4.heap.size) _ _ _ _ _) (fun i hi=>HGG.out.2.1 i hi) (fun j hj e=>HGG.out.2.2 (by rw [hj,e]))).weak (by have t:=HX0.out; have:=HB3.out.size; omega))
    clear ho
    generalize (((((x5.setCell ⟨x4.heap.size,0,none⟩ (.int .i64 F.p)).setCell ⟨x4.heap.size,1,none⟩ (.int .i64 F.e)).setCell ⟨x4.heap.size,2,none⟩ (FM F b cap)).setCell ⟨x4.heap.size,3,none⟩ (.int .i64 (k : Nat))).setCell ⟨x4.heap.size,4,none⟩ (.slice aV nV cV)) = x6 at *
    refine wpAnyH_done (by kernel_rfl) ?_ _
    clear hHeld HS10 HRZ HRZ5 r0 r1 r2 r3 r4 g0 g1 g2 g3 g4
    go_wp2_with fail
    go_meet
    case rel=>exact ⟨x4.heap.size,rs4,_,rfl,HGG,HFIN,HOF,HN4,HFB⟩
   ·go_simp
    refine hK.out _ _ ?_ (fun hHeld=>?_)
    ·(try dsimp only)
     exact SQ.keep hHeld ((Below.refl _ _).alloc (Nat.le_refl _) _)
    clear hK K
    try simp only [Rg.gp]
    obtain ⟨x5,hw5⟩ : ∃ x,x = (x3.alloc (.cells #[.int .i64 0,.int .i64 0,.slice none 0 0,.int .i64 0,.slice none 0 0] 79)):=⟨_,rfl⟩
    have HB5 : Hid (Below x3.heap.size x3 x5):=Lib.hid (by rw [hw5]; exact (Below.refl _ _).alloc (Nat.le_refl _) _)
    have HRZ5 : Hid (RZ x3.heap.size x5):=Lib.hid (by rw [hw5]; exact ⟨⟨World.cell?_alloc_at _ _ _ _ rfl,World.cell?_alloc_at _ _ _ _ rfl,World.cell?_alloc_at _ _ _ _ rfl,World.cell?_alloc_at _ _ _ _ rfl,World.cell?_alloc_at _ _ _ _ rfl⟩,fun t=>World.frozen?_alloc_at _ _ _ _ rfl,by simp⟩)
    have HK5 : Hid (w1.heap.size ≤ x3.heap.size):=Lib.hid (by have t:=HX0.out; have:=HB3.out.size; omega)
    rw [← hw5] at hHeld ⊢
    clear hw5
    refine Rg.rd1 4 ⟨some 33,.call ⟨.value (.func 80),#[.tmp 29,.tmp 30,.tmp 32],#[29,30,30]⟩,79,"space.go:56",#[⟨0,.data⟩,⟨1,.data⟩,⟨3,.data⟩,⟨3,.chain⟩],none⟩ fun K hK=>?_
    have hmm:=HMM3.out
    have hmm:=hmm.below HB5.out
    have hO:=beside_c (n1:=n) (n2:=1) (ca:=ca) (cb:=c3) (HF1.out.below hHeld.2.out.2) hm (by omega) (by omega) (Nat.le_refl _) HLA.out (by rw [colM_len,HMV.out.len]) (fun k hk=>(mrow HMA.out hk).len) (fun k hk=>colM_row hk) (HNA1.out.below hHeld.2.out.2) hmm
    rw [hk.out,show besM A (colM V) = T from hT.out] at hO
    go_simp
    go_at_call 80
    with_reducible refine hO.mono ?_
    rintro z x4 ⟨rs4,v4,rfl,hor4,hnil4,hlt4,hb4⟩
    obtain ⟨aV,nV,cV,hvs⟩ : ∃ a m c,v4 = .slice a m c:=by obtain ⟨a,c,e⟩:=hor4.shape; exact ⟨a,_,c,e⟩
    subst hvs
    have HB4 : Hid (Below x5.heap.size x5 x4):=Lib.hid hb4
    have HO4:=Lib.hid hor4
    have HN4:=Lib.hid hnil4
    clear hO hor4 hb4 hmm hnil4 hlt4
    refine hK.out _ _ ?_ (fun hHeld=>?_)
    ·(try dsimp only)
     exact SQ.keep hHeld HB4.out
    clear hK K
    try simp only [Rg.gp]
    refine Rg.rd1 6 ⟨none,.store 79 (.tmp 10) (.tmp 33),0,"space.go:56",#[⟨5,.data⟩,⟨4,.data⟩,⟨4,.chain⟩,⟨0,.phase⟩,⟨1,.phase⟩,⟨2,.phase⟩,⟨3,.phase⟩,⟨4,.phase⟩,⟨5,.phase⟩],none⟩ fun K hK=>?_
    have hz:=HRZ5.out
    have hz:=hz.bx (S:=fun _=>False) (Bx.of HB4.out) id
    have HRZ:=Lib.hid hz
    obtain ⟨⟨r0,r1,r2,r3,r4⟩,rf,rl⟩:=hz
    have g0:=rf 0
    have g1:=rf 1
    have g2:=rf 2
    have g3:=rf 3
    have g4:=rf 4
    have HS10:=hHeld
    clear rf rl
    go_simp
    refine hK.out _ _ ?_ (fun hHeld=>?_)
    ·(try dsimp only)
     exact SQ.five HS10 HK5.out
    clear hK K
    try simp only [Rg.gp]
    have HFIN : Hid (BX x3.heap.size F b cap k (.slice aV nV cV) (((((x4.setCell ⟨x3.heap.size,0,none⟩ (.int .i64 F.p)).setCell ⟨x3.heap.size,1,none⟩ (.int .i64 F.e)).setCell ⟨x3.heap.size,2,none⟩ (FM F b cap)).setCell ⟨x3.heap.size,3,none⟩ (.int .i64 (k : Nat))).setCell ⟨x3.heap.size,4,none⟩ (.slice aV nV cV))):=Lib.hid (RZ.five HRZ.out F b cap (k:=k) (.slice aV nV cV) rfl)
    have HFB : Hid (Below w1.heap.size w1 (((((x4.setCell ⟨x3.heap.size,0,none⟩ (.int .i64 F.p)).setCell ⟨x3.heap.size,1,none⟩ (.int .i64 F.e)).setCell ⟨x3.heap.size,2,none⟩ (FM F b cap)).setCell ⟨x3.heap.size,3,none⟩ (.int .i64 (k : Nat))).setCell ⟨x3.heap.size,4,none⟩ (.slice aV nV cV))):=Lib.hid hHeld.2.out.2
    have HGG : Hid (w1.heap.size ≤ x3.heap.size ∧ (∀ i,i < T.length → rs4.getD i 0 ≠ x3.heap.size) ∧ (Value.slice aV nV cV).ownBlock ≠ some x3.heap.size):=Lib.hid ⟨HK5.out,fun i hi e=>by have:=HO4.out.lo i hi; have:=HRZ5.out.2.2; omega,fun e=>by have:=(HO4.out.own.lt _ e).1; have:=HRZ5.out.2.2; omega⟩
    have ho:=HO4.out
    have HOF : Hid (OR T rs4 (n + 1) w1.heap.size (((((x4.setCell ⟨x3.heap.size,0,none⟩ (.int .i64 F.p)).setCell ⟨x3.heap.size,1,none⟩ (.int .i64 F.e)).setCell ⟨x3.heap.size,2,none⟩ (FM F b cap)).setCell ⟨x3.heap.size,3,none⟩ (.int .i64 (k : Nat))).setCell ⟨x3.heap.size,4,none⟩ (.slice aV nV cV)) (.slice aV nV cV)):=Lib.hid ((ho.bxn (five_bx (B:=x3.heap.size) _ _ _ _ _) (fun i hi=>HGG.out.2.1 i hi) (fun j hj e=>HGG.out.2.2 (by rw [hj,e]))).weak (by have t:=HX0.out; have:=HB3.out.size; have:=HB5.out.size; omega))
    clear ho
    generalize (((((x4.setCell ⟨x3.heap.size,0,none⟩ (.int .i64 F.p)).setCell ⟨x3.heap.size,1,none⟩ (.int .i64 F.e)).setCell ⟨x3.heap.size,2,none⟩ (FM F b cap)).setCell ⟨x3.heap.size,3,none⟩ (.int .i64 (k : Nat))).setCell ⟨x3.heap.size,4,none⟩ (.slice aV nV cV)) = x6 at *
    refine wpAnyH_done (by kernel_rfl) ?_ _
    clear hHeld HS10 HRZ HRZ5 r0 r1 r2 r3 r4 g0 g1 g2 g3 g4
    go_wp2_with fail
    go_meet
    case rel=>exact ⟨x3.heap.size,rs4,_,rfl,HGG,HFIN,HOF,HN4,HFB⟩
  ·go_simp
   refine hK.out _ _ ?_ (fun hHeld=>?_)
   ·(try dsimp only)
    exact SQ.keep hHeld ((Below.refl _ _).alloc (Nat.le_refl _) _)
   clear hK K
   try simp only [Rg.gp]
   obtain ⟨x5,hw5⟩ : ∃ x,x = (x0.alloc (.cells #[.int .i64 0,.int .i64 0,.slice none 0 0,.int .i64 0,.slice none 0 0] 79)):=⟨_,rfl⟩
   have HB5 : Hid (Below x0.heap.size x0 x5):=Lib.hid (by rw [hw5]; exact (Below.refl _ _).alloc (Nat.le_refl _) _)
   have HRZ5 : Hid (RZ x0.heap.size x5):=Lib.hid (by rw [hw5]; exact ⟨⟨World.cell?_alloc_at _ _ _ _ rfl,World.cell?_alloc_at _ _ _ _ rfl,World.cell?_alloc_at _ _ _ _ rfl,World.cell?_alloc_at _ _ _ _ rfl,World.cell?_alloc_at _ _ _ _ rfl⟩,fun t=>World.frozen?_alloc_at _ _ _ _ rfl,by simp⟩)
   have HK5 : Hid (w1.heap.size ≤ x0.heap.size):=Lib.hid (by have t:=HX0.out; omega)
   rw [← hw5] at hHeld ⊢
   clear hw5
   refine Rg.rd1 3 ⟨some 32,.call ⟨.value (.func 81),#[.tmp 31],#[27]⟩,30,"space.go:56",#[⟨2,.data⟩],none⟩ fun K hK=>?_
   have hO : Calls Try.prog 81 #[.slice ab m cb] x5 (RPost (colM V) 1 x5):=single_c HMV.out.len hm (HNV1.out.below hHeld.2.out.2)
   go_simp
   go_at_call 81
   with_reducible refine hO.mono ?_
   rintro z x3 ⟨rs3,v3,rfl,hor3,hb3⟩
   obtain ⟨a3,c3,hvs3⟩:=hor3.shape
   rw [colM_len,HMV.out.len] at hvs3
   subst hvs3
   have HMM3 : Hid (MM (colM V) x3 (.slice a3 m c3)):=Lib.hid (by obtain ⟨g,h,-⟩:=hor3.ov; exact h.mm)
   have HB3 : Hid (Below x5.heap.size x5 x3):=Lib.hid hb3
   clear hO hor3 hb3
   refine hK.out _ _ ?_ (fun hHeld=>?_)
   ·(try dsimp only)
    exact SQ.keep hHeld HB3.out
   clear hK K
   try simp only [Rg.gp]
   refine Rg.rd1 4 ⟨some 33,.call ⟨.value (.func 80),#[.tmp 29,.tmp 30,.tmp 32],#[29,30,30]⟩,79,"space.go:56",#[⟨0,.data⟩,⟨1,.data⟩,⟨3,.data⟩,⟨3,.chain⟩],none⟩ fun K hK=>?_
   have hmm:=HMM3.out
   have hO:=beside_c (n1:=n) (n2:=1) (ca:=ca) (cb:=c3) (HF1.out.below hHeld.2.out.2) hm (by omega) (by omega) (Nat.le_refl _) HLA.out (by rw [colM_len,HMV.out.len]) (fun k hk=>(mrow HMA.out hk).len) (fun k hk=>colM_row hk) (HNA1.out.below hHeld.2.out.2) hmm
   rw [hk.out,show besM A (colM V) = T from hT.out] at hO
   go_simp
   go_at_call 80
   with_reducible refine hO.mono ?_
   rintro z x4 ⟨rs4,v4,rfl,hor4,hnil4,hlt4,hb4⟩
   obtain ⟨aV,nV,cV,hvs⟩ : ∃ a m c,v4 = .slice a m c:=by obtain ⟨a,c,e⟩:=hor4.shape; exact ⟨a,_,c,e⟩
   subst hvs
   have HB4 : Hid (Below x3.heap.size x3 x4):=Lib.hid hb4
   have HO4:=Lib.hid hor4
   have HN4:=Lib.hid hnil4
   clear hO hor4 hb4 hmm hnil4 hlt4
   refine hK.out _ _ ?_ (fun hHeld=>?_)
   ·(try dsimp only)
    exact SQ.keep hHeld HB4.out
   clear hK K
   try simp only [Rg.gp]
   refine Rg.rd1 6 ⟨none,.store 79 (.tmp 10) (.tmp 33),0,"space.go:56",#[⟨5,.data⟩,⟨4,.data⟩,⟨4,.chain⟩,⟨0,.phase⟩,⟨1,.phase⟩,⟨2,.phase⟩,⟨3,.phase⟩,⟨4,.phase⟩,⟨5,.phase⟩],none⟩ fun K hK=>?_
   have hz:=HRZ5.out
   have hz:=hz.bx (S:=fun _=>False) (Bx.of HB3.out) id
   have hz:=hz.bx (S:=fun _=>False) (Bx.of HB4.out) id
   have HRZ:=Lib.hid hz
   obtain ⟨⟨r0,r1,r2,r3,r4⟩,rf,rl⟩:=hz
   have g0:=rf 0
   have g1:=rf 1
   have g2:=rf 2
   have g3:=rf 3
   have g4:=rf 4
   have HS10:=hHeld
   clear rf rl
   go_simp
   refine hK.out _ _ ?_ (fun hHeld=>?_)
   ·(try dsimp only)
    exact SQ.five HS10 HK5.out
   clear hK K
   try simp only [Rg.gp]
   have HFIN : Hid (BX x0.heap.size F b cap k (.slice aV nV cV) (((((x4.setCell ⟨x0.heap.size,0,none⟩ (.int .i64 F.p)).setCell ⟨x0.heap.size,1,none⟩ (.int .i64 F.e)).setCell ⟨x0.heap.size,2,none⟩ (FM F b cap)).setCell ⟨x0.heap.size,3,none⟩ (.int .i64 (k : Nat))).setCell ⟨x0.heap.size,4,none⟩ (.slice aV nV cV))):=Lib.hid (RZ.five HRZ.out F b cap (k:=k) (.slice aV nV cV) rfl)
   have HFB : Hid (Below w1.heap.size w1 (((((x4.setCell ⟨x0.heap.size,0,none⟩ (.int .i64 F.p)).setCell ⟨x0.heap.size,1,none⟩ (.int .i64 F.e)).setCell ⟨x0.heap.size,2,none⟩ (FM F b cap)).setCell ⟨x0.heap.size,3,none⟩ (.int .i64 (k : Nat))).setCell ⟨x0.heap.size,4,none⟩ (.slice aV nV cV))):=Lib.hid hHeld.2.out.2
   have HGG : Hid (w1.heap.size ≤ x0.heap.size ∧ (∀ i,i < T.length → rs4.getD i 0 ≠ x0.heap.size) ∧ (Value.slice aV nV cV).ownBlock ≠ some x0.heap.size):=Lib.hid ⟨HK5.out,fun i hi e=>by have:=HO4.out.lo i hi; have:=HRZ5.out.2.2; have:=HB3.out.size; omega,fun e=>by have:=(HO4.out.own.lt _ e).1; have:=HRZ5.out.2.2; have:=HB3.out.size; omega⟩
   have ho:=HO4.out
   have HOF : Hid (OR T rs4 (n + 1) w1.heap.size (((((x4.setCell ⟨x0.heap.size,0,none⟩ (.int .i64 F.p)).setCell ⟨x0.heap.size,1,none⟩ (.int .i64 F.e)).setCell ⟨x0.heap.size,2,none⟩ (FM F b cap)).setCell ⟨x0.heap.size,3,none⟩ (.int .i64 (k : Nat))).setCell ⟨x0.heap.size,4,none⟩ (.slice aV nV cV)) (.slice aV nV cV)):=Lib.hid ((ho.bxn (five_bx (B:=x0.heap.size) _ _ _ _ _) (fun i hi=>HGG.out.2.1 i hi) (fun j hj e=>HGG.out.2.2 (by rw [hj,e]))).weak (by have t:=HX0.out; have:=HB5.out.size; have:=HB3.out.size; omega))
   clear ho
   generalize (((((x4.setCell ⟨x0.heap.size,0,none⟩ (.int .i64 F.p)).setCell ⟨x0.heap.size,1,none⟩ (.int .i64 F.e)).setCell ⟨x0.heap.size,2,none⟩ (FM F b cap)).setCell ⟨x0.heap.size,3,none⟩ (.int .i64 (k : Nat))).setCell ⟨x0.heap.size,4,none⟩ (.slice aV nV cV)) = x6 at *
   refine wpAnyH_done (by kernel_rfl) ?_ _
   clear hHeld HS10 HRZ HRZ5 r0 r1 r2 r3 r4 g0 g1 g2 g3 g4
   go_wp2_with fail
   go_meet
   case rel=>exact ⟨x0.heap.size,rs4,_,rfl,HGG,HFIN,HOF,HN4,HFB⟩
 case rest =>
  obtain ⟨G,rs,v0,rfl,HG,HBX,HOR,HNL,HBW⟩:=hcut
  obtain ⟨w2,hwc⟩ : ∃ w2,w2 = wc:=⟨_,rfl⟩
  subst hwc
  have HF2:=Lib.hid (HF1.out.below HBW.out)
  have HBW2 : Hid (Below W.heap.size W w2):=Lib.hid (HBW1.out.trans (HBW.out.mono HBW1.out.size))
  have HBb : Hid (b < w1.heap.size):=Lib.hid HF1.out.lt
  obtain ⟨⟨x0,x1,x2,x3,x4⟩,-,-⟩:=HBX.out
  by_cases hm0 : m = 0
  ·have HTN : Hid (T = []):=Lib.hid (List.eq_nil_of_length_eq_zero (by rw [HTL.out]; exact hm0))
   obtain rfl:=HNL.out HTN.out
   have HRS : Hid (solM F n T = some (List.replicate n 0)):=Lib.hid (by rw [HTN.out]; show some (sxK [] n 0) = _; rw [sxK_zero])
   have HSW2 : Hid (Calls Try.prog 82 #[MV F b cap k (.slice none 0 0),.int .i64 (n : Nat)] w2 fun e w'=>e = .returned (.slice none 0 0) ∧ Below w2.heap.size w2 w'):=Lib.hid (sweep_nil (by omega))
   go_wp2_with fail
   with_reducible refine HSW2.out.mono ?_
   rintro z w3 ⟨rfl,hb3⟩
   obtain ⟨⟨x0,x1,x2,x3,x4⟩,-,-⟩:=HBX.out.bx (S:=fun _=>False) (Bx.of hb3) id
   have HB3 : Hid (Below W.heap.size W w3):=Lib.hid (HBW2.out.trans (hb3.mono HBW2.out.size))
   clear hb3
   go_wp2
   go_loopw [43] (fun i wr=>i = .int .i64 0 ∧ wr = w3) (fun i _=>0)
   case atStart=>exact ⟨rfl,rfl⟩
   case round =>
    obtain ⟨rfl,rfl⟩:=hrel
    go_wp2_with (refine wpList_make_full _ rfl _ _ 27 rfl 0 3 i0 (.int .i64 0) 1 Try.underlying27 hi hz0 hz1 .i64 .i64 (n : Int) (n : Int) n rfl rfl rfl rfl (by rw [hz2]; omega) (by unfold maxLen; omega) (Nat.zero_le _) ?_)
    intro w4 hown hgrow
    obtain ⟨wq,hwq⟩ : ∃ q,wr.heap.size = q:=⟨_,rfl⟩
    have HROW : Hid (Row (List.replicate n 0) wq w4):=Lib.hid (Row.of_own (n:=n) (base:=0) (by
     have e:=toList_madeCells_one (Value.int .i64 0) n
     rw [List.map_replicate,show N64 0 = Value.int .i64 0 from rfl,← e]
     (try rw [hwq] at hown); simpa using hown) (by simp))
    have HBF : Hid (Below W.heap.size W w4):=Lib.hid (HB3.out.trans ((Below.refl _ _).grown hgrow HB3.out.size (fun k hk=>by cases hk)))
    (try rw [hwq])
    clear hown hgrow hwq
    go_wp2
    go_loopw [57] (fun i wr=>i = .int .i64 0 ∧ wr = w4) (fun i _=>0)
    case atStart=>exact ⟨rfl,rfl⟩
    case round =>
     obtain ⟨rfl,rfl⟩:=hrel
     go_wp2
     refine bodyPost_ret (v:=.tuple #[.slice (some ⟨wq,0,none⟩) n n,.int .i64 0]) (by simp [results,Try.results58,go_sem]) rfl ?_
     exact .inr ⟨List.replicate n 0,some ⟨wq,0,none⟩,n,HRS.out,by rw [List.length_replicate],by have:=HROW.out.nn; simpa using this,HBF.out⟩
  ·have HK : Hid (k = n + 1):=Lib.hid (by rw [← hk.out,if_neg hm0])
   have HMP : Hid (0 < m):=Lib.hid (by omega)
   obtain ⟨g,hov,hg⟩:=HOR.out.ov
   rcases hov with ⟨e1,-⟩ | ⟨c,hve,hc,hom⟩
   ·have:=HTL.out; rw [e1] at this; simp at this; omega
   rw [HTL.out] at hve hc
   subst hve
   have HGL : Hid (w1.heap.size ≤ g ∧ g ≠ G):=Lib.hid ⟨hg,fun e=>HG.out.2.2 (by rw [e]; rfl)⟩
   have HCC : Hid (m ≤ c):=Lib.hid hc
   have HLO : Hid (∀ i,i < T.length → w1.heap.size ≤ rs.getD i 0):=Lib.hid HOR.out.lo
   have HSWP : Hid (Calls Try.prog 82 #[.agg #[.int .i64 F.p,.int .i64 F.e,FM F b cap,.int .i64 ((n : Int) + 1),.slice (some ⟨g,0,none⟩) m c],.int .i64 (n : Nat)] w2 fun e w'=>∃ P M rs' a ca,e = .returned (.slice a P.length ca) ∧ NN P w' (.slice a P.length ca) ∧ SwP F T rs g (n + 1) n P M rs' w' ∧ Bx (Mb T rs g) w2 w' ∧ (∀ r o,a = some ⟨r,o,none⟩ → w2.heap.size < r)):=Lib.hid (by
    have t:=sweep_c (c:=c) (cols:=n) HF2.out (by omega) (by rw [HTL.out]; omega) (by omega) hom HTM.out (by have:=HBb.out; omega) (fun i hi=>by have:=HLO.out i hi; have:=HBb.out; omega)
    rw [HTL.out] at t; exact t)
   rw [HK.out] at HBX x3
   have HNMb : Hid (∀ j,Mb T rs g j → w1.heap.size ≤ j ∧ j ≠ G):=Lib.hid (by
    rintro j (e | ⟨i,hi,e⟩)
    ·rw [e]; exact HGL.out
    ·rw [e]; exact ⟨HLO.out i hi,HG.out.2.1 i hi⟩)
   clear hom hg hc
   have x3' : w2.cell? ⟨G,3,none⟩ = some (.int .i64 ((n : Int) + 1)):=by rw [x3]; push_cast; rfl
   clear x3
   go_wp2_with fail
   with_reducible refine HSWP.out.mono ?_
   rintro z w3 ⟨P,M,rs',a,ca,rfl,hnp,hsw,hbx,hfr⟩
   have HB3 : Hid (Below w1.heap.size w2 w3):=Lib.hid (hbx.below HBW.out.size fun j hj=>(HNMb.out j hj).1)
   have HBW3 : Hid (Below W.heap.size W w3):=Lib.hid (HBW2.out.trans (HB3.out.mono HBW1.out.size))
   obtain ⟨⟨x0,x1,x2,x3,x4⟩,-,-⟩:=HBX.out.bx hbx fun e=>(HNMb.out G e).2 rfl
   have HCG : Hid (w3.cell? ⟨G,4,none⟩ = some (.slice (some ⟨g,0,none⟩) m c)):=Lib.hid x4
   have HML : Hid (M.length = m):=Lib.hid (hsw.len.trans HTL.out)
   have HPM : Hid (P.length ≤ m):=Lib.hid (by have:=hsw.sw.le; rw [List.length_map] at this; have:=HML.out; omega)
   obtain ⟨p,hp⟩ : ∃ p,Hid (P.length = p):=⟨_,Lib.hid rfl⟩
   have HNP:=Lib.hid hnp
   have HSWF:=Lib.hid hsw
   rw [hp.out] at HNP HPM ⊢
   have hpm:=HPM.out
   obtain ⟨off,hoff,hoff2⟩ : ∃ off,(if c = p then (some ⟨g,0,none⟩ : Option Addr) else some ⟨g,p,none⟩) = some ⟨g,off,none⟩ ∧ (p < m → off = p):=by
    by_cases e : c = p
    ·exact ⟨0,if_pos e,fun h=>by have:=HCC.out; omega⟩
    ·exact ⟨p,if_neg e,fun _=>rfl⟩
   have HOFF:=Lib.hid hoff2
   have hpc : p ≤ c:=by have:=HCC.out; omega
   clear hnp hsw hbx hfr x0 x1 x2 x3 hoff2
   go_wp2
   go_loopw [43] (fun i wr=>∃ j : Nat,j ≤ m - p ∧ i = .int .i64 j ∧ Hid (∀ t,t < j → (M.getD (p + t) []).getD n 0 = 0) ∧ wr = w3) (fun i _=>m - p - (intOf i).toNat)
   case atStart=>exact ⟨0,Nat.zero_le _,rfl,Lib.hid (fun t ht=>absurd ht (by omega)),rfl⟩
   case round =>
    obtain ⟨j,hj,rfl,KZ,rfl⟩:=hrel
    obtain ⟨w3,rfl⟩ : ∃ w,w = wr:=⟨_,rfl⟩
    by_cases hlt : j < m - p
    ·obtain rfl:=HOFF.out (by omega)
     have hj5 : j < 500:=by omega
     have hpj : off + j < M.length:=by rw [HML.out]; omega
     obtain ⟨rk,hrk⟩ : ∃ r,Hid (rs'.getD (off + j) 0 = r):=⟨_,Lib.hid rfl⟩
     obtain ⟨xx,hxx⟩ : ∃ x,Hid ((M.getD (off + j) []).getD n 0 = x):=⟨_,Lib.hid rfl⟩
     have hcg:=HSWF.out.om.row (off + j) hpj
     have hcx:=(HSWF.out.om.rw' (off + j) hpj).cell n (by rw [HSWF.out.om.wid _ hpj]; omega)
     rw [hrk.out] at hcg hcx
     rw [hxx.out] at hcx
     have hnn : (n : Int) < (n : Int) + 1:=by omega
     have HPJ:=Lib.hid hpj
     clear hpj
     by_cases h0 : xx = 0
     ·subst h0
      go_wp2
      go_roundw
      case rel=>exact ⟨j + 1,by omega,by go_num,Lib.hid (fun t ht=>by
       by_cases e : t = j
       ·rw [e]; exact hxx.out
       ·exact KZ.out t (by omega)),trivial⟩
      case measure=>simp [intOf]; omega
     ·have hx0 : ((xx : Int) != 0) = true:=by simpa using h0
      have HSN : Hid (solM F n T = none):=Lib.hid (if_pos (HSWF.out.sw.unsolved HFF.out HTM.out HSWF.out.sp HPJ.out (by rw [hp.out]; omega) (by rw [hxx.out]; exact h0)))
      go_wp2
      refine bodyPost_ret (v:=.tuple #[.slice none 0 0,.int .i64 4]) (by simp [results,Try.results58,go_sem]) rfl ?_
      exact .inl ⟨HSN.out,rfl,HBW3.out⟩
    ·have hjm : ¬ (j : Int) < (m : Int) - (p : Int):=by omega
     have HSV:=Lib.hid (HSWF.out.sw.solved HFF.out HTM.out (fun r hr=>(HSWF.out.mn r hr).len) HSWF.out.sp (fun q hq hq2=>by
      have e:=KZ.out (q - p) (by rw [HML.out] at hq; rw [hp.out] at hq2; omega)
      rw [hp.out] at hq2
      rwa [show p + (q - p) = q from by omega] at e))
     obtain ⟨L,hL⟩ : ∃ R,Hid (redL F (n + 1) (T.map Go.Fl.fn) = R):=⟨_,Lib.hid rfl⟩
     have HRL : Hid (RedL F (n + 1) L):=Lib.hid (by rw [← hL.out]; exact (redL_ok HFF.out (Mn.vs HFF.out HTM.out)).1)
     have HLL : Hid (L.length = p):=Lib.hid (by rw [← hL.out,← pivM_len,← HSV.out.2,hp.out])
     have HGT : Hid (∀ q (hq : q < L.length),P.getD q 0 = (L[q]).1 ∧ (M.getD q []).getD n 0 = (L[q]).2 n ∧ P.getD q 0 < n):=Lib.hid (fun q hq=>by
      have hq' : q < (redL F (n + 1) (T.map Go.Fl.fn)).length:=by rw [hL.out]; exact hq
      have e1:=pivM_get (F:=F) (n:=n + 1) (S:=T) hq'
      have e2:=redM_row HFF.out (n:=n + 1) (S:=T) hq' (j:=n) (by omega)
      rw [← HSV.out.2] at e1
      rw [← HSV.out.1,take_getD (by rw [hp.out]; rw [HLL.out] at hq; exact hq)] at e2
      refine ⟨?_,?_,HSWF.out.sw.bd _ ?_⟩
      ·rw [e1]; congr 1; simp only [hL.out]
      ·rw [e2]; simp only [hL.out]
      ·rw [List.getD_eq_getElem?_getD,List.getElem?_eq_getElem (by rw [hp.out]; rw [HLL.out] at hq; exact hq)]; exact List.getElem_mem _)
     have HRS : Hid (solM F n T = some (sxK L n p)):=Lib.hid (by
      unfold solM
      rw [if_neg (fun e=>by
       rw [← HSV.out.2] at e
       have:=HSWF.out.sw.bd n e
       omega),hL.out,HLL.out])
     obtain ⟨wq,hwq⟩ : ∃ q,w3.heap.size = q:=⟨_,rfl⟩
     have HWQ:=Lib.hid hwq
     go_wp2_with (refine wpList_make_full _ rfl _ _ 27 rfl 0 3 i0 (.int .i64 0) 1 Try.underlying27 hi hz0 hz1 .i64 .i64 (n : Int) (n : Int) n rfl rfl rfl rfl (by rw [hz2]; omega) (by unfold maxLen; omega) (Nat.zero_le _) ?_)
     intro w4 hown hgrow
     have HROW : Hid (Row (List.replicate n 0) wq w4):=Lib.hid (Row.of_own (n:=n) (base:=0) (by
      have e:=toList_madeCells_one (Value.int .i64 0) n
      rw [List.map_replicate,show N64 0 = Value.int .i64 0 from rfl,← e]
      (try rw [hwq] at hown); simpa using hown) (by simp))
     have HG4 : Hid (Bx (fun _=>False) w3 w4):=Lib.hid (Bx.of ((Below.refl _ _).grown hgrow (by simp) (fun k hk=>by cases hk)))
     have HR0 : Hid (Rw (sxK L n 0) wq w4):=Lib.hid (by rw [sxK_zero]; exact HROW.out.rw')
     (try rw [hwq])
     clear hown hgrow HROW hwq
     go_wp2
     go_loopw [57] (fun i wx=>∃ q : Nat,q ≤ p ∧ i = .int .i64 q ∧ Hid (Rw (sxK L n q) wq wx) ∧ Hid (Bx (fun j=>j = wq) w4 wx)) (fun i _=>p - (intOf i).toNat)
     case atStart=>exact ⟨0,Nat.zero_le _,rfl,HR0,Bx.refl _ _⟩
     case round =>
      obtain ⟨q,hq,rfl,KR,KB⟩:=hrel
      have HO4 : Hid (Bx (fun _=>False) w3 wr):=Lib.hid (((HG4.out.mono (T:=fun j=>j = wq) fun _ e=>e.elim).trans KB.out).old fun j hj e=>by have:=HWQ.out; omega)
      by_cases hlt : q < p
      ·have hq5 : q < 500:=by omega
       have hqL : q < L.length:=by rw [HLL.out]; exact hlt
       have hqM : q < M.length:=by rw [HML.out]; omega
       obtain ⟨g1,g2,g3⟩:=HGT.out q hqL
       obtain ⟨pk,hpk⟩ : ∃ x,Hid (P.getD q 0 = x):=⟨_,Lib.hid rfl⟩
       obtain ⟨xx,hxx⟩ : ∃ x,Hid ((M.getD q []).getD n 0 = x):=⟨_,Lib.hid rfl⟩
       obtain ⟨rk,hrk⟩ : ∃ r,Hid (rs'.getD q 0 = r):=⟨_,Lib.hid rfl⟩
       have hpn : pk < n:=by rw [← hpk.out]; exact g3
       have HST : Hid ((sxK L n q).set pk xx = sxK L n (q + 1)):=Lib.hid (by rw [← sxK_succ HRL.out hqL,← hpk.out,← hxx.out,g1,g2])
       obtain ⟨b1,o1,rfl,hcp⟩:=HNP.out.atm hp.out hlt
       rw [hpk.out] at hcp
       have hcg:=HSWF.out.om.row q hqM
       have hcx:=(HSWF.out.om.rw' q hqM).cell n (by rw [HSWF.out.om.wid _ hqM]; omega)
       rw [hrk.out] at hcg hcx
       rw [hxx.out] at hcx
       have hcG:=HCG.out
       have hcp:=(HO4.out.cell (World.block_lt_of_cell? w3 _ hcp) id).trans hcp
       have hcg:=(HO4.out.cell (World.block_lt_of_cell? w3 _ hcg) id).trans hcg
       have hcx:=(HO4.out.cell (World.block_lt_of_cell? w3 _ hcx) id).trans hcx
       have hcG:=(HO4.out.cell (World.block_lt_of_cell? w3 _ hcG) id).trans hcG
       have hc7:=KR.out.cell pk (by rw [sxK_len]; exact hpn)
       have hf7:=KR.out.fz pk
       obtain ⟨o7,ho7⟩ : ∃ x,(sxK L n q).getD pk 0 = x:=⟨_,rfl⟩
       rw [ho7] at hc7
       have HR3 : Hid (Rw (sxK L n (q + 1)) wq (wr.setCell ⟨wq,pk,none⟩ (.int .i64 (xx : Nat)))):=Lib.hid (by rw [← HST.out]; exact KR.out.set pk xx trivial)
       have HB3' : Hid (Bx (fun j=>j = wq) w4 (wr.setCell ⟨wq,pk,none⟩ (.int .i64 (xx : Nat)))):=Lib.hid (KB.out.trans (Bx.set (S:=fun j=>j = wq) rfl _))
       have hnn : (n : Int) < (n : Int) + 1:=by omega
       clear g1 g2 g3 ho7 hqL hqM
       go_wp2
       go_roundw
       case rel=>exact ⟨q + 1,by omega,by go_num,HR3,HB3'⟩
       case measure=>simp [intOf]; omega
      ·obtain rfl : q = p:=by omega
       have hlt1 : ¬ (q : Int) < (q : Int):=by omega
       have HBF : Hid (Below W.heap.size W wr):=Lib.hid (HBW3.out.trans (HO4.out.below HBW3.out.size fun _ e=>e.elim))
       go_wp2
       refine bodyPost_ret (v:=.tuple #[.slice (some ⟨wq,0,none⟩) n n,.int .i64 0]) (by simp [results,Try.results58,go_sem]) rfl ?_
       exact .inr ⟨sxK L n q,some ⟨wq,0,none⟩,n,HRS.out,by rw [sxK_len],.inr ⟨wq,0,n,by rw [sxK_len],by rw [sxK_len]; exact Nat.le_refl _,KR.out.lt,fun t ht=>by rw [Nat.zero_add]; exact KR.out.cell t ht⟩,HBF.out⟩
theorem idM_len (n i : Nat) : (idM n i).length = i:=by simp [idM]
theorem idM_mn {F : Gf} (hF : Ok F) (n i : Nat) : Mn F n (idM n i):=fun r hr=>by
 obtain ⟨j,_,rfl⟩:=List.mem_map.1 hr
 refine ⟨by simp,fun x hx=>?_⟩
 rcases List.mem_or_eq_of_mem_set hx with h | rfl
 ·rw [List.eq_of_mem_replicate h]; exact hF.zero_lt
 ·exact hF.one_lt
def invM (F : Gf) (n : Nat) (A : List (List Nat)) : Option (List (List Nat)):=if (pivM F n A).length < n then none else some ((redM F (n + n) (besM A (idM n n))).map (List.drop n))
def InvP (s : Option (List (List Nat))) (W : World) (e : Ending) (w' : World) : Prop:=
 (s = none ∧ e = .returned (.tuple #[.slice none 0 0,.int .i64 4]) ∧ Below W.heap.size W w') ∨
 ∃ x a c,s = some x ∧ e = .returned (.tuple #[.slice a x.length c,.int .i64 0]) ∧ MM x w' (.slice a x.length c) ∧ Below W.heap.size W w'
theorem take_snocV {rs : List Nat} {q : Nat} (f : Nat → Value) (hq : q < rs.length) : (rs.take (q + 1)).map f = (rs.take q).map f ++ [f (rs.getD q 0)]:=by
 rw [take_snoc (d:=0) hq,List.map_append]; rfl
theorem drop_vn {F : Gf} {n : Nat} {l : List Nat} (h : Vn F (n + n) l) : (l.drop n).length = n:=by rw [List.length_drop,h.len]; omega
theorem halves {F : Gf} {M : List (List Nat)} {g n : Nat} {rs : List Nat} {w : World} {v : Value} {base : Nat} (hn : 1 ≤ n) (h : OM M g rs (n + n) w) (hm : Mn F (n + n) M) (ho : w.ownsRow base 27 1 v M.length ((rs.take M.length).map fun r=>.slice (some ⟨r,n,none⟩) n n)) :
  MM (M.map (List.drop n)) w v:=by
 rcases ho.2 with ⟨e,e2⟩ | ⟨g',cap,cur,rfl,h3,h4,h5,h6,h7,h8⟩
 ·exact .inl ⟨by rw [List.eq_nil_of_length_eq_zero e2]; rfl,e⟩
 ·refine .inr ⟨g',0,cap,by rw [List.length_map],by rw [List.length_map]; exact h5,?_,fun t ht=>?_⟩
  ·rcases Nat.lt_or_ge g' w.heap.size with h | h
   ·exact h
   ·rw [Array.getElem?_eq_none h] at h4; cases h4
  ·rw [List.length_map] at ht
   have e : (M.map (List.drop n)).getD t [] = (M.getD t []).drop n:=by
    rw [List.getD_eq_getElem?_getD,List.getElem?_map,List.getD_eq_getElem?_getD,List.getElem?_eq_getElem ht]; rfl
   have hv:=mrow hm ht
   rw [e,drop_vn hv]
   have hl:=h.len
   refine ⟨some ⟨rs.getD t 0,n,none⟩,n,?_,.inr ⟨rs.getD t 0,n,n,by rw [drop_vn hv],by rw [drop_vn hv]; exact Nat.le_refl _,(h.rw' t ht).lt,fun s hs=>?_⟩⟩
   ·rw [Nat.zero_add,World.ownsRow.cellAt ho t (by omega),List.getElem?_map,List.getElem?_take_of_lt ht,List.getElem?_eq_getElem (by omega),List.getD_eq_getElem?_getD,List.getElem?_eq_getElem (by omega)]; rfl
   ·rw [drop_vn hv] at hs
    rw [(h.rw' t ht).cell (n + s) (by rw [hv.len]; omega)]
    simp only [List.getD_eq_getElem?_getD,List.getElem?_drop]
set_option maxHeartbeats 6400000 in
theorem inverse_c {F : Gf} {b cap n ca : Nat} {A : List (List Nat)} {aa : Option Addr} {W : World} (hA : FldAt F b cap W) (h1 : 1 ≤ n) (hn : n ≤ 24) (la : A.length = n) (ma : Mn F n A) (na : MM A W (.slice aa n ca)) :
  Calls Try.prog 64 #[FV F b cap,.slice aa n ca] W (InvP (invM F n A) W):=by
 obtain ⟨j0,ji,jz0,jz1,jz2⟩:=info_parts info27
 have HFF : Hid (Ok F):=Lib.hid (ok_mem hA.mem)
 have HID : Hid (Mn F n (idM n n)):=Lib.hid (idM_mn HFF.out n n)
 obtain ⟨k,hk⟩ : ∃ k,Hid ((if n = 0 then 0 else n + n) = k):=⟨_,Lib.hid rfl⟩
 obtain ⟨T,hT⟩ : ∃ T,Hid (besM A (idM n n) = T):=⟨_,Lib.hid rfl⟩
 have HTM : Hid (Mn F (n + n) T):=Lib.hid (by rw [← hT.out]; exact besM_mn la (idM_len n n) ma HID.out)
 have HTL : Hid (T.length = n):=Lib.hid (by rw [← hT.out]; exact besM_len la (idM_len n n))
 have HTC : Hid ((T.map Go.Fl.fn).map (cut n) = A.map Go.Fl.fn):=Lib.hid (by rw [← hT.out]; exact besM_cut la (idM_len n n) ma)
 obtain ⟨w0,hw0⟩ : ∃ w1,w1 = W.alloc (.cells #[.int .i64 F.p,.int .i64 F.e,FM F b cap] 29):=⟨_,rfl⟩
 have HAL : Hid (Below W.heap.size W w0):=Lib.hid (by rw [hw0]; exact (Below.refl _ _).alloc (Nat.le_refl _) _)
 have HS1 : Hid (w0.heap.size = W.heap.size + 1):=Lib.hid (by rw [hw0]; simp)
 have HFB : Hid (FBx W.heap.size F b cap w0):=Lib.hid (by rw [hw0]; exact FBx.new W F b cap)
 have HF0:=Lib.hid (hA.below HAL.out)
 have HNA:=Lib.hid (na.below HAL.out)
 have HW : Hid (Calls Try.prog 49 #[.int .i64 (n : Nat),.slice (some ⟨W.heap.size + 1,0,none⟩) 1 1] (w0.alloc (.cells #[.slice aa n ca] 30)) fun e w'=>e = .returned (.bool true) ∧ Below (w0.alloc (.cells #[.slice aa n ca] 30)).heap.size (w0.alloc (.cells #[.slice aa n ca] 30)) w'):=Lib.hid (by
  have t:=have1 (c:=ca) (a:=aa) hn (by rw [la]; omega) ma (by rw [la]; exact HNA.out)
  rw [la,HS1.out,show decide (1 ≤ n) = true from by simpa using h1] at t; exact t)
 have HMA:=Lib.hid ma
 have HLA:=Lib.hid la
 have HW0:=Lib.hid hw0
 clear hA ma na hw0 la
 go_enter Try.func64,Try.ntmps64
 go_wp2_with fail
 rw [← HW0.out]
 clear HW0
 with_reducible refine HW.out.mono ?_
 rintro z w1 ⟨rfl,hb⟩
 have HB1 : Hid (Below w0.heap.size w0 w1):=Lib.hid ((((Below.refl _ _).alloc (Nat.le_refl _) _)).trans (hb.mono (by simp)))
 have HBW1 : Hid (Below W.heap.size W w1):=Lib.hid (HAL.out.trans (HB1.out.mono HAL.out.size))
 have HF1:=Lib.hid (HF0.out.below HB1.out)
 have HNA1:=Lib.hid (HNA.out.below HB1.out)
 have HSW : Hid (W.heap.size < w1.heap.size):=Lib.hid (by have:=HB1.out.size; have:=HS1.out; omega)
 have hfb:=HFB.out.below HB1.out (by have:=HS1.out; omega)
 have hS0 : SQ F b cap W.heap.size w1 w1.drew:=⟨hfb,Lib.hid ⟨HSW.out,(Below.refl _ _).drew⟩⟩
 clear hb HW HF0 HNA HFB hfb
 go_wp2_with fail
 go_cut [7] (fun v wx=>∃ G rs v0,v = .pointer (some ⟨G,0,none⟩) ∧ Hid (w1.heap.size ≤ G ∧ (∀ i,i < T.length → rs.getD i 0 ≠ G) ∧ v0.ownBlock ≠ some G) ∧ Hid (BX G F b cap k v0 wx) ∧ Hid (OR T rs (n + n) w1.heap.size wx v0) ∧ Hid (T = [] → v0 = .slice none 0 0) ∧ Hid (Below w1.heap.size w1 wx))
 case first =>
  refine wp_region_held_drew (S:=fun w'=>SQ F b cap W.heap.size w1 w') (by kernel_rfl) (by with_reducible exact hS0) (fun hHeld=>?_)
  obtain ⟨x0,hx0⟩ : ∃ x,x = w1.drew:=⟨_,rfl⟩
  rw [← hx0] at hHeld ⊢
  have HX0 : Hid (x0.heap.size = w1.heap.size):=Lib.hid (by rw [hx0]; rfl)
  clear hx0 hS0
  refine Rg.tk 0 ⟨some 18,.load 29 (.tmp 2),29,"space.go:112",#[],none⟩ ?_
  try simp only [Rg.gp]
  refine Rg.tk 1 ⟨some 19,.move (.tmp 1),30,"space.go:112",#[],none⟩ ?_
  try simp only [Rg.gp]
  refine Rg.tk 2 ⟨some 20,.move (.tmp 6),3,"space.go:112",#[],none⟩ ?_
  try simp only [Rg.gp]
  refine wpAnyH_ready (rs:=[3,5]) (by kernel_rfl) (by simp) ?_
  refine (AllReadyH.cons (o:=⟨some 21,.call ⟨.value (.func 84),#[.tmp 20],#[3]⟩,30,"space.go:112",#[⟨2,.data⟩],none⟩) rfl (fun K hK=>?_) (AllReadyH.cons (o:=⟨some 7,.alloc 79,0,"space.go:112",#[],none⟩) rfl (fun K hK=>?_) AllReadyH.nil))
  ·have hO : Calls Try.prog 84 #[.int .i64 (n : Nat)] x0 (RPost (idM n n) n x0):=identity_c (by omega)
   go_simp
   go_at_call 84
   with_reducible refine hO.mono ?_
   rintro z x3 ⟨rs3,v3,rfl,hor3,hb3⟩
   obtain ⟨a3,c3,hvs3⟩:=hor3.shape
   rw [idM_len] at hvs3
   subst hvs3
   have HMM3 : Hid (MM (idM n n) x3 (.slice a3 n c3)):=Lib.hid (by obtain ⟨g,h,-⟩:=hor3.ov; exact h.mm)
   have HB3 : Hid (Below x0.heap.size x0 x3):=Lib.hid hb3
   clear hO hor3 hb3
   refine hK.out _ _ ?_ (fun hHeld=>?_)
   ·(try dsimp only)
    exact SQ.keep hHeld HB3.out
   clear hK K
   try simp only [Rg.gp]
   refine wpAnyH_ready (rs:=[4,5]) (by kernel_rfl) (by simp) ?_
   refine (AllReadyH.cons (o:=⟨some 22,.call ⟨.value (.func 80),#[.tmp 18,.tmp 19,.tmp 21],#[29,30,30]⟩,79,"space.go:112",#[⟨0,.data⟩,⟨1,.data⟩,⟨3,.data⟩,⟨3,.chain⟩],none⟩) rfl (fun K hK=>?_) (AllReadyH.cons (o:=⟨some 7,.alloc 79,0,"space.go:112",#[],none⟩) rfl (fun K hK=>?_) AllReadyH.nil))
   ·have hmm:=HMM3.out
    have hO:=beside_c (n1:=n) (n2:=n) (m:=n) (ca:=ca) (cb:=c3) (HF1.out.below hHeld.2.out.2) (by omega) (by omega) (by omega) h1 HLA.out (idM_len n n) (fun k hk=>(mrow HMA.out hk).len) (fun k hk=>(mrow HID.out hk).len) (HNA1.out.below hHeld.2.out.2) hmm
    rw [hk.out,show besM A (idM n n) = T from hT.out] at hO
    go_simp
    go_at_call 80
    with_reducible refine hO.mono ?_
    rintro z x4 ⟨rs4,v4,rfl,hor4,hnil4,hlt4,hb4⟩
    obtain ⟨aV,nV,cV,hvs⟩ : ∃ a m c,v4 = .slice a m c:=by obtain ⟨a,c,e⟩:=hor4.shape; exact ⟨a,_,c,e⟩
    subst hvs
    have HB4 : Hid (Below x3.heap.size x3 x4):=Lib.hid hb4
    have HO4:=Lib.hid hor4
    have HN4:=Lib.hid hnil4
    clear hO hor4 hb4 hmm hnil4 hlt4
    refine hK.out _ _ ?_ (fun hHeld=>?_)
    ·(try dsimp only)
     exact SQ.keep hHeld HB4.out
    clear hK K
    try simp only [Rg.gp]
    refine Rg.rd1 5 ⟨some 7,.alloc 79,0,"space.go:112",#[],none⟩ fun K hK=>?_
    go_simp
    refine hK.out _ _ ?_ (fun hHeld=>?_)
    ·(try dsimp only)
     exact SQ.keep hHeld ((Below.refl _ _).alloc (Nat.le_refl _) _)
    clear hK K
    try simp only [Rg.gp]
    obtain ⟨x5,hw5⟩ : ∃ x,x = (x4.alloc (.cells #[.int .i64 0,.int .i64 0,.slice none 0 0,.int .i64 0,.slice none 0 0] 79)):=⟨_,rfl⟩
    have HB5 : Hid (Below x4.heap.size x4 x5):=Lib.hid (by rw [hw5]; exact (Below.refl _ _).alloc (Nat.le_refl _) _)
    have HRZ5 : Hid (RZ x4.heap.size x5):=Lib.hid (by rw [hw5]; exact ⟨⟨World.cell?_alloc_at _ _ _ _ rfl,World.cell?_alloc_at _ _ _ _ rfl,World.cell?_alloc_at _ _ _ _ rfl,World.cell?_alloc_at _ _ _ _ rfl,World.cell?_alloc_at _ _ _ _ rfl⟩,fun t=>World.frozen?_alloc_at _ _ _ _ rfl,by simp⟩)
    have HK5 : Hid (w1.heap.size ≤ x4.heap.size):=Lib.hid (by have t:=HX0.out; have:=HB3.out.size; have:=HB4.out.size; omega)
    rw [← hw5] at hHeld ⊢
    clear hw5
    refine Rg.rd1 6 ⟨none,.store 79 (.tmp 7) (.tmp 22),0,"space.go:112",#[⟨5,.data⟩,⟨4,.data⟩,⟨4,.chain⟩,⟨0,.phase⟩,⟨1,.phase⟩,⟨2,.phase⟩,⟨3,.phase⟩,⟨4,.phase⟩,⟨5,.phase⟩],none⟩ fun K hK=>?_
    have hz:=HRZ5.out
    have HRZ:=Lib.hid hz
    obtain ⟨⟨r0,r1,r2,r3,r4⟩,rf,rl⟩:=hz
    have g0:=rf 0
    have g1:=rf 1
    have g2:=rf 2
    have g3:=rf 3
    have g4:=rf 4
    have HS10:=hHeld
    clear rf rl
    go_simp
    refine hK.out _ _ ?_ (fun hHeld=>?_)
    ·(try dsimp only)
     exact SQ.five HS10 HK5.out
    clear hK K
    try simp only [Rg.gp]
    have HFIN : Hid (BX x4.heap.size F b cap k (.slice aV nV cV) (((((x5.setCell ⟨x4.heap.size,0,none⟩ (.int .i64 F.p)).setCell ⟨x4.heap.size,1,none⟩ (.int .i64 F.e)).setCell ⟨x4.heap.size,2,none⟩ (FM F b cap)).setCell ⟨x4.heap.size,3,none⟩ (.int .i64 (k : Nat))).setCell ⟨x4.heap.size,4,none⟩ (.slice aV nV cV))):=Lib.hid (RZ.five HRZ.out F b cap (k:=k) (.slice aV nV cV) rfl)
    have HFB : Hid (Below w1.heap.size w1 (((((x5.setCell ⟨x4.heap.size,0,none⟩ (.int .i64 F.p)).setCell ⟨x4.heap.size,1,none⟩ (.int .i64 F.e)).setCell ⟨x4.heap.size,2,none⟩ (FM F b cap)).setCell ⟨x4.heap.size,3,none⟩ (.int .i64 (k : Nat))).setCell ⟨x4.heap.size,4,none⟩ (.slice aV nV cV))):=Lib.hid hHeld.2.out.2
    have HGG : Hid (w1.heap.size ≤ x4.heap.size ∧ (∀ i,i < T.length → rs4.getD i 0 ≠ x4.heap.size) ∧ (Value.slice aV nV cV).ownBlock ≠ some x4.heap.size):=Lib.hid ⟨HK5.out,(HO4.out.fresh (Nat.le_refl _)).1,(HO4.out.fresh (Nat.le_refl _)).2⟩
    have ho:=HO4.out.bx (S:=fun _=>False) (Bx.of HB5.out) fun _ _=>id
    have HOF : Hid (OR T rs4 (n + n) w1.heap.size (((((x5.setCell ⟨x4.heap.size,0,none⟩ (.int .i64 F.p)).setCell ⟨x4.heap.size,1,none⟩ (.int .i64 F.e)).setCell ⟨x4.heap.size,2,none⟩ (FM F b cap)).setCell ⟨x4.heap.size,3,none⟩ (.int .i64 (k : Nat))).setCell ⟨x4.heap.size,4,none⟩ (.slice aV nV cV)) (.slice aV nV cV)):=Lib.hid ((ho.bxn (five_bx (B:=x4.heap.size) _ _ _ _ _) (fun i hi=>HGG.out.2.1 i hi) (fun j hj e=>HGG.out.2.2 (by rw [hj,e]))).weak (by have t:=HX0.out; have:=HB3.out.size; omega))
    clear ho
    generalize (((((x5.setCell ⟨x4.heap.size,0,none⟩ (.int .i64 F.p)).setCell ⟨x4.heap.size,1,none⟩ (.int .i64 F.e)).setCell ⟨x4.heap.size,2,none⟩ (FM F b cap)).setCell ⟨x4.heap.size,3,none⟩ (.int .i64 (k : Nat))).setCell ⟨x4.heap.size,4,none⟩ (.slice aV nV cV)) = x6 at *
    refine wpAnyH_done (by kernel_rfl) ?_ _
    clear hHeld HS10 HRZ HRZ5 r0 r1 r2 r3 r4 g0 g1 g2 g3 g4
    go_wp2_with fail
    go_meet
    case rel=>exact ⟨x4.heap.size,rs4,_,rfl,HGG,HFIN,HOF,HN4,HFB⟩
   ·go_simp
    refine hK.out _ _ ?_ (fun hHeld=>?_)
    ·(try dsimp only)
     exact SQ.keep hHeld ((Below.refl _ _).alloc (Nat.le_refl _) _)
    clear hK K
    try simp only [Rg.gp]
    obtain ⟨x5,hw5⟩ : ∃ x,x = (x3.alloc (.cells #[.int .i64 0,.int .i64 0,.slice none 0 0,.int .i64 0,.slice none 0 0] 79)):=⟨_,rfl⟩
    have HB5 : Hid (Below x3.heap.size x3 x5):=Lib.hid (by rw [hw5]; exact (Below.refl _ _).alloc (Nat.le_refl _) _)
    have HRZ5 : Hid (RZ x3.heap.size x5):=Lib.hid (by rw [hw5]; exact ⟨⟨World.cell?_alloc_at _ _ _ _ rfl,World.cell?_alloc_at _ _ _ _ rfl,World.cell?_alloc_at _ _ _ _ rfl,World.cell?_alloc_at _ _ _ _ rfl,World.cell?_alloc_at _ _ _ _ rfl⟩,fun t=>World.frozen?_alloc_at _ _ _ _ rfl,by simp⟩)
    have HK5 : Hid (w1.heap.size ≤ x3.heap.size):=Lib.hid (by have t:=HX0.out; have:=HB3.out.size; omega)
    rw [← hw5] at hHeld ⊢
    clear hw5
    refine Rg.rd1 4 ⟨some 22,.call ⟨.value (.func 80),#[.tmp 18,.tmp 19,.tmp 21],#[29,30,30]⟩,79,"space.go:112",#[⟨0,.data⟩,⟨1,.data⟩,⟨3,.data⟩,⟨3,.chain⟩],none⟩ fun K hK=>?_
    have hmm:=HMM3.out
    have hmm:=hmm.below HB5.out
    have hO:=beside_c (n1:=n) (n2:=n) (m:=n) (ca:=ca) (cb:=c3) (HF1.out.below hHeld.2.out.2) (by omega) (by omega) (by omega) h1 HLA.out (idM_len n n) (fun k hk=>(mrow HMA.out hk).len) (fun k hk=>(mrow HID.out hk).len) (HNA1.out.below hHeld.2.out.2) hmm
    rw [hk.out,show besM A (idM n n) = T from hT.out] at hO
    go_simp
    go_at_call 80
    with_reducible refine hO.mono ?_
    rintro z x4 ⟨rs4,v4,rfl,hor4,hnil4,hlt4,hb4⟩
    obtain ⟨aV,nV,cV,hvs⟩ : ∃ a m c,v4 = .slice a m c:=by obtain ⟨a,c,e⟩:=hor4.shape; exact ⟨a,_,c,e⟩
    subst hvs
    have HB4 : Hid (Below x5.heap.size x5 x4):=Lib.hid hb4
    have HO4:=Lib.hid hor4
    have HN4:=Lib.hid hnil4
    clear hO hor4 hb4 hmm hnil4 hlt4
    refine hK.out _ _ ?_ (fun hHeld=>?_)
    ·(try dsimp only)
     exact SQ.keep hHeld HB4.out
    clear hK K
    try simp only [Rg.gp]
    refine Rg.rd1 6 ⟨none,.store 79 (.tmp 7) (.tmp 22),0,"space.go:112",#[⟨5,.data⟩,⟨4,.data⟩,⟨4,.chain⟩,⟨0,.phase⟩,⟨1,.phase⟩,⟨2,.phase⟩,⟨3,.phase⟩,⟨4,.phase⟩,⟨5,.phase⟩],none⟩ fun K hK=>?_
    have hz:=HRZ5.out
    have hz:=hz.bx (S:=fun _=>False) (Bx.of HB4.out) id
    have HRZ:=Lib.hid hz
    obtain ⟨⟨r0,r1,r2,r3,r4⟩,rf,rl⟩:=hz
    have g0:=rf 0
    have g1:=rf 1
    have g2:=rf 2
    have g3:=rf 3
    have g4:=rf 4
    have HS10:=hHeld
    clear rf rl
    go_simp
    refine hK.out _ _ ?_ (fun hHeld=>?_)
    ·(try dsimp only)
     exact SQ.five HS10 HK5.out
    clear hK K
    try simp only [Rg.gp]
    have HFIN : Hid (BX x3.heap.size F b cap k (.slice aV nV cV) (((((x4.setCell ⟨x3.heap.size,0,none⟩ (.int .i64 F.p)).setCell ⟨x3.heap.size,1,none⟩ (.int .i64 F.e)).setCell ⟨x3.heap.size,2,none⟩ (FM F b cap)).setCell ⟨x3.heap.size,3,none⟩ (.int .i64 (k : Nat))).setCell ⟨x3.heap.size,4,none⟩ (.slice aV nV cV))):=Lib.hid (RZ.five HRZ.out F b cap (k:=k) (.slice aV nV cV) rfl)
    have HFB : Hid (Below w1.heap.size w1 (((((x4.setCell ⟨x3.heap.size,0,none⟩ (.int .i64 F.p)).setCell ⟨x3.heap.size,1,none⟩ (.int .i64 F.e)).setCell ⟨x3.heap.size,2,none⟩ (FM F b cap)).setCell ⟨x3.heap.size,3,none⟩ (.int .i64 (k : Nat))).setCell ⟨x3.heap.size,4,none⟩ (.slice aV nV cV))):=Lib.hid hHeld.2.out.2
    have HGG : Hid (w1.heap.size ≤ x3.heap.size ∧ (∀ i,i < T.length → rs4.getD i 0 ≠ x3.heap.size) ∧ (Value.slice aV nV cV).ownBlock ≠ some x3.heap.size):=Lib.hid ⟨HK5.out,fun i hi e=>by have:=HO4.out.lo i hi; have:=HRZ5.out.2.2; omega,fun e=>by have:=(HO4.out.own.lt _ e).1; have:=HRZ5.out.2.2; omega⟩
    have ho:=HO4.out
    have HOF : Hid (OR T rs4 (n + n) w1.heap.size (((((x4.setCell ⟨x3.heap.size,0,none⟩ (.int .i64 F.p)).setCell ⟨x3.heap.size,1,none⟩ (.int .i64 F.e)).setCell ⟨x3.heap.size,2,none⟩ (FM F b cap)).setCell ⟨x3.heap.size,3,none⟩ (.int .i64 (k : Nat))).setCell ⟨x3.heap.size,4,none⟩ (.slice aV nV cV)) (.slice aV nV cV)):=Lib.hid ((ho.bxn (five_bx (B:=x3.heap.size) _ _ _ _ _) (fun i hi=>HGG.out.2.1 i hi) (fun j hj e=>HGG.out.2.2 (by rw [hj,e]))).weak (by have t:=HX0.out; have:=HB3.out.size; have:=HB5.out.size; omega))
    clear ho
    generalize (((((x4.setCell ⟨x3.heap.size,0,none⟩ (.int .i64 F.p)).setCell ⟨x3.heap.size,1,none⟩ (.int .i64 F.e)).setCell ⟨x3.heap.size,2,none⟩ (FM F b cap)).setCell ⟨x3.heap.size,3,none⟩ (.int .i64 (k : Nat))).setCell ⟨x3.heap.size,4,none⟩ (.slice aV nV cV)) = x6 at *
    refine wpAnyH_done (by kernel_rfl) ?_ _
    clear hHeld HS10 HRZ HRZ5 r0 r1 r2 r3 r4 g0 g1 g2 g3 g4
    go_wp2_with fail
    go_meet
    case rel=>exact ⟨x3.heap.size,rs4,_,rfl,HGG,HFIN,HOF,HN4,HFB⟩
  ·go_simp
   refine hK.out _ _ ?_ (fun hHeld=>?_)
   ·(try dsimp only)
    exact SQ.keep hHeld ((Below.refl _ _).alloc (Nat.le_refl _) _)
   clear hK K
   try simp only [Rg.gp]
   obtain ⟨x5,hw5⟩ : ∃ x,x = (x0.alloc (.cells #[.int .i64 0,.int .i64 0,.slice none 0 0,.int .i64 0,.slice none 0 0] 79)):=⟨_,rfl⟩
   have HB5 : Hid (Below x0.heap.size x0 x5):=Lib.hid (by rw [hw5]; exact (Below.refl _ _).alloc (Nat.le_refl _) _)
   have HRZ5 : Hid (RZ x0.heap.size x5):=Lib.hid (by rw [hw5]; exact ⟨⟨World.cell?_alloc_at _ _ _ _ rfl,World.cell?_alloc_at _ _ _ _ rfl,World.cell?_alloc_at _ _ _ _ rfl,World.cell?_alloc_at _ _ _ _ rfl,World.cell?_alloc_at _ _ _ _ rfl⟩,fun t=>World.frozen?_alloc_at _ _ _ _ rfl,by simp⟩)
   have HK5 : Hid (w1.heap.size ≤ x0.heap.size):=Lib.hid (by have t:=HX0.out; omega)
   rw [← hw5] at hHeld ⊢
   clear hw5
   refine Rg.rd1 3 ⟨some 21,.call ⟨.value (.func 84),#[.tmp 20],#[3]⟩,30,"space.go:112",#[⟨2,.data⟩],none⟩ fun K hK=>?_
   have hO : Calls Try.prog 84 #[.int .i64 (n : Nat)] x5 (RPost (idM n n) n x5):=identity_c (by omega)
   go_simp
   go_at_call 84
   with_reducible refine hO.mono ?_
   rintro z x3 ⟨rs3,v3,rfl,hor3,hb3⟩
   obtain ⟨a3,c3,hvs3⟩:=hor3.shape
   rw [idM_len] at hvs3
   subst hvs3
   have HMM3 : Hid (MM (idM n n) x3 (.slice a3 n c3)):=Lib.hid (by obtain ⟨g,h,-⟩:=hor3.ov; exact h.mm)
   have HB3 : Hid (Below x5.heap.size x5 x3):=Lib.hid hb3
   clear hO hor3 hb3
   refine hK.out _ _ ?_ (fun hHeld=>?_)
   ·(try dsimp only)
    exact SQ.keep hHeld HB3.out
   clear hK K
   try simp only [Rg.gp]
   refine Rg.rd1 4 ⟨some 22,.call ⟨.value (.func 80),#[.tmp 18,.tmp 19,.tmp 21],#[29,30,30]⟩,79,"space.go:112",#[⟨0,.data⟩,⟨1,.data⟩,⟨3,.data⟩,⟨3,.chain⟩],none⟩ fun K hK=>?_
   have hmm:=HMM3.out
   have hO:=beside_c (n1:=n) (n2:=n) (m:=n) (ca:=ca) (cb:=c3) (HF1.out.below hHeld.2.out.2) (by omega) (by omega) (by omega) h1 HLA.out (idM_len n n) (fun k hk=>(mrow HMA.out hk).len) (fun k hk=>(mrow HID.out hk).len) (HNA1.out.below hHeld.2.out.2) hmm
   rw [hk.out,show besM A (idM n n) = T from hT.out] at hO
   go_simp
   go_at_call 80
   with_reducible refine hO.mono ?_
   rintro z x4 ⟨rs4,v4,rfl,hor4,hnil4,hlt4,hb4⟩
   obtain ⟨aV,nV,cV,hvs⟩ : ∃ a m c,v4 = .slice a m c:=by obtain ⟨a,c,e⟩:=hor4.shape; exact ⟨a,_,c,e⟩
   subst hvs
   have HB4 : Hid (Below x3.heap.size x3 x4):=Lib.hid hb4
   have HO4:=Lib.hid hor4
   have HN4:=Lib.hid hnil4
   clear hO hor4 hb4 hmm hnil4 hlt4
   refine hK.out _ _ ?_ (fun hHeld=>?_)
   ·(try dsimp only)
    exact SQ.keep hHeld HB4.out
   clear hK K
   try simp only [Rg.gp]
   refine Rg.rd1 6 ⟨none,.store 79 (.tmp 7) (.tmp 22),0,"space.go:112",#[⟨5,.data⟩,⟨4,.data⟩,⟨4,.chain⟩,⟨0,.phase⟩,⟨1,.phase⟩,⟨2,.phase⟩,⟨3,.phase⟩,⟨4,.phase⟩,⟨5,.phase⟩],none⟩ fun K hK=>?_
   have hz:=HRZ5.out
   have hz:=hz.bx (S:=fun _=>False) (Bx.of HB3.out) id
   have hz:=hz.bx (S:=fun _=>False) (Bx.of HB4.out) id
   have HRZ:=Lib.hid hz
   obtain ⟨⟨r0,r1,r2,r3,r4⟩,rf,rl⟩:=hz
   have g0:=rf 0
   have g1:=rf 1
   have g2:=rf 2
   have g3:=rf 3
   have g4:=rf 4
   have HS10:=hHeld
   clear rf rl
   go_simp
   refine hK.out _ _ ?_ (fun hHeld=>?_)
   ·(try dsimp only)
    exact SQ.five HS10 HK5.out
   clear hK K
   try simp only [Rg.gp]
   have HFIN : Hid (BX x0.heap.size F b cap k (.slice aV nV cV) (((((x4.setCell ⟨x0.heap.size,0,none⟩ (.int .i64 F.p)).setCell ⟨x0.heap.size,1,none⟩ (.int .i64 F.e)).setCell ⟨x0.heap.size,2,none⟩ (FM F b cap)).setCell ⟨x0.heap.size,3,none⟩ (.int .i64 (k : Nat))).setCell ⟨x0.heap.size,4,none⟩ (.slice aV nV cV))):=Lib.hid (RZ.five HRZ.out F b cap (k:=k) (.slice aV nV cV) rfl)
   have HFB : Hid (Below w1.heap.size w1 (((((x4.setCell ⟨x0.heap.size,0,none⟩ (.int .i64 F.p)).setCell ⟨x0.heap.size,1,none⟩ (.int .i64 F.e)).setCell ⟨x0.heap.size,2,none⟩ (FM F b cap)).setCell ⟨x0.heap.size,3,none⟩ (.int .i64 (k : Nat))).setCell ⟨x0.heap.size,4,none⟩ (.slice aV nV cV))):=Lib.hid hHeld.2.out.2
   have HGG : Hid (w1.heap.size ≤ x0.heap.size ∧ (∀ i,i < T.length → rs4.getD i 0 ≠ x0.heap.size) ∧ (Value.slice aV nV cV).ownBlock ≠ some x0.heap.size):=Lib.hid ⟨HK5.out,fun i hi e=>by have:=HO4.out.lo i hi; have:=HRZ5.out.2.2; have:=HB3.out.size; omega,fun e=>by have:=(HO4.out.own.lt _ e).1; have:=HRZ5.out.2.2; have:=HB3.out.size; omega⟩
   have ho:=HO4.out
   have HOF : Hid (OR T rs4 (n + n) w1.heap.size (((((x4.setCell ⟨x0.heap.size,0,none⟩ (.int .i64 F.p)).setCell ⟨x0.heap.size,1,none⟩ (.int .i64 F.e)).setCell ⟨x0.heap.size,2,none⟩ (FM F b cap)).setCell ⟨x0.heap.size,3,none⟩ (.int .i64 (k : Nat))).setCell ⟨x0.heap.size,4,none⟩ (.slice aV nV cV)) (.slice aV nV cV)):=Lib.hid ((ho.bxn (five_bx (B:=x0.heap.size) _ _ _ _ _) (fun i hi=>HGG.out.2.1 i hi) (fun j hj e=>HGG.out.2.2 (by rw [hj,e]))).weak (by have t:=HX0.out; have:=HB5.out.size; have:=HB3.out.size; omega))
   clear ho
   generalize (((((x4.setCell ⟨x0.heap.size,0,none⟩ (.int .i64 F.p)).setCell ⟨x0.heap.size,1,none⟩ (.int .i64 F.e)).setCell ⟨x0.heap.size,2,none⟩ (FM F b cap)).setCell ⟨x0.heap.size,3,none⟩ (.int .i64 (k : Nat))).setCell ⟨x0.heap.size,4,none⟩ (.slice aV nV cV)) = x6 at *
   refine wpAnyH_done (by kernel_rfl) ?_ _
   clear hHeld HS10 HRZ HRZ5 r0 r1 r2 r3 r4 g0 g1 g2 g3 g4
   go_wp2_with fail
   go_meet
   case rel=>exact ⟨x0.heap.size,rs4,_,rfl,HGG,HFIN,HOF,HN4,HFB⟩
 case rest =>
  obtain ⟨G,rs,v0,rfl,HG,HBX,HOR,HNL,HBW⟩:=hcut
  obtain ⟨w2,hwc⟩ : ∃ w2,w2 = wc:=⟨_,rfl⟩
  subst hwc
  have HF2:=Lib.hid (HF1.out.below HBW.out)
  have HBW2 : Hid (Below W.heap.size W w2):=Lib.hid (HBW1.out.trans (HBW.out.mono HBW1.out.size))
  have HBb : Hid (b < w1.heap.size):=Lib.hid HF1.out.lt
  obtain ⟨⟨x0,x1,x2,x3,x4⟩,-,-⟩:=HBX.out
  have HK : Hid (k = n + n):=Lib.hid (by rw [← hk.out,if_neg (by omega)])
  obtain ⟨g,hov,hg⟩:=HOR.out.ov
  rcases hov with ⟨e1,-⟩ | ⟨c,hve,hc,hom⟩
  ·have:=HTL.out; rw [e1] at this; simp at this; omega
  rw [HTL.out] at hve hc
  subst hve
  have HGL : Hid (w1.heap.size ≤ g ∧ g ≠ G):=Lib.hid ⟨hg,fun e=>HG.out.2.2 (by rw [e]; rfl)⟩
  have HLO : Hid (∀ i,i < T.length → w1.heap.size ≤ rs.getD i 0):=Lib.hid HOR.out.lo
  have HSWP : Hid (Calls Try.prog 82 #[MV F b cap k (.slice (some ⟨g,0,none⟩) n c),.int .i64 (n : Nat)] w2 fun e w'=>∃ P M rs' a ca,e = .returned (.slice a P.length ca) ∧ NN P w' (.slice a P.length ca) ∧ SwP F T rs g (n + n) n P M rs' w' ∧ Bx (Mb T rs g) w2 w' ∧ (∀ r o,a = some ⟨r,o,none⟩ → w2.heap.size < r)):=Lib.hid (by
   have t:=sweep_c (c:=c) (cols:=n) HF2.out (by omega) (by rw [HTL.out]; omega) (by omega) hom HTM.out (by have:=HBb.out; omega) (fun i hi=>by have:=HLO.out i hi; have:=HBb.out; omega)
   rw [HTL.out,← HK.out] at t; rw [← HK.out]; exact t)
  have HNMb : Hid (∀ j,Mb T rs g j → w1.heap.size ≤ j ∧ j ≠ G):=Lib.hid (by
   rintro j (e | ⟨i,hi,e⟩)
   ·rw [e]; exact HGL.out
   ·rw [e]; exact ⟨HLO.out i hi,HG.out.2.1 i hi⟩)
  clear hom hg hc
  go_wp2_with fail
  with_reducible refine HSWP.out.mono ?_
  rintro z w3 ⟨P,M,rs',a,ca',rfl,hnp,hsw,hbx,hfr⟩
  have HB3 : Hid (Below w1.heap.size w2 w3):=Lib.hid (hbx.below HBW.out.size fun j hj=>(HNMb.out j hj).1)
  have HBW3 : Hid (Below W.heap.size W w3):=Lib.hid (HBW2.out.trans (HB3.out.mono HBW1.out.size))
  obtain ⟨⟨x0,x1,x2,x3,x4⟩,-,-⟩:=HBX.out.bx hbx fun e=>(HNMb.out G e).2 rfl
  have HML : Hid (M.length = n):=Lib.hid (hsw.len.trans HTL.out)
  have HPP : Hid (P = pivM F n A):=Lib.hid (hsw.sw.pivs HFF.out HMA.out hsw.sp HTC.out)
  have HPM : Hid (P.length ≤ n):=Lib.hid (by have:=hsw.sw.le; rw [List.length_map] at this; have:=HML.out; omega)
  obtain ⟨p,hp⟩ : ∃ p,Hid (P.length = p):=⟨_,Lib.hid rfl⟩
  have HSWF:=Lib.hid hsw
  rw [hp.out] at HPM ⊢
  have hpm:=HPM.out
  clear hnp hsw hbx hfr
  by_cases hpn : p < n
  ·have HNN : Hid (invM F n A = none):=Lib.hid (if_pos (by rw [← HPP.out,hp.out]; exact hpn))
   go_wp2
   refine bodyPost_ret (v:=.tuple #[.slice none 0 0,.int .i64 4]) (by simp [results,Try.results64,go_sem]) rfl ?_
   exact .inl ⟨HNN.out,rfl,HBW3.out⟩
  ·have HRS : Hid (invM F n A = some (M.map (List.drop n))):=Lib.hid (by
    unfold invM
    rw [if_neg (by rw [← HPP.out,hp.out]; exact hpn),hT.out]
    have h:=HSWF.out.sw
    have h2 : Sw F (n + n) (n + n) P (M.map Go.Fl.fn):=⟨h.lt,fun q hq=>by have:=h.bd q hq; omega,h.le,h.vs,h.lo,h.pv,fun q hq hq2=>by rw [List.length_map] at hq; have:=HML.out; have:=hp.out; omega⟩
    have h3:=(Sw.redM HFF.out HTM.out (fun r hr=>(HSWF.out.mn r hr).len) h2 HSWF.out.sp).1
    rw [List.take_of_length_le (by have:=HML.out; have:=hp.out; omega)] at h3
    rw [h3])
   have hpn1 : ¬ (p : Int) < (n : Int):=by omega
   go_wp2
   go_loopw [8,32] (fun v i wr=>∃ (q : Nat) (aV : Option Addr) (cV : Nat),q ≤ n ∧ v = .slice aV q cV ∧ i = .int .i64 q ∧ Hid (wr.ownsRow w3.heap.size 27 1 (.slice aV q cV) q ((rs'.take q).map fun r=>.slice (some ⟨r,n,none⟩) n n)) ∧ Hid (Below w3.heap.size w3 wr)) (fun _ i _=>n - (intOf i).toNat)
   case atStart=>exact ⟨0,none,0,Nat.zero_le _,rfl,rfl,⟨rfl,.inl ⟨rfl,rfl⟩⟩,Below.refl _ _⟩
   case round =>
    obtain ⟨q,aV,cV,hq,rfl,rfl,HO,KB⟩:=hrel
    have HOM : Hid (OM M g rs' (n + n) wr):=Lib.hid (HSWF.out.om.bx (S:=fun j=>w3.heap.size ≤ j) ⟨KB.out.os,KB.out.tape,KB.out.output,KB.out.size,fun k hk hs=>KB.out.block k (by omega)⟩ (by have:=HSWF.out.om.glt; omega) fun i hi=>by have:=(HSWF.out.om.rw' i hi).lt; omega)
    by_cases hlt : q < n
    ·have hq5 : q < 100:=by omega
     have hqM : q < M.length:=by rw [HML.out]; exact hlt
     obtain ⟨rk,hrk⟩ : ∃ r,Hid (rs'.getD q 0 = r):=⟨_,Lib.hid rfl⟩
     have hcg:=HOM.out.row q hqM
     rw [hrk.out] at hcg
     obtain ⟨N2,hN2⟩ : ∃ N,n + n = N:=⟨_,rfl⟩
     rw [hN2] at hcg
     have h20 : n ≤ N2:=by omega
     have h21 : ¬ N2 = n:=by omega
     have HN2 : Hid (N2 - n = n):=Lib.hid (by omega)
     have HVS : Hid ((rs'.take (q + 1)).map (fun r=>Value.slice (some ⟨r,n,none⟩) n n) = (rs'.take q).map (fun r=>.slice (some ⟨r,n,none⟩) n n) ++ [.slice (some ⟨rk,n,none⟩) n n]):=Lib.hid (by
      rw [take_snocV _ (by rw [HOM.out.len]; exact hqM),hrk.out])
     have HKS : Hid (w3.heap.size ≤ wr.heap.size):=Lib.hid KB.out.size
     clear hqM hN2
     go_wp2_with (at_builtin; refine wpList_append_own_at _ rfl _ _ 30 rfl w3.heap.size 27 j0 (.slice none 0 0) 1 24 Try.underlying30 ji jz0 jz1 jz2 rfl (by decide) _ _ _ rfl (HO.out.alloc _) ⟨wr.heap.size,0,none⟩ 1 1 [.slice (some ⟨rk,n,none⟩) (N2 - n) (N2 - n)] rfl rfl (cell_one_new _ _ _) (fun u hu=>by simp at hu; subst hu; rfl) ?d3 ?d4 ?d5 ?_)
     case d3=>unfold maxLen; omega
     case d4=>omega
     case d5=>have:=HKS.out; simp; omega
     intro v' w5 hown' hgrow hnil hat
     rw [HN2.out,← List.map_take] at hown'
     have HO5 : Hid (w5.ownsRow w3.heap.size 27 1 v' (q + 1) ((rs'.take (q + 1)).map fun r=>.slice (some ⟨r,n,none⟩) n n)):=Lib.hid (by rw [HVS.out]; exact hown')
     have HB5 : Hid (Below w3.heap.size w3 w5):=Lib.hid ((KB.out.alloc KB.out.size _).trans (Bx.below (Bx.grown hgrow fun k hk=>(HO.out.lt k hk).1) (by have:=HKS.out; simp; omega) fun k hk=>hk))
     obtain ⟨aV2,cV2,hvs⟩ : ∃ a c,v' = .slice a (q + 1) c:=by
      rcases HO5.out.2 with ⟨e,e2⟩ | ⟨_,_,_,e,_⟩
      ·exact ⟨none,0,by rw [e,e2]⟩
      ·exact ⟨_,_,e⟩
     subst hvs
     clear hown' hgrow hnil hat
     go_wp2
     go_roundw
     case rel=>exact ⟨q + 1,aV2,cV2,by omega,rfl,by go_num,HO5,HB5⟩
     case measure=>simp [intOf]; omega
    ·obtain rfl : q = n:=by omega
     have hlt1 : ¬ (q : Int) < (q : Int):=by omega
     have HBF : Hid (Below W.heap.size W wr):=Lib.hid (HBW3.out.trans (KB.out.mono HBW3.out.size))
     have HMF : Hid (MM (M.map (List.drop q)) wr (.slice aV q cV)):=Lib.hid (halves h1 HOM.out HSWF.out.mn (by rw [HML.out]; exact HO.out))
     have HLF : Hid ((M.map (List.drop q)).length = q):=Lib.hid (by rw [List.length_map,HML.out])
     go_wp2
     refine bodyPost_ret (v:=.tuple #[.slice aV q cV,.int .i64 0]) (by simp [results,Try.results64,go_sem]) rfl ?_
     exact .inr ⟨_,aV,cV,HRS.out,by rw [HLF.out],by rw [HLF.out]; exact HMF.out,HBF.out⟩
end Go.Proofs.Yteeofijcndgbfaa
