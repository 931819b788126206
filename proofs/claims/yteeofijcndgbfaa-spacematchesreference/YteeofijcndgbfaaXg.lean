/- Has and Join of the reference. -/
import Derived.Test.YteeofijcndgbfaaEvTk
import Derived.Test.YteeofijcndgbfaaXc
import Derived.Test.YteeofijcndgbfaaWd
namespace Go.Proofs.Yteeofijcndgbfaa
open Go.RowKit Go.Fl
set_option maxRecDepth 100000
set_option linter.unusedVariables false
set_option linter.unusedSimpArgs false
set_option linter.unusedSectionVars false
theorem MM.src {A : List (List Nat)} {w : World} {a : Option Addr} {m c : Nat} (la : A.length = m) (h : MM A w (.slice a m c)) : ∃ us : List Value,us.length = m ∧ (∀ u ∈ us,u.oneCell' = true) ∧ (∀ i,i < m → NN (A.getD i []) w (us.getD i undef)) ∧ ∀ w',Below w.heap.size w w' →
  ((a = none ∧ m = 0 ∧ c = 0 ∧ us = []) ∨ ∃ d,a = some d ∧ us.length = m * 1 ∧ ∀ j u,us[j]? = some u → w'.cell? (d.add j) = some u):=by
 subst la
 rcases h with ⟨e,h⟩ | ⟨b,o,cap,h,h2,h3,h4⟩
 ·injection h with h5 h6 h7
  subst e
  exact ⟨[],rfl,nofun,fun i hi=>absurd hi (by simp),fun w' _=>.inl ⟨h5,rfl,h7,rfl⟩⟩
 ·injection h with h5 _ h7
  subst h5 h7
  obtain ⟨us,u1,u2,u3,u4⟩:=MM.vals (R:=A) (b:=b) (o:=o) (c:=c) (.inr ⟨b,o,c,rfl,h2,h3,h4⟩)
  refine ⟨us,u1,u3,u4,fun w' hb=>.inr ⟨_,rfl,by rw [u1,Nat.mul_one],fun j u hu=>?_⟩⟩
  have e:=u2 j u hu
  exact (hb.cell (p:=(⟨b,o,none⟩ : Addr).add j) (World.block_lt_of_cell? w _ e)).trans e
theorem MM.of_own {D : List (List Nat)} {us : List Value} {base : Nat} {w : World} {v : Value} {m : Nat} (lm : D.length = m) (h : w.ownsRow base 27 1 v m us) (hn : ∀ i,i < m → NN (D.getD i []) w (us.getD i undef)) : MM D w v:=by
 subst lm
 have hu : us.length = D.length:=by have:=h.1; omega
 rcases h.2 with ⟨e,e2⟩ | ⟨g,cap,cur,rfl,h3,h4,h5,h6,h7,h8⟩
 ·exact .inl ⟨List.eq_nil_of_length_eq_zero e2,e⟩
 ·have hlt : g < w.heap.size:=by
   rcases Nat.lt_or_ge g w.heap.size with h | h
   ·exact h
   ·rw [Array.getElem?_eq_none h] at h4; cases h4
  refine .inr ⟨g,0,cap,rfl,h5,hlt,fun t ht=>?_⟩
  have hc:=h.cells (g:=g) rfl t (us.getD t undef) (by
   rw [List.getD_eq_getElem?_getD,List.getElem?_eq_getElem (by rw [hu]; exact ht)]; rfl)
  have hadd : (⟨g,0,none⟩ : Addr).add t = ⟨g,t,none⟩:=by unfold Addr.add; split <;> simp_all
  rw [hadd] at hc
  obtain ⟨a,c,hs⟩:=(hn t ht).shape
  rw [hs] at hc
  exact ⟨a,c,by rw [Nat.zero_add]; exact hc,hs ▸ hn t ht⟩
theorem own_empty27 (w : World) (base : Nat) (hb : base ≤ w.heap.size) : (w.alloc (.cells #[] 27)).ownsRow base 27 1 (.slice (some ⟨w.heap.size,0,none⟩) 0 0) 0 []:=World.ownsRow_made w #[] 0 hb (Nat.zero_le _) rfl
set_option maxHeartbeats 6400000 in
theorem rjoin_c {F : Gf} {b cap n la lb ca cb : Nat} {A B : List (List Nat)} {aa ab : Option Addr} {W : World} (hA : FldAt F b cap W) (hn : n ≤ 1000) (hla : la ≤ 400) (hlb : lb ≤ 400) (lA : A.length = la) (lB : B.length = lb) (ma : Mn F n A) (mb : Mn F n B) (na : MM A W (.slice aa la ca)) (nb : MM B W (.slice ab lb cb)) :
  Calls Try.prog 29 #[FV F b cap,.slice aa la ca,.slice ab lb cb] W (MPost (redM F n (A ++ B)) W):=by
 obtain ⟨j0,ji,jz0,jz1,jz2⟩:=info_parts info27
 obtain ⟨w1,hw1⟩ : ∃ w1,w1 = W.alloc (.cells #[.int .i64 F.p,.int .i64 F.e,FM F b cap] 29):=⟨_,rfl⟩
 have HAL : Hid (Below W.heap.size W w1):=Lib.hid (by rw [hw1]; exact (Below.refl _ _).alloc (Nat.le_refl _) _)
 have HS1 : Hid (W.heap.size < w1.heap.size):=Lib.hid (by rw [hw1]; simp)
 have HFB : Hid (FBx W.heap.size F b cap w1):=Lib.hid (by rw [hw1]; exact FBx.new W F b cap)
 have HF1:=Lib.hid (hA.below HAL.out)
 obtain ⟨us,u1,u2,u3,u4⟩:=MM.src lA (na.below HAL.out)
 obtain ⟨vs,v1,v2,v3,v4⟩:=MM.src lB (nb.below HAL.out)
 have HU:=Lib.hid (And.intro u1 (And.intro u2 (And.intro u3 u4)))
 have HV:=Lib.hid (And.intro v1 (And.intro v2 (And.intro v3 v4)))
 have HMM : Hid (Mn F n (A ++ B)):=Lib.hid (mapp ma mb)
 have HLL : Hid ((A ++ B).length = la + lb):=Lib.hid (by rw [List.length_append,lA,lB])
 have HROWS : Hid (∀ i,i < la + lb → NN ((A ++ B).getD i []) w1 ((us ++ vs).getD i undef)):=Lib.hid (fun i hi=>by
  rw [List.getD_eq_getElem?_getD,List.getD_eq_getElem?_getD,List.getElem?_append,List.getElem?_append,lA,u1]
  by_cases h : i < la
  ·rw [if_pos h,if_pos h]; have:=u3 i h; rwa [List.getD_eq_getElem?_getD,List.getD_eq_getElem?_getD] at this
  ·rw [if_neg h,if_neg h]; have:=v3 (i - la) (by omega); rwa [List.getD_eq_getElem?_getD,List.getD_eq_getElem?_getD] at this)
 have HW1:=Lib.hid hw1
 obtain ⟨x0,x1,x2⟩:=HFB.out
 have hS0 : SZ F b cap W.heap.size W.heap.size 0 W.heap.size 0 (.int .i64 F.p) (.int .i64 F.p) w1.heap.size w1 w1.drew:=
  ⟨⟨x0,x1,x2⟩,x0,x0,Lib.hid ⟨HF1.out.bx (Bx.refl (fun _=>False) w1).drew id,(Below.refl _ _).drew,Nat.le_refl _,HS1.out,HS1.out,HS1.out,HF1.out.lt⟩⟩
 clear hA na nb hw1 ma mb lA lB u1 u2 u3 u4 v1 v2 v3 v4 x0 x1 x2
 go_enter Try.func29,Try.ntmps29
 go_wp2_with fail
 rw [← HW1.out]
 clear HW1
 obtain ⟨base,hbs⟩ : ∃ g,g = w1.heap.size:=⟨_,rfl⟩
 rw [← hbs] at hS0
 have HBS:=Lib.hid hbs
 clear hbs
 refine wp_region_held_drew (S:=fun w'=>SZ F b cap W.heap.size W.heap.size 0 W.heap.size 0 (.int .i64 F.p) (.int .i64 F.p) base w1 w') (by kernel_rfl) (by with_reducible exact hS0) (fun hHeld=>?_)
 refine Rg.tk 0 ⟨some 7,.load 29 (.tmp 3),29,"ref.go:225",#[],none⟩ ?_
 try simp only [Rg.gp]
 refine Rg.tk 2 ⟨some 9,.move (.tmp 1),30,"ref.go:225",#[],none⟩ ?_
 try simp only [Rg.gp]
 refine Rg.tk 4 ⟨some 11,.move (.tmp 2),30,"ref.go:225",#[],none⟩ ?_
 try simp only [Rg.gp]
 refine Rg.rd1 1 ⟨some 8,.buildSlice 30 0 #[],30,"ref.go:225",#[],none⟩ fun K hK=>?_
 go_simp
 refine hK.out _ _ ?_ (fun hHeld=>?_)
 ·(try dsimp only)
  exact SZ.keep hHeld ((Below.refl _ _).alloc (Nat.le_refl _) _)
 clear hK K
 try simp only [Rg.gp]
 obtain ⟨v5,hv5⟩ : ∃ v,w1.drew.alloc (.cells #[] 27) = v:=⟨_,rfl⟩
 obtain ⟨g5,hg5⟩ : ∃ g,w1.heap.size = g:=⟨_,rfl⟩
 have HE5 : Hid (v5.ownsRow base 27 1 (.slice (some ⟨g5,0,none⟩) 0 0) 0 []):=Lib.hid (by rw [← hv5,← hg5]; exact own_empty27 w1.drew base (Nat.le_of_eq HBS.out))
 have HA5 : Hid (Below w1.heap.size w1 v5):=Lib.hid (by rw [← hv5]; exact (Below.refl _ _).drew.alloc (Nat.le_refl _) _)
 rw [show (w1.alloc (.cells #[] 27)).drew = v5 from hv5,hg5]
 first | rw [hv5] at hHeld | rw [show (w1.alloc (.cells #[] 27)).drew = v5 from hv5] at hHeld
 clear hv5 hg5
 refine Rg.rd1 3 ⟨some 10,.call ⟨.builtin Builtin.append,#[.tmp 8,.tmp 9],#[30,30]⟩,30,"ref.go:225",#[⟨1,.data⟩,⟨2,.data⟩],none⟩ fun K hK=>?_
 refine step_append_src rfl _ _ 30 rfl base 27 j0 (.slice none 0 0) 1 24 Try.underlying30 ji jz0 jz1 jz2 rfl (by decide) _ 0 _ rfl HE5.out aa la ca us rfl (HU.out.2.2.2 _ (HA5.out)) HU.out.2.1 (by unfold maxLen; omega) (by omega) (by rw [HBS.out]; exact HA5.out.size) ?_
 intro v6 w6 hown6 hgrow6
 refine hK.out _ _ ?_ (fun hHeld=>?_)
 ·(try dsimp only)
  exact SZ.go hHeld (below_own hgrow6 (fun k e=>(HE5.out.lt k e).1) (by rw [HBS.out]; exact HA5.out.size))
 clear hK K
 try simp only [Rg.gp]
 have HB6 : Hid (Below w1.heap.size w1 w6):=Lib.hid (by rw [← HBS.out]; exact hHeld.2.2.2.out.2.1)
 have HO6 : Hid (w6.ownsRow base 27 1 v6 la us):=Lib.hid (by have h:=hown6; rwa [Nat.zero_add,List.nil_append] at h)
 clear hown6 hgrow6
 refine Rg.rd1 5 ⟨some 12,.call ⟨.builtin Builtin.append,#[.tmp 10,.tmp 11],#[30,30]⟩,30,"ref.go:225",#[⟨3,.data⟩,⟨4,.data⟩,⟨3,.chain⟩],none⟩ fun K hK=>?_
 refine step_append_src rfl _ _ 30 rfl base 27 j0 (.slice none 0 0) 1 24 Try.underlying30 ji jz0 jz1 jz2 rfl (by decide) _ la _ rfl HO6.out ab lb cb vs rfl (HV.out.2.2.2 _ (HB6.out)) HV.out.2.1 (by unfold maxLen; omega) (by omega) (by rw [HBS.out]; exact HB6.out.size) ?_
 intro v7 w7 hown7 hgrow7
 refine hK.out _ _ ?_ (fun hHeld=>?_)
 ·(try dsimp only)
  exact SZ.go hHeld (below_own hgrow7 (fun k e=>(HO6.out.lt k e).1) (by rw [HBS.out]; exact HB6.out.size))
 clear hK K
 try simp only [Rg.gp]
 have HB7 : Hid (Below w1.heap.size w1 w7):=Lib.hid (by rw [← HBS.out]; exact hHeld.2.2.2.out.2.1)
 have HM7 : Hid (MM (A ++ B) w7 v7):=Lib.hid (MM.of_own HLL.out hown7 fun i hi=>(HROWS.out i hi).below HB7.out)
 obtain ⟨a8,c8,hv8⟩ : ∃ a c,v7 = .slice a (la + lb) c:=by
  rcases hown7.2 with ⟨e,e2⟩ | ⟨_,_,_,e,_⟩
  ·exact ⟨none,0,by rw [e,e2]⟩
  ·exact ⟨_,_,e⟩
 subst hv8
 clear hown7 hgrow7
 refine Rg.rd1 6 ⟨some 13,.call ⟨.value (.func 16),#[.tmp 7,.tmp 12],#[29,30]⟩,30,"ref.go:225",#[⟨0,.data⟩,⟨5,.data⟩,⟨5,.chain⟩],none⟩ fun K hK=>?_
 go_simp
 go_at_call 16
 with_reducible refine (redr_c (F:=F) (n:=n) (m:=la + lb) (A:=A ++ B) (aa:=a8) (ca:=c8) hHeld.2.2.2.out.1 hn (by omega) HLL.out HMM.out HM7.out).mono ?_
 rintro z w9 ⟨a9,c9,rfl,hm9,hb9⟩
 refine hK.out _ _ ?_ (fun hHeld=>?_)
 ·(try dsimp only)
  exact SZ.keep hHeld hb9
 clear hK K
 try simp only [Rg.gp]
 have HM9:=Lib.hid hm9
 have HBF : Hid (Below W.heap.size W w9):=Lib.hid (HAL.out.trans ((HB7.out.trans (hb9.mono HB7.out.size)).mono HAL.out.size))
 clear hm9 hb9
 refine Rg.tk 7 ⟨some 6,.assign (.tmp 13),30,"ref.go:225",#[⟨6,.data⟩,⟨6,.chain⟩,⟨0,.phase⟩,⟨1,.phase⟩,⟨2,.phase⟩,⟨3,.phase⟩,⟨4,.phase⟩,⟨5,.phase⟩,⟨6,.phase⟩],none⟩ ?_
 try simp only [Rg.gp]
 refine wpAnyH_done (by kernel_rfl) ?_ _
 clear hHeld
 go_wp2
 go_ret
 exact ⟨a9,c9,rfl,HM9.out,HBF.out⟩
theorem has_eq {F : Gf} (hF : Ok F) {n : Nat} {A : List (List Nat)} {V : List Nat} (hA : Mn F n A) (hV : Vn F n V) : decide (pvt (Go.Fl.fn (clS F n (redM F n A) V (redM F n A).length)) n = n) = hasV F n A V:=by
 obtain ⟨-,hL,-⟩:=redM_ok hF hA
 have h:=clS_clr hF hL hV
 rw [show (redM F n A).length = (redL F n (A.map Go.Fl.fn)).length from by unfold redM; rw [List.length_map]]
 have hvn : Vn F n (clS F n (redM F n A) V (redL F n (A.map Go.Fl.fn)).length):=clS_vn hF hV _
 have h' : Go.Fl.fn (clS F n (redM F n A) V (redL F n (A.map Go.Fl.fn)).length) = clr F (redL F n (A.map Go.Fl.fn)) (Go.Fl.fn V):=h
 unfold hasV
 generalize clS F n (redM F n A) V (redL F n (A.map Go.Fl.fn)).length = X at hvn h'
 generalize clr F (redL F n (A.map Go.Fl.fn)) (Go.Fl.fn V) = u at h'
 have hhi : ∀ j,n ≤ j → u j = 0:=fun j hj=>by
  rw [← h']
  show X.getD j 0 = 0
  have hl:=hvn.len
  rw [List.getD_eq_getElem?_getD,List.getElem?_eq_none (by omega)]; rfl
 rw [h',Bool.eq_iff_iff,decide_eq_true_iff,zV_iff hF]
 constructor
 ·intro e j hj
  exact (pvt_spec u n).2.1 j (by omega)
 ·intro e
  exact pvt_uniq (Nat.le_refl _) (fun j hj=>e j hj) (fun h=>absurd h (by omega))
set_option maxHeartbeats 6400000 in
theorem rhas_c {F : Gf} {b cap n m ca cv : Nat} {A : List (List Nat)} {V : List Nat} {aa av : Option Addr} {W : World} (hA : FldAt F b cap W) (hn : n ≤ 1000) (hm : m ≤ 1000) (la : A.length = m) (ma : Mn F n A) (mv : Vn F n V) (na : MM A W (.slice aa m ca)) (nv : NN V W (.slice av n cv)) :
  Calls Try.prog 27 #[FV F b cap,.slice aa m ca,.slice av n cv] W fun e w'=>e = .returned (.bool (hasV F n A V)) ∧ Below W.heap.size W w':=by
 have HFF : Hid (Ok F):=Lib.hid (ok_mem hA.mem)
 obtain ⟨w1,hw1⟩ : ∃ w1,w1 = W.alloc (.cells #[.int .i64 F.p,.int .i64 F.e,FM F b cap] 29):=⟨_,rfl⟩
 have HAL : Hid (Below W.heap.size W w1):=Lib.hid (by rw [hw1]; exact (Below.refl _ _).alloc (Nat.le_refl _) _)
 have HS1 : Hid (W.heap.size < w1.heap.size):=Lib.hid (by rw [hw1]; simp)
 have HFB : Hid (FBx W.heap.size F b cap w1):=Lib.hid (by rw [hw1]; exact FBx.new W F b cap)
 have HF1:=Lib.hid (hA.below HAL.out)
 have HMA:=Lib.hid ma
 have HLA:=Lib.hid la
 have HMV:=Lib.hid mv
 have HNA:=Lib.hid (na.below HAL.out)
 have HNV:=Lib.hid (nv.below HAL.out)
 obtain ⟨Q,hQ⟩ : ∃ L,Hid (redM F n A = L):=⟨_,Lib.hid rfl⟩
 obtain ⟨ql,hql⟩ : ∃ L,Hid (Q.length = L):=⟨_,Lib.hid rfl⟩
 have hq5 : ql ≤ 1000:=by have:=redM_le HFF.out ma; rw [hQ.out,hql.out] at this; omega
 have HQN : Hid (Mn F n Q):=Lib.hid (by rw [← hQ.out]; exact (redM_ok HFF.out ma).1)
 have HQP : Hid (∀ i,i < ql → pvt (Go.Fl.fn (Q.getD i [])) n < n):=Lib.hid (fun i hi=>by rw [← hql.out,← hQ.out] at hi; rw [← hQ.out]; exact redM_pvt HFF.out ma hi)
 obtain ⟨C,hC⟩ : ∃ L,Hid (clS F n Q V ql = L):=⟨_,Lib.hid rfl⟩
 have HVC : Hid (Vn F n C):=Lib.hid (by rw [← hC.out]; exact clS_vn HFF.out mv _)
 obtain ⟨pp,hpp⟩ : ∃ L,Hid (pvt (Go.Fl.fn C) n = L):=⟨_,Lib.hid rfl⟩
 obtain ⟨B,hB⟩ : ∃ L,Hid (hasV F n A V = L):=⟨_,Lib.hid rfl⟩
 have HBP : Hid (B = true ↔ pp = n):=Lib.hid (by rw [← hB.out,← has_eq HFF.out ma mv,hQ.out,hql.out,hC.out,hpp.out,decide_eq_true_iff])
 rw [hB.out]
 have HW1:=Lib.hid hw1
 obtain ⟨x0,x1,x2⟩:=HFB.out
 have hS0 : SZ F b cap W.heap.size W.heap.size 0 W.heap.size 0 (.int .i64 F.p) (.int .i64 F.p) w1.heap.size w1 w1.drew:=
  ⟨⟨x0,x1,x2⟩,x0,x0,Lib.hid ⟨HF1.out.bx (Bx.refl (fun _=>False) w1).drew id,(Below.refl _ _).drew,Nat.le_refl _,HS1.out,HS1.out,HS1.out,HF1.out.lt⟩⟩
 clear hA na nv hw1 ma mv la x0 x1 x2
 go_enter Try.func27,Try.ntmps27
 go_wp2_with fail
 rw [← HW1.out]
 clear HW1
 refine wp_region_held_drew (S:=fun w'=>SZ F b cap W.heap.size W.heap.size 0 W.heap.size 0 (.int .i64 F.p) (.int .i64 F.p) w1.heap.size w1 w') (by kernel_rfl) (by with_reducible exact hS0) (fun hHeld=>?_)
 refine Rg.tk 0 ⟨some 8,.load 29 (.tmp 3),29,"ref.go:219",#[],none⟩ ?_
 try simp only [Rg.gp]
 refine Rg.tk 1 ⟨some 9,.load 29 (.tmp 3),29,"ref.go:219",#[],none⟩ ?_
 try simp only [Rg.gp]
 refine Rg.tk 2 ⟨some 10,.move (.tmp 1),30,"ref.go:219",#[],none⟩ ?_
 try simp only [Rg.gp]
 refine Rg.tk 4 ⟨some 12,.move (.tmp 2),27,"ref.go:219",#[],none⟩ ?_
 try simp only [Rg.gp]
 refine Rg.rd1 3 ⟨some 11,.call ⟨.value (.func 16),#[.tmp 9,.tmp 10],#[29,30]⟩,30,"ref.go:219",#[⟨1,.data⟩,⟨2,.data⟩],none⟩ fun K hK=>?_
 go_simp
 go_at_call 16
 with_reducible refine (show Calls Try.prog 16 #[FV F b cap,.slice aa m ca] _ (MPn Q ql _) from by have t:=redr_c hHeld.2.2.2.out.1 hn hm HLA.out HMA.out (HNA.out.below hHeld.2.2.2.out.2.1); rw [hQ.out] at t; exact t.mono fun _ _ h=>h.n hql.out).mono ?_
 rintro z v8 ⟨a8,c8,rfl,hm8,hb8⟩
 refine hK.out _ _ ?_ (fun hHeld=>?_)
 ·(try dsimp only)
  exact SZ.keep hHeld hb8
 clear hK K
 try simp only [Rg.gp]
 refine Rg.rd1 5 ⟨some 13,.call ⟨.value (.func 62),#[.tmp 8,.tmp 11,.tmp 12],#[29,30,27]⟩,27,"ref.go:219",#[⟨0,.data⟩,⟨3,.data⟩,⟨4,.data⟩,⟨3,.chain⟩],none⟩ fun K hK=>?_
 go_simp
 go_at_call 62
 with_reducible refine (show Calls Try.prog 62 #[FV F b cap,.slice a8 ql c8,.slice av n cv] _ (VPn C n _) from by have t:=cleared_c hHeld.2.2.2.out.1 hn hq5 hql.out HQN.out HMV.out HQP.out hm8 (HNV.out.below hHeld.2.2.2.out.2.1); rw [hC.out] at t; exact t).mono ?_
 rintro z v9 ⟨a9,c9,rfl,hn9,hb9⟩
 refine hK.out _ _ ?_ (fun hHeld=>?_)
 ·(try dsimp only)
  exact SZ.keep hHeld hb9
 clear hK K
 try simp only [Rg.gp]
 refine Rg.tk 6 ⟨some 7,.assign (.tmp 13),27,"ref.go:219",#[⟨5,.data⟩,⟨5,.chain⟩,⟨0,.phase⟩,⟨1,.phase⟩,⟨2,.phase⟩,⟨3,.phase⟩,⟨4,.phase⟩,⟨5,.phase⟩],none⟩ ?_
 try simp only [Rg.gp]
 refine wpAnyH_done (by kernel_rfl) ?_ _
 have HB9 : Hid (Below w1.heap.size w1 v9):=Lib.hid hHeld.2.2.2.out.2.1
 have HN9:=Lib.hid hn9
 clear hHeld hS0 hb9 hn9 hm8 hb8
 obtain ⟨w9,hw9⟩ : ∃ w,w = v9:=⟨_,rfl⟩
 subst hw9
 have HPC : Hid (Calls Try.prog 45 #[.slice a9 n c9] w9 fun e w'=>e = .returned (.int .i64 (pp : Nat)) ∧ Below w9.heap.size w9 w'):=Lib.hid (by have t:=pivot_c (L:=C) (a:=a9) (c:=c9) (W:=w9) (by rw [HVC.out.len]; omega) (by rw [HVC.out.len]; exact HN9.out); rw [HVC.out.len,hpp.out] at t; exact t)
 go_wp2_with fail
 with_reducible refine HPC.out.mono ?_
 rintro e w10 ⟨rfl,hb10⟩
 have HBF : Hid (Below W.heap.size W w10):=Lib.hid (HAL.out.trans ((HB9.out.trans (hb10.mono HB9.out.size)).mono HAL.out.size))
 clear hb10 HPC
 cases B
 ·have hne : ¬ (pp : Int) = (n : Int):=fun e=>by have:=HBP.out.2 (by omega); cases this
  have hneb : ((pp : Int) == (n : Int)) = false:=by simp; omega
  go_wp2
  go_ret
  exact ⟨rfl,HBF.out⟩
 ·have hne : (pp : Int) = (n : Int):=by have:=HBP.out.1 rfl; omega
  have hneb : ((pp : Int) == (n : Int)) = true:=by simp; omega
  go_wp2
  go_ret
  exact ⟨rfl,HBF.out⟩
def kcM (n : Nat) (A : List (List Nat)) (k : Nat) : List (List Nat):=(List.range k).map fun j=>clM A j ++ eL n j
theorem kcM_succ (n k : Nat) (A : List (List Nat)) : kcM n A (k + 1) = kcM n A k ++ [clM A k ++ eL n k]:=by unfold kcM; rw [List.range_succ,List.map_append]; rfl
theorem kcM_len (n k : Nat) (A : List (List Nat)) : (kcM n A k).length = k:=by simp [kcM]
theorem eL_vn {F : Gf} (hF : Ok F) {n : Nat} (k : Nat) : Vn F n (eL n k):=⟨by simp,fun x hx=>by
 rcases List.mem_or_eq_of_mem_set hx with h | h
 ·rw [List.eq_of_mem_replicate h]; exact hF.zero_lt
 ·rw [h]; exact hF.one_lt⟩
theorem vn_app {F : Gf} {m n : Nat} {a b : List Nat} (ha : Vn F m a) (hb : Vn F n b) : Vn F (m + n) (a ++ b):=⟨by rw [List.length_append,ha.len,hb.len],fun x hx=>by
 rcases List.mem_append.1 hx with h | h
 ·exact ha.el x h
 ·exact hb.el x h⟩
theorem kcM_mn {F : Gf} (hF : Ok F) {n m : Nat} {A : List (List Nat)} (hA : Mn F n A) (la : A.length = m) (k : Nat) : Mn F (m + n) (kcM n A k):=fun r hr=>by
 obtain ⟨j,_,rfl⟩:=List.mem_map.1 hr
 exact vn_app (clM_vn hF hA la j) (eL_vn hF j)
def kfL (m N : Nat) (R : List (List Nat)) : List (List Nat):=(R.filter fun r=>decide (m ≤ pvt (Go.Fl.fn r) N)).map (List.drop m)
theorem kfL_snoc {m N k : Nat} {R : List (List Nat)} (hk : k < R.length) : kfL m N (R.take (k + 1)) = if m ≤ pvt (Go.Fl.fn (R.getD k [])) N then kfL m N (R.take k) ++ [(R.getD k []).drop m] else kfL m N (R.take k):=by
 unfold kfL
 rw [take_snoc (d:=[]) hk,List.filter_append,List.map_append]
 generalize R.getD k [] = r
 by_cases h : m ≤ pvt (Go.Fl.fn r) N
 ·rw [if_pos h]; simp [h]
 ·rw [if_neg h]; simp [h]
theorem kfL_len (m N : Nat) (R : List (List Nat)) : (kfL m N R).length ≤ R.length:=by unfold kfL; rw [List.length_map]; exact List.length_filter_le _ _
theorem NN.dropm {L : List Nat} {w : World} {b o c N m : Nat} (h : NN L w (.slice (some ⟨b,o,none⟩) N c)) (hN : L.length = N) (hm : m ≤ N) : NN (L.drop m) w (.slice (some ⟨b,o + m,none⟩) (N - m) (c - m)) ∧ N ≤ c:=by
 subst hN
 rcases h with ⟨_,h⟩ | ⟨b',o',c',h,h2,h3,h4⟩
 ·cases h
 ·injection h with h5 _ h7
  injection h5 with h5
  injection h5 with h5 h6
  subst h5 h6 h7
  refine ⟨.inr ⟨b,o + m,c - m,by rw [List.length_drop],by rw [List.length_drop]; omega,h3,fun t ht=>?_⟩,h2⟩
  rw [List.length_drop] at ht
  have:=h4 (m + t) (by omega)
  rw [Nat.add_assoc,this]
  simp only [List.getD_eq_getElem?_getD,List.getElem?_drop]
theorem num_cellsP {L : List Nat} {w : World} {b off : Nat} (hc : ∀ t,t < L.length → w.cell? ⟨b,off + t,none⟩ = some (.int .i64 (L.getD t 0 : Nat))) (j : Nat) (u : Value) (h : (L.map N64)[j]? = some u) : w.cell? ⟨b,off + j,none⟩ = some u:=by
 have:=num_cellsK hc j u h
 rwa [show (⟨b,off,none⟩ : Addr).add j = ⟨b,off + j,none⟩ from by unfold Addr.add; split <;> simp_all] at this
theorem own_slice27 {w : World} {base n : Nat} {v : Value} {xs : List Value} (h : w.ownsRow base 27 1 v n xs) : ∃ a c,v = .slice a n c:=by
 rcases h.2 with ⟨e,e2⟩ | ⟨_,_,_,e,_⟩
 ·exact ⟨none,0,by rw [e,e2]⟩
 ·exact ⟨_,_,e⟩
set_option maxHeartbeats 12800000 in
theorem rkern_r {F : Gf} {b cap n m ca : Nat} {A : List (List Nat)} {aa : Option Addr} {W : World} (hA : FldAt F b cap W) (hn : n ≤ 24) (hm : m ≤ 100) (la : A.length = m) (ma : Mn F n A) (na : MM A W (.slice aa m ca)) :
  Calls Try.prog 19 #[FV F b cap,.int .i64 (n : Nat),.slice aa m ca] W (MPost (kfL m (m + n) (redM F (m + n) (kcM n A n))) W):=by
 obtain ⟨i0,hi,hz0,hz1,hz2⟩:=info_parts info3
 obtain ⟨j0,ji,jz0,jz1,jz2⟩:=info_parts info27
 have HFF : Hid (Ok F):=Lib.hid (ok_mem hA.mem)
 have HWD : Hid (∀ k,k < m → n ≤ (A.getD k []).length):=Lib.hid (fun k hk=>by rw [(mrow ma (by rw [la]; exact hk)).len]; exact Nat.le_refl _)
 have HLA:=Lib.hid la
 have HMA:=Lib.hid ma
 obtain ⟨w1,hw1⟩ : ∃ w1,w1 = W.alloc (.cells #[.int .i64 F.p,.int .i64 F.e,FM F b cap] 29):=⟨_,rfl⟩
 have HAL : Hid (Below W.heap.size W w1):=Lib.hid (by rw [hw1]; exact (Below.refl _ _).alloc (Nat.le_refl _) _)
 have HS1 : Hid (w1.heap.size = W.heap.size + 1):=Lib.hid (by rw [hw1]; simp)
 have HFB : Hid (FBx W.heap.size F b cap w1):=Lib.hid (by rw [hw1]; exact FBx.new W F b cap)
 have HF1:=Lib.hid (hA.below HAL.out)
 obtain ⟨w2,hw2⟩ : ∃ w2,w2 = w1.alloc (.cells #[] 27):=⟨_,rfl⟩
 obtain ⟨bs,hbs⟩ : ∃ g,g = W.heap.size + 1:=⟨_,rfl⟩
 have HBS : Hid (bs = w1.heap.size):=Lib.hid (by rw [hbs]; exact HS1.out.symm)
 have HB2 : Hid (Below bs w1 w2):=Lib.hid (by rw [hw2,HBS.out]; exact (Below.refl _ _).alloc (Nat.le_refl _) _)
 have HO2 : Hid (OL [] [] bs w2 (.slice (some ⟨bs,0,none⟩) 0 0)):=Lib.hid (by rw [hw2,HBS.out]; exact OL.nil _ w1 (Nat.le_refl _))
 have HW2:=Lib.hid (by rw [hw1] at hw2; exact hw2)
 have HNA:=Lib.hid (na.below HAL.out)
 obtain ⟨N,hN⟩ : ∃ N,Hid (m + n = N):=⟨_,Lib.hid rfl⟩
 have hN5 : N ≤ 124:=by rw [← hN.out]; omega
 have hmN : m ≤ N:=by rw [← hN.out]; omega
 rw [hN.out]
 clear na hw2 hw1 la ma hA
 go_enter Try.func19,Try.ntmps19
 go_wp2
 rw [← HW2.out,← hbs]
 clear HW2
 have HBW : Hid (W.heap.size < bs):=Lib.hid (by omega)
 clear hbs
 go_loopw [7,8] (fun v i wr=>∃ (k : Nat) (us : List Value),k ≤ n ∧ i = .int .i64 k ∧ Hid (OL (kcM n A k) us bs wr v) ∧ Hid (Below bs w1 wr)) (fun _ i _=>n - (intOf i).toNat)
 case atStart=>exact ⟨0,[],Nat.zero_le _,rfl,HO2,HB2⟩
 case round =>
  obtain ⟨k,us,hk,rfl,HO,KB⟩:=hrel
  obtain ⟨aP,cP,hvs⟩:=HO.out.shape
  rw [kcM_len] at hvs
  subst hvs
  obtain ⟨wo,hwo⟩ : ∃ w,w = wr:=⟨_,rfl⟩
  subst hwo
  have KBS : Hid (Below w1.heap.size w1 wo):=Lib.hid (by rw [← HBS.out]; exact KB.out)
  by_cases hlt : k < n
  ·have hk5 : k < 100:=by omega
   obtain ⟨w4,hw4⟩ : ∃ w,w = wo.alloc (.cells #[] 3):=⟨_,rfl⟩
   have HE4 : Hid (w4.ownsRow wo.heap.size 3 1 (.slice (some ⟨wo.heap.size,0,none⟩) 0 0) 0 []):=Lib.hid (by rw [hw4]; exact own_empty wo wo.heap.size (Nat.le_refl _))
   have HB4 : Hid (Below wo.heap.size wo w4):=Lib.hid (by rw [hw4]; exact (Below.refl _ _).alloc (Nat.le_refl _) _)
   have HW4:=Lib.hid hw4
   clear hw4
   go_wp2
   rw [← HW4.out]
   clear HW4
   go_loopw [9,10] (fun v i wr=>∃ (r : Nat) (aV : Option Addr) (cV : Nat),r ≤ m ∧ v = .slice aV r cV ∧ i = .int .i64 r ∧ Hid (wr.ownsRow wo.heap.size 3 1 (.slice aV r cV) r ((clM (A.take r) k).map N64)) ∧ Hid (Below wo.heap.size wo wr)) (fun _ i _=>m - (intOf i).toNat)
   case atStart=>exact ⟨0,_,_,Nat.zero_le _,rfl,rfl,HE4,HB4⟩
   case round =>
    obtain ⟨r,aV,cV,hr,rfl,rfl,HV,KV⟩:=hrel
    by_cases hlr : r < m
    ·have hr5 : r < 100:=by omega
     have hrA : r < A.length:=by rw [HLA.out]; exact hlr
     obtain ⟨b1,o1,rfl,a1,c1,hc1,hn1⟩:=MM.at (R:=A) (by rw [HLA.out]; exact HNA.out.below (KBS.out.trans (KV.out.mono KBS.out.size))) hrA
     obtain ⟨Y,hY⟩ : ∃ L,Hid (A.getD r [] = L):=⟨_,Lib.hid rfl⟩
     have HSN : Hid (clM (A.take (r + 1)) k = clM (A.take r) k ++ [Y.getD k 0]):=Lib.hid (by rw [clM_snoc hrA,hY.out])
     have hky : k < Y.length:=by have:=HWD.out r hlr; rw [hY.out] at this; omega
     rw [hY.out] at hc1 hn1
     obtain ⟨b2,o2,rfl,hc2⟩:=hn1.at hky
     obtain ⟨y,hy⟩ : ∃ y,Hid (Y.getD k 0 = y):=⟨_,Lib.hid rfl⟩
     rw [hy.out] at hc2 HSN
     obtain ⟨ly,hly⟩ : ∃ l,Y.length = l:=⟨_,rfl⟩
     rw [hly] at hc1 hky
     have HKS : Hid (wo.heap.size ≤ wr.heap.size):=Lib.hid KV.out.size
     obtain ⟨CL,hCL⟩ : ∃ L,clM (A.take r) k = L:=⟨_,rfl⟩
     rw [hCL] at HV HSN
     clear hn1 hrA hly hCL
     go_wp2_with (at_builtin; refine wpList_append_own _ rfl _ _ 27 rfl wo.heap.size 3 i0 (.int .i64 0) 1 8 Try.underlying27 hi hz0 hz1 hz2 rfl (by decide) _ _ _ rfl (HV.out.alloc _) ⟨wr.heap.size,0,none⟩ 1 1 [.int .i64 (y : Nat)] rfl rfl (cell_one_new _ _ _) (fun u hu=>by simp at hu; subst hu; rfl) ?c3 ?c4 ?c5 ?_)
     case c3=>unfold maxLen; omega
     case c4=>omega
     case c5=>have:=HKS.out; simp; omega
     intro v' w7 hown' hgrow hnil
     have HO7 : Hid (w7.ownsRow wo.heap.size 3 1 v' (r + 1) ((clM (A.take (r + 1)) k).map N64)):=Lib.hid (by rw [HSN.out,List.map_append]; exact hown')
     have HB7 : Hid (Below wo.heap.size wo w7):=Lib.hid ((KV.out.alloc HKS.out _).trans (Bx.below (Bx.grown hgrow fun j hj=>(HV.out.lt j hj).1) (by have:=HKS.out; simp; omega) fun j hj=>hj))
     obtain ⟨aP2,cP2,hvs⟩ : ∃ a c,v' = .slice a (r + 1) c:=by
      rcases HO7.out.2 with ⟨e,e2⟩ | ⟨_,_,_,e,_⟩
      ·exact ⟨none,0,by rw [e,e2]⟩
      ·exact ⟨_,_,e⟩
     subst hvs
     clear hown' hgrow hnil
     go_wp2
     go_roundw
     case rel=>exact ⟨r + 1,aP2,cP2,by omega,rfl,by go_num,HO7,HB7⟩
     case measure=>simp [intOf]; omega
    ·obtain rfl : m = r:=by omega
     have hlr1 : ¬ (m : Int) < (m : Int):=by omega
     obtain ⟨w6,hw6⟩ : ∃ w,w = wr:=⟨_,rfl⟩
     subst hw6
     have HR2 : Hid (w6.ownsRow wo.heap.size 3 1 (.slice aV m cV) m ((clM A k).map N64)):=Lib.hid (by have h:=HV.out; rwa [List.take_of_length_le (by rw [HLA.out]; exact Nat.le_refl _)] at h)
     have HUN : Hid (Calls Try.prog 48 #[.int .i64 (n : Nat),.int .i64 (k : Nat)] w6 (VPn (eL n k) n w6)):=Lib.hid (unit_c (by omega) hlt)
     obtain ⟨EK,hEK⟩ : ∃ L,Hid (eL n k = L):=⟨_,Lib.hid rfl⟩
     have HEL : Hid (EK.length = n):=Lib.hid (by rw [← hEK.out]; simp)
     obtain ⟨CK,hCK⟩ : ∃ L,Hid (clM A k = L):=⟨_,Lib.hid rfl⟩
     have HCL : Hid (CK.length = m):=Lib.hid (by rw [← hCK.out,clM_len,HLA.out])
     have HSUC : Hid (kcM n A (k + 1) = kcM n A k ++ [CK ++ EK]):=Lib.hid (by rw [kcM_succ,hCK.out,hEK.out])
     rw [hEK.out] at HUN
     rw [hCK.out] at HR2
     go_wp2_with fail
     with_reducible refine HUN.out.mono ?_
     rintro e w7 ⟨aU,cU,rfl,hnu,hb7⟩
     obtain ⟨bU,oU,rfl,-⟩:=hnu.atm HEL.out hlt
     have HNU:=Lib.hid hnu
     have HRV:=Lib.hid (own_belowK HR2.out hb7)
     have HB67:=Lib.hid hb7
     have HKS7 : Hid (wo.heap.size ≤ w7.heap.size):=Lib.hid (Nat.le_trans KV.out.size hb7.size)
     clear hnu hb7 HUN HR2
     go_wp2_with (at_builtin; refine wpList_append_own _ rfl _ _ 27 rfl wo.heap.size 3 i0 (.int .i64 0) 1 8 Try.underlying27 hi hz0 hz1 hz2 rfl (by decide) _ _ _ rfl HRV.out ⟨bU,oU,none⟩ n cU (EK.map N64) rfl ?e0 ?e1 ?e2 ?e3 ?e4 ?e5 ?_)
     case e0=>rw [List.length_map,HEL.out,Nat.mul_one]
     case e1 =>
      refine num_cellsK fun t ht=>?_
      exact by
       have:=HNU.out.atm HEL.out (k:=t) (by rw [← HEL.out]; exact ht)
       obtain ⟨b',o',e,h⟩:=this
       injection e with e; injection e with e1 e2
       subst e1 e2
       exact h
     case e2=>intro u hu; obtain ⟨y,_,rfl⟩:=List.mem_map.1 hu; rfl
     case e3=>unfold maxLen; omega
     case e4=>omega
     case e5=>exact HKS7.out
     intro v' w8 hown' hgrow hnil
     have HR8 : Hid (w8.ownsRow 0 3 1 v' N ((CK ++ EK).map N64)):=Lib.hid (by rw [List.map_append,← hN.out]; exact own_weak hown' (Nat.zero_le _))
     have HB8 : Hid (Below wo.heap.size wo w8):=Lib.hid ((KV.out.trans (HB67.out.mono KV.out.size)).trans (Bx.below (Bx.grown hgrow fun j hj=>(HRV.out.lt j hj).1) HKS7.out fun j hj=>hj))
     obtain ⟨aV2,cV2,hvs⟩ : ∃ a c,v' = .slice a N c:=by
      rcases HR8.out.2 with ⟨e,e2⟩ | ⟨_,_,_,e,_⟩
      ·exact ⟨none,0,by rw [e,e2]⟩
      ·exact ⟨_,_,e⟩
     subst hvs
     clear hown' hgrow hnil HRV HNU HB67
     have HO6:=Lib.hid (HO.out.below HB8.out)
     have KB6 : Hid (Below bs w1 w8):=Lib.hid (KB.out.trans (HB8.out.mono (by have:=KB.out.size; rw [HBS.out]; exact KBS.out.size)))
     have HK6 : Hid (bs ≤ w8.heap.size):=Lib.hid (by rw [HBS.out]; exact KB6.out.size)
     have HDL:=Lib.hid (kcM_len n k A)
     have hown6:=HO6.out.own
     rw [HDL.out] at hown6
     have HOW:=Lib.hid hown6
     clear hown6
     go_wp2_with (at_builtin; refine wpList_append_own_at _ rfl _ _ 30 rfl bs 27 j0 (.slice none 0 0) 1 24 Try.underlying30 ji jz0 jz1 jz2 rfl (by decide) _ _ _ rfl (HOW.out.alloc _) ⟨w8.heap.size,0,none⟩ 1 1 [.slice aV2 N cV2] rfl rfl (cell_one_new _ _ _) (fun u hu=>by simp at hu; subst hu; rfl) ?d3 ?d4 ?d5 ?_)
     case d3=>unfold maxLen; omega
     case d4=>omega
     case d5=>have:=HK6.out; simp; omega
     intro v' w9 hown' hgrow hnil hat
     have hal2 : Below w8.heap.size w8 (w8.alloc (.cells #[.slice aV2 N cV2] 27)):=(Below.refl _ _).alloc (Nat.le_refl _) _
     have HO7 : Hid (OL (kcM n A (k + 1)) (us ++ [.slice aV2 N cV2]) bs w9 v'):=Lib.hid (by
      rw [HSUC.out]
      exact OL.push (HO6.out.below hal2) (by rw [List.length_append,HCL.out,HEL.out,hN.out]; exact own_belowK HR8.out hal2) (by rw [HDL.out]) hown' hgrow)
     have HB7 : Hid (Below bs w1 w9):=Lib.hid ((KB6.out.alloc HK6.out _).trans (Bx.below (Bx.grown hgrow fun j hj=>(HOW.out.lt j hj).1) (by have:=HK6.out; simp; omega) fun j hj=>hj))
     clear hown' hgrow hnil hat hal2
     go_wp2
     go_roundw
     case rel=>exact ⟨k + 1,us ++ [.slice aV2 N cV2],by omega,by go_num,HO7,HB7⟩
     case measure=>simp [intOf]; omega
  ·obtain rfl : n = k:=by omega
   have hlt1 : ¬ (n : Int) < (n : Int):=by omega
   obtain ⟨Q,hQ⟩ : ∃ L,Hid (redM F N (kcM n A n) = L):=⟨_,Lib.hid rfl⟩
   obtain ⟨ql,hql⟩ : ∃ L,Hid (Q.length = L):=⟨_,Lib.hid rfl⟩
   have HKM : Hid (Mn F N (kcM n A n)):=Lib.hid (by rw [← hN.out]; exact kcM_mn HFF.out HMA.out HLA.out n)
   have hq5 : ql ≤ 24:=by have:=redM_le HFF.out HKM.out; rw [hQ.out,hql.out,kcM_len] at this; omega
   have HQN : Hid (Mn F N Q):=Lib.hid (by rw [← hQ.out]; exact (redM_ok HFF.out HKM.out).1)
   have HQP : Hid (∀ i,i < ql → pvt (Go.Fl.fn (Q.getD i [])) N < N):=Lib.hid (fun i hi=>by rw [← hql.out,← hQ.out] at hi; rw [← hQ.out]; exact redM_pvt HFF.out HKM.out hi)
   have HRD : Hid (Calls Try.prog 16 #[FV F b cap,.slice aP n cP] wo (MPn Q ql wo)):=Lib.hid (by
    have t:=redr_c (HF1.out.below KBS.out) (n:=N) (m:=n) (aa:=aP) (ca:=cP) (by omega) (by omega) (kcM_len n n A) HKM.out (by have h:=HO.out.mm; exact h)
    rw [hQ.out] at t; exact t.mono fun _ _ h=>h.n hql.out)
   obtain ⟨x0,x1,x2⟩:=HFB.out.below KBS.out (by have:=HS1.out; omega)
   go_wp2_with fail
   with_reducible refine HRD.out.mono ?_
   rintro e w3 ⟨aQ,cQ,rfl,hmq,hb3⟩
   have HMQ:=Lib.hid hmq
   have HBF : Hid (Below W.heap.size W w3):=Lib.hid (HAL.out.trans ((KBS.out.trans (hb3.mono KBS.out.size)).mono HAL.out.size))
   clear hmq hb3 HRD x0 x1 x2
   obtain ⟨b3,hb3⟩ : ∃ g,g = w3.heap.size:=⟨_,rfl⟩
   have HB3S:=Lib.hid hb3
   obtain ⟨w4,hw4⟩ : ∃ w,w = w3.alloc (.cells #[] 27):=⟨_,rfl⟩
   have HE4 : Hid (w4.ownsRow b3 27 1 (.slice (some ⟨b3,0,none⟩) 0 0) 0 []):=Lib.hid (by rw [hw4,hb3]; exact own_empty27 w3 _ (Nat.le_refl _))
   have HB4 : Hid (Below b3 w3 w4):=Lib.hid (by rw [hw4,hb3]; exact (Below.refl _ _).alloc (Nat.le_refl _) _)
   have HW4:=Lib.hid hw4
   clear hw4
   go_wp2
   rw [← HW4.out,← hb3]
   clear HW4 hb3
   go_loopw [11,12] (fun v i wr=>∃ (k l : Nat) (us : List Value),k ≤ ql ∧ i = .int .i64 k ∧ Hid ((kfL m N (Q.take k)).length = l) ∧ Hid (wr.ownsRow b3 27 1 v l us) ∧ Hid (∀ i,i < l → NN ((kfL m N (Q.take k)).getD i []) w3 (us.getD i undef)) ∧ Hid (Below b3 w3 wr)) (fun _ i _=>ql - (intOf i).toNat)
   case atStart=>exact ⟨0,0,[],Nat.zero_le _,rfl,Lib.hid rfl,HE4,Lib.hid (fun i hi=>absurd hi (by omega)),HB4⟩
   case round =>
    obtain ⟨k,l,us,hk,rfl,HL,HOV,HRW,KB2⟩:=hrel
    obtain ⟨wq,hwq⟩ : ∃ w,w = wr:=⟨_,rfl⟩
    subst hwq
    have KB3 : Hid (Below w3.heap.size w3 wq):=Lib.hid (by rw [← HB3S.out]; exact KB2.out)
    have hl5 : l ≤ 24:=by have:=kfL_len m N (Q.take k); rw [HL.out,List.length_take,hql.out] at this; omega
    have HUL : Hid (us.length = l):=Lib.hid (by have:=HOV.out.1; omega)
    obtain ⟨aP2,cP2,hvs⟩:=own_slice27 HOV.out
    subst hvs
    by_cases hlq : k < ql
    ·have hkQ : k < Q.length:=by rw [hql.out]; exact hlq
     obtain ⟨Y,hY⟩ : ∃ L,Hid (Q.getD k [] = L):=⟨_,Lib.hid rfl⟩
     have HVY : Hid (Vn F N Y):=Lib.hid (by rw [← hY.out]; exact mrow HQN.out hkQ)
     obtain ⟨pv,hpv⟩ : ∃ L,Hid (pvt (Go.Fl.fn Y) N = L):=⟨_,Lib.hid rfl⟩
     have hpN : pv < N:=by rw [← hpv.out,← hY.out]; exact HQP.out k hlq
     have HSN : Hid (kfL m N (Q.take (k + 1)) = if m ≤ pv then kfL m N (Q.take k) ++ [Y.drop m] else kfL m N (Q.take k)):=Lib.hid (by rw [kfL_snoc hkQ,hY.out,hpv.out])
     obtain ⟨b1,o1,rfl,a1,c1,hc1,hn1⟩:=MM.at (R:=Q) (by rw [hql.out]; exact HMQ.out) hkQ
     rw [hY.out,HVY.out.len] at hc1 hn1
     obtain ⟨b2,o2,rfl,-⟩:=hn1.atm HVY.out.len hpN
     have HNY:=Lib.hid hn1
     have hcw : wq.cell? ⟨b1,o1 + k,none⟩ = some (.slice (some ⟨b2,o2,none⟩) N c1):=(KB3.out.cell (p:=⟨b1,o1 + k,none⟩) (World.block_lt_of_cell? w3 _ hc1)).trans hc1
     have HC1:=Lib.hid hc1
     have HPC : Hid (Calls Try.prog 45 #[.slice (some ⟨b2,o2,none⟩) N c1] wq fun e w'=>e = .returned (.int .i64 (pv : Nat)) ∧ Below wq.heap.size wq w'):=Lib.hid (by have t:=pivot_c (L:=Y) (a:=some ⟨b2,o2,none⟩) (c:=c1) (W:=wq) (by rw [HVY.out.len]; omega) (by rw [HVY.out.len]; exact hn1.below KB3.out); rw [HVY.out.len,hpv.out] at t; exact t)
     clear hc1 hn1 hkQ
     go_wp2_with fail
     with_reducible refine HPC.out.mono ?_
     rintro e w5 ⟨rfl,hb5⟩
     have HO5:=Lib.hid (own_belowK HOV.out hb5)
     have KB5 : Hid (Below b3 w3 w5):=Lib.hid (KB2.out.trans (hb5.mono (by rw [HB3S.out]; exact KB3.out.size)))
     have HK5 : Hid (b3 ≤ w5.heap.size):=Lib.hid (by rw [HB3S.out]; exact KB5.out.size)
     have hcw5 : w5.cell? ⟨b1,o1 + k,none⟩ = some (.slice (some ⟨b2,o2,none⟩) N c1):=(hb5.cell (p:=⟨b1,o1 + k,none⟩) (World.block_lt_of_cell? wq _ hcw)).trans hcw
     clear hcw hb5 HPC
     by_cases hmp : m ≤ pv
     ·have hmp1 : (m : Int) ≤ (pv : Int):=by omega
      have hmp2 : ¬ (pv : Int) < (m : Int):=by omega
      obtain ⟨hnd,hNc⟩:=HNY.out.dropm HVY.out.len hmN
      have HND:=Lib.hid hnd
      have hmNi : (m : Int) ≤ (N : Int):=by omega
      have hmci : (m : Int) ≤ (c1 : Int):=by omega
      have hNci : (N : Int) ≤ (c1 : Int):=by omega
      have hmc : m ≤ c1:=by omega
      clear hnd
      rw [if_pos hmp] at HSN
      go_wp2_with (at_builtin; refine wpList_append_own_at _ rfl _ _ 30 rfl b3 27 j0 (.slice none 0 0) 1 24 Try.underlying30 ji jz0 jz1 jz2 rfl (by decide) _ _ _ rfl (HO5.out.alloc _) ⟨w5.heap.size,0,none⟩ 1 1 [.slice (some ⟨b2,o2 + m,none⟩) (N - m) (c1 - m)] rfl rfl (cell_one_new _ _ _) (fun u hu=>by simp at hu; subst hu; rfl) ?d3 ?d4 ?d5 ?_)
      case d3=>unfold maxLen; omega
      case d4=>omega
      case d5=>have:=HK5.out; simp; omega
      intro v' w6 hown' hgrow hnil hat
      have HB6 : Hid (Below b3 w3 w6):=Lib.hid ((KB5.out.alloc HK5.out _).trans (Bx.below (Bx.grown hgrow fun j hj=>(HO5.out.lt j hj).1) (by have:=HK5.out; simp; omega) fun j hj=>hj))
      have HO6:=Lib.hid hown'
      have HL6 : Hid ((kfL m N (Q.take (k + 1))).length = l + 1):=Lib.hid (by rw [HSN.out,List.length_append,HL.out]; rfl)
      have HR6 : Hid (∀ i,i < l + 1 → NN ((kfL m N (Q.take (k + 1))).getD i []) w3 ((us ++ [Value.slice (some ⟨b2,o2 + m,none⟩) (N - m) (c1 - m)]).getD i undef)):=Lib.hid (fun i hi=>by
       rw [HSN.out,getD_snoc,getD_snoc,HUL.out,HL.out]
       by_cases e : i < l
       ·rw [if_pos e,if_pos e]; exact HRW.out i e
       ·have e2 : i = l:=by omega
        rw [if_neg e,if_neg e,if_pos e2,if_pos e2]; exact HND.out)
      clear hown' hgrow hnil hat hcw5
      go_wp2
      go_roundw
      case rel=>exact ⟨k + 1,l + 1,_,by omega,by go_num,HL6,HO6,HR6,HB6⟩
      case measure=>simp [intOf]; omega
     ·have hmp1 : ¬ (m : Int) ≤ (pv : Int):=by omega
      have hmp2 : (pv : Int) < (m : Int):=by omega
      rw [if_neg hmp] at HSN
      have HL6 : Hid ((kfL m N (Q.take (k + 1))).length = l):=Lib.hid (by rw [HSN.out,HL.out])
      have HR6 : Hid (∀ i,i < l → NN ((kfL m N (Q.take (k + 1))).getD i []) w3 (us.getD i undef)):=Lib.hid (by rw [HSN.out]; exact HRW.out)
      clear hcw5
      go_wp2
      go_roundw
      case rel=>exact ⟨k + 1,l,us,by omega,by go_num,HL6,HO5,HR6,KB5⟩
      case measure=>simp [intOf]; omega
    ·obtain rfl : k = ql:=by omega
     have hlt2 : ¬ (k : Int) < (k : Int):=by omega
     have HBZ : Hid (Below W.heap.size W wq):=Lib.hid (HBF.out.trans (KB3.out.mono HBF.out.size))
     have HTQ : Hid (Q.take k = Q):=Lib.hid (List.take_of_length_le (by rw [hql.out]; exact Nat.le_refl _))
     rw [HTQ.out] at HL HRW
     have HMZ : Hid (MM (kfL m N Q) wq (.slice aP2 l cP2)):=Lib.hid (MM.of_own HL.out HOV.out fun i hi=>(HRW.out i hi).below KB3.out)
     go_wp2
     go_ret
     exact ⟨aP2,cP2,by rw [hQ.out,HL.out]; rfl,by rw [hQ.out,HL.out]; exact HMZ.out,HBZ.out⟩
end Go.Proofs.Yteeofijcndgbfaa
/- The reference's kernel is the kernel. -/
namespace Go.Proofs.Yteeofijcndgbfaa
open Go.Fl
set_option linter.unusedVariables false
set_option linter.unusedSectionVars false
section
variable {F : Gf} (hF : Ok F)
include hF
theorem Sp.comb0 {S : List Cf} (hS : Els F S) : ∀ {R : List Cf} {c : Cf},El F c → (∀ i,i < R.length → c i = 0 ∨ Sp F S (R.getD i pz)) → Sp F S (cb F R c)
 | [],c,_,_=>Go.Fl.Sp.zero hF _
 | r :: R,c,hc,h=>by
  refine Go.Fl.Sp.add hF hS ?_ (Sp.comb0 hS (fun i=>hc (i + 1)) (fun i hi=>h (i + 1) (by simpa using hi)))
  rcases h 0 (by simp) with e | e
  ·rw [e,z_ps hF]; exact Go.Fl.Sp.zero hF _
  ·exact Go.Fl.Sp.smul hF hS (hc 0) e
def shm (m : Nat) (f : Cf) : Cf:=fun t=>f (m + t)
theorem cb_shm (m : Nat) : ∀ (R : List Cf) (c : Cf),cb F (R.map (shm m)) c = shm m (cb F R c)
 | [],_=>rfl
 | r :: R,c=>by
  show pa F (ps F (c 0) (shm m r)) (cb F (R.map (shm m)) fun i=>c (i + 1)) = _
  rw [cb_shm m R]; rfl
theorem kc_at {A : List (List Nat)} {n : Nat} (c : Cf) (x : Nat) : cb F ((kcM n A n).map Go.Fl.fn) c x = sm F (fun j=>F.mul (c j) (Go.Fl.fn (clM A j ++ eL n j) x)) (List.range n):=by
 have e : cb F ((kcM n A n).map Go.Fl.fn) c = cb F ((List.range n).map fun j=>Go.Fl.fn (clM A j ++ eL n j)) fun i=>c ((List.range n).getD i 0):=by
  unfold kcM
  rw [List.map_map]
  refine cb_congr hF fun i hi=>?_
  rw [List.length_map,List.length_range] at hi
  rw [List.getD_eq_getElem?_getD,List.getElem?_range hi]; rfl
 rw [e,cb_sm hF]
theorem kc_lo {A : List (List Nat)} {n m : Nat} (la : A.length = m) (c : Cf) {x : Nat} (hx : x < m) : cb F ((kcM n A n).map Go.Fl.fn) c x = dt F n c (Go.Fl.fn (A.getD x [])):=by
 rw [kc_at hF]
 unfold dt
 refine sm_congr hF fun j _=>?_
 have e : Go.Fl.fn (clM A j ++ eL n j) x = Go.Fl.fn (A.getD x []) j:=by
  have h:=clM_at (A:=A) (k:=x) (j:=j) (by omega)
  rw [show Go.Fl.fn (A.getD x []) j = (A.getD x []).getD j 0 from rfl,← h]
  show (clM A j ++ eL n j).getD x 0 = (clM A j).getD x 0
  rw [List.getD_eq_getElem?_getD,List.getElem?_append_left (by rw [clM_len]; omega),List.getD_eq_getElem?_getD]
 rw [e]
theorem kc_hi {A : List (List Nat)} {n m : Nat} (la : A.length = m) {c : Cf} (hc : El F c) {t : Nat} (ht : t < n) : cb F ((kcM n A n).map Go.Fl.fn) c (m + t) = c t:=by
 rw [kc_at hF]
 have e : ∀ j,j < n → Go.Fl.fn (clM A j ++ eL n j) (m + t) = un j t:=fun j hj=>by
  rw [← eL_fn hj]
  show (clM A j ++ eL n j).getD (m + t) 0 = (eL n j).getD t 0
  rw [List.getD_eq_getElem?_getD,List.getElem?_append_right (by rw [clM_len]; omega),clM_len,la,List.getD_eq_getElem?_getD,Nat.add_sub_cancel_left]
 rw [sm_one hF (x:=t) (fun j=>hF.mul_lt _ _) List.nodup_range (List.mem_range.2 ht) (fun y hy hne=>by
  rw [e y (List.mem_range.1 hy),show un y t = 0 from if_neg (fun h=>hne h.symm),Ok.mul_z])]
 rw [e t ht,show un t t = 1 from if_pos rfl,hF.mul_one (hc t)]
theorem kf_eq {A : List (List Nat)} {n m : Nat} (hA : Mn F n A) (la : A.length = m) : kfL m (m + n) (redM F (m + n) (kcM n A n)) = kerM F n A:=by
 have hT : Mn F (m + n) (kcM n A n):=kcM_mn hF hA la n
 obtain ⟨hL,hs,-⟩:=redL_ok hF (hT.vs hF)
 obtain ⟨hLA,-,-⟩:=redL_ok hF (hA.vs hF)
 obtain ⟨hK,-,-⟩:=kerL_ok hF hLA
 have eK:=(kerM_ok hF hA).2
 have eT:=(hT.vs hF).els
 unfold redM kerM
 generalize redL F (m + n) ((kcM n A n).map Go.Fl.fn) = L0 at hL hs
 generalize hKL : kerL F n (redL F n (A.map Go.Fl.fn)) = K at hK eK
 have hL' : RedL F n ((L0.filter fun a=>decide (m ≤ a.1)).map fun a=>(a.1 - m,shm m a.2)):=by
  constructor
  ·rw [List.pairwise_map]
   refine List.Pairwise.imp_of_mem (fun {a b} ha hb h=>?_) (hL.pw.filter _)
   have h1 : m ≤ a.1:=by simpa using (List.mem_filter.1 ha).2
   have h2 : m ≤ b.1:=by simpa using (List.mem_filter.1 hb).2
   obtain ⟨g1,g2,g3⟩:=h
   refine ⟨by show a.1 - m < b.1 - m; omega,?_,?_⟩
   ·show a.2 (m + (b.1 - m)) = 0; rw [Nat.add_sub_cancel' h2]; exact g2
   ·show b.2 (m + (a.1 - m)) = 0; rw [Nat.add_sub_cancel' h1]; exact g3
  ·intro a' ha'
   obtain ⟨a,ha,rfl⟩:=List.mem_map.1 ha'
   have h1 : m ≤ a.1:=by simpa using (List.mem_filter.1 ha).2
   obtain ⟨r1,r2,r3,r4,r5⟩:=hL.ro a (List.mem_filter.1 ha).1
   exact ⟨by show a.1 - m < n; omega,fun t=>r2 _,by show a.2 (m + (a.1 - m)) = 1; rw [Nat.add_sub_cancel' h1]; exact r3,fun j hj=>r4 _ (by have : j < a.1 - m:=hj; omega),fun j hj=>r5 _ (by omega)⟩
 have hsp : ∀ v,Sp F (((L0.filter fun a=>decide (m ≤ a.1)).map fun a=>(a.1 - m,shm m a.2)).map Prod.snd) v ↔ Sp F (K.map Prod.snd) v:=fun v=>by
  have eL' : Els F (((L0.filter fun a=>decide (m ≤ a.1)).map fun a=>(a.1 - m,shm m a.2)).map Prod.snd):=hL'.red.el
  constructor
  ·refine Go.Fl.Sp.le hF hK.red.el fun r hr=>?_
   obtain ⟨a',ha',rfl⟩:=List.mem_map.1 hr
   obtain ⟨a,ha,rfl⟩:=List.mem_map.1 ha'
   have h1 : m ≤ a.1:=by simpa using (List.mem_filter.1 ha).2
   have hro:=hL.ro a (List.mem_filter.1 ha).1
   have hV : Go.Fl.fn (toV n (shm m a.2)) = shm m a.2:=fn_toV fun j hj=>hro.hi _ (by omega)
   have hVn : Vn F n (toV n (shm m a.2)):=toV_vn fun t=>hro.el _
   rw [← eK]
   show Sp F _ (shm m a.2)
   rw [← hV]
   refine (ker_iff hF hA hVn).2 fun r hr=>?_
   obtain ⟨x,hx,rfl⟩ : ∃ x,x < A.length ∧ A.getD x [] = r:=by
    obtain ⟨i,hi,rfl⟩:=List.getElem_of_mem hr
    exact ⟨i,hi,by rw [List.getD_eq_getElem?_getD,List.getElem?_eq_getElem hi]; rfl⟩
   obtain ⟨c,hc,e⟩:=(hs a.2).1 (Go.Fl.Sp.mem hF hL.red.el (List.mem_map.2 ⟨a,(List.mem_filter.1 ha).1,rfl⟩))
   have h2 : dt F n c (Go.Fl.fn (A.getD x [])) = 0:=by
    rw [← kc_lo hF la c (by omega),e]; exact hro.lo _ (by omega)
   rw [hV,dt_comm hF,← h2]
   unfold dt
   refine sm_congr hF fun j hj=>?_
   rw [show shm m a.2 j = c j from by show a.2 (m + j) = c j; rw [← e]; exact kc_hi hF la hc (List.mem_range.1 hj)]
  ·refine Go.Fl.Sp.le hF eL' fun r hr=>?_
   rw [← eK] at hr
   obtain ⟨V,hVm,rfl⟩:=List.mem_map.1 hr
   have hVn : Vn F n V:=by
    obtain ⟨a,ha,rfl⟩ : ∃ a ∈ K,toV n a.2 = V:=by
     have:=hVm; unfold kerM at this; rw [hKL] at this; exact List.mem_map.1 this
    exact toV_vn (hK.ro a ha).el
   have hz:=(ker_iff hF hA hVn).1 (Go.Fl.Sp.mem hF (by rw [eK]; exact hK.red.el) hr)
   have hc:=hVn.fn hF
   obtain ⟨v,hv⟩ : ∃ v,cb F ((kcM n A n).map Go.Fl.fn) (Go.Fl.fn V) = v:=⟨_,rfl⟩
   have hvS : Sp F (L0.map Prod.snd) v:=(hs v).2 ⟨_,hc,hv⟩
   have e1:=hL.red.sum hF hvS
   have e2 : Go.Fl.fn V = shm m v:=funext fun t=>by
    show V.getD t 0 = v (m + t)
    by_cases ht : t < n
    ·rw [← hv,kc_hi hF la hc ht]; rfl
    ·rw [Sp.hi hF (hT.vs hF) ⟨_,hc,hv⟩ (m + t) (by omega),List.getD_eq_getElem?_getD,List.getElem?_eq_none (by rw [hVn.len]; omega)]; rfl
   rw [e2,e1,← cb_shm hF]
   refine Sp.comb0 hF eL' (fun i=>by rw [← hv]; exact cb_el hF _ _ _) fun i hi=>?_
   rw [List.length_map,List.length_map] at hi
   by_cases hp : (L0[i]).1 < m
   ·refine .inl ?_
    rw [map_fst_getD hi,← hv,kc_lo hF la _ hp,dt_comm hF]
    exact hz _ (by rw [List.getD_eq_getElem?_getD,List.getElem?_eq_getElem (by omega)]; exact List.getElem_mem _)
   ·refine .inr (Go.Fl.Sp.mem hF eL' ?_)
    rw [List.getD_eq_getElem?_getD,List.getElem?_map,List.getElem?_map,List.getElem?_eq_getElem hi]
    exact List.mem_map.2 ⟨((L0[i]).1 - m,shm m (L0[i]).2),List.mem_map.2 ⟨L0[i],List.mem_filter.2 ⟨List.getElem_mem _,by simpa using (by omega : m ≤ (L0[i]).1)⟩,rfl⟩,rfl⟩
 have hext:=RedL.ext hF hL' hK hsp
 rw [← hext]
 unfold kfL
 rw [List.filter_map,List.map_map,List.map_map]
 have e1 : L0.filter ((fun r=>decide (m ≤ pvt (Go.Fl.fn r) (m + n))) ∘ fun a=>toV (m + n) a.2) = L0.filter fun a=>decide (m ≤ a.1):=by
  refine List.filter_congr fun a ha=>?_
  obtain ⟨i,hi,rfl⟩:=List.getElem_of_mem ha
  show decide (m ≤ pvt (Go.Fl.fn (toV (m + n) (L0[i]).2)) (m + n)) = _
  rw [rwL_pvt hF hL hi]
 rw [e1]
 refine List.map_congr_left fun a ha=>?_
 show (toV (m + n) a.2).drop m = toV n (shm m a.2)
 refine vn_ext (n:=n) (by rw [List.length_drop,toV_len]; omega) (toV_len _ _) fun j hj=>?_
 rw [toV_get _ hj,List.getD_eq_getElem?_getD,List.getElem?_drop,← List.getD_eq_getElem?_getD,toV_get _ (by omega)]; rfl
end
end Go.Proofs.Yteeofijcndgbfaa
/- Meet of the reference. -/
namespace Go.Proofs.Yteeofijcndgbfaa
open Go.RowKit Go.Fl
set_option maxRecDepth 100000
set_option linter.unusedVariables false
set_option linter.unusedSimpArgs false
set_option linter.unusedSectionVars false
theorem rkern_c {F : Gf} {b cap n m ca : Nat} {A : List (List Nat)} {aa : Option Addr} {W : World} (hA : FldAt F b cap W) (hn : n ≤ 24) (hm : m ≤ 100) (la : A.length = m) (ma : Mn F n A) (na : MM A W (.slice aa m ca)) :
  Calls Try.prog 19 #[FV F b cap,.int .i64 (n : Nat),.slice aa m ca] W (MPost (kerM F n A) W):=by
 have t:=rkern_r hA hn hm la ma na
 rwa [kf_eq (ok_mem hA.mem) ma la] at t
theorem kerM_redM {F : Gf} (hF : Ok F) {n : Nat} {A : List (List Nat)} (hA : Mn F n A) : kerM F n (redM F n A) = kerM F n A:=by
 obtain ⟨-,hL,e⟩:=redM_ok hF hA
 unfold kerM
 rw [e,redL_self hF hL]
theorem mpn_of {F : Gf} {n k : Nat} {A K : List (List Nat)} {W : World} {e : Ending} {w' : World} (h : MPost (kerM F n A) W e w') (hk : kerM F n A = K) (hl : K.length = k) : MPn K k W e w':=by subst hk; exact h.n hl
set_option maxHeartbeats 6400000 in
theorem rmeet_c {F : Gf} {b cap n la lb ca cb : Nat} {A B : List (List Nat)} {aa ab : Option Addr} {W : World} (hA : FldAt F b cap W) (hn : n ≤ 24) (hla : la ≤ 100) (hlb : lb ≤ 100) (lA : A.length = la) (lB : B.length = lb) (ma : Mn F n A) (mb : Mn F n B) (na : MM A W (.slice aa la ca)) (nb : MM B W (.slice ab lb cb)) :
  Calls Try.prog 31 #[FV F b cap,.int .i64 (n : Nat),.slice aa la ca,.slice ab lb cb] W (MPost (kerM F n (kerM F n A ++ kerM F n B)) W):=by
 have HFF : Hid (Ok F):=Lib.hid (ok_mem hA.mem)
 obtain ⟨w1,hw1⟩ : ∃ w1,w1 = W.alloc (.cells #[.int .i64 F.p,.int .i64 F.e,FM F b cap] 29):=⟨_,rfl⟩
 have HAL : Hid (Below W.heap.size W w1):=Lib.hid (by rw [hw1]; exact (Below.refl _ _).alloc (Nat.le_refl _) _)
 have HS1 : Hid (W.heap.size < w1.heap.size):=Lib.hid (by rw [hw1]; simp)
 have HFB : Hid (FBx W.heap.size F b cap w1):=Lib.hid (by rw [hw1]; exact FBx.new W F b cap)
 have HF1:=Lib.hid (hA.below HAL.out)
 have HMA:=Lib.hid ma
 have HMB:=Lib.hid mb
 have HLA:=Lib.hid lA
 have HLB:=Lib.hid lB
 have HNA:=Lib.hid (na.below HAL.out)
 have HNB:=Lib.hid (nb.below HAL.out)
 obtain ⟨K1,hK1⟩ : ∃ L,Hid (kerM F n A = L):=⟨_,Lib.hid rfl⟩
 obtain ⟨k1,hk1⟩ : ∃ L,Hid (K1.length = L):=⟨_,Lib.hid rfl⟩
 obtain ⟨K2,hK2⟩ : ∃ L,Hid (kerM F n B = L):=⟨_,Lib.hid rfl⟩
 obtain ⟨k2,hk2⟩ : ∃ L,Hid (K2.length = L):=⟨_,Lib.hid rfl⟩
 obtain ⟨J,hJ⟩ : ∃ L,Hid (redM F n (K1 ++ K2) = L):=⟨_,Lib.hid rfl⟩
 obtain ⟨jl,hjl⟩ : ∃ L,Hid (J.length = L):=⟨_,Lib.hid rfl⟩
 have HM1 : Hid (Mn F n K1):=Lib.hid (by rw [← hK1.out]; exact (kerM_ok HFF.out ma).1)
 have HM2 : Hid (Mn F n K2):=Lib.hid (by rw [← hK2.out]; exact (kerM_ok HFF.out mb).1)
 have HMJ : Hid (Mn F n J):=Lib.hid (by rw [← hJ.out]; exact (redM_ok HFF.out (mapp HM1.out HM2.out)).1)
 have hk15 : k1 ≤ 24:=by have:=kerM_le HFF.out ma; rw [hK1.out,hk1.out] at this; omega
 have hk25 : k2 ≤ 24:=by have:=kerM_le HFF.out mb; rw [hK2.out,hk2.out] at this; omega
 have hjl5 : jl ≤ 48:=by have:=redM_le HFF.out (mapp HM1.out HM2.out); rw [hJ.out,hjl.out,List.length_append,hk1.out,hk2.out] at this; omega
 have HEQ : Hid (kerM F n J = kerM F n (kerM F n A ++ kerM F n B)):=Lib.hid (by rw [hK1.out,hK2.out,← hJ.out,kerM_redM HFF.out (mapp HM1.out HM2.out)])
 have HW1:=Lib.hid hw1
 obtain ⟨x0,x1,x2⟩:=HFB.out
 have hS0 : SZ F b cap W.heap.size W.heap.size 0 W.heap.size 0 (.int .i64 F.p) (.int .i64 F.p) w1.heap.size w1 w1.drew:=
  ⟨⟨x0,x1,x2⟩,x0,x0,Lib.hid ⟨HF1.out.bx (Bx.refl (fun _=>False) w1).drew id,(Below.refl _ _).drew,Nat.le_refl _,HS1.out,HS1.out,HS1.out,HF1.out.lt⟩⟩
 clear hA na nb hw1 ma mb lA lB x0 x1 x2
 go_enter Try.func31,Try.ntmps31
 go_wp2_with fail
 rw [← HW1.out]
 clear HW1
 refine wp_region_held_drew (S:=fun w'=>SZ F b cap W.heap.size W.heap.size 0 W.heap.size 0 (.int .i64 F.p) (.int .i64 F.p) w1.heap.size w1 w') (by kernel_rfl) (by with_reducible exact hS0) (fun hHeld=>?_)
 refine Rg.tk 0 ⟨some 9,.load 29 (.tmp 4),29,"ref.go:230",#[],none⟩ ?_
 try simp only [Rg.gp]
 refine Rg.tk 1 ⟨some 10,.move (.tmp 1),3,"ref.go:230",#[],none⟩ ?_
 try simp only [Rg.gp]
 refine Rg.tk 2 ⟨some 11,.load 29 (.tmp 4),29,"ref.go:230",#[],none⟩ ?_
 try simp only [Rg.gp]
 refine Rg.tk 3 ⟨some 12,.load 29 (.tmp 4),29,"ref.go:230",#[],none⟩ ?_
 try simp only [Rg.gp]
 refine Rg.tk 4 ⟨some 13,.move (.tmp 1),3,"ref.go:230",#[],none⟩ ?_
 try simp only [Rg.gp]
 refine Rg.tk 5 ⟨some 14,.move (.tmp 2),30,"ref.go:230",#[],none⟩ ?_
 try simp only [Rg.gp]
 refine Rg.tk 7 ⟨some 16,.load 29 (.tmp 4),29,"ref.go:230",#[],none⟩ ?_
 try simp only [Rg.gp]
 refine Rg.tk 8 ⟨some 17,.move (.tmp 1),3,"ref.go:230",#[],none⟩ ?_
 try simp only [Rg.gp]
 refine Rg.tk 9 ⟨some 18,.move (.tmp 3),30,"ref.go:230",#[],none⟩ ?_
 try simp only [Rg.gp]
 refine Rg.rd1 6 ⟨some 15,.call ⟨.value (.func 19),#[.tmp 12,.tmp 13,.tmp 14],#[29,3,30]⟩,30,"ref.go:230",#[⟨3,.data⟩,⟨4,.data⟩,⟨5,.data⟩],none⟩ fun K hK=>?_
 go_simp
 go_at_call 19
 with_reducible refine ((show Calls Try.prog 19 #[FV F b cap,.int .i64 (n : Nat),.slice aa la ca] _ (MPn K1 k1 _) from (rkern_c (A:=A) (aa:=aa) (ca:=ca) hHeld.2.2.2.out.1 hn (by omega) HLA.out HMA.out (HNA.out.below hHeld.2.2.2.out.2.1)).mono fun _ _ h=>mpn_of h hK1.out hk1.out)).mono ?_
 rintro z v1 ⟨a1,c1,rfl,hm1,hb1⟩
 refine hK.out _ _ ?_ (fun hHeld=>?_)
 ·(try dsimp only)
  exact SZ.keep hHeld hb1
 clear hK K
 try simp only [Rg.gp]
 refine Rg.rd1 10 ⟨some 19,.call ⟨.value (.func 19),#[.tmp 16,.tmp 17,.tmp 18],#[29,3,30]⟩,30,"ref.go:230",#[⟨7,.data⟩,⟨8,.data⟩,⟨9,.data⟩,⟨6,.chain⟩],none⟩ fun K hK=>?_
 go_simp
 go_at_call 19
 with_reducible refine ((show Calls Try.prog 19 #[FV F b cap,.int .i64 (n : Nat),.slice ab lb cb] _ (MPn K2 k2 _) from (rkern_c (A:=B) (aa:=ab) (ca:=cb) hHeld.2.2.2.out.1 hn (by omega) HLB.out HMB.out (HNB.out.below hHeld.2.2.2.out.2.1)).mono fun _ _ h=>mpn_of h hK2.out hk2.out)).mono ?_
 rintro z v2 ⟨a2,c2,rfl,hm2,hb2⟩
 replace hm1:=hm1.below hb2
 refine hK.out _ _ ?_ (fun hHeld=>?_)
 ·(try dsimp only)
  exact SZ.keep hHeld hb2
 clear hK K
 try simp only [Rg.gp]
 refine Rg.rd1 11 ⟨some 20,.call ⟨.value (.func 29),#[.tmp 11,.tmp 15,.tmp 19],#[29,30,30]⟩,30,"ref.go:230",#[⟨2,.data⟩,⟨6,.data⟩,⟨10,.data⟩,⟨10,.chain⟩],none⟩ fun K hK=>?_
 go_simp
 go_at_call 29
 with_reducible refine (show Calls Try.prog 29 #[FV F b cap,.slice a1 k1 c1,.slice a2 k2 c2] _ (MPn J jl _) from by have t:=rjoin_c (n:=n) (A:=K1) (B:=K2) (aa:=a1) (ca:=c1) (ab:=a2) (cb:=c2) hHeld.2.2.2.out.1 (by omega) (by omega) (by omega) hk1.out hk2.out HM1.out HM2.out hm1 hm2; rw [hJ.out] at t; exact t.mono fun _ _ h=>h.n hjl.out).mono ?_
 rintro z v3 ⟨a3,c3,rfl,hm3,hb3⟩
 refine hK.out _ _ ?_ (fun hHeld=>?_)
 ·(try dsimp only)
  exact SZ.keep hHeld hb3
 clear hK K
 try simp only [Rg.gp]
 refine Rg.rd1 12 ⟨some 21,.call ⟨.value (.func 19),#[.tmp 9,.tmp 10,.tmp 20],#[29,3,30]⟩,30,"ref.go:230",#[⟨0,.data⟩,⟨1,.data⟩,⟨11,.data⟩,⟨11,.chain⟩],none⟩ fun K hK=>?_
 go_simp
 go_at_call 19
 with_reducible refine (show Calls Try.prog 19 #[FV F b cap,.int .i64 (n : Nat),.slice a3 jl c3] _ (MPost (kerM F n (kerM F n A ++ kerM F n B)) _) from by have t:=rkern_c (n:=n) (A:=J) (aa:=a3) (ca:=c3) hHeld.2.2.2.out.1 hn (by omega) hjl.out HMJ.out hm3; rw [HEQ.out] at t; exact t).mono ?_
 rintro z v4 ⟨a4,c4,rfl,hm4,hb4⟩
 refine hK.out _ _ ?_ (fun hHeld=>?_)
 ·(try dsimp only)
  exact SZ.keep hHeld hb4
 clear hK K
 try simp only [Rg.gp]
 refine Rg.tk 13 ⟨some 8,.assign (.tmp 21),30,"ref.go:230",#[⟨12,.data⟩,⟨12,.chain⟩,⟨0,.phase⟩,⟨1,.phase⟩,⟨2,.phase⟩,⟨3,.phase⟩,⟨4,.phase⟩,⟨5,.phase⟩,⟨6,.phase⟩,⟨7,.phase⟩,⟨8,.phase⟩,⟨9,.phase⟩,⟨10,.phase⟩,⟨11,.phase⟩,⟨12,.phase⟩],none⟩ ?_
 try simp only [Rg.gp]
 refine wpAnyH_done (by kernel_rfl) ?_ _
 have HBF : Hid (Below W.heap.size W v4):=Lib.hid (HAL.out.trans (hHeld.2.2.2.out.2.1.mono HAL.out.size))
 have HMF:=Lib.hid hm4
 clear hHeld hS0 hm1 hm2 hm3 hm4 hb1 hb2 hb3 hb4
 go_wp2
 go_ret
 exact ⟨a4,c4,rfl,HMF.out,HBF.out⟩
end Go.Proofs.Yteeofijcndgbfaa
