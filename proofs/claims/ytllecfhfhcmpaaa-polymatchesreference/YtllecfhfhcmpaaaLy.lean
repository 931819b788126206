/- The reference's common divisors, values and roots of polynomials. -/
import Derived.Test.YtllecfhfhcmpaaaEvTk
import Derived.Test.YtllecfhfhcmpaaaLv
import Derived.Test.YtllecfhfhcmpaaaEvYz
import Derived.Test.YtllecfhfhcmpaaaEvYy
namespace Go.Proofs.Ytllecfhfhcmpaaa
open Go.RowKit Go.Fl
set_option maxRecDepth 100000
set_option linter.unusedVariables false
set_option linter.unusedSimpArgs false
set_option linter.unusedSectionVars false
set_option maxHeartbeats 6400000 in
theorem rgcd_p {F : Gf} {b cap : Nat} {A B : List Nat} {aa ab : Option Addr} {ca cb : Nat} {W : World} (h : FldAt F b cap W) (hA : In F A) (hB : In F B) (ha : A.length ≤ 100) (hb : B.length ≤ 100) (na : NN A W (.slice aa A.length ca)) (nb : NN B W (.slice ab B.length cb)) :
  Calls Try.prog 26 #[FV F b cap,.slice aa A.length ca,.slice ab B.length cb] W fun e w'=>∃ G,IsGcd F (trL A) (trL B) G ∧ SlPost G W e w':=by
 have HFA:=Lib.hid h
 have HFF:=Lib.hid (ok_mem h.mem)
 have HSF : Hid (SF W F.p F.e (FM F b cap) (W.alloc (.cells #[.int .i64 F.p,.int .i64 F.e,FM F b cap] 28))):=Lib.hid ⟨by simp [FB],Lib.hid ((Below.refl _ _).alloc (Nat.le_refl _) _),Lib.hid (by simp)⟩
 have NA:=Lib.hid na
 have NB:=Lib.hid nb
 obtain ⟨A0,HA0⟩ : ∃ l,Hid (trL A = l):=⟨_,Lib.hid rfl⟩
 obtain ⟨B0,HB0⟩ : ∃ l,Hid (trL B = l):=⟨_,Lib.hid rfl⟩
 have HPA : Hid (Po F A0 ∧ A0.length ≤ 100):=Lib.hid (by rw [← HA0.out]; exact ⟨Po.tr hA,Nat.le_trans (trL_len A) ha⟩)
 have HPB : Hid (Po F B0 ∧ B0.length ≤ 100):=Lib.hid (by rw [← HB0.out]; exact ⟨Po.tr hB,Nat.le_trans (trL_len B) hb⟩)
 rw [HA0.out,HB0.out]
 clear h na nb hA hB
 go_enter Try.func26,Try.ntmps26
 go_wp2_with fail
 with_reducible refine (rtrim_c (A:=A) (by omega) rfl (NA.out.below HSF.out.2.1.out)).mono ?_
 rw [HA0.out]
 rintro z w1 ⟨aA,cA,rfl,hn,hb1⟩
 have HNA:=Lib.hid hn
 have HS1:=Lib.hid (SF.keep HSF.out hb1 HSF.out.2.2.out)
 clear hn hb1 HSF
 go_wp2_with fail
 with_reducible refine (rtrim_c (A:=B) (by omega) rfl (NB.out.below HS1.out.2.1.out)).mono ?_
 rw [HB0.out]
 rintro z w2 ⟨aB,cB,rfl,hn,hb1⟩
 have HNB:=Lib.hid hn
 have HNA2:=Lib.hid (HNA.out.below hb1)
 have HS2:=Lib.hid (SF.keep HS1.out hb1 HS1.out.2.2.out)
 clear hn hb1 HS1 HNA
 go_wp2
 go_loopw [7,8] (fun x y wr=>∃ (P Q : List Nat) (ax ay : Option Addr) (cx cy : Nat),x = .slice ax P.length cx ∧ y = .slice ay Q.length cy ∧ Q.length ≤ 100 ∧ Hid (NN P wr (.slice ax P.length cx)) ∧ Hid (NN Q wr (.slice ay Q.length cy)) ∧ Hid (Po F P ∧ Po F Q ∧ P.length ≤ 100 ∧ GR F A0 B0 P Q) ∧ Hid (SF W F.p F.e (FM F b cap) wr)) (fun _ y _=>lenW y)
 case atStart=>exact ⟨A0,B0,_,_,_,_,rfl,rfl,HPB.out.2,HNA2,HNB,Lib.hid ⟨HPA.out.1,HPB.out.1,HPA.out.2,GR.refl F A0 B0⟩,HS2⟩
 case round =>
  obtain ⟨P,Q,ax,ay,cx,cy,rfl,rfl,hql,HNP,HNQ,HI,HS⟩:=hrel
  obtain ⟨f0,f1,f2⟩:=HS.out.1
  by_cases h0 : Q = []
  ·have hy0 : ¬ (0 : Int) < (Q.length : Int):=by rw [h0]; simp
   have hy1 : ¬ 0 < Q.length:=by rw [h0]; simp
   have HG : Hid (IsGcd F A0 B0 (monP F P)):=Lib.hid (by
    have h:=HI.out.2.2.2
    rw [h0] at h
    exact h.fin HFF.out HI.out.1)
   clear h0
   go_wp2_with fail
   with_reducible refine (rmonic_p (HFA.out.below HS.out.2.1.out) HI.out.1 HI.out.2.2.1 HNP.out).mono ?_
   rintro z w3 ⟨a3,c3,rfl,hn,hb3⟩
   have HN:=Lib.hid hn
   have HBF:=Lib.hid (HS.out.2.1.out.trans (hb3.mono HS.out.2.1.out.size))
   clear hn hb3
   go_wp2
   go_ret
   exact ⟨_,HG.out,_,_,rfl,HN.out,HBF.out⟩
  ·have hql1:=List.length_pos_iff.2 h0
   have hy0 : (0 : Int) < (Q.length : Int):=by omega
   have HT : Hid (trL P = P ∧ trL Q = Q):=Lib.hid ⟨trL_of HI.out.1.cn,trL_of HI.out.2.1.cn⟩
   have H0:=Lib.hid h0
   clear h0
   go_wp2_with fail
   with_reducible refine (rdiv_p (HFA.out.below HS.out.2.1.out) HI.out.1.el HI.out.2.1.el HI.out.2.2.1 hql HNP.out HNQ.out (by rw [HT.out.2]; exact H0.out)).mono ?_
   rintro z w3 ⟨T,R,hdm,a3,c3,a4,c4,rfl,hn,hn2,hb3⟩
   rw [HT.out.1,HT.out.2] at hdm
   have hlt:=hdm.len
   have HNR:=Lib.hid hn2
   have HNQ2:=Lib.hid (HNQ.out.below hb3)
   have HS3:=Lib.hid (SF.keep HS.out hb3 HS.out.2.2.out)
   have HI2 : Hid (Po F Q ∧ Po F R ∧ Q.length ≤ 100 ∧ GR F A0 B0 Q R):=Lib.hid ⟨HI.out.2.1,hdm.r,hql,HI.out.2.2.2.step HFF.out HI.out.1 HI.out.2.1 hdm⟩
   clear hn hn2 hb3 hdm f0 f1 f2 HNP HNQ HS
   go_wp2
   go_roundw
   case rel=>exact ⟨Q,R,_,_,_,_,rfl,rfl,by omega,HNQ2,HNR,HI2,HS3⟩
   case measure=>simp [lenW]; omega
theorem ev_go {F : Gf} (hF : Ok F) {s p x a E : Nat} (hp : p < F.q) (ha : a < F.q) (hE : E < F.q) (hx : x < F.q) : F.add (F.add s (F.mul a p)) (F.mul (F.mul p x) E) = F.add s (F.mul p (F.add (F.mul E x) a)):=by
 rw [hF.mul_add (hF.mul_lt _ _) ha hp,hF.add_assoc,Ok.mul_comm a p,Ok.add_comm (F.mul p a),hF.mul_assoc p x E,Ok.mul_comm x E]
set_option maxHeartbeats 6400000 in
theorem reval_p {F : Gf} {b cap x : Nat} {A : List Nat} {aa : Option Addr} {ca : Nat} {W : World} (h : FldAt F b cap W) (hA : In F A) (ha : A.length ≤ 1000) (hx : x < F.q) (na : NN A W (.slice aa A.length ca)) :
  Calls Try.prog 28 #[FV F b cap,.slice aa A.length ca,.int .i64 (x : Nat)] W fun e w'=>e = .returned (.int .i64 (ev F x A : Nat)) ∧ Below W.heap.size W w':=by
 have HFA:=Lib.hid h
 have HFF:=Lib.hid (ok_mem h.mem)
 have HSF : Hid (SF W F.p F.e (FM F b cap) (W.alloc (.cells #[.int .i64 F.p,.int .i64 F.e,FM F b cap] 28))):=Lib.hid ⟨by simp [FB],Lib.hid ((Below.refl _ _).alloc (Nat.le_refl _) _),Lib.hid (by simp)⟩
 have NA:=Lib.hid na
 have HA:=Lib.hid hA
 have HX:=Lib.hid hx
 clear h na hA hx
 go_enter Try.func28,Try.ntmps28
 go_wp2
 go_loopw [7,8,9] (fun u v i wr=>∃ (k s p : Nat),k ≤ A.length ∧ u = .int .i64 (s : Nat) ∧ v = .int .i64 (p : Nat) ∧ i = .int .i64 (k : Nat) ∧ Hid (s < F.q ∧ p < F.q ∧ F.add s (F.mul p (ev F x (A.drop k))) = ev F x A) ∧ Hid (SF W F.p F.e (FM F b cap) wr)) (fun _ _ i _=>A.length - (intOf i).toNat)
 case atStart=>exact ⟨0,0,1,Nat.zero_le _,rfl,rfl,rfl,Lib.hid ⟨HFF.out.zero_lt,HFF.out.one_lt,by rw [List.drop_zero,HFF.out.one_mul (ev_lt HFF.out x A),HFF.out.zero_add (ev_lt HFF.out x A)]⟩,HSF⟩
 case round =>
  obtain ⟨k,s,p,hk,rfl,rfl,rfl,HI,HS⟩:=hrel
  by_cases hlt : k < A.length
  ·have hlti : (k : Int) < (A.length : Int):=by omega
   obtain ⟨b',o',rfl,-⟩:=NA.out.adr (by omega)
   obtain ⟨y,HY⟩ : ∃ y,Hid (A.getD k 0 = y):=⟨_,Lib.hid rfl⟩
   have HYQ : Hid (y < F.q):=Lib.hid (by rw [← HY.out]; exact HA.out.get HFF.out k)
   have hcy : wr.cell? ⟨b',o' + k,none⟩ = some (.int .i64 (y : Nat)):=by rw [← HY.out]; exact (NA.out.below HS.out.2.1.out).at hlt
   obtain ⟨m,HM⟩ : ∃ m,Hid (F.mul y p = m):=⟨_,Lib.hid rfl⟩
   have HMQ : Hid (m < F.q):=Lib.hid (by rw [← HM.out]; exact HFF.out.mul_lt _ _)
   obtain ⟨s2,HS2⟩ : ∃ m,Hid (F.add s m = m) ∨ True:=⟨0,.inr trivial⟩
   clear HS2 s2
   obtain ⟨s2,HS2⟩ : ∃ t,Hid (F.add s m = t):=⟨_,Lib.hid rfl⟩
   obtain ⟨p2,HP2⟩ : ∃ t,Hid (F.mul p x = t):=⟨_,Lib.hid rfl⟩
   have HNX : Hid (s2 < F.q ∧ p2 < F.q ∧ F.add s2 (F.mul p2 (ev F x (A.drop (k + 1)))) = ev F x A):=Lib.hid (by
    refine ⟨by rw [← HS2.out]; exact HFF.out.add_lt _ _,by rw [← HP2.out]; exact HFF.out.mul_lt _ _,?_⟩
    rw [← HI.out.2.2,ev_drop HFF.out hlt,HY.out,← HS2.out,← HM.out,← HP2.out]
    exact ev_go HFF.out HI.out.2.1 HYQ.out (ev_lt HFF.out x _) HX.out)
   have hS0 : SF W F.p F.e (FM F b cap) wr.drew:=⟨HS.out.1,Lib.hid HS.out.2.1.out.drew,Lib.hid HS.out.2.2.out⟩
   clear hk
   go_wp2_with fail
   refine wp_region_held_drew (S:=fun w'=>SF W F.p F.e (FM F b cap) w') (by kernel_rfl) (by with_reducible exact hS0) (fun hHeld=>?_)
   refine Rg.tk 0 ⟨some 16,.load 28 (.tmp 3),28,"ref.go:103",#[],none⟩ ?_
   try simp only [Rg.gp]
   refine Rg.tk 1 ⟨some 17,.move (.tmp 7),3,"ref.go:103",#[],none⟩ ?_
   try simp only [Rg.gp]
   refine Rg.tk 2 ⟨some 18,.load 28 (.tmp 3),28,"ref.go:103",#[],none⟩ ?_
   try simp only [Rg.gp]
   refine Rg.tk 3 ⟨some 19,.move (.tmp 1),25,"ref.go:103",#[],none⟩ ?_
   try simp only [Rg.gp]
   refine Rg.tk 4 ⟨some 20,.move (.tmp 9),3,"ref.go:103",#[],none⟩ ?_
   try simp only [Rg.gp]
   refine Rg.tk 5 ⟨some 21,.indexAddr 25 (.tmp 19) (.tmp 20),0,"ref.go:103",#[⟨3,.data⟩,⟨4,.data⟩],none⟩ ?_
   try simp only [Rg.gp]
   refine Rg.tk 7 ⟨some 23,.move (.tmp 8),3,"ref.go:103",#[],none⟩ ?_
   try simp only [Rg.gp]
   refine Rg.rd1 6 ⟨some 22,.load 3 (.tmp 21),3,"ref.go:103",#[⟨5,.data⟩],none⟩ fun K hK=>?_
   go_simp
   refine hK.out _ _ ?_ (fun hHeld=>?_)
   ·(try dsimp only)
    exact hHeld
   clear hK K
   try simp only [Rg.gp]
   refine Rg.rd1 8 ⟨some 24,.call ⟨.value (.func 34),#[.tmp 18,.tmp 22,.tmp 23],#[28,3,3]⟩,3,"ref.go:103",#[⟨2,.data⟩,⟨6,.data⟩,⟨7,.data⟩],none⟩ fun K hK=>?_
   go_simp
   go_at_call 34
   with_reducible refine (rmul_c HYQ.out HI.out.2.1 (HFA.out.below hHeld.2.1.out)).mono ?_
   rw [HM.out]
   rintro z v3 ⟨rfl,hb3⟩
   refine hK.out _ _ ?_ (fun hHeld=>?_)
   ·(try dsimp only)
    exact SF.keep hHeld hb3 hHeld.2.2.out
   clear hK K
   try simp only [Rg.gp]
   refine Rg.rd1 9 ⟨some 25,.call ⟨.value (.func 33),#[.tmp 16,.tmp 17,.tmp 24],#[28,3,3]⟩,3,"ref.go:103",#[⟨0,.data⟩,⟨1,.data⟩,⟨8,.data⟩,⟨8,.chain⟩],none⟩ fun K hK=>?_
   go_simp
   go_at_call 33
   with_reducible refine (radd_c HI.out.1 HMQ.out (HFA.out.below hHeld.2.1.out)).mono ?_
   rw [HS2.out]
   rintro z v4 ⟨rfl,hb4⟩
   refine hK.out _ _ ?_ (fun hHeld=>?_)
   ·(try dsimp only)
    exact SF.keep hHeld hb4 hHeld.2.2.out
   clear hK K
   try simp only [Rg.gp]
   refine Rg.tk 10 ⟨some 7,.assign (.tmp 25),3,"ref.go:103",#[⟨9,.data⟩,⟨9,.chain⟩,⟨0,.phase⟩,⟨1,.phase⟩,⟨2,.phase⟩,⟨3,.phase⟩,⟨4,.phase⟩,⟨5,.phase⟩,⟨6,.phase⟩,⟨7,.phase⟩,⟨8,.phase⟩,⟨9,.phase⟩],none⟩ ?_
   try simp only [Rg.gp]
   refine wpAnyH_done (by kernel_rfl) ?_ _
   have HS4:=Lib.hid hHeld
   clear hHeld hS0 hb3 hb4 hcy HS
   obtain ⟨f0,f1,f2⟩:=HS4.out.1
   go_wp2_with fail
   with_reducible refine (rmul_c HI.out.2.1 HX.out (HFA.out.below HS4.out.2.1.out)).mono ?_
   rw [HP2.out]
   rintro z v5 ⟨rfl,hb5⟩
   have HS5:=Lib.hid (SF.keep HS4.out hb5 HS4.out.2.2.out)
   clear hb5 f0 f1 f2
   go_wp2
   go_roundw
   case rel=>exact ⟨k + 1,s2,p2,by omega,rfl,rfl,by go_num,HNX,HS5⟩
   case measure=>simp [intOf]; omega
  ·have hlt1 : ¬ (k : Int) < (A.length : Int):=by omega
   have HE : Hid (ev F x A = s):=Lib.hid (by
    have h:=HI.out.2.2
    rw [List.drop_eq_nil_of_le (by omega)] at h
    rw [← h]
    show F.add s (F.mul p 0) = s
    rw [Ok.mul_z,HFF.out.add_zero HI.out.1])
   have HBF:=Lib.hid HS.out.2.1.out
   clear hk hlt
   go_wp2
   go_ret
   exact ⟨by rw [HE.out]; rfl,HBF.out⟩
set_option maxHeartbeats 6400000 in
theorem rroots_p {F : Gf} {b cap : Nat} {A : List Nat} {aa : Option Addr} {ca : Nat} {W : World} (h : FldAt F b cap W) (hA : In F A) (ha : A.length ≤ 1000) (na : NN A W (.slice aa A.length ca)) :
  Calls Try.prog 30 #[FV F b cap,.slice aa A.length ca] W (SlPost (rootsTo F A F.q) W):=by
 have HFA:=Lib.hid h
 have HFF:=Lib.hid (ok_mem h.mem)
 have NA:=Lib.hid na
 have HA:=Lib.hid hA
 have hq64:=HFF.out.q64
 obtain ⟨i0,hi,hz0,hz1,hz2⟩:=info_parts info3
 have HO0 : Hid (((W.alloc (.cells #[.int .i64 F.p,.int .i64 F.e,FM F b cap] 28)).alloc (.cells #[] 3)).ownsRow (W.heap.size + 1) 3 1 (.slice (some ⟨W.heap.size + 1,0,none⟩) 0 0) 0 []):=Lib.hid (by
  have e : (W.alloc (.cells #[.int .i64 F.p,.int .i64 F.e,FM F b cap] 28)).heap.size = W.heap.size + 1:=by simp
  have h:=World.ownsRow_made (base:=W.heap.size + 1) (e:=3) (size:=1) (W.alloc (.cells #[.int .i64 F.p,.int .i64 F.e,FM F b cap] 28)) #[] 0 (by simp) (Nat.zero_le _) rfl
  rw [e] at h
  exact h)
 have HSF : Hid (SF W F.p F.e (FM F b cap) ((W.alloc (.cells #[.int .i64 F.p,.int .i64 F.e,FM F b cap] 28)).alloc (.cells #[] 3))):=Lib.hid ⟨FB.keep (k:=W.heap.size + 1) (w:=(W.alloc (.cells #[.int .i64 F.p,.int .i64 F.e,FM F b cap] 28))) (by simp [FB]) ((Below.refl _ _).alloc (by simp) _) (by omega),Lib.hid (((Below.refl _ _).alloc (Nat.le_refl _) _).alloc (by simp) _),Lib.hid (by simp)⟩
 clear h na hA
 go_enter Try.func30,Try.ntmps30
 go_wp2
 go_loopw [5,6] (fun o i wr=>∃ k : Nat,k ≤ F.q ∧ i = .int .i64 k ∧ Hid (wr.ownsRow (W.heap.size + 1) 3 1 o (rootsTo F A k).length ((rootsTo F A k).map N64)) ∧ Hid (SF W F.p F.e (FM F b cap) wr)) (fun _ i _=>F.q - (intOf i).toNat)
 case atStart=>exact ⟨0,Nat.zero_le _,rfl,HO0,HSF⟩
 case round =>
  obtain ⟨k,hk,rfl,HO,HS⟩:=hrel
  obtain ⟨f0,f1,f2⟩:=HS.out.1
  go_wp2_with fail
  with_reducible refine (size_c HFF.out b cap _).mono ?_
  rintro z w1 ⟨rfl,hb1⟩
  have HO1:=Lib.hid (own_belowK HO.out hb1)
  have HS1:=Lib.hid (SF.keep HS.out hb1 HS.out.2.2.out)
  clear hb1 f0 f1 f2 HO HS
  obtain ⟨f0,f1,f2⟩:=HS1.out.1
  by_cases hlt : k < F.q
  ·have hlti : (k : Int) < (F.q : Int):=by omega
   have HKQ:=Lib.hid hlt
   clear hk
   go_wp2_with fail
   with_reducible refine (reval_p (HFA.out.below HS1.out.2.1.out) HA.out ha HKQ.out (NA.out.below HS1.out.2.1.out)).mono ?_
   rintro z w2 ⟨rfl,hb2⟩
   have HO2:=Lib.hid (own_belowK HO1.out hb2)
   have HS2:=Lib.hid (SF.keep HS1.out hb2 HS1.out.2.2.out)
   clear hb2 f0 f1 f2 HO1 HS1
   have hrl : (rootsTo F A k).length ≤ 64:=Nat.le_trans (rootsTo_len F A k) (by omega)
   by_cases h0 : ev F k A = 0
   ·have hy : (((ev F k A : Nat) : Int) == 0) = true:=by rw [h0]; rfl
    have HNX : Hid (rootsTo F A (k + 1) = rootsTo F A k ++ [k]):=Lib.hid (by rw [rootsTo_succ,h0]; rfl)
    clear h0
    go_wp2_with (at_builtin; refine wpList_append_own _ rfl _ _ 25 rfl (W.heap.size + 1) 3 i0 (.int .i64 0) 1 8 Try.underlying25 hi hz0 hz1 hz2 rfl (by decide) _ _ _ rfl (HO2.out.alloc _) ⟨w2.heap.size,0,none⟩ 1 1 [.int .i64 (k : Nat)] rfl rfl oneC oneO ?c3 ?c4 ?c5 ?_)
    case c3=>unfold maxLen; omega
    case c4=>omega
    case c5=>have:=HS2.out.2.2.out; simp; omega
    intro v' w3 hown hgrow hnil
    have HO3 : Hid (w3.ownsRow (W.heap.size + 1) 3 1 v' (rootsTo F A (k + 1)).length ((rootsTo F A (k + 1)).map N64)):=Lib.hid (by rw [HNX.out,List.length_append,List.map_append]; exact hown)
    have HS3 : Hid (SF W F.p F.e (FM F b cap) w3):=Lib.hid (SF.keep (k:=W.heap.size + 1) HS2.out (((Below.refl _ _).alloc HS2.out.2.2.out _).grown hgrow (by have:=HS2.out.2.2.out; simp; omega) (fun g hg=>(World.ownsRow.lt HO2.out g hg).1)) (Nat.le_refl _))
    clear hown hgrow hnil HO2 HS2
    go_wp2
    go_roundw
    case rel=>exact ⟨k + 1,by omega,by go_num,HO3,HS3⟩
    case measure=>simp [intOf]; omega
   ·have hy : (((ev F k A : Nat) : Int) == 0) = false:=beq_eq_false_iff_ne.2 (fun e=>h0 (Int.ofNat_inj.1 e))
    have HNX : Hid (rootsTo F A (k + 1) = rootsTo F A k):=Lib.hid (by rw [rootsTo_succ]; simp [h0])
    clear h0
    go_wp2
    go_roundw
    case rel=>exact ⟨k + 1,by omega,by go_num,by rw [HNX.out]; exact HO2,HS2⟩
    case measure=>simp [intOf]; omega
  ·have hlt1 : ¬ (k : Int) < (F.q : Int):=by omega
   obtain rfl : k = F.q:=by omega
   obtain ⟨ao,co,rfl⟩:=own_shp HO1.out
   have HNR:=Lib.hid (NN.of_owns HO1.out)
   have HBF:=Lib.hid HS1.out.2.1.out
   clear hk hlt HO1
   go_wp2
   go_ret
   exact ⟨_,_,rfl,HNR.out,HBF.out⟩
abbrev SX (W : World) (p q : Int) (m : Value) (b0 o0 x o1 y : Nat) (w : World) : Prop:=
 FB W.heap.size p q m w ∧ w.cell? ⟨b0,o0,none⟩ = some (.int .i64 (x : Nat)) ∧ w.cell? ⟨b0,o1,none⟩ = some (.int .i64 (y : Nat)) ∧ Hid (Below W.heap.size W w) ∧ Hid (W.heap.size + 1 ≤ w.heap.size)
theorem SX.keep {W w w' : World} {p q : Int} {m : Value} {b0 o0 x o1 y : Nat} (h : SX W p q m b0 o0 x o1 y w) (hb : Below w.heap.size w w') (h0 : b0 < W.heap.size) : SX W p q m b0 o0 x o1 y w':=
 have hz:=h.2.2.2.2.out
 ⟨FB.keep h.1 hb (by omega),(hb.cell (p:=⟨b0,o0,none⟩) (by show b0 < w.heap.size; omega)).trans h.2.1,(hb.cell (p:=⟨b0,o1,none⟩) (by show b0 < w.heap.size; omega)).trans h.2.2.1,Lib.hid (h.2.2.2.1.out.trans (hb.mono (by omega))),Lib.hid (Nat.le_trans hz hb.size)⟩
theorem rinterp_len {F : Gf} {b cap : Nat} {ax ay : Option Addr} {nx ny cx cy : Nat} {W : World} (h : FldAt F b cap W) (hne : nx ≠ ny) :
  Calls Try.prog 20 #[FV F b cap,.slice ax nx cx,.slice ay ny cy] W fun e w'=>e = .returned (.tuple #[.slice none 0 0,.int .i64 1]) ∧ Below W.heap.size W w':=by
 have HB0 : Hid (Below W.heap.size W (W.alloc (.cells #[.int .i64 F.p,.int .i64 F.e,FM F b cap] 28))):=Lib.hid ((Below.refl _ _).alloc (Nat.le_refl _) _)
 have hd : ((nx : Int) != (ny : Int)) = true:=by simp; omega
 clear h
 go_enter Try.func20,Try.ntmps20
 go_wp2
 exact bodyPost_ret (v:=.tuple #[.slice none 0 0,.int .i64 1]) (by simp [results,Try.results20,go_sem]) rfl ⟨rfl,HB0.out⟩
def RiPost (F : Gf) (X Y : List Nat) (n : Nat) (w : World) (e : Ending) (w' : World) : Prop:=
 (¬ X.Nodup ∧ e = .returned (.tuple #[.slice none 0 0,.int .i64 1]) ∧ Below w.heap.size w w') ∨ ∃ P a c,InO F X Y n n P ∧ e = .returned (.tuple #[.slice a P.length c,.int .i64 0]) ∧ NN P w' (.slice a P.length c) ∧ Below w.heap.size w w'
theorem not_nodup' {X : List Nat} {i j : Nat} (hi : i < X.length) (hj : j < X.length) (hne : j ≠ i) (e : X.getD j 0 = X.getD i 0) : ¬ X.Nodup:=fun h=>by
 rcases Nat.lt_or_ge i j with hl | hl
 ·exact not_nodup hj hl e.symm h
 ·exact not_nodup hi (by omega : j < i) e h
set_option maxHeartbeats 12800000 in
theorem rinterp_p {F : Gf} {b cap n : Nat} {X Y : List Nat} {ax ay : Option Addr} {cx cy : Nat} {W : World} (h : FldAt F b cap W) (hX : In F X) (hY : In F Y) (eX : X.length = n) (eY : Y.length = n) (hn : n ≤ 90) (nx : NN X W (.slice ax n cx)) (ny : NN Y W (.slice ay n cy)) :
  Calls Try.prog 20 #[FV F b cap,.slice ax n cx,.slice ay n cy] W (RiPost F X Y n W):=by
 have HFA:=Lib.hid h
 have HFF:=Lib.hid (ok_mem h.mem)
 have NX:=Lib.hid nx
 have NY:=Lib.hid ny
 have HX:=Lib.hid hX
 have HY:=Lib.hid hY
 have EX:=Lib.hid eX
 have EY:=Lib.hid eY
 have HSF : Hid (SF W F.p F.e (FM F b cap) ((W.alloc (.cells #[.int .i64 F.p,.int .i64 F.e,FM F b cap] 28)).alloc (.cells #[] 3))):=Lib.hid ⟨FB.keep (k:=W.heap.size + 1) (w:=(W.alloc (.cells #[.int .i64 F.p,.int .i64 F.e,FM F b cap] 28))) (by simp [FB]) ((Below.refl _ _).alloc (by simp) _) (by omega),Lib.hid (((Below.refl _ _).alloc (Nat.le_refl _) _).alloc (by simp) _),Lib.hid (by simp)⟩
 have HN0 : Hid (NN [] ((W.alloc (.cells #[.int .i64 F.p,.int .i64 F.e,FM F b cap] 28)).alloc (.cells #[] 3)) (.slice (some ⟨W.heap.size + 1,0,none⟩) 0 0)):=Lib.hid (.inr ⟨_,_,_,rfl,Nat.le_refl _,by simp,fun t ht=>by simp at ht⟩)
 have hd : ((n : Int) != (n : Int)) = false:=by simp
 clear h hX hY nx ny eX eY
 go_enter Try.func20,Try.ntmps20
 go_wp2
 go_loopw [8,9] (fun s i wr=>∃ (I : Nat) (Sm : List Nat) (as_ : Option Addr) (cs : Nat),I ≤ n ∧ s = .slice as_ Sm.length cs ∧ i = .int .i64 (I : Nat) ∧ Hid (NN Sm wr (.slice as_ Sm.length cs)) ∧ Hid (InO F X Y n I Sm) ∧ Hid (SF W F.p F.e (FM F b cap) wr)) (fun _ i _=>n - (intOf i).toNat)
 case atStart=>exact ⟨0,[],_,_,Nat.zero_le _,rfl,rfl,HN0,Lib.hid (InO.start HFF.out n),HSF⟩
 case round =>
  obtain ⟨I,Sm,as_,cs,hI,rfl,rfl,HNS,HO,HS⟩:=hrel
  by_cases hlt : I < n
  ·have hlti : (I : Int) < (n : Int):=by omega
   obtain ⟨bX,oX,rfl,-⟩:=NX.out.adr (by rw [EX.out]; omega)
   obtain ⟨bY,oY,rfl,-⟩:=NY.out.adr (by rw [EY.out]; omega)
   have hbX : bX < W.heap.size:=NX.out.lt rfl
   obtain ⟨xi,HXI⟩ : ∃ x,Hid (X.getD I 0 = x):=⟨_,Lib.hid rfl⟩
   obtain ⟨y,HYI⟩ : ∃ x,Hid (Y.getD I 0 = x):=⟨_,Lib.hid rfl⟩
   have HXQ : Hid (xi < F.q):=Lib.hid (by rw [← HXI.out]; exact HX.out.get HFF.out I)
   have HYQ : Hid (y < F.q):=Lib.hid (by rw [← HYI.out]; exact HY.out.get HFF.out I)
   have hcy : wr.cell? ⟨bY,oY + I,none⟩ = some (.int .i64 (y : Nat)):=by rw [← HYI.out]; exact (NY.out.below HS.out.2.1.out).at (by rw [EY.out]; exact hlt)
   have HCX : Hid (W.cell? ⟨bX,oX + I,none⟩ = some (.int .i64 (xi : Nat))):=Lib.hid (by rw [← HXI.out]; exact NX.out.at (by rw [EX.out]; exact hlt))
   have HBA : Hid (Below wr.heap.size wr (wr.alloc (.cells #[.int .i64 (y : Nat)] 3))):=Lib.hid ((Below.refl _ _).alloc (Nat.le_refl _) _)
   have HNT0 : Hid (NN [y] (wr.alloc (.cells #[.int .i64 (y : Nat)] 3)) (.slice (some ⟨wr.heap.size,0,none⟩) [y].length 1)):=Lib.hid (nn_new rfl rfl)
   have HNS0:=Lib.hid (HNS.out.below HBA.out)
   have HS0:=Lib.hid (SF.keep HS.out HBA.out HS.out.2.2.out)
   have HII : Hid (InI F X y I 0 [y]):=Lib.hid (InI.start HFF.out HYQ.out)
   have HWR:=Lib.hid HS.out.2.1.out
   clear hI
   go_wp2
   go_loopw [10,11] (fun t k wr=>∃ (K : Nat) (T : List Nat) (at_ : Option Addr) (ct : Nat),K ≤ n ∧ t = .slice at_ T.length ct ∧ k = .int .i64 (K : Nat) ∧ Hid (NN T wr (.slice at_ T.length ct)) ∧ Hid (NN Sm wr (.slice as_ Sm.length cs)) ∧ Hid (InI F X y I K T) ∧ Hid (SF W F.p F.e (FM F b cap) wr)) (fun _ k _=>n - (intOf k).toNat)
   case atStart=>exact ⟨0,[y],_,_,Nat.zero_le _,rfl,rfl,HNT0,HNS0,HII,HS0⟩
   case round =>
    obtain ⟨K,T,at_,ct,hK,rfl,rfl,HNT,HNSr,HI2,HSr⟩:=hrel
    by_cases hkt : K < n
    ·have hkti : (K : Int) < (n : Int):=by omega
     by_cases hki : K = I
     ·have hke : ((K : Int) == (I : Int)) = true:=by rw [hki]; simp
      have HI3 : Hid (InI F X y I (K + 1) T):=Lib.hid (by
       have h:=HI2.out
       rw [hki] at h ⊢
       exact h.skip)
      clear hK hki
      go_wp2
      go_roundw
      case rel=>exact ⟨K + 1,T,_,_,by omega,rfl,by go_num,HNT,HNSr,HI3,HSr⟩
      case measure=>simp [intOf]; omega
     ·have hke : ((K : Int) == (I : Int)) = false:=beq_eq_false_iff_ne.2 (by omega)
      obtain ⟨xk,HXK⟩ : ∃ x,Hid (X.getD K 0 = x):=⟨_,Lib.hid rfl⟩
      have HKQ : Hid (xk < F.q):=Lib.hid (by rw [← HXK.out]; exact HX.out.get HFF.out K)
      have HCK : Hid (W.cell? ⟨bX,oX + K,none⟩ = some (.int .i64 (xk : Nat))):=Lib.hid (by rw [← HXK.out]; exact NX.out.at (by rw [EX.out]; exact hkt))
      have hS0 : SX W F.p F.e (FM F b cap) bX (oX + K) xk (oX + I) xi wr.drew:=⟨HSr.out.1,(HSr.out.2.1.out.cell (p:=⟨bX,oX + K,none⟩) hbX).trans HCK.out,(HSr.out.2.1.out.cell (p:=⟨bX,oX + I,none⟩) hbX).trans HCX.out,Lib.hid HSr.out.2.1.out.drew,Lib.hid HSr.out.2.2.out⟩
      by_cases hxx : xk = xi
      ·have hxe : ((xk : Int) == (xi : Int)) = true:=by rw [hxx]; simp
       have HND : Hid (¬ X.Nodup):=Lib.hid (not_nodup' (by rw [EX.out]; exact hlt) (by rw [EX.out]; exact hkt) hki (by rw [HXK.out,HXI.out,hxx]))
       clear hxx hK hki
       go_wp2_with fail
       refine wp_region_held_drew (S:=fun w'=>SX W F.p F.e (FM F b cap) bX (oX + K) xk (oX + I) xi w') (by kernel_rfl) (by with_reducible exact hS0) (fun hHeld=>?_)
       refine Rg.tk 0 ⟨some 40,.move (.tmp 1),25,"ref.go:132",#[],none⟩ ?_
       try simp only [Rg.gp]
       refine Rg.tk 1 ⟨some 41,.move (.tmp 11),3,"ref.go:132",#[],none⟩ ?_
       try simp only [Rg.gp]
       refine Rg.tk 2 ⟨some 42,.indexAddr 25 (.tmp 40) (.tmp 41),0,"ref.go:132",#[⟨0,.data⟩,⟨1,.data⟩],none⟩ ?_
       try simp only [Rg.gp]
       refine Rg.tk 3 ⟨some 43,.load 3 (.tmp 42),3,"ref.go:132",#[⟨2,.data⟩],none⟩ ?_
       try simp only [Rg.gp]
       refine Rg.tk 4 ⟨some 44,.move (.tmp 1),25,"ref.go:132",#[],none⟩ ?_
       try simp only [Rg.gp]
       refine Rg.tk 5 ⟨some 45,.move (.tmp 9),3,"ref.go:132",#[],none⟩ ?_
       try simp only [Rg.gp]
       refine Rg.tk 6 ⟨some 46,.indexAddr 25 (.tmp 44) (.tmp 45),0,"ref.go:132",#[⟨4,.data⟩,⟨5,.data⟩],none⟩ ?_
       try simp only [Rg.gp]
       refine Rg.tk 7 ⟨some 47,.load 3 (.tmp 46),3,"ref.go:132",#[⟨6,.data⟩],none⟩ ?_
       try simp only [Rg.gp]
       refine Rg.tk 8 ⟨some 48,.binOp BinOp.eql 3 (.tmp 43) (.tmp 47) 3,4,"ref.go:132",#[⟨3,.data⟩,⟨7,.data⟩],none⟩ ?_
       try simp only [Rg.gp]
       refine wpAnyH_done (by kernel_rfl) ?_ _
       have HBF:=Lib.hid hHeld.2.2.2.1.out
       clear hHeld hS0
       go_wp2
       exact bodyPost_ret (v:=.tuple #[.slice none 0 0,.int .i64 1]) (by simp [results,Try.results20,go_sem]) rfl (.inl ⟨HND.out,rfl,HBF.out⟩)
      ·have hxe : ((xk : Int) == (xi : Int)) = false:=beq_eq_false_iff_ne.2 (by omega)
       obtain ⟨dd,HDD⟩ : ∃ x,Hid (F.sub xi xk = x):=⟨_,Lib.hid rfl⟩
       have HDQ : Hid (dd < F.q ∧ dd ≠ 0):=Lib.hid (by rw [← HDD.out]; exact ⟨HFF.out.add_lt _ _,fun e=>hxx (sub_zero_of HFF.out HXQ.out HKQ.out e).symm⟩)
       obtain ⟨iv,HIV⟩ : ∃ x,Hid (F.inv dd = x):=⟨_,Lib.hid rfl⟩
       have HIQ : Hid (iv < F.q):=Lib.hid (by rw [← HIV.out]; exact HFF.out.inv_lt dd)
       obtain ⟨nk,HNK⟩ : ∃ x,Hid (F.neg xk = x):=⟨_,Lib.hid rfl⟩
       have HNKQ : Hid (nk < F.q):=Lib.hid (by rw [← HNK.out]; exact HFF.out.neg_lt xk)
       obtain ⟨mk,HMK⟩ : ∃ x,Hid (F.mul nk iv = x):=⟨_,Lib.hid rfl⟩
       have HMKQ : Hid (mk < F.q):=Lib.hid (by rw [← HMK.out]; exact HFF.out.mul_lt _ _)
       obtain ⟨T2,HT2⟩ : ∃ l,Hid (mulP F T [mk,iv] = l):=⟨_,Lib.hid rfl⟩
       have HI3 : Hid (InI F X y I (K + 1) T2):=Lib.hid (by
        have h:=InI.step HFF.out HX.out HI2.out HYQ.out hki (by rw [HXK.out,HXI.out]; exact hxx)
        rw [HXI.out,HXK.out] at h
        unfold facL at h
        rw [HDD.out,HIV.out,HNK.out,HMK.out,HT2.out] at h
        exact h)
       have htl : T.length ≤ 91:=by have h:=HI2.out.len; split at h <;> omega
       clear hxx hK hki
       go_wp2_with fail
       refine wp_region_held_drew (S:=fun w'=>SX W F.p F.e (FM F b cap) bX (oX + K) xk (oX + I) xi w') (by kernel_rfl) (by with_reducible exact hS0) (fun hHeld=>?_)
       refine Rg.tk 0 ⟨some 40,.move (.tmp 1),25,"ref.go:132",#[],none⟩ ?_
       try simp only [Rg.gp]
       refine Rg.tk 1 ⟨some 41,.move (.tmp 11),3,"ref.go:132",#[],none⟩ ?_
       try simp only [Rg.gp]
       refine Rg.tk 2 ⟨some 42,.indexAddr 25 (.tmp 40) (.tmp 41),0,"ref.go:132",#[⟨0,.data⟩,⟨1,.data⟩],none⟩ ?_
       try simp only [Rg.gp]
       refine Rg.tk 3 ⟨some 43,.load 3 (.tmp 42),3,"ref.go:132",#[⟨2,.data⟩],none⟩ ?_
       try simp only [Rg.gp]
       refine Rg.tk 4 ⟨some 44,.move (.tmp 1),25,"ref.go:132",#[],none⟩ ?_
       try simp only [Rg.gp]
       refine Rg.tk 5 ⟨some 45,.move (.tmp 9),3,"ref.go:132",#[],none⟩ ?_
       try simp only [Rg.gp]
       refine Rg.tk 6 ⟨some 46,.indexAddr 25 (.tmp 44) (.tmp 45),0,"ref.go:132",#[⟨4,.data⟩,⟨5,.data⟩],none⟩ ?_
       try simp only [Rg.gp]
       refine Rg.tk 7 ⟨some 47,.load 3 (.tmp 46),3,"ref.go:132",#[⟨6,.data⟩],none⟩ ?_
       try simp only [Rg.gp]
       refine Rg.tk 8 ⟨some 48,.binOp BinOp.eql 3 (.tmp 43) (.tmp 47) 3,4,"ref.go:132",#[⟨3,.data⟩,⟨7,.data⟩],none⟩ ?_
       try simp only [Rg.gp]
       refine wpAnyH_done (by kernel_rfl) ?_ _
       have hS12 : SX W F.p F.e (FM F b cap) bX (oX + K) xk (oX + I) xi wr.drew.drew:=⟨hHeld.1,hHeld.2.1,hHeld.2.2.1,Lib.hid hHeld.2.2.2.1.out.drew,Lib.hid hHeld.2.2.2.2.out⟩
       clear hHeld hS0
       go_wp2_with fail
       refine wp_region_held_drew (S:=fun w'=>SX W F.p F.e (FM F b cap) bX (oX + K) xk (oX + I) xi w') (by kernel_rfl) (by with_reducible exact hS12) (fun hHeld=>?_)
       refine Rg.tk 0 ⟨some 50,.load 28 (.tmp 3),28,"ref.go:135",#[],none⟩ ?_
       try simp only [Rg.gp]
       refine Rg.tk 1 ⟨some 51,.load 28 (.tmp 3),28,"ref.go:135",#[],none⟩ ?_
       try simp only [Rg.gp]
       refine Rg.tk 2 ⟨some 52,.move (.tmp 1),25,"ref.go:135",#[],none⟩ ?_
       try simp only [Rg.gp]
       refine Rg.tk 3 ⟨some 53,.move (.tmp 9),3,"ref.go:135",#[],none⟩ ?_
       try simp only [Rg.gp]
       refine Rg.tk 4 ⟨some 54,.indexAddr 25 (.tmp 52) (.tmp 53),0,"ref.go:135",#[⟨2,.data⟩,⟨3,.data⟩],none⟩ ?_
       try simp only [Rg.gp]
       refine Rg.tk 5 ⟨some 55,.load 3 (.tmp 54),3,"ref.go:135",#[⟨4,.data⟩],none⟩ ?_
       try simp only [Rg.gp]
       refine Rg.tk 6 ⟨some 56,.move (.tmp 1),25,"ref.go:135",#[],none⟩ ?_
       try simp only [Rg.gp]
       refine Rg.tk 7 ⟨some 57,.move (.tmp 11),3,"ref.go:135",#[],none⟩ ?_
       try simp only [Rg.gp]
       refine Rg.tk 8 ⟨some 58,.indexAddr 25 (.tmp 56) (.tmp 57),0,"ref.go:135",#[⟨6,.data⟩,⟨7,.data⟩],none⟩ ?_
       try simp only [Rg.gp]
       refine Rg.tk 9 ⟨some 59,.load 3 (.tmp 58),3,"ref.go:135",#[⟨8,.data⟩],none⟩ ?_
       try simp only [Rg.gp]
       refine Rg.rd1 10 ⟨some 60,.call ⟨.value (.func 54),#[.tmp 51,.tmp 55,.tmp 59],#[28,3,3]⟩,3,"ref.go:135",#[⟨1,.data⟩,⟨5,.data⟩,⟨9,.data⟩],none⟩ fun K hK=>?_
       go_simp
       go_at_call 54
       with_reducible refine (rsub_c HXQ.out HKQ.out (HFA.out.below hHeld.2.2.2.1.out)).mono ?_
       rw [HDD.out]
       rintro z v1 ⟨rfl,hb1⟩
       refine hK.out _ _ ?_ (fun hHeld=>?_)
       ·(try dsimp only)
        exact SX.keep hHeld hb1 hbX
       clear hK K
       try simp only [Rg.gp]
       refine Rg.rd1 11 ⟨some 61,.call ⟨.value (.func 46),#[.tmp 50,.tmp 60],#[28,3]⟩,53,"ref.go:135",#[⟨0,.data⟩,⟨10,.data⟩,⟨10,.chain⟩],none⟩ fun K hK=>?_
       go_simp
       go_at_call 46
       with_reducible refine (rinv_c HDQ.out.1 HDQ.out.2 (HFA.out.below hHeld.2.2.2.1.out)).mono ?_
       rw [HIV.out]
       rintro z v2 ⟨rfl,hb2⟩
       refine hK.out _ _ ?_ (fun hHeld=>?_)
       ·(try dsimp only)
        exact SX.keep hHeld hb2 hbX
       clear hK K
       try simp only [Rg.gp]
       refine Rg.tk 12 ⟨some 49,.move (.tmp 61),53,"ref.go:135",#[⟨11,.data⟩],none⟩ ?_
       try simp only [Rg.gp]
       refine Rg.tk 13 ⟨some 62,.extract (.tmp 49) 0,3,"ref.go:135",#[⟨12,.data⟩],none⟩ ?_
       try simp only [Rg.gp]
       refine Rg.tk 14 ⟨some 63,.extract (.tmp 49) 1,34,"ref.go:135",#[⟨12,.data⟩,⟨15,.gcOnly Go.Departure.lateStores⟩],none⟩ ?_
       try simp only [Rg.gp]
       refine Rg.tk 15 ⟨some 12,.assign (.tmp 62),3,"ref.go:135",#[⟨13,.data⟩,⟨11,.chain⟩,⟨0,.phase⟩,⟨1,.phase⟩,⟨2,.phase⟩,⟨3,.phase⟩,⟨4,.phase⟩,⟨5,.phase⟩,⟨6,.phase⟩,⟨7,.phase⟩,⟨8,.phase⟩,⟨9,.phase⟩,⟨10,.phase⟩,⟨11,.phase⟩,⟨12,.phase⟩,⟨13,.phase⟩,⟨14,.textOnly Go.Departure.lateStores⟩],none⟩ ?_
       try simp only [Rg.gp]
       refine Rg.tk 16 ⟨some 13,.assign (.tmp 63),34,"ref.go:135",#[⟨14,.data⟩,⟨15,.chain⟩,⟨0,.phase⟩,⟨1,.phase⟩,⟨2,.phase⟩,⟨3,.phase⟩,⟨4,.phase⟩,⟨5,.phase⟩,⟨6,.phase⟩,⟨7,.phase⟩,⟨8,.phase⟩,⟨9,.phase⟩,⟨10,.phase⟩,⟨11,.phase⟩,⟨12,.phase⟩,⟨13,.phase⟩,⟨14,.phase⟩,⟨15,.phase⟩],none⟩ ?_
       try simp only [Rg.gp]
       refine wpAnyH_done (by kernel_rfl) ?_ _
       have HS2:=Lib.hid hHeld
       have HNT2:=Lib.hid ((NN.below (w:=wr.drew.drew) HNT.out hb1).below hb2)
       have HNS2:=Lib.hid ((NN.below (w:=wr.drew.drew) HNSr.out hb1).below hb2)
       clear hHeld hS12 hb1 hb2 HSr HNT HNSr
       have hS1 : SX W F.p F.e (FM F b cap) bX (oX + K) xk (oX + I) xi v2.drew:=⟨HS2.out.1,HS2.out.2.1,HS2.out.2.2.1,Lib.hid HS2.out.2.2.2.1.out.drew,Lib.hid HS2.out.2.2.2.2.out⟩
       go_wp2_with fail
       refine wp_region_held_drew (S:=fun w'=>SX W F.p F.e (FM F b cap) bX (oX + K) xk (oX + I) xi w') (by kernel_rfl) (by with_reducible exact hS1) (fun hHeld=>?_)
       refine Rg.tk 0 ⟨some 64,.load 28 (.tmp 3),28,"ref.go:136",#[],none⟩ ?_
       try simp only [Rg.gp]
       refine Rg.tk 1 ⟨some 65,.move (.tmp 10),25,"ref.go:136",#[],none⟩ ?_
       try simp only [Rg.gp]
       refine Rg.tk 2 ⟨some 66,.load 28 (.tmp 3),28,"ref.go:136",#[],none⟩ ?_
       try simp only [Rg.gp]
       refine Rg.tk 3 ⟨some 67,.load 28 (.tmp 3),28,"ref.go:136",#[],none⟩ ?_
       try simp only [Rg.gp]
       refine Rg.tk 4 ⟨some 68,.move (.tmp 1),25,"ref.go:136",#[],none⟩ ?_
       try simp only [Rg.gp]
       refine Rg.tk 5 ⟨some 69,.move (.tmp 11),3,"ref.go:136",#[],none⟩ ?_
       try simp only [Rg.gp]
       refine Rg.tk 6 ⟨some 70,.indexAddr 25 (.tmp 68) (.tmp 69),0,"ref.go:136",#[⟨4,.data⟩,⟨5,.data⟩],none⟩ ?_
       try simp only [Rg.gp]
       refine Rg.tk 7 ⟨some 71,.load 3 (.tmp 70),3,"ref.go:136",#[⟨6,.data⟩],none⟩ ?_
       try simp only [Rg.gp]
       refine Rg.tk 9 ⟨some 73,.move (.tmp 12),3,"ref.go:136",#[],none⟩ ?_
       try simp only [Rg.gp]
       refine Rg.tk 11 ⟨some 75,.move (.tmp 12),3,"ref.go:136",#[],none⟩ ?_
       try simp only [Rg.gp]
       refine Rg.rd1 8 ⟨some 72,.call ⟨.value (.func 35),#[.tmp 67,.tmp 71],#[28,3]⟩,3,"ref.go:136",#[⟨3,.data⟩,⟨7,.data⟩],none⟩ fun K hK=>?_
       go_simp
       go_at_call 35
       with_reducible refine (rneg_c HKQ.out (HFA.out.below hHeld.2.2.2.1.out)).mono ?_
       rw [HNK.out]
       rintro z v3 ⟨rfl,hb3⟩
       have HNT3:=Lib.hid (NN.below (w:=v2.drew) HNT2.out hb3)
       have HNS3:=Lib.hid (NN.below (w:=v2.drew) HNS2.out hb3)
       refine hK.out _ _ ?_ (fun hHeld=>?_)
       ·(try dsimp only)
        exact SX.keep hHeld hb3 hbX
       clear hK K
       try simp only [Rg.gp]
       refine Rg.rd1 10 ⟨some 74,.call ⟨.value (.func 34),#[.tmp 66,.tmp 72,.tmp 73],#[28,3,3]⟩,3,"ref.go:136",#[⟨2,.data⟩,⟨8,.data⟩,⟨9,.data⟩,⟨8,.chain⟩],none⟩ fun K hK=>?_
       go_simp
       go_at_call 34
       with_reducible refine (rmul_c HNKQ.out HIQ.out (HFA.out.below hHeld.2.2.2.1.out)).mono ?_
       rw [HMK.out]
       rintro z v4 ⟨rfl,hb4⟩
       have HNT4:=Lib.hid (HNT3.out.below hb4)
       have HNS4:=Lib.hid (HNS3.out.below hb4)
       have HBA4 : Hid (Below v4.heap.size v4 (v4.alloc (.cells #[.int .i64 (mk : Nat),.int .i64 (iv : Nat)] 3))):=Lib.hid ((Below.refl _ _).alloc (Nat.le_refl _) _)
       have HNF4 : Hid (NN [mk,iv] (v4.alloc (.cells #[.int .i64 (mk : Nat),.int .i64 (iv : Nat)] 3)) (.slice (some ⟨v4.heap.size,0,none⟩) 2 2)):=Lib.hid (nn_new rfl rfl)
       have HMC : Hid (Calls Try.prog 24 #[FV F b cap,.slice at_ T.length ct,.slice (some ⟨v4.heap.size,0,none⟩) 2 2] (v4.alloc (.cells #[.int .i64 (mk : Nat),.int .i64 (iv : Nat)] 3)) (SlPost T2 (v4.alloc (.cells #[.int .i64 (mk : Nat),.int .i64 (iv : Nat)] 3)))):=Lib.hid (by
        have h:=rmulP (A:=T) (B:=[mk,iv]) ((HFA.out.below hHeld.2.2.2.1.out).below (hb4.trans (HBA4.out.mono hb4.size))) HI2.out.el (In.cons HMKQ.out (In.cons HIQ.out In.nil)) (by omega) (by simp) (HNT4.out.below HBA4.out) HNF4.out
        rw [HT2.out] at h
        exact h)
       refine hK.out _ _ ?_ (fun hHeld=>?_)
       ·(try dsimp only)
        exact SX.keep hHeld hb4 hbX
       clear hK K
       try simp only [Rg.gp]
       refine Rg.rd1 12 ⟨some 76,.buildSlice 25 2 #[(0,.tmp 74),(1,.tmp 75)],25,"ref.go:136",#[⟨10,.data⟩,⟨11,.data⟩],none⟩ fun K hK=>?_
       go_simp
       refine hK.out _ _ ?_ (fun hHeld=>?_)
       ·(try dsimp only)
        exact SX.keep hHeld ((Below.refl _ _).alloc (Nat.le_refl _) _) hbX
       clear hK K
       try simp only [Rg.gp]
       refine Rg.rd1 13 ⟨some 77,.call ⟨.value (.func 24),#[.tmp 64,.tmp 65,.tmp 76],#[28,25,25]⟩,25,"ref.go:136",#[⟨0,.data⟩,⟨1,.data⟩,⟨12,.data⟩,⟨10,.chain⟩],none⟩ fun K hK=>?_
       go_simp
       go_at_call 24
       with_reducible refine HMC.out.mono ?_
       rintro z v5 ⟨a5,c5,rfl,hn5,hb5⟩
       have HN5:=Lib.hid hn5
       have HNS5:=Lib.hid ((HNS4.out.below HBA4.out).below hb5)
       refine hK.out _ _ ?_ (fun hHeld=>?_)
       ·(try dsimp only)
        exact SX.keep hHeld hb5 hbX
       clear hK K
       try simp only [Rg.gp]
       refine Rg.tk 14 ⟨some 10,.assign (.tmp 77),25,"ref.go:136",#[⟨13,.data⟩,⟨13,.chain⟩,⟨0,.phase⟩,⟨1,.phase⟩,⟨2,.phase⟩,⟨3,.phase⟩,⟨4,.phase⟩,⟨5,.phase⟩,⟨6,.phase⟩,⟨7,.phase⟩,⟨8,.phase⟩,⟨9,.phase⟩,⟨10,.phase⟩,⟨11,.phase⟩,⟨12,.phase⟩,⟨13,.phase⟩],none⟩ ?_
       try simp only [Rg.gp]
       refine wpAnyH_done (by kernel_rfl) ?_ _
       have HS5 : Hid (SF W F.p F.e (FM F b cap) v5):=Lib.hid ⟨hHeld.1,Lib.hid hHeld.2.2.2.1.out,Lib.hid hHeld.2.2.2.2.out⟩
       clear hHeld hS1 hb3 hb4 hb5 hn5 HS2
       go_wp2
       go_roundw
       case rel=>exact ⟨K + 1,T2,_,_,by omega,rfl,by go_num,HN5,HNS5,HI3,HS5⟩
       case measure=>simp [intOf]; omega
    ·have hkt1 : ¬ (K : Int) < (n : Int):=by omega
     have hKn : K = n:=by omega
     obtain ⟨f0,f1,f2⟩:=HSr.out.1
     have htl : T.length ≤ 91:=by have h:=HI2.out.len; split at h <;> omega
     have HO2 : Hid (InO F X Y n (I + 1) (addP F Sm T)):=Lib.hid (InO.step HFF.out HX.out HY.out HO.out hlt (by rw [HYI.out,← hKn]; exact HI2.out))
     clear hK hkt hKn
     go_wp2_with fail
     with_reducible refine (radd_p (HFA.out.below HSr.out.2.1.out) HO.out.po.el HI2.out.el (Nat.le_trans HO.out.len (by omega)) (by omega) HNSr.out HNT.out).mono ?_
     rintro z w3 ⟨a3,c3,rfl,hn3,hb3⟩
     have HN3:=Lib.hid hn3
     have HS3:=Lib.hid (SF.keep HSr.out hb3 HSr.out.2.2.out)
     clear hn3 hb3 f0 f1 f2
     go_wp2
     go_roundw
     case rel=>exact ⟨I + 1,addP F Sm T,_,_,by omega,rfl,by go_num,HN3,HO2,HS3⟩
     case measure=>simp [intOf]; omega
  ·have hlt1 : ¬ (I : Int) < (n : Int):=by omega
   have hIn : I = n:=by omega
   have HIn : Hid (InO F X Y n n Sm):=Lib.hid (by have h:=HO.out; rw [hIn] at h; exact h)
   clear hIn
   have HBF:=Lib.hid HS.out.2.1.out
   clear hI hlt
   go_wp2
   exact bodyPost_ret (v:=.tuple #[.slice as_ Sm.length cs,.int .i64 0]) (by simp [results,Try.results20,go_sem]) rfl (.inr ⟨Sm,_,_,HIn.out,rfl,HNS.out,HBF.out⟩)
theorem conjTo_len (F : Gf) (a : Nat) : ∀ k c,(conjTo F a k c).length ≤ k
 | 0,_=>Nat.le_refl _
 | k + 1,c=>by
  unfold conjTo
  have:=conjTo_len F a k (F.pow c F.p)
  cases Nat.beq (F.pow c F.p) a <;> simp <;> exact this
set_option maxHeartbeats 12800000 in
theorem rminimal_p {F : Gf} {b cap a : Nat} {W : World} (h : FldAt F b cap W) (ha : a < F.q) (hMP : Po F (minL F a)) : Calls Try.prog 32 #[FV F b cap,.int .i64 (a : Nat)] W (SlPost (minL F a) W):=by
 have HFA:=Lib.hid h
 have HFF:=Lib.hid (ok_mem h.mem)
 have HFR:=Lib.hid (fr_ok h.mem)
 have HMO : Hid (MinOk F a):=Lib.hid (min_ok h.mem ha)
 have HMP:=Lib.hid hMP
 have HAQ:=Lib.hid ha
 have hp2:=HFF.out.p2
 have hp64:=(ok_small HFF.out).1
 have he6:=(ok_small HFF.out).2
 obtain ⟨D,HD⟩ : ∃ d,Hid ((conjL F a).length = d):=⟨_,Lib.hid rfl⟩
 have HD1 : Hid (0 < D ∧ D ≤ F.e):=Lib.hid ⟨by rw [← HD.out]; exact List.length_pos_of_mem (conj_head HFF.out HFR.out),by rw [← HD.out]; exact conjTo_len F a F.e a⟩
 have hd1 : 0 < D:=HD1.out.1
 have hde : D ≤ F.e:=HD1.out.2
 have HPW : Hid (∀ d,d ≤ F.e → F.p ^ d ≤ 64):=Lib.hid (fun d hd=>Nat.le_trans (Nat.pow_le_pow_right (by omega) hd) (by rw [← HFF.out.qe]; exact HFF.out.q64))
 obtain ⟨M,HM⟩ : ∃ l,Hid (minL F a = l):=⟨_,Lib.hid rfl⟩
 have HZR : Hid (ev F a M = 0):=Lib.hid (by rw [← HM.out]; exact HMO.out.zero a (conj_head HFF.out HFR.out))
 have HNO : Hid (∀ L : List Nat,(∀ x ∈ L,x < F.p) → L.length ≤ D → L ++ [1] ≠ M → ev F a (L ++ [1]) ≠ 0):=Lib.hid (fun L h1 h2 h3=>min_no HFF.out HFR.out HAQ.out HMO.out HMP.out h1 (by rw [HD.out]; exact h2) (by rw [HM.out]; exact h3))
 obtain ⟨km,HKM⟩ : ∃ k,Hid ((k < F.p ^ D ∧ digM F.p k D ++ [1] = M) ∧ ∀ j,j < k → ¬ (j < F.p ^ D ∧ digM F.p j D ++ [1] = M)):=by
  have hl : M.length = D + 1:=by rw [← HM.out,← HD.out]; exact HMO.out.len
  have hlow : ∀ x ∈ M.take D,x < F.p:=fun x hx=>HMO.out.low x (by rw [HM.out]; exact List.mem_of_mem_take hx)
  have ht : (M.take D).length = D:=by rw [List.length_take]; omega
  obtain ⟨k,hk,e⟩:=digM_ex (P:=F.p) (by omega) (M.take D) hlow
  rw [ht] at hk e
  have htop : M.getD D 0 = 1:=by rw [← HM.out,← HD.out]; exact HMO.out.top
  have hM2 : M.take D ++ [1] = M:=by
   have h3 : M.take (D + 1) = M.take D ++ [M.getD D 0]:=by
    rw [List.take_add_one,List.getElem?_eq_getElem (by omega)]
    simp [List.getD,show D < M.length by omega]
   rw [htop,List.take_of_length_le (by omega)] at h3
   exact h3.symm
  obtain ⟨k2,h4,h5⟩:=least (p:=fun k=>k < F.p ^ D ∧ digM F.p k D ++ [1] = M) ⟨k,hk,by rw [e]; exact hM2⟩
  exact ⟨k2,Lib.hid ⟨h4,h5⟩⟩
 have HSF : Hid (SF W F.p F.e (FM F b cap) (W.alloc (.cells #[.int .i64 F.p,.int .i64 F.e,FM F b cap] 28))):=Lib.hid ⟨by simp [FB],Lib.hid ((Below.refl _ _).alloc (Nat.le_refl _) _),Lib.hid (by simp)⟩
 obtain ⟨i0,hi,hz0,hz1,hz2⟩:=info_parts info3
 rw [HM.out]
 clear h ha hMP
 go_enter Try.func32,Try.ntmps32
 go_wp2
 go_loopw [5,6] (fun n d wr=>∃ d' : Nat,d' < D ∧ n = .int .i64 ((F.p ^ d' : Nat) : Int) ∧ d = .int .i64 ((d' + 1 : Nat) : Int) ∧ Hid (SF W F.p F.e (FM F b cap) wr)) (fun _ d _=>D - (intOf d).toNat)
 case atStart=>exact ⟨0,hd1,by simp,by simp,HSF⟩
 case round =>
  obtain ⟨d',hd',rfl,rfl,HS⟩:=hrel
  obtain ⟨dd,HDD⟩ : ∃ x,Hid (d' + 1 = x):=⟨_,Lib.hid rfl⟩
  have hdd : dd ≤ D:=by have:=HDD.out; omega
  have hdd1 : 0 < dd:=by have:=HDD.out; omega
  have hdde : (dd : Int) ≤ (F.e : Int):=by omega
  obtain ⟨n0,HN0⟩ : ∃ x,Hid (F.p ^ d' = x):=⟨_,Lib.hid rfl⟩
  obtain ⟨n1,HN1⟩ : ∃ x,Hid (F.p ^ dd = x):=⟨_,Lib.hid rfl⟩
  have hn1 : n1 ≤ 64:=by rw [← HN1.out]; exact HPW.out dd (by omega)
  have hmul : (n0 : Int) * (F.p : Int) = (n1 : Int):=by rw [← HN0.out,← HN1.out,← HDD.out,Nat.pow_succ]; simp
  have hwm : IntKind.i64.wrap (n1 : Int) = (n1 : Int):=IntWalk.i64_in _ (by omega)
  rw [HN0.out,HDD.out]
  obtain ⟨f0,f1,f2⟩:=HS.out.1
  go_wp2
  go_loopw [7] (fun k wr=>∃ K : Nat,K ≤ n1 ∧ k = .int .i64 (K : Nat) ∧ Hid (dd = D → K ≤ km) ∧ Hid (SF W F.p F.e (FM F b cap) wr)) (fun k _=>n1 - (intOf k).toNat)
  case atStart=>exact ⟨0,Nat.zero_le _,rfl,Lib.hid (fun _=>Nat.zero_le _),HS⟩
  case round =>
   obtain ⟨K,hK,rfl,HKL,HSr⟩:=hrel
   clear f0 f1 f2
   by_cases hkt : K < n1
   ·have hkti : (K : Int) < (n1 : Int):=by omega
    have HO0 : Hid ((wr.alloc (.cells #[] 3)).ownsRow (W.heap.size + 1) 3 1 (.slice (some ⟨wr.heap.size,0,none⟩) 0 0) 0 []):=Lib.hid (World.ownsRow_made (base:=W.heap.size + 1) (e:=3) (size:=1) wr #[] 0 HSr.out.2.2.out (Nat.zero_le _) rfl)
    have HS0:=Lib.hid (SF.keep HSr.out ((Below.refl _ _).alloc (Nat.le_refl _) (.cells #[] 3)) HSr.out.2.2.out)
    have hK64 : K < 64:=by omega
    go_wp2
    go_loopw [8,9,10] (fun p r i wr=>∃ I : Nat,I ≤ dd ∧ r = .int .i64 ((K / F.p ^ I : Nat) : Int) ∧ i = .int .i64 (I : Nat) ∧ Hid (wr.ownsRow (W.heap.size + 1) 3 1 p I ((digM F.p K I).map N64)) ∧ Hid (SF W F.p F.e (FM F b cap) wr)) (fun _ _ i _=>dd - (intOf i).toNat)
    case atStart=>exact ⟨0,Nat.zero_le _,by simp,rfl,Lib.hid (by simpa [digM] using HO0.out),HS0⟩
    case round =>
     obtain ⟨I,hI,rfl,rfl,HO,HSi⟩:=hrel
     obtain ⟨f0,f1,f2⟩:=HSi.out.1
     obtain ⟨rs,HRS⟩ : ∃ x,Hid (K / F.p ^ I = x):=⟨_,Lib.hid rfl⟩
     rw [HRS.out]
     by_cases hlt : I < dd
     ·have hlti : (I : Int) < (dd : Int):=by omega
      obtain ⟨dg,HDG⟩ : ∃ x,Hid (rs % F.p = x):=⟨_,Lib.hid rfl⟩
      obtain ⟨r2,HR2⟩ : ∃ x,Hid (rs / F.p = x):=⟨_,Lib.hid rfl⟩
      have hrs : rs < 64:=by rw [← HRS.out]; exact Nat.lt_of_le_of_lt (Nat.div_le_self _ _) hK64
      have hdg : dg < 64:=by rw [← HDG.out]; have:=Nat.mod_le rs F.p; omega
      have hr2 : r2 < 64:=by rw [← HR2.out]; have:=Nat.div_le_self rs F.p; omega
      have hm1 : ((rs : Int)).tmod (F.p : Int) = (dg : Int):=by rw [← HDG.out,Int.tmod_eq_emod_of_nonneg (by omega)]; rfl
      have hm2 : (rs : Int) % (F.p : Int) = (dg : Int):=by rw [← HDG.out]; rfl
      have hq1 : ((rs : Int)).tdiv (F.p : Int) = (r2 : Int):=by rw [← HR2.out,Int.tdiv_eq_ediv_of_nonneg (by omega)]; rfl
      have hq2 : (rs : Int) / (F.p : Int) = (r2 : Int):=by rw [← HR2.out]; rfl
      have hpz : ¬ F.p = 0:=by omega
      have hwd : IntKind.i64.wrap (dg : Int) = (dg : Int):=IntWalk.i64_in _ (by omega)
      have hwr2 : IntKind.i64.wrap (r2 : Int) = (r2 : Int):=IntWalk.i64_in _ (by omega)
      have HNX : Hid ((digM F.p K (I + 1)).map N64 = (digM F.p K I).map N64 ++ [.int .i64 (dg : Nat)]):=Lib.hid (by rw [digM_succ,HRS.out,HDG.out,List.map_append]; rfl)
      have HRN : Hid (K / F.p ^ (I + 1) = r2):=Lib.hid (by rw [Nat.pow_succ,← Nat.div_div_eq_div_mul,HRS.out,HR2.out])
      clear hI
      go_wp2_with (at_builtin; refine wpList_append_own _ rfl _ _ 25 rfl (W.heap.size + 1) 3 i0 (.int .i64 0) 1 8 Try.underlying25 hi hz0 hz1 hz2 rfl (by decide) _ _ _ rfl (HO.out.alloc _) ⟨wr.heap.size,0,none⟩ 1 1 [.int .i64 (dg : Nat)] rfl rfl oneC oneO ?c3 ?c4 ?c5 ?_)
      case c3=>unfold maxLen; omega
      case c4=>omega
      case c5=>have:=HSi.out.2.2.out; simp; omega
      intro v' w3 hown hgrow hnil
      have HO3 : Hid (w3.ownsRow (W.heap.size + 1) 3 1 v' (I + 1) ((digM F.p K (I + 1)).map N64)):=Lib.hid (by rw [HNX.out]; exact hown)
      have HS3 : Hid (SF W F.p F.e (FM F b cap) w3):=Lib.hid (SF.keep (k:=W.heap.size + 1) HSi.out (((Below.refl _ _).alloc HSi.out.2.2.out _).grown hgrow (by have:=HSi.out.2.2.out; simp; omega) (fun g hg=>(World.ownsRow.lt HO.out g hg).1)) (Nat.le_refl _))
      clear hown hgrow hnil HO HSi f0 f1 f2
      obtain ⟨f0,f1,f2⟩:=HS3.out.1
      go_wp2
      go_roundw
      case rel=>exact ⟨I + 1,by omega,by rw [HRN.out],by go_num,HO3,HS3⟩
      case measure=>simp [intOf]; omega
     ·have hlt1 : ¬ (I : Int) < (dd : Int):=by omega
      have hId : dd = I:=by omega
      subst hId
      obtain ⟨P,HP⟩ : ∃ l,Hid (digM F.p K dd ++ [1] = l):=⟨_,Lib.hid rfl⟩
      have HPL : Hid (P.length = dd + 1 ∧ In F P):=Lib.hid (by
       rw [← HP.out]
       exact ⟨by rw [List.length_append,digM_len]; rfl,(mon_po HFF.out HFR.out (digM_lt (by omega) K dd)).el⟩)
      have HNX : Hid (P.map N64 = (digM F.p K dd).map N64 ++ [.int .i64 1]):=Lib.hid (by rw [← HP.out,List.map_append]; rfl)
      have hI7 : dd ≤ 7:=by omega
      clear hI hlt
      go_wp2_with (at_builtin; refine wpList_append_own _ rfl _ _ 25 rfl (W.heap.size + 1) 3 i0 (.int .i64 0) 1 8 Try.underlying25 hi hz0 hz1 hz2 rfl (by decide) _ _ _ rfl (HO.out.alloc _) ⟨wr.heap.size,0,none⟩ 1 1 [.int .i64 1] rfl rfl oneC (oneO (x:=1)) ?c3 ?c4 ?c5 ?_)
      case c3=>unfold maxLen; omega
      case c4=>omega
      case c5=>have:=HSi.out.2.2.out; simp; omega
      intro v' w3 hown hgrow hnil
      have HO3 : Hid (w3.ownsRow (W.heap.size + 1) 3 1 v' P.length (P.map N64)):=Lib.hid (by rw [HNX.out,HPL.out.1]; exact hown)
      have HS3 : Hid (SF W F.p F.e (FM F b cap) w3):=Lib.hid (SF.keep (k:=W.heap.size + 1) HSi.out (((Below.refl _ _).alloc HSi.out.2.2.out _).grown hgrow (by have:=HSi.out.2.2.out; simp; omega) (fun g hg=>(World.ownsRow.lt HO.out g hg).1)) (Nat.le_refl _))
      obtain ⟨ap,cp,rfl⟩:=own_shp HO3.out
      have HNP:=Lib.hid (NN.of_owns HO3.out)
      clear hown hgrow hnil HO HSi f0 f1 f2
      obtain ⟨f0,f1,f2⟩:=HS3.out.1
      go_wp2_with fail
      with_reducible refine (reval_p (HFA.out.below HS3.out.2.1.out) HPL.out.2 (by rw [HPL.out.1]; omega) HAQ.out HNP.out).mono ?_
      rintro z w4 ⟨rfl,hb4⟩
      have HS4:=Lib.hid (SF.keep HS3.out hb4 HS3.out.2.2.out)
      have HNP4:=Lib.hid (HNP.out.below hb4)
      clear hb4 f0 f1 f2 HS3 HNP HO3
      by_cases hPM : P = M
      ·have he : (((ev F a P : Nat) : Int) == 0) = true:=by rw [hPM,HZR.out]; rfl
       have HPM:=Lib.hid hPM
       have HBF:=Lib.hid HS4.out.2.1.out
       clear hPM
       go_wp2
       go_ret
       exact ⟨ap,cp,by rw [← HPM.out]; rfl,by rw [← HPM.out]; exact HNP4.out,HBF.out⟩
      ·have he : (((ev F a P : Nat) : Int) == 0) = false:=beq_eq_false_iff_ne.2 (fun e=>HNO.out (digM F.p K dd) (digM_lt (by omega) K dd) (by rw [digM_len]; exact hdd) (by rw [HP.out]; exact hPM) (by rw [HP.out]; exact Int.ofNat_inj.1 e))
       have HK2 : Hid (dd = D → K + 1 ≤ km):=Lib.hid (fun e=>by
        have h1:=HKL.out e
        rcases Nat.lt_or_ge K km with h2 | h2
        ·exact h2
        ·exfalso
         have h3 : K = km:=by omega
         apply hPM
         rw [← HP.out,h3,e]
         exact HKM.out.1.2)
       clear hPM
       go_wp2
       go_roundw
       case rel=>exact ⟨K + 1,by omega,by go_num,HK2,HS4⟩
       case measure=>simp [intOf]; omega
   ·have hkt1 : ¬ (K : Int) < (n1 : Int):=by omega
    have hlt : dd < D:=by
     rcases Nat.lt_or_ge dd D with h1 | h1
     ·exact h1
     ·exfalso
      have e : dd = D:=by omega
      have h2:=HKL.out e
      have h3:=HKM.out.1.1
      rw [← e,HN1.out] at h3
      omega
    have HN2 : Hid ((F.p ^ dd : Nat) = n1):=HN1
    clear hK hkt
    go_wp2
    go_roundw
    case rel=>exact ⟨dd,hlt,by rw [HN2.out],by go_num,HSr⟩
    case measure=>simp [intOf]; omega
end Go.Proofs.Ytllecfhfhcmpaaa
