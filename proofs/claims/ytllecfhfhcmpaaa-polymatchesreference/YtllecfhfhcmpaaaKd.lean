/- Products of polynomials: times. -/
import Derived.Test.YtllecfhfhcmpaaaEvTk
import Derived.Test.YtllecfhfhcmpaaaKc
namespace Go.Proofs.Ytllecfhfhcmpaaa
open Go.RowKit Go.Fl
set_option maxRecDepth 100000
set_option linter.unusedVariables false
set_option linter.unusedSimpArgs false
set_option linter.unusedSectionVars false
theorem plus_c {F : Gf} {b cap : Nat} {A B : List Nat} {aa ab : Option Addr} {la lb ca cb : Nat} {W : World} (hO : Ops F b cap W) (hA : In F A) (hB : In F B) (ha : A.length ≤ 1000) (hb : B.length ≤ 1000) (ea : la = A.length) (eb : lb = B.length)
  (na : NN A W (.slice aa la ca)) (nb : NN B W (.slice ab lb cb)) : Calls Try.prog 53 #[PF F b cap aa la ca,PF F b cap ab lb cb] W (PPost F b cap (addP F A B) W):=by
 rcases Nat.lt_or_ge la lb with h | h
 ·exact plus_lt hO hA hB ha hb ea eb na nb h
 ·exact plus_ge hO hA hB ha hb ea eb na nb h
theorem pm_take_succ {F : Gf} (hF : Ok F) (g : Cf) : ∀ {l : List Nat} {k : Nat},k < l.length → pm F (l.take (k + 1)) g = pa F (pm F (l.take k) g) (shN k (ps F (l.getD k 0) g))
 | [],k,h=>by simp at h
 | x :: l,0,_=>by
  show pa F (ps F x g) (sh pz) = pa F pz (ps F x g)
  rw [sh_z hF,pa_comm hF]
 | x :: l,k + 1,h=>by
  show pa F (ps F x g) (sh (pm F (l.take (k + 1)) g)) = pa F (pa F (ps F x g) (sh (pm F (l.take k) g))) (sh (shN k (ps F (l.getD k 0) g)))
  rw [pm_take_succ hF g (by simpa using h),sh_pa hF,pa_assoc hF]
theorem fn_take (B : List Nat) (m j : Nat) : fn (B.take m) j = if j < m then fn B j else 0:=by
 show (B.take m).getD j 0 = _
 simp only [List.getD_eq_getElem?_getD]
 by_cases hj : j < m
 ·rw [if_pos hj,List.getElem?_take_of_lt hj]; simp [fn]
 ·rw [if_neg hj,List.getElem?_eq_none (by rw [List.length_take]; omega)]; rfl
theorem times_step {F : Gf} (hF : Ok F) {G : Cf} {B R : List Nat} {x k j t : Nat} (ht : t = k + j) (hG : El F G) (hR : t < R.length) (h : fn R = pa F G (shN k (ps F x (fn (B.take j))))) :
  fn (R.set t (F.add (R.getD t 0) (F.mul x (B.getD j 0)))) = pa F G (shN k (ps F x (fn (B.take (j + 1))))):=by
 rw [fn_set hR]
 funext i
 have hi : fn R i = F.add (G i) (shN k (ps F x (fn (B.take j))) i):=congrFun h i
 show (if i = t then _ else fn R i) = F.add (G i) (shN k (ps F x (fn (B.take (j + 1)))) i)
 rw [shN_at] at hi ⊢
 by_cases h1 : i < k
 ·rw [if_pos h1] at hi ⊢
  rw [if_neg (by omega),hi]
 ·rw [if_neg h1] at hi ⊢
  have hi' : fn R i = F.add (G i) (F.mul x (fn (B.take j) (i - k))):=hi
  show _ = F.add (G i) (F.mul x (fn (B.take (j + 1)) (i - k)))
  rw [fn_take] at hi' ⊢
  by_cases h2 : i = t
  ·rw [if_pos h2,if_pos (by omega)]
   rw [if_neg (by omega),Ok.mul_z,hF.add_zero (hG i)] at hi'
   rw [← h2,show i - k = j by omega]
   show F.add (fn R i) _ = _
   rw [hi']
   rfl
  ·rw [if_neg h2,hi']
   by_cases h3 : i - k < j
   ·rw [if_pos h3,if_pos (by omega)]
   ·rw [if_neg h3,if_neg (by omega)]
theorem times_zero {F : Gf} (hF : Ok F) {G : Cf} (hG : El F G) (B : List Nat) (x k : Nat) : G = pa F G (shN k (ps F x (fn (B.take 0)))):=by
 funext i
 show G i = F.add (G i) (shN k (ps F x (fn (B.take 0))) i)
 rw [shN_at]
 have e : (if i < k then 0 else ps F x (fn (B.take 0)) (i - k)) = 0:=by
  split
  ·rfl
  ·show F.mul x (fn (B.take 0) _) = 0
   rw [fn_take,if_neg (by omega),Ok.mul_z]
 rw [e,hF.add_zero (hG i)]
set_option maxHeartbeats 12800000 in
theorem times_c {F : Gf} {b cap : Nat} {A B : List Nat} {aa ab : Option Addr} {la lb ca cb : Nat} {W : World} (hO : Ops F b cap W) (hA : In F A) (hB : In F B) (ha : A.length ≤ 1000) (hb : B.length ≤ 1000) (ea : la = A.length) (eb : lb = B.length)
  (na : NN A W (.slice aa la ca)) (nb : NN B W (.slice ab lb cb)) : Calls Try.prog 52 #[PF F b cap aa la ca,PF F b cap ab lb cb] W (PPost F b cap (mulP F A B) W):=by
 have hF:=hO.ok
 have hla : la ≤ 1000:=by omega
 have hlb : lb ≤ 1000:=by omega
 obtain ⟨n,hn⟩ : ∃ n : Nat,n = la + lb:=⟨_,rfl⟩
 have hnn : (la : Int) + (lb : Int) = (n : Int):=by omega
 have hn3 : n ≤ 2000:=by omega
 have HN:=Lib.hid hn
 have EA:=Lib.hid ea
 have EB:=Lib.hid eb
 have HA:=Lib.hid hA
 have HB:=Lib.hid hB
 have NA:=Lib.hid na
 have NB:=Lib.hid nb
 have HO:=Lib.hid hO
 have HFF:=Lib.hid hF
 clear hA hB na nb ea eb ha hb hO hF hn
 obtain ⟨i0,hi,hz0,hz1,hz2⟩:=info_parts info3
 have HP0:=Lib.hid (P3.of W F.p F.e (FM F b cap) (.slice aa la ca) (.slice ab lb cb))
 go_enter Try.func52,Try.ntmps52
 go_wp2_with (refine wpList_make_full _ rfl _ _ 25 rfl (W.heap.size + 3) 3 i0 (.int .i64 0) 1 Try.underlying25 hi hz0 hz1 .i64 .i64 (n : Int) (n : Int) n rfl rfl rfl rfl (by rw [hz2]; omega) (by unfold maxLen; omega) (by simp) ?_)
 intro w1 hown hgrow
 have hb1 : Below (W.heap.size + 3) (w3 W F.p F.e (FM F b cap) (.slice aa la ca) (.slice ab lb cb)) w1:=(Below.refl _ _).grown hgrow (by simp) (fun k hk=>by cases hk)
 have HP1:=Lib.hid (HP0.out.keep hb1)
 have HROW : Hid (Row (List.replicate n 0) (W.heap.size + 3) w1):=Lib.hid (Row.of_own (n:=n) (base:=W.heap.size + 3) (by
  have e:=toList_madeCells_one (Value.int .i64 0) n
  rw [List.map_replicate,show N64 0 = Value.int .i64 0 from rfl,← e]
  simpa using hown) (by simp))
 clear hown hgrow hb1 HP0
 obtain ⟨⟨x0,x1,x2,x3⟩,⟨y0,y1,y2,y3⟩,⟨r0,r1,r2,r3⟩,rf,hsz,hbl⟩:=HP1.out
 clear r0 r1 r2 r3 rf hsz hbl
 go_wp2
 go_loopw [21] (fun i wr=>∃ (k : Nat) (R : List Nat),k ≤ la ∧ i = .int .i64 k ∧ Hid (R.length = n ∧ In F R ∧ fn R = pm F (A.take k) (fn B)) ∧ Hid (Row R (W.heap.size + 3) wr) ∧ Hid (Below (W.heap.size + 3) w1 wr)) (fun i _=>la - (intOf i).toNat)
 case atStart=>exact ⟨0,List.replicate n 0,Nat.zero_le _,rfl,⟨by simp,fun x hx=>by rw [List.eq_of_mem_replicate hx]; exact HFF.out.zero_lt,by
   funext i
   show (List.replicate n 0).getD i 0 = 0
   rw [List.getD_eq_getElem?_getD]
   by_cases h : i < n
   ·simp [h]
   ·rw [List.getElem?_eq_none (by simp; omega)]; rfl⟩,HROW,Below.refl _ _⟩
 case round =>
  obtain ⟨k,R0,hk,rfl,HI0,HR0,KB0⟩:=hrel
  have HP:=Lib.hid (HP1.out.keep KB0.out)
  clear x0 x1 x2 x3 y0 y1 y2 y3
  obtain ⟨⟨x0,x1,x2,x3⟩,⟨y0,y1,y2,y3⟩,⟨r0,r1,r2,r3⟩,rf,hsz,hbl⟩:=HP.out
  clear rf hsz hbl
  by_cases hlt : k < la
  ·clear r0 r1 r2 r3
   have hkA : k < A.length:=by have:=EA.out; omega
   obtain ⟨xx,hxx⟩ : ∃ x,Hid (A.getD k 0 = x):=⟨_,rfl⟩
   have HX : Hid (xx < F.q):=Lib.hid (by rw [← hxx.out]; exact HA.out.get HFF.out k)
   obtain ⟨b0,off0,rfl,hcA⟩ : ∃ b0 off0,aa = some ⟨b0,off0,none⟩ ∧ wr.cell? ⟨b0,off0 + k,none⟩ = some (.int .i64 (xx : Nat)):=by
    rw [← hxx.out]
    rcases NA.out.below HP.out.bl with ⟨e,h⟩ | ⟨b',off',cap',h,g1,g2,g3⟩
    ·rw [e] at hkA; simp at hkA
    ·cases h; exact ⟨b',off',rfl,g3 k hkA⟩
   have HG:=Lib.hid (el_m HFF.out (A.take k) (fn B))
   clear hkA
   have hw0 : Hid (wr = wr):=Lib.hid rfl
   obtain ⟨wo,hwo⟩ : ∃ wo,wo = wr:=⟨_,rfl⟩
   have KB0' : Hid (Below (W.heap.size + 3) w1 wo):=Lib.hid (by rw [hwo]; exact KB0.out)
   have HRs : Hid (Row R0 (W.heap.size + 3) wr):=HR0
   clear hwo hw0
   go_wp2
   go_loopw [29] (fun i wr=>∃ (j : Nat) (R : List Nat),j ≤ lb ∧ i = .int .i64 j ∧ Hid (R.length = n ∧ In F R ∧ fn R = pa F (pm F (A.take k) (fn B)) (shN k (ps F xx (fn (B.take j))))) ∧ Hid (Row R (W.heap.size + 3) wr) ∧ Hid (Below (W.heap.size + 3) w1 wr)) (fun i _=>lb - (intOf i).toNat)
   case atStart=>exact ⟨0,R0,Nat.zero_le _,rfl,⟨HI0.out.1,HI0.out.2.1,by rw [← times_zero HFF.out HG.out]; exact HI0.out.2.2⟩,HRs,KB0⟩
   case round =>
    obtain ⟨j,R,hj,rfl,HI,HR,KB⟩:=hrel
    have HP:=Lib.hid (HP1.out.keep KB.out)
    clear x0 x1 x2 x3 y0 y1 y2 y3 hcA
    obtain ⟨⟨x0,x1,x2,x3⟩,⟨y0,y1,y2,y3⟩,⟨r0,r1,r2,r3⟩,rf,hsz,hbl⟩:=HP.out
    clear rf hsz hbl r0 r1 r2 r3
    by_cases hjt : j < lb
    ·have hkB : j < B.length:=by have:=EB.out; omega
     obtain ⟨t,ht⟩ : ∃ t : Nat,t = k + j:=⟨_,rfl⟩
     have htn : t < n:=by have:=HN.out; omega
     have htR : Hid (t < R.length):=Lib.hid (by rw [HI.out.1]; exact htn)
     have hti : (k : Int) + (j : Int) = (t : Int):=by omega
     have htw : IntKind.i64.wrap (t : Int) = (t : Int):=IntWalk.i64_in _ (by omega)
     have htw2 : IntKind.i64.wrap ((k : Int) + (j : Int)) = (t : Int):=by rw [hti]; exact htw
     obtain ⟨rr,hrr⟩ : ∃ x,Hid (R.getD t 0 = x):=⟨_,rfl⟩
     obtain ⟨yy,hyy⟩ : ∃ x,Hid (B.getD j 0 = x):=⟨_,rfl⟩
     have HRQ : Hid (rr < F.q):=Lib.hid (by rw [← hrr.out]; exact HI.out.2.1.get HFF.out t)
     have HY : Hid (yy < F.q):=Lib.hid (by rw [← hyy.out]; exact HB.out.get HFF.out j)
     have hcR : wr.cell? ⟨W.heap.size + 1 + 1 + 1,t,none⟩ = some (.int .i64 (rr : Nat)):=by rw [← hrr.out]; exact HR.out.cell htR.out
     obtain ⟨b',off',rfl,hcB⟩ : ∃ b' off',ab = some ⟨b',off',none⟩ ∧ wr.cell? ⟨b',off' + j,none⟩ = some (.int .i64 (yy : Nat)):=by
      rw [← hyy.out]
      rcases NB.out.below HP.out.bl with ⟨e,h⟩ | ⟨b',off',cap',h,g1,g2,g3⟩
      ·rw [e] at hkB; simp at hkB
      ·cases h; exact ⟨b',off',rfl,g3 j hkB⟩
     have HST : Hid (fn (R.set t (F.add rr (F.mul xx yy))) = pa F (pm F (A.take k) (fn B)) (shN k (ps F xx (fn (B.take (j + 1)))))):=Lib.hid (by rw [← hrr.out,← hyy.out]; exact times_step HFF.out ht HG.out htR.out HI.out.2.2)
     have HIN:=Lib.hid (in_set (k:=t) HI.out.2.1 (HFF.out.add_lt rr (F.mul xx yy)))
     have hS0 : SP W wr F.p F.e (FM F b cap) (.slice (some ⟨b0,off0,none⟩) la ca) (.slice (some ⟨b',off',none⟩) lb cb) wr.drew:=⟨⟨x0,x1,x2,x3⟩,Lib.hid (HP.out.keep (Below.refl _ _).drew),Lib.hid ((Below.refl _ _).drew)⟩
     have HTE:=Lib.hid ht
     clear hkB ht
     go_wp2_with fail
     refine wp_region_held_drew (S:=fun w'=>SP W wr F.p F.e (FM F b cap) (.slice (some ⟨b0,off0,none⟩) la ca) (.slice (some ⟨b',off',none⟩) lb cb) w') (by kernel_rfl) (by with_reducible exact hS0) (fun hHeld=>?_)
     refine Rg.tk 0 ⟨some 34,.move (.tmp 5),25,"polynomial.go:47",#[],none⟩ ?_
     try simp only [Rg.gp]
     refine Rg.tk 1 ⟨some 35,.move (.tmp 6),3,"polynomial.go:47",#[],none⟩ ?_
     try simp only [Rg.gp]
     refine Rg.tk 2 ⟨some 36,.move (.tmp 8),3,"polynomial.go:47",#[],none⟩ ?_
     try simp only [Rg.gp]
     refine Rg.tk 3 ⟨some 37,.binOp BinOp.add 3 (.tmp 35) (.tmp 36) 3,3,"polynomial.go:47",#[⟨1,.data⟩,⟨2,.data⟩],none⟩ ?_
     try simp only [Rg.gp]
     refine Rg.tk 4 ⟨some 38,.fieldAddr 61 (.tmp 2) 0,0,"polynomial.go:47",#[],none⟩ ?_
     try simp only [Rg.gp]
     refine Rg.tk 5 ⟨some 39,.load 28 (.tmp 38),28,"polynomial.go:47",#[⟨4,.data⟩],none⟩ ?_
     try simp only [Rg.gp]
     refine Rg.tk 6 ⟨some 40,.move (.tmp 5),25,"polynomial.go:47",#[],none⟩ ?_
     try simp only [Rg.gp]
     refine Rg.tk 7 ⟨some 41,.move (.tmp 6),3,"polynomial.go:47",#[],none⟩ ?_
     try simp only [Rg.gp]
     refine Rg.tk 8 ⟨some 42,.move (.tmp 8),3,"polynomial.go:47",#[],none⟩ ?_
     try simp only [Rg.gp]
     refine Rg.tk 9 ⟨some 43,.binOp BinOp.add 3 (.tmp 41) (.tmp 42) 3,3,"polynomial.go:47",#[⟨7,.data⟩,⟨8,.data⟩],none⟩ ?_
     try simp only [Rg.gp]
     refine Rg.tk 10 ⟨some 44,.indexAddr 25 (.tmp 40) (.tmp 43),0,"polynomial.go:47",#[⟨6,.data⟩,⟨9,.data⟩],none⟩ ?_
     try simp only [Rg.gp]
     refine Rg.tk 12 ⟨some 46,.fieldAddr 61 (.tmp 2) 0,0,"polynomial.go:47",#[],none⟩ ?_
     try simp only [Rg.gp]
     refine Rg.tk 13 ⟨some 47,.load 28 (.tmp 46),28,"polynomial.go:47",#[⟨12,.data⟩],none⟩ ?_
     try simp only [Rg.gp]
     refine Rg.tk 14 ⟨some 48,.move (.tmp 7),3,"polynomial.go:47",#[],none⟩ ?_
     try simp only [Rg.gp]
     refine Rg.tk 15 ⟨some 49,.move (.tmp 9),3,"polynomial.go:47",#[],none⟩ ?_
     try simp only [Rg.gp]
     refine wpAnyH_ready (rs:=[11,16]) (by kernel_rfl) (by simp) ?_
     refine (AllReadyH.cons (o:=⟨some 45,.load 3 (.tmp 44),3,"polynomial.go:47",#[⟨10,.data⟩],none⟩) rfl (fun K hK=>?_) (AllReadyH.cons (o:=⟨some 50,.call ⟨.value (.func 68),#[.tmp 47,.tmp 48,.tmp 49],#[28,3,3]⟩,3,"polynomial.go:47",#[⟨13,.data⟩,⟨14,.data⟩,⟨15,.data⟩],none⟩) rfl (fun K hK=>?_) AllReadyH.nil))
     ·go_simp
      refine hK.out _ _ ?_ (fun hHeld=>?_)
      ·(try dsimp only)
       exact hHeld
      clear hK K
      try simp only [Rg.gp]
      refine Rg.rd1 16 ⟨some 50,.call ⟨.value (.func 68),#[.tmp 47,.tmp 48,.tmp 49],#[28,3,3]⟩,3,"polynomial.go:47",#[⟨13,.data⟩,⟨14,.data⟩,⟨15,.data⟩],none⟩ fun K hK=>?_
      go_simp
      go_at_call 68
      with_reducible refine (HO.out.mul _ hHeld.2.1.out.bl xx yy HX.out HY.out).mono ?_
      rintro z v1 ⟨rfl,hb3⟩
      have HR1:=Lib.hid ((Row.drew HR.out).below hb3)
      have hc1 : v1.cell? ⟨W.heap.size + 1 + 1 + 1,t,none⟩ = some (.int .i64 (rr : Nat)):=by rw [← hrr.out]; exact HR1.out.cell htR.out
      refine hK.out _ _ ?_ (fun hHeld=>?_)
      ·(try dsimp only)
       exact SP.keep hHeld hb3 hHeld.2.1.out.sz
      clear hK K
      try simp only [Rg.gp]
      refine Rg.rd1 17 ⟨some 51,.call ⟨.value (.func 73),#[.tmp 39,.tmp 45,.tmp 50],#[28,3,3]⟩,3,"polynomial.go:47",#[⟨5,.data⟩,⟨11,.data⟩,⟨16,.data⟩,⟨16,.chain⟩],none⟩ fun K hK=>?_
      go_simp
      go_at_call 73
      with_reducible refine (HO.out.add _ hHeld.2.1.out.bl rr (F.mul xx yy) HRQ.out (HFF.out.mul_lt _ _)).mono ?_
      rintro z v2 ⟨rfl,hb4⟩
      have HR2:=Lib.hid (HR1.out.below hb4)
      have hc2 : v2.cell? ⟨W.heap.size + 1 + 1 + 1,t,none⟩ = some (.int .i64 (rr : Nat)):=by rw [← hrr.out]; exact HR2.out.cell htR.out
      have hf2 : v2.frozen? ⟨W.heap.size + 1 + 1 + 1,t,none⟩ = false:=HR2.out.frozen t
      refine hK.out _ _ ?_ (fun hHeld=>?_)
      ·(try dsimp only)
       exact SP.keep hHeld hb4 hHeld.2.1.out.sz
      clear hK K
      try simp only [Rg.gp]
      refine Rg.tk 18 ⟨some 52,.indexAddr 25 (.tmp 34) (.tmp 37),0,"polynomial.go:47",#[⟨0,.data⟩,⟨3,.data⟩,⟨0,.phase⟩,⟨1,.phase⟩,⟨2,.phase⟩,⟨3,.phase⟩,⟨4,.phase⟩,⟨5,.phase⟩,⟨6,.phase⟩,⟨7,.phase⟩,⟨8,.phase⟩,⟨9,.phase⟩,⟨10,.phase⟩,⟨11,.phase⟩,⟨12,.phase⟩,⟨13,.phase⟩,⟨14,.phase⟩,⟨15,.phase⟩,⟨16,.phase⟩,⟨17,.phase⟩],none⟩ ?_
      try simp only [Rg.gp]
      refine Rg.rd1 19 ⟨none,.store 3 (.tmp 52) (.tmp 51),0,"polynomial.go:47",#[⟨18,.data⟩,⟨17,.data⟩,⟨17,.chain⟩,⟨0,.phase⟩,⟨1,.phase⟩,⟨2,.phase⟩,⟨3,.phase⟩,⟨4,.phase⟩,⟨5,.phase⟩,⟨6,.phase⟩,⟨7,.phase⟩,⟨8,.phase⟩,⟨9,.phase⟩,⟨10,.phase⟩,⟨11,.phase⟩,⟨12,.phase⟩,⟨13,.phase⟩,⟨14,.phase⟩,⟨15,.phase⟩,⟨16,.phase⟩,⟨17,.phase⟩],none⟩ fun K hK=>?_
      go_simp
      refine hK.out _ _ ?_ (fun hHeld=>?_)
      ·(try dsimp only)
       exact SP.keep (k:=W.heap.size + 3) hHeld ((Below.refl _ _).setCell (by simp) _) (Nat.le_refl _)
      clear hK K
      try simp only [Rg.gp]
      refine wpAnyH_done (by kernel_rfl) ?_ _
      have HR3:=Lib.hid (HR2.out.set t (F.add rr (F.mul xx yy)))
      have HB3:=Lib.hid (KB.out.trans hHeld.2.2.out)
      have HLR : Hid ((R.set t (F.add rr (F.mul xx yy))).length = n):=Lib.hid (by rw [List.length_set]; exact HI.out.1)
      clear hHeld hS0 hb3 hb4 hc1 hc2 hf2 hcR hcB
      go_wp2
      go_roundw
      case rel=>exact ⟨j + 1,R.set t (F.add rr (F.mul xx yy)),by omega,by go_num,⟨HLR.out,HIN.out,HST.out⟩,HR3,HB3⟩
      case measure=>simp [intOf]; omega
     ·go_simp
      go_at_call 68
      with_reducible refine (HO.out.mul _ hHeld.2.1.out.bl xx yy HX.out HY.out).mono ?_
      rintro z v1 ⟨rfl,hb3⟩
      have HR1:=Lib.hid ((Row.drew HR.out).below hb3)
      have hc1 : v1.cell? ⟨W.heap.size + 1 + 1 + 1,t,none⟩ = some (.int .i64 (rr : Nat)):=by rw [← hrr.out]; exact HR1.out.cell htR.out
      refine hK.out _ _ ?_ (fun hHeld=>?_)
      ·(try dsimp only)
       exact SP.keep hHeld hb3 hHeld.2.1.out.sz
      clear hK K
      try simp only [Rg.gp]
      refine Rg.rd1 11 ⟨some 45,.load 3 (.tmp 44),3,"polynomial.go:47",#[⟨10,.data⟩],none⟩ fun K hK=>?_
      go_simp
      refine hK.out _ _ ?_ (fun hHeld=>?_)
      ·(try dsimp only)
       exact hHeld
      clear hK K
      try simp only [Rg.gp]
      refine Rg.rd1 17 ⟨some 51,.call ⟨.value (.func 73),#[.tmp 39,.tmp 45,.tmp 50],#[28,3,3]⟩,3,"polynomial.go:47",#[⟨5,.data⟩,⟨11,.data⟩,⟨16,.data⟩,⟨16,.chain⟩],none⟩ fun K hK=>?_
      go_simp
      go_at_call 73
      with_reducible refine (HO.out.add _ hHeld.2.1.out.bl rr (F.mul xx yy) HRQ.out (HFF.out.mul_lt _ _)).mono ?_
      rintro z v2 ⟨rfl,hb4⟩
      have HR2:=Lib.hid (HR1.out.below hb4)
      have hc2 : v2.cell? ⟨W.heap.size + 1 + 1 + 1,t,none⟩ = some (.int .i64 (rr : Nat)):=by rw [← hrr.out]; exact HR2.out.cell htR.out
      have hf2 : v2.frozen? ⟨W.heap.size + 1 + 1 + 1,t,none⟩ = false:=HR2.out.frozen t
      refine hK.out _ _ ?_ (fun hHeld=>?_)
      ·(try dsimp only)
       exact SP.keep hHeld hb4 hHeld.2.1.out.sz
      clear hK K
      try simp only [Rg.gp]
      refine Rg.tk 18 ⟨some 52,.indexAddr 25 (.tmp 34) (.tmp 37),0,"polynomial.go:47",#[⟨0,.data⟩,⟨3,.data⟩,⟨0,.phase⟩,⟨1,.phase⟩,⟨2,.phase⟩,⟨3,.phase⟩,⟨4,.phase⟩,⟨5,.phase⟩,⟨6,.phase⟩,⟨7,.phase⟩,⟨8,.phase⟩,⟨9,.phase⟩,⟨10,.phase⟩,⟨11,.phase⟩,⟨12,.phase⟩,⟨13,.phase⟩,⟨14,.phase⟩,⟨15,.phase⟩,⟨16,.phase⟩,⟨17,.phase⟩],none⟩ ?_
      try simp only [Rg.gp]
      refine Rg.rd1 19 ⟨none,.store 3 (.tmp 52) (.tmp 51),0,"polynomial.go:47",#[⟨18,.data⟩,⟨17,.data⟩,⟨17,.chain⟩,⟨0,.phase⟩,⟨1,.phase⟩,⟨2,.phase⟩,⟨3,.phase⟩,⟨4,.phase⟩,⟨5,.phase⟩,⟨6,.phase⟩,⟨7,.phase⟩,⟨8,.phase⟩,⟨9,.phase⟩,⟨10,.phase⟩,⟨11,.phase⟩,⟨12,.phase⟩,⟨13,.phase⟩,⟨14,.phase⟩,⟨15,.phase⟩,⟨16,.phase⟩,⟨17,.phase⟩],none⟩ fun K hK=>?_
      go_simp
      refine hK.out _ _ ?_ (fun hHeld=>?_)
      ·(try dsimp only)
       exact SP.keep (k:=W.heap.size + 3) hHeld ((Below.refl _ _).setCell (by simp) _) (Nat.le_refl _)
      clear hK K
      try simp only [Rg.gp]
      refine wpAnyH_done (by kernel_rfl) ?_ _
      have HR3:=Lib.hid (HR2.out.set t (F.add rr (F.mul xx yy)))
      have HB3:=Lib.hid (KB.out.trans hHeld.2.2.out)
      have HLR : Hid ((R.set t (F.add rr (F.mul xx yy))).length = n):=Lib.hid (by rw [List.length_set]; exact HI.out.1)
      clear hHeld hS0 hb3 hb4 hc1 hc2 hf2 hcR hcB
      go_wp2
      go_roundw
      case rel=>exact ⟨j + 1,R.set t (F.add rr (F.mul xx yy)),by omega,by go_num,⟨HLR.out,HIN.out,HST.out⟩,HR3,HB3⟩
      case measure=>simp [intOf]; omega
    ·obtain rfl : lb = j:=by omega
     clear hjt
     have HST : Hid (fn R = pm F (A.take (k + 1)) (fn B)):=Lib.hid (by
      have h:=HI.out.2.2
      rw [EB.out,List.take_length,← hxx.out] at h
      rw [h,pm_take_succ HFF.out (fn B) (by have:=EA.out; omega)])
     go_wp2
     go_roundw
     case rel=>exact ⟨k + 1,R,by omega,by go_num,⟨HI.out.1,HI.out.2.1,HST.out⟩,HR,KB⟩
     case measure=>simp [intOf]; omega
  ·obtain rfl : la = k:=by omega
   clear hlt
   have HFIN : Hid (trL R0 = mulP F A B):=Lib.hid ((Po.tr HI0.out.2.1).ext (mulP_po HFF.out A B) (by
    have h:=HI0.out.2.2
    rw [EA.out,List.take_length] at h
    rw [fn_trL,h,fn_mulP HFF.out]))
   have HOV:=Lib.hid (over_c (p:=F.p) (q:=F.e) (ma:=some ⟨b,0,none⟩) (ml:=F.e) (mc:=cap) (L:=R0) (n:=n) (W:=wr) (by have:=HI0.out.1; omega) HI0.out.1.symm (by have:=HR0.out.nn; rw [HI0.out.1] at this; exact this))
   clear y0 y1 y2 y3 r0 r1 r2 r3
   go_wp2_with fail
   with_reducible refine HOV.out.mono ?_
   rintro z w5 ⟨rfl,hb5⟩
   have HP5:=Lib.hid (HP.out.keep (hb5.mono HP.out.sz))
   have HN5:=Lib.hid (HR0.out.nn.tr.below hb5)
   clear hb5 HOV x0 x1 x2 x3
   obtain ⟨_,_,⟨r0,r1,r2,r3⟩,rf,hsz,hbl⟩:=HP5.out
   have rf0:=rf 0
   have rf1:=rf 1
   have rf2:=rf 2
   have rf3:=rf 3
   have HBL:=Lib.hid hbl
   clear rf hsz hbl
   have HRL:=Lib.hid HI0.out.1
   go_wp2
   exact bodyPost_ret (v:=PF F b cap (some ⟨W.heap.size + 3,0,none⟩) (trL R0).length n) (by simp [results,Try.results52,go_sem,r0,r1,r2,r3]) rfl ⟨some ⟨W.heap.size + 3,0,none⟩,n,by rw [← HFIN.out],by
    rw [← HFIN.out]
    have:=HN5.out
    rw [HRL.out] at this
    exact (((this.setc (by omega)).setc (by omega)).setc (by omega)).setc (by omega),(((HBL.out.setCell (by show W.heap.size ≤ W.heap.size + 1 + 1; omega) _).setCell (by show W.heap.size ≤ W.heap.size + 1 + 1; omega) _).setCell (by show W.heap.size ≤ W.heap.size + 1 + 1; omega) _).setCell (by show W.heap.size ≤ W.heap.size + 1 + 1; omega) _,fun h o e=>by cases e; omega⟩
end Go.Proofs.Ytllecfhfhcmpaaa
