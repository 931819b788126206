/- Division of polynomials: divide. -/
import Derived.Test.YtllecfhfhcmpaaaEvTk
import Derived.Test.YtllecfhfhcmpaaaK3
namespace Go.Proofs.Ytllecfhfhcmpaaa
open Go.RowKit Go.Fl
set_option maxRecDepth 100000
set_option linter.unusedVariables false
set_option linter.unusedSimpArgs false
set_option linter.unusedSectionVars false
set_option maxHeartbeats 25600000 in
theorem div_hi {F : Gf} {b cap : Nat} {A B : List Nat} {aa ab : Option Addr} {la lb ca cb : Nat} {W : World} (hO : Ops F b cap W) (hA : In F A) (hB : Po F B) (hbn : B ≠ []) (ha : A.length ≤ 1000) (hb : B.length ≤ 1000) (ea : la = A.length) (eb : lb = B.length)
  (na : NN A W (.slice aa la ca)) (nb : NN B W (.slice ab lb cb)) (hcmp : lb ≤ la) : Calls Try.prog 45 #[PF F b cap aa la ca,PF F b cap ab lb cb] W (DvPost F b cap A B W):=by
 have hF:=hO.ok
 have hlb1 : 0 < lb:=by rw [eb]; exact List.length_pos_iff.2 hbn
 have hla : la ≤ 1000:=by omega
 have hlb : lb ≤ 1000:=by omega
 obtain ⟨d,hd⟩ : ∃ d,lb = d + 1:=⟨lb - 1,by omega⟩
 obtain ⟨m,hm⟩ : ∃ m,la = m + d:=⟨la - d,by omega⟩
 have hdi : (lb : Int) - 1 = (d : Int):=by omega
 have hmi : (la : Int) - (d : Int) = (m : Int):=by omega
 have hm0 : 0 < m:=by omega
 have hm0i : (0 : Int) < (m : Int):=by omega
 have hm0j : (0 : Int) ≤ (m : Int):=by omega
 have hmb : m ≤ 1000:=by omega
 have hdla : (d : Int) ≤ (la : Int):=by omega
 have hdlb : (d : Int) < (la : Int):=by omega
 have hd1000 : d ≤ 1000:=by omega
 have HM:=Lib.hid hm
 have HDD:=Lib.hid hd
 obtain ⟨b0,off0,rfl,hcA0⟩ : ∃ b0 off0,aa = some ⟨b0,off0,none⟩ ∧ Hid (∀ w,Below W.heap.size W w → ∀ (j : Nat) (u : Value),(A.map N64)[j]? = some u → w.cell? ((⟨b0,off0,none⟩ : Addr).add j) = some u):=by
  rcases na with ⟨e,h⟩ | ⟨b',off',cap',h,g1,g2,g3⟩
  ·rw [e] at ea; simp at ea; omega
  ·cases h; exact ⟨b',off',rfl,Lib.hid (fun w hw=>num_cellsK fun t ht=>(hw.cell (p:=⟨b',off' + t,none⟩) g2).trans (g3 t ht))⟩
 obtain ⟨ii,hii⟩ : ∃ ii,Hid (F.inv (B.getD (B.length - 1) 0) = ii):=⟨_,rfl⟩
 have HII : Hid (ii < F.q):=Lib.hid (by rw [← hii.out]; exact hF.inv_lt _)
 have HINV : Hid (∀ w,Below W.heap.size W w → Calls Try.prog 67 #[PF F b cap ab lb cb] w fun e w'=>e = .returned (.int .i64 (ii : Nat)) ∧ Below w.heap.size w w'):=Lib.hid (fun w hw=>by
  rw [← hii.out]; exact invlast_c (hO.below hw) hB hb eb hbn (nb.below hw))
 have EA:=Lib.hid ea
 have EB:=Lib.hid eb
 have HA:=Lib.hid hA
 have HB:=Lib.hid hB
 have HBN:=Lib.hid hbn
 have NB:=Lib.hid nb
 have HO:=Lib.hid hO
 have HFF:=Lib.hid hF
 clear hA hB na nb ea eb ha hb hO hF hbn hd hm
 obtain ⟨i0,hi,hz0,hz1,hz2⟩:=info_parts info3
 have HP0:=Lib.hid (P4.of W F.p F.e (FM F b cap) (.slice (some ⟨b0,off0,none⟩) la ca) (.slice ab lb cb))
 go_enter Try.func45,Try.ntmps45
 go_wp2_with fail
 with_reducible refine (HINV.out _ HP0.out.bl).mono ?_
 rintro z wA ⟨rfl,hbA⟩
 have HPA:=Lib.hid (HP0.out.keep (hbA.mono HP0.out.sz))
 clear hbA HP0
 have HNIL : Hid (wA.ownsRow (W.heap.size + 4) 3 1 (.slice none 0 0) 0 []):=Lib.hid ⟨rfl,.inl ⟨rfl,rfl⟩⟩
 have hpA:=HPA.out
 obtain ⟨⟨x0,x1,x2,x3⟩,⟨y0,y1,y2,y3⟩,-,-,-,-,-,-⟩:=hpA
 go_wp2_with (at_builtin; refine wpList_append_own _ rfl _ _ 25 rfl (W.heap.size + 4) 3 i0 (.int .i64 0) 1 8 Try.underlying25 hi hz0 hz1 hz2 rfl (by decide) _ _ _ rfl HNIL.out ⟨b0,off0,none⟩ la ca (A.map N64) rfl (by rw [List.length_map,Nat.mul_one]; exact EA.out.symm) (hcA0.out _ HPA.out.bl) (ints_oneK A) (by unfold maxLen; omega) (by omega) HPA.out.sz ?_)
 intro v' wB hown hgrow hnil
 obtain ⟨g,cL,rfl⟩:=own_someK hown (by omega)
 have HRB : Hid (RowC A g cL wB):=Lib.hid (by
  have h1:=EA.out
  have : wB.ownsRow (W.heap.size + 4) 3 1 (.slice (some ⟨g,0,none⟩) la cL) la (A.map N64):=by simpa using hown
  refine ⟨by simp,?_⟩
  rw [← h1]
  rcases this.2 with h | ⟨g',cap',cur,k1,k2,k3⟩
  ·exact .inl h
  ·exact .inr ⟨g',cap',cur,k1,Nat.zero_le _,k3⟩)
 have HG4 : Hid (W.heap.size + 4 ≤ g):=Lib.hid (hown.lt g rfl).1
 have hbB : Below (W.heap.size + 4) wA wB:=(Below.refl _ _).grown hgrow HPA.out.sz (fun k hk=>by cases hk)
 have HPB:=Lib.hid (HPA.out.keep hbB)
 try rw [Nat.zero_add]
 clear hown hgrow hnil hbB HPA HNIL x0 x1 x2 x3 y0 y1 y2 y3
 go_wp2_with (refine wpList_make_full _ rfl _ _ 25 rfl (W.heap.size + 4) 3 i0 (.int .i64 0) 1 Try.underlying25 hi hz0 hz1 .i64 .i64 (m : Int) (m : Int) m rfl rfl rfl rfl (by rw [hz2]; omega) (by unfold maxLen; omega) HPB.out.sz ?_)
 intro wC hown hgrow
 have hbC : Below wB.heap.size wB wC:=(Below.refl _ _).grown hgrow (Nat.le_refl _) (fun k hk=>by cases hk)
 have HPC:=Lib.hid (HPB.out.keep (hbC.mono HPB.out.sz))
 have HRC:=Lib.hid (HRB.out.below hbC)
 have HGNE : Hid (wB.heap.size ≠ g):=Lib.hid (by have:=HRB.out.lt; omega)
 have HB4 : Hid (W.heap.size + 4 ≤ wB.heap.size):=Lib.hid HPB.out.sz
 have HQC : Hid (Row (List.replicate m 0) wB.heap.size wC):=Lib.hid (Row.of_own (n:=m) (base:=W.heap.size + 4) (by
  have e:=toList_madeCells_one (Value.int .i64 0) m
  rw [List.map_replicate,show N64 0 = Value.int .i64 0 from rfl,← e]
  simpa using hown) (by simp))
 clear hown hgrow hbC HPB HRB
 have hpC:=HPC.out
 obtain ⟨⟨x0,x1,x2,x3⟩,⟨y0,y1,y2,y3⟩,-,-,-,-,-,-⟩:=hpC
 go_wp2
 go_loopw [10] (fun i wr=>∃ (s : Nat) (L Q : List Nat),s ≤ m ∧ i = .int .i64 ((s : Int) - 1) ∧ Hid (DL F A B L Q s) ∧ Hid (RowC L g cL wr) ∧ Hid (Row Q wB.heap.size wr) ∧ Hid (Below (W.heap.size + 4) wC wr)) (fun i _=>(intOf i + 1).toNat)
 case atStart=>exact ⟨m,A,List.replicate m 0,Nat.le_refl _,rfl,by
   have:=DL.start HFF.out HA.out HBN.out
   have e : A.length - (B.length - 1) = m:=by have:=HM.out; have:=HDD.out; have:=EA.out; have:=EB.out; omega
   rw [e] at this
   exact this,HRC,HQC,Below.refl _ _⟩
 case round =>
  obtain ⟨s,L,Q,hs,rfl,HD,HR,HQ,KB⟩:=hrel
  have HP:=Lib.hid (HPC.out.keep KB.out)
  clear x0 x1 x2 x3 y0 y1 y2 y3
  have hpC:=HP.out
  obtain ⟨⟨x0,x1,x2,x3⟩,⟨y0,y1,y2,y3⟩,-,-,-,-,-,-⟩:=hpC
  have HLL0 : Hid (L.length = la):=Lib.hid (by rw [HD.out.ll,EA.out])
  have HQL0 : Hid (Q.length = m):=Lib.hid (by have:=HD.out.lq; have:=HM.out; have:=HDD.out; have:=EA.out; have:=EB.out; omega)
  rcases s with _ | t
  ·have hcLd : (d : Int) ≤ (cL : Int):=by have:=HR.out.le; have:=HLL0.out; omega
   have HQL : Hid (Q.length ≤ 1000000):=Lib.hid (by have:=HQL0.out; omega)
   have HQN : Hid (m = Q.length):=Lib.hid HQL0.out.symm
   have HLL : Hid ((L.take d).length ≤ 1000000):=Lib.hid (by rw [List.length_take]; omega)
   have HLN : Hid (d = (L.take d).length):=Lib.hid (by rw [List.length_take]; have:=HLL0.out; omega)
   have HNQ0 : Hid (NN Q wr (.slice (some ⟨wB.heap.size,0,none⟩) m m)):=Lib.hid (by have:=HQ.out.nn; rw [HQL0.out] at this; exact this)
   have HNR0 : Hid (NN (L.take d) wr (.slice (some ⟨g,0,none⟩) d cL)):=Lib.hid (NN.take HR.out.nn (by have:=HLL0.out; omega))
   have HNQ:=Lib.hid (HNQ0.out.tr2 HQN.out)
   have HNR:=Lib.hid (HNR0.out.tr2 HLN.out)
   have HDM : Hid (DM F A B (trL Q) (trL (L.take d))):=Lib.hid (by
    have:=DL.fin HFF.out HBN.out HD.out
    have e : min (B.length - 1) L.length = d:=by have:=HLL0.out; have:=HDD.out; have:=EB.out; omega
    rwa [e] at this)
   have HBG : Hid (wB.heap.size ≠ W.heap.size + 1 + 1 ∧ wB.heap.size ≠ W.heap.size + 1 + 1 + 1):=Lib.hid (by have:=HB4.out; omega)
   have HG23 : Hid (g ≠ W.heap.size + 1 + 1 ∧ g ≠ W.heap.size + 1 + 1 + 1):=Lib.hid (by have:=HG4.out; omega)
   have HPc : Hid (P4 W F.p F.e (FM F b cap) (.slice (some ⟨b0,off0,none⟩) la ca) (.slice ab lb cb) wr.drew):=Lib.hid (HP.out.keep (Below.refl _ _).drew)
   have HBc : Hid (Below wr.heap.size wr wr.drew):=Lib.hid (Below.refl _ _).drew
   have hS0 : SFi W F.p F.e (FM F b cap) (.slice (some ⟨b0,off0,none⟩) la ca) wr.drew:=⟨HPc.out.b0,Lib.hid HPc.out.bl⟩
   clear y0 y1 y2 y3 x0 x1 x2 x3
   have hnd : ¬ la < d:=by omega
   have hcLn : d ≤ cL:=by omega
   go_wp2_with fail
   exact div_finS (by assumption) HP.out HNQ0.out HQN.out HQL.out HNR0.out HLN.out HLL.out HB4.out HG4.out (by first | rw [if_neg (by omega)] | rw [if_pos (by omega)]) hcLn HDM.out
  ·have h3 : (((t + 1 : Nat) : Int) - 1) = (t : Int):=by omega
   obtain ⟨u,hu⟩ : ∃ u : Nat,u = t + d:=⟨_,rfl⟩
   have hui : (t : Int) + (d : Int) = (u : Int):=by omega
   have huw : IntKind.i64.wrap (u : Int) = (u : Int):=IntWalk.i64_in _ (by omega)
   have hula : u < la:=by have:=HM.out; omega
   have HUE:=Lib.hid hu
   obtain ⟨xx,hxx⟩ : ∃ x,Hid (L.getD u 0 = x):=⟨_,rfl⟩
   have HX : Hid (xx < F.q):=Lib.hid (by rw [← hxx.out]; exact HD.out.il.get HFF.out u)
   have hS0 : SD W wr F.p F.e (FM F b cap) (.slice (some ⟨b0,off0,none⟩) la ca) (.slice ab lb cb) g u (.int .i64 (xx : Nat)) wr.drew:=⟨⟨x0,x1,x2,x3⟩,by rw [← hxx.out]; exact HR.out.cell (by have:=HLL0.out; omega),Lib.hid (HP.out.keep (Below.refl _ _).drew),Lib.hid (Below.refl _ _).drew⟩
   clear y0 y1 y2 y3 hu
   go_wp2_with fail
   refine wp_region_held_drew (S:=fun w'=>SD W wr F.p F.e (FM F b cap) (.slice (some ⟨b0,off0,none⟩) la ca) (.slice ab lb cb) g u (.int .i64 (xx : Nat)) w') (by kernel_rfl) (by with_reducible exact hS0) (fun hHeld=>?_)
   refine Rg.tk 0 ⟨some 36,.fieldAddr 61 (.tmp 2) 0,0,"polynomial.go:60",#[],none⟩ ?_
   try simp only [Rg.gp]
   refine Rg.tk 1 ⟨some 37,.load 28 (.tmp 36),28,"polynomial.go:60",#[⟨0,.data⟩],none⟩ ?_
   try simp only [Rg.gp]
   refine Rg.tk 2 ⟨some 38,.move (.tmp 8),25,"polynomial.go:60",#[],none⟩ ?_
   try simp only [Rg.gp]
   refine Rg.tk 3 ⟨some 39,.move (.tmp 10),3,"polynomial.go:60",#[],none⟩ ?_
   try simp only [Rg.gp]
   refine Rg.tk 4 ⟨some 40,.move (.tmp 6),3,"polynomial.go:60",#[],none⟩ ?_
   try simp only [Rg.gp]
   refine Rg.tk 5 ⟨some 41,.binOp BinOp.add 3 (.tmp 39) (.tmp 40) 3,3,"polynomial.go:60",#[⟨3,.data⟩,⟨4,.data⟩],none⟩ ?_
   try simp only [Rg.gp]
   refine Rg.tk 6 ⟨some 42,.indexAddr 25 (.tmp 38) (.tmp 41),0,"polynomial.go:60",#[⟨2,.data⟩,⟨5,.data⟩],none⟩ ?_
   try simp only [Rg.gp]
   refine Rg.tk 7 ⟨some 43,.load 3 (.tmp 42),3,"polynomial.go:60",#[⟨6,.data⟩],none⟩ ?_
   try simp only [Rg.gp]
   refine Rg.tk 8 ⟨some 44,.move (.tmp 7),3,"polynomial.go:60",#[],none⟩ ?_
   try simp only [Rg.gp]
   refine Rg.rd1 9 ⟨some 45,.call ⟨.value (.func 68),#[.tmp 37,.tmp 43,.tmp 44],#[28,3,3]⟩,3,"polynomial.go:60",#[⟨1,.data⟩,⟨7,.data⟩,⟨8,.data⟩],none⟩ fun K hK=>?_
   go_simp
   go_at_call 68
   with_reducible refine (HO.out.mul _ hHeld.2.2.1.out.bl xx ii HX.out HII.out).mono ?_
   rintro z v1 ⟨rfl,hb3⟩
   have HR1:=Lib.hid (RowC.below (w:=wr.drew) HR.out hb3)
   have HQ1:=Lib.hid (Row.below (w:=wr.drew) HQ.out hb3)
   refine hK.out _ _ ?_ (fun hHeld=>?_)
   ·(try dsimp only)
    exact SD.keep hHeld hb3 hHeld.2.2.1.out.sz (Nat.lt_of_lt_of_le HR.out.lt hHeld.2.2.2.out.size)
   clear hK K
   try simp only [Rg.gp]
   refine Rg.tk 10 ⟨some 11,.assign (.tmp 45),3,"polynomial.go:60",#[⟨9,.data⟩,⟨9,.chain⟩,⟨0,.phase⟩,⟨1,.phase⟩,⟨2,.phase⟩,⟨3,.phase⟩,⟨4,.phase⟩,⟨5,.phase⟩,⟨6,.phase⟩,⟨7,.phase⟩,⟨8,.phase⟩,⟨9,.phase⟩],none⟩ ?_
   try simp only [Rg.gp]
   refine wpAnyH_done (by kernel_rfl) ?_ _
   obtain ⟨fac,hfac⟩ : ∃ x,Hid (F.mul xx ii = x):=⟨_,rfl⟩
   have HFA : Hid (fac < F.q):=Lib.hid (by rw [← hfac.out]; exact HFF.out.mul_lt _ _)
   rw [hfac.out]
   have HDS : Hid (DL F A B (stepL F L B t fac B.length) (Q.set t fac) t):=Lib.hid (by
    have:=DL.step HFF.out HB.out HBN.out HD.out (by have:=HQL0.out; omega)
    have e : t + (B.length - 1) = u:=by have:=HUE.out; have:=HDD.out; have:=EB.out; omega
    rw [e,hxx.out,hii.out,hfac.out] at this
    exact this)
   have KB1 : Hid (Below (W.heap.size + 4) wC v1):=Lib.hid (KB.out.trans hHeld.2.2.2.out)
   have HPv:=Lib.hid (HPC.out.keep KB1.out)
   clear hHeld hS0 hb3 x0 x1 x2 x3
   have hpC:=HPv.out
   obtain ⟨⟨x0,x1,x2,x3⟩,⟨y0,y1,y2,y3⟩,-,-,-,-,-,-⟩:=hpC
   go_wp2
   go_loopw [49] (fun i wr=>∃ j : Nat,j ≤ lb ∧ i = .int .i64 j ∧ Hid (RowC (stepL F L B t fac j) g cL wr) ∧ Hid (Row Q wB.heap.size wr) ∧ Hid (Below (W.heap.size + 4) wC wr)) (fun i _=>lb - (intOf i).toNat)
   case atStart=>exact ⟨0,Nat.zero_le _,rfl,by rw [stepL_zero HFF.out]; exact HR1,HQ1,KB1⟩
   case round =>
    obtain ⟨j,hj,rfl,HR,HQ,KB⟩:=hrel
    have HP:=Lib.hid (HPC.out.keep KB.out)
    clear x0 x1 x2 x3 y0 y1 y2 y3
    have hpC:=HP.out
    obtain ⟨⟨x0,x1,x2,x3⟩,⟨y0,y1,y2,y3⟩,-,-,-,-,-,-⟩:=hpC
    by_cases hjt : j < lb
    ·have hkB : j < B.length:=by have:=EB.out; omega
     obtain ⟨vv,hv⟩ : ∃ v : Nat,v = t + j:=⟨_,rfl⟩
     have hvla : vv < la:=by have:=HM.out; have:=HDD.out; omega
     have hvi : (t : Int) + (j : Int) = (vv : Int):=by omega
     have hvw : IntKind.i64.wrap (vv : Int) = (vv : Int):=IntWalk.i64_in _ (by omega)
     have hvR : Hid (vv < (stepL F L B t fac j).length):=Lib.hid (by rw [stepL_len HFF.out,HLL0.out]; exact hvla)
     obtain ⟨rr,hrr⟩ : ∃ x,Hid ((stepL F L B t fac j).getD vv 0 = x):=⟨_,rfl⟩
     obtain ⟨yy,hyy⟩ : ∃ x,Hid (B.getD j 0 = x):=⟨_,rfl⟩
     have HRQ : Hid (rr < F.q):=Lib.hid (by rw [← hrr.out]; exact (stepL_in HFF.out HD.out.il t fac j).get HFF.out vv)
     have HY : Hid (yy < F.q):=Lib.hid (by rw [← hyy.out]; exact HB.out.el.get HFF.out j)
     have HSS : Hid ((stepL F L B t fac j).set vv (F.sub rr (F.mul fac yy)) = stepL F L B t fac (j + 1)):=Lib.hid (by
      have e1 : (stepL F L B t fac j).getD (t + j) 0 = L.getD (t + j) 0:=stepL_at HFF.out (by have:=HLL0.out; omega)
      have e2:=stepL_succ HFF.out (L:=L) (b:=B) (s:=t) (x:=fac) (k:=j) (by have:=HLL0.out; omega)
      rw [← hrr.out,← hyy.out,hv,e1]; exact e2)
     have hcR : wr.cell? ⟨g,vv,none⟩ = some (.int .i64 (rr : Nat)):=by rw [← hrr.out]; exact HR.out.cell hvR.out
     obtain ⟨b',off',rfl,hcB⟩ : ∃ b' off',ab = some ⟨b',off',none⟩ ∧ wr.cell? ⟨b',off' + j,none⟩ = some (.int .i64 (yy : Nat)):=by
      rw [← hyy.out]
      rcases NB.out.below HP.out.bl with ⟨e,h⟩ | ⟨b',off',cap',h,g1,g2,g3⟩
      ·rw [e] at hkB; simp at hkB
      ·cases h; exact ⟨b',off',rfl,g3 j hkB⟩
     have hS0 : SE W wr F.p F.e (FM F b cap) (.slice (some ⟨b0,off0,none⟩) la ca) (.slice (some ⟨b',off',none⟩) lb cb) wr.drew:=⟨⟨x0,x1,x2,x3⟩,trivial,Lib.hid (HP.out.keep (Below.refl _ _).drew),Lib.hid (Below.refl _ _).drew⟩
     have HVE:=Lib.hid hv
     clear hkB hv
     go_wp2_with fail
     refine wp_region_held_drew (S:=fun w'=>SE W wr F.p F.e (FM F b cap) (.slice (some ⟨b0,off0,none⟩) la ca) (.slice (some ⟨b',off',none⟩) lb cb) w') (by kernel_rfl) (by with_reducible exact hS0) (fun hHeld=>?_)
     refine Rg.tk 0 ⟨some 54,.move (.tmp 8),25,"polynomial.go:62",#[],none⟩ ?_
     try simp only [Rg.gp]
     refine Rg.tk 1 ⟨some 55,.move (.tmp 10),3,"polynomial.go:62",#[],none⟩ ?_
     try simp only [Rg.gp]
     refine Rg.tk 2 ⟨some 56,.move (.tmp 12),3,"polynomial.go:62",#[],none⟩ ?_
     try simp only [Rg.gp]
     refine Rg.tk 3 ⟨some 57,.binOp BinOp.add 3 (.tmp 55) (.tmp 56) 3,3,"polynomial.go:62",#[⟨1,.data⟩,⟨2,.data⟩],none⟩ ?_
     try simp only [Rg.gp]
     refine Rg.tk 4 ⟨some 58,.fieldAddr 61 (.tmp 2) 0,0,"polynomial.go:62",#[],none⟩ ?_
     try simp only [Rg.gp]
     refine Rg.tk 5 ⟨some 59,.load 28 (.tmp 58),28,"polynomial.go:62",#[⟨4,.data⟩],none⟩ ?_
     try simp only [Rg.gp]
     refine Rg.tk 6 ⟨some 60,.move (.tmp 8),25,"polynomial.go:62",#[],none⟩ ?_
     try simp only [Rg.gp]
     refine Rg.tk 7 ⟨some 61,.move (.tmp 10),3,"polynomial.go:62",#[],none⟩ ?_
     try simp only [Rg.gp]
     refine Rg.tk 8 ⟨some 62,.move (.tmp 12),3,"polynomial.go:62",#[],none⟩ ?_
     try simp only [Rg.gp]
     refine Rg.tk 9 ⟨some 63,.binOp BinOp.add 3 (.tmp 61) (.tmp 62) 3,3,"polynomial.go:62",#[⟨7,.data⟩,⟨8,.data⟩],none⟩ ?_
     try simp only [Rg.gp]
     refine Rg.tk 10 ⟨some 64,.indexAddr 25 (.tmp 60) (.tmp 63),0,"polynomial.go:62",#[⟨6,.data⟩,⟨9,.data⟩],none⟩ ?_
     try simp only [Rg.gp]
     refine Rg.tk 12 ⟨some 66,.fieldAddr 61 (.tmp 2) 0,0,"polynomial.go:62",#[],none⟩ ?_
     try simp only [Rg.gp]
     refine Rg.tk 13 ⟨some 67,.load 28 (.tmp 66),28,"polynomial.go:62",#[⟨12,.data⟩],none⟩ ?_
     try simp only [Rg.gp]
     refine Rg.tk 14 ⟨some 68,.move (.tmp 11),3,"polynomial.go:62",#[],none⟩ ?_
     try simp only [Rg.gp]
     refine Rg.tk 15 ⟨some 69,.move (.tmp 13),3,"polynomial.go:62",#[],none⟩ ?_
     try simp only [Rg.gp]
     refine wpAnyH_ready (rs:=[11,16]) (by kernel_rfl) (by simp) ?_
     refine (AllReadyH.cons (o:=⟨some 65,.load 3 (.tmp 64),3,"polynomial.go:62",#[⟨10,.data⟩],none⟩) rfl (fun K hK=>?_) (AllReadyH.cons (o:=⟨some 70,.call ⟨.value (.func 68),#[.tmp 67,.tmp 68,.tmp 69],#[28,3,3]⟩,3,"polynomial.go:62",#[⟨13,.data⟩,⟨14,.data⟩,⟨15,.data⟩],none⟩) rfl (fun K hK=>?_) AllReadyH.nil))
     ·go_simp
      refine hK.out _ _ ?_ (fun hHeld=>?_)
      ·(try dsimp only)
       exact hHeld
      clear hK K
      try simp only [Rg.gp]
      refine Rg.rd1 16 ⟨some 70,.call ⟨.value (.func 68),#[.tmp 67,.tmp 68,.tmp 69],#[28,3,3]⟩,3,"polynomial.go:62",#[⟨13,.data⟩,⟨14,.data⟩,⟨15,.data⟩],none⟩ fun K hK=>?_
      go_simp
      go_at_call 68
      with_reducible refine (HO.out.mul _ hHeld.2.2.1.out.bl fac yy HFA.out HY.out).mono ?_
      rintro z v1 ⟨rfl,hb3⟩
      have HR1:=Lib.hid (RowC.below (w:=wr.drew) HR.out hb3)
      have HQ1:=Lib.hid (Row.below (w:=wr.drew) HQ.out hb3)
      have hc1 : v1.cell? ⟨g,vv,none⟩ = some (.int .i64 (rr : Nat)):=by rw [← hrr.out]; exact HR1.out.cell hvR.out
      refine hK.out _ _ ?_ (fun hHeld=>?_)
      ·(try dsimp only)
       exact SE.keep hHeld hb3 hHeld.2.2.1.out.sz
      clear hK K
      try simp only [Rg.gp]
      refine Rg.rd1 17 ⟨some 71,.call ⟨.value (.func 69),#[.tmp 59,.tmp 65,.tmp 70],#[28,3,3]⟩,3,"polynomial.go:62",#[⟨5,.data⟩,⟨11,.data⟩,⟨16,.data⟩,⟨16,.chain⟩],none⟩ fun K hK=>?_
      go_simp
      go_at_call 69
      with_reducible refine (HO.out.sub _ hHeld.2.2.1.out.bl rr (F.mul fac yy) HRQ.out (HFF.out.mul_lt _ _)).mono ?_
      rintro z v2 ⟨rfl,hb4⟩
      have HR2:=Lib.hid (HR1.out.below hb4)
      have HQ2:=Lib.hid (HQ1.out.below hb4)
      have hc2 : v2.cell? ⟨g,vv,none⟩ = some (.int .i64 (rr : Nat)):=by rw [← hrr.out]; exact HR2.out.cell hvR.out
      have hf2 : v2.frozen? ⟨g,vv,none⟩ = false:=HR2.out.frozen vv
      refine hK.out _ _ ?_ (fun hHeld=>?_)
      ·(try dsimp only)
       exact SE.keep hHeld hb4 hHeld.2.2.1.out.sz
      clear hK K
      try simp only [Rg.gp]
      refine Rg.tk 18 ⟨some 72,.indexAddr 25 (.tmp 54) (.tmp 57),0,"polynomial.go:62",#[⟨0,.data⟩,⟨3,.data⟩,⟨0,.phase⟩,⟨1,.phase⟩,⟨2,.phase⟩,⟨3,.phase⟩,⟨4,.phase⟩,⟨5,.phase⟩,⟨6,.phase⟩,⟨7,.phase⟩,⟨8,.phase⟩,⟨9,.phase⟩,⟨10,.phase⟩,⟨11,.phase⟩,⟨12,.phase⟩,⟨13,.phase⟩,⟨14,.phase⟩,⟨15,.phase⟩,⟨16,.phase⟩,⟨17,.phase⟩],none⟩ ?_
      try simp only [Rg.gp]
      refine Rg.rd1 19 ⟨none,.store 3 (.tmp 72) (.tmp 71),0,"polynomial.go:62",#[⟨18,.data⟩,⟨17,.data⟩,⟨17,.chain⟩,⟨0,.phase⟩,⟨1,.phase⟩,⟨2,.phase⟩,⟨3,.phase⟩,⟨4,.phase⟩,⟨5,.phase⟩,⟨6,.phase⟩,⟨7,.phase⟩,⟨8,.phase⟩,⟨9,.phase⟩,⟨10,.phase⟩,⟨11,.phase⟩,⟨12,.phase⟩,⟨13,.phase⟩,⟨14,.phase⟩,⟨15,.phase⟩,⟨16,.phase⟩,⟨17,.phase⟩],none⟩ fun K hK=>?_
      go_simp
      refine hK.out _ _ ?_ (fun hHeld=>?_)
      ·(try dsimp only)
       exact SE.keep (k:=W.heap.size + 4) hHeld ((Below.refl _ _).setCell HG4.out _) (Nat.le_refl _)
      clear hK K
      try simp only [Rg.gp]
      refine wpAnyH_done (by kernel_rfl) ?_ _
      have HR3 : Hid (RowC (stepL F L B t fac (j + 1)) g cL _):=Lib.hid (by have:=HR2.out.set vv (F.sub rr (F.mul fac yy)); rw [HSS.out] at this; exact this)
      have HQ3:=Lib.hid (Row.other (j:=vv) (x:=.int .i64 (F.sub rr (F.mul fac yy) : Nat)) HQ2.out HGNE.out)
      have HB3:=Lib.hid (KB.out.trans hHeld.2.2.2.out)
      clear hHeld hS0 hb3 hb4 hc1 hc2 hf2 hcR hcB
      go_wp2
      go_roundw
      case rel=>exact ⟨j + 1,by omega,by go_num,HR3,HQ3,HB3⟩
      case measure=>simp [intOf]; omega
     ·go_simp
      go_at_call 68
      with_reducible refine (HO.out.mul _ hHeld.2.2.1.out.bl fac yy HFA.out HY.out).mono ?_
      rintro z v1 ⟨rfl,hb3⟩
      have HR1:=Lib.hid (RowC.below (w:=wr.drew) HR.out hb3)
      have HQ1:=Lib.hid (Row.below (w:=wr.drew) HQ.out hb3)
      have hc1 : v1.cell? ⟨g,vv,none⟩ = some (.int .i64 (rr : Nat)):=by rw [← hrr.out]; exact HR1.out.cell hvR.out
      refine hK.out _ _ ?_ (fun hHeld=>?_)
      ·(try dsimp only)
       exact SE.keep hHeld hb3 hHeld.2.2.1.out.sz
      clear hK K
      try simp only [Rg.gp]
      refine Rg.rd1 11 ⟨some 65,.load 3 (.tmp 64),3,"polynomial.go:62",#[⟨10,.data⟩],none⟩ fun K hK=>?_
      go_simp
      refine hK.out _ _ ?_ (fun hHeld=>?_)
      ·(try dsimp only)
       exact hHeld
      clear hK K
      try simp only [Rg.gp]
      refine Rg.rd1 17 ⟨some 71,.call ⟨.value (.func 69),#[.tmp 59,.tmp 65,.tmp 70],#[28,3,3]⟩,3,"polynomial.go:62",#[⟨5,.data⟩,⟨11,.data⟩,⟨16,.data⟩,⟨16,.chain⟩],none⟩ fun K hK=>?_
      go_simp
      go_at_call 69
      with_reducible refine (HO.out.sub _ hHeld.2.2.1.out.bl rr (F.mul fac yy) HRQ.out (HFF.out.mul_lt _ _)).mono ?_
      rintro z v2 ⟨rfl,hb4⟩
      have HR2:=Lib.hid (HR1.out.below hb4)
      have HQ2:=Lib.hid (HQ1.out.below hb4)
      have hc2 : v2.cell? ⟨g,vv,none⟩ = some (.int .i64 (rr : Nat)):=by rw [← hrr.out]; exact HR2.out.cell hvR.out
      have hf2 : v2.frozen? ⟨g,vv,none⟩ = false:=HR2.out.frozen vv
      refine hK.out _ _ ?_ (fun hHeld=>?_)
      ·(try dsimp only)
       exact SE.keep hHeld hb4 hHeld.2.2.1.out.sz
      clear hK K
      try simp only [Rg.gp]
      refine Rg.tk 18 ⟨some 72,.indexAddr 25 (.tmp 54) (.tmp 57),0,"polynomial.go:62",#[⟨0,.data⟩,⟨3,.data⟩,⟨0,.phase⟩,⟨1,.phase⟩,⟨2,.phase⟩,⟨3,.phase⟩,⟨4,.phase⟩,⟨5,.phase⟩,⟨6,.phase⟩,⟨7,.phase⟩,⟨8,.phase⟩,⟨9,.phase⟩,⟨10,.phase⟩,⟨11,.phase⟩,⟨12,.phase⟩,⟨13,.phase⟩,⟨14,.phase⟩,⟨15,.phase⟩,⟨16,.phase⟩,⟨17,.phase⟩],none⟩ ?_
      try simp only [Rg.gp]
      refine Rg.rd1 19 ⟨none,.store 3 (.tmp 72) (.tmp 71),0,"polynomial.go:62",#[⟨18,.data⟩,⟨17,.data⟩,⟨17,.chain⟩,⟨0,.phase⟩,⟨1,.phase⟩,⟨2,.phase⟩,⟨3,.phase⟩,⟨4,.phase⟩,⟨5,.phase⟩,⟨6,.phase⟩,⟨7,.phase⟩,⟨8,.phase⟩,⟨9,.phase⟩,⟨10,.phase⟩,⟨11,.phase⟩,⟨12,.phase⟩,⟨13,.phase⟩,⟨14,.phase⟩,⟨15,.phase⟩,⟨16,.phase⟩,⟨17,.phase⟩],none⟩ fun K hK=>?_
      go_simp
      refine hK.out _ _ ?_ (fun hHeld=>?_)
      ·(try dsimp only)
       exact SE.keep (k:=W.heap.size + 4) hHeld ((Below.refl _ _).setCell HG4.out _) (Nat.le_refl _)
      clear hK K
      try simp only [Rg.gp]
      refine wpAnyH_done (by kernel_rfl) ?_ _
      have HR3 : Hid (RowC (stepL F L B t fac (j + 1)) g cL _):=Lib.hid (by have:=HR2.out.set vv (F.sub rr (F.mul fac yy)); rw [HSS.out] at this; exact this)
      have HQ3:=Lib.hid (Row.other (j:=vv) (x:=.int .i64 (F.sub rr (F.mul fac yy) : Nat)) HQ2.out HGNE.out)
      have HB3:=Lib.hid (KB.out.trans hHeld.2.2.2.out)
      clear hHeld hS0 hb3 hb4 hc1 hc2 hf2 hcR hcB
      go_wp2
      go_roundw
      case rel=>exact ⟨j + 1,by omega,by go_num,HR3,HQ3,HB3⟩
      case measure=>simp [intOf]; omega
    ·obtain rfl : lb = j:=by omega
     clear hjt
     have htm : t < m:=by omega
     have hq1:=HQ.out.cell (t:=t) (by rw [HQL0.out]; exact htm)
     generalize Q.getD t 0 = q0 at hq1
     have hq2:=HQ.out.frozen t
     have HQ2:=Lib.hid (HQ.out.set t fac)
     have HR2:=Lib.hid (RowC.other (j:=t) (x:=.int .i64 (fac : Nat)) HR.out (fun e=>HGNE.out e.symm))
     have HB2:=Lib.hid (KB.out.setCell (p:=⟨wB.heap.size,t,none⟩) HB4.out (.int .i64 (fac : Nat)))
     have HR4 : Hid (RowC (stepL F L B t fac B.length) g cL (wr.setCell ⟨wB.heap.size,t,none⟩ (.int .i64 (fac : Nat)))):=Lib.hid (by have:=HR2.out; rw [EB.out] at this; exact this)
     go_wp2
     go_roundw
     case rel=>exact ⟨t,stepL F L B t fac B.length,Q.set t fac,by omega,rfl,HDS,HR4,HQ2,HB2⟩
     case measure=>simp [intOf]
end Go.Proofs.Ytllecfhfhcmpaaa
