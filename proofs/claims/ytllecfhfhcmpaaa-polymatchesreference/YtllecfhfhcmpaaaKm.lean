/- Division of polynomials: fewer coefficients than the divisor. -/
import Derived.Test.YtllecfhfhcmpaaaKj
namespace Go.Proofs.Ytllecfhfhcmpaaa
open Go.RowKit Go.Fl
set_option maxRecDepth 100000
set_option linter.unusedVariables false
set_option linter.unusedSimpArgs false
set_option linter.unusedSectionVars false
set_option maxHeartbeats 25600000 in
theorem div_loA {F : Gf} {b cap : Nat} {A B : List Nat} {aa ab : Option Addr} {la lb ca cb : Nat} {W : World} (hO : Ops F b cap W) (hA : In F A) (hB : Po F B) (hbn : B ≠ []) (ha : A.length ≤ 1000) (hb : B.length ≤ 1000) (ea : la = A.length) (eb : lb = B.length)
  (na : NN A W (.slice aa la ca)) (nb : NN B W (.slice ab lb cb)) (hld : lb = la + 1) (hla0 : 0 < la) : Calls Try.prog 45 #[PF F b cap aa la ca,PF F b cap ab lb cb] W (DvPost F b cap A B W):=by
 have hF:=hO.ok
 have hlb1 : 0 < lb:=by rw [eb]; exact List.length_pos_iff.2 hbn
 have hla : la ≤ 1000:=by omega
 have hlb : lb ≤ 1000:=by omega
 obtain ⟨d,hd⟩ : ∃ d,lb = d + 1:=⟨lb - 1,by omega⟩
 obtain rfl : la = d:=by omega
 have hdi : (lb : Int) - 1 = (la : Int):=by omega
 have hmi : (la : Int) - (la : Int) = 0:=by omega
 have hee : la ≤ la:=Nat.le_refl _
 have hd1000 : la ≤ 1000:=by omega
 have HEE:=Lib.hid hee
 have HDD:=Lib.hid hd
 obtain ⟨b0,off0,rfl,hcA0⟩ : ∃ b0 off0,aa = some ⟨b0,off0,none⟩ ∧ Hid (∀ w,Below W.heap.size W w → ∀ (j : Nat) (u : Value),(A.map N64)[j]? = some u → w.cell? ((⟨b0,off0,none⟩ : Addr).add j) = some u):=by
  rcases na with ⟨e,h⟩ | ⟨b',off',cap',h,g1,g2,g3⟩
  ·rw [e] at ea; simp at ea; omega
  ·cases h; exact ⟨b',off',rfl,Lib.hid (fun w hw=>num_cellsK fun t ht=>(hw.cell (p:=⟨b',off' + t,none⟩) g2).trans (g3 t ht))⟩
 obtain ⟨ii,hii⟩ : ∃ ii,Hid (F.inv (B.getD (B.length - 1) 0) = ii):=⟨_,rfl⟩
 have HII : Hid (ii < F.q):=Lib.hid (by rw [← hii.out]; exact hF.inv_lt _)
 have HINV : Hid (∀ w,Below W.heap.size W w → Calls Try.prog 67 #[PF F b cap ab lb cb] w fun e w'=>e = .returned (.int .i64 (ii : Nat)) ∧ Below w.heap.size w w'):=Lib.hid (fun w hw=>by
  rw [← hii.out]; exact invlast_c (hO.below hw) hB hb eb hbn (nb.below hw))
 have EA:=Lib.hid ea
 have EB:=Lib.hid eb
 have HA:=Lib.hid hA
 have HB:=Lib.hid hB
 have HBN:=Lib.hid hbn
 have NB:=Lib.hid nb
 have HO:=Lib.hid hO
 have HFF:=Lib.hid hF
 clear hA hB na nb ea eb ha hb hO hF hbn hd hee hld
 obtain ⟨i0,hi,hz0,hz1,hz2⟩:=info_parts info3
 have HP0:=Lib.hid (P4.of W F.p F.e (FM F b cap) (.slice (some ⟨b0,off0,none⟩) la ca) (.slice ab lb cb))
 go_enter Try.func45,Try.ntmps45
 go_wp2_with fail
 with_reducible refine (HINV.out _ HP0.out.bl).mono ?_
 rintro z wA ⟨rfl,hbA⟩
 have HPA:=Lib.hid (HP0.out.keep (hbA.mono HP0.out.sz))
 clear hbA HP0
 have HNIL : Hid (wA.ownsRow (W.heap.size + 4) 3 1 (.slice none 0 0) 0 []):=Lib.hid ⟨rfl,.inl ⟨rfl,rfl⟩⟩
 have hpA:=HPA.out
 obtain ⟨⟨x0,x1,x2,x3⟩,⟨y0,y1,y2,y3⟩,-,-,-,-,-,-⟩:=hpA
 go_wp2_with (at_builtin; refine wpList_append_own _ rfl _ _ 25 rfl (W.heap.size + 4) 3 i0 (.int .i64 0) 1 8 Try.underlying25 hi hz0 hz1 hz2 rfl (by decide) _ _ _ rfl HNIL.out ⟨b0,off0,none⟩ la ca (A.map N64) rfl (by rw [List.length_map,Nat.mul_one]; exact EA.out.symm) (hcA0.out _ HPA.out.bl) (ints_oneK A) (by unfold maxLen; omega) (by omega) HPA.out.sz ?_)
 intro v' wB hown hgrow hnil
 obtain ⟨g,cL,rfl⟩:=own_someK hown (by omega)
 have HRB : Hid (RowC A g cL wB):=Lib.hid (by
  have h1:=EA.out
  have : wB.ownsRow (W.heap.size + 4) 3 1 (.slice (some ⟨g,0,none⟩) la cL) la (A.map N64):=by simpa using hown
  refine ⟨by simp,?_⟩
  rw [← h1]
  rcases this.2 with h | ⟨g',cap',cur,k1,k2,k3⟩
  ·exact .inl h
  ·exact .inr ⟨g',cap',cur,k1,Nat.zero_le _,k3⟩)
 have HG4 : Hid (W.heap.size + 4 ≤ g):=Lib.hid (hown.lt g rfl).1
 have hbB : Below (W.heap.size + 4) wA wB:=(Below.refl _ _).grown hgrow HPA.out.sz (fun k hk=>by cases hk)
 have HPB:=Lib.hid (HPA.out.keep hbB)
 try rw [Nat.zero_add]
 clear hown hgrow hnil hbB HPA HNIL x0 x1 x2 x3 y0 y1 y2 y3
 go_wp2_with (refine wpList_make_full _ rfl _ _ 25 rfl (W.heap.size + 4) 3 i0 (.int .i64 0) 1 Try.underlying25 hi hz0 hz1 .i64 .i64 (0 : Int) (0 : Int) 0 rfl rfl rfl rfl (by rw [hz2]; omega) (by unfold maxLen; omega) HPB.out.sz ?_)
 intro wC hown hgrow
 have hbC : Below wB.heap.size wB wC:=(Below.refl _ _).grown hgrow (Nat.le_refl _) (fun k hk=>by cases hk)
 have HPC:=Lib.hid (HPB.out.keep (hbC.mono HPB.out.sz))
 have HRC:=Lib.hid (HRB.out.below hbC)
 have HGNE : Hid (wB.heap.size ≠ g):=Lib.hid (by have:=HRB.out.lt; omega)
 have HB4 : Hid (W.heap.size + 4 ≤ wB.heap.size):=Lib.hid HPB.out.sz
 have HQC : Hid (Row (List.replicate 0 0) wB.heap.size wC):=Lib.hid (Row.of_own (n:=0) (base:=W.heap.size + 4) (by
  have e:=toList_madeCells_one (Value.int .i64 0) 0
  rw [List.map_replicate,show N64 0 = Value.int .i64 0 from rfl,← e]
  simpa using hown) (by simp))
 clear hown hgrow hbC HPB HRB
 have hpC:=HPC.out
 obtain ⟨⟨x0,x1,x2,x3⟩,⟨y0,y1,y2,y3⟩,-,-,-,-,-,-⟩:=hpC
 obtain ⟨L,HLA⟩ : ∃ L,Hid (L = A):=⟨_,rfl⟩
 obtain ⟨Q,HQE⟩ : ∃ Q : List Nat,Hid (Q = List.replicate 0 0):=⟨_,rfl⟩
 rw [← HLA.out] at HRC
 rw [← HQE.out] at HQC
 go_wp2
 go_loopw [10] (fun i wr=>i = .int .i64 (-1) ∧ Hid (RowC L g cL wr) ∧ Hid (Row Q wB.heap.size wr) ∧ Hid (Below (W.heap.size + 4) wC wr)) (fun _ _=>0)
 case atStart=>exact ⟨rfl,HRC,HQC,Lib.hid (Below.refl _ _)⟩
 case round =>
  obtain ⟨rfl,HR,HQ,KB⟩:=hrel
  have HP:=Lib.hid (HPC.out.keep KB.out)
  clear x0 x1 x2 x3 y0 y1 y2 y3
  have hpC:=HP.out
  obtain ⟨⟨x0,x1,x2,x3⟩,⟨y0,y1,y2,y3⟩,-,-,-,-,-,-⟩:=hpC
  have HLL0 : Hid (L.length = la):=Lib.hid (by rw [HLA.out,EA.out])
  have HQL0 : Hid (Q.length = 0):=Lib.hid (by rw [HQE.out]; rfl)
  ·have hcLd : (la : Int) ≤ (cL : Int):=by have:=HR.out.le; have:=HLL0.out; omega
   have HQL : Hid (Q.length ≤ 1000000):=Lib.hid (by have:=HQL0.out; omega)
   have HQN : Hid (0 = Q.length):=Lib.hid HQL0.out.symm
   have HLL : Hid ((L.take la).length ≤ 1000000):=Lib.hid (by rw [List.length_take]; omega)
   have HLN : Hid (la = (L.take la).length):=Lib.hid (by rw [List.length_take]; have:=HLL0.out; omega)
   have HNQ0 : Hid (NN Q wr (.slice (some ⟨wB.heap.size,0,none⟩) 0 0)):=Lib.hid (by have:=HQ.out.nn; rw [HQL0.out] at this; exact this)
   have HNR0 : Hid (NN (L.take la) wr (.slice (some ⟨g,0,none⟩) la cL)):=Lib.hid (NN.take HR.out.nn (by have:=HLL0.out; omega))
   have HNQ:=Lib.hid (HNQ0.out.tr2 HQN.out)
   have HNR:=Lib.hid (HNR0.out.tr2 HLN.out)
   have HDM : Hid (DM F A B (trL Q) (trL (L.take la))):=Lib.hid (by
    have h0:=DL.start HFF.out HA.out HBN.out
    have e0 : A.length - (B.length - 1) = 0:=by have:=HEE.out; have:=HDD.out; have:=EA.out; have:=EB.out; omega
    rw [e0] at h0
    have:=DL.fin HFF.out HBN.out h0
    have e : min (B.length - 1) A.length = la:=by have:=HDD.out; have:=HEE.out; have:=EA.out; have:=EB.out; omega
    rw [e] at this
    rw [HLA.out,HQE.out]
    exact this)
   have HBG : Hid (wB.heap.size ≠ W.heap.size + 1 + 1 ∧ wB.heap.size ≠ W.heap.size + 1 + 1 + 1):=Lib.hid (by have:=HB4.out; omega)
   have HG23 : Hid (g ≠ W.heap.size + 1 + 1 ∧ g ≠ W.heap.size + 1 + 1 + 1):=Lib.hid (by have:=HG4.out; omega)
   have HPc : Hid (P4 W F.p F.e (FM F b cap) (.slice (some ⟨b0,off0,none⟩) la ca) (.slice ab lb cb) wr.drew):=Lib.hid (HP.out.keep (Below.refl _ _).drew)
   have HBc : Hid (Below wr.heap.size wr wr.drew):=Lib.hid (Below.refl _ _).drew
   have hS0 : SFi W F.p F.e (FM F b cap) (.slice (some ⟨b0,off0,none⟩) la ca) wr.drew:=⟨HPc.out.b0,Lib.hid HPc.out.bl⟩
   clear y0 y1 y2 y3 x0 x1 x2 x3
   have hcLn : la ≤ cL:=by omega
   go_wp2_with fail
   exact div_finS (by assumption) HP.out HNQ0.out HQN.out HQL.out HNR0.out HLN.out HLL.out HB4.out HG4.out (by first | rw [if_neg (by omega)] | rw [if_pos (by omega)]) hcLn HDM.out
set_option maxHeartbeats 25600000 in
theorem div_loB {F : Gf} {b cap : Nat} {A B : List Nat} {aa ab : Option Addr} {la lb ca cb : Nat} {W : World} (hO : Ops F b cap W) (hA : In F A) (hB : Po F B) (hbn : B ≠ []) (ha : A.length ≤ 1000) (hb : B.length ≤ 1000) (ea : la = A.length) (eb : lb = B.length)
  (na : NN A W (.slice aa la ca)) (nb : NN B W (.slice ab lb cb)) (hld : la + 1 < lb) (hla0 : 0 < la) : Calls Try.prog 45 #[PF F b cap aa la ca,PF F b cap ab lb cb] W (DvPost F b cap A B W):=by
 have hF:=hO.ok
 have hlb1 : 0 < lb:=by rw [eb]; exact List.length_pos_iff.2 hbn
 have hla : la ≤ 1000:=by omega
 have hlb : lb ≤ 1000:=by omega
 obtain ⟨d,hd⟩ : ∃ d,lb = d + 1:=⟨lb - 1,by omega⟩
 obtain ⟨mi,hmi⟩ : ∃ mi : Int,(la : Int) - (d : Int) = mi:=⟨_,rfl⟩
 have hdi : (lb : Int) - 1 = (d : Int):=by omega
 have hnd : la < d:=by omega
 have hneg : mi < 0:=by omega
 have hee : la ≤ d:=by omega
 have hd1000 : d ≤ 1000:=by omega
 have HEE:=Lib.hid hee
 have HDD:=Lib.hid hd
 obtain ⟨b0,off0,rfl,hcA0⟩ : ∃ b0 off0,aa = some ⟨b0,off0,none⟩ ∧ Hid (∀ w,Below W.heap.size W w → ∀ (j : Nat) (u : Value),(A.map N64)[j]? = some u → w.cell? ((⟨b0,off0,none⟩ : Addr).add j) = some u):=by
  rcases na with ⟨e,h⟩ | ⟨b',off',cap',h,g1,g2,g3⟩
  ·rw [e] at ea; simp at ea; omega
  ·cases h; exact ⟨b',off',rfl,Lib.hid (fun w hw=>num_cellsK fun t ht=>(hw.cell (p:=⟨b',off' + t,none⟩) g2).trans (g3 t ht))⟩
 obtain ⟨ii,hii⟩ : ∃ ii,Hid (F.inv (B.getD (B.length - 1) 0) = ii):=⟨_,rfl⟩
 have HII : Hid (ii < F.q):=Lib.hid (by rw [← hii.out]; exact hF.inv_lt _)
 have HINV : Hid (∀ w,Below W.heap.size W w → Calls Try.prog 67 #[PF F b cap ab lb cb] w fun e w'=>e = .returned (.int .i64 (ii : Nat)) ∧ Below w.heap.size w w'):=Lib.hid (fun w hw=>by
  rw [← hii.out]; exact invlast_c (hO.below hw) hB hb eb hbn (nb.below hw))
 have EA:=Lib.hid ea
 have EB:=Lib.hid eb
 have HA:=Lib.hid hA
 have HB:=Lib.hid hB
 have HBN:=Lib.hid hbn
 have NB:=Lib.hid nb
 have HO:=Lib.hid hO
 have HFF:=Lib.hid hF
 clear hA hB na nb ea eb ha hb hO hF hbn hd hee hld
 obtain ⟨i0,hi,hz0,hz1,hz2⟩:=info_parts info3
 have HP0:=Lib.hid (P4.of W F.p F.e (FM F b cap) (.slice (some ⟨b0,off0,none⟩) la ca) (.slice ab lb cb))
 go_enter Try.func45,Try.ntmps45
 go_wp2_with fail
 with_reducible refine (HINV.out _ HP0.out.bl).mono ?_
 rintro z wA ⟨rfl,hbA⟩
 have HPA:=Lib.hid (HP0.out.keep (hbA.mono HP0.out.sz))
 clear hbA HP0
 have HNIL : Hid (wA.ownsRow (W.heap.size + 4) 3 1 (.slice none 0 0) 0 []):=Lib.hid ⟨rfl,.inl ⟨rfl,rfl⟩⟩
 have hpA:=HPA.out
 obtain ⟨⟨x0,x1,x2,x3⟩,⟨y0,y1,y2,y3⟩,-,-,-,-,-,-⟩:=hpA
 go_wp2_with (at_builtin; refine wpList_append_own _ rfl _ _ 25 rfl (W.heap.size + 4) 3 i0 (.int .i64 0) 1 8 Try.underlying25 hi hz0 hz1 hz2 rfl (by decide) _ _ _ rfl HNIL.out ⟨b0,off0,none⟩ la ca (A.map N64) rfl (by rw [List.length_map,Nat.mul_one]; exact EA.out.symm) (hcA0.out _ HPA.out.bl) (ints_oneK A) (by unfold maxLen; omega) (by omega) HPA.out.sz ?_)
 intro v' wB hown hgrow hnil
 obtain ⟨g,cL,rfl⟩:=own_someK hown (by omega)
 have HRB : Hid (RowC A g cL wB):=Lib.hid (by
  have h1:=EA.out
  have : wB.ownsRow (W.heap.size + 4) 3 1 (.slice (some ⟨g,0,none⟩) la cL) la (A.map N64):=by simpa using hown
  refine ⟨by simp,?_⟩
  rw [← h1]
  rcases this.2 with h | ⟨g',cap',cur,k1,k2,k3⟩
  ·exact .inl h
  ·exact .inr ⟨g',cap',cur,k1,Nat.zero_le _,k3⟩)
 have HG4 : Hid (W.heap.size + 4 ≤ g):=Lib.hid (hown.lt g rfl).1
 have hbB : Below (W.heap.size + 4) wA wB:=(Below.refl _ _).grown hgrow HPA.out.sz (fun k hk=>by cases hk)
 have HPB:=Lib.hid (HPA.out.keep hbB)
 try rw [Nat.zero_add]
 clear hown hgrow hnil hbB HPA HNIL x0 x1 x2 x3 y0 y1 y2 y3
 go_wp2_with (refine wpList_make_full _ rfl _ _ 25 rfl (W.heap.size + 4) 3 i0 (.int .i64 0) 1 Try.underlying25 hi hz0 hz1 .i64 .i64 (0 : Int) (0 : Int) 0 rfl rfl rfl rfl (by rw [hz2]; omega) (by unfold maxLen; omega) HPB.out.sz ?_)
 intro wC hown hgrow
 have hbC : Below wB.heap.size wB wC:=(Below.refl _ _).grown hgrow (Nat.le_refl _) (fun k hk=>by cases hk)
 have HPC:=Lib.hid (HPB.out.keep (hbC.mono HPB.out.sz))
 have HRC:=Lib.hid (HRB.out.below hbC)
 have HGNE : Hid (wB.heap.size ≠ g):=Lib.hid (by have:=HRB.out.lt; omega)
 have HB4 : Hid (W.heap.size + 4 ≤ wB.heap.size):=Lib.hid HPB.out.sz
 have HQC : Hid (Row (List.replicate 0 0) wB.heap.size wC):=Lib.hid (Row.of_own (n:=0) (base:=W.heap.size + 4) (by
  have e:=toList_madeCells_one (Value.int .i64 0) 0
  rw [List.map_replicate,show N64 0 = Value.int .i64 0 from rfl,← e]
  simpa using hown) (by simp))
 clear hown hgrow hbC HPB HRB
 have hpC:=HPC.out
 obtain ⟨⟨x0,x1,x2,x3⟩,⟨y0,y1,y2,y3⟩,-,-,-,-,-,-⟩:=hpC
 obtain ⟨L,HLA⟩ : ∃ L,Hid (L = A):=⟨_,rfl⟩
 obtain ⟨Q,HQE⟩ : ∃ Q : List Nat,Hid (Q = List.replicate 0 0):=⟨_,rfl⟩
 rw [← HLA.out] at HRC
 rw [← HQE.out] at HQC
 go_wp2
 go_loopw [10] (fun i wr=>i = .int .i64 (-1) ∧ Hid (RowC L g cL wr) ∧ Hid (Row Q wB.heap.size wr) ∧ Hid (Below (W.heap.size + 4) wC wr)) (fun _ _=>0)
 case atStart=>exact ⟨rfl,HRC,HQC,Lib.hid (Below.refl _ _)⟩
 case round =>
  obtain ⟨rfl,HR,HQ,KB⟩:=hrel
  have HP:=Lib.hid (HPC.out.keep KB.out)
  clear x0 x1 x2 x3 y0 y1 y2 y3
  have hpC:=HP.out
  obtain ⟨⟨x0,x1,x2,x3⟩,⟨y0,y1,y2,y3⟩,-,-,-,-,-,-⟩:=hpC
  have HLL0 : Hid (L.length = la):=Lib.hid (by rw [HLA.out,EA.out])
  have HQL0 : Hid (Q.length = 0):=Lib.hid (by rw [HQE.out]; rfl)
  ·have hcLd : (la : Int) ≤ (cL : Int):=by have:=HR.out.le; have:=HLL0.out; omega
   have HQL : Hid (Q.length ≤ 1000000):=Lib.hid (by have:=HQL0.out; omega)
   have HQN : Hid (0 = Q.length):=Lib.hid HQL0.out.symm
   have HLL : Hid ((L.take la).length ≤ 1000000):=Lib.hid (by rw [List.length_take]; omega)
   have HLN : Hid (la = (L.take la).length):=Lib.hid (by rw [List.length_take]; have:=HLL0.out; omega)
   have HNQ0 : Hid (NN Q wr (.slice (some ⟨wB.heap.size,0,none⟩) 0 0)):=Lib.hid (by have:=HQ.out.nn; rw [HQL0.out] at this; exact this)
   have HNR0 : Hid (NN (L.take la) wr (.slice (some ⟨g,0,none⟩) la cL)):=Lib.hid (NN.take HR.out.nn (by have:=HLL0.out; omega))
   have HNQ:=Lib.hid (HNQ0.out.tr2 HQN.out)
   have HNR:=Lib.hid (HNR0.out.tr2 HLN.out)
   have HDM : Hid (DM F A B (trL Q) (trL (L.take la))):=Lib.hid (by
    have h0:=DL.start HFF.out HA.out HBN.out
    have e0 : A.length - (B.length - 1) = 0:=by have:=HEE.out; have:=HDD.out; have:=EA.out; have:=EB.out; omega
    rw [e0] at h0
    have:=DL.fin HFF.out HBN.out h0
    have e : min (B.length - 1) A.length = la:=by have:=HDD.out; have:=HEE.out; have:=EA.out; have:=EB.out; omega
    rw [e] at this
    rw [HLA.out,HQE.out]
    exact this)
   have HBG : Hid (wB.heap.size ≠ W.heap.size + 1 + 1 ∧ wB.heap.size ≠ W.heap.size + 1 + 1 + 1):=Lib.hid (by have:=HB4.out; omega)
   have HG23 : Hid (g ≠ W.heap.size + 1 + 1 ∧ g ≠ W.heap.size + 1 + 1 + 1):=Lib.hid (by have:=HG4.out; omega)
   have HPc : Hid (P4 W F.p F.e (FM F b cap) (.slice (some ⟨b0,off0,none⟩) la ca) (.slice ab lb cb) wr.drew):=Lib.hid (HP.out.keep (Below.refl _ _).drew)
   have HBc : Hid (Below wr.heap.size wr wr.drew):=Lib.hid (Below.refl _ _).drew
   have hS0 : SFi W F.p F.e (FM F b cap) (.slice (some ⟨b0,off0,none⟩) la ca) wr.drew:=⟨HPc.out.b0,Lib.hid HPc.out.bl⟩
   clear y0 y1 y2 y3 x0 x1 x2 x3
   have hcLn : la ≤ cL:=by omega
   go_wp2_with fail
   exact div_finS (by assumption) HP.out HNQ0.out HQN.out HQL.out HNR0.out HLN.out HLL.out HB4.out HG4.out (by first | rw [if_neg (by omega)] | rw [if_pos (by omega)]) hcLn HDM.out
set_option maxHeartbeats 25600000 in
theorem div_nilA {F : Gf} {b cap : Nat} {A B : List Nat} {ab : Option Addr} {lb cb : Nat} {W : World} (hO : Ops F b cap W) (hA : In F A) (hB : Po F B) (hbn : B ≠ []) (hb : B.length ≤ 1000) (ea : A = []) (eb : lb = B.length)
  (nb : NN B W (.slice ab lb cb)) (hld : lb = 1) : Calls Try.prog 45 #[PF F b cap none 0 0,PF F b cap ab lb cb] W (DvPost F b cap A B W):=by
 have hF:=hO.ok
 have hlb1 : 0 < lb:=by rw [eb]; exact List.length_pos_iff.2 hbn
 have hlb : lb ≤ 1000:=by omega
 obtain ⟨d,hd⟩ : ∃ d,lb = d + 1:=⟨lb - 1,by omega⟩
 obtain rfl : d = 0:=by omega
 have hdi : (lb : Int) - 1 = 0:=by omega
 have hd1000 : 0 ≤ 1000:=by omega
 have HDD:=Lib.hid hd
 obtain ⟨ii,hii⟩ : ∃ ii,Hid (F.inv (B.getD (B.length - 1) 0) = ii):=⟨_,rfl⟩
 have HII : Hid (ii < F.q):=Lib.hid (by rw [← hii.out]; exact hF.inv_lt _)
 have HINV : Hid (∀ w,Below W.heap.size W w → Calls Try.prog 67 #[PF F b cap ab lb cb] w fun e w'=>e = .returned (.int .i64 (ii : Nat)) ∧ Below w.heap.size w w'):=Lib.hid (fun w hw=>by
  rw [← hii.out]; exact invlast_c (hO.below hw) hB hb eb hbn (nb.below hw))
 have EA:=Lib.hid ea
 have EB:=Lib.hid eb
 have HA:=Lib.hid hA
 have HB:=Lib.hid hB
 have HBN:=Lib.hid hbn
 have NB:=Lib.hid nb
 have HO:=Lib.hid hO
 have HFF:=Lib.hid hF
 clear hA hB nb ea eb hb hO hF hbn hd hld
 obtain ⟨i0,hi,hz0,hz1,hz2⟩:=info_parts info3
 have HP0:=Lib.hid (P4.of W F.p F.e (FM F b cap) (.slice none 0 0) (.slice ab lb cb))
 go_enter Try.func45,Try.ntmps45
 go_wp2_with fail
 with_reducible refine (HINV.out _ HP0.out.bl).mono ?_
 rintro z wB ⟨rfl,hbA⟩
 have HPB:=Lib.hid (HP0.out.keep (hbA.mono HP0.out.sz))
 clear hbA HP0
 have hpB:=HPB.out
 obtain ⟨⟨x0,x1,x2,x3⟩,⟨y0,y1,y2,y3⟩,-,-,-,-,-,-⟩:=hpB
 go_wp2_with (refine wpList_make_full _ rfl _ _ 25 rfl (W.heap.size + 4) 3 i0 (.int .i64 0) 1 Try.underlying25 hi hz0 hz1 .i64 .i64 (0 : Int) (0 : Int) 0 rfl rfl rfl rfl (by rw [hz2]; omega) (by unfold maxLen; omega) HPB.out.sz ?_)
 intro wC hown hgrow
 have hbC : Below wB.heap.size wB wC:=(Below.refl _ _).grown hgrow (Nat.le_refl _) (fun k hk=>by cases hk)
 have HPC:=Lib.hid (HPB.out.keep (hbC.mono HPB.out.sz))
 have HB4 : Hid (W.heap.size + 4 ≤ wB.heap.size):=Lib.hid HPB.out.sz
 have HQC : Hid (Row (List.replicate 0 0) wB.heap.size wC):=Lib.hid (Row.of_own (n:=0) (base:=W.heap.size + 4) (by
  have e:=toList_madeCells_one (Value.int .i64 0) 0
  rw [List.map_replicate,show N64 0 = Value.int .i64 0 from rfl,← e]
  simpa using hown) (by simp))
 clear hown hgrow hbC HPB x0 x1 x2 x3 y0 y1 y2 y3
 have hpC:=HPC.out
 obtain ⟨⟨x0,x1,x2,x3⟩,⟨y0,y1,y2,y3⟩,-,-,-,-,-,-⟩:=hpC
 obtain ⟨L,HLA⟩ : ∃ L : List Nat,Hid (L = []):=⟨_,rfl⟩
 obtain ⟨Q,HQE⟩ : ∃ Q : List Nat,Hid (Q = List.replicate 0 0):=⟨_,rfl⟩
 rw [← HQE.out] at HQC
 go_wp2
 go_loopw [10] (fun i wr=>i = .int .i64 (-1) ∧ Hid (Row Q wB.heap.size wr) ∧ Hid (Below (W.heap.size + 4) wC wr)) (fun _ _=>0)
 case atStart=>exact ⟨rfl,HQC,Lib.hid (Below.refl _ _)⟩
 case round =>
  obtain ⟨rfl,HQ,KB⟩:=hrel
  have HP:=Lib.hid (HPC.out.keep KB.out)
  clear x0 x1 x2 x3 y0 y1 y2 y3
  have hpC:=HP.out
  obtain ⟨⟨x0,x1,x2,x3⟩,⟨y0,y1,y2,y3⟩,-,-,-,-,-,-⟩:=hpC
  have HLL0 : Hid (L.length = 0):=Lib.hid (by rw [HLA.out]; rfl)
  have HQL0 : Hid (Q.length = 0):=Lib.hid (by rw [HQE.out]; rfl)
  ·skip
   have HQL : Hid (Q.length ≤ 1000000):=Lib.hid (by have:=HQL0.out; omega)
   have HQN : Hid (0 = Q.length):=Lib.hid HQL0.out.symm
   have HLL : Hid (L.length ≤ 1000000):=Lib.hid (by have:=HLL0.out; omega)
   have HLN : Hid (0 = L.length):=Lib.hid HLL0.out.symm
   have HNQ0 : Hid (NN Q wr (.slice (some ⟨wB.heap.size,0,none⟩) 0 0)):=Lib.hid (by have:=HQ.out.nn; rw [HQL0.out] at this; exact this)
   have HNRn0 : Hid (∀ w,NN L w (.slice none 0 0)):=Lib.hid (fun w=>.inl ⟨HLA.out,rfl⟩)
   have HNRn : Hid (∀ w,NN (trL L) w (.slice none (trL L).length 0)):=Lib.hid (fun w=>by rw [HLA.out]; exact .inl ⟨rfl,rfl⟩)
   have HNQ:=Lib.hid (HNQ0.out.tr2 HQN.out)
   have HDM : Hid (DM F A B (trL Q) (trL L)):=Lib.hid (by
    have h0:=DL.start HFF.out HA.out HBN.out
    have e0 : A.length - (B.length - 1) = 0:=by rw [EA.out]; simp
    rw [e0] at h0
    have:=DL.fin HFF.out HBN.out h0
    rw [EA.out] at this ⊢
    rw [HLA.out,HQE.out]
    simpa using this)
   have HBG : Hid (wB.heap.size ≠ W.heap.size + 1 + 1 ∧ wB.heap.size ≠ W.heap.size + 1 + 1 + 1):=Lib.hid (by have:=HB4.out; omega)
   have HPc : Hid (P4 W F.p F.e (FM F b cap) (.slice none 0 0) (.slice ab lb cb) wr.drew):=Lib.hid (HP.out.keep (Below.refl _ _).drew)
   have HBc : Hid (Below wr.heap.size wr wr.drew):=Lib.hid (Below.refl _ _).drew
   have hS0 : SFi W F.p F.e (FM F b cap) (.slice none 0 0) wr.drew:=⟨HPc.out.b0,Lib.hid HPc.out.bl⟩
   clear y0 y1 y2 y3 x0 x1 x2 x3
   go_wp2_with fail
   exact div_finN (by assumption) HP.out HNQ0.out HQN.out HQL.out (HNRn0.out wr) HLN.out HLL.out HB4.out (by first | rfl | rw [if_pos (by omega)] | simp) HDM.out
set_option maxHeartbeats 25600000 in
theorem div_empA {F : Gf} {b cap : Nat} {A B : List Nat} {ab : Option Addr} {b0 off0 ca : Nat} {lb cb : Nat} {W : World} (hO : Ops F b cap W) (hA : In F A) (hB : Po F B) (hbn : B ≠ []) (hb : B.length ≤ 1000) (ea : A = []) (eb : lb = B.length)
  (nb : NN B W (.slice ab lb cb)) (hld : lb = 1) : Calls Try.prog 45 #[PF F b cap (some ⟨b0,off0,none⟩) 0 ca,PF F b cap ab lb cb] W (DvPost F b cap A B W):=by
 have hF:=hO.ok
 have hlb1 : 0 < lb:=by rw [eb]; exact List.length_pos_iff.2 hbn
 have hlb : lb ≤ 1000:=by omega
 obtain ⟨d,hd⟩ : ∃ d,lb = d + 1:=⟨lb - 1,by omega⟩
 obtain rfl : d = 0:=by omega
 have hdi : (lb : Int) - 1 = 0:=by omega
 have hd1000 : 0 ≤ 1000:=by omega
 have HDD:=Lib.hid hd
 obtain ⟨ii,hii⟩ : ∃ ii,Hid (F.inv (B.getD (B.length - 1) 0) = ii):=⟨_,rfl⟩
 have HII : Hid (ii < F.q):=Lib.hid (by rw [← hii.out]; exact hF.inv_lt _)
 have HINV : Hid (∀ w,Below W.heap.size W w → Calls Try.prog 67 #[PF F b cap ab lb cb] w fun e w'=>e = .returned (.int .i64 (ii : Nat)) ∧ Below w.heap.size w w'):=Lib.hid (fun w hw=>by
  rw [← hii.out]; exact invlast_c (hO.below hw) hB hb eb hbn (nb.below hw))
 have EA:=Lib.hid ea
 have EB:=Lib.hid eb
 have HA:=Lib.hid hA
 have HB:=Lib.hid hB
 have HBN:=Lib.hid hbn
 have NB:=Lib.hid nb
 have HO:=Lib.hid hO
 have HFF:=Lib.hid hF
 clear hA hB nb ea eb hb hO hF hbn hd hld
 obtain ⟨i0,hi,hz0,hz1,hz2⟩:=info_parts info3
 have HP0:=Lib.hid (P4.of W F.p F.e (FM F b cap) (.slice (some ⟨b0,off0,none⟩) 0 ca) (.slice ab lb cb))
 go_enter Try.func45,Try.ntmps45
 go_wp2_with fail
 with_reducible refine (HINV.out _ HP0.out.bl).mono ?_
 rintro z wB ⟨rfl,hbA⟩
 have HPB:=Lib.hid (HP0.out.keep (hbA.mono HP0.out.sz))
 clear hbA HP0
 have hpB:=HPB.out
 obtain ⟨⟨x0,x1,x2,x3⟩,⟨y0,y1,y2,y3⟩,-,-,-,-,-,-⟩:=hpB
 go_wp2_with (refine wpList_make_full _ rfl _ _ 25 rfl (W.heap.size + 4) 3 i0 (.int .i64 0) 1 Try.underlying25 hi hz0 hz1 .i64 .i64 (0 : Int) (0 : Int) 0 rfl rfl rfl rfl (by rw [hz2]; omega) (by unfold maxLen; omega) HPB.out.sz ?_)
 intro wC hown hgrow
 have hbC : Below wB.heap.size wB wC:=(Below.refl _ _).grown hgrow (Nat.le_refl _) (fun k hk=>by cases hk)
 have HPC:=Lib.hid (HPB.out.keep (hbC.mono HPB.out.sz))
 have HB4 : Hid (W.heap.size + 4 ≤ wB.heap.size):=Lib.hid HPB.out.sz
 have HQC : Hid (Row (List.replicate 0 0) wB.heap.size wC):=Lib.hid (Row.of_own (n:=0) (base:=W.heap.size + 4) (by
  have e:=toList_madeCells_one (Value.int .i64 0) 0
  rw [List.map_replicate,show N64 0 = Value.int .i64 0 from rfl,← e]
  simpa using hown) (by simp))
 clear hown hgrow hbC HPB x0 x1 x2 x3 y0 y1 y2 y3
 have hpC:=HPC.out
 obtain ⟨⟨x0,x1,x2,x3⟩,⟨y0,y1,y2,y3⟩,-,-,-,-,-,-⟩:=hpC
 obtain ⟨L,HLA⟩ : ∃ L : List Nat,Hid (L = []):=⟨_,rfl⟩
 obtain ⟨Q,HQE⟩ : ∃ Q : List Nat,Hid (Q = List.replicate 0 0):=⟨_,rfl⟩
 rw [← HQE.out] at HQC
 go_wp2
 go_loopw [10] (fun i wr=>i = .int .i64 (-1) ∧ Hid (Row Q wB.heap.size wr) ∧ Hid (Below (W.heap.size + 4) wC wr)) (fun _ _=>0)
 case atStart=>exact ⟨rfl,HQC,Lib.hid (Below.refl _ _)⟩
 case round =>
  obtain ⟨rfl,HQ,KB⟩:=hrel
  have HP:=Lib.hid (HPC.out.keep KB.out)
  clear x0 x1 x2 x3 y0 y1 y2 y3
  have hpC:=HP.out
  obtain ⟨⟨x0,x1,x2,x3⟩,⟨y0,y1,y2,y3⟩,-,-,-,-,-,-⟩:=hpC
  have HLL0 : Hid (L.length = 0):=Lib.hid (by rw [HLA.out]; rfl)
  have HQL0 : Hid (Q.length = 0):=Lib.hid (by rw [HQE.out]; rfl)
  ·skip
   have HQL : Hid (Q.length ≤ 1000000):=Lib.hid (by have:=HQL0.out; omega)
   have HQN : Hid (0 = Q.length):=Lib.hid HQL0.out.symm
   have HLL : Hid (L.length ≤ 1000000):=Lib.hid (by have:=HLL0.out; omega)
   have HLN : Hid (0 = L.length):=Lib.hid HLL0.out.symm
   have HNQ0 : Hid (NN Q wr (.slice (some ⟨wB.heap.size,0,none⟩) 0 0)):=Lib.hid (by have:=HQ.out.nn; rw [HQL0.out] at this; exact this)
   have HNRn0 : Hid (∀ w,NN L w (.slice none 0 0)):=Lib.hid (fun w=>.inl ⟨HLA.out,rfl⟩)
   have HNRn : Hid (∀ w,NN (trL L) w (.slice none (trL L).length 0)):=Lib.hid (fun w=>by rw [HLA.out]; exact .inl ⟨rfl,rfl⟩)
   have HNQ:=Lib.hid (HNQ0.out.tr2 HQN.out)
   have HDM : Hid (DM F A B (trL Q) (trL L)):=Lib.hid (by
    have h0:=DL.start HFF.out HA.out HBN.out
    have e0 : A.length - (B.length - 1) = 0:=by rw [EA.out]; simp
    rw [e0] at h0
    have:=DL.fin HFF.out HBN.out h0
    rw [EA.out] at this ⊢
    rw [HLA.out,HQE.out]
    simpa using this)
   have HBG : Hid (wB.heap.size ≠ W.heap.size + 1 + 1 ∧ wB.heap.size ≠ W.heap.size + 1 + 1 + 1):=Lib.hid (by have:=HB4.out; omega)
   have HPc : Hid (P4 W F.p F.e (FM F b cap) (.slice (some ⟨b0,off0,none⟩) 0 ca) (.slice ab lb cb) wr.drew):=Lib.hid (HP.out.keep (Below.refl _ _).drew)
   have HBc : Hid (Below wr.heap.size wr wr.drew):=Lib.hid (Below.refl _ _).drew
   have hS0 : SFi W F.p F.e (FM F b cap) (.slice (some ⟨b0,off0,none⟩) 0 ca) wr.drew:=⟨HPc.out.b0,Lib.hid HPc.out.bl⟩
   clear y0 y1 y2 y3 x0 x1 x2 x3
   go_wp2_with fail
   exact div_finN (by assumption) HP.out HNQ0.out HQN.out HQL.out (HNRn0.out wr) HLN.out HLL.out HB4.out (by first | rfl | rw [if_pos (by omega)] | simp) HDM.out
set_option maxHeartbeats 25600000 in
theorem div_nilB {F : Gf} {b cap : Nat} {A B : List Nat} {ab : Option Addr} {lb cb : Nat} {W : World} (hO : Ops F b cap W) (hA : In F A) (hB : Po F B) (hbn : B ≠ []) (hb : B.length ≤ 1000) (ea : A = []) (eb : lb = B.length)
  (nb : NN B W (.slice ab lb cb)) (hld : 1 < lb) : Calls Try.prog 45 #[PF F b cap none 0 0,PF F b cap ab lb cb] W (DvPost F b cap A B W):=by
 have hF:=hO.ok
 have hlb1 : 0 < lb:=by rw [eb]; exact List.length_pos_iff.2 hbn
 have hlb : lb ≤ 1000:=by omega
 obtain ⟨d,hd⟩ : ∃ d,lb = d + 1:=⟨lb - 1,by omega⟩
 have hdi : (lb : Int) - 1 = (d : Int):=by omega
 obtain ⟨mi,hmi⟩ : ∃ mi : Int,-(d : Int) = mi:=⟨_,rfl⟩
 have hmi2 : (0 : Int) - (d : Int) = mi:=by omega
 have hnd : 0 < d:=by omega
 have hneg : mi < 0:=by omega
 have hd1000 : d ≤ 1000:=by omega
 have HDD:=Lib.hid hd
 obtain ⟨ii,hii⟩ : ∃ ii,Hid (F.inv (B.getD (B.length - 1) 0) = ii):=⟨_,rfl⟩
 have HII : Hid (ii < F.q):=Lib.hid (by rw [← hii.out]; exact hF.inv_lt _)
 have HINV : Hid (∀ w,Below W.heap.size W w → Calls Try.prog 67 #[PF F b cap ab lb cb] w fun e w'=>e = .returned (.int .i64 (ii : Nat)) ∧ Below w.heap.size w w'):=Lib.hid (fun w hw=>by
  rw [← hii.out]; exact invlast_c (hO.below hw) hB hb eb hbn (nb.below hw))
 have EA:=Lib.hid ea
 have EB:=Lib.hid eb
 have HA:=Lib.hid hA
 have HB:=Lib.hid hB
 have HBN:=Lib.hid hbn
 have NB:=Lib.hid nb
 have HO:=Lib.hid hO
 have HFF:=Lib.hid hF
 clear hA hB nb ea eb hb hO hF hbn hd hld
 obtain ⟨i0,hi,hz0,hz1,hz2⟩:=info_parts info3
 have HP0:=Lib.hid (P4.of W F.p F.e (FM F b cap) (.slice none 0 0) (.slice ab lb cb))
 go_enter Try.func45,Try.ntmps45
 go_wp2_with fail
 with_reducible refine (HINV.out _ HP0.out.bl).mono ?_
 rintro z wB ⟨rfl,hbA⟩
 have HPB:=Lib.hid (HP0.out.keep (hbA.mono HP0.out.sz))
 clear hbA HP0
 have hpB:=HPB.out
 obtain ⟨⟨x0,x1,x2,x3⟩,⟨y0,y1,y2,y3⟩,-,-,-,-,-,-⟩:=hpB
 go_wp2_with (refine wpList_make_full _ rfl _ _ 25 rfl (W.heap.size + 4) 3 i0 (.int .i64 0) 1 Try.underlying25 hi hz0 hz1 .i64 .i64 (0 : Int) (0 : Int) 0 rfl rfl rfl rfl (by rw [hz2]; omega) (by unfold maxLen; omega) HPB.out.sz ?_)
 intro wC hown hgrow
 have hbC : Below wB.heap.size wB wC:=(Below.refl _ _).grown hgrow (Nat.le_refl _) (fun k hk=>by cases hk)
 have HPC:=Lib.hid (HPB.out.keep (hbC.mono HPB.out.sz))
 have HB4 : Hid (W.heap.size + 4 ≤ wB.heap.size):=Lib.hid HPB.out.sz
 have HQC : Hid (Row (List.replicate 0 0) wB.heap.size wC):=Lib.hid (Row.of_own (n:=0) (base:=W.heap.size + 4) (by
  have e:=toList_madeCells_one (Value.int .i64 0) 0
  rw [List.map_replicate,show N64 0 = Value.int .i64 0 from rfl,← e]
  simpa using hown) (by simp))
 clear hown hgrow hbC HPB x0 x1 x2 x3 y0 y1 y2 y3
 have hpC:=HPC.out
 obtain ⟨⟨x0,x1,x2,x3⟩,⟨y0,y1,y2,y3⟩,-,-,-,-,-,-⟩:=hpC
 obtain ⟨L,HLA⟩ : ∃ L : List Nat,Hid (L = []):=⟨_,rfl⟩
 obtain ⟨Q,HQE⟩ : ∃ Q : List Nat,Hid (Q = List.replicate 0 0):=⟨_,rfl⟩
 rw [← HQE.out] at HQC
 go_wp2
 go_loopw [10] (fun i wr=>i = .int .i64 (-1) ∧ Hid (Row Q wB.heap.size wr) ∧ Hid (Below (W.heap.size + 4) wC wr)) (fun _ _=>0)
 case atStart=>exact ⟨rfl,HQC,Lib.hid (Below.refl _ _)⟩
 case round =>
  obtain ⟨rfl,HQ,KB⟩:=hrel
  have HP:=Lib.hid (HPC.out.keep KB.out)
  clear x0 x1 x2 x3 y0 y1 y2 y3
  have hpC:=HP.out
  obtain ⟨⟨x0,x1,x2,x3⟩,⟨y0,y1,y2,y3⟩,-,-,-,-,-,-⟩:=hpC
  have HLL0 : Hid (L.length = 0):=Lib.hid (by rw [HLA.out]; rfl)
  have HQL0 : Hid (Q.length = 0):=Lib.hid (by rw [HQE.out]; rfl)
  ·skip
   have HQL : Hid (Q.length ≤ 1000000):=Lib.hid (by have:=HQL0.out; omega)
   have HQN : Hid (0 = Q.length):=Lib.hid HQL0.out.symm
   have HLL : Hid (L.length ≤ 1000000):=Lib.hid (by have:=HLL0.out; omega)
   have HLN : Hid (0 = L.length):=Lib.hid HLL0.out.symm
   have HNQ0 : Hid (NN Q wr (.slice (some ⟨wB.heap.size,0,none⟩) 0 0)):=Lib.hid (by have:=HQ.out.nn; rw [HQL0.out] at this; exact this)
   have HNRn0 : Hid (∀ w,NN L w (.slice none 0 0)):=Lib.hid (fun w=>.inl ⟨HLA.out,rfl⟩)
   have HNRn : Hid (∀ w,NN (trL L) w (.slice none (trL L).length 0)):=Lib.hid (fun w=>by rw [HLA.out]; exact .inl ⟨rfl,rfl⟩)
   have HNQ:=Lib.hid (HNQ0.out.tr2 HQN.out)
   have HDM : Hid (DM F A B (trL Q) (trL L)):=Lib.hid (by
    have h0:=DL.start HFF.out HA.out HBN.out
    have e0 : A.length - (B.length - 1) = 0:=by rw [EA.out]; simp
    rw [e0] at h0
    have:=DL.fin HFF.out HBN.out h0
    rw [EA.out] at this ⊢
    rw [HLA.out,HQE.out]
    simpa using this)
   have HBG : Hid (wB.heap.size ≠ W.heap.size + 1 + 1 ∧ wB.heap.size ≠ W.heap.size + 1 + 1 + 1):=Lib.hid (by have:=HB4.out; omega)
   have HPc : Hid (P4 W F.p F.e (FM F b cap) (.slice none 0 0) (.slice ab lb cb) wr.drew):=Lib.hid (HP.out.keep (Below.refl _ _).drew)
   have HBc : Hid (Below wr.heap.size wr wr.drew):=Lib.hid (Below.refl _ _).drew
   have hS0 : SFi W F.p F.e (FM F b cap) (.slice none 0 0) wr.drew:=⟨HPc.out.b0,Lib.hid HPc.out.bl⟩
   clear y0 y1 y2 y3 x0 x1 x2 x3
   go_wp2_with fail
   exact div_finN (by assumption) HP.out HNQ0.out HQN.out HQL.out (HNRn0.out wr) HLN.out HLL.out HB4.out (by first | rfl | rw [if_pos (by omega)] | simp) HDM.out
set_option maxHeartbeats 25600000 in
theorem div_empB {F : Gf} {b cap : Nat} {A B : List Nat} {ab : Option Addr} {b0 off0 ca : Nat} {lb cb : Nat} {W : World} (hO : Ops F b cap W) (hA : In F A) (hB : Po F B) (hbn : B ≠ []) (hb : B.length ≤ 1000) (ea : A = []) (eb : lb = B.length)
  (nb : NN B W (.slice ab lb cb)) (hld : 1 < lb) : Calls Try.prog 45 #[PF F b cap (some ⟨b0,off0,none⟩) 0 ca,PF F b cap ab lb cb] W (DvPost F b cap A B W):=by
 have hF:=hO.ok
 have hlb1 : 0 < lb:=by rw [eb]; exact List.length_pos_iff.2 hbn
 have hlb : lb ≤ 1000:=by omega
 obtain ⟨d,hd⟩ : ∃ d,lb = d + 1:=⟨lb - 1,by omega⟩
 have hdi : (lb : Int) - 1 = (d : Int):=by omega
 obtain ⟨mi,hmi⟩ : ∃ mi : Int,-(d : Int) = mi:=⟨_,rfl⟩
 have hmi2 : (0 : Int) - (d : Int) = mi:=by omega
 have hnd : 0 < d:=by omega
 have hneg : mi < 0:=by omega
 have hd1000 : d ≤ 1000:=by omega
 have HDD:=Lib.hid hd
 obtain ⟨ii,hii⟩ : ∃ ii,Hid (F.inv (B.getD (B.length - 1) 0) = ii):=⟨_,rfl⟩
 have HII : Hid (ii < F.q):=Lib.hid (by rw [← hii.out]; exact hF.inv_lt _)
 have HINV : Hid (∀ w,Below W.heap.size W w → Calls Try.prog 67 #[PF F b cap ab lb cb] w fun e w'=>e = .returned (.int .i64 (ii : Nat)) ∧ Below w.heap.size w w'):=Lib.hid (fun w hw=>by
  rw [← hii.out]; exact invlast_c (hO.below hw) hB hb eb hbn (nb.below hw))
 have EA:=Lib.hid ea
 have EB:=Lib.hid eb
 have HA:=Lib.hid hA
 have HB:=Lib.hid hB
 have HBN:=Lib.hid hbn
 have NB:=Lib.hid nb
 have HO:=Lib.hid hO
 have HFF:=Lib.hid hF
 clear hA hB nb ea eb hb hO hF hbn hd hld
 obtain ⟨i0,hi,hz0,hz1,hz2⟩:=info_parts info3
 have HP0:=Lib.hid (P4.of W F.p F.e (FM F b cap) (.slice (some ⟨b0,off0,none⟩) 0 ca) (.slice ab lb cb))
 go_enter Try.func45,Try.ntmps45
 go_wp2_with fail
 with_reducible refine (HINV.out _ HP0.out.bl).mono ?_
 rintro z wB ⟨rfl,hbA⟩
 have HPB:=Lib.hid (HP0.out.keep (hbA.mono HP0.out.sz))
 clear hbA HP0
 have hpB:=HPB.out
 obtain ⟨⟨x0,x1,x2,x3⟩,⟨y0,y1,y2,y3⟩,-,-,-,-,-,-⟩:=hpB
 go_wp2_with (refine wpList_make_full _ rfl _ _ 25 rfl (W.heap.size + 4) 3 i0 (.int .i64 0) 1 Try.underlying25 hi hz0 hz1 .i64 .i64 (0 : Int) (0 : Int) 0 rfl rfl rfl rfl (by rw [hz2]; omega) (by unfold maxLen; omega) HPB.out.sz ?_)
 intro wC hown hgrow
 have hbC : Below wB.heap.size wB wC:=(Below.refl _ _).grown hgrow (Nat.le_refl _) (fun k hk=>by cases hk)
 have HPC:=Lib.hid (HPB.out.keep (hbC.mono HPB.out.sz))
 have HB4 : Hid (W.heap.size + 4 ≤ wB.heap.size):=Lib.hid HPB.out.sz
 have HQC : Hid (Row (List.replicate 0 0) wB.heap.size wC):=Lib.hid (Row.of_own (n:=0) (base:=W.heap.size + 4) (by
  have e:=toList_madeCells_one (Value.int .i64 0) 0
  rw [List.map_replicate,show N64 0 = Value.int .i64 0 from rfl,← e]
  simpa using hown) (by simp))
 clear hown hgrow hbC HPB x0 x1 x2 x3 y0 y1 y2 y3
 have hpC:=HPC.out
 obtain ⟨⟨x0,x1,x2,x3⟩,⟨y0,y1,y2,y3⟩,-,-,-,-,-,-⟩:=hpC
 obtain ⟨L,HLA⟩ : ∃ L : List Nat,Hid (L = []):=⟨_,rfl⟩
 obtain ⟨Q,HQE⟩ : ∃ Q : List Nat,Hid (Q = List.replicate 0 0):=⟨_,rfl⟩
 rw [← HQE.out] at HQC
 go_wp2
 go_loopw [10] (fun i wr=>i = .int .i64 (-1) ∧ Hid (Row Q wB.heap.size wr) ∧ Hid (Below (W.heap.size + 4) wC wr)) (fun _ _=>0)
 case atStart=>exact ⟨rfl,HQC,Lib.hid (Below.refl _ _)⟩
 case round =>
  obtain ⟨rfl,HQ,KB⟩:=hrel
  have HP:=Lib.hid (HPC.out.keep KB.out)
  clear x0 x1 x2 x3 y0 y1 y2 y3
  have hpC:=HP.out
  obtain ⟨⟨x0,x1,x2,x3⟩,⟨y0,y1,y2,y3⟩,-,-,-,-,-,-⟩:=hpC
  have HLL0 : Hid (L.length = 0):=Lib.hid (by rw [HLA.out]; rfl)
  have HQL0 : Hid (Q.length = 0):=Lib.hid (by rw [HQE.out]; rfl)
  ·skip
   have HQL : Hid (Q.length ≤ 1000000):=Lib.hid (by have:=HQL0.out; omega)
   have HQN : Hid (0 = Q.length):=Lib.hid HQL0.out.symm
   have HLL : Hid (L.length ≤ 1000000):=Lib.hid (by have:=HLL0.out; omega)
   have HLN : Hid (0 = L.length):=Lib.hid HLL0.out.symm
   have HNQ0 : Hid (NN Q wr (.slice (some ⟨wB.heap.size,0,none⟩) 0 0)):=Lib.hid (by have:=HQ.out.nn; rw [HQL0.out] at this; exact this)
   have HNRn0 : Hid (∀ w,NN L w (.slice none 0 0)):=Lib.hid (fun w=>.inl ⟨HLA.out,rfl⟩)
   have HNRn : Hid (∀ w,NN (trL L) w (.slice none (trL L).length 0)):=Lib.hid (fun w=>by rw [HLA.out]; exact .inl ⟨rfl,rfl⟩)
   have HNQ:=Lib.hid (HNQ0.out.tr2 HQN.out)
   have HDM : Hid (DM F A B (trL Q) (trL L)):=Lib.hid (by
    have h0:=DL.start HFF.out HA.out HBN.out
    have e0 : A.length - (B.length - 1) = 0:=by rw [EA.out]; simp
    rw [e0] at h0
    have:=DL.fin HFF.out HBN.out h0
    rw [EA.out] at this ⊢
    rw [HLA.out,HQE.out]
    simpa using this)
   have HBG : Hid (wB.heap.size ≠ W.heap.size + 1 + 1 ∧ wB.heap.size ≠ W.heap.size + 1 + 1 + 1):=Lib.hid (by have:=HB4.out; omega)
   have HPc : Hid (P4 W F.p F.e (FM F b cap) (.slice (some ⟨b0,off0,none⟩) 0 ca) (.slice ab lb cb) wr.drew):=Lib.hid (HP.out.keep (Below.refl _ _).drew)
   have HBc : Hid (Below wr.heap.size wr wr.drew):=Lib.hid (Below.refl _ _).drew
   have hS0 : SFi W F.p F.e (FM F b cap) (.slice (some ⟨b0,off0,none⟩) 0 ca) wr.drew:=⟨HPc.out.b0,Lib.hid HPc.out.bl⟩
   clear y0 y1 y2 y3 x0 x1 x2 x3
   go_wp2_with fail
   exact div_finN (by assumption) HP.out HNQ0.out HQN.out HQL.out (HNRn0.out wr) HLN.out HLL.out HB4.out (by first | rfl | rw [if_pos (by omega)] | simp) HDM.out
end Go.Proofs.Ytllecfhfhcmpaaa
