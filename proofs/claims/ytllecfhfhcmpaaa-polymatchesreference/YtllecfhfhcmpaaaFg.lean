/- PolyMatchesReference: the program's functions and the reference's answer the same. -/
import Derived.Test.YtllecfhfhcmpaaaLy
import Derived.Test.YtllecfhfhcmpaaaLp
import Derived.Test.YtllecfhfhcmpaaaEvYv
import Derived.Test.YtllecfhfhcmpaaaRows
namespace Go.Proofs.Ytllecfhfhcmpaaa
open Go.RowKit Go.Fl
set_option maxRecDepth 100000
set_option linter.unusedVariables false
set_option linter.unusedSimpArgs false
set_option linter.unusedSectionVars false
def T3 (Q R : List Nat) (ec : Nat) (w : World) (e : Ending) (w' : World) : Prop:=∃ a c a' c',e = .returned (.tuple #[.slice a Q.length c,.slice a' R.length c',.int .i64 (ec : Nat)]) ∧ NN Q w' (.slice a Q.length c) ∧ NN R w' (.slice a' R.length c') ∧ Below w.heap.size w w'
def T2 (P : List Nat) (ec : Nat) (w : World) (e : Ending) (w' : World) : Prop:=∃ a c,e = .returned (.tuple #[.slice a P.length c,.int .i64 (ec : Nat)]) ∧ NN P w' (.slice a P.length c) ∧ Below w.heap.size w w'
theorem T3.err {w w' : World} {e : Ending} (h : e = .returned (.tuple #[.slice none 0 0,.slice none 0 0,.int .i64 3]) ∧ Below w.heap.size w w') : T3 [] [] 3 w e w':=⟨none,0,none,0,h.1,.inl ⟨rfl,rfl⟩,.inl ⟨rfl,rfl⟩,h.2⟩
theorem T2.err {w w' : World} {e : Ending} (h : e = .returned (.tuple #[.slice none 0 0,.int .i64 1]) ∧ Below w.heap.size w w') : T2 [] 1 w e w':=⟨none,0,h.1,.inl ⟨rfl,rfl⟩,h.2⟩
section
variable {F : Gf} {b cap : Nat} {A B : List Nat}
theorem addP_tr (hF : Ok F) (hA : In F A) (hB : In F B) : addP F (trL A) (trL B) = addP F A B:=
 (addP_po hF (in_trL hA) (in_trL hB)).ext (addP_po hF hA hB) (by rw [fn_addP hF (in_trL hA) (in_trL hB),fn_addP hF hA hB,fn_trL,fn_trL])
theorem mulP_tr (hF : Ok F) (hA : In F A) (hB : In F B) : mulP F (trL A) (trL B) = mulP F A B:=
 (mulP_po hF _ _).ext (mulP_po hF _ _) (by rw [fn_mulP hF,fn_mulP hF,fn_trL]; exact pm_congr hF (in_trL hA) hA (fn_trL A) hB)
theorem dm_both (hF : Ok F) (hA : In F A) (hB : In F B) (ha : A.length ≤ 100) (hb : B.length ≤ 100) : ∃ Q R ec,Q.length ≤ 1000 ∧ R.length ≤ 1000 ∧
  (∀ w,FldAt F b cap w → ∀ a c a' c',NN A w (.slice a A.length c) → NN B w (.slice a' B.length c') → Calls Try.prog 17 #[FV F b cap,.slice a A.length c,.slice a' B.length c'] w (T3 Q R ec w)) ∧
  (∀ w,FldAt F b cap w → ∀ a c a' c',NN A w (.slice a A.length c) → NN B w (.slice a' B.length c') → Calls Try.prog 18 #[FV F b cap,.slice a A.length c,.slice a' B.length c'] w (T3 Q R ec w)):=by
 have hla:=trL_len A
 have hlb:=trL_len B
 by_cases h0 : trL B = []
 ·exact ⟨[],[],3,by simp,by simp,fun w hw a c a' c' na nb=>(divmod_lo (by omega) rfl nb h0).mono fun e w' h=>T3.err h,fun w hw a c a' c' na nb=>(rdiv_zero hw hb h0 nb).mono fun e w' h=>T3.err h⟩
 ·obtain ⟨Q,R,hd⟩:=DM.exists hF (Po.tr hA) (Po.tr hB) h0
  obtain ⟨e1,e2⟩:=dqr_of hF (Po.tr hB) hd
  have hql:=dm_len hF (Po.tr hA) (Po.tr hB) h0 hd
  have hrl:=hd.len
  refine ⟨Q,R,0,by omega,by omega,fun w hw a c a' c' na nb=>?_,fun w hw a c a' c' na nb=>?_⟩
  ·have h:=divmod_hi hw.ops hA hB (by omega) (by omega) rfl rfl na nb h0
   rw [← e1,← e2] at h
   exact h.mono fun e w' ⟨x1,x2,x3,x4,h1,h2,h3,h4⟩=>⟨x1,x2,x3,x4,h1,h2,h3,h4⟩
  ·refine (rdiv_p hw hA hB ha hb na nb h0).mono fun e w' ⟨Q',R',hd',x1,x2,x3,x4,h1,h2,h3,h4⟩=>?_
   obtain ⟨rfl,rfl⟩:=hd'.uniq hF (Po.tr hB) hd
   exact ⟨x1,x2,x3,x4,h1,h2,h3,h4⟩
theorem in_both (hF : Ok F) (hA : In F A) (hB : In F B) (ha : A.length ≤ 90) (hb : B.length ≤ 90) : ∃ P ec,P.length ≤ 1000 ∧
  (∀ w,FldAt F b cap w → ∀ a c a' c',NN A w (.slice a A.length c) → NN B w (.slice a' B.length c') → Calls Try.prog 19 #[FV F b cap,.slice a A.length c,.slice a' B.length c'] w (T2 P ec w)) ∧
  (∀ w,FldAt F b cap w → ∀ a c a' c',NN A w (.slice a A.length c) → NN B w (.slice a' B.length c') → Calls Try.prog 20 #[FV F b cap,.slice a A.length c,.slice a' B.length c'] w (T2 P ec w)):=by
 by_cases hl : A.length = B.length
 ·by_cases hd : A.Nodup
  ·letI : OkC F:=⟨hF⟩
   have hP : ∃ P,Po F P ∧ P.length ≤ A.length ∧ ∀ k,k < A.length → ev F (A.getD k 0) P = B.getD k 0:=by
    have hDI : ∀ i j,i < A.length → j < A.length → i ≠ j → fe F A hA i ≠ fe F A hA j:=fun i j hi hj hij e=>by
     have h4 : A.getD i 0 = A.getD j 0:=congrArg Subtype.val e
     exact not_nodup' hj hi (by omega) h4 hd
    exact ⟨nP F (fe F A hA) (fe F B hB) A.length A.length,nP_po _ _ _ _,nP_len _ _ _ _,fun k hk=>nP_val _ _ A.length hDI k hk⟩
   obtain ⟨P,hPo,hPl,hPv⟩:=hP
   have hu : ∀ P',Po F P' → P'.length ≤ A.length → (∀ k,k < A.length → ev F (A.getD k 0) P' = B.getD k 0) → P' = P:=fun P' h1 h2 h3=>val_uniq hF h1 hPo hd hA h2 hPl (fun x hx=>by
    obtain ⟨k,hk,rfl⟩:=List.getElem_of_mem hx
    have e1:=h3 k hk
    have e2:=hPv k hk
    rw [List.getD_eq_getElem?_getD,List.getElem?_eq_getElem hk] at e1 e2
    exact e1.trans e2.symm)
   refine ⟨P,0,by omega,fun w hw a c a' c' na nb=>?_,fun w hw a c a' c' na nb=>?_⟩
   ·rw [← hl] at nb ⊢
    exact (interp_c hw.ops hA hB rfl hl.symm (by omega) hd na nb).mono fun e w' ⟨P',x1,x2,h1,h2,h3,h4,h5,h6⟩=>by
     obtain rfl:=hu P' h3 h4 h5
     exact ⟨x1,x2,h1,h2,h6⟩
   ·rw [← hl] at nb ⊢
    refine (rinterp_p hw hA hB rfl hl.symm ha na nb).mono fun e w' h=>?_
    rcases h with ⟨h,_⟩ | ⟨P',x1,x2,h1,h2,h3,h4⟩
    ·exact absurd hd h
    ·obtain rfl:=hu P' h1.po h1.len h1.here
     exact ⟨x1,x2,h2,h3,h4⟩
  ·refine ⟨[],1,by simp,fun w hw a c a' c' na nb=>?_,fun w hw a c a' c' na nb=>?_⟩
   ·exact (interp_no (Y:=B) rfl (by omega) (by omega) na (.inr hd)).mono fun e w' h=>T2.err h
   ·rw [← hl] at nb ⊢
    refine (rinterp_p hw hA hB rfl hl.symm ha na nb).mono fun e w' h=>?_
    rcases h with ⟨_,h⟩ | ⟨P',x1,x2,h1,_⟩
    ·exact T2.err h
    ·exact absurd (h1.nodup rfl) hd
 ·exact ⟨[],1,by simp,fun w hw a c a' c' na nb=>(interp_no (Y:=B) rfl (by omega) (by omega) na (.inl hl)).mono fun e w' h=>T2.err h,
   fun w hw a c a' c' na nb=>(rinterp_len hw hl).mono fun e w' h=>T2.err h⟩
theorem ints_same {A : List Nat} {aa ab : Option Addr} {ca cb : Nat} {W : World} (ha : A.length ≤ 1000) (na : NN A W (.slice aa A.length ca)) (nb : NN A W (.slice ab A.length cb)) :
  Calls Try.prog 14 #[.slice aa A.length ca,.slice ab A.length cb] W fun e w'=>e = .returned (.bool true) ∧ Below W.heap.size W w':=by
 have:=ints_c (A:=A) (B:=A) (by omega) (by omega) rfl rfl na nb
 rwa [decide_eq_true rfl] at this
end
end Go.Proofs.Ytllecfhfhcmpaaa
/- PolyMatchesReference: the walk. -/
namespace Go.Proofs.Ytllecfhfhcmpaaa
open Go.RowKit Go.Fl Go.Rg
set_option maxRecDepth 100000
set_option linter.unusedVariables false
set_option linter.unusedSimpArgs false
set_option linter.unusedSectionVars false
set_option maxHeartbeats 25600000 in
theorem matches_law {q y : Nat} {A B C : List Nat} {Z : List Int} {aA aB aC aZ : Option Addr} {cA cB cC cZ : Nat} {W : World} (hq : q ≤ 255) (hy : y ≤ 255) (hA : By A) (hB : By B) (hC : By C) (lA : A.length ≤ maxLen) (lB : B.length ≤ maxLen) (lC : C.length ≤ maxLen) (lZ : Z.length ≤ maxLen)
  (na : N8 A W (.slice aA A.length cA)) (nb : N8 B W (.slice aB B.length cB)) (nc : N8 C W (.slice aC C.length cC)) (nz : NI Z W (.slice aZ Z.length cZ)) :
  Calls Try.prog 3 #[.agg #[.int .u8 (q : Nat),.slice aA A.length cA,.slice aB B.length cB,.slice aC C.length cC],.slice aZ Z.length cZ,.int .u8 (y : Nat)] W fun e w'=>e = .returned (.bool true) ∧ Below W.heap.size W w':=by
 have HQ:=Lib.hid hq
 have HEX:=Lib.hid examples_c
 have HOF:=Lib.hid (fun w=>of01_c q hq w)
 have HB0 : Hid (Below W.heap.size W (W.alloc (.cells #[.int .u8 (q : Nat),.slice aA A.length cA,.slice aB B.length cB,.slice aC C.length cC] 24))):=Lib.hid ((Below.refl _ _).alloc (Nat.le_refl _) _)
 have HL0 : Hid (LB W.heap.size (.int .u8 (q : Nat)) (.slice aA A.length cA) (.slice aB B.length cB) (.slice aC C.length cC) (W.alloc (.cells #[.int .u8 (q : Nat),.slice aA A.length cA,.slice aB B.length cB,.slice aC C.length cC] 24))):=Lib.hid ⟨World.cell?_alloc_at _ _ _ _ rfl,World.cell?_alloc_at _ _ _ _ rfl,World.cell?_alloc_at _ _ _ _ rfl,World.cell?_alloc_at _ _ _ _ rfl⟩
 have HZ0 : Hid (W.heap.size < (W.alloc (.cells #[.int .u8 (q : Nat),.slice aA A.length cA,.slice aB B.length cB,.slice aC C.length cC] 24)).heap.size):=Lib.hid (by simp)
 clear hq
 go_enter Try.func3,Try.ntmps3
 go_wp2_with fail
 with_reducible refine (HEX.out _).mono ?_
 rintro z w1 ⟨rfl,hb1⟩
 have HB1:=Lib.hid (HB0.out.trans (hb1.mono HB0.out.size))
 have HL1:=Lib.hid (HL0.out.keep hb1 HZ0.out)
 have HZ1 : Hid (W.heap.size < w1.heap.size):=Lib.hid (Nat.lt_of_lt_of_le HZ0.out hb1.size)
 clear hb1 HB0 HL0 HZ0
 have hL1:=HL1.out
 obtain ⟨l0,l1,l2,l3⟩:=hL1
 go_wp2_with fail
 with_reducible refine (HOF.out _).mono ?_
 generalize fdOfByte q = F
 rintro z w2 ⟨b,cap,rfl,hfd,hb2⟩
 have HMEM:=Lib.hid hfd.mem
 have HFF : Hid (Ok F):=Lib.hid (ok_mem hfd.mem)
 have HSS : Hid (SL W (w2.alloc (.cells #[.int .i64 F.p,.int .i64 F.e,FM F b cap] 28)) w2.heap.size F b cap (.int .u8 (q : Nat)) (.slice aA A.length cA) (.slice aB B.length cB) (.slice aC C.length cC) (w2.alloc (.cells #[.int .i64 F.p,.int .i64 F.e,FM F b cap] 28))):=Lib.hid (by
  have ha : Below w2.heap.size w2 (w2.alloc (.cells #[.int .i64 F.p,.int .i64 F.e,FM F b cap] 28)):=(Below.refl _ _).alloc (Nat.le_refl _) _
  have hz:=HZ1.out
  have hs:=hb2.size
  exact ⟨⟨World.cell?_alloc_at _ _ _ _ rfl,World.cell?_alloc_at _ _ _ _ rfl,World.cell?_alloc_at _ _ _ _ rfl⟩,(HL1.out.keep hb2 (by omega)).keep ha (by omega),Lib.hid ((HB1.out.trans (hb2.mono HB1.out.size)).trans (ha.mono (by omega))),Lib.hid (Below.refl _ _),Lib.hid (hfd.below ha),Lib.hid (by simp; omega)⟩)
 clear hfd hb2 HB1 HL1 HZ1 HOF l0 l1 l2 l3
 obtain ⟨gF,hgF⟩ : ∃ gF,gF = w2.heap.size:=⟨_,rfl⟩
 rw [← hgF] at HSS
 have HGF:=Lib.hid hgF
 clear hgF
 go_upto_region 5 with (fail)
 rw [← HGF.out]
 generalize (w2.alloc (.cells #[.int .i64 F.p,.int .i64 F.e,FM F b cap] 28)) = w0 at *
 clear HGF
 have NA:=Lib.hid na
 have NB:=Lib.hid nb
 have NC:=Lib.hid nc
 have NZ':=Lib.hid nz
 have LZ:=Lib.hid lZ
 have hq1 : 1 < F.q:=HFF.out.one_lt
 have hq64 : F.q ≤ 64:=HFF.out.q64
 have hqz : ¬ F.q = 0:=by omega
 obtain ⟨v,hv⟩ : ∃ v,Hid (y % F.q = v):=⟨_,rfl⟩
 have HVQ : Hid (v < F.q):=Lib.hid (by rw [← hv.out]; exact Nat.mod_lt _ HFF.out.zero_lt)
 have hmod : ((y : Int)).tmod (F.q : Int) = (v : Int):=by rw [← hv.out,Int.tmod_eq_emod_of_nonneg (by omega)]; rfl
 have hmod2 : (y : Int) % (F.q : Int) = (v : Int):=by rw [← hv.out]; rfl
 have hwx : IntKind.i64.wrap (y : Int) = (y : Int):=IntWalk.i64_in _ (by omega)
 obtain ⟨LA,hLA⟩ : ∃ l,Hid (ofL F A 16 = l):=⟨_,rfl⟩
 obtain ⟨LB',hLB⟩ : ∃ l,Hid (ofL F B 16 = l):=⟨_,rfl⟩
 obtain ⟨LC,hLC⟩ : ∃ l,Hid (ofL F C 16 = l):=⟨_,rfl⟩
 have HIA : Hid (In F LA ∧ LA.length ≤ 16):=Lib.hid (by rw [← hLA.out]; exact ⟨ofL_in HFF.out A 16,ofL_len F A 16⟩)
 have HIB : Hid (In F LB' ∧ LB'.length ≤ 16):=Lib.hid (by rw [← hLB.out]; exact ⟨ofL_in HFF.out B 16,ofL_len F B 16⟩)
 have HIC : Hid (In F LC ∧ LC.length ≤ 16):=Lib.hid (by rw [← hLC.out]; exact ⟨ofL_in HFF.out C 16,ofL_len F C 16⟩)
 have HCA : Hid (∀ w,Below W.heap.size W w → Calls Try.prog 13 #[FV F b cap,.slice aA A.length cA,.int .i64 16] w (SlPost LA w)):=Lib.hid (fun w hw=>by rw [← hLA.out]; exact of04_c HFF.out hA rfl lA (by decide) (NA.out.below hw))
 have HCB : Hid (∀ w,Below W.heap.size W w → Calls Try.prog 13 #[FV F b cap,.slice aB B.length cB,.int .i64 16] w (SlPost LB' w)):=Lib.hid (fun w hw=>by rw [← hLB.out]; exact of04_c HFF.out hB rfl lB (by decide) (NB.out.below hw))
 have HCC : Hid (∀ w,Below W.heap.size W w → Calls Try.prog 13 #[FV F b cap,.slice aC C.length cC,.int .i64 16] w (SlPost LC w)):=Lib.hid (fun w hw=>by rw [← hLC.out]; exact of04_c HFF.out hC rfl lC (by decide) (NC.out.below hw))
 have hla : LA.length ≤ 16:=HIA.out.2
 have hlb : LB'.length ≤ 16:=HIB.out.2
 have hlc : LC.length ≤ 16:=HIC.out.2
 obtain ⟨Q,R,ec,hql,hrl,hd1,hd2⟩:=dm_both (b:=b) (cap:=cap) HFF.out HIA.out.1 HIB.out.1 (by omega) (by omega)
 have HD1:=Lib.hid hd1
 have HD2:=Lib.hid hd2
 have HQL:=Lib.hid hql
 have HRL:=Lib.hid hrl
 obtain ⟨P,ep,hpl,hi1,hi2⟩:=in_both (b:=b) (cap:=cap) HFF.out HIB.out.1 HIC.out.1 (by omega) (by omega)
 have HI1:=Lib.hid hi1
 have HI2:=Lib.hid hi2
 have HPL:=Lib.hid hpl
 obtain ⟨SU,HSU⟩ : ∃ l,Hid (addP F LA LB' = l):=⟨_,Lib.hid rfl⟩
 have HPS : Hid (PL F 16 SU):=Lib.hid (by
  rw [← HSU.out]
  have:=addP_len HFF.out LA LB'
  exact ⟨addP_po HFF.out HIA.out.1 HIB.out.1,by omega⟩)
 have HAD1 : Hid (∀ w,FldAt F b cap w → ∀ a c a' c',NN LA w (.slice a LA.length c) → NN LB' w (.slice a' LB'.length c') → Calls Try.prog 21 #[FV F b cap,.slice a LA.length c,.slice a' LB'.length c'] w (SlPost SU w)):=Lib.hid (fun w hw a c a' c' na nb=>by
  have h:=padd hw.ops HIA.out.1 HIB.out.1 (by omega) (by omega) rfl rfl na nb
  rw [addP_tr HFF.out HIA.out.1 HIB.out.1,HSU.out] at h
  exact h)
 have HAD2 : Hid (∀ w,FldAt F b cap w → ∀ a c a' c',NN LA w (.slice a LA.length c) → NN LB' w (.slice a' LB'.length c') → Calls Try.prog 22 #[FV F b cap,.slice a LA.length c,.slice a' LB'.length c'] w (SlPost SU w)):=Lib.hid (fun w hw a c a' c' na nb=>by
  have h:=radd_p hw HIA.out.1 HIB.out.1 (by omega) (by omega) na nb
  rw [HSU.out] at h
  exact h)
 obtain ⟨MU,HMU⟩ : ∃ l,Hid (mulP F LA LB' = l):=⟨_,Lib.hid rfl⟩
 have HPMU : Hid (PL F 32 MU):=Lib.hid (by
  rw [← HMU.out,← mulP_tr HFF.out HIA.out.1 HIB.out.1]
  have:=mulP_le HFF.out (Po.tr HIA.out.1) (Po.tr HIB.out.1)
  have:=trL_len LA
  have:=trL_len LB'
  exact ⟨mulP_po HFF.out _ _,by omega⟩)
 have HMU1 : Hid (∀ w,FldAt F b cap w → ∀ a c a' c',NN LA w (.slice a LA.length c) → NN LB' w (.slice a' LB'.length c') → Calls Try.prog 23 #[FV F b cap,.slice a LA.length c,.slice a' LB'.length c'] w (SlPost MU w)):=Lib.hid (fun w hw a c a' c' na nb=>by
  have h:=pmul hw.ops HIA.out.1 HIB.out.1 (by omega) (by omega) rfl rfl na nb
  rw [mulP_tr HFF.out HIA.out.1 HIB.out.1,HMU.out] at h
  exact h)
 have HMU2 : Hid (∀ w,FldAt F b cap w → ∀ a c a' c',NN LA w (.slice a LA.length c) → NN LB' w (.slice a' LB'.length c') → Calls Try.prog 24 #[FV F b cap,.slice a LA.length c,.slice a' LB'.length c'] w (SlPost MU w)):=Lib.hid (fun w hw a c a' c' na nb=>by
  have h:=rmulP hw HIA.out.1 HIB.out.1 (by omega) (by omega) na nb
  rw [HMU.out] at h
  exact h)
 obtain ⟨G,hG⟩:=gcd_exists HFF.out (Po.tr HIA.out.1) (Po.tr HIB.out.1)
 have HG:=Lib.hid hG
 have HPG : Hid (PL F 16 G):=Lib.hid ⟨hG.po,hG.len HFF.out (Nat.le_trans (trL_len LA) hla) (Nat.le_trans (trL_len LB') hlb)⟩
 have HGC1 : Hid (∀ w,FldAt F b cap w → ∀ a c a' c',NN LA w (.slice a LA.length c) → NN LB' w (.slice a' LB'.length c') → Calls Try.prog 25 #[FV F b cap,.slice a LA.length c,.slice a' LB'.length c'] w (SlPost G w)):=Lib.hid (fun w hw a c a' c' na nb=>(gcd_c hw.ops HIA.out.1 HIB.out.1 (by omega) (by omega) rfl rfl na nb).mono fun e w' ⟨G',x1,x2,h1,h2,h3,h4⟩=>by
  obtain rfl:=IsGcd.uniq HFF.out h3 HG.out
  exact ⟨x1,x2,h1,h2,h4.2⟩)
 have HGC2 : Hid (∀ w,FldAt F b cap w → ∀ a c a' c',NN LA w (.slice a LA.length c) → NN LB' w (.slice a' LB'.length c') → Calls Try.prog 26 #[FV F b cap,.slice a LA.length c,.slice a' LB'.length c'] w (SlPost G w)):=Lib.hid (fun w hw a c a' c' na nb=>(rgcd_p hw HIA.out.1 HIB.out.1 (by omega) (by omega) na nb).mono fun e w' ⟨G',hg,h⟩=>by
  obtain rfl:=IsGcd.uniq HFF.out hg HG.out
  exact h)
 have HSUL : Hid (SU.length ≤ 1000):=Lib.hid (Nat.le_trans HPS.out.2 (by decide))
 have HMUL : Hid (MU.length ≤ 1000):=Lib.hid (Nat.le_trans HPMU.out.2 (by decide))
 have HGL : Hid (G.length ≤ 1000):=Lib.hid (Nat.le_trans HPG.out.2 (by decide))
 obtain ⟨ev',HEV⟩ : ∃ x,Hid (ev F v LA = x):=⟨_,Lib.hid rfl⟩
 have HEV1 : Hid (∀ w,FldAt F b cap w → ∀ a c,NN LA w (.slice a LA.length c) → Calls Try.prog 27 #[FV F b cap,.slice a LA.length c,.int .i64 (v : Nat)] w fun e w'=>e = .returned (.int .i64 (ev' : Nat)) ∧ Below w.heap.size w w'):=Lib.hid (fun w hw a c na=>by
  have h:=eval_c hw.ops HIA.out.1 (by omega) rfl HVQ.out na
  rw [HEV.out] at h
  exact h)
 have HEV2 : Hid (∀ w,FldAt F b cap w → ∀ a c,NN LA w (.slice a LA.length c) → Calls Try.prog 28 #[FV F b cap,.slice a LA.length c,.int .i64 (v : Nat)] w fun e w'=>e = .returned (.int .i64 (ev' : Nat)) ∧ Below w.heap.size w w'):=Lib.hid (fun w hw a c na=>by
  have h:=reval_p hw HIA.out.1 (by omega) HVQ.out na
  rw [HEV.out] at h
  exact h)
 obtain ⟨RO,HRO⟩ : ∃ l,Hid (rootsTo F LA F.q = l):=⟨_,Lib.hid rfl⟩
 have HROL : Hid (RO.length ≤ 1000):=Lib.hid (by rw [← HRO.out]; exact Nat.le_trans (rootsTo_len F LA F.q) (by omega))
 have HRO1 : Hid (∀ w,FldAt F b cap w → ∀ a c,NN LA w (.slice a LA.length c) → Calls Try.prog 29 #[FV F b cap,.slice a LA.length c] w (SlPost RO w)):=Lib.hid (fun w hw a c na=>by
  have h:=roots_c hw.ops HIA.out.1 (by omega) rfl na
  rw [HRO.out] at h
  exact h)
 have HRO2 : Hid (∀ w,FldAt F b cap w → ∀ a c,NN LA w (.slice a LA.length c) → Calls Try.prog 30 #[FV F b cap,.slice a LA.length c] w (SlPost RO w)):=Lib.hid (fun w hw a c na=>by
  have h:=rroots_p hw HIA.out.1 (by omega) na
  rw [HRO.out] at h
  exact h)
 letI : OkC F:=⟨HFF.out⟩
 obtain ⟨MI,HMI⟩ : ∃ l,Hid (minL F v = l):=⟨_,Lib.hid rfl⟩
 have HPMI : Hid (Po F (minL F v)):=Lib.hid (lin_ok HFF.out (conjL F v) [1] ⟨In.cons HFF.out.one_lt In.nil,by simp [Cn]⟩).1
 have HMIL : Hid (MI.length ≤ 1000):=Lib.hid (by
  rw [← HMI.out]
  have h1:=(lin_ok HFF.out (conjL F v) [1] ⟨In.cons HFF.out.one_lt In.nil,by simp [Cn]⟩).2
  have h2:=conjTo_len F v F.e v
  have h3:=(ok_small HFF.out).2
  have h4 : (conjL F v).length ≤ F.e:=h2
  have h5 : (minL F v).length ≤ [1].length + (conjL F v).length:=h1
  simp at h5
  omega)
 have HMI1 : Hid (∀ w,FldAt F b cap w → Calls Try.prog 31 #[FV F b cap,.int .i64 (v : Nat)] w (SlPost MI w)):=Lib.hid (fun w hw=>by rw [← HMI.out]; exact minimal_c ⟨v,HVQ.out⟩ hw)
 have HMI2 : Hid (∀ w,FldAt F b cap w → Calls Try.prog 32 #[FV F b cap,.int .i64 (v : Nat)] w (SlPost MI w)):=Lib.hid (fun w hw=>by rw [← HMI.out]; exact rminimal_p hw HVQ.out HPMI.out)
 have hec : ((ec : Int) != (ec : Int)) = false:=by simp
 have hep : ((ep : Int) != (ep : Int)) = false:=by simp
 have hevv : ((ev' : Int) == (ev' : Int)) = true:=by simp
 clear na nb nc nz hA hB hC lA lB lC lZ hd1 hd2 hi1 hi2 hql hrl hpl hG
 refine Go.Rg.region_seq (S:=fun w'=>SL W w0 gF F b cap (.int .u8 (q : Nat)) (.slice aA A.length cA) (.slice aB B.length cB) (.slice aC C.length cC) w') (R:=fun w w'=>Below w.heap.size w w') (φ:=phi F b cap [.eq (FV F b cap),.eq (.int .i64 (F.q : Nat)),.eq (.int .i64 (F.q : Nat))]) (phi_mono _) (by kernel_rfl) (by kernel_rfl) (by rfl) (HSS.out) ?st1 ?fi1
 case st1 =>
  refine ⟨fun a w hat K hK=>?_,?_⟩
  ·have e8 : a.tmps[8]?.getD undef = .pointer (some ⟨gF,0,none⟩):=hat.b 8
   have hSt:=hat.st
   rw [if_pos (by rfl)]
   go_simp
   exact hK.out _ _ hSt (Below.refl _ _) rfl
  refine ⟨fun a w hat K hK=>?_,?_⟩
  ·have e30 : a.tmps[30]?.getD undef = FV F b cap:=hat.d 0 30
   have hSt:=hat.st
   rw [if_pos (by rfl)]
   go_simp
   go_at_call 12
   with_reducible refine (size_c HFF.out b cap w).mono ?_
   rintro z' v' ⟨rfl,hb⟩
   exact hK.out _ _ (SL.keep hSt hb) hb rfl
  refine ⟨mv fun a w hat=>hat.d 1 31,?_⟩
  exact trivial
 intro a w1 hsz hdf hbase hSt hval
 obtain ⟨t,df⟩:=a
 have et:=Go.Rg.tmps_of hsz [30,31,9] (fun k hk=>hbase k (Go.Rg.base_of (by kernel_rfl) hk))
 have x9 : t.getD 9 undef = .int .i64 (F.q : Nat):=hval 2 9 (by kernel_rfl)
 clear hval hbase hsz
 simp only [List.foldl_cons,List.foldl_nil,x9] at et
 rw [et]
 have hdf' : df = _:=hdf
 rw [hdf']
 simp only [List.setIfInBounds_toArray,List.set_cons_zero,List.set_cons_succ]
 clear et hdf hdf'
 generalize t.getD 30 undef = j30
 generalize t.getD 31 undef = j31
 have HS5:=Lib.hid hSt.start
 clear hSt
 go_upto_region 6 with (fail)
 refine Go.Rg.region_by (S:=fun w'=>SL W w1 gF F b cap (.int .u8 (q : Nat)) (.slice aA A.length cA) (.slice aB B.length cB) (.slice aC C.length cC) w') (R:=fun w w'=>Below w.heap.size w w') (φ:=phi F b cap [.eq (FV F b cap),.eq (.pointer (some ⟨W.heap.size,1,none⟩)),.eq (.slice aA A.length cA),.sl (LA),.eq (FV F b cap),.eq (.pointer (some ⟨W.heap.size,2,none⟩)),.eq (.slice aB B.length cB),.sl (LB'),.eq (FV F b cap),.eq (.pointer (some ⟨W.heap.size,3,none⟩)),.eq (.slice aC C.length cC),.sl (LC),.sl (LA),.sl (LB'),.sl (LC)]) (by kernel_rfl) (phi_mono _) (by kernel_rfl) (by kernel_rfl) (by rfl) (HS5.out.drew) (Go.Rg.steps_ok ?st2) ?fi2
 case st2 =>
  refine ⟨fun a w hat K hK=>?_,?_⟩
  ·have e8 : a.tmps[8]?.getD undef = .pointer (some ⟨gF,0,none⟩):=hat.b 8
   have hSt:=hat.st
   rw [if_pos (by rfl)]
   go_simp
   exact hK.out _ _ hSt (Below.refl _ _) rfl
  refine ⟨fun a w hat K hK=>?_,?_⟩
  ·have e3 : a.tmps[3]?.getD undef = .pointer (some ⟨W.heap.size,0,none⟩):=hat.b 3
   have hSt:=hat.st
   rw [if_pos (by rfl)]
   go_simp
   exact hK.out _ _ hSt (Below.refl _ _) rfl
  refine ⟨fun a w hat K hK=>?_,?_⟩
  ·have e33 : a.tmps[33]?.getD undef = .pointer (some ⟨W.heap.size,1,none⟩):=hat.d 1 33
   have hSt:=hat.st
   rw [if_pos (by rfl)]
   go_simp
   exact hK.out _ _ hSt (Below.refl _ _) rfl
  refine ⟨fun a w hat K hK=>?_,?_⟩
  ·have e32 : a.tmps[32]?.getD undef = FV F b cap:=hat.d 0 32
   have e34 : a.tmps[34]?.getD undef = .slice aA A.length cA:=hat.d 2 34
   have hSt:=hat.st
   rw [if_pos (by rfl)]
   go_simp
   go_at_call 13
   with_reducible refine (HCA.out _ hSt.2.2.1.out).mono ?_
   rintro z' v' ⟨a',c',rfl,hn',hb⟩
   exact hK.out _ _ (SL.keep hSt hb) hb ⟨a',c',rfl,hn'⟩
  refine ⟨fun a w hat K hK=>?_,?_⟩
  ·have e8 : a.tmps[8]?.getD undef = .pointer (some ⟨gF,0,none⟩):=hat.b 8
   have hSt:=hat.st
   rw [if_pos (by rfl)]
   go_simp
   exact hK.out _ _ hSt (Below.refl _ _) rfl
  refine ⟨fun a w hat K hK=>?_,?_⟩
  ·have e3 : a.tmps[3]?.getD undef = .pointer (some ⟨W.heap.size,0,none⟩):=hat.b 3
   have hSt:=hat.st
   rw [if_pos (by rfl)]
   go_simp
   exact hK.out _ _ hSt (Below.refl _ _) rfl
  refine ⟨fun a w hat K hK=>?_,?_⟩
  ·have e37 : a.tmps[37]?.getD undef = .pointer (some ⟨W.heap.size,2,none⟩):=hat.d 5 37
   have hSt:=hat.st
   rw [if_pos (by rfl)]
   go_simp
   exact hK.out _ _ hSt (Below.refl _ _) rfl
  refine ⟨fun a w hat K hK=>?_,?_⟩
  ·have e36 : a.tmps[36]?.getD undef = FV F b cap:=hat.d 4 36
   have e38 : a.tmps[38]?.getD undef = .slice aB B.length cB:=hat.d 6 38
   have hSt:=hat.st
   rw [if_pos (by rfl)]
   go_simp
   go_at_call 13
   with_reducible refine (HCB.out _ hSt.2.2.1.out).mono ?_
   rintro z' v' ⟨a',c',rfl,hn',hb⟩
   exact hK.out _ _ (SL.keep hSt hb) hb ⟨a',c',rfl,hn'⟩
  refine ⟨fun a w hat K hK=>?_,?_⟩
  ·have e8 : a.tmps[8]?.getD undef = .pointer (some ⟨gF,0,none⟩):=hat.b 8
   have hSt:=hat.st
   rw [if_pos (by rfl)]
   go_simp
   exact hK.out _ _ hSt (Below.refl _ _) rfl
  refine ⟨fun a w hat K hK=>?_,?_⟩
  ·have e3 : a.tmps[3]?.getD undef = .pointer (some ⟨W.heap.size,0,none⟩):=hat.b 3
   have hSt:=hat.st
   rw [if_pos (by rfl)]
   go_simp
   exact hK.out _ _ hSt (Below.refl _ _) rfl
  refine ⟨fun a w hat K hK=>?_,?_⟩
  ·have e41 : a.tmps[41]?.getD undef = .pointer (some ⟨W.heap.size,3,none⟩):=hat.d 9 41
   have hSt:=hat.st
   rw [if_pos (by rfl)]
   go_simp
   exact hK.out _ _ hSt (Below.refl _ _) rfl
  refine ⟨fun a w hat K hK=>?_,?_⟩
  ·have e40 : a.tmps[40]?.getD undef = FV F b cap:=hat.d 8 40
   have e42 : a.tmps[42]?.getD undef = .slice aC C.length cC:=hat.d 10 42
   have hSt:=hat.st
   rw [if_pos (by rfl)]
   go_simp
   go_at_call 13
   with_reducible refine (HCC.out _ hSt.2.2.1.out).mono ?_
   rintro z' v' ⟨a',c',rfl,hn',hb⟩
   exact hK.out _ _ (SL.keep hSt hb) hb ⟨a',c',rfl,hn'⟩
  refine ⟨mv fun a w hat=>hat.d 3 35,?_⟩
  refine ⟨mv fun a w hat=>hat.d 7 39,?_⟩
  refine ⟨mv fun a w hat=>hat.d 11 43,?_⟩
  exact trivial
 intro a w2 hsz hdf hbase hSt hval
 obtain ⟨t,df⟩:=a
 have et:=Go.Rg.tmps_of hsz [32,33,34,35,36,37,38,39,40,41,42,43,10,11,12] (fun k hk=>hbase k (Go.Rg.base_of (by kernel_rfl) hk))
 obtain ⟨p10,q10,x10,m10⟩:=(show (Kd.sl (LA)).ok F b cap (t.getD 10 undef) w2 from hval 12 10 (by kernel_rfl))
 obtain ⟨p11,q11,x11,m11⟩:=(show (Kd.sl (LB')).ok F b cap (t.getD 11 undef) w2 from hval 13 11 (by kernel_rfl))
 obtain ⟨p12,q12,x12,m12⟩:=(show (Kd.sl (LC)).ok F b cap (t.getD 12 undef) w2 from hval 14 12 (by kernel_rfl))
 clear hval hbase hsz
 simp only [List.foldl_cons,List.foldl_nil,x10,x11,x12] at et
 rw [et]
 have hdf' : df = _:=hdf
 rw [hdf']
 simp only [List.setIfInBounds_toArray,List.set_cons_zero,List.set_cons_succ]
 clear et hdf hdf'
 have HN2_10:=Lib.hid m10
 have HN2_11:=Lib.hid m11
 have HN2_12:=Lib.hid m12
 clear m10 m11 m12
 generalize t.getD 32 undef = j32
 generalize t.getD 33 undef = j33
 generalize t.getD 34 undef = j34
 generalize t.getD 35 undef = j35
 generalize t.getD 36 undef = j36
 generalize t.getD 37 undef = j37
 generalize t.getD 38 undef = j38
 generalize t.getD 39 undef = j39
 generalize t.getD 40 undef = j40
 generalize t.getD 41 undef = j41
 generalize t.getD 42 undef = j42
 generalize t.getD 43 undef = j43
 have HS6:=Lib.hid hSt.start
 clear hSt
 go_upto_region 7 with (fail)
 refine Go.Rg.region_seq (S:=fun w'=>SL W w2 gF F b cap (.int .u8 (q : Nat)) (.slice aA A.length cA) (.slice aB B.length cB) (.slice aC C.length cC) w') (R:=fun w w'=>Below w.heap.size w w') (φ:=phi F b cap [.eq (.int .u8 (y : Nat)),.eq (.int .i64 (y : Nat)),.eq (.int .i64 (F.q : Nat)),.eq (.int .i64 (v : Nat)),.eq (.int .i64 (v : Nat))]) (phi_mono _) (by kernel_rfl) (by kernel_rfl) (by rfl) (HS6.out) ?st3 ?fi3
 case st3 =>
  refine ⟨mv fun a w hat=>hat.b 2,?_⟩
  refine ⟨fun a w hat K hK=>?_,?_⟩
  ·have e44 : a.tmps[44]?.getD undef = .int .u8 (y : Nat):=hat.d 0 44
   have hSt:=hat.st
   rw [if_pos (by rfl)]
   go_simp
   exact hK.out _ _ hSt (Below.refl _ _) rfl
  refine ⟨mv fun a w hat=>hat.b 9,?_⟩
  refine ⟨fun a w hat K hK=>?_,?_⟩
  ·have e45 : a.tmps[45]?.getD undef = .int .i64 (y : Nat):=hat.d 1 45
   have e46 : a.tmps[46]?.getD undef = .int .i64 (F.q : Nat):=hat.d 2 46
   have hSt:=hat.st
   rw [if_pos (by rfl)]
   go_simp
   exact hK.out _ _ hSt (Below.refl _ _) rfl
  refine ⟨mv fun a w hat=>hat.d 3 47,?_⟩
  exact trivial
 intro a w3 hsz hdf hbase hSt hval
 obtain ⟨t,df⟩:=a
 have et:=Go.Rg.tmps_of hsz [44,45,46,47,13] (fun k hk=>hbase k (Go.Rg.base_of (by kernel_rfl) hk))
 have x13 : t.getD 13 undef = .int .i64 (v : Nat):=hval 4 13 (by kernel_rfl)
 clear hval hbase hsz
 simp only [List.foldl_cons,List.foldl_nil,x13] at et
 rw [et]
 have hdf' : df = _:=hdf
 rw [hdf']
 simp only [List.setIfInBounds_toArray,List.set_cons_zero,List.set_cons_succ]
 clear et hdf hdf'
 have HN3_10:=Lib.hid (HN2_10.out.below hSt.2.2.2.1.out)
 have HN3_11:=Lib.hid (HN2_11.out.below hSt.2.2.2.1.out)
 have HN3_12:=Lib.hid (HN2_12.out.below hSt.2.2.2.1.out)
 generalize t.getD 44 undef = j44
 generalize t.getD 45 undef = j45
 generalize t.getD 46 undef = j46
 generalize t.getD 47 undef = j47
 have HNA7:=Lib.hid HN3_10.out
 have HNB7:=Lib.hid HN3_11.out
 have HNC7:=Lib.hid HN3_12.out
 have HS7:=Lib.hid hSt.start
 have HZW:=Lib.hid (NZ'.out.below hSt.2.2.1.out)
 clear hSt
 by_cases hz60 : Z.length ≤ 60
 case' pos =>
  have hz60i : (Z.length : Int) ≤ 60:=by omega
  have HZL : Hid (Z.length ≤ 3000):=Lib.hid (by omega)
  go_wp2_with fail
  with_reducible refine (ptrim_i (by omega) rfl HZW.out).mono ?_
  rintro z u1 ⟨k1,hk1,a1,c1,rfl,hn,hb⟩
  obtain ⟨ZT,HZT⟩ : ∃ l,Hid (Z.take k1 = l):=⟨_,Lib.hid rfl⟩
  have HTL : Hid (ZT.length ≤ 100000):=Lib.hid (by rw [← HZT.out,List.length_take]; omega)
  rw [HZT.out] at hn ⊢
  have HK1:=Lib.hid hk1
  have HNZ1:=Lib.hid hn
  have HZW1:=Lib.hid (HZW.out.below hb)
  have HS1:=Lib.hid (SL.keep HS7.out hb)
  have HNA1:=Lib.hid (HNA7.out.below hb)
  have HNB1:=Lib.hid (HNB7.out.below hb)
  have HNC1:=Lib.hid (HNC7.out.below hb)
  clear hk1 hn hb HS7 HNA7 HNB7 HNC7 HZW
  go_wp2_with fail
  with_reducible refine (rtrim_i HZL.out rfl HZW1.out).mono ?_
  rintro z u2 ⟨k2,hk2,a2,c2,rfl,hn,hb⟩
  obtain rfl : k1 = k2:=HK1.out.uniq hk2
  rw [HZT.out] at hn ⊢
  have HNZ2:=Lib.hid hn
  have HNZ3:=Lib.hid (HNZ1.out.below hb)
  have HS2:=Lib.hid (SL.keep HS1.out hb)
  have HNA2:=Lib.hid (HNA1.out.below hb)
  have HNB2:=Lib.hid (HNB1.out.below hb)
  have HNC2:=Lib.hid (HNC1.out.below hb)
  clear hk2 hn hb HS1 HNA1 HNB1 HNC1 HZW1 HNZ1
  go_wp2_with fail
  with_reducible refine (ints_i HTL.out HNZ3.out HNZ2.out).mono ?_
  rintro z u3 ⟨rfl,hb⟩
  have HS8:=Lib.hid (SL.keep HS2.out hb)
  have HNA8:=Lib.hid (HNA2.out.below hb)
  have HNB8:=Lib.hid (HNB2.out.below hb)
  have HNC8:=Lib.hid (HNC2.out.below hb)
  clear hb HS2 HNA2 HNB2 HNC2 HNZ2 HNZ3
 case' neg =>
  have hz60i : ¬ (Z.length : Int) ≤ 60:=by omega
  have HS8:=HS7
  have HNA8:=HNA7
  have HNB8:=HNB7
  have HNC8:=HNC7
  clear HS7 HNA7 HNB7 HNC7
 all_goals
  obtain ⟨⟨f0,f1,f2⟩,-⟩:=HS8.out
  go_wp2_with fail
  with_reducible refine (HD1.out _ HS8.out.2.2.2.2.1.out _ _ _ _ HNA8.out HNB8.out).mono ?_
  rintro z wA ⟨aq,cq,ar,cr,rfl,hn,hn2,hb⟩
  have HNQ1:=Lib.hid hn
  have HNR1:=Lib.hid hn2
  have HSa:=Lib.hid (SL.keep HS8.out hb)
  have HNAa:=Lib.hid (HNA8.out.below hb)
  have HNBa:=Lib.hid (HNB8.out.below hb)
  have HNCa:=Lib.hid (HNC8.out.below hb)
  clear hn hn2 hb f0 f1 f2 HS8 HNA8 HNB8 HNC8
  obtain ⟨⟨f0,f1,f2⟩,-⟩:=HSa.out
  go_wp2_with fail
  with_reducible refine (HD2.out _ HSa.out.2.2.2.2.1.out _ _ _ _ HNAa.out HNBa.out).mono ?_
  rintro z wB ⟨aq2,cq2,ar2,cr2,rfl,hn,hn2,hb⟩
  have HNQ2:=Lib.hid hn
  have HNR2:=Lib.hid hn2
  have HNQ1b:=Lib.hid (HNQ1.out.below hb)
  have HNR1b:=Lib.hid (HNR1.out.below hb)
  have HSb:=Lib.hid (SL.keep HSa.out hb)
  have HNAb:=Lib.hid (HNAa.out.below hb)
  have HNBb:=Lib.hid (HNBa.out.below hb)
  have HNCb:=Lib.hid (HNCa.out.below hb)
  clear hn hn2 hb f0 f1 f2 HSa HNAa HNBa HNCa HNQ1 HNR1
  obtain ⟨⟨f0,f1,f2⟩,-⟩:=HSb.out
  go_wp2_with fail
  with_reducible refine (HI1.out _ HSb.out.2.2.2.2.1.out _ _ _ _ HNBb.out HNCb.out).mono ?_
  rintro z wC ⟨ap,cp,rfl,hn,hb⟩
  have HNP1:=Lib.hid hn
  have HNQ2c:=Lib.hid (HNQ2.out.below hb)
  have HNR2c:=Lib.hid (HNR2.out.below hb)
  have HNQ1c:=Lib.hid (HNQ1b.out.below hb)
  have HNR1c:=Lib.hid (HNR1b.out.below hb)
  have HSc:=Lib.hid (SL.keep HSb.out hb)
  have HNAc:=Lib.hid (HNAb.out.below hb)
  have HNBc:=Lib.hid (HNBb.out.below hb)
  have HNCc:=Lib.hid (HNCb.out.below hb)
  clear hn hb f0 f1 f2 HSb HNAb HNBb HNCb HNQ1b HNR1b HNQ2 HNR2
  obtain ⟨⟨f0,f1,f2⟩,-⟩:=HSc.out
  go_wp2_with fail
  with_reducible refine (HI2.out _ HSc.out.2.2.2.2.1.out _ _ _ _ HNBc.out HNCc.out).mono ?_
  rintro z wD ⟨ap2,cp2,rfl,hn,hb⟩
  have HNP2:=Lib.hid hn
  have HNP1d:=Lib.hid (HNP1.out.below hb)
  have HNQ2d:=Lib.hid (HNQ2c.out.below hb)
  have HNR2d:=Lib.hid (HNR2c.out.below hb)
  have HNQ1d:=Lib.hid (HNQ1c.out.below hb)
  have HNR1d:=Lib.hid (HNR1c.out.below hb)
  have HSd:=Lib.hid (SL.keep HSc.out hb)
  have HNAd:=Lib.hid (HNAc.out.below hb)
  have HNBd:=Lib.hid (HNBc.out.below hb)
  clear hn hb f0 f1 f2 HSc HNAc HNBc HNCc HNQ1c HNR1c HNQ2c HNR2c HNP1
  go_wp2_with fail
  with_reducible refine (ints_same HQL.out HNQ1d.out HNQ2d.out).mono ?_
  rintro z wE ⟨rfl,hb⟩
  have HNP1e:=Lib.hid (HNP1d.out.below hb)
  have HNP2e:=Lib.hid (HNP2.out.below hb)
  have HNR1e:=Lib.hid (HNR1d.out.below hb)
  have HNR2e:=Lib.hid (HNR2d.out.below hb)
  have HSe:=Lib.hid (SL.keep HSd.out hb)
  have HNAe:=Lib.hid (HNAd.out.below hb)
  have HNBe:=Lib.hid (HNBd.out.below hb)
  clear hb HSd HNAd HNBd HNQ1d HNR1d HNQ2d HNR2d HNP1d HNP2
  go_wp2_with fail
  with_reducible refine (ints_same HRL.out HNR1e.out HNR2e.out).mono ?_
  rintro z wF ⟨rfl,hb⟩
  have HNP1f:=Lib.hid (HNP1e.out.below hb)
  have HNP2f:=Lib.hid (HNP2e.out.below hb)
  have HSf:=Lib.hid (SL.keep HSe.out hb)
  have HNAf:=Lib.hid (HNAe.out.below hb)
  have HNBf:=Lib.hid (HNBe.out.below hb)
  clear hb HSe HNAe HNBe HNR1e HNR2e HNP1e HNP2e
  go_wp2_with fail
  with_reducible refine (ints_same HPL.out HNP1f.out HNP2f.out).mono ?_
  rintro z wG ⟨rfl,hb⟩
  have HSg:=Lib.hid (SL.keep HSf.out hb).start
  have HNAg:=Lib.hid (HNAf.out.below hb)
  have HNBg:=Lib.hid (HNBf.out.below hb)
  clear hb HSf HNAf HNBf HNP1f HNP2f
  go_upto_region 16 with (fail)
  refine Go.Rg.region_by (S:=fun w'=>SL W wG gF F b cap (.int .u8 (q : Nat)) (.slice aA A.length cA) (.slice aB B.length cB) (.slice aC C.length cC) w') (R:=fun w w'=>Below w.heap.size w w') (φ:=phi F b cap [.eq (FV F b cap),.sl (LA),.sl (LB'),.sl (SU),.eq (FV F b cap),.sl (LA),.sl (LB'),.sl (SU),.eq (.bool true),.eq (.bool true),.eq (FV F b cap),.sl (LA),.sl (LB'),.sl (MU),.eq (FV F b cap),.sl (LA),.sl (LB'),.sl (MU),.eq (.bool true),.eq (.bool true),.eq (.bool true),.eq (FV F b cap),.sl (LA),.sl (LB'),.sl (G),.eq (FV F b cap),.sl (LA),.sl (LB'),.sl (G),.eq (.bool true),.eq (.bool true),.eq (.bool true),.eq (FV F b cap),.sl (LA),.eq (.int .i64 (v : Nat)),.eq (.int .i64 (ev' : Nat)),.eq (FV F b cap),.sl (LA),.eq (.int .i64 (v : Nat)),.eq (.int .i64 (ev' : Nat)),.eq (.bool true),.eq (.bool true),.eq (.bool true),.eq (FV F b cap),.sl (LA),.sl (RO),.eq (FV F b cap),.sl (LA),.sl (RO),.eq (.bool true),.eq (.bool true),.eq (.bool true),.eq (FV F b cap),.eq (.int .i64 (v : Nat)),.sl (MI),.eq (FV F b cap),.eq (.int .i64 (v : Nat)),.sl (MI),.eq (.bool true),.eq (.bool true),.eq (.bool true),.eq (.bool true),.eq (.bool true),.eq (.bool true)]) (by kernel_rfl) (phi_mono _) (by kernel_rfl) (by kernel_rfl) (by rfl) (HSg.out.drew) (Go.Rg.steps_ok ?_) ?_
  ·
   refine ⟨fun a w hat K hK=>?_,?_⟩
   ·have e8 : a.tmps[8]?.getD undef = .pointer (some ⟨gF,0,none⟩):=hat.b 8
    have hSt:=hat.st
    rw [if_pos (by rfl)]
    go_simp
    exact hK.out _ _ hSt (Below.refl _ _) rfl
   refine ⟨mv fun a w hat=>⟨_,_,hat.b 10,(HNAg.out.below hat.st.2.2.2.1.out)⟩,?_⟩
   refine ⟨mv fun a w hat=>⟨_,_,hat.b 11,(HNBg.out.below hat.st.2.2.2.1.out)⟩,?_⟩
   refine ⟨fun a w hat K hK=>?_,?_⟩
   ·have e115 : a.tmps[115]?.getD undef = FV F b cap:=hat.d 0 115
    obtain ⟨a116,c116,e116,n116⟩:=(show (Kd.sl (LA)).ok F b cap (a.tmps[116]?.getD undef) w from hat.d 1 116)
    obtain ⟨a117,c117,e117,n117⟩:=(show (Kd.sl (LB')).ok F b cap (a.tmps[117]?.getD undef) w from hat.d 2 117)
    have hSt:=hat.st
    rw [if_pos (by rfl)]
    go_simp
    go_at_call 21
    with_reducible refine (HAD1.out _ hSt.2.2.2.2.1.out _ _ _ _ n116 n117).mono ?_
    rintro z' v' ⟨a',c',rfl,hn',hb⟩
    exact hK.out _ _ (SL.keep hSt hb) hb ⟨a',c',rfl,hn'⟩
   refine ⟨fun a w hat K hK=>?_,?_⟩
   ·have e8 : a.tmps[8]?.getD undef = .pointer (some ⟨gF,0,none⟩):=hat.b 8
    have hSt:=hat.st
    rw [if_pos (by rfl)]
    go_simp
    exact hK.out _ _ hSt (Below.refl _ _) rfl
   refine ⟨mv fun a w hat=>⟨_,_,hat.b 10,(HNAg.out.below hat.st.2.2.2.1.out)⟩,?_⟩
   refine ⟨mv fun a w hat=>⟨_,_,hat.b 11,(HNBg.out.below hat.st.2.2.2.1.out)⟩,?_⟩
   refine ⟨fun a w hat K hK=>?_,?_⟩
   ·have e119 : a.tmps[119]?.getD undef = FV F b cap:=hat.d 4 119
    obtain ⟨a120,c120,e120,n120⟩:=(show (Kd.sl (LA)).ok F b cap (a.tmps[120]?.getD undef) w from hat.d 5 120)
    obtain ⟨a121,c121,e121,n121⟩:=(show (Kd.sl (LB')).ok F b cap (a.tmps[121]?.getD undef) w from hat.d 6 121)
    have hSt:=hat.st
    rw [if_pos (by rfl)]
    go_simp
    go_at_call 22
    with_reducible refine (HAD2.out _ hSt.2.2.2.2.1.out _ _ _ _ n120 n121).mono ?_
    rintro z' v' ⟨a',c',rfl,hn',hb⟩
    exact hK.out _ _ (SL.keep hSt hb) hb ⟨a',c',rfl,hn'⟩
   refine ⟨fun a w hat K hK=>?_,?_⟩
   ·obtain ⟨a118,c118,e118,n118⟩:=(show (Kd.sl (SU)).ok F b cap (a.tmps[118]?.getD undef) w from hat.d 3 118)
    obtain ⟨a122,c122,e122,n122⟩:=(show (Kd.sl (SU)).ok F b cap (a.tmps[122]?.getD undef) w from hat.d 7 122)
    have hSt:=hat.st
    rw [if_pos (by rfl)]
    go_simp
    go_at_call 14
    with_reducible refine (ints_same HSUL.out n118 n122).mono ?_
    rintro z' v' ⟨rfl,hb⟩
    exact hK.out _ _ (SL.keep hSt hb) hb rfl
   refine ⟨mv fun a w hat=>hat.d 8 123,?_⟩
   refine ⟨fun a w hat K hK=>?_,?_⟩
   ·have e8 : a.tmps[8]?.getD undef = .pointer (some ⟨gF,0,none⟩):=hat.b 8
    have hSt:=hat.st
    rw [if_pos (wy hat 9 124 true)]
    go_simp
    exact hK.out _ _ hSt (Below.refl _ _) rfl
   refine ⟨mvg 9 124 true fun a w hat=>⟨_,_,hat.b 10,(HNAg.out.below hat.st.2.2.2.1.out)⟩,?_⟩
   refine ⟨mvg 9 124 true fun a w hat=>⟨_,_,hat.b 11,(HNBg.out.below hat.st.2.2.2.1.out)⟩,?_⟩
   refine ⟨fun a w hat K hK=>?_,?_⟩
   ·have e125 : a.tmps[125]?.getD undef = FV F b cap:=hat.d 10 125
    obtain ⟨a126,c126,e126,n126⟩:=(show (Kd.sl (LA)).ok F b cap (a.tmps[126]?.getD undef) w from hat.d 11 126)
    obtain ⟨a127,c127,e127,n127⟩:=(show (Kd.sl (LB')).ok F b cap (a.tmps[127]?.getD undef) w from hat.d 12 127)
    have hSt:=hat.st
    rw [if_pos (wy hat 9 124 true)]
    go_simp
    go_at_call 23
    with_reducible refine (HMU1.out _ hSt.2.2.2.2.1.out _ _ _ _ n126 n127).mono ?_
    rintro z' v' ⟨a',c',rfl,hn',hb⟩
    exact hK.out _ _ (SL.keep hSt hb) hb ⟨a',c',rfl,hn'⟩
   refine ⟨fun a w hat K hK=>?_,?_⟩
   ·have e8 : a.tmps[8]?.getD undef = .pointer (some ⟨gF,0,none⟩):=hat.b 8
    have hSt:=hat.st
    rw [if_pos (wy hat 9 124 true)]
    go_simp
    exact hK.out _ _ hSt (Below.refl _ _) rfl
   refine ⟨mvg 9 124 true fun a w hat=>⟨_,_,hat.b 10,(HNAg.out.below hat.st.2.2.2.1.out)⟩,?_⟩
   refine ⟨mvg 9 124 true fun a w hat=>⟨_,_,hat.b 11,(HNBg.out.below hat.st.2.2.2.1.out)⟩,?_⟩
   refine ⟨fun a w hat K hK=>?_,?_⟩
   ·have e129 : a.tmps[129]?.getD undef = FV F b cap:=hat.d 14 129
    obtain ⟨a130,c130,e130,n130⟩:=(show (Kd.sl (LA)).ok F b cap (a.tmps[130]?.getD undef) w from hat.d 15 130)
    obtain ⟨a131,c131,e131,n131⟩:=(show (Kd.sl (LB')).ok F b cap (a.tmps[131]?.getD undef) w from hat.d 16 131)
    have hSt:=hat.st
    rw [if_pos (wy hat 9 124 true)]
    go_simp
    go_at_call 24
    with_reducible refine (HMU2.out _ hSt.2.2.2.2.1.out _ _ _ _ n130 n131).mono ?_
    rintro z' v' ⟨a',c',rfl,hn',hb⟩
    exact hK.out _ _ (SL.keep hSt hb) hb ⟨a',c',rfl,hn'⟩
   refine ⟨fun a w hat K hK=>?_,?_⟩
   ·obtain ⟨a128,c128,e128,n128⟩:=(show (Kd.sl (MU)).ok F b cap (a.tmps[128]?.getD undef) w from hat.d 13 128)
    obtain ⟨a132,c132,e132,n132⟩:=(show (Kd.sl (MU)).ok F b cap (a.tmps[132]?.getD undef) w from hat.d 17 132)
    have hSt:=hat.st
    rw [if_pos (wy hat 9 124 true)]
    go_simp
    go_at_call 14
    with_reducible refine (ints_same HMUL.out n128 n132).mono ?_
    rintro z' v' ⟨rfl,hb⟩
    exact hK.out _ _ (SL.keep hSt hb) hb rfl
   refine ⟨fun a w hat K hK=>?_,?_⟩
   ·have e124 : a.tmps[124]?.getD undef = .bool true:=hat.d 9 124
    have e133 : a.tmps[133]?.getD undef = .bool true:=hat.d 18 133
    have hSt:=hat.st
    rw [if_pos (by rfl)]
    go_simp
    exact hK.out _ _ hSt (Below.refl _ _) rfl
   refine ⟨mv fun a w hat=>hat.d 19 134,?_⟩
   refine ⟨fun a w hat K hK=>?_,?_⟩
   ·have e8 : a.tmps[8]?.getD undef = .pointer (some ⟨gF,0,none⟩):=hat.b 8
    have hSt:=hat.st
    rw [if_pos (wy hat 20 135 true)]
    go_simp
    exact hK.out _ _ hSt (Below.refl _ _) rfl
   refine ⟨mvg 20 135 true fun a w hat=>⟨_,_,hat.b 10,(HNAg.out.below hat.st.2.2.2.1.out)⟩,?_⟩
   refine ⟨mvg 20 135 true fun a w hat=>⟨_,_,hat.b 11,(HNBg.out.below hat.st.2.2.2.1.out)⟩,?_⟩
   refine ⟨fun a w hat K hK=>?_,?_⟩
   ·have e136 : a.tmps[136]?.getD undef = FV F b cap:=hat.d 21 136
    obtain ⟨a137,c137,e137,n137⟩:=(show (Kd.sl (LA)).ok F b cap (a.tmps[137]?.getD undef) w from hat.d 22 137)
    obtain ⟨a138,c138,e138,n138⟩:=(show (Kd.sl (LB')).ok F b cap (a.tmps[138]?.getD undef) w from hat.d 23 138)
    have hSt:=hat.st
    rw [if_pos (wy hat 20 135 true)]
    go_simp
    go_at_call 25
    with_reducible refine (HGC1.out _ hSt.2.2.2.2.1.out _ _ _ _ n137 n138).mono ?_
    rintro z' v' ⟨a',c',rfl,hn',hb⟩
    exact hK.out _ _ (SL.keep hSt hb) hb ⟨a',c',rfl,hn'⟩
   refine ⟨fun a w hat K hK=>?_,?_⟩
   ·have e8 : a.tmps[8]?.getD undef = .pointer (some ⟨gF,0,none⟩):=hat.b 8
    have hSt:=hat.st
    rw [if_pos (wy hat 20 135 true)]
    go_simp
    exact hK.out _ _ hSt (Below.refl _ _) rfl
   refine ⟨mvg 20 135 true fun a w hat=>⟨_,_,hat.b 10,(HNAg.out.below hat.st.2.2.2.1.out)⟩,?_⟩
   refine ⟨mvg 20 135 true fun a w hat=>⟨_,_,hat.b 11,(HNBg.out.below hat.st.2.2.2.1.out)⟩,?_⟩
   refine ⟨fun a w hat K hK=>?_,?_⟩
   ·have e140 : a.tmps[140]?.getD undef = FV F b cap:=hat.d 25 140
    obtain ⟨a141,c141,e141,n141⟩:=(show (Kd.sl (LA)).ok F b cap (a.tmps[141]?.getD undef) w from hat.d 26 141)
    obtain ⟨a142,c142,e142,n142⟩:=(show (Kd.sl (LB')).ok F b cap (a.tmps[142]?.getD undef) w from hat.d 27 142)
    have hSt:=hat.st
    rw [if_pos (wy hat 20 135 true)]
    go_simp
    go_at_call 26
    with_reducible refine (HGC2.out _ hSt.2.2.2.2.1.out _ _ _ _ n141 n142).mono ?_
    rintro z' v' ⟨a',c',rfl,hn',hb⟩
    exact hK.out _ _ (SL.keep hSt hb) hb ⟨a',c',rfl,hn'⟩
   refine ⟨fun a w hat K hK=>?_,?_⟩
   ·obtain ⟨a139,c139,e139,n139⟩:=(show (Kd.sl (G)).ok F b cap (a.tmps[139]?.getD undef) w from hat.d 24 139)
    obtain ⟨a143,c143,e143,n143⟩:=(show (Kd.sl (G)).ok F b cap (a.tmps[143]?.getD undef) w from hat.d 28 143)
    have hSt:=hat.st
    rw [if_pos (wy hat 20 135 true)]
    go_simp
    go_at_call 14
    with_reducible refine (ints_same HGL.out n139 n143).mono ?_
    rintro z' v' ⟨rfl,hb⟩
    exact hK.out _ _ (SL.keep hSt hb) hb rfl
   refine ⟨fun a w hat K hK=>?_,?_⟩
   ·have e135 : a.tmps[135]?.getD undef = .bool true:=hat.d 20 135
    have e144 : a.tmps[144]?.getD undef = .bool true:=hat.d 29 144
    have hSt:=hat.st
    rw [if_pos (by rfl)]
    go_simp
    exact hK.out _ _ hSt (Below.refl _ _) rfl
   refine ⟨mv fun a w hat=>hat.d 30 145,?_⟩
   refine ⟨fun a w hat K hK=>?_,?_⟩
   ·have e8 : a.tmps[8]?.getD undef = .pointer (some ⟨gF,0,none⟩):=hat.b 8
    have hSt:=hat.st
    rw [if_pos (wy hat 31 146 true)]
    go_simp
    exact hK.out _ _ hSt (Below.refl _ _) rfl
   refine ⟨mvg 31 146 true fun a w hat=>⟨_,_,hat.b 10,(HNAg.out.below hat.st.2.2.2.1.out)⟩,?_⟩
   refine ⟨mvg 31 146 true fun a w hat=>hat.b 13,?_⟩
   refine ⟨fun a w hat K hK=>?_,?_⟩
   ·have e147 : a.tmps[147]?.getD undef = FV F b cap:=hat.d 32 147
    obtain ⟨a148,c148,e148,n148⟩:=(show (Kd.sl (LA)).ok F b cap (a.tmps[148]?.getD undef) w from hat.d 33 148)
    have e149 : a.tmps[149]?.getD undef = .int .i64 (v : Nat):=hat.d 34 149
    have hSt:=hat.st
    rw [if_pos (wy hat 31 146 true)]
    go_simp
    go_at_call 27
    with_reducible refine (HEV1.out _ hSt.2.2.2.2.1.out _ _ n148).mono ?_
    rintro z' v' ⟨rfl,hb⟩
    exact hK.out _ _ (SL.keep hSt hb) hb rfl
   refine ⟨fun a w hat K hK=>?_,?_⟩
   ·have e8 : a.tmps[8]?.getD undef = .pointer (some ⟨gF,0,none⟩):=hat.b 8
    have hSt:=hat.st
    rw [if_pos (wy hat 31 146 true)]
    go_simp
    exact hK.out _ _ hSt (Below.refl _ _) rfl
   refine ⟨mvg 31 146 true fun a w hat=>⟨_,_,hat.b 10,(HNAg.out.below hat.st.2.2.2.1.out)⟩,?_⟩
   refine ⟨mvg 31 146 true fun a w hat=>hat.b 13,?_⟩
   refine ⟨fun a w hat K hK=>?_,?_⟩
   ·have e151 : a.tmps[151]?.getD undef = FV F b cap:=hat.d 36 151
    obtain ⟨a152,c152,e152,n152⟩:=(show (Kd.sl (LA)).ok F b cap (a.tmps[152]?.getD undef) w from hat.d 37 152)
    have e153 : a.tmps[153]?.getD undef = .int .i64 (v : Nat):=hat.d 38 153
    have hSt:=hat.st
    rw [if_pos (wy hat 31 146 true)]
    go_simp
    go_at_call 28
    with_reducible refine (HEV2.out _ hSt.2.2.2.2.1.out _ _ n152).mono ?_
    rintro z' v' ⟨rfl,hb⟩
    exact hK.out _ _ (SL.keep hSt hb) hb rfl
   refine ⟨fun a w hat K hK=>?_,?_⟩
   ·have e150 : a.tmps[150]?.getD undef = .int .i64 (ev' : Nat):=hat.d 35 150
    have e154 : a.tmps[154]?.getD undef = .int .i64 (ev' : Nat):=hat.d 39 154
    have hSt:=hat.st
    rw [if_pos (wy hat 31 146 true)]
    go_simp
    exact hK.out _ _ hSt (Below.refl _ _) rfl
   refine ⟨fun a w hat K hK=>?_,?_⟩
   ·have e146 : a.tmps[146]?.getD undef = .bool true:=hat.d 31 146
    have e155 : a.tmps[155]?.getD undef = .bool true:=hat.d 40 155
    have hSt:=hat.st
    rw [if_pos (by rfl)]
    go_simp
    exact hK.out _ _ hSt (Below.refl _ _) rfl
   refine ⟨mv fun a w hat=>hat.d 41 156,?_⟩
   refine ⟨fun a w hat K hK=>?_,?_⟩
   ·have e8 : a.tmps[8]?.getD undef = .pointer (some ⟨gF,0,none⟩):=hat.b 8
    have hSt:=hat.st
    rw [if_pos (wy hat 42 157 true)]
    go_simp
    exact hK.out _ _ hSt (Below.refl _ _) rfl
   refine ⟨mvg 42 157 true fun a w hat=>⟨_,_,hat.b 10,(HNAg.out.below hat.st.2.2.2.1.out)⟩,?_⟩
   refine ⟨fun a w hat K hK=>?_,?_⟩
   ·have e158 : a.tmps[158]?.getD undef = FV F b cap:=hat.d 43 158
    obtain ⟨a159,c159,e159,n159⟩:=(show (Kd.sl (LA)).ok F b cap (a.tmps[159]?.getD undef) w from hat.d 44 159)
    have hSt:=hat.st
    rw [if_pos (wy hat 42 157 true)]
    go_simp
    go_at_call 29
    with_reducible refine (HRO1.out _ hSt.2.2.2.2.1.out _ _ n159).mono ?_
    rintro z' v' ⟨a',c',rfl,hn',hb⟩
    exact hK.out _ _ (SL.keep hSt hb) hb ⟨a',c',rfl,hn'⟩
   refine ⟨fun a w hat K hK=>?_,?_⟩
   ·have e8 : a.tmps[8]?.getD undef = .pointer (some ⟨gF,0,none⟩):=hat.b 8
    have hSt:=hat.st
    rw [if_pos (wy hat 42 157 true)]
    go_simp
    exact hK.out _ _ hSt (Below.refl _ _) rfl
   refine ⟨mvg 42 157 true fun a w hat=>⟨_,_,hat.b 10,(HNAg.out.below hat.st.2.2.2.1.out)⟩,?_⟩
   refine ⟨fun a w hat K hK=>?_,?_⟩
   ·have e161 : a.tmps[161]?.getD undef = FV F b cap:=hat.d 46 161
    obtain ⟨a162,c162,e162,n162⟩:=(show (Kd.sl (LA)).ok F b cap (a.tmps[162]?.getD undef) w from hat.d 47 162)
    have hSt:=hat.st
    rw [if_pos (wy hat 42 157 true)]
    go_simp
    go_at_call 30
    with_reducible refine (HRO2.out _ hSt.2.2.2.2.1.out _ _ n162).mono ?_
    rintro z' v' ⟨a',c',rfl,hn',hb⟩
    exact hK.out _ _ (SL.keep hSt hb) hb ⟨a',c',rfl,hn'⟩
   refine ⟨fun a w hat K hK=>?_,?_⟩
   ·obtain ⟨a160,c160,e160,n160⟩:=(show (Kd.sl (RO)).ok F b cap (a.tmps[160]?.getD undef) w from hat.d 45 160)
    obtain ⟨a163,c163,e163,n163⟩:=(show (Kd.sl (RO)).ok F b cap (a.tmps[163]?.getD undef) w from hat.d 48 163)
    have hSt:=hat.st
    rw [if_pos (wy hat 42 157 true)]
    go_simp
    go_at_call 14
    with_reducible refine (ints_same HROL.out n160 n163).mono ?_
    rintro z' v' ⟨rfl,hb⟩
    exact hK.out _ _ (SL.keep hSt hb) hb rfl
   refine ⟨fun a w hat K hK=>?_,?_⟩
   ·have e157 : a.tmps[157]?.getD undef = .bool true:=hat.d 42 157
    have e164 : a.tmps[164]?.getD undef = .bool true:=hat.d 49 164
    have hSt:=hat.st
    rw [if_pos (by rfl)]
    go_simp
    exact hK.out _ _ hSt (Below.refl _ _) rfl
   refine ⟨mv fun a w hat=>hat.d 50 165,?_⟩
   refine ⟨fun a w hat K hK=>?_,?_⟩
   ·have e8 : a.tmps[8]?.getD undef = .pointer (some ⟨gF,0,none⟩):=hat.b 8
    have hSt:=hat.st
    rw [if_pos (wy hat 51 166 true)]
    go_simp
    exact hK.out _ _ hSt (Below.refl _ _) rfl
   refine ⟨mvg 51 166 true fun a w hat=>hat.b 13,?_⟩
   refine ⟨fun a w hat K hK=>?_,?_⟩
   ·have e167 : a.tmps[167]?.getD undef = FV F b cap:=hat.d 52 167
    have e168 : a.tmps[168]?.getD undef = .int .i64 (v : Nat):=hat.d 53 168
    have hSt:=hat.st
    rw [if_pos (wy hat 51 166 true)]
    go_simp
    go_at_call 31
    with_reducible refine (HMI1.out _ hSt.2.2.2.2.1.out).mono ?_
    rintro z' v' ⟨a',c',rfl,hn',hb⟩
    exact hK.out _ _ (SL.keep hSt hb) hb ⟨a',c',rfl,hn'⟩
   refine ⟨fun a w hat K hK=>?_,?_⟩
   ·have e8 : a.tmps[8]?.getD undef = .pointer (some ⟨gF,0,none⟩):=hat.b 8
    have hSt:=hat.st
    rw [if_pos (wy hat 51 166 true)]
    go_simp
    exact hK.out _ _ hSt (Below.refl _ _) rfl
   refine ⟨mvg 51 166 true fun a w hat=>hat.b 13,?_⟩
   refine ⟨fun a w hat K hK=>?_,?_⟩
   ·have e170 : a.tmps[170]?.getD undef = FV F b cap:=hat.d 55 170
    have e171 : a.tmps[171]?.getD undef = .int .i64 (v : Nat):=hat.d 56 171
    have hSt:=hat.st
    rw [if_pos (wy hat 51 166 true)]
    go_simp
    go_at_call 32
    with_reducible refine (HMI2.out _ hSt.2.2.2.2.1.out).mono ?_
    rintro z' v' ⟨a',c',rfl,hn',hb⟩
    exact hK.out _ _ (SL.keep hSt hb) hb ⟨a',c',rfl,hn'⟩
   refine ⟨fun a w hat K hK=>?_,?_⟩
   ·obtain ⟨a169,c169,e169,n169⟩:=(show (Kd.sl (MI)).ok F b cap (a.tmps[169]?.getD undef) w from hat.d 54 169)
    obtain ⟨a172,c172,e172,n172⟩:=(show (Kd.sl (MI)).ok F b cap (a.tmps[172]?.getD undef) w from hat.d 57 172)
    have hSt:=hat.st
    rw [if_pos (wy hat 51 166 true)]
    go_simp
    go_at_call 14
    with_reducible refine (ints_same HMIL.out n169 n172).mono ?_
    rintro z' v' ⟨rfl,hb⟩
    exact hK.out _ _ (SL.keep hSt hb) hb rfl
   refine ⟨fun a w hat K hK=>?_,?_⟩
   ·have e166 : a.tmps[166]?.getD undef = .bool true:=hat.d 51 166
    have e173 : a.tmps[173]?.getD undef = .bool true:=hat.d 58 173
    have hSt:=hat.st
    rw [if_pos (by rfl)]
    go_simp
    exact hK.out _ _ hSt (Below.refl _ _) rfl
   refine ⟨mv fun a w hat=>hat.d 59 174,?_⟩
   refine ⟨mvg 60 175 true fun a w hat=>hat.b 7,?_⟩
   refine ⟨fun a w hat K hK=>?_,?_⟩
   ·have e175 : a.tmps[175]?.getD undef = .bool true:=hat.d 60 175
    have e176 : a.tmps[176]?.getD undef = .bool true:=hat.d 61 176
    have hSt:=hat.st
    rw [if_pos (by rfl)]
    go_simp
    exact hK.out _ _ hSt (Below.refl _ _) rfl
   refine ⟨mv fun a w hat=>hat.d 62 177,?_⟩
   exact trivial
  intro a w31 hsz hdf hbase hSt hval
  obtain ⟨t,df⟩:=a
  have et:=Go.Rg.tmps_of hsz [115,116,117,118,119,120,121,122,123,124,125,126,127,128,129,130,131,132,133,134,135,136,137,138,139,140,141,142,143,144,145,146,147,148,149,150,151,152,153,154,155,156,157,158,159,160,161,162,163,164,165,166,167,168,169,170,171,172,173,174,175,176,177,6] (fun k hk=>hbase k (Go.Rg.base_of (by kernel_rfl) hk))
  have x6 : t.getD 6 undef = .bool true:=hval 63 6 (by kernel_rfl)
  clear hval hbase hsz
  simp only [List.foldl_cons,List.foldl_nil,x6] at et
  rw [et]
  have hdf' : df = _:=hdf
  rw [hdf']
  simp only [List.setIfInBounds_toArray,List.set_cons_zero,List.set_cons_succ]
  clear et hdf hdf'
  have HN31_10:=Lib.hid (HNAg.out.below hSt.2.2.2.1.out)
  have HN31_11:=Lib.hid (HNBg.out.below hSt.2.2.2.1.out)
  have HBF:=Lib.hid hSt.2.2.1.out
  clear hSt
  go_wp2
  go_ret
  exact ⟨rfl,HBF.out⟩
end Go.Proofs.Ytllecfhfhcmpaaa
/-
  For every value of type Lists, every []int and every byte the law PolyMatchesReference answers true and leaves them as they were: no condition.
-/
namespace Go.Proofs.Ytllecfhfhcmpaaa.polyMatchesReference
open Go.ChangeShapes Go.WideShapes Go.ChangeAt Go.RowKit
set_option linter.unusedVariables false      -- a walk need not use every 'w<i>' (that an integer argument fits its kind)
/-! ### STEP 1: the law: matches_law -/
theorem u25 : Try.prog.underlying 25 = some (.slice 3):=by kernel_rfl
theorem u3 : Try.prog.underlying 3 = some (.int .i64):=by kernel_rfl
theorem cl3 : Try.prog.cellsOf 3 = 1:=by kernel_rfl
/-- a list of ints as the law wants it, and as it reads when the law has answered -/
structure ArgZ {H : Type} (enc : TypeId × Value → H) (W : World) (v : Value) (d : DataW H) (p : List MemPlace) (Z : List Int) (a : Option Addr) (c : Nat) : Prop where
 is : v = .slice a Z.length c
 len : Z.length ≤ maxLen
 given : NI Z W (.slice a Z.length c)
 shut : ∀ W',Below W.heap.size W W' → ∀ sp : Nat → Bool,(∀ q ∈ p,sp q.block = true) → DataW.Trod enc Try.prog W' 0 sp true 25 v d p
theorem argZ {H : Type} {enc : TypeId × Value → H} {W : World} {b0 : Nat} {v : Value} {d : DataW H} {p : List MemPlace}
  (hv : Value.okWide Try.prog W .any b0 25 v) (h : DataW.Trod enc Try.prog W 0 (fun _=>true) true 25 v d p) : ∃ Z a c,ArgZ enc W v d p Z a c:=by
 rcases Go.Ev.open_sl u25 u3 cl3 hv h with ⟨rfl,rfl,rfl⟩ | ⟨b,off,len,cap,zs,rfl,hb,hl,hm,hz,rfl,rfl,hcell,hw,c,e',fz,hh,hcs⟩
 ·exact ⟨[],none,0,rfl,by simp,.inl ⟨rfl,rfl⟩,fun W' _ sp _=>Go.Ev.shut_nil u25⟩
 ·have hlen : (zs.take len).length = len:=by rw [List.length_take]; omega
  refine ⟨zs.take len,some ⟨b,off,none⟩,cap,by rw [hlen],by rw [hlen]; omega,.inr ⟨b,off,cap,rfl,by rw [hlen]; exact hl,hb,fun t ht=>?_⟩,fun W' hg sp hsp=>Go.Ev.shut_sl u25 u3 cl3 hb hl hm hz hcell hw hg hsp⟩
  rw [hlen] at ht
  rw [hcell t (by omega)]
  have e1 : zs.getD t 0 = (zs.take len).getD t 0:=by
   simp [List.getD,List.getElem?_take_of_lt ht]
  rw [e1]
/-! ### THE ROW's STEP: WRITTEN OUT: LEAVE IT -/
set_option maxRecDepth 100000 in
theorem lifted (os : Os) (started : os.Started) (H : Type) (enc : TypeId × Value → H) :
  ReturnsInHanded {} Try.checked os 3 .any (Rows.polyMatchesReferenceSpec.pre6 enc Try.prog Try.f3 Rows.polyMatchesReferenceRow.domain false) (Rows.polyMatchesReferenceSpec.post enc Try.prog Try.f3 false true false false):=by
 refine returnsInHanded_of_change (C:=Try.checked) own started (by kernel_rfl) Try.func3
  (ChangeSpec.witness6 (enc:=enc) (C:=Try.checked) false ⟨#[],#[.agg #[.int .u8 0,.slice none 0 0,.slice none 0 0,.slice none 0 0],.slice none 0 0,.int .u8 0],[]⟩ 8 (by kernel_rfl) (by kernel_rfl) (by kernel_rfl) (by kernel_rfl)) ?_
 intro W base args ds gs before hval0 hW hcnd _
 letI : Go.Ev.Rho:=Go.Ev.rhoN (fun _=>0)
 have hval : ∀ (j : Nat) t v,Try.f3.params[j]? = some t → args[j]? = some v → Value.okWide Try.prog W .any base t v:=hval0
 have hW':=hW
 obtain ⟨p,q,hA0,hV,rfl,hfz,hnd⟩:=hW
 have hA : DataW.TrodAll enc Try.prog W 0 (fun _=>true) true Try.f3.params.toList args.toList ds p:=hA0
 rw [Try.params3] at hA hval
 obtain ⟨v0,vs0,d0,ds0,p0,q0,hargs,rfl,rfl,h0,r0⟩:=trodAll_cons hA
 obtain ⟨v1,vs1,d1,ds1,p1,q1,e1,rfl,rfl,h1,r1⟩:=trodAll_cons r0
 obtain ⟨v2,vs2,d2,ds2,p2,q2,e2,rfl,rfl,h2,r2⟩:=trodAll_cons r1
 obtain ⟨rfl,rfl,rfl⟩:=trodAll_nil r2
 subst e2
 subst e1
 obtain rfl : args = #[v0,v1,v2]:=by cases args; simp_all
 obtain ⟨rfl,rfl⟩:=trodVars_none hV
 obtain ⟨z,va,vb,vc,da,db,dc,pa,pb,pc,rfl,rfl,rfl,w0,⟨hva,hta⟩,⟨hvb,htb⟩,⟨hvc,htc⟩⟩:=open_lists (hval 0 24 v0 rfl rfl) h0
 obtain ⟨A,aA,cA,XA⟩:=argB hva hta
 obtain ⟨B,aB,cB,XB⟩:=argB hvb htb
 obtain ⟨C,aC,cC,XC⟩:=argB hvc htc
 have sa : va.cells.toList = [va]:=by rw [XA.is]; rfl
 have sb : vb.cells.toList = [vb]:=by rw [XB.is]; rfl
 have sc : vc.cells.toList = [vc]:=by rw [XC.is]; rfl
 obtain ⟨zn,hz,hzn⟩:=bd8 w0
 obtain ⟨Z,aZ,cZ,XZ⟩:=argZ (hval 1 25 v1 rfl rfl) h1
 obtain ⟨a2,rfl,rfl,rfl,w2⟩:=open_int u5 (hval 2 5 v2 rfl rfl) h2
 obtain ⟨yn,hy,hyn⟩:=bd8 w2
 clear hA0 hval0
 have key : Calls Try.prog 3 #[.agg #[.int .u8 z,va,vb,vc],v1,.int .u8 a2] W fun e w'=>e = .returned (.bool true) ∧ Below W.heap.size W w':=by
  rw [XA.is,XB.is,XC.is,XZ.is,hz,hy]
  exact matches_law hzn hyn XA.by' XB.by' XC.by' XA.len XB.len XC.len XZ.len XA.given XB.given XC.given XZ.given
 refine key.mono fun e W' ⟨he,hg⟩=>?_
 subst he
 refine ⟨_,rfl,Go.Ev.post_low (pa:=(pa ++ (pb ++ pc)) ++ (p1 ++ ([] ++ []))) (pv:=[]) hW' (fun _ _ _=>(trodAll_cons_mk (shut_bool Try.underlying4 _) trodAll_mk0))
  (fun sp hsp=>(trodAll_cons_mk (shut_lists w0 sa sb sc (XA.shut W' hg sp (fun q hq=>hsp q (by simp [hq]))) (XB.shut W' hg sp (fun q hq=>hsp q (by simp [hq]))) (XC.shut W' hg sp (fun q hq=>hsp q (by simp [hq])))) (trodAll_cons_mk (XZ.shut W' hg sp (fun q hq=>hsp q (by simp [hq]))) (trodAll_cons_mk (shut_int u5 w2) trodAll_mk0)))) (fun _ _=>rfl) rfl
  hg (ok_one (by kernel_rfl) rfl (okWide_bool_mk Try.underlying4 _))⟩
theorem over : Rows.polyMatchesReferenceRow.holds Try.pinned (OpenSpec.ofChange Rows.polyMatchesReferenceSpec):=
 OpenClaim.holds_of_wide 3 Try.f3 rfl rfl rfl rfl rfl rfl rfl ⟨rfl,rfl,rfl,rfl,rfl⟩ rfl rfl rfl rfl rfl (by kernel_rfl) Try.func3 (by kernel_rfl)
  (of_decide_eq_true (by kernel_rfl)) (by unfold Func.isWrapper; first | (rw [if_pos (by decide +kernel)]; kernel_rfl) | (rw [if_neg (by decide +kernel)]; exact ⟨rfl,rfl⟩))
  (fun os started H enc _=>lifted os started H enc)
/-- ████ THE STATEMENT ████ -/
theorem proved : Rows.PolyMatchesReferenceSaid:=
 over
#print axioms proved
end Go.Proofs.Ytllecfhfhcmpaaa.polyMatchesReference
