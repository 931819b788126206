/- The reference's products of polynomials; a power of x with a coefficient. -/
import Derived.Test.YtllecfhfhcmpaaaEvTk
import Derived.Test.YtllecfhfhcmpaaaLt
import Derived.Test.YtllecfhfhcmpaaaEvYz
namespace Go.Proofs.Ytllecfhfhcmpaaa
open Go.RowKit Go.Fl
set_option maxRecDepth 100000
set_option linter.unusedVariables false
set_option linter.unusedSimpArgs false
set_option linter.unusedSectionVars false
abbrev SMu (W w1 : World) (p q : Int) (m : Value) (b0 o0 x b1 o1 y : Nat) (w : World) : Prop:=
 FB W.heap.size p q m w ∧ w.cell? ⟨b0,o0,none⟩ = some (.int .i64 (x : Nat)) ∧ w.cell? ⟨b1,o1,none⟩ = some (.int .i64 (y : Nat)) ∧ Hid (Below (W.heap.size + 1) w1 w)
theorem SMu.keep {W w1 w w' : World} {p q : Int} {m : Value} {b0 o0 x b1 o1 y k : Nat} (h : SMu W w1 p q m b0 o0 x b1 o1 y w) (hb : Below k w w') (hk : W.heap.size + 1 ≤ k) (h0 : b0 < W.heap.size) (h1 : b1 < W.heap.size) : SMu W w1 p q m b0 o0 x b1 o1 y w':=
 ⟨FB.keep h.1 hb (by omega),(hb.cell (p:=⟨b0,o0,none⟩) (by show b0 < k; omega)).trans h.2.1,(hb.cell (p:=⟨b1,o1,none⟩) (by show b1 < k; omega)).trans h.2.2.1,Lib.hid (h.2.2.2.out.trans (hb.mono hk))⟩
set_option maxHeartbeats 12800000 in
theorem rmulP {F : Gf} {b cap : Nat} {A B : List Nat} {aa ab : Option Addr} {ca cb : Nat} {W : World} (h : FldAt F b cap W) (hA : In F A) (hB : In F B) (ha : A.length ≤ 1000) (hb : B.length ≤ 1000) (na : NN A W (.slice aa A.length ca)) (nb : NN B W (.slice ab B.length cb)) :
  Calls Try.prog 24 #[FV F b cap,.slice aa A.length ca,.slice ab B.length cb] W (SlPost (mulP F A B) W):=by
 have HFA:=Lib.hid h
 have HFF:=Lib.hid (ok_mem h.mem)
 have HA:=Lib.hid hA
 have HB:=Lib.hid hB
 have NA:=Lib.hid na
 have NB:=Lib.hid nb
 obtain ⟨n,HN⟩ : ∃ n : Nat,Hid (A.length + B.length = n):=⟨_,Lib.hid rfl⟩
 have hnn : (A.length : Int) + (B.length : Int) = (n : Int):=by have:=HN.out; omega
 have hn3 : n ≤ 2000:=by have:=HN.out; omega
 obtain ⟨i0,hi,hz0,hz1,hz2⟩:=info_parts info3
 have HBB : Hid (Below W.heap.size W (W.alloc (.cells #[.int .i64 F.p,.int .i64 F.e,FM F b cap] 28))):=Lib.hid ((Below.refl _ _).alloc (Nat.le_refl _) _)
 have HFB : Hid (FB W.heap.size F.p F.e (FM F b cap) (W.alloc (.cells #[.int .i64 F.p,.int .i64 F.e,FM F b cap] 28))):=Lib.hid (by simp [FB])
 clear h hA hB na nb
 go_enter Try.func24,Try.ntmps24
 go_wp2_with (refine wpList_make_full _ rfl _ _ 25 rfl (W.heap.size + 1) 3 i0 (.int .i64 0) 1 Try.underlying25 hi hz0 hz1 .i64 .i64 (n : Int) (n : Int) n rfl rfl rfl rfl (by rw [hz2]; omega) (by unfold maxLen; omega) (by simp) ?_)
 intro w1 hown hgrow
 have hb1 : Below (W.heap.size + 1) (W.alloc (.cells #[.int .i64 F.p,.int .i64 F.e,FM F b cap] 28)) w1:=(Below.refl _ _).grown hgrow (by simp) (fun k hk=>by cases hk)
 have HB1:=Lib.hid (HBB.out.trans (hb1.mono (by omega)))
 have HF1:=Lib.hid (FB.keep HFB.out hb1 (by omega))
 have HROW : Hid (Row (List.replicate n 0) (W.heap.size + 1) w1):=Lib.hid (Row.of_own (n:=n) (base:=W.heap.size + 1) (by
  have e:=toList_madeCells_one (Value.int .i64 0) n
  rw [List.map_replicate,show N64 0 = Value.int .i64 0 from rfl,← e]
  simpa using hown) (by simp))
 have HZ1 : Hid (W.heap.size + 2 ≤ w1.heap.size):=Lib.hid (by have:=HROW.out.lt; omega)
 clear hown hgrow hb1 HBB HFB
 go_wp2
 go_loopw [8] (fun i wr=>∃ (k : Nat) (R : List Nat),k ≤ A.length ∧ i = .int .i64 k ∧ Hid (R.length = n ∧ In F R ∧ fn R = pm F (A.take k) (fn B)) ∧ Hid (Row R (W.heap.size + 1) wr) ∧ Hid (Below (W.heap.size + 1) w1 wr)) (fun i _=>A.length - (intOf i).toNat)
 case atStart=>exact ⟨0,List.replicate n 0,Nat.zero_le _,rfl,Lib.hid ⟨by simp,fun x hx=>by rw [List.eq_of_mem_replicate hx]; exact HFF.out.zero_lt,by
   funext i
   show (List.replicate n 0).getD i 0 = 0
   rw [List.getD_eq_getElem?_getD]
   by_cases h : i < n
   ·simp [h]
   ·rw [List.getElem?_eq_none (by simp; omega)]; rfl⟩,HROW,Lib.hid (Below.refl _ _)⟩
 case round =>
  obtain ⟨k,R0,hk,rfl,HI0,HR0,KB0⟩:=hrel
  by_cases hlt : k < A.length
  ·have hlti : (k : Int) < (A.length : Int):=by omega
   obtain ⟨b0,o0,rfl,-⟩:=NA.out.adr (by omega)
   have hb0 : b0 < W.heap.size:=NA.out.lt rfl
   obtain ⟨xx,hxx⟩ : ∃ x,Hid (A.getD k 0 = x):=⟨_,Lib.hid rfl⟩
   have HX : Hid (xx < F.q):=Lib.hid (by rw [← hxx.out]; exact HA.out.get HFF.out k)
   have HG:=Lib.hid (el_m HFF.out (A.take k) (fn B))
   clear hk
   go_wp2
   go_loopw [9] (fun i wr=>∃ (j : Nat) (R : List Nat),j ≤ B.length ∧ i = .int .i64 j ∧ Hid (R.length = n ∧ In F R ∧ fn R = pa F (pm F (A.take k) (fn B)) (shN k (ps F xx (fn (B.take j))))) ∧ Hid (Row R (W.heap.size + 1) wr) ∧ Hid (Below (W.heap.size + 1) w1 wr)) (fun i _=>B.length - (intOf i).toNat)
   case atStart=>exact ⟨0,R0,Nat.zero_le _,rfl,Lib.hid ⟨HI0.out.1,HI0.out.2.1,by rw [← times_zero HFF.out HG.out]; exact HI0.out.2.2⟩,HR0,KB0⟩
   case round =>
    obtain ⟨j,R,hj,rfl,HI,HR,KB⟩:=hrel
    by_cases hjt : j < B.length
    ·have hjti : (j : Int) < (B.length : Int):=by omega
     obtain ⟨t,HTE⟩ : ∃ t : Nat,Hid (k + j = t):=⟨_,Lib.hid rfl⟩
     have htn : t < n:=by have:=HN.out; have:=HTE.out; omega
     have htni : (t : Int) < (n : Int):=by omega
     have htR : Hid (t < R.length):=Lib.hid (by rw [HI.out.1]; exact htn)
     have hti : (k : Int) + (j : Int) = (t : Int):=by have:=HTE.out; omega
     have htw : IntKind.i64.wrap (t : Int) = (t : Int):=IntWalk.i64_in _ (by omega)
     have htw2 : IntKind.i64.wrap ((k : Int) + (j : Int)) = (t : Int):=by rw [hti]; exact htw
     obtain ⟨rr,hrr⟩ : ∃ x,Hid (R.getD t 0 = x):=⟨_,Lib.hid rfl⟩
     obtain ⟨yy,hyy⟩ : ∃ x,Hid (B.getD j 0 = x):=⟨_,Lib.hid rfl⟩
     have HRQ : Hid (rr < F.q):=Lib.hid (by rw [← hrr.out]; exact HI.out.2.1.get HFF.out t)
     have HY : Hid (yy < F.q):=Lib.hid (by rw [← hyy.out]; exact HB.out.get HFF.out j)
     have hcR : wr.cell? ⟨W.heap.size + 1,t,none⟩ = some (.int .i64 (rr : Nat)):=by rw [← hrr.out]; exact HR.out.cell htR.out
     obtain ⟨b',o',rfl,-⟩:=NB.out.adr (by omega)
     have hb' : b' < W.heap.size:=NB.out.lt rfl
     have HWW : Hid (Below W.heap.size W wr):=Lib.hid (HB1.out.trans (KB.out.mono (by omega)))
     have HST : Hid (fn (R.set t (F.add rr (F.mul xx yy))) = pa F (pm F (A.take k) (fn B)) (shN k (ps F xx (fn (B.take (j + 1)))))):=Lib.hid (by rw [← hrr.out,← hyy.out]; exact times_step HFF.out HTE.out.symm HG.out htR.out HI.out.2.2)
     have HIN:=Lib.hid (in_set (k:=t) HI.out.2.1 (HFF.out.add_lt rr (F.mul xx yy)))
     have hS0 : SMu W w1 F.p F.e (FM F b cap) b0 (o0 + k) xx b' (o' + j) yy wr.drew:=⟨FB.keep HF1.out KB.out.drew (Nat.lt_succ_self W.heap.size),by rw [← hxx.out]; exact (NA.out.below HWW.out).at hlt,by rw [← hyy.out]; exact (NB.out.below HWW.out).at hjt,Lib.hid KB.out.drew⟩
     obtain ⟨mm,HMM⟩ : ∃ x,Hid (F.mul xx yy = x):=⟨_,Lib.hid rfl⟩
     have HMQ : Hid (mm < F.q):=Lib.hid (by rw [← HMM.out]; exact HFF.out.mul_lt _ _)
     rw [HMM.out] at HST HIN
     clear hj
     go_wp2_with fail
     refine wp_region_held_drew (S:=fun w'=>SMu W w1 F.p F.e (FM F b cap) b0 (o0 + k) xx b' (o' + j) yy w') (by kernel_rfl) (by with_reducible exact hS0) (fun hHeld=>?_)
     refine Rg.tk 0 ⟨some 28,.move (.tmp 7),25,"ref.go:49",#[],none⟩ ?_
     try simp only [Rg.gp]
     refine Rg.tk 1 ⟨some 29,.move (.tmp 8),3,"ref.go:49",#[],none⟩ ?_
     try simp only [Rg.gp]
     refine Rg.tk 2 ⟨some 30,.move (.tmp 9),3,"ref.go:49",#[],none⟩ ?_
     try simp only [Rg.gp]
     refine Rg.tk 3 ⟨some 31,.binOp BinOp.add 3 (.tmp 29) (.tmp 30) 3,3,"ref.go:49",#[⟨1,.data⟩,⟨2,.data⟩],none⟩ ?_
     try simp only [Rg.gp]
     refine Rg.tk 4 ⟨some 32,.load 28 (.tmp 3),28,"ref.go:49",#[],none⟩ ?_
     try simp only [Rg.gp]
     refine Rg.tk 5 ⟨some 33,.move (.tmp 7),25,"ref.go:49",#[],none⟩ ?_
     try simp only [Rg.gp]
     refine Rg.tk 6 ⟨some 34,.move (.tmp 8),3,"ref.go:49",#[],none⟩ ?_
     try simp only [Rg.gp]
     refine Rg.tk 7 ⟨some 35,.move (.tmp 9),3,"ref.go:49",#[],none⟩ ?_
     try simp only [Rg.gp]
     refine Rg.tk 8 ⟨some 36,.binOp BinOp.add 3 (.tmp 34) (.tmp 35) 3,3,"ref.go:49",#[⟨6,.data⟩,⟨7,.data⟩],none⟩ ?_
     try simp only [Rg.gp]
     refine Rg.tk 9 ⟨some 37,.indexAddr 25 (.tmp 33) (.tmp 36),0,"ref.go:49",#[⟨5,.data⟩,⟨8,.data⟩],none⟩ ?_
     try simp only [Rg.gp]
     refine Rg.tk 11 ⟨some 39,.load 28 (.tmp 3),28,"ref.go:49",#[],none⟩ ?_
     try simp only [Rg.gp]
     refine Rg.tk 12 ⟨some 40,.move (.tmp 1),25,"ref.go:49",#[],none⟩ ?_
     try simp only [Rg.gp]
     refine Rg.tk 13 ⟨some 41,.move (.tmp 8),3,"ref.go:49",#[],none⟩ ?_
     try simp only [Rg.gp]
     refine Rg.tk 14 ⟨some 42,.indexAddr 25 (.tmp 40) (.tmp 41),0,"ref.go:49",#[⟨12,.data⟩,⟨13,.data⟩],none⟩ ?_
     try simp only [Rg.gp]
     refine Rg.tk 15 ⟨some 43,.load 3 (.tmp 42),3,"ref.go:49",#[⟨14,.data⟩],none⟩ ?_
     try simp only [Rg.gp]
     refine Rg.tk 16 ⟨some 44,.move (.tmp 2),25,"ref.go:49",#[],none⟩ ?_
     try simp only [Rg.gp]
     refine Rg.tk 17 ⟨some 45,.move (.tmp 9),3,"ref.go:49",#[],none⟩ ?_
     try simp only [Rg.gp]
     refine Rg.tk 18 ⟨some 46,.indexAddr 25 (.tmp 44) (.tmp 45),0,"ref.go:49",#[⟨16,.data⟩,⟨17,.data⟩],none⟩ ?_
     try simp only [Rg.gp]
     refine Rg.tk 19 ⟨some 47,.load 3 (.tmp 46),3,"ref.go:49",#[⟨18,.data⟩],none⟩ ?_
     try simp only [Rg.gp]
     refine wpAnyH_ready (rs:=[10,20]) (by kernel_rfl) (by simp) ?_
     refine (AllReadyH.cons (o:=⟨some 38,.load 3 (.tmp 37),3,"ref.go:49",#[⟨9,.data⟩],none⟩) rfl (fun K hK=>?_) (AllReadyH.cons (o:=⟨some 48,.call ⟨.value (.func 34),#[.tmp 39,.tmp 43,.tmp 47],#[28,3,3]⟩,3,"ref.go:49",#[⟨11,.data⟩,⟨15,.data⟩,⟨19,.data⟩],none⟩) rfl (fun K hK=>?_) AllReadyH.nil))
     ·go_simp
      refine hK.out _ _ ?_ (fun hHeld=>?_)
      ·(try dsimp only)
       exact hHeld
      clear hK K
      try simp only [Rg.gp]
      refine Rg.rd1 20 ⟨some 48,.call ⟨.value (.func 34),#[.tmp 39,.tmp 43,.tmp 47],#[28,3,3]⟩,3,"ref.go:49",#[⟨11,.data⟩,⟨15,.data⟩,⟨19,.data⟩],none⟩ fun K hK=>?_
      go_simp
      go_at_call 34
      with_reducible refine (rmul_c HX.out HY.out (HFA.out.below (HB1.out.trans (hHeld.2.2.2.out.mono (by omega))))).mono ?_
      rw [HMM.out]
      rintro z v1 ⟨rfl,hb3⟩
      have HR1:=Lib.hid ((Row.drew HR.out).below hb3)
      have hc1 : v1.cell? ⟨W.heap.size + 1,t,none⟩ = some (.int .i64 (rr : Nat)):=by rw [← hrr.out]; exact HR1.out.cell htR.out
      refine hK.out _ _ ?_ (fun hHeld=>?_)
      ·(try dsimp only)
       exact SMu.keep hHeld hb3 (by have:=HZ1.out; have:=hHeld.2.2.2.out.size; omega) hb0 hb'
      clear hK K
      try simp only [Rg.gp]
      refine Rg.rd1 21 ⟨some 49,.call ⟨.value (.func 33),#[.tmp 32,.tmp 38,.tmp 48],#[28,3,3]⟩,3,"ref.go:49",#[⟨4,.data⟩,⟨10,.data⟩,⟨20,.data⟩,⟨20,.chain⟩],none⟩ fun K hK=>?_
      go_simp
      go_at_call 33
      with_reducible refine (radd_c HRQ.out HMQ.out (HFA.out.below (HB1.out.trans (hHeld.2.2.2.out.mono (by omega))))).mono ?_
      rintro z v2 ⟨rfl,hb4⟩
      have HR2:=Lib.hid (HR1.out.below hb4)
      have hc2 : v2.cell? ⟨W.heap.size + 1,t,none⟩ = some (.int .i64 (rr : Nat)):=by rw [← hrr.out]; exact HR2.out.cell htR.out
      have hf2:=HR2.out.frozen t
      refine hK.out _ _ ?_ (fun hHeld=>?_)
      ·(try dsimp only)
       exact SMu.keep hHeld hb4 (by have:=HZ1.out; have:=hHeld.2.2.2.out.size; omega) hb0 hb'
      clear hK K
      try simp only [Rg.gp]
      refine Rg.tk 22 ⟨some 50,.indexAddr 25 (.tmp 28) (.tmp 31),0,"ref.go:49",#[⟨0,.data⟩,⟨3,.data⟩,⟨0,.phase⟩,⟨1,.phase⟩,⟨2,.phase⟩,⟨3,.phase⟩,⟨4,.phase⟩,⟨5,.phase⟩,⟨6,.phase⟩,⟨7,.phase⟩,⟨8,.phase⟩,⟨9,.phase⟩,⟨10,.phase⟩,⟨11,.phase⟩,⟨12,.phase⟩,⟨13,.phase⟩,⟨14,.phase⟩,⟨15,.phase⟩,⟨16,.phase⟩,⟨17,.phase⟩,⟨18,.phase⟩,⟨19,.phase⟩,⟨20,.phase⟩,⟨21,.phase⟩],none⟩ ?_
      try simp only [Rg.gp]
      refine Rg.rd1 23 ⟨none,.store 3 (.tmp 50) (.tmp 49),0,"ref.go:49",#[⟨22,.data⟩,⟨21,.data⟩,⟨21,.chain⟩,⟨0,.phase⟩,⟨1,.phase⟩,⟨2,.phase⟩,⟨3,.phase⟩,⟨4,.phase⟩,⟨5,.phase⟩,⟨6,.phase⟩,⟨7,.phase⟩,⟨8,.phase⟩,⟨9,.phase⟩,⟨10,.phase⟩,⟨11,.phase⟩,⟨12,.phase⟩,⟨13,.phase⟩,⟨14,.phase⟩,⟨15,.phase⟩,⟨16,.phase⟩,⟨17,.phase⟩,⟨18,.phase⟩,⟨19,.phase⟩,⟨20,.phase⟩,⟨21,.phase⟩],none⟩ fun K hK=>?_
      go_simp
      refine hK.out _ _ ?_ (fun hHeld=>?_)
      ·(try dsimp only)
       exact SMu.keep hHeld ((Below.refl _ _).setCell (p:=⟨W.heap.size + 1,t,none⟩) (Nat.le_refl _) _) (Nat.le_refl _) hb0 hb'
      clear hK K
      try simp only [Rg.gp]
      refine wpAnyH_done (by kernel_rfl) ?_ _
      have HR3:=Lib.hid (HR2.out.set t (F.add rr mm))
      have HB3:=Lib.hid hHeld.2.2.2.out
      have HLR : Hid ((R.set t (F.add rr mm)).length = n):=Lib.hid (by rw [List.length_set]; exact HI.out.1)
      clear hHeld hS0 hb3 hb4 hc2 hf2 hcR
      go_wp2
      go_roundw
      case rel=>exact ⟨j + 1,R.set t (F.add rr mm),by omega,by go_num,Lib.hid ⟨HLR.out,HIN.out,HST.out⟩,HR3,HB3⟩
      case measure=>simp [intOf]; omega
     ·go_simp
      go_at_call 34
      with_reducible refine (rmul_c HX.out HY.out (HFA.out.below (HB1.out.trans (hHeld.2.2.2.out.mono (by omega))))).mono ?_
      rw [HMM.out]
      rintro z v1 ⟨rfl,hb3⟩
      have HR1:=Lib.hid ((Row.drew HR.out).below hb3)
      have hc1 : v1.cell? ⟨W.heap.size + 1,t,none⟩ = some (.int .i64 (rr : Nat)):=by rw [← hrr.out]; exact HR1.out.cell htR.out
      refine hK.out _ _ ?_ (fun hHeld=>?_)
      ·(try dsimp only)
       exact SMu.keep hHeld hb3 (by have:=HZ1.out; have:=hHeld.2.2.2.out.size; omega) hb0 hb'
      clear hK K
      try simp only [Rg.gp]
      refine Rg.rd1 10 ⟨some 38,.load 3 (.tmp 37),3,"ref.go:49",#[⟨9,.data⟩],none⟩ fun K hK=>?_
      go_simp
      refine hK.out _ _ ?_ (fun hHeld=>?_)
      ·(try dsimp only)
       exact hHeld
      clear hK K
      try simp only [Rg.gp]
      refine Rg.rd1 21 ⟨some 49,.call ⟨.value (.func 33),#[.tmp 32,.tmp 38,.tmp 48],#[28,3,3]⟩,3,"ref.go:49",#[⟨4,.data⟩,⟨10,.data⟩,⟨20,.data⟩,⟨20,.chain⟩],none⟩ fun K hK=>?_
      go_simp
      go_at_call 33
      with_reducible refine (radd_c HRQ.out HMQ.out (HFA.out.below (HB1.out.trans (hHeld.2.2.2.out.mono (by omega))))).mono ?_
      rintro z v2 ⟨rfl,hb4⟩
      have HR2:=Lib.hid (HR1.out.below hb4)
      have hc2 : v2.cell? ⟨W.heap.size + 1,t,none⟩ = some (.int .i64 (rr : Nat)):=by rw [← hrr.out]; exact HR2.out.cell htR.out
      have hf2:=HR2.out.frozen t
      refine hK.out _ _ ?_ (fun hHeld=>?_)
      ·(try dsimp only)
       exact SMu.keep hHeld hb4 (by have:=HZ1.out; have:=hHeld.2.2.2.out.size; omega) hb0 hb'
      clear hK K
      try simp only [Rg.gp]
      refine Rg.tk 22 ⟨some 50,.indexAddr 25 (.tmp 28) (.tmp 31),0,"ref.go:49",#[⟨0,.data⟩,⟨3,.data⟩,⟨0,.phase⟩,⟨1,.phase⟩,⟨2,.phase⟩,⟨3,.phase⟩,⟨4,.phase⟩,⟨5,.phase⟩,⟨6,.phase⟩,⟨7,.phase⟩,⟨8,.phase⟩,⟨9,.phase⟩,⟨10,.phase⟩,⟨11,.phase⟩,⟨12,.phase⟩,⟨13,.phase⟩,⟨14,.phase⟩,⟨15,.phase⟩,⟨16,.phase⟩,⟨17,.phase⟩,⟨18,.phase⟩,⟨19,.phase⟩,⟨20,.phase⟩,⟨21,.phase⟩],none⟩ ?_
      try simp only [Rg.gp]
      refine Rg.rd1 23 ⟨none,.store 3 (.tmp 50) (.tmp 49),0,"ref.go:49",#[⟨22,.data⟩,⟨21,.data⟩,⟨21,.chain⟩,⟨0,.phase⟩,⟨1,.phase⟩,⟨2,.phase⟩,⟨3,.phase⟩,⟨4,.phase⟩,⟨5,.phase⟩,⟨6,.phase⟩,⟨7,.phase⟩,⟨8,.phase⟩,⟨9,.phase⟩,⟨10,.phase⟩,⟨11,.phase⟩,⟨12,.phase⟩,⟨13,.phase⟩,⟨14,.phase⟩,⟨15,.phase⟩,⟨16,.phase⟩,⟨17,.phase⟩,⟨18,.phase⟩,⟨19,.phase⟩,⟨20,.phase⟩,⟨21,.phase⟩],none⟩ fun K hK=>?_
      go_simp
      refine hK.out _ _ ?_ (fun hHeld=>?_)
      ·(try dsimp only)
       exact SMu.keep hHeld ((Below.refl _ _).setCell (p:=⟨W.heap.size + 1,t,none⟩) (Nat.le_refl _) _) (Nat.le_refl _) hb0 hb'
      clear hK K
      try simp only [Rg.gp]
      refine wpAnyH_done (by kernel_rfl) ?_ _
      have HR3:=Lib.hid (HR2.out.set t (F.add rr mm))
      have HB3:=Lib.hid hHeld.2.2.2.out
      have HLR : Hid ((R.set t (F.add rr mm)).length = n):=Lib.hid (by rw [List.length_set]; exact HI.out.1)
      clear hHeld hS0 hb3 hb4 hc2 hf2 hcR
      go_wp2
      go_roundw
      case rel=>exact ⟨j + 1,R.set t (F.add rr mm),by omega,by go_num,Lib.hid ⟨HLR.out,HIN.out,HST.out⟩,HR3,HB3⟩
      case measure=>simp [intOf]; omega
    ·have hjt1 : ¬ (j : Int) < (B.length : Int):=by omega
     have hjb : j = B.length:=by omega
     have HST : Hid (fn R = pm F (A.take (k + 1)) (fn B)):=Lib.hid (by
      have h:=HI.out.2.2
      rw [hjb,List.take_length,← hxx.out] at h
      rw [h,pm_take_succ HFF.out (fn B) hlt])
     clear hj hjt
     go_wp2
     go_roundw
     case rel=>exact ⟨k + 1,R,by omega,by go_num,Lib.hid ⟨HI.out.1,HI.out.2.1,HST.out⟩,HR,KB⟩
     case measure=>simp [intOf]; omega
  ·have hlt1 : ¬ (k : Int) < (A.length : Int):=by omega
   have hka : k = A.length:=by omega
   have HFIN : Hid (trL R0 = mulP F A B):=Lib.hid ((Po.tr HI0.out.2.1).ext (mulP_po HFF.out A B) (by
    have h:=HI0.out.2.2
    rw [hka,List.take_length] at h
    rw [fn_trL,h,fn_mulP HFF.out]))
   have HNR : Hid (NN R0 wr (.slice (some ⟨W.heap.size + 1,0,none⟩) n n)):=Lib.hid (by have h:=HR0.out.nn; rw [HI0.out.1] at h; exact h)
   have HRL:=Lib.hid HI0.out.1
   have HWW : Hid (Below W.heap.size W wr):=Lib.hid (HB1.out.trans (KB0.out.mono (by omega)))
   have hR1 : R0.length ≤ 3000:=by rw [HRL.out]; omega
   clear hlt hk
   go_wp2_with fail
   with_reducible refine (rtrim_c (A:=R0) hR1 HRL.out.symm HNR.out).mono ?_
   rw [HFIN.out]
   rintro z w2 ⟨a2,c2,rfl,hn2,hb2⟩
   have HN2:=Lib.hid hn2
   have HBF:=Lib.hid (HWW.out.trans (hb2.mono HWW.out.size))
   clear hn2 hb2
   go_wp2
   go_ret
   exact ⟨a2,c2,rfl,HN2.out,HBF.out⟩
set_option maxHeartbeats 3200000 in
theorem shifted_c {c n : Nat} {W : World} (hn : n ≤ 1000) : Calls Try.prog 47 #[.int .i64 (c : Nat),.int .i64 (n : Nat)] W (SlPost (shL c n) W):=by
 obtain ⟨i0,hi,hz0,hz1,hz2⟩:=info_parts info3
 obtain ⟨m,hm⟩ : ∃ m,n + 1 = m:=⟨_,rfl⟩
 have hnn : (n : Int) + 1 = (m : Int):=by omega
 have hm1 : m ≤ 1001:=by omega
 have hnm : (n : Int) < (m : Int):=by omega
 have hnm2 : n < m:=by omega
 have HM:=Lib.hid hm
 clear hm
 go_enter Try.func47,Try.ntmps47
 go_wp2_with (refine wpList_make_full _ rfl _ _ 25 rfl W.heap.size 3 i0 (.int .i64 0) 1 Try.underlying25 hi hz0 hz1 .i64 .i64 (m : Int) (m : Int) m rfl rfl rfl rfl (by rw [hz2]; omega) (by unfold maxLen; omega) (by simp) ?_)
 intro w1 hown hgrow
 have HB1 : Hid (Below W.heap.size W w1):=Lib.hid ((Below.refl _ _).grown hgrow (Nat.le_refl _) (fun k hk=>by cases hk))
 have HROW : Hid (Row (List.replicate m 0) W.heap.size w1):=Lib.hid (Row.of_own (n:=m) (base:=W.heap.size) (by
  have e:=toList_madeCells_one (Value.int .i64 0) m
  rw [List.map_replicate,show N64 0 = Value.int .i64 0 from rfl,← e]
  simpa using hown) (by simp))
 have hc0:=HROW.out.cell (t:=n) (by simp; omega)
 have hf0:=HROW.out.frozen n
 have HR2:=Lib.hid (HROW.out.set n c)
 have HE : Hid ((List.replicate m 0).set n c = shL c n):=Lib.hid (by
  rw [← HM.out]
  unfold shL
  rw [List.replicate_succ',List.set_append_right _ _ (by simp),List.length_replicate,Nat.sub_self]; rfl)
 rw [HE.out] at HR2
 have HB2 : Hid (Below W.heap.size W (w1.setCell ⟨W.heap.size,n,none⟩ (.int .i64 (c : Nat)))):=Lib.hid (HB1.out.setCell (p:=⟨W.heap.size,n,none⟩) (Nat.le_refl _) _)
 have HNF : Hid (NN (shL c n) (w1.setCell ⟨W.heap.size,n,none⟩ (.int .i64 (c : Nat))) (.slice (some ⟨W.heap.size,0,none⟩) m m)):=Lib.hid (by have h:=HR2.out.nn; rw [shL_len,HM.out] at h; exact h)
 clear hown hgrow
 go_wp2
 go_ret
 exact ⟨_,_,by rw [shL_len,HM.out]; rfl,by rw [shL_len,HM.out]; exact HNF.out,HB2.out⟩
def lenW : Value → Nat
 | .slice _ l _=>l
 | _=>0
def DmPost2 (Q R : List Nat) (w : World) (e : Ending) (w' : World) : Prop:=∃ a c a' c',e = .returned (.tuple #[.slice a Q.length c,.slice a' R.length c',.int .i64 0]) ∧ NN Q w' (.slice a Q.length c) ∧ NN R w' (.slice a' R.length c') ∧ Below w.heap.size w w'
set_option maxHeartbeats 3200000 in
theorem rdiv_zero {F : Gf} {b cap : Nat} {A B : List Nat} {aa ab : Option Addr} {ca cb : Nat} {W : World} (h : FldAt F b cap W) (hb : B.length ≤ 100) (h0 : trL B = []) (nb : NN B W (.slice ab B.length cb)) :
  Calls Try.prog 18 #[FV F b cap,.slice aa A.length ca,.slice ab B.length cb] W fun e w'=>e = .returned (.tuple #[.slice none 0 0,.slice none 0 0,.int .i64 3]) ∧ Below W.heap.size W w':=by
 have HFA:=Lib.hid h
 have HFF:=Lib.hid (ok_mem h.mem)
 have HSF : Hid (SF W F.p F.e (FM F b cap) (W.alloc (.cells #[.int .i64 F.p,.int .i64 F.e,FM F b cap] 28))):=Lib.hid ⟨by simp [FB],Lib.hid ((Below.refl _ _).alloc (Nat.le_refl _) _),Lib.hid (by simp)⟩
 have NB:=Lib.hid nb
 have H0:=Lib.hid h0
 clear h nb h0
 go_enter Try.func18,Try.ntmps18
 go_wp2_with fail
 with_reducible refine (rtrim_c (A:=B) (by omega) rfl (NB.out.below HSF.out.2.1.out)).mono ?_
 rw [H0.out]
 rintro z w1 ⟨a,c,rfl,hn,hb1⟩
 have HBF:=Lib.hid (HSF.out.2.1.out.trans (hb1.mono HSF.out.2.1.out.size))
 clear hb1 hn
 go_wp2
 exact bodyPost_ret (v:=.tuple #[.slice none 0 0,.slice none 0 0,.int .i64 3]) (by simp [results,Try.results18,go_sem]) rfl ⟨rfl,HBF.out⟩
set_option maxHeartbeats 12800000 in
theorem rdiv_p {F : Gf} {b cap : Nat} {A B : List Nat} {aa ab : Option Addr} {ca cb : Nat} {W : World} (h : FldAt F b cap W) (hA : In F A) (hB : In F B) (ha : A.length ≤ 100) (hb : B.length ≤ 100) (na : NN A W (.slice aa A.length ca)) (nb : NN B W (.slice ab B.length cb)) (h0 : trL B ≠ []) :
  Calls Try.prog 18 #[FV F b cap,.slice aa A.length ca,.slice ab B.length cb] W fun e w'=>∃ Q R,DM F (trL A) (trL B) Q R ∧ DmPost2 Q R W e w':=by
 have HFA:=Lib.hid h
 have HFF:=Lib.hid (ok_mem h.mem)
 have HSF : Hid (SF W F.p F.e (FM F b cap) (W.alloc (.cells #[.int .i64 F.p,.int .i64 F.e,FM F b cap] 28))):=Lib.hid ⟨by simp [FB],Lib.hid ((Below.refl _ _).alloc (Nat.le_refl _) _),Lib.hid (by simp)⟩
 have NA:=Lib.hid na
 have NB:=Lib.hid nb
 obtain ⟨D,HD⟩ : ∃ l,Hid (trL B = l):=⟨_,Lib.hid rfl⟩
 obtain ⟨A0,HA0⟩ : ∃ l,Hid (trL A = l):=⟨_,Lib.hid rfl⟩
 have HPD : Hid (Po F D):=Lib.hid (by rw [← HD.out]; exact Po.tr hB)
 have HPA : Hid (Po F A0):=Lib.hid (by rw [← HA0.out]; exact Po.tr hA)
 have hdl : D.length ≤ 100:=by rw [← HD.out]; exact Nat.le_trans (trL_len B) hb
 have hal : A0.length ≤ 100:=by rw [← HA0.out]; exact Nat.le_trans (trL_len A) ha
 rw [HD.out] at h0
 have HD0:=Lib.hid h0
 obtain ⟨dd,hdd⟩ : ∃ dd,D.length = dd + 1:=⟨D.length - 1,by have:=List.length_pos_iff.2 h0; omega⟩
 have HDD:=Lib.hid hdd
 have hyD : ((D.length : Int) == 0) = false:=beq_eq_false_iff_ne.2 (by omega)
 have hwd : IntKind.i64.wrap ((D.length : Int) - 1) = (dd : Int):=(IntWalk.i64_in _ (by omega)).trans (by omega)
 have hdlt : (dd : Int) < (D.length : Int):=by omega
 have hdlt2 : dd < D.length:=by omega
 obtain ⟨dv,HDV⟩ : ∃ x,Hid (D.getD dd 0 = x):=⟨_,Lib.hid rfl⟩
 have HDVQ : Hid (dv < F.q ∧ dv ≠ 0):=Lib.hid (by rw [← HDV.out]; exact ⟨HPD.out.el.get HFF.out dd,by have:=cn_last HPD.out.cn h0; rwa [hdd] at this⟩)
 obtain ⟨iv,HIV⟩ : ∃ x,Hid (F.inv dv = x):=⟨_,Lib.hid rfl⟩
 have HIQ : Hid (iv < F.q):=Lib.hid (by rw [← HIV.out]; exact HFF.out.inv_lt dv)
 rw [HD.out,HA0.out]
 clear h na nb h0 hA hB hdd
 go_enter Try.func18,Try.ntmps18
 go_wp2_with fail
 with_reducible refine (rtrim_c (A:=B) (by omega) rfl (NB.out.below HSF.out.2.1.out)).mono ?_
 rw [HD.out]
 rintro z w1 ⟨aD,cD,rfl,hn,hb1⟩
 have HND:=Lib.hid hn
 have HS1:=Lib.hid (SF.keep HSF.out hb1 HSF.out.2.2.out)
 clear hn hb1 HSF
 have HS2 : Hid (SF W F.p F.e (FM F b cap) (w1.alloc (.cells #[] 3))):=Lib.hid (SF.keep HS1.out ((Below.refl _ _).alloc (Nat.le_refl _) _) HS1.out.2.2.out)
 have HBA : Hid (Below w1.heap.size w1 (w1.alloc (.cells #[] 3))):=Lib.hid ((Below.refl _ _).alloc (Nat.le_refl _) _)
 have HNQ0 : Hid (NN [] (w1.alloc (.cells #[] 3)) (.slice (some ⟨w1.heap.size,0,none⟩) 0 0)):=Lib.hid (.inr ⟨_,_,_,rfl,Nat.le_refl _,by simp,fun t ht=>by simp at ht⟩)
 go_wp2_with fail
 with_reducible refine (rtrim_c (A:=A) (by omega) rfl ((NA.out.below HS1.out.2.1.out).below HBA.out)).mono ?_
 rw [HA0.out]
 rintro z w2 ⟨aR,cR,rfl,hn,hb1⟩
 have HNR0:=Lib.hid hn
 have HNQ:=Lib.hid (HNQ0.out.below hb1)
 have HND2:=Lib.hid ((HND.out.below HBA.out).below hb1)
 have HS3:=Lib.hid (SF.keep HS2.out hb1 HS2.out.2.2.out)
 clear hn hb1 HS1 HS2 HBA HNQ0 HND
 obtain ⟨bD,oD,rfl,-⟩:=HND2.out.adr (by omega)
 have hcd : w2.cell? ⟨bD,oD + dd,none⟩ = some (.int .i64 (dv : Nat)):=by rw [← HDV.out]; exact HND2.out.at hdlt2
 have hS0 : SF W F.p F.e (FM F b cap) w2.drew:=⟨HS3.out.1,Lib.hid HS3.out.2.1.out.drew,Lib.hid HS3.out.2.2.out⟩
 go_wp2_with fail
 refine wp_region_held_drew (S:=fun w'=>SF W F.p F.e (FM F b cap) w') (by kernel_rfl) (by with_reducible exact hS0) (fun hHeld=>?_)
 refine Rg.tk 0 ⟨some 24,.load 28 (.tmp 3),28,"ref.go:69",#[],none⟩ ?_
 try simp only [Rg.gp]
 refine Rg.tk 1 ⟨some 25,.move (.tmp 9),25,"ref.go:69",#[],none⟩ ?_
 try simp only [Rg.gp]
 refine Rg.tk 2 ⟨some 26,.move (.tmp 9),25,"ref.go:69",#[],none⟩ ?_
 try simp only [Rg.gp]
 refine Rg.tk 3 ⟨some 27,.call ⟨.builtin Builtin.len,#[.tmp 26],#[25]⟩,3,"ref.go:69",#[⟨2,.data⟩],none⟩ ?_
 try simp only [Rg.gp]
 refine Rg.tk 4 ⟨some 28,.binOp BinOp.sub 3 (.tmp 27) (.const (Value.int IntKind.i64 1)) 3,3,"ref.go:69",#[⟨3,.data⟩],none⟩ ?_
 try simp only [Rg.gp]
 refine Rg.tk 5 ⟨some 29,.indexAddr 25 (.tmp 25) (.tmp 28),0,"ref.go:69",#[⟨1,.data⟩,⟨4,.data⟩],none⟩ ?_
 try simp only [Rg.gp]
 refine Rg.rd1 6 ⟨some 30,.load 3 (.tmp 29),3,"ref.go:69",#[⟨5,.data⟩],none⟩ fun K hK=>?_
 go_simp
 refine hK.out _ _ ?_ (fun hHeld=>?_)
 ·(try dsimp only)
  exact hHeld
 clear hK K
 try simp only [Rg.gp]
 refine Rg.rd1 7 ⟨some 31,.call ⟨.value (.func 46),#[.tmp 24,.tmp 30],#[28,3]⟩,53,"ref.go:69",#[⟨0,.data⟩,⟨6,.data⟩],none⟩ fun K hK=>?_
 go_simp
 go_at_call 46
 with_reducible refine (rinv_c HDVQ.out.1 HDVQ.out.2 (HFA.out.below hHeld.2.1.out)).mono ?_
 rw [HIV.out]
 rintro z v3 ⟨rfl,hb3⟩
 refine hK.out _ _ ?_ (fun hHeld=>?_)
 ·(try dsimp only)
  exact SF.keep hHeld hb3 hHeld.2.2.out
 clear hK K
 try simp only [Rg.gp]
 refine Rg.tk 8 ⟨some 23,.move (.tmp 31),53,"ref.go:69",#[⟨7,.data⟩],none⟩ ?_
 try simp only [Rg.gp]
 refine Rg.tk 9 ⟨some 32,.extract (.tmp 23) 0,3,"ref.go:69",#[⟨8,.data⟩],none⟩ ?_
 try simp only [Rg.gp]
 refine Rg.tk 10 ⟨some 33,.extract (.tmp 23) 1,34,"ref.go:69",#[⟨8,.data⟩,⟨11,.gcOnly Go.Departure.lateStores⟩],none⟩ ?_
 try simp only [Rg.gp]
 refine Rg.tk 11 ⟨some 12,.assign (.tmp 32),3,"ref.go:69",#[⟨9,.data⟩,⟨7,.chain⟩,⟨0,.phase⟩,⟨1,.phase⟩,⟨2,.phase⟩,⟨3,.phase⟩,⟨4,.phase⟩,⟨5,.phase⟩,⟨6,.phase⟩,⟨7,.phase⟩,⟨8,.phase⟩,⟨9,.phase⟩,⟨10,.textOnly Go.Departure.lateStores⟩],none⟩ ?_
 try simp only [Rg.gp]
 refine Rg.tk 12 ⟨some 13,.assign (.tmp 33),34,"ref.go:69",#[⟨10,.data⟩,⟨11,.chain⟩,⟨0,.phase⟩,⟨1,.phase⟩,⟨2,.phase⟩,⟨3,.phase⟩,⟨4,.phase⟩,⟨5,.phase⟩,⟨6,.phase⟩,⟨7,.phase⟩,⟨8,.phase⟩,⟨9,.phase⟩,⟨10,.phase⟩,⟨11,.phase⟩],none⟩ ?_
 try simp only [Rg.gp]
 refine wpAnyH_done (by kernel_rfl) ?_ _
 have HS4:=Lib.hid hHeld
 have HNQ3:=Lib.hid (NN.below (w:=w2.drew) HNQ.out hb3)
 have HNR3:=Lib.hid (NN.below (w:=w2.drew) HNR0.out hb3)
 have HND3:=Lib.hid (NN.below (w:=w2.drew) HND2.out hb3)
 clear hHeld hS0 hb3 hcd HNQ HNR0 HND2 HS3
 go_wp2
 go_loopw [10,11] (fun q r wr=>∃ (Q R : List Nat) (aq ar : Option Addr) (cq cr : Nat),q = .slice aq Q.length cq ∧ r = .slice ar R.length cr ∧ R.length ≤ 100 ∧ Hid (NN Q wr (.slice aq Q.length cq)) ∧ Hid (NN R wr (.slice ar R.length cr)) ∧ Hid (NN D wr (.slice (some ⟨bD,oD,none⟩) D.length cD)) ∧ Hid (Po F Q ∧ Po F R ∧ Q.length ≤ 100 ∧ addP F (mulP F Q D) R = A0) ∧ Hid (SF W F.p F.e (FM F b cap) wr)) (fun _ r _=>lenW r)
 case atStart=>exact ⟨[],A0,_,_,_,_,rfl,rfl,hal,HNQ3,HNR3,HND3,Lib.hid ⟨Po.nil,HPA.out,by simp,(show addP F [] A0 = A0 from (addP_comm HFF.out In.nil HPA.out.el).trans (addP_nil HFF.out HPA.out))⟩,HS4⟩
 case round =>
  obtain ⟨Q,R,aq,ar,cq,cr,rfl,rfl,hrl,HNQ,HNR,HND,HINV,HS⟩:=hrel
  by_cases hge : D.length ≤ R.length
  ·have hgei : (D.length : Int) ≤ (R.length : Int):=by omega
   obtain ⟨rr,hrr⟩ : ∃ rr,R.length = rr + 1:=⟨R.length - 1,by omega⟩
   have HRR:=Lib.hid hrr
   have hwr : IntKind.i64.wrap ((R.length : Int) - 1) = (rr : Int):=(IntWalk.i64_in _ (by omega)).trans (by omega)
   have hrlt : (rr : Int) < (R.length : Int):=by omega
   have hrlt2 : rr < R.length:=by omega
   obtain ⟨sh,hsh⟩ : ∃ s,R.length - D.length = s:=⟨_,rfl⟩
   have hws : IntKind.i64.wrap ((R.length : Int) - (D.length : Int)) = (sh : Int):=(IntWalk.i64_in _ (by omega)).trans (by omega)
   have HSH:=Lib.hid hsh
   have hsh1 : sh ≤ 100:=by omega
   obtain ⟨rv,HRV⟩ : ∃ x,Hid (R.getD rr 0 = x):=⟨_,Lib.hid rfl⟩
   have HRVQ : Hid (rv < F.q):=Lib.hid (by rw [← HRV.out]; exact HINV.out.2.1.el.get HFF.out rr)
   obtain ⟨c,HC⟩ : ∃ x,Hid (F.mul rv iv = x):=⟨_,Lib.hid rfl⟩
   obtain ⟨T,HT⟩ : ∃ l,Hid (shL c sh = l):=⟨_,Lib.hid rfl⟩
   have HOFF:=Lib.hid (take_off HFF.out HPD.out HINV.out.1 HINV.out.2.1 HD0.out hge HINV.out.2.2.2 (c:=c) (by rw [← HC.out,← HIV.out,← HRV.out,← HDV.out,HRR.out,HDD.out]; rfl))
   rw [HSH.out,HT.out] at HOFF
   have HTL : Hid (T.length = sh + 1):=Lib.hid (by rw [← HT.out]; exact shL_len c sh)
   have htl : T.length ≤ 101:=by rw [HTL.out]; omega
   obtain ⟨Q2,HQ2⟩ : ∃ l,Hid (addP F Q T = l):=⟨_,Lib.hid rfl⟩
   obtain ⟨P,HP⟩ : ∃ l,Hid (mulP F T D = l):=⟨_,Lib.hid rfl⟩
   obtain ⟨N,HN⟩ : ∃ l,Hid (negP F P = l):=⟨_,Lib.hid rfl⟩
   obtain ⟨R2,HR2⟩ : ∃ l,Hid (addP F R N = l):=⟨_,Lib.hid rfl⟩
   have HPP : Hid (Po F P ∧ P.length ≤ 300):=Lib.hid (by
    rw [← HP.out]
    have:=mulP_le HFF.out HOFF.out.1 HPD.out
    exact ⟨mulP_po HFF.out _ _,by omega⟩)
   have HPN : Hid (Po F N ∧ N.length ≤ 300):=Lib.hid (by rw [← HN.out]; exact ⟨negP_po HFF.out P,Nat.le_trans (negP_len HFF.out P) HPP.out.2⟩)
   rw [HQ2.out,HP.out,HN.out,HR2.out] at HOFF
   have HPQ2 : Hid (Po F Q2 ∧ Q2.length ≤ 100):=Lib.hid (by
    rw [← HQ2.out]
    have h1:=addP_len HFF.out Q T
    have h2:=HINV.out.2.2.1
    have h3:=HTL.out
    exact ⟨addP_po HFF.out HINV.out.1.el HOFF.out.1.el,by omega⟩)
   have HPR2 : Hid (Po F R2):=Lib.hid (by rw [← HR2.out]; exact addP_po HFF.out HINV.out.2.1.el HPN.out.1.el)
   obtain ⟨bR,oR,rfl,-⟩:=HNR.out.adr (by omega)
   have hcr : wr.cell? ⟨bR,oR + rr,none⟩ = some (.int .i64 (rv : Nat)):=by rw [← HRV.out]; exact HNR.out.at hrlt2
   have hS7 : SF W F.p F.e (FM F b cap) wr.drew:=⟨HS.out.1,Lib.hid HS.out.2.1.out.drew,Lib.hid HS.out.2.2.out⟩
   clear hrr hsh
   go_wp2_with fail
   refine wp_region_held_drew (S:=fun w'=>SF W F.p F.e (FM F b cap) w') (by kernel_rfl) (by with_reducible exact hS7) (fun hHeld=>?_)
   refine Rg.tk 0 ⟨some 39,.load 28 (.tmp 3),28,"ref.go:71",#[],none⟩ ?_
   try simp only [Rg.gp]
   refine Rg.tk 1 ⟨some 40,.move (.tmp 11),25,"ref.go:71",#[],none⟩ ?_
   try simp only [Rg.gp]
   refine Rg.tk 2 ⟨some 41,.move (.tmp 11),25,"ref.go:71",#[],none⟩ ?_
   try simp only [Rg.gp]
   refine Rg.tk 3 ⟨some 42,.call ⟨.builtin Builtin.len,#[.tmp 41],#[25]⟩,3,"ref.go:71",#[⟨2,.data⟩],none⟩ ?_
   try simp only [Rg.gp]
   refine Rg.tk 4 ⟨some 43,.binOp BinOp.sub 3 (.tmp 42) (.const (Value.int IntKind.i64 1)) 3,3,"ref.go:71",#[⟨3,.data⟩],none⟩ ?_
   try simp only [Rg.gp]
   refine Rg.tk 5 ⟨some 44,.indexAddr 25 (.tmp 40) (.tmp 43),0,"ref.go:71",#[⟨1,.data⟩,⟨4,.data⟩],none⟩ ?_
   try simp only [Rg.gp]
   refine Rg.tk 7 ⟨some 46,.move (.tmp 12),3,"ref.go:71",#[],none⟩ ?_
   try simp only [Rg.gp]
   refine Rg.tk 9 ⟨some 48,.move (.tmp 11),25,"ref.go:71",#[],none⟩ ?_
   try simp only [Rg.gp]
   refine Rg.tk 10 ⟨some 49,.call ⟨.builtin Builtin.len,#[.tmp 48],#[25]⟩,3,"ref.go:71",#[⟨9,.data⟩],none⟩ ?_
   try simp only [Rg.gp]
   refine Rg.tk 11 ⟨some 50,.move (.tmp 9),25,"ref.go:71",#[],none⟩ ?_
   try simp only [Rg.gp]
   refine Rg.tk 12 ⟨some 51,.call ⟨.builtin Builtin.len,#[.tmp 50],#[25]⟩,3,"ref.go:71",#[⟨11,.data⟩],none⟩ ?_
   try simp only [Rg.gp]
   refine Rg.tk 13 ⟨some 52,.binOp BinOp.sub 3 (.tmp 49) (.tmp 51) 3,3,"ref.go:71",#[⟨10,.data⟩,⟨12,.data⟩],none⟩ ?_
   try simp only [Rg.gp]
   refine Rg.rd1 6 ⟨some 45,.load 3 (.tmp 44),3,"ref.go:71",#[⟨5,.data⟩],none⟩ fun K hK=>?_
   go_simp
   refine hK.out _ _ ?_ (fun hHeld=>?_)
   ·(try dsimp only)
    exact hHeld
   clear hK K
   try simp only [Rg.gp]
   refine Rg.rd1 8 ⟨some 47,.call ⟨.value (.func 34),#[.tmp 39,.tmp 45,.tmp 46],#[28,3,3]⟩,3,"ref.go:71",#[⟨0,.data⟩,⟨6,.data⟩,⟨7,.data⟩],none⟩ fun K hK=>?_
   go_simp
   go_at_call 34
   with_reducible refine (rmul_c HRVQ.out HIQ.out (HFA.out.below hHeld.2.1.out)).mono ?_
   rw [HC.out]
   rintro z v7 ⟨rfl,hb7⟩
   have HNQ7:=Lib.hid (NN.below (w:=wr.drew) HNQ.out hb7)
   have HNR7:=Lib.hid (NN.below (w:=wr.drew) HNR.out hb7)
   have HND7:=Lib.hid (NN.below (w:=wr.drew) HND.out hb7)
   refine hK.out _ _ ?_ (fun hHeld=>?_)
   ·(try dsimp only)
    exact SF.keep hHeld hb7 hHeld.2.2.out
   clear hK K
   try simp only [Rg.gp]
   refine Rg.rd1 14 ⟨some 53,.call ⟨.value (.func 47),#[.tmp 47,.tmp 52],#[3,3]⟩,25,"ref.go:71",#[⟨8,.data⟩,⟨13,.data⟩,⟨8,.chain⟩],none⟩ fun K hK=>?_
   go_simp
   go_at_call 47
   with_reducible refine (shifted_c (c:=c) (n:=sh) (by omega)).mono ?_
   rw [HT.out]
   rintro z w8 ⟨a8,c8,rfl,hn8,hb8⟩
   have HNT8:=Lib.hid hn8
   have HNQ8:=Lib.hid (HNQ7.out.below hb8)
   have HNR8:=Lib.hid (HNR7.out.below hb8)
   have HND8:=Lib.hid (HND7.out.below hb8)
   refine hK.out _ _ ?_ (fun hHeld=>?_)
   ·(try dsimp only)
    exact SF.keep hHeld hb8 hHeld.2.2.out
   clear hK K
   try simp only [Rg.gp]
   refine Rg.tk 15 ⟨some 14,.assign (.tmp 53),25,"ref.go:71",#[⟨14,.data⟩,⟨14,.chain⟩,⟨0,.phase⟩,⟨1,.phase⟩,⟨2,.phase⟩,⟨3,.phase⟩,⟨4,.phase⟩,⟨5,.phase⟩,⟨6,.phase⟩,⟨7,.phase⟩,⟨8,.phase⟩,⟨9,.phase⟩,⟨10,.phase⟩,⟨11,.phase⟩,⟨12,.phase⟩,⟨13,.phase⟩,⟨14,.phase⟩],none⟩ ?_
   try simp only [Rg.gp]
   refine wpAnyH_done (by kernel_rfl) ?_ _
   have HS8:=Lib.hid hHeld
   clear hHeld hS7 hb7 hb8 hn8 hcr HNQ HNR HND HS HNQ7 HNR7 HND7
   obtain ⟨f0,f1,f2⟩:=HS8.out.1
   go_wp2_with fail
   with_reducible refine (radd_p (HFA.out.below HS8.out.2.1.out) HINV.out.1.el HOFF.out.1.el (Nat.le_trans HINV.out.2.2.1 (by decide)) (by omega) HNQ8.out HNT8.out).mono ?_
   rw [HQ2.out]
   rintro z w9 ⟨a9,c9,rfl,hn,hb9⟩
   have HNQ9:=Lib.hid hn
   have HNR9:=Lib.hid (HNR8.out.below hb9)
   have HNT9:=Lib.hid (HNT8.out.below hb9)
   have HND9:=Lib.hid (HND8.out.below hb9)
   have HS9:=Lib.hid (SF.keep HS8.out hb9 HS8.out.2.2.out)
   clear hn hb9 HS8 HNQ8 HNR8 HNT8 HND8
   have hS9 : SF W F.p F.e (FM F b cap) w9.drew:=⟨HS9.out.1,Lib.hid HS9.out.2.1.out.drew,Lib.hid HS9.out.2.2.out⟩
   go_wp2_with fail
   refine wp_region_held_drew (S:=fun w'=>SF W F.p F.e (FM F b cap) w') (by kernel_rfl) (by with_reducible exact hS9) (fun hHeld=>?_)
   refine Rg.tk 0 ⟨some 58,.load 28 (.tmp 3),28,"ref.go:73",#[],none⟩ ?_
   try simp only [Rg.gp]
   refine Rg.tk 1 ⟨some 59,.move (.tmp 11),25,"ref.go:73",#[],none⟩ ?_
   try simp only [Rg.gp]
   refine Rg.tk 2 ⟨some 60,.load 28 (.tmp 3),28,"ref.go:73",#[],none⟩ ?_
   try simp only [Rg.gp]
   refine Rg.tk 3 ⟨some 61,.load 28 (.tmp 3),28,"ref.go:73",#[],none⟩ ?_
   try simp only [Rg.gp]
   refine Rg.tk 4 ⟨some 62,.move (.tmp 14),25,"ref.go:73",#[],none⟩ ?_
   try simp only [Rg.gp]
   refine Rg.tk 5 ⟨some 63,.move (.tmp 9),25,"ref.go:73",#[],none⟩ ?_
   try simp only [Rg.gp]
   refine Rg.rd1 6 ⟨some 64,.call ⟨.value (.func 24),#[.tmp 61,.tmp 62,.tmp 63],#[28,25,25]⟩,25,"ref.go:73",#[⟨3,.data⟩,⟨4,.data⟩,⟨5,.data⟩],none⟩ fun K hK=>?_
   go_simp
   go_at_call 24
   with_reducible refine (rmulP (HFA.out.below hHeld.2.1.out) HOFF.out.1.el HPD.out.el (by omega) (by omega) (NN.below (w:=w9) HNT9.out (Below.refl _ _).drew) (NN.below (w:=w9) HND9.out (Below.refl _ _).drew)).mono ?_
   rw [HP.out]
   rintro z v1 ⟨a1,c1,rfl,hn1,hb1⟩
   have HNP1:=Lib.hid hn1
   have HNQ1:=Lib.hid (NN.below (w:=w9.drew) HNQ9.out hb1)
   have HNR1:=Lib.hid (NN.below (w:=w9.drew) HNR9.out hb1)
   have HND1:=Lib.hid (NN.below (w:=w9.drew) HND9.out hb1)
   refine hK.out _ _ ?_ (fun hHeld=>?_)
   ·(try dsimp only)
    exact SF.keep hHeld hb1 hHeld.2.2.out
   clear hK K
   try simp only [Rg.gp]
   refine Rg.rd1 7 ⟨some 65,.call ⟨.value (.func 48),#[.tmp 60,.tmp 64],#[28,25]⟩,25,"ref.go:73",#[⟨2,.data⟩,⟨6,.data⟩,⟨6,.chain⟩],none⟩ fun K hK=>?_
   go_simp
   go_at_call 48
   with_reducible refine (rneg_p (HFA.out.below hHeld.2.1.out) HPP.out.1.el (Nat.le_trans HPP.out.2 (by decide)) HNP1.out).mono ?_
   rw [show trL (P.map F.neg) = N from HN.out]
   rintro z v2 ⟨a2,c2,rfl,hn2,hb2⟩
   have HNN2:=Lib.hid hn2
   have HNQ2:=Lib.hid (HNQ1.out.below hb2)
   have HNR2:=Lib.hid (HNR1.out.below hb2)
   have HND2:=Lib.hid (HND1.out.below hb2)
   refine hK.out _ _ ?_ (fun hHeld=>?_)
   ·(try dsimp only)
    exact SF.keep hHeld hb2 hHeld.2.2.out
   clear hK K
   try simp only [Rg.gp]
   refine Rg.rd1 8 ⟨some 66,.call ⟨.value (.func 22),#[.tmp 58,.tmp 59,.tmp 65],#[28,25,25]⟩,25,"ref.go:73",#[⟨0,.data⟩,⟨1,.data⟩,⟨7,.data⟩,⟨7,.chain⟩],none⟩ fun K hK=>?_
   go_simp
   go_at_call 22
   with_reducible refine (radd_p (HFA.out.below hHeld.2.1.out) HINV.out.2.1.el HPN.out.1.el (by omega) (Nat.le_trans HPN.out.2 (by decide)) HNR2.out HNN2.out).mono ?_
   rw [HR2.out]
   rintro z v3 ⟨a3,c3,rfl,hn3,hb3⟩
   have HNR3:=Lib.hid hn3
   have HNQ3:=Lib.hid (HNQ2.out.below hb3)
   have HND3:=Lib.hid (HND2.out.below hb3)
   refine hK.out _ _ ?_ (fun hHeld=>?_)
   ·(try dsimp only)
    exact SF.keep hHeld hb3 hHeld.2.2.out
   clear hK K
   try simp only [Rg.gp]
   refine Rg.tk 9 ⟨some 11,.assign (.tmp 66),25,"ref.go:73",#[⟨8,.data⟩,⟨8,.chain⟩,⟨0,.phase⟩,⟨1,.phase⟩,⟨2,.phase⟩,⟨3,.phase⟩,⟨4,.phase⟩,⟨5,.phase⟩,⟨6,.phase⟩,⟨7,.phase⟩,⟨8,.phase⟩],none⟩ ?_
   try simp only [Rg.gp]
   refine wpAnyH_done (by kernel_rfl) ?_ _
   have HS10:=Lib.hid hHeld
   have hlt2:=HOFF.out.2.1
   clear hHeld hS9 hn1 hn2 hn3 hb1 hb2 hb3 f0 f1 f2
   go_wp2
   go_roundw
   case rel=>exact ⟨Q2,R2,_,_,_,_,rfl,rfl,by omega,HNQ3,HNR3,HND3,Lib.hid ⟨HPQ2.out.1,HPR2.out,HPQ2.out.2,HOFF.out.2.2⟩,HS10⟩
   case measure=>simp [lenW]; omega
  ·have hge1 : ¬ (D.length : Int) ≤ (R.length : Int):=by omega
   have HDM : Hid (DM F A0 D Q R):=Lib.hid (by
    have h:=DM.of HFF.out HINV.out.1 HPD.out HINV.out.2.1 (by omega)
    rwa [HINV.out.2.2.2] at h)
   have HBF:=Lib.hid HS.out.2.1.out
   clear hge
   go_wp2
   exact bodyPost_ret (v:=.tuple #[.slice aq Q.length cq,.slice ar R.length cr,.int .i64 0]) (by simp [results,Try.results18,go_sem]) rfl ⟨Q,R,HDM.out,_,_,_,_,rfl,HNQ.out,HNR.out,HBF.out⟩
set_option maxHeartbeats 6400000 in
theorem rmonic_p {F : Gf} {b cap : Nat} {A : List Nat} {aa : Option Addr} {ca : Nat} {W : World} (h : FldAt F b cap W) (hA : Po F A) (ha : A.length ≤ 100) (na : NN A W (.slice aa A.length ca)) :
  Calls Try.prog 57 #[FV F b cap,.slice aa A.length ca] W (SlPost (monP F A) W):=by
 have HFA:=Lib.hid h
 have HFF:=Lib.hid (ok_mem h.mem)
 have HSF : Hid (SF W F.p F.e (FM F b cap) (W.alloc (.cells #[.int .i64 F.p,.int .i64 F.e,FM F b cap] 28))):=Lib.hid ⟨by simp [FB],Lib.hid ((Below.refl _ _).alloc (Nat.le_refl _) _),Lib.hid (by simp)⟩
 have NA:=Lib.hid na
 have HPA:=Lib.hid hA
 have HTR : Hid (trL A = A):=Lib.hid (trL_of hA.cn)
 clear h na hA
 by_cases h0 : A = []
 ·have hyA : ((A.length : Int) == 0) = true:=by rw [h0]; rfl
  have HM : Hid (monP F A = A):=Lib.hid (by rw [h0]; rfl)
  have H0:=Lib.hid h0
  rw [HM.out]
  clear h0
  go_enter Try.func57,Try.ntmps57
  go_wp2_with fail
  with_reducible refine (rtrim_c (A:=A) (by omega) rfl (NA.out.below HSF.out.2.1.out)).mono ?_
  rw [HTR.out]
  rintro z w1 ⟨a,c,rfl,hn,hb1⟩
  have HBF:=Lib.hid (HSF.out.2.1.out.trans (hb1.mono HSF.out.2.1.out.size))
  have HN:=Lib.hid hn
  clear hb1 hn
  go_wp2
  go_ret
  exact ⟨_,_,rfl,HN.out,HBF.out⟩
 ·obtain ⟨dd,hdd⟩ : ∃ dd,A.length = dd + 1:=⟨A.length - 1,by have:=List.length_pos_iff.2 h0; omega⟩
  have hyA : ((A.length : Int) == 0) = false:=beq_eq_false_iff_ne.2 (by omega)
  have hwd : IntKind.i64.wrap ((A.length : Int) - 1) = (dd : Int):=(IntWalk.i64_in _ (by omega)).trans (by omega)
  have hdlt : (dd : Int) < (A.length : Int):=by omega
  have hdlt2 : dd < A.length:=by omega
  obtain ⟨dv,HDV⟩ : ∃ x,Hid (A.getD dd 0 = x):=⟨_,Lib.hid rfl⟩
  have HDVQ : Hid (dv < F.q ∧ dv ≠ 0):=Lib.hid (by rw [← HDV.out]; exact ⟨HPA.out.el.get HFF.out dd,by have:=cn_last HPA.out.cn h0; rwa [hdd] at this⟩)
  obtain ⟨iv,HIV⟩ : ∃ x,Hid (F.inv dv = x):=⟨_,Lib.hid rfl⟩
  have HIQ : Hid (iv < F.q):=Lib.hid (by rw [← HIV.out]; exact HFF.out.inv_lt dv)
  have HI0 : Hid (trL [iv] = [iv]):=Lib.hid (trL_of (po_one HFF.out iv HIQ.out (by rw [← HIV.out]; exact inv_ne HFF.out HDVQ.out.1 HDVQ.out.2)).cn)
  have HM : Hid (mulP F A [iv] = monP F A):=Lib.hid (by rw [monP_ne h0,hdd]; show _ = mulP F A (trL [F.inv (A.getD dd 0)]); rw [HDV.out,HIV.out,HI0.out])
  clear h0 hdd
  go_enter Try.func57,Try.ntmps57
  go_wp2_with fail
  with_reducible refine (rtrim_c (A:=A) (by omega) rfl (NA.out.below HSF.out.2.1.out)).mono ?_
  rw [HTR.out]
  rintro z w1 ⟨aT,cT,rfl,hn,hb1⟩
  have HNT:=Lib.hid hn
  have HS1:=Lib.hid (SF.keep HSF.out hb1 HSF.out.2.2.out)
  clear hb1 hn HSF
  obtain ⟨bD,oD,rfl,-⟩:=HNT.out.adr (by omega)
  have hcd : w1.cell? ⟨bD,oD + dd,none⟩ = some (.int .i64 (dv : Nat)):=by rw [← HDV.out]; exact HNT.out.at hdlt2
  have hS0 : SF W F.p F.e (FM F b cap) w1.drew:=⟨HS1.out.1,Lib.hid HS1.out.2.1.out.drew,Lib.hid HS1.out.2.2.out⟩
  go_wp2_with fail
  refine wp_region_held_drew (S:=fun w'=>SF W F.p F.e (FM F b cap) w') (by kernel_rfl) (by with_reducible exact hS0) (fun hHeld=>?_)
  refine Rg.tk 0 ⟨some 15,.load 28 (.tmp 2),28,"ref.go:84",#[],none⟩ ?_
  try simp only [Rg.gp]
  refine Rg.tk 1 ⟨some 16,.move (.tmp 5),25,"ref.go:84",#[],none⟩ ?_
  try simp only [Rg.gp]
  refine Rg.tk 2 ⟨some 17,.move (.tmp 5),25,"ref.go:84",#[],none⟩ ?_
  try simp only [Rg.gp]
  refine Rg.tk 3 ⟨some 18,.call ⟨.builtin Builtin.len,#[.tmp 17],#[25]⟩,3,"ref.go:84",#[⟨2,.data⟩],none⟩ ?_
  try simp only [Rg.gp]
  refine Rg.tk 4 ⟨some 19,.binOp BinOp.sub 3 (.tmp 18) (.const (Value.int IntKind.i64 1)) 3,3,"ref.go:84",#[⟨3,.data⟩],none⟩ ?_
  try simp only [Rg.gp]
  refine Rg.tk 5 ⟨some 20,.indexAddr 25 (.tmp 16) (.tmp 19),0,"ref.go:84",#[⟨1,.data⟩,⟨4,.data⟩],none⟩ ?_
  try simp only [Rg.gp]
  refine Rg.rd1 6 ⟨some 21,.load 3 (.tmp 20),3,"ref.go:84",#[⟨5,.data⟩],none⟩ fun K hK=>?_
  go_simp
  refine hK.out _ _ ?_ (fun hHeld=>?_)
  ·(try dsimp only)
   exact hHeld
  clear hK K
  try simp only [Rg.gp]
  refine Rg.rd1 7 ⟨some 22,.call ⟨.value (.func 46),#[.tmp 15,.tmp 21],#[28,3]⟩,53,"ref.go:84",#[⟨0,.data⟩,⟨6,.data⟩],none⟩ fun K hK=>?_
  go_simp
  go_at_call 46
  with_reducible refine (rinv_c HDVQ.out.1 HDVQ.out.2 (HFA.out.below hHeld.2.1.out)).mono ?_
  rw [HIV.out]
  rintro z v3 ⟨rfl,hb3⟩
  refine hK.out _ _ ?_ (fun hHeld=>?_)
  ·(try dsimp only)
   exact SF.keep hHeld hb3 hHeld.2.2.out
  clear hK K
  try simp only [Rg.gp]
  refine Rg.tk 8 ⟨some 14,.move (.tmp 22),53,"ref.go:84",#[⟨7,.data⟩],none⟩ ?_
  try simp only [Rg.gp]
  refine Rg.tk 9 ⟨some 23,.extract (.tmp 14) 0,3,"ref.go:84",#[⟨8,.data⟩],none⟩ ?_
  try simp only [Rg.gp]
  refine Rg.tk 10 ⟨some 24,.extract (.tmp 14) 1,34,"ref.go:84",#[⟨8,.data⟩,⟨11,.gcOnly Go.Departure.lateStores⟩],none⟩ ?_
  try simp only [Rg.gp]
  refine Rg.tk 11 ⟨some 6,.assign (.tmp 23),3,"ref.go:84",#[⟨9,.data⟩,⟨7,.chain⟩,⟨0,.phase⟩,⟨1,.phase⟩,⟨2,.phase⟩,⟨3,.phase⟩,⟨4,.phase⟩,⟨5,.phase⟩,⟨6,.phase⟩,⟨7,.phase⟩,⟨8,.phase⟩,⟨9,.phase⟩,⟨10,.textOnly Go.Departure.lateStores⟩],none⟩ ?_
  try simp only [Rg.gp]
  refine Rg.tk 12 ⟨some 7,.assign (.tmp 24),34,"ref.go:84",#[⟨10,.data⟩,⟨11,.chain⟩,⟨0,.phase⟩,⟨1,.phase⟩,⟨2,.phase⟩,⟨3,.phase⟩,⟨4,.phase⟩,⟨5,.phase⟩,⟨6,.phase⟩,⟨7,.phase⟩,⟨8,.phase⟩,⟨9,.phase⟩,⟨10,.phase⟩,⟨11,.phase⟩],none⟩ ?_
  try simp only [Rg.gp]
  refine wpAnyH_done (by kernel_rfl) ?_ _
  have HS4:=Lib.hid hHeld
  have HNT4:=Lib.hid (NN.below (w:=w1.drew) HNT.out hb3)
  clear hHeld hS0 hb3 hcd HNT HS1
  obtain ⟨f0,f1,f2⟩:=HS4.out.1
  have HN1 : Hid (NN [iv] (v3.alloc (.cells #[.int .i64 (iv : Nat)] 3)) (.slice (some ⟨v3.heap.size,0,none⟩) 1 1)):=Lib.hid (nn_new rfl rfl)
  have HBA : Hid (Below v3.heap.size v3 (v3.alloc (.cells #[.int .i64 (iv : Nat)] 3))):=Lib.hid ((Below.refl _ _).alloc (Nat.le_refl _) _)
  have HMC : Hid (Calls Try.prog 24 #[FV F b cap,.slice (some ⟨bD,oD,none⟩) A.length cT,.slice (some ⟨v3.heap.size,0,none⟩) 1 1] (v3.alloc (.cells #[.int .i64 (iv : Nat)] 3)) (SlPost (monP F A) (v3.alloc (.cells #[.int .i64 (iv : Nat)] 3)))):=Lib.hid (by
   have h:=rmulP (A:=A) (B:=[iv]) (HFA.out.below (HS4.out.2.1.out.trans (HBA.out.mono HS4.out.2.1.out.size))) HPA.out.el (In.cons HIQ.out In.nil) (by omega) (by simp) (HNT4.out.below HBA.out) HN1.out
   rw [HM.out] at h
   exact h)
  go_wp2_with fail
  with_reducible refine HMC.out.mono ?_
  rintro z w5 ⟨a5,c5,rfl,hn,hb5⟩
  have HBF:=Lib.hid ((HS4.out.2.1.out.trans (HBA.out.mono HS4.out.2.1.out.size)).trans (hb5.mono (Nat.le_trans HS4.out.2.1.out.size HBA.out.size)))
  have HN:=Lib.hid hn
  clear hb5 hn f0 f1 f2
  go_wp2
  go_ret
  exact ⟨_,_,rfl,HN.out,HBF.out⟩
end Go.Proofs.Ytllecfhfhcmpaaa
