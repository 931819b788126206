/- Calls that make lists, out of the evaluator's facts; the fields and minimal polynomials of the examples. -/
import Derived.Test.YtllecfhfhcmpaaaKv
namespace Go.Proofs.Ytllecfhfhcmpaaa
open Go.Ev Go.Fl
open Go.RowKit (Below)
set_option linter.unusedSectionVars false
set_option linter.unusedVariables false
set_option maxRecDepth 100000
variable {F : Gf} {b cap : Nat} {W : World}
theorem call_sl [R : Rho] {f : FuncId} {l : List AV} {vs : List Value} {k c0 : Nat} {L Z : List Nat} (hf : Fct.Holds Try.prog f ⟨fA F :: l,fOld F,.slice k 0 L.length c0 true 1,[k],[{ elem:=3,cells:=(L ++ Z).map I,ro:=false }]⟩) (hc0 : L.length ≤ c0)
  (hl : ∀ π : Inj,LR π [] l vs) (h : FldAt F b cap W) : Calls Try.prog f (FV F b cap :: vs).toArray W (SlPost L W):=by
 have hr : ∀ π : Inj,VR π [] (fA F) (FV F b cap) → LR π [] (fA F :: l) (FV F b cap :: vs):=fun π hv=>LR.cons hv (hl π)
 refine (fct_madeK hf (wr_fld h (s:=Fct.st ⟨fA F :: l,fOld F,.slice k 0 L.length c0 true 1,[k],[{ elem:=3,cells:=(L ++ Z).map I,ro:=false }]⟩) rfl rfl) (vs:=(FV F b cap :: vs).toArray) (by simpa using hr _ (rel_fld h))).mono ?_
 rintro e w' ⟨c,π',lm',s1,rfl,hv,hw,hn,hb⟩
 cases hv with
 | @sliceEx bb b' n off len cap2 es hp =>
  obtain ⟨cs,fz,g1,g2,_,g4,_⟩:=hw.at (new_atK hn) hp
  refine ⟨some ⟨b',0,none⟩,c0,rfl,.inr ⟨b',0,c0,rfl,hc0,?_,fun t ht=>?_⟩,hb⟩
  ·rcases Nat.lt_or_ge b' w'.heap.size with h' | h'
   ·exact h'
   ·rw [Array.getElem?_eq_none h'] at g1; cases g1
  ·have e1:=lr_ints g4
   have e2 : (cs.toList.take ((L ++ Z).map I).length)[t]? = some (.int .i64 (L.getD t 0 : Nat)):=by
    rw [e1,List.getElem?_map,List.getElem?_append_left ht,List.getElem?_eq_getElem ht]
    simp [List.getD,ht]
   rw [List.getElem?_take_of_lt (by simp; omega)] at e2
   rw [Array.getElem?_toList] at e2
   simp only [World.cell?,g1]
   simpa using e2
def madeF (q : Nat) (F : Gf) : Fct:=⟨[I q],[],fV F 1,[1],[fB F]⟩
theorem made_k : ([(2,0),(4,2),(5,3)].all fun x : Nat × Nat=>chk (orcOf LO) 38 (madeF x.1 (fds.getD x.2 ⟨2,1,2,1,[0],1,0⟩))) = true:=by kernel_rfl
theorem made_gen {q : Nat} {F : Gf} (hm : F ∈ fds) (hk : chk (orcOf LO) 38 (madeF q F) = true) (W : World) : Calls Try.prog 38 #[.int .i64 (q : Nat)] W fun e w'=>∃ b cap,e = .returned (FV F b cap) ∧ FldAt F b cap w' ∧ Below W.heap.size W w':=by
 letI R : Rho:=rhoN (r2 0 0)
 have hf:=chk_ok (orcOf_ok LO_ok) hk
 have hrel : ∀ π : Inj,LR π [] (madeF q F).args [.int .i64 (q : Nat)]:=fun π=>LR.cons (.int _ _) .nil
 refine (fct_madeK hf (wr_none (s:=(madeF q F).st) rfl rfl) (vs:=#[.int .i64 (q : Nat)]) (hrel _)).mono ?_
 rintro e w' ⟨c,π',lm',s1,rfl,hv,hw,hn,hb⟩
 cases hv with
 | @agg l a hs h =>
  obtain ⟨c0,r0,e0,v0,t0⟩:=LR.uncons (vs:=a.toList) ⟨hs,h⟩
  obtain ⟨c1,r1,e1,v1,t1⟩:=t0.uncons
  obtain ⟨c2,r2',e2,v2,t2⟩:=t1.uncons
  have e3:=t2.nil_inv
  subst e3; subst e2; subst e1
  have ha : a = #[c0,c1,c2]:=by apply Array.ext'; exact e0
  subst ha
  rw [v0.int_inv,v1.int_inv]
  cases v2 with
  | @sliceIn b b' n off len cap cap' es hp hc hn' =>
   obtain ⟨cs,fz,g1,g2,_,g4,_⟩:=hw.at (new_atK hn) hp
   have hcap : cap' = n:=by omega
   refine ⟨b',cap',rfl,⟨hm,hc,cs,_,_,g1,by rw [hcap]; exact g2,?_⟩,hb⟩
   have:=lr_ints g4
   have hl : (fB F).cells.length = F.e:=by show (F.mod.map I).length = _; rw [List.length_map,mod_len F hm]
   rw [hl] at this
   exact this
def f2' : Gf:=fds.getD 0 ⟨2,1,2,1,[0],1,0⟩
def f4' : Gf:=fds.getD 2 ⟨2,1,2,1,[0],1,0⟩
def f5' : Gf:=fds.getD 3 ⟨2,1,2,1,[0],1,0⟩
theorem f2_mem : f2' ∈ fds:=List.mem_of_getElem? (i:=0) rfl
theorem f4_mem : f4' ∈ fds:=List.mem_of_getElem? (i:=2) rfl
theorem f5_mem : f5' ∈ fds:=List.mem_of_getElem? (i:=3) rfl
theorem made2_c (W : World) : Calls Try.prog 38 #[.int .i64 2] W fun e w'=>∃ b cap,e = .returned (FV f2' b cap) ∧ FldAt f2' b cap w' ∧ Below W.heap.size W w':=made_gen (q:=2) f2_mem (List.all_eq_true.1 made_k (2,0) (by simp)) W
theorem made4_c (W : World) : Calls Try.prog 38 #[.int .i64 4] W fun e w'=>∃ b cap,e = .returned (FV f4' b cap) ∧ FldAt f4' b cap w' ∧ Below W.heap.size W w':=made_gen (q:=4) f4_mem (List.all_eq_true.1 made_k (4,2) (by simp)) W
theorem made5_c (W : World) : Calls Try.prog 38 #[.int .i64 5] W fun e w'=>∃ b cap,e = .returned (FV f5' b cap) ∧ FldAt f5' b cap w' ∧ Below W.heap.size W w':=made_gen (q:=5) f5_mem (List.all_eq_true.1 made_k (5,3) (by simp)) W
theorem min2_k : chk noOrc 31 ⟨[fA f4',I 2],fOld f4',.slice 27 0 ([1,1,1] : List Nat).length 4 true 1,[27],[{ elem:=3,cells:=([1,1,1] ++ [0] : List Nat).map I,ro:=false }]⟩ = true:=by kernel_rfl
theorem min1_k : chk noOrc 31 ⟨[fA f4',I 1],fOld f4',.slice 16 0 ([1,1] : List Nat).length 3 true 1,[16],[{ elem:=3,cells:=([1,1] ++ [0] : List Nat).map I,ro:=false }]⟩ = true:=by kernel_rfl
theorem min2_c (h : FldAt f4' b cap W) : Calls Try.prog 31 #[FV f4' b cap,.int .i64 2] W (SlPost [1,1,1] W):=
 letI : Rho:=rhoN (r2 0 0)
 call_sl (chk_ok (noOrc_ok _) min2_k) (by decide) (lr1 2) h
theorem min1_c (h : FldAt f4' b cap W) : Calls Try.prog 31 #[FV f4' b cap,.int .i64 1] W (SlPost [1,1] W):=
 letI : Rho:=rhoN (r2 0 0)
 call_sl (chk_ok (noOrc_ok _) min1_k) (by decide) (lr1 1) h
end Go.Proofs.Ytllecfhfhcmpaaa
