/- Lists of rows of the call's own, each row in a block of numbers. -/
import Derived.Test.YteeofijcndgbfaaTe
import Derived.Test.YteeofijcndgbfaaEvTk
namespace Go.Proofs.Yteeofijcndgbfaa
open Go.RowKit Go.Fl
set_option maxRecDepth 100000
set_option linter.unusedVariables false
set_option linter.unusedSimpArgs false
set_option linter.unusedSectionVars false
structure OL (D : List (List Nat)) (us : List Value) (base : Nat) (w : World) (v : Value) : Prop where
 own : w.ownsRow base 27 1 v D.length us
 row : ∀ i,i < D.length → w.ownsRow 0 3 1 (us.getD i undef) (D.getD i []).length ((D.getD i []).map N64)
section
variable {D : List (List Nat)} {us : List Value} {n base : Nat} {w w' : World} {v v' : Value}
theorem OL.nil (base : Nat) (w : World) (hb : base ≤ w.heap.size) : OL [] [] base (w.alloc (.cells #[] 27)) (.slice (some ⟨w.heap.size,0,none⟩) 0 0):=
 ⟨World.ownsRow_made w #[] 0 hb (Nat.zero_le _) rfl,fun i hi=>absurd hi (by simp)⟩
theorem OL.ulen (h : OL D us base w v) : us.length = D.length:=by have:=h.own.1; omega
theorem OL.shape (h : OL D us base w v) : ∃ a c,v = .slice a D.length c:=by
 rcases h.own.2 with ⟨e,e2⟩ | ⟨g,cap,cur,e,_⟩
 ·exact ⟨none,0,by rw [e,e2]⟩
 ·exact ⟨_,_,e⟩
theorem own_bx2 {S : Nat → Prop} {e : TypeId} {size m : Nat} {xs : List Value} (h : w.ownsRow base e size v m xs) (hb : Bx S w w') (hs : ∀ k,v.ownBlock = some k → ¬ S k) : w'.ownsRow base e size v m xs:=by
 obtain ⟨h1,h2⟩:=h
 refine ⟨h1,h2.imp_right ?_⟩
 rintro ⟨g,cap,cur,rfl,a2,a3,a4⟩
 have hg : g < w.heap.size:=by
  rcases Nat.lt_or_ge g w.heap.size with h | h
  ·exact h
  ·rw [Array.getElem?_eq_none h] at a3; cases a3
 exact ⟨g,cap,cur,rfl,a2,(hb.block g hg (hs g rfl)).trans a3,a4⟩
theorem own_ty {b1 b2 : Nat} {e1 e2 : TypeId} {s1 s2 m1 m2 : Nat} {x1 x2 : List Value} (h1 : w.ownsRow b1 e1 s1 v m1 x1) (h2 : w.ownsRow b2 e2 s2 v' m2 x2) (hne : e1 ≠ e2) : ∀ k,v.ownBlock = some k → ¬ (some k = v'.ownBlock):=by
 intro k hk he
 rcases h1.2 with ⟨rfl,_⟩ | ⟨g,cap,cur,rfl,_,g3,_⟩
 ·cases hk
 ·injection hk with hk
  rcases h2.2 with ⟨rfl,_⟩ | ⟨g',cap',cur',rfl,_,g3',_⟩
  ·cases he
  ·injection he with he
   have e : g = g':=hk.trans he
   rw [e,g3'] at g3
   injection g3 with g3
   injection g3 with _ g3 _
   exact hne g3.symm
theorem OL.below (h : OL D us base w v) (hb : Below w.heap.size w w') : OL D us base w' v:=
 ⟨own_belowK h.own hb,fun i hi=>own_belowK (h.row i hi) hb⟩
theorem OL.push (h : OL D us base w v) {L : List Nat} {u : Value} (hr : w.ownsRow 0 3 1 u L.length (L.map N64)) {m : Nat} (hm : m = D.length + 1) (hown : w'.ownsRow base 27 1 v' m (us ++ [u])) (hg : w.grownBy w' v.ownBlock) : OL (D ++ [L]) (us ++ [u]) base w' v':=by
 subst hm
 have hbx : Bx (fun k=>some k = v.ownBlock) w w':=⟨hg.os,hg.tape,hg.output,hg.size,hg.block⟩
 refine ⟨by rw [List.length_append,List.length_singleton]; exact hown,fun i hi=>?_⟩
 rw [List.length_append,List.length_singleton] at hi
 rw [getD_snoc,getD_snoc,h.ulen]
 by_cases e : i < D.length
 ·rw [if_pos e,if_pos e]; exact own_bx2 (h.row i e) hbx (own_ty (h.row i e) h.own (by decide))
 ·have e2 : i = D.length:=by omega
  rw [if_neg e,if_neg e,if_pos e2,if_pos e2]; exact own_bx2 hr hbx (own_ty hr h.own (by decide))
theorem OL.mm (h : OL D us base w v) : MM D w v:=by
 rcases h.own.2 with ⟨e,e2⟩ | ⟨g,cap,cur,rfl,h3,h4,h5,h6,h7,h8⟩
 ·exact .inl ⟨List.eq_nil_of_length_eq_zero e2,e⟩
 ·have hlt : g < w.heap.size:=by
   rcases Nat.lt_or_ge g w.heap.size with h | h
   ·exact h
   ·rw [Array.getElem?_eq_none h] at h4; cases h4
  refine .inr ⟨g,0,cap,rfl,h5,hlt,fun t ht=>?_⟩
  have hc:=h.own.cells (g:=g) rfl t (us.getD t undef) (by
   rw [List.getD_eq_getElem?_getD,List.getElem?_eq_getElem (by rw [h.ulen]; exact ht)]; rfl)
  have hadd : (⟨g,0,none⟩ : Addr).add t = ⟨g,t,none⟩:=by unfold Addr.add; split <;> simp_all
  rw [hadd] at hc
  have hn:=NN.of_owns (h.row t ht)
  have hsh : ∃ a c,us.getD t undef = .slice a (D.getD t []).length c:=by
   rcases (h.row t ht).2 with ⟨e,e2⟩ | ⟨_,_,_,e,_⟩
   ·exact ⟨none,0,by rw [e,e2]⟩
   ·exact ⟨_,_,e⟩
  obtain ⟨a,c,hs⟩:=hsh
  rw [hs] at hc hn
  exact ⟨a,c,by rw [Nat.zero_add]; exact hc,hn⟩
end
def RwsP (F : Gf) (n m : Nat) (W : World) (e : Ending) (w' : World) : Prop:=∃ R,Mn F n R ∧ R.length = m ∧ MPost R W e w'
def RwsO (F : Gf) (n m : Nat) (W : World) (e : Ending) (w' : World) : Prop:=∃ R us a c,Mn F n R ∧ R.length = m ∧ e = .returned (.slice a m c) ∧ OL R us W.heap.size w' (.slice a m c) ∧ Below W.heap.size W w'
theorem RwsO.r {F : Gf} {n m : Nat} {W : World} {e : Ending} {w' : World} (h : RwsO F n m W e w') : RwsP F n m W e w':=by
 obtain ⟨R,us,a,c,h1,h2,h3,h4,h5⟩:=h
 subst h2
 exact ⟨R,h1,rfl,a,c,h3,h4.mm,h5⟩
theorem OL.weak {D : List (List Nat)} {us : List Value} {base b' : Nat} {w : World} {v : Value} (h : OL D us base w v) (hb : b' ≤ base) : OL D us b' w v:=⟨own_weak h.own hb,h.row⟩
abbrev SY (F : Gf) (b cap B gl i1 e1 i2 e2 b1 o1 o2 : Nat) (u1 u2 : Value) (wr w : World) : Prop:=FBx B F b cap w ∧ w.cell? ⟨gl,i1,none⟩ = some (.int .i64 (e1 : Nat)) ∧ w.cell? ⟨gl,i2,none⟩ = some (.int .i64 (e2 : Nat)) ∧ w.cell? ⟨b1,o1,none⟩ = some u1 ∧ w.cell? ⟨b1,o2,none⟩ = some u2 ∧ Hid (FldAt F b cap w ∧ Below wr.heap.size wr w ∧ B < w.heap.size ∧ gl < w.heap.size ∧ b1 < w.heap.size)
theorem SY.keep {F : Gf} {b cap B gl i1 e1 i2 e2 b1 o1 o2 : Nat} {u1 u2 : Value} {wr w w' : World} (h : SY F b cap B gl i1 e1 i2 e2 b1 o1 o2 u1 u2 wr w) (hb : Below w.heap.size w w') : SY F b cap B gl i1 e1 i2 e2 b1 o1 o2 u1 u2 wr w':=
 ⟨h.1.below hb h.2.2.2.2.2.out.2.2.1,(hb.cell h.2.2.2.2.2.out.2.2.2.1).trans h.2.1,(hb.cell h.2.2.2.2.2.out.2.2.2.1).trans h.2.2.1,(hb.cell h.2.2.2.2.2.out.2.2.2.2).trans h.2.2.2.1,(hb.cell h.2.2.2.2.2.out.2.2.2.2).trans h.2.2.2.2.1,Lib.hid ⟨h.2.2.2.2.2.out.1.below hb,h.2.2.2.2.2.out.2.1.trans (hb.mono h.2.2.2.2.2.out.2.1.size),Nat.lt_of_lt_of_le h.2.2.2.2.2.out.2.2.1 hb.size,Nat.lt_of_lt_of_le h.2.2.2.2.2.out.2.2.2.1 hb.size,Nat.lt_of_lt_of_le h.2.2.2.2.2.out.2.2.2.2 hb.size⟩⟩
set_option maxHeartbeats 6400000 in
theorem rows_o {F : Gf} {b cap n m l ca : Nat} {aa : Option Addr} {W : World} (hA : FldAt F b cap W) (h1 : 1 ≤ n) (hn : n ≤ 8) (hm : m ≤ 6) (hl : l ≤ maxLen) (na : N16 l W (.slice aa l ca)) :
  Calls Try.prog 11 #[FV F b cap,.int .i64 (n : Nat),.int .i64 (m : Nat),.slice aa l ca] W (RwsO F n m W):=by
 obtain ⟨i0,hi,hz0,hz1,hz2⟩:=info_parts info3
 obtain ⟨j0,ji,jz0,jz1,jz2⟩:=info_parts info27
 have HFF : Hid (Ok F):=Lib.hid (ok_mem hA.mem)
 obtain ⟨w1,hw1⟩ : ∃ w1,w1 = W.alloc (.cells #[.int .i64 F.p,.int .i64 F.e,FM F b cap] 29):=⟨_,rfl⟩
 have HAL : Hid (Below W.heap.size W w1):=Lib.hid (by rw [hw1]; exact (Below.refl _ _).alloc (Nat.le_refl _) _)
 have HS1 : Hid (w1.heap.size = W.heap.size + 1):=Lib.hid (by rw [hw1]; simp)
 have HFB : Hid (FBx W.heap.size F b cap w1):=Lib.hid (by rw [hw1]; exact FBx.new W F b cap)
 have HF1:=Lib.hid (hA.below HAL.out)
 have HBb : Hid (b < W.heap.size):=Lib.hid hA.lt
 have HML:=Lib.hid hl
 have hl63 : (l : Int) ≤ 9223372036854775807:=by unfold maxLen at hl; omega
 obtain ⟨w2,hw2⟩ : ∃ w2,w2 = w1.alloc (.cells #[] 27):=⟨_,rfl⟩
 have HB2 : Hid (Below (W.heap.size + 1) w1 w2):=Lib.hid (by rw [hw2]; exact (Below.refl _ _).alloc (by rw [HS1.out]; exact Nat.le_refl _) _)
 have HO2 : Hid (OL [] [] (W.heap.size + 1) w2 (.slice (some ⟨W.heap.size + 1,0,none⟩) 0 0)):=Lib.hid (by rw [hw2]; have:=OL.nil (W.heap.size + 1) w1 (by rw [HS1.out]; exact Nat.le_refl _); rwa [HS1.out] at this)
 have HS2 : Hid (w2.heap.size = W.heap.size + 2):=Lib.hid (by rw [hw2]; simp [HS1.out])
 have HNA:=Lib.hid (na.below HAL.out)
 have HW2:=Lib.hid (by rw [hw1] at hw2; exact hw2)
 obtain ⟨f0,f1,f2⟩:=fbx_below HFB.out HB2.out (Nat.lt_succ_self _)
 obtain ⟨nm,hnm⟩ : ∃ x,Hid (n * m = x):=⟨_,Lib.hid rfl⟩
 have HNM : Hid (nm ≤ 48):=Lib.hid (by rw [← hnm.out]; exact Nat.mul_le_mul hn hm)
 have hmul : (n : Int) * (m : Int) = (nm : Int):=by rw [← hnm.out]; push_cast; rfl
 have hnm48:=HNM.out
 have HLI : Hid (Calls Try.prog 12 #[FV F b cap,.int .i64 (nm : Nat),.slice aa l ca] w2 (LPostO F nm w2)):=Lib.hid (list_o (fld_below HF1.out HB2.out (Nat.lt_succ_of_lt HBb.out)) (by omega) hl ((HNA.out.below (HB2.out.mono (by rw [HS1.out]; exact Nat.le_refl _)))))
 clear hA na hw1 hw2 hl
 go_enter Try.func11,Try.ntmps11
 go_wp2_with fail
 rw [← HW2.out]
 clear HW2
 with_reducible refine HLI.out.mono ?_
 rintro z w3 ⟨L,HL,al,cl,rfl,ho3,hb3⟩
 rw [HL.len] at ho3 ⊢
 have HVL:=Lib.hid HL
 have HL3 : Hid (w3.ownsRow 0 3 1 (.slice al nm cl) nm (L.map N64)):=Lib.hid (own_weak ho3 (Nat.zero_le _))
 have HO3:=Lib.hid (HO2.out.below hb3)
 have KB3 : Hid (Below (W.heap.size + 1) w1 w3):=Lib.hid (HB2.out.trans (hb3.mono (by rw [HS2.out]; omega)))
 clear HL ho3 hb3 HLI f0 f1 f2
 go_wp2
 go_loopw [9,11] (fun v i wr=>∃ (k : Nat) (D : List (List Nat)) (us : List Value),k ≤ m ∧ i = .int .i64 k ∧ Hid (OL D us (W.heap.size + 1) wr v) ∧ Hid (D.length = k ∧ Mn F n D) ∧ Hid (wr.ownsRow 0 3 1 (.slice al nm cl) nm (L.map N64)) ∧ Hid (Below (W.heap.size + 1) w1 wr)) (fun _ i _=>m - (intOf i).toNat)
 case atStart=>exact ⟨0,[],[],Nat.zero_le _,rfl,HO3,Lib.hid ⟨rfl,fun x hx=>by cases hx⟩,HL3,KB3⟩
 case round =>
  obtain ⟨k,D,us,hk,rfl,HO,HD,HLW,KB⟩:=hrel
  obtain ⟨aP,cP,hvs⟩:=HO.out.shape
  rw [HD.out.1] at hvs
  subst hvs
  by_cases hlt : k < m
  ·have hk5 : k < 6:=by omega
   obtain ⟨kn,hkn⟩ : ∃ x,Hid (k * n = x):=⟨_,Lib.hid rfl⟩
   have HKN : Hid (kn + n ≤ nm):=Lib.hid (by rw [← hkn.out,← hnm.out]; calc k * n + n = (k + 1) * n:=by rw [Nat.add_mul,Nat.one_mul]
    _ ≤ m * n:=Nat.mul_le_mul_right n hlt
    _ = n * m:=Nat.mul_comm _ _)
   have hkn2:=HKN.out
   have HGL : Hid (∃ gl,al = some ⟨gl,0,none⟩ ∧ nm ≤ cl ∧ gl < wr.heap.size ∧ ∀ j,j < nm → wr.cell? ⟨gl,j,none⟩ = some (.int .i64 (L.getD j 0 : Nat))):=Lib.hid (by
    rcases HLW.out.2 with ⟨e,e2⟩ | ⟨g,cap',cur,e,h3,h4,h5,h6,h7,h8⟩
    ·omega
    ·injection e with e1 e2 e3
     refine ⟨g,e1,by omega,?_,fun j hj=>?_⟩
     ·rcases Nat.lt_or_ge g wr.heap.size with h | h
      ·exact h
      ·rw [Array.getElem?_eq_none h] at h4; cases h4
     ·have hc:=HLW.out.cells (g:=g) (by rw [e1]; rfl) j (N64 (L.getD j 0)) (by
       rw [List.getElem?_map,List.getD_eq_getElem?_getD,List.getElem?_eq_getElem (by rw [HVL.out.len]; exact hj)]; rfl)
      have hadd : (⟨g,0,none⟩ : Addr).add j = ⟨g,j,none⟩:=by unfold Addr.add; split <;> simp_all
      rw [hadd] at hc
      exact hc)
   obtain ⟨gl,hal,hcl,hgl,hcells⟩:=HGL.out
   subst hal
   have HCE:=Lib.hid hcells
   have HGS:=Lib.hid hgl
   clear hcells HGL hgl
   have hm1 : (k : Int) * (n : Int) = (kn : Int):=by rw [← hkn.out]; push_cast; rfl
   have hm2 : ((k : Int) + 1) * (n : Int) = ((kn + n : Nat) : Int):=by rw [← hkn.out]; push_cast; rw [Int.add_mul,Int.one_mul]
   have hsub : ((kn + n : Nat) : Int) - (kn : Int) = (n : Int):=by omega
   obtain ⟨ROW,hROW⟩ : ∃ R,Hid ((L.drop kn).take n = R):=⟨_,Lib.hid rfl⟩
   have HRL : Hid (ROW.length = n):=Lib.hid (by rw [← hROW.out,List.length_take,List.length_drop,HVL.out.len]; omega)
   have HRV : Hid (Vn F n ROW):=Lib.hid ⟨HRL.out,fun x hx=>HVL.out.el x (by rw [← hROW.out] at hx; exact List.mem_of_mem_drop (List.mem_of_mem_take hx))⟩
   obtain ⟨w4,hw4⟩ : ∃ w,w = wr.alloc (.cells #[] 3):=⟨_,rfl⟩
   have HE4 : Hid (w4.ownsRow wr.heap.size 3 1 (.slice (some ⟨wr.heap.size,0,none⟩) 0 0) 0 []):=Lib.hid (by rw [hw4]; exact own_empty wr wr.heap.size (Nat.le_refl _))
   have HB4 : Hid (Below wr.heap.size wr w4):=Lib.hid (by rw [hw4]; exact (Below.refl _ _).alloc (Nat.le_refl _) _)
   have HC4 : Hid (∀ j u,(ROW.map N64)[j]? = some u → w4.cell? ((⟨gl,kn,none⟩ : Addr).add j) = some u):=Lib.hid (by
    intro j u hu
    rw [List.getElem?_map,Option.map_eq_some_iff] at hu
    obtain ⟨x,hx,rfl⟩:=hu
    have hj : j < n:=by
     rcases Nat.lt_or_ge j n with h | h
     ·exact h
     ·rw [List.getElem?_eq_none (by rw [HRL.out]; exact h)] at hx; cases hx
    rw [← hROW.out,List.getElem?_take_of_lt hj,List.getElem?_drop] at hx
    have hadd : (⟨gl,kn,none⟩ : Addr).add j = ⟨gl,kn + j,none⟩:=by unfold Addr.add; split <;> simp_all
    rw [hadd,HB4.out.cell (p:=⟨gl,kn + j,none⟩) HGS.out,HCE.out (kn + j) (by omega),List.getD_eq_getElem?_getD,hx]; rfl)
   have HW4:=Lib.hid hw4
   clear hw4
   go_wp2_with (at_builtin; rw [← HW4.out,Nat.add_sub_cancel_left]; refine wpList_append_own _ rfl _ _ 27 rfl wr.heap.size 3 i0 (.int .i64 0) 1 8 Try.underlying27 hi hz0 hz1 hz2 rfl (by decide) _ _ _ rfl HE4.out ⟨gl,kn,none⟩ n (cl - kn) (ROW.map N64) rfl ?c2 HC4.out (fun u hu=>by obtain ⟨x,_,rfl⟩:=List.mem_map.1 hu; rfl) ?c3 ?c4 ?c5 ?_)
   case c2=>rw [List.length_map,HRL.out,Nat.mul_one]
   case c3=>unfold maxLen; omega
   case c4=>omega
   case c5=>exact HB4.out.size
   intro v' w5 hown' hgrow hnil
   obtain ⟨aR,cR,hvs⟩ : ∃ a c,v' = .slice a n c:=by
    rcases hown'.2 with ⟨e,e2⟩ | ⟨_,_,_,e,_⟩
    ·omega
    ·exact ⟨_,_,e⟩
   subst hvs
   have HB5 : Hid (Below wr.heap.size wr w5):=Lib.hid (HB4.out.trans (Bx.below (Bx.grown hgrow fun j hj=>(HE4.out.lt j hj).1) HB4.out.size fun j hj=>hj))
   have HR5 : Hid (w5.ownsRow 0 3 1 (.slice aR n cR) n (ROW.map N64)):=Lib.hid (own_weak hown' (Nat.zero_le _))
   have HKS : Hid (W.heap.size + 1 ≤ wr.heap.size):=Lib.hid (by have:=KB.out.size; have:=HS1.out; omega)
   have HO5:=Lib.hid (HO.out.below HB5.out)
   have HL5:=Lib.hid (own_belowK HLW.out HB5.out)
   have KB5 : Hid (Below (W.heap.size + 1) w1 w5):=Lib.hid (KB.out.trans (HB5.out.mono HKS.out))
   have HC5 : Hid (∀ j,j < nm → w5.cell? ⟨gl,j,none⟩ = some (.int .i64 (L.getD j 0 : Nat))):=Lib.hid (fun j hj=>(HB5.out.cell (p:=⟨gl,j,none⟩) HGS.out).trans (HCE.out j hj))
   have HG5 : Hid (gl < w5.heap.size):=Lib.hid (Nat.lt_of_lt_of_le HGS.out HB5.out.size)
   have HK5 : Hid (W.heap.size + 1 ≤ w5.heap.size):=Lib.hid (Nat.le_trans HKS.out HB5.out.size)
   clear hown' hgrow hnil HC4 HE4 HB4 hm1 hm2 hsub
   go_upto_region 7 with fail
   go_cut [53] (fun v wx=>∃ bb : Bool,v = .bool bb ∧ Hid (bb = true → 1 < k) ∧ Hid (wx = w5))
   case first =>
    by_cases hk1 : 1 < k
    ·have hk1i : (1 : Int) < (k : Int):=by omega
     by_cases hl0 : l = 0
     ·subst hl0
      go_wp2_with fail
      go_meet
      case rel=>exact ⟨false,rfl,Lib.hid (fun _=>hk1),Lib.hid rfl⟩
     ·have hlp : (0 : Int) < (l : Int):=by omega
      obtain ⟨kq,hkq⟩ : ∃ q,Hid (k % l = q):=⟨_,Lib.hid rfl⟩
      have hql : kq < l:=by rw [← hkq.out]; exact Nat.mod_lt _ (by omega)
      have hmod : (k : Int).tmod (l : Int) = (kq : Int):=by rw [← hkq.out]; exact (Int.ofNat_tmod k l).symm
      have hmod2 : (k : Int) % (l : Int) = (kq : Int):=by rw [← hkq.out]; push_cast; rfl
      obtain ⟨b1,o1,u,rfl,hl1,hu,hc1⟩:=HNA.out.at hql
      rw [HS1.out] at hl1
      have hc1:=(KB5.out.cell (p:=⟨b1,o1 + kq,none⟩) hl1).trans hc1
      have hl0i : ¬ (l : Int) = 0:=by omega
      go_wp2_with fail
      go_meet
      case rel=>exact ⟨_,rfl,Lib.hid (fun _=>hk1),Lib.hid rfl⟩
    ·have hk1i : ¬ (1 : Int) < (k : Int):=by omega
     go_wp2_with fail
     go_meet
     case rel=>exact ⟨false,rfl,Lib.hid (fun h=>by cases h),Lib.hid rfl⟩
   case rest =>
    obtain ⟨bb,rfl,HBB,HWE⟩:=hcut
    obtain ⟨wo,hwo⟩ : ∃ w,w = wc:=⟨_,rfl⟩
    subst hwo
    have hwe:=HWE.out
    subst hwe
    go_upto_if 53 with fail
    go_cut [12] (fun v wx=>∃ (R : List Nat) (a : Option Addr) (c : Nat),v = .slice a n c ∧ Hid (Vn F n R) ∧ Hid (wx.ownsRow 0 3 1 (.slice a n c) n (R.map N64)) ∧ Hid (Below wo.heap.size wo wx))
    case first =>
     cases bb
     ·go_wp2_with fail
      go_meet
      case rel=>exact ⟨ROW,aR,cR,rfl,HRV,HR5,Lib.hid (Below.refl _ _)⟩
     ·have hk1:=HBB.out rfl
      obtain ⟨k1,hk1e⟩ : ∃ x,Hid (k = x + 1):=⟨k - 1,Lib.hid (by omega)⟩
      obtain ⟨k2,hk2e⟩ : ∃ x,Hid (k = x + 2):=⟨k - 2,Lib.hid (by omega)⟩
      have hd1 : (k : Int) - 1 = (k1 : Int):=by have:=hk1e.out; omega
      have hd2 : (k : Int) - 2 = (k2 : Int):=by have:=hk2e.out; omega
      have hwr1 : IntKind.i64.wrap (k1 : Int) = (k1 : Int):=IntWalk.i64_in _ (by have:=hk1e.out; omega)
      have hwr2 : IntKind.i64.wrap (k2 : Int) = (k2 : Int):=IntWalk.i64_in _ (by have:=hk2e.out; omega)
      have hlt1 : k1 < k:=by have:=hk1e.out; omega
      have hlt2 : k2 < k:=by have:=hk2e.out; omega
      have hkle : k ≤ kn:=by rw [← hkn.out]; calc k = k * 1:=(Nat.mul_one k).symm
       _ ≤ k * n:=Nat.mul_le_mul_left k h1
      have hknm : k < nm:=by omega
      have hknm2 : kn < nm:=by omega
      have hwrn : IntKind.i64.wrap (kn : Int) = (kn : Int):=IntWalk.i64_in _ (by omega)
      have hmul2 : (k : Int) * (n : Int) = (kn : Int):=by rw [← hkn.out]; push_cast; rfl
      obtain ⟨R1,hR1⟩ : ∃ L,Hid (D.getD k1 [] = L):=⟨_,Lib.hid rfl⟩
      obtain ⟨R0,hR0⟩ : ∃ L,Hid (D.getD k2 [] = L):=⟨_,Lib.hid rfl⟩
      have HV1 : Hid (Vn F n R1):=Lib.hid (by rw [← hR1.out]; exact mrow HD.out.2 (by rw [HD.out.1]; exact hlt1))
      have HV0 : Hid (Vn F n R0):=Lib.hid (by rw [← hR0.out]; exact mrow HD.out.2 (by rw [HD.out.1]; exact hlt2))
      have HMM : Hid (MM D wo (.slice aP D.length cP)):=Lib.hid (by rw [HD.out.1]; exact HO5.out.mm)
      obtain ⟨b1,o1,hap,a1,c1,hc1,hn1⟩:=MM.at HMM.out (k:=k1) (by rw [HD.out.1]; exact hlt1)
      obtain ⟨b2,o2,hap2,a0,c0,hc0,hn0⟩:=MM.at HMM.out (k:=k2) (by rw [HD.out.1]; exact hlt2)
      rw [hap] at hap2
      injection hap2 with hap2
      injection hap2 with e1 e2 e3
      subst e1 e2 hap
      rw [hR1.out,HV1.out.len] at hc1 hn1
      rw [hR0.out,HV0.out.len] at hc0 hn0
      have HN1:=Lib.hid hn1
      have HN0:=Lib.hid hn0
      obtain ⟨x1,hx1⟩ : ∃ x,Hid (L.getD k 0 = x):=⟨_,Lib.hid rfl⟩
      obtain ⟨x2,hx2⟩ : ∃ x,Hid (L.getD kn 0 = x):=⟨_,Lib.hid rfl⟩
      have HQ1 : Hid (x1 < F.q):=Lib.hid (by rw [← hx1.out]; exact HVL.out.el.get HFF.out k)
      have HQ2 : Hid (x2 < F.q):=Lib.hid (by rw [← hx2.out]; exact HVL.out.el.get HFF.out kn)
      have hg1:=HC5.out k hknm
      have hg2:=HC5.out kn hknm2
      rw [hx1.out] at hg1
      rw [hx2.out] at hg2
      obtain ⟨g0,g1,g2⟩:=fbx_below HFB.out KB5.out (Nat.lt_succ_self _)
      have hS0 : SY F b cap W.heap.size gl k x1 kn x2 b1 (o1 + k1) (o1 + k2) (.slice a1 n c1) (.slice a0 n c0) wo wo.drew:=
       ⟨⟨g0,g1,g2⟩,hg1,hg2,hc1,hc0,Lib.hid ⟨(fld_below HF1.out KB5.out (Nat.lt_succ_of_lt HBb.out)).bx (Bx.refl (fun _=>False) _).drew id,(Below.refl _ _).drew,by have:=HK5.out; show W.heap.size < wo.heap.size; omega,HG5.out,World.block_lt_of_cell? wo _ hc1⟩⟩
      clear hn1 hn0 hc1 hc0 hg1 hg2 g0 g1 g2
      go_wp2_with fail
      refine wp_region_held_drew (S:=fun w'=>SY F b cap W.heap.size gl k x1 kn x2 b1 (o1 + k1) (o1 + k2) (.slice a1 n c1) (.slice a0 n c0) wo w') (by kernel_rfl) (by with_reducible exact hS0) (fun hHeld=>?_)
      refine Rg.tk 0 ⟨some 54,.load 29 (.tmp 4),29,"ref.go:299",#[],none⟩ ?_
      try simp only [Rg.gp]
      refine Rg.tk 1 ⟨some 55,.load 29 (.tmp 4),29,"ref.go:299",#[],none⟩ ?_
      try simp only [Rg.gp]
      refine Rg.tk 2 ⟨some 56,.move (.tmp 10),27,"ref.go:299",#[],none⟩ ?_
      try simp only [Rg.gp]
      refine Rg.tk 3 ⟨some 57,.move (.tmp 11),3,"ref.go:299",#[],none⟩ ?_
      try simp only [Rg.gp]
      refine Rg.tk 4 ⟨some 58,.indexAddr 27 (.tmp 56) (.tmp 57),0,"ref.go:299",#[⟨2,.data⟩,⟨3,.data⟩],none⟩ ?_
      try simp only [Rg.gp]
      refine Rg.tk 5 ⟨some 59,.load 3 (.tmp 58),3,"ref.go:299",#[⟨4,.data⟩],none⟩ ?_
      try simp only [Rg.gp]
      refine Rg.tk 6 ⟨some 60,.move (.tmp 9),30,"ref.go:299",#[],none⟩ ?_
      try simp only [Rg.gp]
      refine Rg.tk 7 ⟨some 61,.move (.tmp 11),3,"ref.go:299",#[],none⟩ ?_
      try simp only [Rg.gp]
      refine Rg.tk 8 ⟨some 62,.binOp BinOp.sub 3 (.tmp 61) (.const (Value.int IntKind.i64 1)) 3,3,"ref.go:299",#[⟨7,.data⟩],none⟩ ?_
      try simp only [Rg.gp]
      refine Rg.tk 9 ⟨some 63,.indexAddr 30 (.tmp 60) (.tmp 62),0,"ref.go:299",#[⟨6,.data⟩,⟨8,.data⟩],none⟩ ?_
      try simp only [Rg.gp]
      refine Rg.tk 10 ⟨some 64,.load 27 (.tmp 63),27,"ref.go:299",#[⟨9,.data⟩],none⟩ ?_
      try simp only [Rg.gp]
      refine Rg.tk 12 ⟨some 66,.move (.tmp 10),27,"ref.go:299",#[],none⟩ ?_
      try simp only [Rg.gp]
      refine Rg.tk 13 ⟨some 67,.move (.tmp 11),3,"ref.go:299",#[],none⟩ ?_
      try simp only [Rg.gp]
      refine Rg.tk 14 ⟨some 68,.move (.tmp 1),3,"ref.go:299",#[],none⟩ ?_
      try simp only [Rg.gp]
      refine Rg.tk 15 ⟨some 69,.binOp BinOp.mul 3 (.tmp 67) (.tmp 68) 3,3,"ref.go:299",#[⟨13,.data⟩,⟨14,.data⟩],none⟩ ?_
      try simp only [Rg.gp]
      refine Rg.tk 16 ⟨some 70,.indexAddr 27 (.tmp 66) (.tmp 69),0,"ref.go:299",#[⟨12,.data⟩,⟨15,.data⟩],none⟩ ?_
      try simp only [Rg.gp]
      refine Rg.tk 17 ⟨some 71,.load 3 (.tmp 70),3,"ref.go:299",#[⟨16,.data⟩],none⟩ ?_
      try simp only [Rg.gp]
      refine Rg.tk 18 ⟨some 72,.move (.tmp 9),30,"ref.go:299",#[],none⟩ ?_
      try simp only [Rg.gp]
      refine Rg.tk 19 ⟨some 73,.move (.tmp 11),3,"ref.go:299",#[],none⟩ ?_
      try simp only [Rg.gp]
      refine Rg.tk 20 ⟨some 74,.binOp BinOp.sub 3 (.tmp 73) (.const (Value.int IntKind.i64 2)) 3,3,"ref.go:299",#[⟨19,.data⟩],none⟩ ?_
      try simp only [Rg.gp]
      refine Rg.tk 21 ⟨some 75,.indexAddr 30 (.tmp 72) (.tmp 74),0,"ref.go:299",#[⟨18,.data⟩,⟨20,.data⟩],none⟩ ?_
      try simp only [Rg.gp]
      refine Rg.tk 22 ⟨some 76,.load 27 (.tmp 75),27,"ref.go:299",#[⟨21,.data⟩],none⟩ ?_
      try simp only [Rg.gp]
      refine Rg.rd1 11 ⟨some 65,.call ⟨.value (.func 43),#[.tmp 55,.tmp 59,.tmp 64],#[29,3,27]⟩,27,"ref.go:299",#[⟨1,.data⟩,⟨5,.data⟩,⟨10,.data⟩],none⟩ fun K hK=>?_
      go_simp
      go_at_call 43
      with_reducible refine (times_c hHeld.2.2.2.2.2.out.1 (by omega) HV1.out HQ1.out (HN1.out.below hHeld.2.2.2.2.2.out.2.1)).mono ?_
      rintro z v1 ⟨a4,c4,rfl,hn4,hb4⟩
      have HTV : Hid (Vn F n (timV F x1 R1)):=Lib.hid (by unfold timV; rw [HV1.out.len]; exact moV_vn HFF.out (rep_vn HFF.out n))
      rw [HTV.out.len] at hn4 ⊢
      refine hK.out _ _ ?_ (fun hHeld=>?_)
      ·(try dsimp only)
       exact SY.keep hHeld hb4
      clear hK K
      try simp only [Rg.gp]
      refine Rg.rd1 23 ⟨some 77,.call ⟨.value (.func 41),#[.tmp 54,.tmp 65,.tmp 71,.tmp 76],#[29,27,3,27]⟩,27,"ref.go:299",#[⟨0,.data⟩,⟨11,.data⟩,⟨17,.data⟩,⟨22,.data⟩,⟨11,.chain⟩],none⟩ fun K hK=>?_
      go_simp
      go_at_call 41
      with_reducible refine (more_o hHeld.2.2.2.2.2.out.1 (by omega) HTV.out HV0.out HQ2.out hn4 (HN0.out.below hHeld.2.2.2.2.2.out.2.1)).mono ?_
      rintro z v2 ⟨a5,c5,rfl,hn5,hb5⟩
      rw [(moV_vn HFF.out HTV.out).len] at hn5 ⊢
      refine hK.out _ _ ?_ (fun hHeld=>?_)
      ·(try dsimp only)
       exact SY.keep hHeld hb5
      clear hK K
      try simp only [Rg.gp]
      refine Rg.tk 24 ⟨some 12,.assign (.tmp 77),27,"ref.go:299",#[⟨23,.data⟩,⟨23,.chain⟩,⟨0,.phase⟩,⟨1,.phase⟩,⟨2,.phase⟩,⟨3,.phase⟩,⟨4,.phase⟩,⟨5,.phase⟩,⟨6,.phase⟩,⟨7,.phase⟩,⟨8,.phase⟩,⟨9,.phase⟩,⟨10,.phase⟩,⟨11,.phase⟩,⟨12,.phase⟩,⟨13,.phase⟩,⟨14,.phase⟩,⟨15,.phase⟩,⟨16,.phase⟩,⟨17,.phase⟩,⟨18,.phase⟩,⟨19,.phase⟩,⟨20,.phase⟩,⟨21,.phase⟩,⟨22,.phase⟩,⟨23,.phase⟩],none⟩ ?_
      try simp only [Rg.gp]
      refine wpAnyH_done (by kernel_rfl) ?_ _
      have HRF : Hid (v2.ownsRow 0 3 1 (.slice a5 n c5) n ((moV F (timV F x1 R1) x2 R0).map N64)):=Lib.hid (own_weak hn5 (Nat.zero_le _))
      have HBF : Hid (Below wo.heap.size wo v2):=Lib.hid hHeld.2.2.2.2.2.out.2.1
      clear hHeld hS0 hn5 hn4
      go_wp2_with fail
      go_meet
      case rel=>exact ⟨_,a5,c5,rfl,Lib.hid (moV_vn HFF.out HTV.out),HRF,HBF⟩
    case rest =>
     obtain ⟨R2,a2,c2,rfl,HV2,HR2,HB6⟩:=hcut
     obtain ⟨w6,hw6⟩ : ∃ w,w = wc:=⟨_,rfl⟩
     subst hw6
     have HO6:=Lib.hid (HO5.out.below HB6.out)
     have HL6:=Lib.hid (own_belowK HL5.out HB6.out)
     have KB6 : Hid (Below (W.heap.size + 1) w1 w6):=Lib.hid (KB5.out.trans (HB6.out.mono HK5.out))
     have HK6 : Hid (W.heap.size + 1 ≤ w6.heap.size):=Lib.hid (Nat.le_trans HK5.out HB6.out.size)
     go_wp2_with (at_builtin; refine wpList_append_own_at _ rfl _ _ 30 rfl (W.heap.size + 1) 27 j0 (.slice none 0 0) 1 24 Try.underlying30 ji jz0 jz1 jz2 rfl (by decide) _ _ _ rfl (HO6.out.own.alloc _) ⟨w6.heap.size,0,none⟩ 1 1 [.slice a2 n c2] rfl rfl (cell_one_new _ _ _) (fun u hu=>by simp at hu; subst hu; rfl) ?d3 ?d4 ?d5 ?_)
     case d3=>have:=HD.out.1; unfold maxLen; omega
     case d4=>have:=HD.out.1; omega
     case d5=>have:=HK6.out; simp; omega
     intro v' w7 hown' hgrow hnil hat
     have hal2 : Below w6.heap.size w6 (w6.alloc (.cells #[.slice a2 n c2] 27)):=(Below.refl _ _).alloc (Nat.le_refl _) _
     have HO7 : Hid (OL (D ++ [R2]) (us ++ [.slice a2 n c2]) (W.heap.size + 1) w7 v'):=Lib.hid (OL.push (HO6.out.below hal2) (by rw [HV2.out.len]; exact own_belowK HR2.out hal2) (by rfl) hown' hgrow)
     have HS7 : Hid (Bx (fun j=>some j = (Value.slice aP D.length cP).ownBlock) (w6.alloc (.cells #[.slice a2 n c2] 27)) w7):=Lib.hid ⟨hgrow.os,hgrow.tape,hgrow.output,hgrow.size,fun j hj hs=>hgrow.block j hj (by rw [← HD.out.1]; exact hs)⟩
     have HL7 : Hid (w7.ownsRow 0 3 1 (.slice (some ⟨gl,0,none⟩) nm cl) nm (L.map N64)):=Lib.hid (own_bx2 (own_belowK HL6.out hal2) HS7.out (own_ty (own_belowK HL6.out hal2) (by rw [HD.out.1]; exact (HO6.out.below hal2).own) (by decide)))
     have HB7 : Hid (Below (W.heap.size + 1) w1 w7):=Lib.hid ((KB6.out.trans (hal2.mono HK6.out)).trans (Bx.below HS7.out (by have:=HK6.out; simp; omega) fun j hj=>(HO6.out.own.lt j (by rw [← HD.out.1]; exact hj.symm)).1))
     clear hown' hgrow hnil hat hal2
     go_wp2
     go_roundw
     case rel=>exact ⟨k + 1,D ++ [R2],us ++ [.slice a2 n c2],by omega,by go_num,HO7,Lib.hid ⟨by rw [List.length_append,HD.out.1]; rfl,fun x hx=>by
      rcases List.mem_append.1 hx with h | h
      ·exact HD.out.2 x h
      ·rw [List.mem_singleton] at h; subst h; exact HV2.out⟩,HL7,HB7⟩
     case measure=>simp [intOf]; omega
  ·obtain rfl : k = m:=by omega
   have hlt1 : ¬ (k : Int) < (k : Int):=by omega
   have HBF : Hid (Below W.heap.size W wr):=Lib.hid (HAL.out.trans (KB.out.mono (Nat.le_succ _)))
   have HMF : Hid (OL D us W.heap.size wr (.slice aP k cP)):=Lib.hid (HO.out.weak (Nat.le_succ _))
   go_wp2
   go_ret
   exact ⟨D,us,aP,cP,HD.out.2,HD.out.1,rfl,HMF.out,HBF.out⟩
theorem rows_c {F : Gf} {b cap n m l ca : Nat} {aa : Option Addr} {W : World} (hA : FldAt F b cap W) (h1 : 1 ≤ n) (hn : n ≤ 8) (hm : m ≤ 6) (hl : l ≤ maxLen) (na : N16 l W (.slice aa l ca)) :
  Calls Try.prog 11 #[FV F b cap,.int .i64 (n : Nat),.int .i64 (m : Nat),.slice aa l ca] W (RwsP F n m W):=(rows_o hA h1 hn hm hl na).mono fun _ _ h=>h.r
end Go.Proofs.Yteeofijcndgbfaa
