/- Same and Alike: lists and matrices are compared. -/
import Derived.Test.YteeofijcndgbfaaEvTk
import Derived.Test.YteeofijcndgbfaaSx
import Derived.Test.YteeofijcndgbfaaNy
namespace Go.Proofs.Yteeofijcndgbfaa
open Go.RowKit Go.Fl
set_option maxRecDepth 100000
set_option linter.unusedVariables false
set_option linter.unusedSimpArgs false
set_option linter.unusedSectionVars false
theorem ext_list {A B : List Nat} (hl : A.length = B.length) (h : ∀ t,t < A.length → A.getD t 0 = B.getD t 0) : A = B:=getDx hl h
set_option maxHeartbeats 3200000 in
theorem same_c {A B : List Nat} {aa ab : Option Addr} {ca cb : Nat} {W : World} (la : A.length ≤ 100000) (lb : B.length ≤ 100000) (na : NN A W (.slice aa A.length ca)) (nb : NN B W (.slice ab B.length cb)) :
  Calls Try.prog 20 #[.slice aa A.length ca,.slice ab B.length cb] W fun e w'=>e = .returned (.bool (decide (A = B))) ∧ Below W.heap.size W w':=by
 obtain ⟨lA,hA⟩ : ∃ l,Hid (A.length = l):=⟨_,Lib.hid rfl⟩
 obtain ⟨lB,hB⟩ : ∃ l,Hid (B.length = l):=⟨_,Lib.hid rfl⟩
 rw [hA.out] at la na ⊢
 rw [hB.out] at lb nb ⊢
 have HNA:=Lib.hid na
 have HNB:=Lib.hid nb
 clear na nb
 by_cases hl : lA = lB
 case neg =>
  have hq : ((lA : Int) != (lB : Int)) = true:=by simp; omega
  have HR : Hid (decide (A = B) = false):=Lib.hid (by
   rw [decide_eq_false_iff_not]; intro e; rw [e,hB.out] at hA; exact hl hA.out.symm)
  go_enter Try.func20,Try.ntmps20
  go_wp2
  go_ret
  exact ⟨by rw [HR.out]; rfl,Below.refl _ _⟩
 subst hl
 go_enter Try.func20,Try.ntmps20
 go_wp2
 go_loopw [5] (fun i wr=>∃ k : Nat,k ≤ lA ∧ i = .int .i64 k ∧ Hid (∀ t,t < k → A.getD t 0 = B.getD t 0) ∧ Hid (Below W.heap.size W wr)) (fun i _=>lA - (intOf i).toNat)
 case atStart=>exact ⟨0,Nat.zero_le _,rfl,Lib.hid (fun t ht=>absurd ht (by omega)),Below.refl _ _⟩
 case round =>
  obtain ⟨k,hk,rfl,KZ,KB⟩:=hrel
  by_cases hlt : k < lA
  ·obtain ⟨xx,hxx⟩ : ∃ x,Hid (A.getD k 0 = x):=⟨_,Lib.hid rfl⟩
   obtain ⟨yy,hyy⟩ : ∃ x,Hid (B.getD k 0 = x):=⟨_,Lib.hid rfl⟩
   obtain ⟨b1,o1,rfl,hc1⟩:=(HNA.out.below KB.out).atm hA.out hlt
   obtain ⟨b2,o2,rfl,hc2⟩:=(HNB.out.below KB.out).atm hB.out hlt
   rw [hxx.out] at hc1
   rw [hyy.out] at hc2
   have hk5 : k < 100000:=by omega
   have hS0 : wr.drew.cell? ⟨b1,o1 + k,none⟩ = some (.int .i64 (xx : Nat)) ∧ wr.drew.cell? ⟨b2,o2 + k,none⟩ = some (.int .i64 (yy : Nat)) ∧ Hid (Below wr.heap.size wr wr.drew):=⟨hc1,hc2,Lib.hid (Below.refl _ _).drew⟩
   clear hc1 hc2
   go_wp2_with fail
   refine wp_region_held_drew (S:=fun w'=>w'.cell? ⟨b1,o1 + k,none⟩ = some (.int .i64 (xx : Nat)) ∧ w'.cell? ⟨b2,o2 + k,none⟩ = some (.int .i64 (yy : Nat)) ∧ Hid (Below wr.heap.size wr w')) (by kernel_rfl) (by with_reducible exact hS0) (fun hHeld=>?_)
   refine Rg.tk 0 ⟨some 17,.move (.tmp 0),27,"ref.go:28",#[],none⟩ ?_
   try simp only [Rg.gp]
   refine Rg.tk 1 ⟨some 18,.move (.tmp 5),3,"ref.go:28",#[],none⟩ ?_
   try simp only [Rg.gp]
   refine Rg.tk 2 ⟨some 19,.indexAddr 27 (.tmp 17) (.tmp 18),0,"ref.go:28",#[⟨0,.data⟩,⟨1,.data⟩],none⟩ ?_
   try simp only [Rg.gp]
   refine Rg.tk 3 ⟨some 20,.load 3 (.tmp 19),3,"ref.go:28",#[⟨2,.data⟩],none⟩ ?_
   try simp only [Rg.gp]
   refine Rg.tk 4 ⟨some 21,.move (.tmp 1),27,"ref.go:28",#[],none⟩ ?_
   try simp only [Rg.gp]
   refine Rg.tk 5 ⟨some 22,.move (.tmp 5),3,"ref.go:28",#[],none⟩ ?_
   try simp only [Rg.gp]
   refine Rg.tk 6 ⟨some 23,.indexAddr 27 (.tmp 21) (.tmp 22),0,"ref.go:28",#[⟨4,.data⟩,⟨5,.data⟩],none⟩ ?_
   try simp only [Rg.gp]
   refine Rg.tk 7 ⟨some 24,.load 3 (.tmp 23),3,"ref.go:28",#[⟨6,.data⟩],none⟩ ?_
   try simp only [Rg.gp]
   refine Rg.tk 8 ⟨some 25,.binOp BinOp.neq 3 (.tmp 20) (.tmp 24) 3,4,"ref.go:28",#[⟨3,.data⟩,⟨7,.data⟩],none⟩ ?_
   try simp only [Rg.gp]
   refine wpAnyH_done (by kernel_rfl) ?_ _
   have KB':=Lib.hid (KB.out.trans (hHeld.2.2.out.mono KB.out.size))
   clear hHeld hS0
   by_cases hxy : xx = yy
   ·have hq : ((xx : Int) != (yy : Int)) = false:=by simp [hxy]
    have HXY:=Lib.hid hxy
    clear hxy
    go_wp2
    go_roundw
    case rel=>exact ⟨k + 1,by omega,by go_num,Lib.hid (fun t ht=>by
     by_cases e : t = k
     ·rw [e,hxx.out,hyy.out,HXY.out]
     ·exact KZ.out t (by omega)),KB'⟩
    case measure=>simp [intOf]; omega
   ·have hq : ((xx : Int) != (yy : Int)) = true:=by simp; omega
    have HR : Hid (decide (A = B) = false):=Lib.hid (by
     rw [decide_eq_false_iff_not]; intro e; rw [e,hyy.out] at hxx; exact hxy hxx.out.symm)
    go_wp2
    go_ret
    exact ⟨by rw [HR.out]; rfl,KB'.out⟩
  ·have HR : Hid (decide (A = B) = true):=Lib.hid (by
    rw [decide_eq_true_eq]; exact ext_list (hA.out.trans hB.out.symm) fun t ht=>KZ.out t (by rw [hA.out] at ht; omega))
   have hlt1 : ¬ (k : Int) < (lA : Int):=by omega
   have HBF:=Lib.hid KB.out
   go_wp2
   go_ret
   exact ⟨by rw [HR.out]; rfl,HBF.out⟩
set_option maxHeartbeats 3200000 in
theorem alike_c {A B : List (List Nat)} {aa ab : Option Addr} {ca cb : Nat} {W : World} (la : A.length ≤ 100000) (lb : B.length ≤ 100000) (ra : ∀ t,t < A.length → (A.getD t []).length ≤ 100000) (rb : ∀ t,t < B.length → (B.getD t []).length ≤ 100000) (na : MM A W (.slice aa A.length ca)) (nb : MM B W (.slice ab B.length cb)) :
  Calls Try.prog 14 #[.slice aa A.length ca,.slice ab B.length cb] W fun e w'=>e = .returned (.bool (decide (A = B))) ∧ Below W.heap.size W w':=by
 have HNA:=Lib.hid na
 have HNB:=Lib.hid nb
 have HRA:=Lib.hid ra
 have HRB:=Lib.hid rb
 clear na nb ra rb
 obtain ⟨lA,hA⟩ : ∃ l,Hid (A.length = l):=⟨_,Lib.hid rfl⟩
 obtain ⟨lB,hB⟩ : ∃ l,Hid (B.length = l):=⟨_,Lib.hid rfl⟩
 rw [hA.out] at la ⊢
 rw [hB.out] at lb ⊢
 by_cases hl : lA = lB
 case neg =>
  have hq : ((lA : Int) != (lB : Int)) = true:=by simp; omega
  have HR : Hid (decide (A = B) = false):=Lib.hid (by
   rw [decide_eq_false_iff_not]; intro e; rw [e,hB.out] at hA; exact hl hA.out.symm)
  go_enter Try.func14,Try.ntmps14
  go_wp2
  go_ret
  exact ⟨by rw [HR.out]; rfl,Below.refl _ _⟩
 subst hl
 go_enter Try.func14,Try.ntmps14
 go_wp2
 go_loopw [5] (fun i wr=>∃ k : Nat,k ≤ lA ∧ i = .int .i64 k ∧ Hid (∀ t,t < k → A.getD t [] = B.getD t []) ∧ Hid (Below W.heap.size W wr)) (fun i _=>lA - (intOf i).toNat)
 case atStart=>exact ⟨0,Nat.zero_le _,rfl,Lib.hid (fun t ht=>absurd ht (by omega)),Below.refl _ _⟩
 case round =>
  obtain ⟨k,hk,rfl,KZ,KB⟩:=hrel
  by_cases hlt : k < lA
  ·have hkA : k < A.length:=by rw [hA.out]; exact hlt
   have hkB : k < B.length:=by rw [hB.out]; exact hlt
   obtain ⟨xx,hxx⟩ : ∃ x,Hid (A.getD k [] = x):=⟨_,Lib.hid rfl⟩
   obtain ⟨yy,hyy⟩ : ∃ x,Hid (B.getD k [] = x):=⟨_,Lib.hid rfl⟩
   have HLX : Hid (xx.length ≤ 100000):=Lib.hid (by rw [← hxx.out]; exact HRA.out k hkA)
   have HLY : Hid (yy.length ≤ 100000):=Lib.hid (by rw [← hyy.out]; exact HRB.out k hkB)
   obtain ⟨b1,o1,rfl,a1,c1,hc1,hn1⟩:=(HNA.out.below KB.out).at hkA
   obtain ⟨b2,o2,rfl,a2,c2,hc2,hn2⟩:=(HNB.out.below KB.out).at hkB
   rw [hxx.out] at hc1 hn1
   rw [hyy.out] at hc2 hn2
   obtain ⟨bb,hbb⟩ : ∃ b,Hid (decide (xx = yy) = b):=⟨_,Lib.hid rfl⟩
   have HNX:=Lib.hid hn1
   have HNY:=Lib.hid hn2
   have HB12 : Hid (b1 < wr.heap.size ∧ b2 < wr.heap.size):=Lib.hid ⟨World.block_lt_of_cell? wr _ hc1,World.block_lt_of_cell? wr _ hc2⟩
   have hk5 : k < 100000:=by omega
   have hS0 : wr.drew.cell? ⟨b1,o1 + k,none⟩ = some (.slice a1 xx.length c1) ∧ wr.drew.cell? ⟨b2,o2 + k,none⟩ = some (.slice a2 yy.length c2) ∧ Hid (Below wr.heap.size wr wr.drew):=⟨hc1,hc2,Lib.hid (Below.refl _ _).drew⟩
   clear hc1 hc2 hn1 hn2 hkA hkB
   go_wp2_with fail
   refine wp_region_held_drew (S:=fun w'=>w'.cell? ⟨b1,o1 + k,none⟩ = some (.slice a1 xx.length c1) ∧ w'.cell? ⟨b2,o2 + k,none⟩ = some (.slice a2 yy.length c2) ∧ Hid (Below wr.heap.size wr w')) (by kernel_rfl) (by with_reducible exact hS0) (fun hHeld=>?_)
   refine Rg.tk 0 ⟨some 17,.move (.tmp 0),30,"ref.go:41",#[],none⟩ ?_
   try simp only [Rg.gp]
   refine Rg.tk 1 ⟨some 18,.move (.tmp 5),3,"ref.go:41",#[],none⟩ ?_
   try simp only [Rg.gp]
   refine Rg.tk 2 ⟨some 19,.indexAddr 30 (.tmp 17) (.tmp 18),0,"ref.go:41",#[⟨0,.data⟩,⟨1,.data⟩],none⟩ ?_
   try simp only [Rg.gp]
   refine Rg.tk 3 ⟨some 20,.load 27 (.tmp 19),27,"ref.go:41",#[⟨2,.data⟩],none⟩ ?_
   try simp only [Rg.gp]
   refine Rg.tk 4 ⟨some 21,.move (.tmp 1),30,"ref.go:41",#[],none⟩ ?_
   try simp only [Rg.gp]
   refine Rg.tk 5 ⟨some 22,.move (.tmp 5),3,"ref.go:41",#[],none⟩ ?_
   try simp only [Rg.gp]
   refine Rg.tk 6 ⟨some 23,.indexAddr 30 (.tmp 21) (.tmp 22),0,"ref.go:41",#[⟨4,.data⟩,⟨5,.data⟩],none⟩ ?_
   try simp only [Rg.gp]
   refine Rg.tk 7 ⟨some 24,.load 27 (.tmp 23),27,"ref.go:41",#[⟨6,.data⟩],none⟩ ?_
   try simp only [Rg.gp]
   refine Rg.rd1 8 ⟨some 25,.call ⟨.value (.func 20),#[.tmp 20,.tmp 24],#[27,27]⟩,4,"ref.go:41",#[⟨3,.data⟩,⟨7,.data⟩],none⟩ fun K hK=>?_
   go_simp
   go_at_call 20
   with_reducible refine (same_c HLX.out HLY.out (HNX.out.below hHeld.2.2.out) (HNY.out.below hHeld.2.2.out)).mono ?_
   rw [hbb.out]
   rintro z v1 ⟨rfl,hb3⟩
   refine hK.out _ _ ?_ (fun hHeld=>?_)
   ·(try dsimp only)
    exact ⟨(hb3.cell (Nat.lt_of_lt_of_le HB12.out.1 hHeld.2.2.out.size)).trans hHeld.1,(hb3.cell (Nat.lt_of_lt_of_le HB12.out.2 hHeld.2.2.out.size)).trans hHeld.2.1,Lib.hid (hHeld.2.2.out.trans (hb3.mono hHeld.2.2.out.size))⟩
   clear hK K
   try simp only [Rg.gp]
   refine Rg.tk 9 ⟨some 26,.unOp UnOp.not 4 (.tmp 25),4,"ref.go:41",#[⟨8,.data⟩],none⟩ ?_
   try simp only [Rg.gp]
   refine wpAnyH_done (by kernel_rfl) ?_ _
   have KB':=Lib.hid (KB.out.trans (hHeld.2.2.out.mono KB.out.size))
   clear hHeld hS0
   cases bb with
   | true =>
    have HXY : Hid (xx = yy):=Lib.hid (of_decide_eq_true hbb.out)
    go_wp2
    go_roundw
    case rel=>exact ⟨k + 1,by omega,by go_num,Lib.hid (fun t ht=>by
     by_cases e : t = k
     ·rw [e,hxx.out,hyy.out,HXY.out]
     ·exact KZ.out t (by omega)),KB'⟩
    case measure=>simp [intOf]; omega
   | false =>
    have HR : Hid (decide (A = B) = false):=Lib.hid (by
     rw [decide_eq_false_iff_not]; intro e; rw [e,hyy.out] at hxx; exact (of_decide_eq_false hbb.out) hxx.out.symm)
    go_wp2
    go_ret
    exact ⟨by rw [HR.out]; rfl,KB'.out⟩
  ·have HR : Hid (decide (A = B) = true):=Lib.hid (by
    rw [decide_eq_true_eq]; exact getDm (hA.out.trans hB.out.symm) fun t ht=>KZ.out t (by rw [hA.out] at ht; omega))
   have hlt1 : ¬ (k : Int) < (lA : Int):=by omega
   have HBF:=Lib.hid KB.out
   go_wp2
   go_ret
   exact ⟨by rw [HR.out]; rfl,HBF.out⟩
def moK (F : Gf) (V : List Nat) (c : Nat) (X : List Nat) (k : Nat) : List Nat:=(List.range k).map fun j=>F.add (V.getD j 0) (F.mul c (X.getD j 0))
def moV (F : Gf) (V : List Nat) (c : Nat) (X : List Nat) : List Nat:=moK F V c X V.length
theorem moK_succ (F : Gf) (V : List Nat) (c : Nat) (X : List Nat) (k : Nat) : moK F V c X (k + 1) = moK F V c X k ++ [F.add (V.getD k 0) (F.mul c (X.getD k 0))]:=by unfold moK; rw [List.range_succ,List.map_append]; rfl
theorem moK_len (F : Gf) (V : List Nat) (c : Nat) (X : List Nat) (k : Nat) : (moK F V c X k).length = k:=by simp [moK]
abbrev SU (F : Gf) (b cap B b1 o1 xx b2 o2 yy : Nat) (wr w : World) : Prop:=FBx B F b cap w ∧ w.cell? ⟨b1,o1,none⟩ = some (.int .i64 (xx : Nat)) ∧ w.cell? ⟨b2,o2,none⟩ = some (.int .i64 (yy : Nat)) ∧ Hid (FldAt F b cap w ∧ Below wr.heap.size wr w ∧ B < w.heap.size ∧ b1 < w.heap.size ∧ b2 < w.heap.size)
theorem SU.keep {F : Gf} {b cap B b1 o1 xx b2 o2 yy : Nat} {wr w w' : World} (h : SU F b cap B b1 o1 xx b2 o2 yy wr w) (hb : Below w.heap.size w w') : SU F b cap B b1 o1 xx b2 o2 yy wr w':=
 ⟨h.1.below hb h.2.2.2.out.2.2.1,(hb.cell h.2.2.2.out.2.2.2.1).trans h.2.1,(hb.cell h.2.2.2.out.2.2.2.2).trans h.2.2.1,Lib.hid ⟨h.2.2.2.out.1.below hb,h.2.2.2.out.2.1.trans (hb.mono h.2.2.2.out.2.1.size),Nat.lt_of_lt_of_le h.2.2.2.out.2.2.1 hb.size,Nat.lt_of_lt_of_le h.2.2.2.out.2.2.2.1 hb.size,Nat.lt_of_lt_of_le h.2.2.2.out.2.2.2.2 hb.size⟩⟩
abbrev SV (F : Gf) (b cap B b1 o1 xx b2 o2 yy base : Nat) (wr w : World) : Prop:=FBx B F b cap w ∧ w.cell? ⟨b1,o1,none⟩ = some (.int .i64 (xx : Nat)) ∧ w.cell? ⟨b2,o2,none⟩ = some (.int .i64 (yy : Nat)) ∧ Hid (FldAt F b cap w ∧ Below base wr w ∧ base ≤ w.heap.size ∧ B < base ∧ b1 < base ∧ b2 < base)
theorem SV.go {F : Gf} {b cap B b1 o1 xx b2 o2 yy base : Nat} {wr w w' : World} (h : SV F b cap B b1 o1 xx b2 o2 yy base wr w) (hb : Below base w w') (hbb : b < base) : SV F b cap B b1 o1 xx b2 o2 yy base wr w':=
 ⟨⟨(hb.cell h.2.2.2.out.2.2.2.1).trans h.1.1,(hb.cell h.2.2.2.out.2.2.2.1).trans h.1.2.1,(hb.cell h.2.2.2.out.2.2.2.1).trans h.1.2.2⟩,(hb.cell h.2.2.2.out.2.2.2.2.1).trans h.2.1,(hb.cell h.2.2.2.out.2.2.2.2.2).trans h.2.2.1,Lib.hid ⟨h.2.2.2.out.1.bx (S:=fun k=>base ≤ k) ⟨hb.os,hb.tape,hb.output,hb.size,fun k hk hs=>hb.block k (by omega)⟩ (by omega),h.2.2.2.out.2.1.trans hb,Nat.le_trans h.2.2.2.out.2.2.1 hb.size,h.2.2.2.out.2.2.2⟩⟩
theorem SV.keep {F : Gf} {b cap B b1 o1 xx b2 o2 yy base : Nat} {wr w w' : World} (h : SV F b cap B b1 o1 xx b2 o2 yy base wr w) (hb : Below w.heap.size w w') (hbb : b < base) : SV F b cap B b1 o1 xx b2 o2 yy base wr w':=h.go (hb.mono h.2.2.2.out.2.2.1) hbb
theorem DPost.v {L : List Nat} {W : World} {e : Ending} {w' : World} (h : DPost L W e w') : VPost L W e w':=by
 obtain ⟨a,c,h1,h2,h3⟩:=h
 exact ⟨a,c,h1,NN.of_owns h2,h3⟩
set_option maxHeartbeats 6400000 in
theorem more_o {F : Gf} {b cap n cc ca cx : Nat} {V X : List Nat} {aa ax : Option Addr} {W : World} (hA : FldAt F b cap W) (hn : n ≤ 1000) (mv : Vn F n V) (mx : Vn F n X) (hc : cc < F.q) (nv : NN V W (.slice aa n ca)) (nx : NN X W (.slice ax n cx)) :
  Calls Try.prog 41 #[FV F b cap,.slice aa n ca,.int .i64 (cc : Nat),.slice ax n cx] W (DPost (moV F V cc X) W):=by
 obtain ⟨i0,hi,hz0,hz1,hz2⟩:=info_parts info3
 have HFF : Hid (Ok F):=Lib.hid (ok_mem hA.mem)
 obtain ⟨w1,hw1⟩ : ∃ w1,w1 = W.alloc (.cells #[.int .i64 F.p,.int .i64 F.e,FM F b cap] 29):=⟨_,rfl⟩
 have HAL : Hid (Below W.heap.size W w1):=Lib.hid (by rw [hw1]; exact (Below.refl _ _).alloc (Nat.le_refl _) _)
 have HS1 : Hid (w1.heap.size = W.heap.size + 1):=Lib.hid (by rw [hw1]; simp)
 have HFB : Hid (FBx W.heap.size F b cap w1):=Lib.hid (by rw [hw1]; exact FBx.new W F b cap)
 have HF1:=Lib.hid (hA.below HAL.out)
 have HBb : Hid (b < W.heap.size):=Lib.hid hA.lt
 have HMV:=Lib.hid mv
 have HMX:=Lib.hid mx
 have HNV:=Lib.hid (nv.below HAL.out)
 have HNX:=Lib.hid (nx.below HAL.out)
 have HC:=Lib.hid hc
 obtain ⟨w2,hw2⟩ : ∃ w2,w2 = w1.alloc (.cells #[] 3):=⟨_,rfl⟩
 have HB2 : Hid (Below (W.heap.size + 1) w1 w2):=Lib.hid (by rw [hw2]; exact (Below.refl _ _).alloc (by rw [HS1.out]; exact Nat.le_refl _) _)
 have HO2 : Hid (w2.ownsRow (W.heap.size + 1) 3 1 (.slice (some ⟨W.heap.size + 1,0,none⟩) 0 0) 0 []):=Lib.hid (by rw [hw2]; have:=own_empty w1 (W.heap.size + 1) (by rw [HS1.out]; exact Nat.le_refl _); rwa [HS1.out] at this)
 have HW2:=Lib.hid (by rw [hw1] at hw2; exact hw2)
 obtain ⟨R,hR⟩ : ∃ R,Hid (moV F V cc X = R):=⟨_,Lib.hid rfl⟩
 rw [hR.out]
 have HRL : Hid (R.length = n):=Lib.hid (by rw [← hR.out]; unfold moV; rw [moK_len,mv.len])
 clear hA mv mx hc nv nx hw1 hw2
 go_enter Try.func41,Try.ntmps41
 go_wp2
 rw [← HW2.out]
 clear HW2
 go_loopw [9,10] (fun v i wr=>∃ (k : Nat) (aP : Option Addr) (cP : Nat),k ≤ n ∧ v = .slice aP k cP ∧ i = .int .i64 k ∧ Hid (wr.ownsRow (W.heap.size + 1) 3 1 (.slice aP k cP) k ((moK F V cc X k).map N64)) ∧ Hid (Below (W.heap.size + 1) w1 wr)) (fun _ i _=>n - (intOf i).toNat)
 case atStart=>exact ⟨0,_,_,Nat.zero_le _,rfl,rfl,HO2,HB2⟩
 case round =>
  obtain ⟨k,aP,cP,hk,rfl,rfl,HO,KB⟩:=hrel
  by_cases hlt : k < n
  ·have hk5 : k < 1000:=by omega
   obtain ⟨xx,hxx⟩ : ∃ x,Hid (V.getD k 0 = x):=⟨_,Lib.hid rfl⟩
   obtain ⟨yy,hyy⟩ : ∃ x,Hid (X.getD k 0 = x):=⟨_,Lib.hid rfl⟩
   have HXQ : Hid (xx < F.q):=Lib.hid (by rw [← hxx.out]; exact HMV.out.el.get HFF.out k)
   have HYQ : Hid (yy < F.q):=Lib.hid (by rw [← hyy.out]; exact HMX.out.el.get HFF.out k)
   obtain ⟨b1,o1,rfl,hc1⟩:=HNV.out.atm HMV.out.len hlt
   obtain ⟨b2,o2,rfl,hc2⟩:=HNX.out.atm HMX.out.len hlt
   rw [hxx.out] at hc1
   rw [hyy.out] at hc2
   have hl1:=World.block_lt_of_cell? w1 _ hc1
   have hl2:=World.block_lt_of_cell? w1 _ hc2
   rw [HS1.out] at hl1 hl2
   have HKS : Hid (W.heap.size + 1 ≤ wr.heap.size):=Lib.hid (by have:=KB.out.size; have:=HS1.out; omega)
   have HSUC : Hid (moK F V cc X (k + 1) = moK F V cc X k ++ [F.add xx (F.mul cc yy)]):=Lib.hid (by rw [moK_succ,hxx.out,hyy.out])
   obtain ⟨DT,hDT⟩ : ∃ D,Hid (moK F V cc X k = D):=⟨_,Lib.hid rfl⟩
   rw [hDT.out] at HO HSUC
   have hS0 : SV F b cap W.heap.size b1 (o1 + k) xx b2 (o2 + k) yy (W.heap.size + 1) wr wr.drew:=
    ⟨⟨(KB.out.cell (Nat.lt_succ_self _)).trans HFB.out.1,(KB.out.cell (Nat.lt_succ_self _)).trans HFB.out.2.1,(KB.out.cell (Nat.lt_succ_self _)).trans HFB.out.2.2⟩,(KB.out.cell hl1).trans hc1,(KB.out.cell hl2).trans hc2,
     Lib.hid ⟨(HF1.out.bx (S:=fun j=>W.heap.size + 1 ≤ j) ⟨KB.out.os,KB.out.tape,KB.out.output,KB.out.size,fun j hj hs=>KB.out.block j (by omega)⟩ (by have:=HBb.out; omega)).bx (Bx.refl (fun _=>False) wr).drew id,(Below.refl _ _).drew,HKS.out,Nat.lt_succ_self _,hl1,hl2⟩⟩
   have HBB : Hid (b < W.heap.size + 1):=Lib.hid (Nat.lt_succ_of_lt HBb.out)
   clear hc1 hc2 hl1 hl2
   go_wp2_with fail
   refine wp_region_held_drew (S:=fun w'=>SV F b cap W.heap.size b1 (o1 + k) xx b2 (o2 + k) yy (W.heap.size + 1) wr w') (by kernel_rfl) (by with_reducible exact hS0) (fun hHeld=>?_)
   refine Rg.tk 0 ⟨some 18,.move (.tmp 9),27,"ref.go:97",#[],none⟩ ?_
   try simp only [Rg.gp]
   refine Rg.tk 1 ⟨some 19,.load 29 (.tmp 4),29,"ref.go:97",#[],none⟩ ?_
   try simp only [Rg.gp]
   refine Rg.tk 2 ⟨some 20,.move (.tmp 1),27,"ref.go:97",#[],none⟩ ?_
   try simp only [Rg.gp]
   refine Rg.tk 3 ⟨some 21,.move (.tmp 10),3,"ref.go:97",#[],none⟩ ?_
   try simp only [Rg.gp]
   refine Rg.tk 4 ⟨some 22,.indexAddr 27 (.tmp 20) (.tmp 21),0,"ref.go:97",#[⟨2,.data⟩,⟨3,.data⟩],none⟩ ?_
   try simp only [Rg.gp]
   refine Rg.tk 5 ⟨some 23,.load 3 (.tmp 22),3,"ref.go:97",#[⟨4,.data⟩],none⟩ ?_
   try simp only [Rg.gp]
   refine Rg.tk 6 ⟨some 24,.load 29 (.tmp 4),29,"ref.go:97",#[],none⟩ ?_
   try simp only [Rg.gp]
   refine Rg.tk 7 ⟨some 25,.move (.tmp 2),3,"ref.go:97",#[],none⟩ ?_
   try simp only [Rg.gp]
   refine Rg.tk 8 ⟨some 26,.move (.tmp 3),27,"ref.go:97",#[],none⟩ ?_
   try simp only [Rg.gp]
   refine Rg.tk 9 ⟨some 27,.move (.tmp 10),3,"ref.go:97",#[],none⟩ ?_
   try simp only [Rg.gp]
   refine Rg.tk 10 ⟨some 28,.indexAddr 27 (.tmp 26) (.tmp 27),0,"ref.go:97",#[⟨8,.data⟩,⟨9,.data⟩],none⟩ ?_
   try simp only [Rg.gp]
   refine Rg.tk 11 ⟨some 29,.load 3 (.tmp 28),3,"ref.go:97",#[⟨10,.data⟩],none⟩ ?_
   try simp only [Rg.gp]
   refine Rg.rd1 12 ⟨some 30,.call ⟨.value (.func 67),#[.tmp 24,.tmp 25,.tmp 29],#[29,3,3]⟩,3,"ref.go:97",#[⟨6,.data⟩,⟨7,.data⟩,⟨11,.data⟩],none⟩ fun K hK=>?_
   go_simp
   go_at_call 67
   with_reducible refine (rmul_c HC.out HYQ.out hHeld.2.2.2.out.1).mono ?_
   rintro z v1 ⟨rfl,hb3⟩
   have HO1:=Lib.hid (own_belowK (w:=wr.drew) HO.out hb3)
   refine hK.out _ _ ?_ (fun hHeld=>?_)
   ·(try dsimp only)
    exact SV.keep hHeld hb3 HBB.out
   clear hK K
   try simp only [Rg.gp]
   refine Rg.rd1 13 ⟨some 31,.call ⟨.value (.func 66),#[.tmp 19,.tmp 23,.tmp 30],#[29,3,3]⟩,3,"ref.go:97",#[⟨1,.data⟩,⟨5,.data⟩,⟨12,.data⟩,⟨12,.chain⟩],none⟩ fun K hK=>?_
   go_simp
   go_at_call 66
   with_reducible refine (radd_c HXQ.out (HFF.out.mul_lt _ _) hHeld.2.2.2.out.1).mono ?_
   rintro z v2 ⟨rfl,hb4⟩
   have HO1:=Lib.hid (own_belowK HO1.out hb4)
   have HKS : Hid (W.heap.size + 1 ≤ v2.heap.size):=Lib.hid (Nat.le_trans hHeld.2.2.2.out.2.2.1 hb4.size)
   refine hK.out _ _ ?_ (fun hHeld=>?_)
   ·(try dsimp only)
    exact SV.keep hHeld hb4 HBB.out
   clear hK K
   try simp only [Rg.gp]
   refine Rg.rd1 14 ⟨some 32,.buildSlice 27 1 #[(0,.tmp 31)],27,"ref.go:97",#[⟨13,.data⟩],none⟩ fun K hK=>?_
   go_simp
   refine hK.out _ _ ?_ (fun hHeld=>?_)
   ·(try dsimp only)
    exact SV.keep hHeld ((Below.refl _ _).alloc (Nat.le_refl _) _) HBB.out
   clear hK K
   try simp only [Rg.gp]
   refine Rg.rd1 15 ⟨some 33,.call ⟨.builtin Builtin.append,#[.tmp 18,.tmp 32],#[27,27]⟩,27,"ref.go:97",#[⟨0,.data⟩,⟨14,.data⟩,⟨13,.chain⟩],none⟩ fun K hK=>?_
   refine step_append_own rfl _ _ 27 rfl (W.heap.size + 1) 3 i0 (.int .i64 0) 1 8 Try.underlying27 hi hz0 hz1 hz2 rfl (by decide) _ _ _ rfl (HO1.out.alloc _) ⟨v2.heap.size,0,none⟩ 1 1 [.int .i64 (F.add xx (F.mul cc yy) : Nat)] rfl rfl (cell_one_new _ _ _) (fun u hu=>by simp at hu; subst hu; rfl) ?c3 ?c4 ?c5 ?_
   case c3=>unfold maxLen; omega
   case c4=>omega
   case c5=>have:=HKS.out; simp; omega
   intro v' v9 hown' hgrow
   refine hK.out _ _ ?_ (fun hHeld=>?_)
   ·(try dsimp only)
    exact SV.go hHeld (Bx.below (Bx.grown hgrow fun j hj=>(HO1.out.lt j hj).1) (by have:=HKS.out; simp; omega) fun j hj=>hj) HBB.out
   clear hK K
   try simp only [Rg.gp]
   refine Rg.tk 16 ⟨some 9,.assign (.tmp 33),27,"ref.go:97",#[⟨15,.data⟩,⟨15,.chain⟩,⟨0,.phase⟩,⟨1,.phase⟩,⟨2,.phase⟩,⟨3,.phase⟩,⟨4,.phase⟩,⟨5,.phase⟩,⟨6,.phase⟩,⟨7,.phase⟩,⟨8,.phase⟩,⟨9,.phase⟩,⟨10,.phase⟩,⟨11,.phase⟩,⟨12,.phase⟩,⟨13,.phase⟩,⟨14,.phase⟩,⟨15,.phase⟩],none⟩ ?_
   try simp only [Rg.gp]
   refine wpAnyH_done (by kernel_rfl) ?_ _
   have HO5 : Hid (v9.ownsRow (W.heap.size + 1) 3 1 v' (k + 1) ((moK F V cc X (k + 1)).map N64)):=Lib.hid (by rw [HSUC.out,List.map_append]; exact hown')
   have HB5 : Hid (Below (W.heap.size + 1) w1 v9):=Lib.hid (KB.out.trans hHeld.2.2.2.out.2.1)
   obtain ⟨aP2,cP2,hvs⟩ : ∃ a c,v' = .slice a (k + 1) c:=by
    rcases HO5.out.2 with ⟨e,e2⟩ | ⟨_,_,_,e,_⟩
    ·exact ⟨none,0,by rw [e,e2]⟩
    ·exact ⟨_,_,e⟩
   subst hvs
   clear hHeld hS0 hown' hgrow
   go_wp2
   go_roundw
   case rel=>exact ⟨k + 1,aP2,cP2,by omega,rfl,by go_num,HO5,HB5⟩
   case measure=>simp [intOf]; omega
  ·obtain rfl : k = n:=by omega
   have hlt1 : ¬ (k : Int) < (k : Int):=by omega
   have HBF : Hid (Below W.heap.size W wr):=Lib.hid (HAL.out.trans (KB.out.mono (Nat.le_succ _)))
   have HNF : Hid (wr.ownsRow W.heap.size 3 1 (.slice aP k cP) k (R.map N64)):=Lib.hid (by
    have e : moK F V cc X k = R:=by rw [← hR.out]; unfold moV; rw [HMV.out.len]
    have h:=HO.out
    rw [e] at h
    exact own_weak h (Nat.le_succ _))
   go_wp2
   go_ret
   exact ⟨aP,cP,by rw [HRL.out]; rfl,by rw [HRL.out]; exact HNF.out,HBF.out⟩
theorem more_c {F : Gf} {b cap n cc ca cx : Nat} {V X : List Nat} {aa ax : Option Addr} {W : World} (hA : FldAt F b cap W) (hn : n ≤ 1000) (mv : Vn F n V) (mx : Vn F n X) (hc : cc < F.q) (nv : NN V W (.slice aa n ca)) (nx : NN X W (.slice ax n cx)) :
  Calls Try.prog 41 #[FV F b cap,.slice aa n ca,.int .i64 (cc : Nat),.slice ax n cx] W (VPost (moV F V cc X) W):=(more_o hA hn mv mx hc nv nx).mono fun _ _ h=>h.v
theorem zero_c {n : Nat} {W : World} (hn : n ≤ 10000) : Calls Try.prog 44 #[.int .i64 (n : Nat)] W (VPost (List.replicate n 0) W):=by
 obtain ⟨i0,hi,hz0,hz1,hz2⟩:=info_parts info3
 go_enter Try.func44,Try.ntmps44
 go_wp2_with (refine wpList_make_full _ rfl _ _ 27 rfl 0 3 i0 (.int .i64 0) 1 Try.underlying27 hi hz0 hz1 .i64 .i64 (n : Int) (n : Int) n rfl rfl rfl rfl (by rw [hz2]; omega) (by unfold maxLen; omega) (Nat.zero_le _) ?_)
 intro w2 hown hgrow
 have HNN : Hid (NN (List.replicate n 0) w2 (.slice (some ⟨W.heap.size,0,none⟩) n n)):=Lib.hid (by
  have h : Row (List.replicate n 0) W.heap.size w2:=Row.of_own (n:=n) (base:=0) (by
   have e:=toList_madeCells_one (Value.int .i64 0) n
   rw [List.map_replicate,show N64 0 = Value.int .i64 0 from rfl,← e]
   simpa using hown) (by simp)
  have:=h.nn
  simpa using this)
 have HBF : Hid (Below W.heap.size W w2):=Lib.hid ((Below.refl _ _).grown hgrow (Nat.le_refl _) (fun k hk=>by cases hk))
 clear hown hgrow
 go_wp2
 go_ret
 exact ⟨_,_,by rw [List.length_replicate]; rfl,by rw [List.length_replicate]; exact HNN.out,HBF.out⟩
abbrev SW (F : Gf) (b cap B : Nat) (wr w : World) : Prop:=FBx B F b cap w ∧ Hid (FldAt F b cap w ∧ Below wr.heap.size wr w ∧ B < w.heap.size)
theorem SW.keep {F : Gf} {b cap B : Nat} {wr w w' : World} (h : SW F b cap B wr w) (hb : Below w.heap.size w w') : SW F b cap B wr w':=
 ⟨h.1.below hb h.2.out.2.2,Lib.hid ⟨h.2.out.1.below hb,h.2.out.2.1.trans (hb.mono h.2.out.2.1.size),Nat.lt_of_lt_of_le h.2.out.2.2 hb.size⟩⟩
theorem SW.start {F : Gf} {b cap : Nat} {W : World} (hA : FldAt F b cap W) : SW F b cap W.heap.size (W.alloc (.cells #[.int .i64 F.p,.int .i64 F.e,FM F b cap] 29)) (W.alloc (.cells #[.int .i64 F.p,.int .i64 F.e,FM F b cap] 29)).drew:=
 ⟨FBx.new W F b cap,Lib.hid ⟨(hA.below ((Below.refl _ _).alloc (Nat.le_refl _) _)).bx (Bx.refl (fun _=>False) _).drew id,(Below.refl _ _).drew,by simp [World.drew]⟩⟩
theorem rep_vn {F : Gf} (hF : Ok F) (n : Nat) : Vn F n (List.replicate n 0):=⟨by simp,fun x hx=>by rw [List.eq_of_mem_replicate hx]; exact hF.zero_lt⟩
theorem moV_vn {F : Gf} (hF : Ok F) {n c : Nat} {V X : List Nat} (hv : Vn F n V) : Vn F n (moV F V c X):=⟨by unfold moV; rw [moK_len,hv.len],fun x hx=>by
 obtain ⟨j,_,rfl⟩:=List.mem_map.1 hx; exact hF.add_lt _ _⟩
theorem moV_fn {F : Gf} (hF : Ok F) {n c : Nat} {V X : List Nat} (hv : Vn F n V) (hx : Vn F n X) : Go.Fl.fn (moV F V c X) = pa F (Go.Fl.fn V) (ps F c (Go.Fl.fn X)):=funext fun j=>by
 show (moV F V c X).getD j 0 = F.add (V.getD j 0) (F.mul c (X.getD j 0))
 by_cases h : j < n
 ·unfold moV moK; rw [range_get' _ (by rw [hv.len]; exact h)]
 ·have e1 : ∀ {L : List Nat},L.length = n → L.getD j 0 = 0:=fun hl=>by rw [List.getD_eq_getElem?_getD,List.getElem?_eq_none (by omega)]; rfl
  rw [e1 (moV_vn hF hv).len,e1 hv.len,e1 hx.len,Ok.mul_z,hF.add_zero hF.zero_lt]
def timV (F : Gf) (c : Nat) (V : List Nat) : List Nat:=moV F (List.replicate V.length 0) c V
set_option maxHeartbeats 3200000 in
theorem times_o {F : Gf} {b cap n cc ca : Nat} {V : List Nat} {aa : Option Addr} {W : World} (hA : FldAt F b cap W) (hn : n ≤ 1000) (mv : Vn F n V) (hc : cc < F.q) (nv : NN V W (.slice aa n ca)) :
  Calls Try.prog 43 #[FV F b cap,.int .i64 (cc : Nat),.slice aa n ca] W (DPost (timV F cc V) W):=by
 have HFF : Hid (Ok F):=Lib.hid (ok_mem hA.mem)
 have hS0:=SW.start hA
 obtain ⟨w1,hw1⟩ : ∃ w1,w1 = (W.alloc (.cells #[.int .i64 F.p,.int .i64 F.e,FM F b cap] 29)):=⟨_,rfl⟩
 have HAL : Hid (Below W.heap.size W w1):=Lib.hid (by rw [hw1]; exact (Below.refl _ _).alloc (Nat.le_refl _) _)
 have HMV:=Lib.hid mv
 have HNV:=Lib.hid (nv.below HAL.out)
 have HC:=Lib.hid hc
 have HW1:=Lib.hid hw1
 rw [← hw1] at hS0
 obtain ⟨R,hR⟩ : ∃ R,Hid (timV F cc V = R):=⟨_,Lib.hid rfl⟩
 have HRE : Hid (moV F (List.replicate n 0) cc V = R):=Lib.hid (by rw [← hR.out]; unfold timV; rw [mv.len])
 rw [hR.out]
 clear hA mv nv hc hw1
 go_enter Try.func43,Try.ntmps43
 go_wp2_with fail
 rw [← HW1.out]
 clear HW1
 refine wp_region_held_drew (S:=fun w'=>SW F b cap W.heap.size w1 w') (by kernel_rfl) (by with_reducible exact hS0) (fun hHeld=>?_)
 refine Rg.tk 0 ⟨some 7,.load 29 (.tmp 3),29,"ref.go:103",#[],none⟩ ?_
 try simp only [Rg.gp]
 refine Rg.tk 1 ⟨some 8,.move (.tmp 2),27,"ref.go:103",#[],none⟩ ?_
 try simp only [Rg.gp]
 refine Rg.tk 2 ⟨some 9,.call ⟨.builtin Builtin.len,#[.tmp 8],#[27]⟩,3,"ref.go:103",#[⟨1,.data⟩],none⟩ ?_
 try simp only [Rg.gp]
 refine Rg.tk 4 ⟨some 11,.move (.tmp 1),3,"ref.go:103",#[],none⟩ ?_
 try simp only [Rg.gp]
 refine Rg.tk 5 ⟨some 12,.move (.tmp 2),27,"ref.go:103",#[],none⟩ ?_
 try simp only [Rg.gp]
 refine Rg.rd1 3 ⟨some 10,.call ⟨.value (.func 44),#[.tmp 9],#[3]⟩,27,"ref.go:103",#[⟨2,.data⟩],none⟩ fun K hK=>?_
 go_simp
 go_at_call 44
 with_reducible refine (zero_c (by omega)).mono ?_
 rintro z v1 ⟨a1,c1,rfl,hn1,hb3⟩
 rw [List.length_replicate] at hn1 ⊢
 refine hK.out _ _ ?_ (fun hHeld=>?_)
 ·(try dsimp only)
  exact SW.keep hHeld hb3
 clear hK K
 try simp only [Rg.gp]
 refine Rg.rd1 6 ⟨some 13,.call ⟨.value (.func 41),#[.tmp 7,.tmp 10,.tmp 11,.tmp 12],#[29,27,3,27]⟩,27,"ref.go:103",#[⟨0,.data⟩,⟨3,.data⟩,⟨4,.data⟩,⟨5,.data⟩,⟨3,.chain⟩],none⟩ fun K hK=>?_
 go_simp
 go_at_call 41
 with_reducible refine (more_o hHeld.2.out.1 hn (rep_vn HFF.out n) HMV.out HC.out hn1 (HNV.out.below hHeld.2.out.2.1)).mono ?_
 rw [HRE.out]
 rintro z v2 ⟨a2,c2,rfl,hn2,hb4⟩
 replace hn2:=own_weak hn2 (Nat.le_trans HAL.out.size hHeld.2.out.2.1.size)
 refine hK.out _ _ ?_ (fun hHeld=>?_)
 ·(try dsimp only)
  exact SW.keep hHeld hb4
 clear hK K
 try simp only [Rg.gp]
 refine Rg.tk 7 ⟨some 6,.assign (.tmp 13),27,"ref.go:103",#[⟨6,.data⟩,⟨6,.chain⟩,⟨0,.phase⟩,⟨1,.phase⟩,⟨2,.phase⟩,⟨3,.phase⟩,⟨4,.phase⟩,⟨5,.phase⟩,⟨6,.phase⟩],none⟩ ?_
 try simp only [Rg.gp]
 refine wpAnyH_done (by kernel_rfl) ?_ _
 have HBF : Hid (Below W.heap.size W v2):=Lib.hid (HAL.out.trans (hHeld.2.out.2.1.mono HAL.out.size))
 have HN2:=Lib.hid hn2
 obtain ⟨lR,hlR⟩ : ∃ l,R.length = l:=⟨_,rfl⟩
 have HLR:=Lib.hid hlR
 rw [hlR] at HN2 ⊢
 clear hHeld hn2 hlR hS0
 go_wp2
 go_ret
 exact ⟨a2,c2,by rw [HLR.out]; rfl,by rw [HLR.out]; exact HN2.out,HBF.out⟩
theorem times_c {F : Gf} {b cap n cc ca : Nat} {V : List Nat} {aa : Option Addr} {W : World} (hA : FldAt F b cap W) (hn : n ≤ 1000) (mv : Vn F n V) (hc : cc < F.q) (nv : NN V W (.slice aa n ca)) :
  Calls Try.prog 43 #[FV F b cap,.int .i64 (cc : Nat),.slice aa n ca] W (VPost (timV F cc V) W):=(times_o hA hn mv hc nv).mono fun _ _ h=>h.v
set_option maxHeartbeats 3200000 in
theorem dot_c {F : Gf} {b cap n ca cx : Nat} {V X : List Nat} {aa ax : Option Addr} {W : World} (hA : FldAt F b cap W) (hn : n ≤ 1000) (mv : Vn F n V) (mx : Vn F n X) (nv : NN V W (.slice aa n ca)) (nx : NN X W (.slice ax n cx)) :
  Calls Try.prog 46 #[FV F b cap,.slice aa n ca,.slice ax n cx] W fun e w'=>e = .returned (.int .i64 (dt F n (fn V) (fn X) : Nat)) ∧ Below W.heap.size W w':=by
 have HFF : Hid (Ok F):=Lib.hid (ok_mem hA.mem)
 obtain ⟨w1,hw1⟩ : ∃ w1,w1 = (W.alloc (.cells #[.int .i64 F.p,.int .i64 F.e,FM F b cap] 29)):=⟨_,rfl⟩
 have HAL : Hid (Below W.heap.size W w1):=Lib.hid (by rw [hw1]; exact (Below.refl _ _).alloc (Nat.le_refl _) _)
 have HS1 : Hid (W.heap.size < w1.heap.size):=Lib.hid (by rw [hw1]; simp)
 have HFB : Hid (FBx W.heap.size F b cap w1):=Lib.hid (by rw [hw1]; exact FBx.new W F b cap)
 have HF1:=Lib.hid (hA.below HAL.out)
 have HMV:=Lib.hid mv
 have HMX:=Lib.hid mx
 have HNV:=Lib.hid (nv.below HAL.out)
 have HNX:=Lib.hid (nx.below HAL.out)
 have HW1:=Lib.hid hw1
 rw [← dK_end]
 clear hA mv mx nv nx hw1
 go_enter Try.func46,Try.ntmps46
 go_wp2
 rw [← HW1.out]
 clear HW1
 go_loopw [7,8] (fun s i wr=>∃ k : Nat,k ≤ n ∧ s = .int .i64 (dK F (fn V) (fn X) k : Nat) ∧ i = .int .i64 k ∧ Hid (Below w1.heap.size w1 wr)) (fun _ i _=>n - (intOf i).toNat)
 case atStart=>exact ⟨0,Nat.zero_le _,rfl,rfl,Below.refl _ _⟩
 case round =>
  obtain ⟨k,hk,hs,rfl,KB⟩:=hrel
  obtain ⟨kk,HKE⟩ : ∃ x,Hid (dK F (fn V) (fn X) k = x):=⟨_,Lib.hid rfl⟩
  rw [HKE.out] at hs
  subst hs
  by_cases hlt : k < n
  ·have hk5 : k < 1000:=by omega
   obtain ⟨xx,hxx⟩ : ∃ x,Hid (V.getD k 0 = x):=⟨_,Lib.hid rfl⟩
   obtain ⟨yy,hyy⟩ : ∃ x,Hid (X.getD k 0 = x):=⟨_,Lib.hid rfl⟩
   have HKQ : Hid (kk < F.q):=Lib.hid (by rw [← HKE.out]; exact dK_lt HFF.out _ _ _)
   have HXQ : Hid (xx < F.q):=Lib.hid (by rw [← hxx.out]; exact HMV.out.el.get HFF.out k)
   have HYQ : Hid (yy < F.q):=Lib.hid (by rw [← hyy.out]; exact HMX.out.el.get HFF.out k)
   obtain ⟨b1,o1,rfl,hc1⟩:=(HNV.out.below KB.out).atm HMV.out.len hlt
   obtain ⟨b2,o2,rfl,hc2⟩:=(HNX.out.below KB.out).atm HMX.out.len hlt
   rw [hxx.out] at hc1
   rw [hyy.out] at hc2
   have hfb:=HFB.out.below KB.out HS1.out
   have hS0 : SU F b cap W.heap.size b1 (o1 + k) xx b2 (o2 + k) yy wr wr.drew:=
    ⟨hfb,hc1,hc2,Lib.hid ⟨(HF1.out.below KB.out).bx (Bx.refl (fun _=>False) wr).drew id,(Below.refl _ _).drew,Nat.lt_of_lt_of_le HS1.out KB.out.size,World.block_lt_of_cell? wr _ hc1,World.block_lt_of_cell? wr _ hc2⟩⟩
   clear hc1 hc2 hfb
   go_wp2_with fail
   refine wp_region_held_drew (S:=fun w'=>SU F b cap W.heap.size b1 (o1 + k) xx b2 (o2 + k) yy wr w') (by kernel_rfl) (by with_reducible exact hS0) (fun hHeld=>?_)
   refine Rg.tk 0 ⟨some 15,.load 29 (.tmp 3),29,"ref.go:109",#[],none⟩ ?_
   try simp only [Rg.gp]
   refine Rg.tk 1 ⟨some 16,.move (.tmp 7),3,"ref.go:109",#[],none⟩ ?_
   try simp only [Rg.gp]
   refine Rg.tk 2 ⟨some 17,.load 29 (.tmp 3),29,"ref.go:109",#[],none⟩ ?_
   try simp only [Rg.gp]
   refine Rg.tk 3 ⟨some 18,.move (.tmp 1),27,"ref.go:109",#[],none⟩ ?_
   try simp only [Rg.gp]
   refine Rg.tk 4 ⟨some 19,.move (.tmp 8),3,"ref.go:109",#[],none⟩ ?_
   try simp only [Rg.gp]
   refine Rg.tk 5 ⟨some 20,.indexAddr 27 (.tmp 18) (.tmp 19),0,"ref.go:109",#[⟨3,.data⟩,⟨4,.data⟩],none⟩ ?_
   try simp only [Rg.gp]
   refine Rg.tk 6 ⟨some 21,.load 3 (.tmp 20),3,"ref.go:109",#[⟨5,.data⟩],none⟩ ?_
   try simp only [Rg.gp]
   refine Rg.tk 7 ⟨some 22,.move (.tmp 2),27,"ref.go:109",#[],none⟩ ?_
   try simp only [Rg.gp]
   refine Rg.tk 8 ⟨some 23,.move (.tmp 8),3,"ref.go:109",#[],none⟩ ?_
   try simp only [Rg.gp]
   refine Rg.tk 9 ⟨some 24,.indexAddr 27 (.tmp 22) (.tmp 23),0,"ref.go:109",#[⟨7,.data⟩,⟨8,.data⟩],none⟩ ?_
   try simp only [Rg.gp]
   refine Rg.tk 10 ⟨some 25,.load 3 (.tmp 24),3,"ref.go:109",#[⟨9,.data⟩],none⟩ ?_
   try simp only [Rg.gp]
   refine Rg.rd1 11 ⟨some 26,.call ⟨.value (.func 67),#[.tmp 17,.tmp 21,.tmp 25],#[29,3,3]⟩,3,"ref.go:109",#[⟨2,.data⟩,⟨6,.data⟩,⟨10,.data⟩],none⟩ fun K hK=>?_
   go_simp
   go_at_call 67
   with_reducible refine (rmul_c HXQ.out HYQ.out hHeld.2.2.2.out.1).mono ?_
   rintro z v1 ⟨rfl,hb3⟩
   refine hK.out _ _ ?_ (fun hHeld=>?_)
   ·(try dsimp only)
    exact SU.keep hHeld hb3
   clear hK K
   try simp only [Rg.gp]
   refine Rg.rd1 12 ⟨some 27,.call ⟨.value (.func 66),#[.tmp 15,.tmp 16,.tmp 26],#[29,3,3]⟩,3,"ref.go:109",#[⟨0,.data⟩,⟨1,.data⟩,⟨11,.data⟩,⟨11,.chain⟩],none⟩ fun K hK=>?_
   go_simp
   go_at_call 66
   with_reducible refine (radd_c HKQ.out (HFF.out.mul_lt _ _) hHeld.2.2.2.out.1).mono ?_
   rintro z v2 ⟨rfl,hb4⟩
   refine hK.out _ _ ?_ (fun hHeld=>?_)
   ·(try dsimp only)
    exact SU.keep hHeld hb4
   clear hK K
   try simp only [Rg.gp]
   refine Rg.tk 13 ⟨some 7,.assign (.tmp 27),3,"ref.go:109",#[⟨12,.data⟩,⟨12,.chain⟩,⟨0,.phase⟩,⟨1,.phase⟩,⟨2,.phase⟩,⟨3,.phase⟩,⟨4,.phase⟩,⟨5,.phase⟩,⟨6,.phase⟩,⟨7,.phase⟩,⟨8,.phase⟩,⟨9,.phase⟩,⟨10,.phase⟩,⟨11,.phase⟩,⟨12,.phase⟩],none⟩ ?_
   try simp only [Rg.gp]
   refine wpAnyH_done (by kernel_rfl) ?_ _
   have HB5:=Lib.hid (KB.out.trans (hHeld.2.2.2.out.2.1.mono KB.out.size))
   clear hHeld hS0
   go_wp2
   go_roundw
   case rel=>exact ⟨k + 1,by omega,by rw [dK_succ HFF.out (HMV.out.fn HFF.out) (HMX.out.fn HFF.out),HKE.out,show Go.Fl.fn V k = xx from hxx.out,show Go.Fl.fn X k = yy from hyy.out],by go_num,HB5⟩
   case measure=>simp [intOf]; omega
  ·obtain rfl : k = n:=by omega
   have hlt1 : ¬ (k : Int) < (k : Int):=by omega
   have HBF : Hid (Below W.heap.size W wr):=Lib.hid (HAL.out.trans (KB.out.mono HAL.out.size))
   go_wp2
   go_ret
   exact ⟨by rw [HKE.out]; rfl,HBF.out⟩
end Go.Proofs.Yteeofijcndgbfaa
