/- beside: the rows of two matrices behind one another. -/
import Derived.Test.YteeofijcndgbfaaEvTk
import Derived.Test.YteeofijcndgbfaaSu
namespace Go.Proofs.Yteeofijcndgbfaa
open Go.RowKit Go.Fl
set_option maxRecDepth 100000
set_option linter.unusedVariables false
set_option linter.unusedSimpArgs false
set_option linter.unusedSectionVars false
abbrev SB (F : Gf) (b cap : Nat) (W w0 w : World) (A : List (List Nat)) (aa : Option Addr) (m ca : Nat) (B : List (List Nat)) (ab : Option Addr) (cb : Nat) : Prop:=
 FBx W.heap.size F b cap w ∧ Hid (w0.heap.size = W.heap.size + 2 ∧ (MM A w0 (.slice aa m ca) ∧ MM B w0 (.slice ab m cb)) ∧ Below (W.heap.size + 2) w0 w)
section
variable {F : Gf} {b cap : Nat} {W w0 w w' : World} {A : List (List Nat)} {aa : Option Addr} {m ca : Nat} {B : List (List Nat)} {ab : Option Addr} {cb : Nat}
theorem SB.sz (h : SB F b cap W w0 w A aa m ca B ab cb) : W.heap.size + 2 ≤ w.heap.size:=by have:=h.2.out.1; have:=h.2.out.2.2.size; omega
theorem SB.mma (h : SB F b cap W w0 w A aa m ca B ab cb) : MM A w (.slice aa m ca):=h.2.out.2.1.1.below (h.2.out.2.2.mono (by rw [h.2.out.1]; exact Nat.le_refl _))
theorem SB.mmb (h : SB F b cap W w0 w A aa m ca B ab cb) : MM B w (.slice ab m cb):=h.2.out.2.1.2.below (h.2.out.2.2.mono (by rw [h.2.out.1]; exact Nat.le_refl _))
theorem SB.go (h : SB F b cap W w0 w A aa m ca B ab cb) (hb : Below (W.heap.size + 2) w w') : SB F b cap W w0 w' A aa m ca B ab cb:=
 ⟨⟨(hb.cell (by show W.heap.size < _; omega)).trans h.1.1,(hb.cell (by show W.heap.size < _; omega)).trans h.1.2.1,(hb.cell (by show W.heap.size < _; omega)).trans h.1.2.2⟩,Lib.hid ⟨h.2.out.1,h.2.out.2.1,h.2.out.2.2.trans hb⟩⟩
theorem SB.keep (h : SB F b cap W w0 w A aa m ca B ab cb) (hb : Below w.heap.size w w') : SB F b cap W w0 w' A aa m ca B ab cb:=h.go (hb.mono h.sz)
end
theorem five_bx {w : World} {B : Nat} (u0 u1 u2 u3 u4 : Value) : Bx (fun j=>j = B) w (((((w.setCell ⟨B,0,none⟩ u0).setCell ⟨B,1,none⟩ u1).setCell ⟨B,2,none⟩ u2).setCell ⟨B,3,none⟩ u3).setCell ⟨B,4,none⟩ u4):=by
 have e : ∀ (w : World) (t : Nat) (u : Value),Bx (fun j=>j = B) w (w.setCell ⟨B,t,none⟩ u):=fun w t u=>Bx.set (S:=fun j=>j = B) rfl u
 exact ((((e _ _ _).trans (e _ _ _)).trans (e _ _ _)).trans (e _ _ _)).trans (e _ _ _)
theorem oth (w : World) {B s t : Nat} (e : s ≠ t) (x : Value) : (w.setCell ⟨B,s,none⟩ x).cell? ⟨B,t,none⟩ = w.cell? ⟨B,t,none⟩:=World.cell?_setCell_other _ _ _ _ fun e'=>e (by injection e' with _ e' _)
theorem RZ.five {w : World} {B : Nat} (h : RZ B w) (F : Gf) (b cap : Nat) {k : Nat} (v : Value) {K : Int} (hk : (k : Int) = K) :
  BX B F b cap k v (((((w.setCell ⟨B,0,none⟩ (.int .i64 F.p)).setCell ⟨B,1,none⟩ (.int .i64 F.e)).setCell ⟨B,2,none⟩ (FM F b cap)).setCell ⟨B,3,none⟩ (.int .i64 K)).setCell ⟨B,4,none⟩ v):=by
 subst hk
 obtain ⟨⟨h0,h1,h2,h3,h4⟩,hf,hl⟩:=h
 refine ⟨⟨?_,?_,?_,?_,?_⟩,fun t=>by simpa [World.frozen?_setCell] using hf t,by simpa [World.setCell] using hl⟩
 ·rw [oth _ (by decide),oth _ (by decide),oth _ (by decide),oth _ (by decide)]; exact World.cell?_setCell_same _ _ _ h0
 ·rw [oth _ (by decide),oth _ (by decide),oth _ (by decide)]; exact World.cell?_setCell_same _ _ _ (by rw [oth _ (by decide)]; exact h1)
 ·rw [oth _ (by decide),oth _ (by decide)]; exact World.cell?_setCell_same _ _ _ (by rw [oth _ (by decide),oth _ (by decide)]; exact h2)
 ·rw [oth _ (by decide)]; exact World.cell?_setCell_same _ _ _ (by rw [oth _ (by decide),oth _ (by decide),oth _ (by decide)]; exact h3)
 ·exact World.cell?_setCell_same _ _ _ (by rw [oth _ (by decide),oth _ (by decide),oth _ (by decide),oth _ (by decide)]; exact h4)
theorem SB.five {F : Gf} {b cap : Nat} {W w0 w : World} {A : List (List Nat)} {aa : Option Addr} {m ca : Nat} {B : List (List Nat)} {ab : Option Addr} {cb : Nat} (h : SB F b cap W w0 w A aa m ca B ab cb) {G : Nat} (hg : W.heap.size + 2 ≤ G) {u0 u1 u2 u3 u4 : Value} : SB F b cap W w0 (((((w.setCell ⟨G,0,none⟩ u0).setCell ⟨G,1,none⟩ u1).setCell ⟨G,2,none⟩ u2).setCell ⟨G,3,none⟩ u3).setCell ⟨G,4,none⟩ u4) A aa m ca B ab cb:=
 h.go ((five_bx u0 u1 u2 u3 u4).below h.sz fun k e=>by omega)
def besM (A B : List (List Nat)) : List (List Nat):=List.zipWith (· ++ ·) A B
theorem besM_snoc {A B : List (List Nat)} {k : Nat} (hk : k < A.length) (hb : k < B.length) : besM (A.take (k + 1)) (B.take (k + 1)) = besM (A.take k) (B.take k) ++ [A.getD k [] ++ B.getD k []]:=by
 unfold besM
 rw [take_snoc (d:=[]) hk,take_snoc (d:=[]) hb,List.zipWith_append (by rw [List.length_take,List.length_take]; omega)]
 rfl
theorem width1 {A : List (List Nat)} {m ca n : Nat} {aa : Option Addr} (hm : A.length = m) (hw : ∀ k,k < A.length → (A.getD k []).length = n) (w : World) (G : Nat) (h : MM A w (.slice aa m ca)) (hc : w.cell? ⟨G,0,none⟩ = some (.slice aa m ca)) (hl : G < w.heap.size) :
  Calls Try.prog 63 #[.slice (some ⟨G,0,none⟩) 1 1] w fun e w'=>e = .returned (.int .i64 ((if m = 0 then 0 else n) : Nat)) ∧ Below w.heap.size w w':=by
 subst hm
 have t:=width_c (Ms:=[A]) (by simp) (LM.of1 h hc hl)
 rw [show wM [A] = if A.length = 0 then 0 else n from by
  cases A with
  | nil=>rfl
  | cons r A=>rw [if_neg (by simp)]; exact hw 0 (by simp)] at t
 exact t
set_option maxHeartbeats 6400000 in
theorem beside_c {F : Gf} {b cap n1 n2 m ca cb : Nat} {A B : List (List Nat)} {aa ab : Option Addr} {W : World} (hA : FldAt F b cap W) (hm : m ≤ 500) (h1 : n1 ≤ 100) (h2 : n2 ≤ 100) (h20 : 1 ≤ n2) (la : A.length = m) (lb : B.length = m) (wa : ∀ k,k < A.length → (A.getD k []).length = n1) (wb : ∀ k,k < B.length → (B.getD k []).length = n2)
  (na : MM A W (.slice aa m ca)) (nb : MM B W (.slice ab m cb)) :
  Calls Try.prog 80 #[FV F b cap,.slice aa m ca,.slice ab m cb] W fun e w'=>∃ rs v,e = .returned (MV F b cap (if m = 0 then 0 else n1 + n2) v) ∧ OR (besM A B) rs (n1 + n2) W.heap.size w' v ∧ (besM A B = [] → v = .slice none 0 0) ∧ W.heap.size < w'.heap.size ∧ Below W.heap.size W w':=by
 obtain ⟨i0,hi,hz0,hz1,hz2⟩:=info_parts info3
 obtain ⟨j0,ji,jz0,jz1,jz2⟩:=info_parts info27
 obtain ⟨k1,hk1⟩ : ∃ k,Hid ((if m = 0 then 0 else n1) = k):=⟨_,Lib.hid rfl⟩
 obtain ⟨k2,hk2⟩ : ∃ k,Hid ((if m = 0 then 0 else n2) = k):=⟨_,Lib.hid rfl⟩
 obtain ⟨k,hk⟩ : ∃ k,Hid ((if m = 0 then 0 else n1 + n2) = k):=⟨_,Lib.hid rfl⟩
 have HK12 : Hid (k = k1 + k2):=Lib.hid (by rw [← hk.out,← hk1.out,← hk2.out]; split <;> rfl)
 have HKP : Hid (m ≠ 0 → k = n1 + n2):=Lib.hid (fun h=>by rw [← hk.out,if_neg h])
 have hk5 : k ≤ 200:=by rw [← hk.out]; split <;> omega
 have hwr : IntKind.i64.wrap ((k1 : Int) + (k2 : Int)) = ((k : Nat) : Int):=by
  rw [show (k1 : Int) + (k2 : Int) = ((k : Nat) : Int) from by rw [HK12.out]; push_cast; rfl]
  exact IntWalk.i64_in _ (by omega)
 rw [hk.out]
 obtain ⟨w0,hw0⟩ : ∃ w0,w0 = (W.alloc (.cells #[.int .i64 F.p,.int .i64 F.e,FM F b cap] 29)).alloc (.cells #[.int .i64 0,.int .i64 0,.slice none 0 0,.int .i64 0,.slice none 0 0] 79):=⟨_,rfl⟩
 have hal : Below W.heap.size W w0:=by rw [hw0]; exact ((Below.refl _ _).alloc (Nat.le_refl _) _).alloc (by simp) _
 have HAL:=Lib.hid hal
 have HW0S : Hid (w0.heap.size = W.heap.size + 2):=Lib.hid (by rw [hw0]; simp)
 have HRB : Hid (RZ (W.heap.size + 1) w0):=Lib.hid (by
  rw [hw0]; exact ⟨⟨World.cell?_alloc_at _ _ _ _ (by simp),World.cell?_alloc_at _ _ _ _ (by simp),World.cell?_alloc_at _ _ _ _ (by simp),World.cell?_alloc_at _ _ _ _ (by simp),World.cell?_alloc_at _ _ _ _ (by simp)⟩,fun t=>World.frozen?_alloc_at _ _ _ _ (by simp),by simp⟩)
 have HFX : Hid (FBx W.heap.size F b cap w0):=Lib.hid (by
  rw [hw0]; exact ⟨(World.cell?_alloc_lt _ _ _ (by simp)).trans (World.cell?_alloc_at _ _ _ _ rfl),(World.cell?_alloc_lt _ _ _ (by simp)).trans (World.cell?_alloc_at _ _ _ _ rfl),(World.cell?_alloc_lt _ _ _ (by simp)).trans (World.cell?_alloc_at _ _ _ _ rfl)⟩)
 have HNA:=Lib.hid (na.below hal)
 have HNB:=Lib.hid (nb.below hal)
 have HWD3:=Lib.hid (width1 la wa (aa:=aa) (ca:=ca))
 have HWD6:=Lib.hid (width1 lb wb (aa:=ab) (ca:=cb))
 rw [hk1.out] at HWD3
 rw [hk2.out] at HWD6
 have HLA:=Lib.hid la
 have HLB:=Lib.hid lb
 have HWA:=Lib.hid wa
 have HWB:=Lib.hid wb
 have HW0:=Lib.hid hw0
 have hS0 : SB F b cap W w0 w0.drew A aa m ca B ab cb:=⟨HFX.out,Lib.hid ⟨HW0S.out,⟨HNA.out,HNB.out⟩,(Below.refl _ _).drew⟩⟩
 clear hA na nb la lb wa wb hal hw0
 go_enter Try.func80,Try.ntmps80
 go_wp2_with fail
 rw [← HW0.out]
 clear HW0
 go_cut [7] (fun v wx=>∃ G,v = .pointer (some ⟨G,0,none⟩) ∧ Hid (W.heap.size + 2 ≤ G) ∧ Hid (BX G F b cap k (.slice none 0 0) wx) ∧ Hid (Below (W.heap.size + 2) w0 wx))
 case first =>
  refine wp_region_held_drew (S:=fun w'=>SB F b cap W w0 w' A aa m ca B ab cb) (by kernel_rfl) (by with_reducible exact hS0) (fun hHeld=>?_)
  obtain ⟨x0,hx0⟩ : ∃ x,x = w0.drew:=⟨_,rfl⟩
  rw [← hx0] at hHeld ⊢
  have HX0 : Hid (x0.heap.size = w0.heap.size):=Lib.hid (by rw [hx0]; rfl)
  clear hx0 hS0
  refine Rg.tk 0 ⟨some 11,.load 29 (.tmp 3),29,"matrix.go:32",#[],none⟩ ?_
  try simp only [Rg.gp]
  refine Rg.tk 1 ⟨some 12,.move (.tmp 1),30,"matrix.go:32",#[],none⟩ ?_
  try simp only [Rg.gp]
  refine Rg.tk 4 ⟨some 15,.move (.tmp 2),30,"matrix.go:32",#[],none⟩ ?_
  try simp only [Rg.gp]
  refine wpAnyH_ready (rs:=[2,5,9]) (by kernel_rfl) (by simp) ?_
  refine (AllReadyH.cons (o:=⟨some 13,.buildSlice 96 1 #[(0,.tmp 12)],96,"matrix.go:32",#[⟨1,.data⟩],none⟩) rfl (fun K hK=>?_) (AllReadyH.cons (o:=⟨some 16,.buildSlice 96 1 #[(0,.tmp 15)],96,"matrix.go:32",#[⟨4,.data⟩],none⟩) rfl (fun K hK=>?_) (AllReadyH.cons (o:=⟨some 7,.alloc 79,0,"matrix.go:32",#[],none⟩) rfl (fun K hK=>?_) AllReadyH.nil)))
  ·go_simp
   refine hK.out _ _ ?_ (fun hHeld=>?_)
   ·(try dsimp only)
    exact SB.keep hHeld ((Below.refl _ _).alloc (Nat.le_refl _) _)
   clear hK K
   try simp only [Rg.gp]
   obtain ⟨x2,hw2⟩ : ∃ x,x = (x0.alloc (.cells #[.slice aa m ca] 30)):=⟨_,rfl⟩
   have HB2 : Hid (Below x0.heap.size x0 x2):=Lib.hid (by rw [hw2]; exact (Below.refl _ _).alloc (Nat.le_refl _) _)
   have HZ2 : Hid (x2.heap.size = x0.heap.size + 1):=Lib.hid (by rw [hw2]; simp)
   have HC2 : Hid (x2.cell? ⟨x0.heap.size,0,none⟩ = some (.slice aa m ca)):=Lib.hid (by rw [hw2]; exact World.cell?_alloc_at _ _ _ _ rfl)
   rw [← hw2] at hHeld ⊢
   clear hw2
   refine wpAnyH_ready (rs:=[3,5,9]) (by kernel_rfl) (by simp) ?_
   refine (AllReadyH.cons (o:=⟨some 14,.call ⟨.value (.func 63),#[.tmp 13],#[96]⟩,3,"matrix.go:32",#[⟨2,.data⟩],none⟩) rfl (fun K hK=>?_) (AllReadyH.cons (o:=⟨some 16,.buildSlice 96 1 #[(0,.tmp 15)],96,"matrix.go:32",#[⟨4,.data⟩],none⟩) rfl (fun K hK=>?_) (AllReadyH.cons (o:=⟨some 7,.alloc 79,0,"matrix.go:32",#[],none⟩) rfl (fun K hK=>?_) AllReadyH.nil)))
   ·have hc2:=HC2.out
    have hl2 : x0.heap.size < x2.heap.size:=by have:=HZ2.out; omega
    have hO : Calls Try.prog 63 #[.slice (some ⟨x0.heap.size,0,none⟩) 1 1] x2 fun e w'=>e = .returned (.int .i64 (k1 : Nat)) ∧ Below x2.heap.size x2 w':=HWD3.out x2 _ hHeld.mma hc2 hl2
    go_simp
    go_at_call 63
    with_reducible refine hO.mono ?_
    rintro z x3 ⟨rfl,hb3⟩
    have HB3 : Hid (Below x2.heap.size x2 x3):=Lib.hid hb3
    clear hO hb3 hc2 hl2
    refine hK.out _ _ ?_ (fun hHeld=>?_)
    ·(try dsimp only)
     exact SB.keep hHeld HB3.out
    clear hK K
    try simp only [Rg.gp]
    refine wpAnyH_ready (rs:=[5,9]) (by kernel_rfl) (by simp) ?_
    refine (AllReadyH.cons (o:=⟨some 16,.buildSlice 96 1 #[(0,.tmp 15)],96,"matrix.go:32",#[⟨4,.data⟩],none⟩) rfl (fun K hK=>?_) (AllReadyH.cons (o:=⟨some 7,.alloc 79,0,"matrix.go:32",#[],none⟩) rfl (fun K hK=>?_) AllReadyH.nil))
    ·go_simp
     refine hK.out _ _ ?_ (fun hHeld=>?_)
     ·(try dsimp only)
      exact SB.keep hHeld ((Below.refl _ _).alloc (Nat.le_refl _) _)
     clear hK K
     try simp only [Rg.gp]
     obtain ⟨x5,hw5⟩ : ∃ x,x = (x3.alloc (.cells #[.slice ab m cb] 30)):=⟨_,rfl⟩
     have HB5 : Hid (Below x3.heap.size x3 x5):=Lib.hid (by rw [hw5]; exact (Below.refl _ _).alloc (Nat.le_refl _) _)
     have HZ5 : Hid (x5.heap.size = x3.heap.size + 1):=Lib.hid (by rw [hw5]; simp)
     have HC5 : Hid (x5.cell? ⟨x3.heap.size,0,none⟩ = some (.slice ab m cb)):=Lib.hid (by rw [hw5]; exact World.cell?_alloc_at _ _ _ _ rfl)
     rw [← hw5] at hHeld ⊢
     clear hw5
     refine wpAnyH_ready (rs:=[6,9]) (by kernel_rfl) (by simp) ?_
     refine (AllReadyH.cons (o:=⟨some 17,.call ⟨.value (.func 63),#[.tmp 16],#[96]⟩,3,"matrix.go:32",#[⟨5,.data⟩,⟨3,.chain⟩],none⟩) rfl (fun K hK=>?_) (AllReadyH.cons (o:=⟨some 7,.alloc 79,0,"matrix.go:32",#[],none⟩) rfl (fun K hK=>?_) AllReadyH.nil))
     ·have hc5:=HC5.out
      have hl5 : x3.heap.size < x5.heap.size:=by have:=HZ5.out; omega
      have hO : Calls Try.prog 63 #[.slice (some ⟨x3.heap.size,0,none⟩) 1 1] x5 fun e w'=>e = .returned (.int .i64 (k2 : Nat)) ∧ Below x5.heap.size x5 w':=HWD6.out x5 _ hHeld.mmb hc5 hl5
      go_simp
      go_at_call 63
      with_reducible refine hO.mono ?_
      rintro z x6 ⟨rfl,hb6⟩
      have HB6 : Hid (Below x5.heap.size x5 x6):=Lib.hid hb6
      clear hO hb6 hc5 hl5
      refine hK.out _ _ ?_ (fun hHeld=>?_)
      ·(try dsimp only)
       exact SB.keep hHeld HB6.out
      clear hK K
      try simp only [Rg.gp]
      refine Rg.tk 7 ⟨some 18,.binOp BinOp.add 3 (.tmp 14) (.tmp 17) 3,3,"matrix.go:32",#[⟨3,.data⟩,⟨6,.data⟩],none⟩ ?_
      try simp only [Rg.gp]
      refine Rg.tk 8 ⟨some 19,.build 79 #[(0,.tmp 11),(1,.tmp 18)],79,"matrix.go:32",#[⟨0,.data⟩,⟨7,.data⟩],none⟩ ?_
      try simp only [Rg.gp]
      refine Rg.rd1 9 ⟨some 7,.alloc 79,0,"matrix.go:32",#[],none⟩ fun K hK=>?_
      go_simp
      refine hK.out _ _ ?_ (fun hHeld=>?_)
      ·(try dsimp only)
       exact SB.keep hHeld ((Below.refl _ _).alloc (Nat.le_refl _) _)
      clear hK K
      try simp only [Rg.gp]
      obtain ⟨x9,hw9⟩ : ∃ x,x = (x6.alloc (.cells #[.int .i64 0,.int .i64 0,.slice none 0 0,.int .i64 0,.slice none 0 0] 79)):=⟨_,rfl⟩
      have HB9 : Hid (Below x6.heap.size x6 x9):=Lib.hid (by rw [hw9]; exact (Below.refl _ _).alloc (Nat.le_refl _) _)
      have HRZ9 : Hid (RZ x6.heap.size x9):=Lib.hid (by rw [hw9]; exact ⟨⟨World.cell?_alloc_at _ _ _ _ rfl,World.cell?_alloc_at _ _ _ _ rfl,World.cell?_alloc_at _ _ _ _ rfl,World.cell?_alloc_at _ _ _ _ rfl,World.cell?_alloc_at _ _ _ _ rfl⟩,fun t=>World.frozen?_alloc_at _ _ _ _ rfl,by simp⟩)
      have HK9 : Hid (W.heap.size + 2 ≤ x6.heap.size):=Lib.hid (by have:=HW0S.out; have t:=HX0.out; have:=HB2.out.size; have:=HB3.out.size; have:=HB5.out.size; have:=HB6.out.size; omega)
      rw [← hw9] at hHeld ⊢
      clear hw9
      refine Rg.rd1 10 ⟨none,.store 79 (.tmp 7) (.tmp 19),0,"matrix.go:32",#[⟨9,.data⟩,⟨8,.data⟩,⟨6,.chain⟩,⟨0,.phase⟩,⟨1,.phase⟩,⟨2,.phase⟩,⟨3,.phase⟩,⟨4,.phase⟩,⟨5,.phase⟩,⟨6,.phase⟩,⟨7,.phase⟩,⟨8,.phase⟩,⟨9,.phase⟩],none⟩ fun K hK=>?_
      have hz:=HRZ9.out
      have HRZ:=Lib.hid hz
      obtain ⟨⟨r0,r1,r2,r3,r4⟩,rf,rl⟩:=hz
      have g0:=rf 0
      have g1:=rf 1
      have g2:=rf 2
      have g3:=rf 3
      have g4:=rf 4
      have HS10:=hHeld
      clear rf rl
      go_simp
      refine hK.out _ _ ?_ (fun hHeld=>?_)
      ·(try dsimp only)
       exact SB.five HS10 HK9.out
      clear hK K
      try simp only [Rg.gp]
      have HFIN : Hid (BX x6.heap.size F b cap k (.slice none 0 0) (((((x9.setCell ⟨x6.heap.size,0,none⟩ (.int .i64 F.p)).setCell ⟨x6.heap.size,1,none⟩ (.int .i64 F.e)).setCell ⟨x6.heap.size,2,none⟩ (FM F b cap)).setCell ⟨x6.heap.size,3,none⟩ (.int .i64 (k : Nat))).setCell ⟨x6.heap.size,4,none⟩ (.slice none 0 0))):=Lib.hid (RZ.five HRZ.out F b cap (k:=k) (.slice none 0 0) rfl)
      have HFB : Hid (Below (W.heap.size + 2) w0 (((((x9.setCell ⟨x6.heap.size,0,none⟩ (.int .i64 F.p)).setCell ⟨x6.heap.size,1,none⟩ (.int .i64 F.e)).setCell ⟨x6.heap.size,2,none⟩ (FM F b cap)).setCell ⟨x6.heap.size,3,none⟩ (.int .i64 (k : Nat))).setCell ⟨x6.heap.size,4,none⟩ (.slice none 0 0))):=Lib.hid hHeld.2.out.2.2
      generalize (((((x9.setCell ⟨x6.heap.size,0,none⟩ (.int .i64 F.p)).setCell ⟨x6.heap.size,1,none⟩ (.int .i64 F.e)).setCell ⟨x6.heap.size,2,none⟩ (FM F b cap)).setCell ⟨x6.heap.size,3,none⟩ (.int .i64 (k : Nat))).setCell ⟨x6.heap.size,4,none⟩ (.slice none 0 0)) = x10 at *
      refine wpAnyH_done (by kernel_rfl) ?_ _
      clear hHeld HS10 HRZ HRZ9 r0 r1 r2 r3 r4 g0 g1 g2 g3 g4
      go_wp2_with fail
      go_meet
      case rel=>exact ⟨x6.heap.size,rfl,HK9,HFIN,HFB⟩
     ·go_simp
      refine hK.out _ _ ?_ (fun hHeld=>?_)
      ·(try dsimp only)
       exact SB.keep hHeld ((Below.refl _ _).alloc (Nat.le_refl _) _)
      clear hK K
      try simp only [Rg.gp]
      obtain ⟨x9,hw9⟩ : ∃ x,x = (x5.alloc (.cells #[.int .i64 0,.int .i64 0,.slice none 0 0,.int .i64 0,.slice none 0 0] 79)):=⟨_,rfl⟩
      have HB9 : Hid (Below x5.heap.size x5 x9):=Lib.hid (by rw [hw9]; exact (Below.refl _ _).alloc (Nat.le_refl _) _)
      have HRZ9 : Hid (RZ x5.heap.size x9):=Lib.hid (by rw [hw9]; exact ⟨⟨World.cell?_alloc_at _ _ _ _ rfl,World.cell?_alloc_at _ _ _ _ rfl,World.cell?_alloc_at _ _ _ _ rfl,World.cell?_alloc_at _ _ _ _ rfl,World.cell?_alloc_at _ _ _ _ rfl⟩,fun t=>World.frozen?_alloc_at _ _ _ _ rfl,by simp⟩)
      have HK9 : Hid (W.heap.size + 2 ≤ x5.heap.size):=Lib.hid (by have:=HW0S.out; have t:=HX0.out; have:=HB2.out.size; have:=HB3.out.size; have:=HB5.out.size; omega)
      rw [← hw9] at hHeld ⊢
      clear hw9
      refine Rg.rd1 6 ⟨some 17,.call ⟨.value (.func 63),#[.tmp 16],#[96]⟩,3,"matrix.go:32",#[⟨5,.data⟩,⟨3,.chain⟩],none⟩ fun K hK=>?_
      have hc5:=HC5.out
      have hl5 : x3.heap.size < x5.heap.size:=by have:=HZ5.out; omega
      have hc5:=(HB9.out.cell (p:=⟨x3.heap.size,0,none⟩) hl5).trans hc5
      have hl5:=Nat.lt_of_lt_of_le hl5 HB9.out.size
      have hO : Calls Try.prog 63 #[.slice (some ⟨x3.heap.size,0,none⟩) 1 1] x9 fun e w'=>e = .returned (.int .i64 (k2 : Nat)) ∧ Below x9.heap.size x9 w':=HWD6.out x9 _ hHeld.mmb hc5 hl5
      go_simp
      go_at_call 63
      with_reducible refine hO.mono ?_
      rintro z x6 ⟨rfl,hb6⟩
      have HB6 : Hid (Below x9.heap.size x9 x6):=Lib.hid hb6
      clear hO hb6 hc5 hl5
      refine hK.out _ _ ?_ (fun hHeld=>?_)
      ·(try dsimp only)
       exact SB.keep hHeld HB6.out
      clear hK K
      try simp only [Rg.gp]
      refine Rg.tk 7 ⟨some 18,.binOp BinOp.add 3 (.tmp 14) (.tmp 17) 3,3,"matrix.go:32",#[⟨3,.data⟩,⟨6,.data⟩],none⟩ ?_
      try simp only [Rg.gp]
      refine Rg.tk 8 ⟨some 19,.build 79 #[(0,.tmp 11),(1,.tmp 18)],79,"matrix.go:32",#[⟨0,.data⟩,⟨7,.data⟩],none⟩ ?_
      try simp only [Rg.gp]
      refine Rg.rd1 10 ⟨none,.store 79 (.tmp 7) (.tmp 19),0,"matrix.go:32",#[⟨9,.data⟩,⟨8,.data⟩,⟨6,.chain⟩,⟨0,.phase⟩,⟨1,.phase⟩,⟨2,.phase⟩,⟨3,.phase⟩,⟨4,.phase⟩,⟨5,.phase⟩,⟨6,.phase⟩,⟨7,.phase⟩,⟨8,.phase⟩,⟨9,.phase⟩],none⟩ fun K hK=>?_
      have hz:=HRZ9.out
      have hz:=hz.bx (S:=fun _=>False) (Bx.of HB6.out) id
      have HRZ:=Lib.hid hz
      obtain ⟨⟨r0,r1,r2,r3,r4⟩,rf,rl⟩:=hz
      have g0:=rf 0
      have g1:=rf 1
      have g2:=rf 2
      have g3:=rf 3
      have g4:=rf 4
      have HS10:=hHeld
      clear rf rl
      go_simp
      refine hK.out _ _ ?_ (fun hHeld=>?_)
      ·(try dsimp only)
       exact SB.five HS10 HK9.out
      clear hK K
      try simp only [Rg.gp]
      have HFIN : Hid (BX x5.heap.size F b cap k (.slice none 0 0) (((((x6.setCell ⟨x5.heap.size,0,none⟩ (.int .i64 F.p)).setCell ⟨x5.heap.size,1,none⟩ (.int .i64 F.e)).setCell ⟨x5.heap.size,2,none⟩ (FM F b cap)).setCell ⟨x5.heap.size,3,none⟩ (.int .i64 (k : Nat))).setCell ⟨x5.heap.size,4,none⟩ (.slice none 0 0))):=Lib.hid (RZ.five HRZ.out F b cap (k:=k) (.slice none 0 0) rfl)
      have HFB : Hid (Below (W.heap.size + 2) w0 (((((x6.setCell ⟨x5.heap.size,0,none⟩ (.int .i64 F.p)).setCell ⟨x5.heap.size,1,none⟩ (.int .i64 F.e)).setCell ⟨x5.heap.size,2,none⟩ (FM F b cap)).setCell ⟨x5.heap.size,3,none⟩ (.int .i64 (k : Nat))).setCell ⟨x5.heap.size,4,none⟩ (.slice none 0 0))):=Lib.hid hHeld.2.out.2.2
      generalize (((((x6.setCell ⟨x5.heap.size,0,none⟩ (.int .i64 F.p)).setCell ⟨x5.heap.size,1,none⟩ (.int .i64 F.e)).setCell ⟨x5.heap.size,2,none⟩ (FM F b cap)).setCell ⟨x5.heap.size,3,none⟩ (.int .i64 (k : Nat))).setCell ⟨x5.heap.size,4,none⟩ (.slice none 0 0)) = x10 at *
      refine wpAnyH_done (by kernel_rfl) ?_ _
      clear hHeld HS10 HRZ HRZ9 r0 r1 r2 r3 r4 g0 g1 g2 g3 g4
      go_wp2_with fail
      go_meet
      case rel=>exact ⟨x5.heap.size,rfl,HK9,HFIN,HFB⟩
    ·go_simp
     refine hK.out _ _ ?_ (fun hHeld=>?_)
     ·(try dsimp only)
      exact SB.keep hHeld ((Below.refl _ _).alloc (Nat.le_refl _) _)
     clear hK K
     try simp only [Rg.gp]
     obtain ⟨x9,hw9⟩ : ∃ x,x = (x3.alloc (.cells #[.int .i64 0,.int .i64 0,.slice none 0 0,.int .i64 0,.slice none 0 0] 79)):=⟨_,rfl⟩
     have HB9 : Hid (Below x3.heap.size x3 x9):=Lib.hid (by rw [hw9]; exact (Below.refl _ _).alloc (Nat.le_refl _) _)
     have HRZ9 : Hid (RZ x3.heap.size x9):=Lib.hid (by rw [hw9]; exact ⟨⟨World.cell?_alloc_at _ _ _ _ rfl,World.cell?_alloc_at _ _ _ _ rfl,World.cell?_alloc_at _ _ _ _ rfl,World.cell?_alloc_at _ _ _ _ rfl,World.cell?_alloc_at _ _ _ _ rfl⟩,fun t=>World.frozen?_alloc_at _ _ _ _ rfl,by simp⟩)
     have HK9 : Hid (W.heap.size + 2 ≤ x3.heap.size):=Lib.hid (by have:=HW0S.out; have t:=HX0.out; have:=HB2.out.size; have:=HB3.out.size; omega)
     rw [← hw9] at hHeld ⊢
     clear hw9
     refine Rg.rd1 5 ⟨some 16,.buildSlice 96 1 #[(0,.tmp 15)],96,"matrix.go:32",#[⟨4,.data⟩],none⟩ fun K hK=>?_
     go_simp
     refine hK.out _ _ ?_ (fun hHeld=>?_)
     ·(try dsimp only)
      exact SB.keep hHeld ((Below.refl _ _).alloc (Nat.le_refl _) _)
     clear hK K
     try simp only [Rg.gp]
     obtain ⟨x5,hw5⟩ : ∃ x,x = (x9.alloc (.cells #[.slice ab m cb] 30)):=⟨_,rfl⟩
     have HB5 : Hid (Below x9.heap.size x9 x5):=Lib.hid (by rw [hw5]; exact (Below.refl _ _).alloc (Nat.le_refl _) _)
     have HZ5 : Hid (x5.heap.size = x9.heap.size + 1):=Lib.hid (by rw [hw5]; simp)
     have HC5 : Hid (x5.cell? ⟨x9.heap.size,0,none⟩ = some (.slice ab m cb)):=Lib.hid (by rw [hw5]; exact World.cell?_alloc_at _ _ _ _ rfl)
     rw [← hw5] at hHeld ⊢
     clear hw5
     refine Rg.rd1 6 ⟨some 17,.call ⟨.value (.func 63),#[.tmp 16],#[96]⟩,3,"matrix.go:32",#[⟨5,.data⟩,⟨3,.chain⟩],none⟩ fun K hK=>?_
     have hc5:=HC5.out
     have hl5 : x9.heap.size < x5.heap.size:=by have:=HZ5.out; omega
     have hO : Calls Try.prog 63 #[.slice (some ⟨x9.heap.size,0,none⟩) 1 1] x5 fun e w'=>e = .returned (.int .i64 (k2 : Nat)) ∧ Below x5.heap.size x5 w':=HWD6.out x5 _ hHeld.mmb hc5 hl5
     go_simp
     go_at_call 63
     with_reducible refine hO.mono ?_
     rintro z x6 ⟨rfl,hb6⟩
     have HB6 : Hid (Below x5.heap.size x5 x6):=Lib.hid hb6
     clear hO hb6 hc5 hl5
     refine hK.out _ _ ?_ (fun hHeld=>?_)
     ·(try dsimp only)
      exact SB.keep hHeld HB6.out
     clear hK K
     try simp only [Rg.gp]
     refine Rg.tk 7 ⟨some 18,.binOp BinOp.add 3 (.tmp 14) (.tmp 17) 3,3,"matrix.go:32",#[⟨3,.data⟩,⟨6,.data⟩],none⟩ ?_
     try simp only [Rg.gp]
     refine Rg.tk 8 ⟨some 19,.build 79 #[(0,.tmp 11),(1,.tmp 18)],79,"matrix.go:32",#[⟨0,.data⟩,⟨7,.data⟩],none⟩ ?_
     try simp only [Rg.gp]
     refine Rg.rd1 10 ⟨none,.store 79 (.tmp 7) (.tmp 19),0,"matrix.go:32",#[⟨9,.data⟩,⟨8,.data⟩,⟨6,.chain⟩,⟨0,.phase⟩,⟨1,.phase⟩,⟨2,.phase⟩,⟨3,.phase⟩,⟨4,.phase⟩,⟨5,.phase⟩,⟨6,.phase⟩,⟨7,.phase⟩,⟨8,.phase⟩,⟨9,.phase⟩],none⟩ fun K hK=>?_
     have hz:=HRZ9.out
     have hz:=hz.bx (S:=fun _=>False) (Bx.of HB5.out) id
     have hz:=hz.bx (S:=fun _=>False) (Bx.of HB6.out) id
     have HRZ:=Lib.hid hz
     obtain ⟨⟨r0,r1,r2,r3,r4⟩,rf,rl⟩:=hz
     have g0:=rf 0
     have g1:=rf 1
     have g2:=rf 2
     have g3:=rf 3
     have g4:=rf 4
     have HS10:=hHeld
     clear rf rl
     go_simp
     refine hK.out _ _ ?_ (fun hHeld=>?_)
     ·(try dsimp only)
      exact SB.five HS10 HK9.out
     clear hK K
     try simp only [Rg.gp]
     have HFIN : Hid (BX x3.heap.size F b cap k (.slice none 0 0) (((((x6.setCell ⟨x3.heap.size,0,none⟩ (.int .i64 F.p)).setCell ⟨x3.heap.size,1,none⟩ (.int .i64 F.e)).setCell ⟨x3.heap.size,2,none⟩ (FM F b cap)).setCell ⟨x3.heap.size,3,none⟩ (.int .i64 (k : Nat))).setCell ⟨x3.heap.size,4,none⟩ (.slice none 0 0))):=Lib.hid (RZ.five HRZ.out F b cap (k:=k) (.slice none 0 0) rfl)
     have HFB : Hid (Below (W.heap.size + 2) w0 (((((x6.setCell ⟨x3.heap.size,0,none⟩ (.int .i64 F.p)).setCell ⟨x3.heap.size,1,none⟩ (.int .i64 F.e)).setCell ⟨x3.heap.size,2,none⟩ (FM F b cap)).setCell ⟨x3.heap.size,3,none⟩ (.int .i64 (k : Nat))).setCell ⟨x3.heap.size,4,none⟩ (.slice none 0 0))):=Lib.hid hHeld.2.out.2.2
     generalize (((((x6.setCell ⟨x3.heap.size,0,none⟩ (.int .i64 F.p)).setCell ⟨x3.heap.size,1,none⟩ (.int .i64 F.e)).setCell ⟨x3.heap.size,2,none⟩ (FM F b cap)).setCell ⟨x3.heap.size,3,none⟩ (.int .i64 (k : Nat))).setCell ⟨x3.heap.size,4,none⟩ (.slice none 0 0)) = x10 at *
     refine wpAnyH_done (by kernel_rfl) ?_ _
     clear hHeld HS10 HRZ HRZ9 r0 r1 r2 r3 r4 g0 g1 g2 g3 g4
     go_wp2_with fail
     go_meet
     case rel=>exact ⟨x3.heap.size,rfl,HK9,HFIN,HFB⟩
   ·go_simp
    refine hK.out _ _ ?_ (fun hHeld=>?_)
    ·(try dsimp only)
     exact SB.keep hHeld ((Below.refl _ _).alloc (Nat.le_refl _) _)
    clear hK K
    try simp only [Rg.gp]
    obtain ⟨x5,hw5⟩ : ∃ x,x = (x2.alloc (.cells #[.slice ab m cb] 30)):=⟨_,rfl⟩
    have HB5 : Hid (Below x2.heap.size x2 x5):=Lib.hid (by rw [hw5]; exact (Below.refl _ _).alloc (Nat.le_refl _) _)
    have HZ5 : Hid (x5.heap.size = x2.heap.size + 1):=Lib.hid (by rw [hw5]; simp)
    have HC5 : Hid (x5.cell? ⟨x2.heap.size,0,none⟩ = some (.slice ab m cb)):=Lib.hid (by rw [hw5]; exact World.cell?_alloc_at _ _ _ _ rfl)
    rw [← hw5] at hHeld ⊢
    clear hw5
    refine wpAnyH_ready (rs:=[3,9]) (by kernel_rfl) (by simp) ?_
    refine (AllReadyH.cons (o:=⟨some 14,.call ⟨.value (.func 63),#[.tmp 13],#[96]⟩,3,"matrix.go:32",#[⟨2,.data⟩],none⟩) rfl (fun K hK=>?_) (AllReadyH.cons (o:=⟨some 7,.alloc 79,0,"matrix.go:32",#[],none⟩) rfl (fun K hK=>?_) AllReadyH.nil))
    ·have hc2:=HC2.out
     have hl2 : x0.heap.size < x2.heap.size:=by have:=HZ2.out; omega
     have hc2:=(HB5.out.cell (p:=⟨x0.heap.size,0,none⟩) hl2).trans hc2
     have hl2:=Nat.lt_of_lt_of_le hl2 HB5.out.size
     have hO : Calls Try.prog 63 #[.slice (some ⟨x0.heap.size,0,none⟩) 1 1] x5 fun e w'=>e = .returned (.int .i64 (k1 : Nat)) ∧ Below x5.heap.size x5 w':=HWD3.out x5 _ hHeld.mma hc2 hl2
     go_simp
     go_at_call 63
     with_reducible refine hO.mono ?_
     rintro z x3 ⟨rfl,hb3⟩
     have HB3 : Hid (Below x5.heap.size x5 x3):=Lib.hid hb3
     clear hO hb3 hc2 hl2
     refine hK.out _ _ ?_ (fun hHeld=>?_)
     ·(try dsimp only)
      exact SB.keep hHeld HB3.out
     clear hK K
     try simp only [Rg.gp]
     refine wpAnyH_ready (rs:=[6,9]) (by kernel_rfl) (by simp) ?_
     refine (AllReadyH.cons (o:=⟨some 17,.call ⟨.value (.func 63),#[.tmp 16],#[96]⟩,3,"matrix.go:32",#[⟨5,.data⟩,⟨3,.chain⟩],none⟩) rfl (fun K hK=>?_) (AllReadyH.cons (o:=⟨some 7,.alloc 79,0,"matrix.go:32",#[],none⟩) rfl (fun K hK=>?_) AllReadyH.nil))
     ·have hc5:=HC5.out
      have hl5 : x2.heap.size < x5.heap.size:=by have:=HZ5.out; omega
      have hc5:=(HB3.out.cell (p:=⟨x2.heap.size,0,none⟩) hl5).trans hc5
      have hl5:=Nat.lt_of_lt_of_le hl5 HB3.out.size
      have hO : Calls Try.prog 63 #[.slice (some ⟨x2.heap.size,0,none⟩) 1 1] x3 fun e w'=>e = .returned (.int .i64 (k2 : Nat)) ∧ Below x3.heap.size x3 w':=HWD6.out x3 _ hHeld.mmb hc5 hl5
      go_simp
      go_at_call 63
      with_reducible refine hO.mono ?_
      rintro z x6 ⟨rfl,hb6⟩
      have HB6 : Hid (Below x3.heap.size x3 x6):=Lib.hid hb6
      clear hO hb6 hc5 hl5
      refine hK.out _ _ ?_ (fun hHeld=>?_)
      ·(try dsimp only)
       exact SB.keep hHeld HB6.out
      clear hK K
      try simp only [Rg.gp]
      refine Rg.tk 7 ⟨some 18,.binOp BinOp.add 3 (.tmp 14) (.tmp 17) 3,3,"matrix.go:32",#[⟨3,.data⟩,⟨6,.data⟩],none⟩ ?_
      try simp only [Rg.gp]
      refine Rg.tk 8 ⟨some 19,.build 79 #[(0,.tmp 11),(1,.tmp 18)],79,"matrix.go:32",#[⟨0,.data⟩,⟨7,.data⟩],none⟩ ?_
      try simp only [Rg.gp]
      refine Rg.rd1 9 ⟨some 7,.alloc 79,0,"matrix.go:32",#[],none⟩ fun K hK=>?_
      go_simp
      refine hK.out _ _ ?_ (fun hHeld=>?_)
      ·(try dsimp only)
       exact SB.keep hHeld ((Below.refl _ _).alloc (Nat.le_refl _) _)
      clear hK K
      try simp only [Rg.gp]
      obtain ⟨x9,hw9⟩ : ∃ x,x = (x6.alloc (.cells #[.int .i64 0,.int .i64 0,.slice none 0 0,.int .i64 0,.slice none 0 0] 79)):=⟨_,rfl⟩
      have HB9 : Hid (Below x6.heap.size x6 x9):=Lib.hid (by rw [hw9]; exact (Below.refl _ _).alloc (Nat.le_refl _) _)
      have HRZ9 : Hid (RZ x6.heap.size x9):=Lib.hid (by rw [hw9]; exact ⟨⟨World.cell?_alloc_at _ _ _ _ rfl,World.cell?_alloc_at _ _ _ _ rfl,World.cell?_alloc_at _ _ _ _ rfl,World.cell?_alloc_at _ _ _ _ rfl,World.cell?_alloc_at _ _ _ _ rfl⟩,fun t=>World.frozen?_alloc_at _ _ _ _ rfl,by simp⟩)
      have HK9 : Hid (W.heap.size + 2 ≤ x6.heap.size):=Lib.hid (by have:=HW0S.out; have t:=HX0.out; have:=HB2.out.size; have:=HB5.out.size; have:=HB3.out.size; have:=HB6.out.size; omega)
      rw [← hw9] at hHeld ⊢
      clear hw9
      refine Rg.rd1 10 ⟨none,.store 79 (.tmp 7) (.tmp 19),0,"matrix.go:32",#[⟨9,.data⟩,⟨8,.data⟩,⟨6,.chain⟩,⟨0,.phase⟩,⟨1,.phase⟩,⟨2,.phase⟩,⟨3,.phase⟩,⟨4,.phase⟩,⟨5,.phase⟩,⟨6,.phase⟩,⟨7,.phase⟩,⟨8,.phase⟩,⟨9,.phase⟩],none⟩ fun K hK=>?_
      have hz:=HRZ9.out
      have HRZ:=Lib.hid hz
      obtain ⟨⟨r0,r1,r2,r3,r4⟩,rf,rl⟩:=hz
      have g0:=rf 0
      have g1:=rf 1
      have g2:=rf 2
      have g3:=rf 3
      have g4:=rf 4
      have HS10:=hHeld
      clear rf rl
      go_simp
      refine hK.out _ _ ?_ (fun hHeld=>?_)
      ·(try dsimp only)
       exact SB.five HS10 HK9.out
      clear hK K
      try simp only [Rg.gp]
      have HFIN : Hid (BX x6.heap.size F b cap k (.slice none 0 0) (((((x9.setCell ⟨x6.heap.size,0,none⟩ (.int .i64 F.p)).setCell ⟨x6.heap.size,1,none⟩ (.int .i64 F.e)).setCell ⟨x6.heap.size,2,none⟩ (FM F b cap)).setCell ⟨x6.heap.size,3,none⟩ (.int .i64 (k : Nat))).setCell ⟨x6.heap.size,4,none⟩ (.slice none 0 0))):=Lib.hid (RZ.five HRZ.out F b cap (k:=k) (.slice none 0 0) rfl)
      have HFB : Hid (Below (W.heap.size + 2) w0 (((((x9.setCell ⟨x6.heap.size,0,none⟩ (.int .i64 F.p)).setCell ⟨x6.heap.size,1,none⟩ (.int .i64 F.e)).setCell ⟨x6.heap.size,2,none⟩ (FM F b cap)).setCell ⟨x6.heap.size,3,none⟩ (.int .i64 (k : Nat))).setCell ⟨x6.heap.size,4,none⟩ (.slice none 0 0))):=Lib.hid hHeld.2.out.2.2
      generalize (((((x9.setCell ⟨x6.heap.size,0,none⟩ (.int .i64 F.p)).setCell ⟨x6.heap.size,1,none⟩ (.int .i64 F.e)).setCell ⟨x6.heap.size,2,none⟩ (FM F b cap)).setCell ⟨x6.heap.size,3,none⟩ (.int .i64 (k : Nat))).setCell ⟨x6.heap.size,4,none⟩ (.slice none 0 0)) = x10 at *
      refine wpAnyH_done (by kernel_rfl) ?_ _
      clear hHeld HS10 HRZ HRZ9 r0 r1 r2 r3 r4 g0 g1 g2 g3 g4
      go_wp2_with fail
      go_meet
      case rel=>exact ⟨x6.heap.size,rfl,HK9,HFIN,HFB⟩
     ·go_simp
      refine hK.out _ _ ?_ (fun hHeld=>?_)
      ·(try dsimp only)
       exact SB.keep hHeld ((Below.refl _ _).alloc (Nat.le_refl _) _)
      clear hK K
      try simp only [Rg.gp]
      obtain ⟨x9,hw9⟩ : ∃ x,x = (x3.alloc (.cells #[.int .i64 0,.int .i64 0,.slice none 0 0,.int .i64 0,.slice none 0 0] 79)):=⟨_,rfl⟩
      have HB9 : Hid (Below x3.heap.size x3 x9):=Lib.hid (by rw [hw9]; exact (Below.refl _ _).alloc (Nat.le_refl _) _)
      have HRZ9 : Hid (RZ x3.heap.size x9):=Lib.hid (by rw [hw9]; exact ⟨⟨World.cell?_alloc_at _ _ _ _ rfl,World.cell?_alloc_at _ _ _ _ rfl,World.cell?_alloc_at _ _ _ _ rfl,World.cell?_alloc_at _ _ _ _ rfl,World.cell?_alloc_at _ _ _ _ rfl⟩,fun t=>World.frozen?_alloc_at _ _ _ _ rfl,by simp⟩)
      have HK9 : Hid (W.heap.size + 2 ≤ x3.heap.size):=Lib.hid (by have:=HW0S.out; have t:=HX0.out; have:=HB2.out.size; have:=HB5.out.size; have:=HB3.out.size; omega)
      rw [← hw9] at hHeld ⊢
      clear hw9
      refine Rg.rd1 6 ⟨some 17,.call ⟨.value (.func 63),#[.tmp 16],#[96]⟩,3,"matrix.go:32",#[⟨5,.data⟩,⟨3,.chain⟩],none⟩ fun K hK=>?_
      have hc5:=HC5.out
      have hl5 : x2.heap.size < x5.heap.size:=by have:=HZ5.out; omega
      have hc5:=(HB3.out.cell (p:=⟨x2.heap.size,0,none⟩) hl5).trans hc5
      have hl5:=Nat.lt_of_lt_of_le hl5 HB3.out.size
      have hc5:=(HB9.out.cell (p:=⟨x2.heap.size,0,none⟩) hl5).trans hc5
      have hl5:=Nat.lt_of_lt_of_le hl5 HB9.out.size
      have hO : Calls Try.prog 63 #[.slice (some ⟨x2.heap.size,0,none⟩) 1 1] x9 fun e w'=>e = .returned (.int .i64 (k2 : Nat)) ∧ Below x9.heap.size x9 w':=HWD6.out x9 _ hHeld.mmb hc5 hl5
      go_simp
      go_at_call 63
      with_reducible refine hO.mono ?_
      rintro z x6 ⟨rfl,hb6⟩
      have HB6 : Hid (Below x9.heap.size x9 x6):=Lib.hid hb6
      clear hO hb6 hc5 hl5
      refine hK.out _ _ ?_ (fun hHeld=>?_)
      ·(try dsimp only)
       exact SB.keep hHeld HB6.out
      clear hK K
      try simp only [Rg.gp]
      refine Rg.tk 7 ⟨some 18,.binOp BinOp.add 3 (.tmp 14) (.tmp 17) 3,3,"matrix.go:32",#[⟨3,.data⟩,⟨6,.data⟩],none⟩ ?_
      try simp only [Rg.gp]
      refine Rg.tk 8 ⟨some 19,.build 79 #[(0,.tmp 11),(1,.tmp 18)],79,"matrix.go:32",#[⟨0,.data⟩,⟨7,.data⟩],none⟩ ?_
      try simp only [Rg.gp]
      refine Rg.rd1 10 ⟨none,.store 79 (.tmp 7) (.tmp 19),0,"matrix.go:32",#[⟨9,.data⟩,⟨8,.data⟩,⟨6,.chain⟩,⟨0,.phase⟩,⟨1,.phase⟩,⟨2,.phase⟩,⟨3,.phase⟩,⟨4,.phase⟩,⟨5,.phase⟩,⟨6,.phase⟩,⟨7,.phase⟩,⟨8,.phase⟩,⟨9,.phase⟩],none⟩ fun K hK=>?_
      have hz:=HRZ9.out
      have hz:=hz.bx (S:=fun _=>False) (Bx.of HB6.out) id
      have HRZ:=Lib.hid hz
      obtain ⟨⟨r0,r1,r2,r3,r4⟩,rf,rl⟩:=hz
      have g0:=rf 0
      have g1:=rf 1
      have g2:=rf 2
      have g3:=rf 3
      have g4:=rf 4
      have HS10:=hHeld
      clear rf rl
      go_simp
      refine hK.out _ _ ?_ (fun hHeld=>?_)
      ·(try dsimp only)
       exact SB.five HS10 HK9.out
      clear hK K
      try simp only [Rg.gp]
      have HFIN : Hid (BX x3.heap.size F b cap k (.slice none 0 0) (((((x6.setCell ⟨x3.heap.size,0,none⟩ (.int .i64 F.p)).setCell ⟨x3.heap.size,1,none⟩ (.int .i64 F.e)).setCell ⟨x3.heap.size,2,none⟩ (FM F b cap)).setCell ⟨x3.heap.size,3,none⟩ (.int .i64 (k : Nat))).setCell ⟨x3.heap.size,4,none⟩ (.slice none 0 0))):=Lib.hid (RZ.five HRZ.out F b cap (k:=k) (.slice none 0 0) rfl)
      have HFB : Hid (Below (W.heap.size + 2) w0 (((((x6.setCell ⟨x3.heap.size,0,none⟩ (.int .i64 F.p)).setCell ⟨x3.heap.size,1,none⟩ (.int .i64 F.e)).setCell ⟨x3.heap.size,2,none⟩ (FM F b cap)).setCell ⟨x3.heap.size,3,none⟩ (.int .i64 (k : Nat))).setCell ⟨x3.heap.size,4,none⟩ (.slice none 0 0))):=Lib.hid hHeld.2.out.2.2
      generalize (((((x6.setCell ⟨x3.heap.size,0,none⟩ (.int .i64 F.p)).setCell ⟨x3.heap.size,1,none⟩ (.int .i64 F.e)).setCell ⟨x3.heap.size,2,none⟩ (FM F b cap)).setCell ⟨x3.heap.size,3,none⟩ (.int .i64 (k : Nat))).setCell ⟨x3.heap.size,4,none⟩ (.slice none 0 0)) = x10 at *
      refine wpAnyH_done (by kernel_rfl) ?_ _
      clear hHeld HS10 HRZ HRZ9 r0 r1 r2 r3 r4 g0 g1 g2 g3 g4
      go_wp2_with fail
      go_meet
      case rel=>exact ⟨x3.heap.size,rfl,HK9,HFIN,HFB⟩
    ·go_simp
     refine hK.out _ _ ?_ (fun hHeld=>?_)
     ·(try dsimp only)
      exact SB.keep hHeld ((Below.refl _ _).alloc (Nat.le_refl _) _)
     clear hK K
     try simp only [Rg.gp]
     obtain ⟨x9,hw9⟩ : ∃ x,x = (x5.alloc (.cells #[.int .i64 0,.int .i64 0,.slice none 0 0,.int .i64 0,.slice none 0 0] 79)):=⟨_,rfl⟩
     have HB9 : Hid (Below x5.heap.size x5 x9):=Lib.hid (by rw [hw9]; exact (Below.refl _ _).alloc (Nat.le_refl _) _)
     have HRZ9 : Hid (RZ x5.heap.size x9):=Lib.hid (by rw [hw9]; exact ⟨⟨World.cell?_alloc_at _ _ _ _ rfl,World.cell?_alloc_at _ _ _ _ rfl,World.cell?_alloc_at _ _ _ _ rfl,World.cell?_alloc_at _ _ _ _ rfl,World.cell?_alloc_at _ _ _ _ rfl⟩,fun t=>World.frozen?_alloc_at _ _ _ _ rfl,by simp⟩)
     have HK9 : Hid (W.heap.size + 2 ≤ x5.heap.size):=Lib.hid (by have:=HW0S.out; have t:=HX0.out; have:=HB2.out.size; have:=HB5.out.size; omega)
     rw [← hw9] at hHeld ⊢
     clear hw9
     refine Rg.rd1 3 ⟨some 14,.call ⟨.value (.func 63),#[.tmp 13],#[96]⟩,3,"matrix.go:32",#[⟨2,.data⟩],none⟩ fun K hK=>?_
     have hc2:=HC2.out
     have hl2 : x0.heap.size < x2.heap.size:=by have:=HZ2.out; omega
     have hc2:=(HB5.out.cell (p:=⟨x0.heap.size,0,none⟩) hl2).trans hc2
     have hl2:=Nat.lt_of_lt_of_le hl2 HB5.out.size
     have hc2:=(HB9.out.cell (p:=⟨x0.heap.size,0,none⟩) hl2).trans hc2
     have hl2:=Nat.lt_of_lt_of_le hl2 HB9.out.size
     have hO : Calls Try.prog 63 #[.slice (some ⟨x0.heap.size,0,none⟩) 1 1] x9 fun e w'=>e = .returned (.int .i64 (k1 : Nat)) ∧ Below x9.heap.size x9 w':=HWD3.out x9 _ hHeld.mma hc2 hl2
     go_simp
     go_at_call 63
     with_reducible refine hO.mono ?_
     rintro z x3 ⟨rfl,hb3⟩
     have HB3 : Hid (Below x9.heap.size x9 x3):=Lib.hid hb3
     clear hO hb3 hc2 hl2
     refine hK.out _ _ ?_ (fun hHeld=>?_)
     ·(try dsimp only)
      exact SB.keep hHeld HB3.out
     clear hK K
     try simp only [Rg.gp]
     refine Rg.rd1 6 ⟨some 17,.call ⟨.value (.func 63),#[.tmp 16],#[96]⟩,3,"matrix.go:32",#[⟨5,.data⟩,⟨3,.chain⟩],none⟩ fun K hK=>?_
     have hc5:=HC5.out
     have hl5 : x2.heap.size < x5.heap.size:=by have:=HZ5.out; omega
     have hc5:=(HB9.out.cell (p:=⟨x2.heap.size,0,none⟩) hl5).trans hc5
     have hl5:=Nat.lt_of_lt_of_le hl5 HB9.out.size
     have hc5:=(HB3.out.cell (p:=⟨x2.heap.size,0,none⟩) hl5).trans hc5
     have hl5:=Nat.lt_of_lt_of_le hl5 HB3.out.size
     have hO : Calls Try.prog 63 #[.slice (some ⟨x2.heap.size,0,none⟩) 1 1] x3 fun e w'=>e = .returned (.int .i64 (k2 : Nat)) ∧ Below x3.heap.size x3 w':=HWD6.out x3 _ hHeld.mmb hc5 hl5
     go_simp
     go_at_call 63
     with_reducible refine hO.mono ?_
     rintro z x6 ⟨rfl,hb6⟩
     have HB6 : Hid (Below x3.heap.size x3 x6):=Lib.hid hb6
     clear hO hb6 hc5 hl5
     refine hK.out _ _ ?_ (fun hHeld=>?_)
     ·(try dsimp only)
      exact SB.keep hHeld HB6.out
     clear hK K
     try simp only [Rg.gp]
     refine Rg.tk 7 ⟨some 18,.binOp BinOp.add 3 (.tmp 14) (.tmp 17) 3,3,"matrix.go:32",#[⟨3,.data⟩,⟨6,.data⟩],none⟩ ?_
     try simp only [Rg.gp]
     refine Rg.tk 8 ⟨some 19,.build 79 #[(0,.tmp 11),(1,.tmp 18)],79,"matrix.go:32",#[⟨0,.data⟩,⟨7,.data⟩],none⟩ ?_
     try simp only [Rg.gp]
     refine Rg.rd1 10 ⟨none,.store 79 (.tmp 7) (.tmp 19),0,"matrix.go:32",#[⟨9,.data⟩,⟨8,.data⟩,⟨6,.chain⟩,⟨0,.phase⟩,⟨1,.phase⟩,⟨2,.phase⟩,⟨3,.phase⟩,⟨4,.phase⟩,⟨5,.phase⟩,⟨6,.phase⟩,⟨7,.phase⟩,⟨8,.phase⟩,⟨9,.phase⟩],none⟩ fun K hK=>?_
     have hz:=HRZ9.out
     have hz:=hz.bx (S:=fun _=>False) (Bx.of HB3.out) id
     have hz:=hz.bx (S:=fun _=>False) (Bx.of HB6.out) id
     have HRZ:=Lib.hid hz
     obtain ⟨⟨r0,r1,r2,r3,r4⟩,rf,rl⟩:=hz
     have g0:=rf 0
     have g1:=rf 1
     have g2:=rf 2
     have g3:=rf 3
     have g4:=rf 4
     have HS10:=hHeld
     clear rf rl
     go_simp
     refine hK.out _ _ ?_ (fun hHeld=>?_)
     ·(try dsimp only)
      exact SB.five HS10 HK9.out
     clear hK K
     try simp only [Rg.gp]
     have HFIN : Hid (BX x5.heap.size F b cap k (.slice none 0 0) (((((x6.setCell ⟨x5.heap.size,0,none⟩ (.int .i64 F.p)).setCell ⟨x5.heap.size,1,none⟩ (.int .i64 F.e)).setCell ⟨x5.heap.size,2,none⟩ (FM F b cap)).setCell ⟨x5.heap.size,3,none⟩ (.int .i64 (k : Nat))).setCell ⟨x5.heap.size,4,none⟩ (.slice none 0 0))):=Lib.hid (RZ.five HRZ.out F b cap (k:=k) (.slice none 0 0) rfl)
     have HFB : Hid (Below (W.heap.size + 2) w0 (((((x6.setCell ⟨x5.heap.size,0,none⟩ (.int .i64 F.p)).setCell ⟨x5.heap.size,1,none⟩ (.int .i64 F.e)).setCell ⟨x5.heap.size,2,none⟩ (FM F b cap)).setCell ⟨x5.heap.size,3,none⟩ (.int .i64 (k : Nat))).setCell ⟨x5.heap.size,4,none⟩ (.slice none 0 0))):=Lib.hid hHeld.2.out.2.2
     generalize (((((x6.setCell ⟨x5.heap.size,0,none⟩ (.int .i64 F.p)).setCell ⟨x5.heap.size,1,none⟩ (.int .i64 F.e)).setCell ⟨x5.heap.size,2,none⟩ (FM F b cap)).setCell ⟨x5.heap.size,3,none⟩ (.int .i64 (k : Nat))).setCell ⟨x5.heap.size,4,none⟩ (.slice none 0 0)) = x10 at *
     refine wpAnyH_done (by kernel_rfl) ?_ _
     clear hHeld HS10 HRZ HRZ9 r0 r1 r2 r3 r4 g0 g1 g2 g3 g4
     go_wp2_with fail
     go_meet
     case rel=>exact ⟨x5.heap.size,rfl,HK9,HFIN,HFB⟩
   ·go_simp
    refine hK.out _ _ ?_ (fun hHeld=>?_)
    ·(try dsimp only)
     exact SB.keep hHeld ((Below.refl _ _).alloc (Nat.le_refl _) _)
    clear hK K
    try simp only [Rg.gp]
    obtain ⟨x9,hw9⟩ : ∃ x,x = (x2.alloc (.cells #[.int .i64 0,.int .i64 0,.slice none 0 0,.int .i64 0,.slice none 0 0] 79)):=⟨_,rfl⟩
    have HB9 : Hid (Below x2.heap.size x2 x9):=Lib.hid (by rw [hw9]; exact (Below.refl _ _).alloc (Nat.le_refl _) _)
    have HRZ9 : Hid (RZ x2.heap.size x9):=Lib.hid (by rw [hw9]; exact ⟨⟨World.cell?_alloc_at _ _ _ _ rfl,World.cell?_alloc_at _ _ _ _ rfl,World.cell?_alloc_at _ _ _ _ rfl,World.cell?_alloc_at _ _ _ _ rfl,World.cell?_alloc_at _ _ _ _ rfl⟩,fun t=>World.frozen?_alloc_at _ _ _ _ rfl,by simp⟩)
    have HK9 : Hid (W.heap.size + 2 ≤ x2.heap.size):=Lib.hid (by have:=HW0S.out; have t:=HX0.out; have:=HB2.out.size; omega)
    rw [← hw9] at hHeld ⊢
    clear hw9
    refine wpAnyH_ready (rs:=[3,5]) (by kernel_rfl) (by simp) ?_
    refine (AllReadyH.cons (o:=⟨some 14,.call ⟨.value (.func 63),#[.tmp 13],#[96]⟩,3,"matrix.go:32",#[⟨2,.data⟩],none⟩) rfl (fun K hK=>?_) (AllReadyH.cons (o:=⟨some 16,.buildSlice 96 1 #[(0,.tmp 15)],96,"matrix.go:32",#[⟨4,.data⟩],none⟩) rfl (fun K hK=>?_) AllReadyH.nil))
    ·have hc2:=HC2.out
     have hl2 : x0.heap.size < x2.heap.size:=by have:=HZ2.out; omega
     have hc2:=(HB9.out.cell (p:=⟨x0.heap.size,0,none⟩) hl2).trans hc2
     have hl2:=Nat.lt_of_lt_of_le hl2 HB9.out.size
     have hO : Calls Try.prog 63 #[.slice (some ⟨x0.heap.size,0,none⟩) 1 1] x9 fun e w'=>e = .returned (.int .i64 (k1 : Nat)) ∧ Below x9.heap.size x9 w':=HWD3.out x9 _ hHeld.mma hc2 hl2
     go_simp
     go_at_call 63
     with_reducible refine hO.mono ?_
     rintro z x3 ⟨rfl,hb3⟩
     have HB3 : Hid (Below x9.heap.size x9 x3):=Lib.hid hb3
     clear hO hb3 hc2 hl2
     refine hK.out _ _ ?_ (fun hHeld=>?_)
     ·(try dsimp only)
      exact SB.keep hHeld HB3.out
     clear hK K
     try simp only [Rg.gp]
     refine Rg.rd1 5 ⟨some 16,.buildSlice 96 1 #[(0,.tmp 15)],96,"matrix.go:32",#[⟨4,.data⟩],none⟩ fun K hK=>?_
     go_simp
     refine hK.out _ _ ?_ (fun hHeld=>?_)
     ·(try dsimp only)
      exact SB.keep hHeld ((Below.refl _ _).alloc (Nat.le_refl _) _)
     clear hK K
     try simp only [Rg.gp]
     obtain ⟨x5,hw5⟩ : ∃ x,x = (x3.alloc (.cells #[.slice ab m cb] 30)):=⟨_,rfl⟩
     have HB5 : Hid (Below x3.heap.size x3 x5):=Lib.hid (by rw [hw5]; exact (Below.refl _ _).alloc (Nat.le_refl _) _)
     have HZ5 : Hid (x5.heap.size = x3.heap.size + 1):=Lib.hid (by rw [hw5]; simp)
     have HC5 : Hid (x5.cell? ⟨x3.heap.size,0,none⟩ = some (.slice ab m cb)):=Lib.hid (by rw [hw5]; exact World.cell?_alloc_at _ _ _ _ rfl)
     rw [← hw5] at hHeld ⊢
     clear hw5
     refine Rg.rd1 6 ⟨some 17,.call ⟨.value (.func 63),#[.tmp 16],#[96]⟩,3,"matrix.go:32",#[⟨5,.data⟩,⟨3,.chain⟩],none⟩ fun K hK=>?_
     have hc5:=HC5.out
     have hl5 : x3.heap.size < x5.heap.size:=by have:=HZ5.out; omega
     have hO : Calls Try.prog 63 #[.slice (some ⟨x3.heap.size,0,none⟩) 1 1] x5 fun e w'=>e = .returned (.int .i64 (k2 : Nat)) ∧ Below x5.heap.size x5 w':=HWD6.out x5 _ hHeld.mmb hc5 hl5
     go_simp
     go_at_call 63
     with_reducible refine hO.mono ?_
     rintro z x6 ⟨rfl,hb6⟩
     have HB6 : Hid (Below x5.heap.size x5 x6):=Lib.hid hb6
     clear hO hb6 hc5 hl5
     refine hK.out _ _ ?_ (fun hHeld=>?_)
     ·(try dsimp only)
      exact SB.keep hHeld HB6.out
     clear hK K
     try simp only [Rg.gp]
     refine Rg.tk 7 ⟨some 18,.binOp BinOp.add 3 (.tmp 14) (.tmp 17) 3,3,"matrix.go:32",#[⟨3,.data⟩,⟨6,.data⟩],none⟩ ?_
     try simp only [Rg.gp]
     refine Rg.tk 8 ⟨some 19,.build 79 #[(0,.tmp 11),(1,.tmp 18)],79,"matrix.go:32",#[⟨0,.data⟩,⟨7,.data⟩],none⟩ ?_
     try simp only [Rg.gp]
     refine Rg.rd1 10 ⟨none,.store 79 (.tmp 7) (.tmp 19),0,"matrix.go:32",#[⟨9,.data⟩,⟨8,.data⟩,⟨6,.chain⟩,⟨0,.phase⟩,⟨1,.phase⟩,⟨2,.phase⟩,⟨3,.phase⟩,⟨4,.phase⟩,⟨5,.phase⟩,⟨6,.phase⟩,⟨7,.phase⟩,⟨8,.phase⟩,⟨9,.phase⟩],none⟩ fun K hK=>?_
     have hz:=HRZ9.out
     have hz:=hz.bx (S:=fun _=>False) (Bx.of HB3.out) id
     have hz:=hz.bx (S:=fun _=>False) (Bx.of HB5.out) id
     have hz:=hz.bx (S:=fun _=>False) (Bx.of HB6.out) id
     have HRZ:=Lib.hid hz
     obtain ⟨⟨r0,r1,r2,r3,r4⟩,rf,rl⟩:=hz
     have g0:=rf 0
     have g1:=rf 1
     have g2:=rf 2
     have g3:=rf 3
     have g4:=rf 4
     have HS10:=hHeld
     clear rf rl
     go_simp
     refine hK.out _ _ ?_ (fun hHeld=>?_)
     ·(try dsimp only)
      exact SB.five HS10 HK9.out
     clear hK K
     try simp only [Rg.gp]
     have HFIN : Hid (BX x2.heap.size F b cap k (.slice none 0 0) (((((x6.setCell ⟨x2.heap.size,0,none⟩ (.int .i64 F.p)).setCell ⟨x2.heap.size,1,none⟩ (.int .i64 F.e)).setCell ⟨x2.heap.size,2,none⟩ (FM F b cap)).setCell ⟨x2.heap.size,3,none⟩ (.int .i64 (k : Nat))).setCell ⟨x2.heap.size,4,none⟩ (.slice none 0 0))):=Lib.hid (RZ.five HRZ.out F b cap (k:=k) (.slice none 0 0) rfl)
     have HFB : Hid (Below (W.heap.size + 2) w0 (((((x6.setCell ⟨x2.heap.size,0,none⟩ (.int .i64 F.p)).setCell ⟨x2.heap.size,1,none⟩ (.int .i64 F.e)).setCell ⟨x2.heap.size,2,none⟩ (FM F b cap)).setCell ⟨x2.heap.size,3,none⟩ (.int .i64 (k : Nat))).setCell ⟨x2.heap.size,4,none⟩ (.slice none 0 0))):=Lib.hid hHeld.2.out.2.2
     generalize (((((x6.setCell ⟨x2.heap.size,0,none⟩ (.int .i64 F.p)).setCell ⟨x2.heap.size,1,none⟩ (.int .i64 F.e)).setCell ⟨x2.heap.size,2,none⟩ (FM F b cap)).setCell ⟨x2.heap.size,3,none⟩ (.int .i64 (k : Nat))).setCell ⟨x2.heap.size,4,none⟩ (.slice none 0 0)) = x10 at *
     refine wpAnyH_done (by kernel_rfl) ?_ _
     clear hHeld HS10 HRZ HRZ9 r0 r1 r2 r3 r4 g0 g1 g2 g3 g4
     go_wp2_with fail
     go_meet
     case rel=>exact ⟨x2.heap.size,rfl,HK9,HFIN,HFB⟩
    ·go_simp
     refine hK.out _ _ ?_ (fun hHeld=>?_)
     ·(try dsimp only)
      exact SB.keep hHeld ((Below.refl _ _).alloc (Nat.le_refl _) _)
     clear hK K
     try simp only [Rg.gp]
     obtain ⟨x5,hw5⟩ : ∃ x,x = (x9.alloc (.cells #[.slice ab m cb] 30)):=⟨_,rfl⟩
     have HB5 : Hid (Below x9.heap.size x9 x5):=Lib.hid (by rw [hw5]; exact (Below.refl _ _).alloc (Nat.le_refl _) _)
     have HZ5 : Hid (x5.heap.size = x9.heap.size + 1):=Lib.hid (by rw [hw5]; simp)
     have HC5 : Hid (x5.cell? ⟨x9.heap.size,0,none⟩ = some (.slice ab m cb)):=Lib.hid (by rw [hw5]; exact World.cell?_alloc_at _ _ _ _ rfl)
     rw [← hw5] at hHeld ⊢
     clear hw5
     refine Rg.rd1 3 ⟨some 14,.call ⟨.value (.func 63),#[.tmp 13],#[96]⟩,3,"matrix.go:32",#[⟨2,.data⟩],none⟩ fun K hK=>?_
     have hc2:=HC2.out
     have hl2 : x0.heap.size < x2.heap.size:=by have:=HZ2.out; omega
     have hc2:=(HB9.out.cell (p:=⟨x0.heap.size,0,none⟩) hl2).trans hc2
     have hl2:=Nat.lt_of_lt_of_le hl2 HB9.out.size
     have hc2:=(HB5.out.cell (p:=⟨x0.heap.size,0,none⟩) hl2).trans hc2
     have hl2:=Nat.lt_of_lt_of_le hl2 HB5.out.size
     have hO : Calls Try.prog 63 #[.slice (some ⟨x0.heap.size,0,none⟩) 1 1] x5 fun e w'=>e = .returned (.int .i64 (k1 : Nat)) ∧ Below x5.heap.size x5 w':=HWD3.out x5 _ hHeld.mma hc2 hl2
     go_simp
     go_at_call 63
     with_reducible refine hO.mono ?_
     rintro z x3 ⟨rfl,hb3⟩
     have HB3 : Hid (Below x5.heap.size x5 x3):=Lib.hid hb3
     clear hO hb3 hc2 hl2
     refine hK.out _ _ ?_ (fun hHeld=>?_)
     ·(try dsimp only)
      exact SB.keep hHeld HB3.out
     clear hK K
     try simp only [Rg.gp]
     refine Rg.rd1 6 ⟨some 17,.call ⟨.value (.func 63),#[.tmp 16],#[96]⟩,3,"matrix.go:32",#[⟨5,.data⟩,⟨3,.chain⟩],none⟩ fun K hK=>?_
     have hc5:=HC5.out
     have hl5 : x9.heap.size < x5.heap.size:=by have:=HZ5.out; omega
     have hc5:=(HB3.out.cell (p:=⟨x9.heap.size,0,none⟩) hl5).trans hc5
     have hl5:=Nat.lt_of_lt_of_le hl5 HB3.out.size
     have hO : Calls Try.prog 63 #[.slice (some ⟨x9.heap.size,0,none⟩) 1 1] x3 fun e w'=>e = .returned (.int .i64 (k2 : Nat)) ∧ Below x3.heap.size x3 w':=HWD6.out x3 _ hHeld.mmb hc5 hl5
     go_simp
     go_at_call 63
     with_reducible refine hO.mono ?_
     rintro z x6 ⟨rfl,hb6⟩
     have HB6 : Hid (Below x3.heap.size x3 x6):=Lib.hid hb6
     clear hO hb6 hc5 hl5
     refine hK.out _ _ ?_ (fun hHeld=>?_)
     ·(try dsimp only)
      exact SB.keep hHeld HB6.out
     clear hK K
     try simp only [Rg.gp]
     refine Rg.tk 7 ⟨some 18,.binOp BinOp.add 3 (.tmp 14) (.tmp 17) 3,3,"matrix.go:32",#[⟨3,.data⟩,⟨6,.data⟩],none⟩ ?_
     try simp only [Rg.gp]
     refine Rg.tk 8 ⟨some 19,.build 79 #[(0,.tmp 11),(1,.tmp 18)],79,"matrix.go:32",#[⟨0,.data⟩,⟨7,.data⟩],none⟩ ?_
     try simp only [Rg.gp]
     refine Rg.rd1 10 ⟨none,.store 79 (.tmp 7) (.tmp 19),0,"matrix.go:32",#[⟨9,.data⟩,⟨8,.data⟩,⟨6,.chain⟩,⟨0,.phase⟩,⟨1,.phase⟩,⟨2,.phase⟩,⟨3,.phase⟩,⟨4,.phase⟩,⟨5,.phase⟩,⟨6,.phase⟩,⟨7,.phase⟩,⟨8,.phase⟩,⟨9,.phase⟩],none⟩ fun K hK=>?_
     have hz:=HRZ9.out
     have hz:=hz.bx (S:=fun _=>False) (Bx.of HB5.out) id
     have hz:=hz.bx (S:=fun _=>False) (Bx.of HB3.out) id
     have hz:=hz.bx (S:=fun _=>False) (Bx.of HB6.out) id
     have HRZ:=Lib.hid hz
     obtain ⟨⟨r0,r1,r2,r3,r4⟩,rf,rl⟩:=hz
     have g0:=rf 0
     have g1:=rf 1
     have g2:=rf 2
     have g3:=rf 3
     have g4:=rf 4
     have HS10:=hHeld
     clear rf rl
     go_simp
     refine hK.out _ _ ?_ (fun hHeld=>?_)
     ·(try dsimp only)
      exact SB.five HS10 HK9.out
     clear hK K
     try simp only [Rg.gp]
     have HFIN : Hid (BX x2.heap.size F b cap k (.slice none 0 0) (((((x6.setCell ⟨x2.heap.size,0,none⟩ (.int .i64 F.p)).setCell ⟨x2.heap.size,1,none⟩ (.int .i64 F.e)).setCell ⟨x2.heap.size,2,none⟩ (FM F b cap)).setCell ⟨x2.heap.size,3,none⟩ (.int .i64 (k : Nat))).setCell ⟨x2.heap.size,4,none⟩ (.slice none 0 0))):=Lib.hid (RZ.five HRZ.out F b cap (k:=k) (.slice none 0 0) rfl)
     have HFB : Hid (Below (W.heap.size + 2) w0 (((((x6.setCell ⟨x2.heap.size,0,none⟩ (.int .i64 F.p)).setCell ⟨x2.heap.size,1,none⟩ (.int .i64 F.e)).setCell ⟨x2.heap.size,2,none⟩ (FM F b cap)).setCell ⟨x2.heap.size,3,none⟩ (.int .i64 (k : Nat))).setCell ⟨x2.heap.size,4,none⟩ (.slice none 0 0))):=Lib.hid hHeld.2.out.2.2
     generalize (((((x6.setCell ⟨x2.heap.size,0,none⟩ (.int .i64 F.p)).setCell ⟨x2.heap.size,1,none⟩ (.int .i64 F.e)).setCell ⟨x2.heap.size,2,none⟩ (FM F b cap)).setCell ⟨x2.heap.size,3,none⟩ (.int .i64 (k : Nat))).setCell ⟨x2.heap.size,4,none⟩ (.slice none 0 0)) = x10 at *
     refine wpAnyH_done (by kernel_rfl) ?_ _
     clear hHeld HS10 HRZ HRZ9 r0 r1 r2 r3 r4 g0 g1 g2 g3 g4
     go_wp2_with fail
     go_meet
     case rel=>exact ⟨x2.heap.size,rfl,HK9,HFIN,HFB⟩
  ·go_simp
   refine hK.out _ _ ?_ (fun hHeld=>?_)
   ·(try dsimp only)
    exact SB.keep hHeld ((Below.refl _ _).alloc (Nat.le_refl _) _)
   clear hK K
   try simp only [Rg.gp]
   obtain ⟨x5,hw5⟩ : ∃ x,x = (x0.alloc (.cells #[.slice ab m cb] 30)):=⟨_,rfl⟩
   have HB5 : Hid (Below x0.heap.size x0 x5):=Lib.hid (by rw [hw5]; exact (Below.refl _ _).alloc (Nat.le_refl _) _)
   have HZ5 : Hid (x5.heap.size = x0.heap.size + 1):=Lib.hid (by rw [hw5]; simp)
   have HC5 : Hid (x5.cell? ⟨x0.heap.size,0,none⟩ = some (.slice ab m cb)):=Lib.hid (by rw [hw5]; exact World.cell?_alloc_at _ _ _ _ rfl)
   rw [← hw5] at hHeld ⊢
   clear hw5
   refine wpAnyH_ready (rs:=[2,9]) (by kernel_rfl) (by simp) ?_
   refine (AllReadyH.cons (o:=⟨some 13,.buildSlice 96 1 #[(0,.tmp 12)],96,"matrix.go:32",#[⟨1,.data⟩],none⟩) rfl (fun K hK=>?_) (AllReadyH.cons (o:=⟨some 7,.alloc 79,0,"matrix.go:32",#[],none⟩) rfl (fun K hK=>?_) AllReadyH.nil))
   ·go_simp
    refine hK.out _ _ ?_ (fun hHeld=>?_)
    ·(try dsimp only)
     exact SB.keep hHeld ((Below.refl _ _).alloc (Nat.le_refl _) _)
    clear hK K
    try simp only [Rg.gp]
    obtain ⟨x2,hw2⟩ : ∃ x,x = (x5.alloc (.cells #[.slice aa m ca] 30)):=⟨_,rfl⟩
    have HB2 : Hid (Below x5.heap.size x5 x2):=Lib.hid (by rw [hw2]; exact (Below.refl _ _).alloc (Nat.le_refl _) _)
    have HZ2 : Hid (x2.heap.size = x5.heap.size + 1):=Lib.hid (by rw [hw2]; simp)
    have HC2 : Hid (x2.cell? ⟨x5.heap.size,0,none⟩ = some (.slice aa m ca)):=Lib.hid (by rw [hw2]; exact World.cell?_alloc_at _ _ _ _ rfl)
    rw [← hw2] at hHeld ⊢
    clear hw2
    refine wpAnyH_ready (rs:=[3,9]) (by kernel_rfl) (by simp) ?_
    refine (AllReadyH.cons (o:=⟨some 14,.call ⟨.value (.func 63),#[.tmp 13],#[96]⟩,3,"matrix.go:32",#[⟨2,.data⟩],none⟩) rfl (fun K hK=>?_) (AllReadyH.cons (o:=⟨some 7,.alloc 79,0,"matrix.go:32",#[],none⟩) rfl (fun K hK=>?_) AllReadyH.nil))
    ·have hc2:=HC2.out
     have hl2 : x5.heap.size < x2.heap.size:=by have:=HZ2.out; omega
     have hO : Calls Try.prog 63 #[.slice (some ⟨x5.heap.size,0,none⟩) 1 1] x2 fun e w'=>e = .returned (.int .i64 (k1 : Nat)) ∧ Below x2.heap.size x2 w':=HWD3.out x2 _ hHeld.mma hc2 hl2
     go_simp
     go_at_call 63
     with_reducible refine hO.mono ?_
     rintro z x3 ⟨rfl,hb3⟩
     have HB3 : Hid (Below x2.heap.size x2 x3):=Lib.hid hb3
     clear hO hb3 hc2 hl2
     refine hK.out _ _ ?_ (fun hHeld=>?_)
     ·(try dsimp only)
      exact SB.keep hHeld HB3.out
     clear hK K
     try simp only [Rg.gp]
     refine wpAnyH_ready (rs:=[6,9]) (by kernel_rfl) (by simp) ?_
     refine (AllReadyH.cons (o:=⟨some 17,.call ⟨.value (.func 63),#[.tmp 16],#[96]⟩,3,"matrix.go:32",#[⟨5,.data⟩,⟨3,.chain⟩],none⟩) rfl (fun K hK=>?_) (AllReadyH.cons (o:=⟨some 7,.alloc 79,0,"matrix.go:32",#[],none⟩) rfl (fun K hK=>?_) AllReadyH.nil))
     ·have hc5:=HC5.out
      have hl5 : x0.heap.size < x5.heap.size:=by have:=HZ5.out; omega
      have hc5:=(HB2.out.cell (p:=⟨x0.heap.size,0,none⟩) hl5).trans hc5
      have hl5:=Nat.lt_of_lt_of_le hl5 HB2.out.size
      have hc5:=(HB3.out.cell (p:=⟨x0.heap.size,0,none⟩) hl5).trans hc5
      have hl5:=Nat.lt_of_lt_of_le hl5 HB3.out.size
      have hO : Calls Try.prog 63 #[.slice (some ⟨x0.heap.size,0,none⟩) 1 1] x3 fun e w'=>e = .returned (.int .i64 (k2 : Nat)) ∧ Below x3.heap.size x3 w':=HWD6.out x3 _ hHeld.mmb hc5 hl5
      go_simp
      go_at_call 63
      with_reducible refine hO.mono ?_
      rintro z x6 ⟨rfl,hb6⟩
      have HB6 : Hid (Below x3.heap.size x3 x6):=Lib.hid hb6
      clear hO hb6 hc5 hl5
      refine hK.out _ _ ?_ (fun hHeld=>?_)
      ·(try dsimp only)
       exact SB.keep hHeld HB6.out
      clear hK K
      try simp only [Rg.gp]
      refine Rg.tk 7 ⟨some 18,.binOp BinOp.add 3 (.tmp 14) (.tmp 17) 3,3,"matrix.go:32",#[⟨3,.data⟩,⟨6,.data⟩],none⟩ ?_
      try simp only [Rg.gp]
      refine Rg.tk 8 ⟨some 19,.build 79 #[(0,.tmp 11),(1,.tmp 18)],79,"matrix.go:32",#[⟨0,.data⟩,⟨7,.data⟩],none⟩ ?_
      try simp only [Rg.gp]
      refine Rg.rd1 9 ⟨some 7,.alloc 79,0,"matrix.go:32",#[],none⟩ fun K hK=>?_
      go_simp
      refine hK.out _ _ ?_ (fun hHeld=>?_)
      ·(try dsimp only)
       exact SB.keep hHeld ((Below.refl _ _).alloc (Nat.le_refl _) _)
      clear hK K
      try simp only [Rg.gp]
      obtain ⟨x9,hw9⟩ : ∃ x,x = (x6.alloc (.cells #[.int .i64 0,.int .i64 0,.slice none 0 0,.int .i64 0,.slice none 0 0] 79)):=⟨_,rfl⟩
      have HB9 : Hid (Below x6.heap.size x6 x9):=Lib.hid (by rw [hw9]; exact (Below.refl _ _).alloc (Nat.le_refl _) _)
      have HRZ9 : Hid (RZ x6.heap.size x9):=Lib.hid (by rw [hw9]; exact ⟨⟨World.cell?_alloc_at _ _ _ _ rfl,World.cell?_alloc_at _ _ _ _ rfl,World.cell?_alloc_at _ _ _ _ rfl,World.cell?_alloc_at _ _ _ _ rfl,World.cell?_alloc_at _ _ _ _ rfl⟩,fun t=>World.frozen?_alloc_at _ _ _ _ rfl,by simp⟩)
      have HK9 : Hid (W.heap.size + 2 ≤ x6.heap.size):=Lib.hid (by have:=HW0S.out; have t:=HX0.out; have:=HB5.out.size; have:=HB2.out.size; have:=HB3.out.size; have:=HB6.out.size; omega)
      rw [← hw9] at hHeld ⊢
      clear hw9
      refine Rg.rd1 10 ⟨none,.store 79 (.tmp 7) (.tmp 19),0,"matrix.go:32",#[⟨9,.data⟩,⟨8,.data⟩,⟨6,.chain⟩,⟨0,.phase⟩,⟨1,.phase⟩,⟨2,.phase⟩,⟨3,.phase⟩,⟨4,.phase⟩,⟨5,.phase⟩,⟨6,.phase⟩,⟨7,.phase⟩,⟨8,.phase⟩,⟨9,.phase⟩],none⟩ fun K hK=>?_
      have hz:=HRZ9.out
      have HRZ:=Lib.hid hz
      obtain ⟨⟨r0,r1,r2,r3,r4⟩,rf,rl⟩:=hz
      have g0:=rf 0
      have g1:=rf 1
      have g2:=rf 2
      have g3:=rf 3
      have g4:=rf 4
      have HS10:=hHeld
      clear rf rl
      go_simp
      refine hK.out _ _ ?_ (fun hHeld=>?_)
      ·(try dsimp only)
       exact SB.five HS10 HK9.out
      clear hK K
      try simp only [Rg.gp]
      have HFIN : Hid (BX x6.heap.size F b cap k (.slice none 0 0) (((((x9.setCell ⟨x6.heap.size,0,none⟩ (.int .i64 F.p)).setCell ⟨x6.heap.size,1,none⟩ (.int .i64 F.e)).setCell ⟨x6.heap.size,2,none⟩ (FM F b cap)).setCell ⟨x6.heap.size,3,none⟩ (.int .i64 (k : Nat))).setCell ⟨x6.heap.size,4,none⟩ (.slice none 0 0))):=Lib.hid (RZ.five HRZ.out F b cap (k:=k) (.slice none 0 0) rfl)
      have HFB : Hid (Below (W.heap.size + 2) w0 (((((x9.setCell ⟨x6.heap.size,0,none⟩ (.int .i64 F.p)).setCell ⟨x6.heap.size,1,none⟩ (.int .i64 F.e)).setCell ⟨x6.heap.size,2,none⟩ (FM F b cap)).setCell ⟨x6.heap.size,3,none⟩ (.int .i64 (k : Nat))).setCell ⟨x6.heap.size,4,none⟩ (.slice none 0 0))):=Lib.hid hHeld.2.out.2.2
      generalize (((((x9.setCell ⟨x6.heap.size,0,none⟩ (.int .i64 F.p)).setCell ⟨x6.heap.size,1,none⟩ (.int .i64 F.e)).setCell ⟨x6.heap.size,2,none⟩ (FM F b cap)).setCell ⟨x6.heap.size,3,none⟩ (.int .i64 (k : Nat))).setCell ⟨x6.heap.size,4,none⟩ (.slice none 0 0)) = x10 at *
      refine wpAnyH_done (by kernel_rfl) ?_ _
      clear hHeld HS10 HRZ HRZ9 r0 r1 r2 r3 r4 g0 g1 g2 g3 g4
      go_wp2_with fail
      go_meet
      case rel=>exact ⟨x6.heap.size,rfl,HK9,HFIN,HFB⟩
     ·go_simp
      refine hK.out _ _ ?_ (fun hHeld=>?_)
      ·(try dsimp only)
       exact SB.keep hHeld ((Below.refl _ _).alloc (Nat.le_refl _) _)
      clear hK K
      try simp only [Rg.gp]
      obtain ⟨x9,hw9⟩ : ∃ x,x = (x3.alloc (.cells #[.int .i64 0,.int .i64 0,.slice none 0 0,.int .i64 0,.slice none 0 0] 79)):=⟨_,rfl⟩
      have HB9 : Hid (Below x3.heap.size x3 x9):=Lib.hid (by rw [hw9]; exact (Below.refl _ _).alloc (Nat.le_refl _) _)
      have HRZ9 : Hid (RZ x3.heap.size x9):=Lib.hid (by rw [hw9]; exact ⟨⟨World.cell?_alloc_at _ _ _ _ rfl,World.cell?_alloc_at _ _ _ _ rfl,World.cell?_alloc_at _ _ _ _ rfl,World.cell?_alloc_at _ _ _ _ rfl,World.cell?_alloc_at _ _ _ _ rfl⟩,fun t=>World.frozen?_alloc_at _ _ _ _ rfl,by simp⟩)
      have HK9 : Hid (W.heap.size + 2 ≤ x3.heap.size):=Lib.hid (by have:=HW0S.out; have t:=HX0.out; have:=HB5.out.size; have:=HB2.out.size; have:=HB3.out.size; omega)
      rw [← hw9] at hHeld ⊢
      clear hw9
      refine Rg.rd1 6 ⟨some 17,.call ⟨.value (.func 63),#[.tmp 16],#[96]⟩,3,"matrix.go:32",#[⟨5,.data⟩,⟨3,.chain⟩],none⟩ fun K hK=>?_
      have hc5:=HC5.out
      have hl5 : x0.heap.size < x5.heap.size:=by have:=HZ5.out; omega
      have hc5:=(HB2.out.cell (p:=⟨x0.heap.size,0,none⟩) hl5).trans hc5
      have hl5:=Nat.lt_of_lt_of_le hl5 HB2.out.size
      have hc5:=(HB3.out.cell (p:=⟨x0.heap.size,0,none⟩) hl5).trans hc5
      have hl5:=Nat.lt_of_lt_of_le hl5 HB3.out.size
      have hc5:=(HB9.out.cell (p:=⟨x0.heap.size,0,none⟩) hl5).trans hc5
      have hl5:=Nat.lt_of_lt_of_le hl5 HB9.out.size
      have hO : Calls Try.prog 63 #[.slice (some ⟨x0.heap.size,0,none⟩) 1 1] x9 fun e w'=>e = .returned (.int .i64 (k2 : Nat)) ∧ Below x9.heap.size x9 w':=HWD6.out x9 _ hHeld.mmb hc5 hl5
      go_simp
      go_at_call 63
      with_reducible refine hO.mono ?_
      rintro z x6 ⟨rfl,hb6⟩
      have HB6 : Hid (Below x9.heap.size x9 x6):=Lib.hid hb6
      clear hO hb6 hc5 hl5
      refine hK.out _ _ ?_ (fun hHeld=>?_)
      ·(try dsimp only)
       exact SB.keep hHeld HB6.out
      clear hK K
      try simp only [Rg.gp]
      refine Rg.tk 7 ⟨some 18,.binOp BinOp.add 3 (.tmp 14) (.tmp 17) 3,3,"matrix.go:32",#[⟨3,.data⟩,⟨6,.data⟩],none⟩ ?_
      try simp only [Rg.gp]
      refine Rg.tk 8 ⟨some 19,.build 79 #[(0,.tmp 11),(1,.tmp 18)],79,"matrix.go:32",#[⟨0,.data⟩,⟨7,.data⟩],none⟩ ?_
      try simp only [Rg.gp]
      refine Rg.rd1 10 ⟨none,.store 79 (.tmp 7) (.tmp 19),0,"matrix.go:32",#[⟨9,.data⟩,⟨8,.data⟩,⟨6,.chain⟩,⟨0,.phase⟩,⟨1,.phase⟩,⟨2,.phase⟩,⟨3,.phase⟩,⟨4,.phase⟩,⟨5,.phase⟩,⟨6,.phase⟩,⟨7,.phase⟩,⟨8,.phase⟩,⟨9,.phase⟩],none⟩ fun K hK=>?_
      have hz:=HRZ9.out
      have hz:=hz.bx (S:=fun _=>False) (Bx.of HB6.out) id
      have HRZ:=Lib.hid hz
      obtain ⟨⟨r0,r1,r2,r3,r4⟩,rf,rl⟩:=hz
      have g0:=rf 0
      have g1:=rf 1
      have g2:=rf 2
      have g3:=rf 3
      have g4:=rf 4
      have HS10:=hHeld
      clear rf rl
      go_simp
      refine hK.out _ _ ?_ (fun hHeld=>?_)
      ·(try dsimp only)
       exact SB.five HS10 HK9.out
      clear hK K
      try simp only [Rg.gp]
      have HFIN : Hid (BX x3.heap.size F b cap k (.slice none 0 0) (((((x6.setCell ⟨x3.heap.size,0,none⟩ (.int .i64 F.p)).setCell ⟨x3.heap.size,1,none⟩ (.int .i64 F.e)).setCell ⟨x3.heap.size,2,none⟩ (FM F b cap)).setCell ⟨x3.heap.size,3,none⟩ (.int .i64 (k : Nat))).setCell ⟨x3.heap.size,4,none⟩ (.slice none 0 0))):=Lib.hid (RZ.five HRZ.out F b cap (k:=k) (.slice none 0 0) rfl)
      have HFB : Hid (Below (W.heap.size + 2) w0 (((((x6.setCell ⟨x3.heap.size,0,none⟩ (.int .i64 F.p)).setCell ⟨x3.heap.size,1,none⟩ (.int .i64 F.e)).setCell ⟨x3.heap.size,2,none⟩ (FM F b cap)).setCell ⟨x3.heap.size,3,none⟩ (.int .i64 (k : Nat))).setCell ⟨x3.heap.size,4,none⟩ (.slice none 0 0))):=Lib.hid hHeld.2.out.2.2
      generalize (((((x6.setCell ⟨x3.heap.size,0,none⟩ (.int .i64 F.p)).setCell ⟨x3.heap.size,1,none⟩ (.int .i64 F.e)).setCell ⟨x3.heap.size,2,none⟩ (FM F b cap)).setCell ⟨x3.heap.size,3,none⟩ (.int .i64 (k : Nat))).setCell ⟨x3.heap.size,4,none⟩ (.slice none 0 0)) = x10 at *
      refine wpAnyH_done (by kernel_rfl) ?_ _
      clear hHeld HS10 HRZ HRZ9 r0 r1 r2 r3 r4 g0 g1 g2 g3 g4
      go_wp2_with fail
      go_meet
      case rel=>exact ⟨x3.heap.size,rfl,HK9,HFIN,HFB⟩
    ·go_simp
     refine hK.out _ _ ?_ (fun hHeld=>?_)
     ·(try dsimp only)
      exact SB.keep hHeld ((Below.refl _ _).alloc (Nat.le_refl _) _)
     clear hK K
     try simp only [Rg.gp]
     obtain ⟨x9,hw9⟩ : ∃ x,x = (x2.alloc (.cells #[.int .i64 0,.int .i64 0,.slice none 0 0,.int .i64 0,.slice none 0 0] 79)):=⟨_,rfl⟩
     have HB9 : Hid (Below x2.heap.size x2 x9):=Lib.hid (by rw [hw9]; exact (Below.refl _ _).alloc (Nat.le_refl _) _)
     have HRZ9 : Hid (RZ x2.heap.size x9):=Lib.hid (by rw [hw9]; exact ⟨⟨World.cell?_alloc_at _ _ _ _ rfl,World.cell?_alloc_at _ _ _ _ rfl,World.cell?_alloc_at _ _ _ _ rfl,World.cell?_alloc_at _ _ _ _ rfl,World.cell?_alloc_at _ _ _ _ rfl⟩,fun t=>World.frozen?_alloc_at _ _ _ _ rfl,by simp⟩)
     have HK9 : Hid (W.heap.size + 2 ≤ x2.heap.size):=Lib.hid (by have:=HW0S.out; have t:=HX0.out; have:=HB5.out.size; have:=HB2.out.size; omega)
     rw [← hw9] at hHeld ⊢
     clear hw9
     refine Rg.rd1 3 ⟨some 14,.call ⟨.value (.func 63),#[.tmp 13],#[96]⟩,3,"matrix.go:32",#[⟨2,.data⟩],none⟩ fun K hK=>?_
     have hc2:=HC2.out
     have hl2 : x5.heap.size < x2.heap.size:=by have:=HZ2.out; omega
     have hc2:=(HB9.out.cell (p:=⟨x5.heap.size,0,none⟩) hl2).trans hc2
     have hl2:=Nat.lt_of_lt_of_le hl2 HB9.out.size
     have hO : Calls Try.prog 63 #[.slice (some ⟨x5.heap.size,0,none⟩) 1 1] x9 fun e w'=>e = .returned (.int .i64 (k1 : Nat)) ∧ Below x9.heap.size x9 w':=HWD3.out x9 _ hHeld.mma hc2 hl2
     go_simp
     go_at_call 63
     with_reducible refine hO.mono ?_
     rintro z x3 ⟨rfl,hb3⟩
     have HB3 : Hid (Below x9.heap.size x9 x3):=Lib.hid hb3
     clear hO hb3 hc2 hl2
     refine hK.out _ _ ?_ (fun hHeld=>?_)
     ·(try dsimp only)
      exact SB.keep hHeld HB3.out
     clear hK K
     try simp only [Rg.gp]
     refine Rg.rd1 6 ⟨some 17,.call ⟨.value (.func 63),#[.tmp 16],#[96]⟩,3,"matrix.go:32",#[⟨5,.data⟩,⟨3,.chain⟩],none⟩ fun K hK=>?_
     have hc5:=HC5.out
     have hl5 : x0.heap.size < x5.heap.size:=by have:=HZ5.out; omega
     have hc5:=(HB2.out.cell (p:=⟨x0.heap.size,0,none⟩) hl5).trans hc5
     have hl5:=Nat.lt_of_lt_of_le hl5 HB2.out.size
     have hc5:=(HB9.out.cell (p:=⟨x0.heap.size,0,none⟩) hl5).trans hc5
     have hl5:=Nat.lt_of_lt_of_le hl5 HB9.out.size
     have hc5:=(HB3.out.cell (p:=⟨x0.heap.size,0,none⟩) hl5).trans hc5
     have hl5:=Nat.lt_of_lt_of_le hl5 HB3.out.size
     have hO : Calls Try.prog 63 #[.slice (some ⟨x0.heap.size,0,none⟩) 1 1] x3 fun e w'=>e = .returned (.int .i64 (k2 : Nat)) ∧ Below x3.heap.size x3 w':=HWD6.out x3 _ hHeld.mmb hc5 hl5
     go_simp
     go_at_call 63
     with_reducible refine hO.mono ?_
     rintro z x6 ⟨rfl,hb6⟩
     have HB6 : Hid (Below x3.heap.size x3 x6):=Lib.hid hb6
     clear hO hb6 hc5 hl5
     refine hK.out _ _ ?_ (fun hHeld=>?_)
     ·(try dsimp only)
      exact SB.keep hHeld HB6.out
     clear hK K
     try simp only [Rg.gp]
     refine Rg.tk 7 ⟨some 18,.binOp BinOp.add 3 (.tmp 14) (.tmp 17) 3,3,"matrix.go:32",#[⟨3,.data⟩,⟨6,.data⟩],none⟩ ?_
     try simp only [Rg.gp]
     refine Rg.tk 8 ⟨some 19,.build 79 #[(0,.tmp 11),(1,.tmp 18)],79,"matrix.go:32",#[⟨0,.data⟩,⟨7,.data⟩],none⟩ ?_
     try simp only [Rg.gp]
     refine Rg.rd1 10 ⟨none,.store 79 (.tmp 7) (.tmp 19),0,"matrix.go:32",#[⟨9,.data⟩,⟨8,.data⟩,⟨6,.chain⟩,⟨0,.phase⟩,⟨1,.phase⟩,⟨2,.phase⟩,⟨3,.phase⟩,⟨4,.phase⟩,⟨5,.phase⟩,⟨6,.phase⟩,⟨7,.phase⟩,⟨8,.phase⟩,⟨9,.phase⟩],none⟩ fun K hK=>?_
     have hz:=HRZ9.out
     have hz:=hz.bx (S:=fun _=>False) (Bx.of HB3.out) id
     have hz:=hz.bx (S:=fun _=>False) (Bx.of HB6.out) id
     have HRZ:=Lib.hid hz
     obtain ⟨⟨r0,r1,r2,r3,r4⟩,rf,rl⟩:=hz
     have g0:=rf 0
     have g1:=rf 1
     have g2:=rf 2
     have g3:=rf 3
     have g4:=rf 4
     have HS10:=hHeld
     clear rf rl
     go_simp
     refine hK.out _ _ ?_ (fun hHeld=>?_)
     ·(try dsimp only)
      exact SB.five HS10 HK9.out
     clear hK K
     try simp only [Rg.gp]
     have HFIN : Hid (BX x2.heap.size F b cap k (.slice none 0 0) (((((x6.setCell ⟨x2.heap.size,0,none⟩ (.int .i64 F.p)).setCell ⟨x2.heap.size,1,none⟩ (.int .i64 F.e)).setCell ⟨x2.heap.size,2,none⟩ (FM F b cap)).setCell ⟨x2.heap.size,3,none⟩ (.int .i64 (k : Nat))).setCell ⟨x2.heap.size,4,none⟩ (.slice none 0 0))):=Lib.hid (RZ.five HRZ.out F b cap (k:=k) (.slice none 0 0) rfl)
     have HFB : Hid (Below (W.heap.size + 2) w0 (((((x6.setCell ⟨x2.heap.size,0,none⟩ (.int .i64 F.p)).setCell ⟨x2.heap.size,1,none⟩ (.int .i64 F.e)).setCell ⟨x2.heap.size,2,none⟩ (FM F b cap)).setCell ⟨x2.heap.size,3,none⟩ (.int .i64 (k : Nat))).setCell ⟨x2.heap.size,4,none⟩ (.slice none 0 0))):=Lib.hid hHeld.2.out.2.2
     generalize (((((x6.setCell ⟨x2.heap.size,0,none⟩ (.int .i64 F.p)).setCell ⟨x2.heap.size,1,none⟩ (.int .i64 F.e)).setCell ⟨x2.heap.size,2,none⟩ (FM F b cap)).setCell ⟨x2.heap.size,3,none⟩ (.int .i64 (k : Nat))).setCell ⟨x2.heap.size,4,none⟩ (.slice none 0 0)) = x10 at *
     refine wpAnyH_done (by kernel_rfl) ?_ _
     clear hHeld HS10 HRZ HRZ9 r0 r1 r2 r3 r4 g0 g1 g2 g3 g4
     go_wp2_with fail
     go_meet
     case rel=>exact ⟨x2.heap.size,rfl,HK9,HFIN,HFB⟩
   ·go_simp
    refine hK.out _ _ ?_ (fun hHeld=>?_)
    ·(try dsimp only)
     exact SB.keep hHeld ((Below.refl _ _).alloc (Nat.le_refl _) _)
    clear hK K
    try simp only [Rg.gp]
    obtain ⟨x9,hw9⟩ : ∃ x,x = (x5.alloc (.cells #[.int .i64 0,.int .i64 0,.slice none 0 0,.int .i64 0,.slice none 0 0] 79)):=⟨_,rfl⟩
    have HB9 : Hid (Below x5.heap.size x5 x9):=Lib.hid (by rw [hw9]; exact (Below.refl _ _).alloc (Nat.le_refl _) _)
    have HRZ9 : Hid (RZ x5.heap.size x9):=Lib.hid (by rw [hw9]; exact ⟨⟨World.cell?_alloc_at _ _ _ _ rfl,World.cell?_alloc_at _ _ _ _ rfl,World.cell?_alloc_at _ _ _ _ rfl,World.cell?_alloc_at _ _ _ _ rfl,World.cell?_alloc_at _ _ _ _ rfl⟩,fun t=>World.frozen?_alloc_at _ _ _ _ rfl,by simp⟩)
    have HK9 : Hid (W.heap.size + 2 ≤ x5.heap.size):=Lib.hid (by have:=HW0S.out; have t:=HX0.out; have:=HB5.out.size; omega)
    rw [← hw9] at hHeld ⊢
    clear hw9
    refine Rg.rd1 2 ⟨some 13,.buildSlice 96 1 #[(0,.tmp 12)],96,"matrix.go:32",#[⟨1,.data⟩],none⟩ fun K hK=>?_
    go_simp
    refine hK.out _ _ ?_ (fun hHeld=>?_)
    ·(try dsimp only)
     exact SB.keep hHeld ((Below.refl _ _).alloc (Nat.le_refl _) _)
    clear hK K
    try simp only [Rg.gp]
    obtain ⟨x2,hw2⟩ : ∃ x,x = (x9.alloc (.cells #[.slice aa m ca] 30)):=⟨_,rfl⟩
    have HB2 : Hid (Below x9.heap.size x9 x2):=Lib.hid (by rw [hw2]; exact (Below.refl _ _).alloc (Nat.le_refl _) _)
    have HZ2 : Hid (x2.heap.size = x9.heap.size + 1):=Lib.hid (by rw [hw2]; simp)
    have HC2 : Hid (x2.cell? ⟨x9.heap.size,0,none⟩ = some (.slice aa m ca)):=Lib.hid (by rw [hw2]; exact World.cell?_alloc_at _ _ _ _ rfl)
    rw [← hw2] at hHeld ⊢
    clear hw2
    refine Rg.rd1 3 ⟨some 14,.call ⟨.value (.func 63),#[.tmp 13],#[96]⟩,3,"matrix.go:32",#[⟨2,.data⟩],none⟩ fun K hK=>?_
    have hc2:=HC2.out
    have hl2 : x9.heap.size < x2.heap.size:=by have:=HZ2.out; omega
    have hO : Calls Try.prog 63 #[.slice (some ⟨x9.heap.size,0,none⟩) 1 1] x2 fun e w'=>e = .returned (.int .i64 (k1 : Nat)) ∧ Below x2.heap.size x2 w':=HWD3.out x2 _ hHeld.mma hc2 hl2
    go_simp
    go_at_call 63
    with_reducible refine hO.mono ?_
    rintro z x3 ⟨rfl,hb3⟩
    have HB3 : Hid (Below x2.heap.size x2 x3):=Lib.hid hb3
    clear hO hb3 hc2 hl2
    refine hK.out _ _ ?_ (fun hHeld=>?_)
    ·(try dsimp only)
     exact SB.keep hHeld HB3.out
    clear hK K
    try simp only [Rg.gp]
    refine Rg.rd1 6 ⟨some 17,.call ⟨.value (.func 63),#[.tmp 16],#[96]⟩,3,"matrix.go:32",#[⟨5,.data⟩,⟨3,.chain⟩],none⟩ fun K hK=>?_
    have hc5:=HC5.out
    have hl5 : x0.heap.size < x5.heap.size:=by have:=HZ5.out; omega
    have hc5:=(HB9.out.cell (p:=⟨x0.heap.size,0,none⟩) hl5).trans hc5
    have hl5:=Nat.lt_of_lt_of_le hl5 HB9.out.size
    have hc5:=(HB2.out.cell (p:=⟨x0.heap.size,0,none⟩) hl5).trans hc5
    have hl5:=Nat.lt_of_lt_of_le hl5 HB2.out.size
    have hc5:=(HB3.out.cell (p:=⟨x0.heap.size,0,none⟩) hl5).trans hc5
    have hl5:=Nat.lt_of_lt_of_le hl5 HB3.out.size
    have hO : Calls Try.prog 63 #[.slice (some ⟨x0.heap.size,0,none⟩) 1 1] x3 fun e w'=>e = .returned (.int .i64 (k2 : Nat)) ∧ Below x3.heap.size x3 w':=HWD6.out x3 _ hHeld.mmb hc5 hl5
    go_simp
    go_at_call 63
    with_reducible refine hO.mono ?_
    rintro z x6 ⟨rfl,hb6⟩
    have HB6 : Hid (Below x3.heap.size x3 x6):=Lib.hid hb6
    clear hO hb6 hc5 hl5
    refine hK.out _ _ ?_ (fun hHeld=>?_)
    ·(try dsimp only)
     exact SB.keep hHeld HB6.out
    clear hK K
    try simp only [Rg.gp]
    refine Rg.tk 7 ⟨some 18,.binOp BinOp.add 3 (.tmp 14) (.tmp 17) 3,3,"matrix.go:32",#[⟨3,.data⟩,⟨6,.data⟩],none⟩ ?_
    try simp only [Rg.gp]
    refine Rg.tk 8 ⟨some 19,.build 79 #[(0,.tmp 11),(1,.tmp 18)],79,"matrix.go:32",#[⟨0,.data⟩,⟨7,.data⟩],none⟩ ?_
    try simp only [Rg.gp]
    refine Rg.rd1 10 ⟨none,.store 79 (.tmp 7) (.tmp 19),0,"matrix.go:32",#[⟨9,.data⟩,⟨8,.data⟩,⟨6,.chain⟩,⟨0,.phase⟩,⟨1,.phase⟩,⟨2,.phase⟩,⟨3,.phase⟩,⟨4,.phase⟩,⟨5,.phase⟩,⟨6,.phase⟩,⟨7,.phase⟩,⟨8,.phase⟩,⟨9,.phase⟩],none⟩ fun K hK=>?_
    have hz:=HRZ9.out
    have hz:=hz.bx (S:=fun _=>False) (Bx.of HB2.out) id
    have hz:=hz.bx (S:=fun _=>False) (Bx.of HB3.out) id
    have hz:=hz.bx (S:=fun _=>False) (Bx.of HB6.out) id
    have HRZ:=Lib.hid hz
    obtain ⟨⟨r0,r1,r2,r3,r4⟩,rf,rl⟩:=hz
    have g0:=rf 0
    have g1:=rf 1
    have g2:=rf 2
    have g3:=rf 3
    have g4:=rf 4
    have HS10:=hHeld
    clear rf rl
    go_simp
    refine hK.out _ _ ?_ (fun hHeld=>?_)
    ·(try dsimp only)
     exact SB.five HS10 HK9.out
    clear hK K
    try simp only [Rg.gp]
    have HFIN : Hid (BX x5.heap.size F b cap k (.slice none 0 0) (((((x6.setCell ⟨x5.heap.size,0,none⟩ (.int .i64 F.p)).setCell ⟨x5.heap.size,1,none⟩ (.int .i64 F.e)).setCell ⟨x5.heap.size,2,none⟩ (FM F b cap)).setCell ⟨x5.heap.size,3,none⟩ (.int .i64 (k : Nat))).setCell ⟨x5.heap.size,4,none⟩ (.slice none 0 0))):=Lib.hid (RZ.five HRZ.out F b cap (k:=k) (.slice none 0 0) rfl)
    have HFB : Hid (Below (W.heap.size + 2) w0 (((((x6.setCell ⟨x5.heap.size,0,none⟩ (.int .i64 F.p)).setCell ⟨x5.heap.size,1,none⟩ (.int .i64 F.e)).setCell ⟨x5.heap.size,2,none⟩ (FM F b cap)).setCell ⟨x5.heap.size,3,none⟩ (.int .i64 (k : Nat))).setCell ⟨x5.heap.size,4,none⟩ (.slice none 0 0))):=Lib.hid hHeld.2.out.2.2
    generalize (((((x6.setCell ⟨x5.heap.size,0,none⟩ (.int .i64 F.p)).setCell ⟨x5.heap.size,1,none⟩ (.int .i64 F.e)).setCell ⟨x5.heap.size,2,none⟩ (FM F b cap)).setCell ⟨x5.heap.size,3,none⟩ (.int .i64 (k : Nat))).setCell ⟨x5.heap.size,4,none⟩ (.slice none 0 0)) = x10 at *
    refine wpAnyH_done (by kernel_rfl) ?_ _
    clear hHeld HS10 HRZ HRZ9 r0 r1 r2 r3 r4 g0 g1 g2 g3 g4
    go_wp2_with fail
    go_meet
    case rel=>exact ⟨x5.heap.size,rfl,HK9,HFIN,HFB⟩
  ·go_simp
   refine hK.out _ _ ?_ (fun hHeld=>?_)
   ·(try dsimp only)
    exact SB.keep hHeld ((Below.refl _ _).alloc (Nat.le_refl _) _)
   clear hK K
   try simp only [Rg.gp]
   obtain ⟨x9,hw9⟩ : ∃ x,x = (x0.alloc (.cells #[.int .i64 0,.int .i64 0,.slice none 0 0,.int .i64 0,.slice none 0 0] 79)):=⟨_,rfl⟩
   have HB9 : Hid (Below x0.heap.size x0 x9):=Lib.hid (by rw [hw9]; exact (Below.refl _ _).alloc (Nat.le_refl _) _)
   have HRZ9 : Hid (RZ x0.heap.size x9):=Lib.hid (by rw [hw9]; exact ⟨⟨World.cell?_alloc_at _ _ _ _ rfl,World.cell?_alloc_at _ _ _ _ rfl,World.cell?_alloc_at _ _ _ _ rfl,World.cell?_alloc_at _ _ _ _ rfl,World.cell?_alloc_at _ _ _ _ rfl⟩,fun t=>World.frozen?_alloc_at _ _ _ _ rfl,by simp⟩)
   have HK9 : Hid (W.heap.size + 2 ≤ x0.heap.size):=Lib.hid (by have:=HW0S.out; have t:=HX0.out; omega)
   rw [← hw9] at hHeld ⊢
   clear hw9
   refine wpAnyH_ready (rs:=[2,5]) (by kernel_rfl) (by simp) ?_
   refine (AllReadyH.cons (o:=⟨some 13,.buildSlice 96 1 #[(0,.tmp 12)],96,"matrix.go:32",#[⟨1,.data⟩],none⟩) rfl (fun K hK=>?_) (AllReadyH.cons (o:=⟨some 16,.buildSlice 96 1 #[(0,.tmp 15)],96,"matrix.go:32",#[⟨4,.data⟩],none⟩) rfl (fun K hK=>?_) AllReadyH.nil))
   ·go_simp
    refine hK.out _ _ ?_ (fun hHeld=>?_)
    ·(try dsimp only)
     exact SB.keep hHeld ((Below.refl _ _).alloc (Nat.le_refl _) _)
    clear hK K
    try simp only [Rg.gp]
    obtain ⟨x2,hw2⟩ : ∃ x,x = (x9.alloc (.cells #[.slice aa m ca] 30)):=⟨_,rfl⟩
    have HB2 : Hid (Below x9.heap.size x9 x2):=Lib.hid (by rw [hw2]; exact (Below.refl _ _).alloc (Nat.le_refl _) _)
    have HZ2 : Hid (x2.heap.size = x9.heap.size + 1):=Lib.hid (by rw [hw2]; simp)
    have HC2 : Hid (x2.cell? ⟨x9.heap.size,0,none⟩ = some (.slice aa m ca)):=Lib.hid (by rw [hw2]; exact World.cell?_alloc_at _ _ _ _ rfl)
    rw [← hw2] at hHeld ⊢
    clear hw2
    refine wpAnyH_ready (rs:=[3,5]) (by kernel_rfl) (by simp) ?_
    refine (AllReadyH.cons (o:=⟨some 14,.call ⟨.value (.func 63),#[.tmp 13],#[96]⟩,3,"matrix.go:32",#[⟨2,.data⟩],none⟩) rfl (fun K hK=>?_) (AllReadyH.cons (o:=⟨some 16,.buildSlice 96 1 #[(0,.tmp 15)],96,"matrix.go:32",#[⟨4,.data⟩],none⟩) rfl (fun K hK=>?_) AllReadyH.nil))
    ·have hc2:=HC2.out
     have hl2 : x9.heap.size < x2.heap.size:=by have:=HZ2.out; omega
     have hO : Calls Try.prog 63 #[.slice (some ⟨x9.heap.size,0,none⟩) 1 1] x2 fun e w'=>e = .returned (.int .i64 (k1 : Nat)) ∧ Below x2.heap.size x2 w':=HWD3.out x2 _ hHeld.mma hc2 hl2
     go_simp
     go_at_call 63
     with_reducible refine hO.mono ?_
     rintro z x3 ⟨rfl,hb3⟩
     have HB3 : Hid (Below x2.heap.size x2 x3):=Lib.hid hb3
     clear hO hb3 hc2 hl2
     refine hK.out _ _ ?_ (fun hHeld=>?_)
     ·(try dsimp only)
      exact SB.keep hHeld HB3.out
     clear hK K
     try simp only [Rg.gp]
     refine Rg.rd1 5 ⟨some 16,.buildSlice 96 1 #[(0,.tmp 15)],96,"matrix.go:32",#[⟨4,.data⟩],none⟩ fun K hK=>?_
     go_simp
     refine hK.out _ _ ?_ (fun hHeld=>?_)
     ·(try dsimp only)
      exact SB.keep hHeld ((Below.refl _ _).alloc (Nat.le_refl _) _)
     clear hK K
     try simp only [Rg.gp]
     obtain ⟨x5,hw5⟩ : ∃ x,x = (x3.alloc (.cells #[.slice ab m cb] 30)):=⟨_,rfl⟩
     have HB5 : Hid (Below x3.heap.size x3 x5):=Lib.hid (by rw [hw5]; exact (Below.refl _ _).alloc (Nat.le_refl _) _)
     have HZ5 : Hid (x5.heap.size = x3.heap.size + 1):=Lib.hid (by rw [hw5]; simp)
     have HC5 : Hid (x5.cell? ⟨x3.heap.size,0,none⟩ = some (.slice ab m cb)):=Lib.hid (by rw [hw5]; exact World.cell?_alloc_at _ _ _ _ rfl)
     rw [← hw5] at hHeld ⊢
     clear hw5
     refine Rg.rd1 6 ⟨some 17,.call ⟨.value (.func 63),#[.tmp 16],#[96]⟩,3,"matrix.go:32",#[⟨5,.data⟩,⟨3,.chain⟩],none⟩ fun K hK=>?_
     have hc5:=HC5.out
     have hl5 : x3.heap.size < x5.heap.size:=by have:=HZ5.out; omega
     have hO : Calls Try.prog 63 #[.slice (some ⟨x3.heap.size,0,none⟩) 1 1] x5 fun e w'=>e = .returned (.int .i64 (k2 : Nat)) ∧ Below x5.heap.size x5 w':=HWD6.out x5 _ hHeld.mmb hc5 hl5
     go_simp
     go_at_call 63
     with_reducible refine hO.mono ?_
     rintro z x6 ⟨rfl,hb6⟩
     have HB6 : Hid (Below x5.heap.size x5 x6):=Lib.hid hb6
     clear hO hb6 hc5 hl5
     refine hK.out _ _ ?_ (fun hHeld=>?_)
     ·(try dsimp only)
      exact SB.keep hHeld HB6.out
     clear hK K
     try simp only [Rg.gp]
     refine Rg.tk 7 ⟨some 18,.binOp BinOp.add 3 (.tmp 14) (.tmp 17) 3,3,"matrix.go:32",#[⟨3,.data⟩,⟨6,.data⟩],none⟩ ?_
     try simp only [Rg.gp]
     refine Rg.tk 8 ⟨some 19,.build 79 #[(0,.tmp 11),(1,.tmp 18)],79,"matrix.go:32",#[⟨0,.data⟩,⟨7,.data⟩],none⟩ ?_
     try simp only [Rg.gp]
     refine Rg.rd1 10 ⟨none,.store 79 (.tmp 7) (.tmp 19),0,"matrix.go:32",#[⟨9,.data⟩,⟨8,.data⟩,⟨6,.chain⟩,⟨0,.phase⟩,⟨1,.phase⟩,⟨2,.phase⟩,⟨3,.phase⟩,⟨4,.phase⟩,⟨5,.phase⟩,⟨6,.phase⟩,⟨7,.phase⟩,⟨8,.phase⟩,⟨9,.phase⟩],none⟩ fun K hK=>?_
     have hz:=HRZ9.out
     have hz:=hz.bx (S:=fun _=>False) (Bx.of HB2.out) id
     have hz:=hz.bx (S:=fun _=>False) (Bx.of HB3.out) id
     have hz:=hz.bx (S:=fun _=>False) (Bx.of HB5.out) id
     have hz:=hz.bx (S:=fun _=>False) (Bx.of HB6.out) id
     have HRZ:=Lib.hid hz
     obtain ⟨⟨r0,r1,r2,r3,r4⟩,rf,rl⟩:=hz
     have g0:=rf 0
     have g1:=rf 1
     have g2:=rf 2
     have g3:=rf 3
     have g4:=rf 4
     have HS10:=hHeld
     clear rf rl
     go_simp
     refine hK.out _ _ ?_ (fun hHeld=>?_)
     ·(try dsimp only)
      exact SB.five HS10 HK9.out
     clear hK K
     try simp only [Rg.gp]
     have HFIN : Hid (BX x0.heap.size F b cap k (.slice none 0 0) (((((x6.setCell ⟨x0.heap.size,0,none⟩ (.int .i64 F.p)).setCell ⟨x0.heap.size,1,none⟩ (.int .i64 F.e)).setCell ⟨x0.heap.size,2,none⟩ (FM F b cap)).setCell ⟨x0.heap.size,3,none⟩ (.int .i64 (k : Nat))).setCell ⟨x0.heap.size,4,none⟩ (.slice none 0 0))):=Lib.hid (RZ.five HRZ.out F b cap (k:=k) (.slice none 0 0) rfl)
     have HFB : Hid (Below (W.heap.size + 2) w0 (((((x6.setCell ⟨x0.heap.size,0,none⟩ (.int .i64 F.p)).setCell ⟨x0.heap.size,1,none⟩ (.int .i64 F.e)).setCell ⟨x0.heap.size,2,none⟩ (FM F b cap)).setCell ⟨x0.heap.size,3,none⟩ (.int .i64 (k : Nat))).setCell ⟨x0.heap.size,4,none⟩ (.slice none 0 0))):=Lib.hid hHeld.2.out.2.2
     generalize (((((x6.setCell ⟨x0.heap.size,0,none⟩ (.int .i64 F.p)).setCell ⟨x0.heap.size,1,none⟩ (.int .i64 F.e)).setCell ⟨x0.heap.size,2,none⟩ (FM F b cap)).setCell ⟨x0.heap.size,3,none⟩ (.int .i64 (k : Nat))).setCell ⟨x0.heap.size,4,none⟩ (.slice none 0 0)) = x10 at *
     refine wpAnyH_done (by kernel_rfl) ?_ _
     clear hHeld HS10 HRZ HRZ9 r0 r1 r2 r3 r4 g0 g1 g2 g3 g4
     go_wp2_with fail
     go_meet
     case rel=>exact ⟨x0.heap.size,rfl,HK9,HFIN,HFB⟩
    ·go_simp
     refine hK.out _ _ ?_ (fun hHeld=>?_)
     ·(try dsimp only)
      exact SB.keep hHeld ((Below.refl _ _).alloc (Nat.le_refl _) _)
     clear hK K
     try simp only [Rg.gp]
     obtain ⟨x5,hw5⟩ : ∃ x,x = (x2.alloc (.cells #[.slice ab m cb] 30)):=⟨_,rfl⟩
     have HB5 : Hid (Below x2.heap.size x2 x5):=Lib.hid (by rw [hw5]; exact (Below.refl _ _).alloc (Nat.le_refl _) _)
     have HZ5 : Hid (x5.heap.size = x2.heap.size + 1):=Lib.hid (by rw [hw5]; simp)
     have HC5 : Hid (x5.cell? ⟨x2.heap.size,0,none⟩ = some (.slice ab m cb)):=Lib.hid (by rw [hw5]; exact World.cell?_alloc_at _ _ _ _ rfl)
     rw [← hw5] at hHeld ⊢
     clear hw5
     refine Rg.rd1 3 ⟨some 14,.call ⟨.value (.func 63),#[.tmp 13],#[96]⟩,3,"matrix.go:32",#[⟨2,.data⟩],none⟩ fun K hK=>?_
     have hc2:=HC2.out
     have hl2 : x9.heap.size < x2.heap.size:=by have:=HZ2.out; omega
     have hc2:=(HB5.out.cell (p:=⟨x9.heap.size,0,none⟩) hl2).trans hc2
     have hl2:=Nat.lt_of_lt_of_le hl2 HB5.out.size
     have hO : Calls Try.prog 63 #[.slice (some ⟨x9.heap.size,0,none⟩) 1 1] x5 fun e w'=>e = .returned (.int .i64 (k1 : Nat)) ∧ Below x5.heap.size x5 w':=HWD3.out x5 _ hHeld.mma hc2 hl2
     go_simp
     go_at_call 63
     with_reducible refine hO.mono ?_
     rintro z x3 ⟨rfl,hb3⟩
     have HB3 : Hid (Below x5.heap.size x5 x3):=Lib.hid hb3
     clear hO hb3 hc2 hl2
     refine hK.out _ _ ?_ (fun hHeld=>?_)
     ·(try dsimp only)
      exact SB.keep hHeld HB3.out
     clear hK K
     try simp only [Rg.gp]
     refine Rg.rd1 6 ⟨some 17,.call ⟨.value (.func 63),#[.tmp 16],#[96]⟩,3,"matrix.go:32",#[⟨5,.data⟩,⟨3,.chain⟩],none⟩ fun K hK=>?_
     have hc5:=HC5.out
     have hl5 : x2.heap.size < x5.heap.size:=by have:=HZ5.out; omega
     have hc5:=(HB3.out.cell (p:=⟨x2.heap.size,0,none⟩) hl5).trans hc5
     have hl5:=Nat.lt_of_lt_of_le hl5 HB3.out.size
     have hO : Calls Try.prog 63 #[.slice (some ⟨x2.heap.size,0,none⟩) 1 1] x3 fun e w'=>e = .returned (.int .i64 (k2 : Nat)) ∧ Below x3.heap.size x3 w':=HWD6.out x3 _ hHeld.mmb hc5 hl5
     go_simp
     go_at_call 63
     with_reducible refine hO.mono ?_
     rintro z x6 ⟨rfl,hb6⟩
     have HB6 : Hid (Below x3.heap.size x3 x6):=Lib.hid hb6
     clear hO hb6 hc5 hl5
     refine hK.out _ _ ?_ (fun hHeld=>?_)
     ·(try dsimp only)
      exact SB.keep hHeld HB6.out
     clear hK K
     try simp only [Rg.gp]
     refine Rg.tk 7 ⟨some 18,.binOp BinOp.add 3 (.tmp 14) (.tmp 17) 3,3,"matrix.go:32",#[⟨3,.data⟩,⟨6,.data⟩],none⟩ ?_
     try simp only [Rg.gp]
     refine Rg.tk 8 ⟨some 19,.build 79 #[(0,.tmp 11),(1,.tmp 18)],79,"matrix.go:32",#[⟨0,.data⟩,⟨7,.data⟩],none⟩ ?_
     try simp only [Rg.gp]
     refine Rg.rd1 10 ⟨none,.store 79 (.tmp 7) (.tmp 19),0,"matrix.go:32",#[⟨9,.data⟩,⟨8,.data⟩,⟨6,.chain⟩,⟨0,.phase⟩,⟨1,.phase⟩,⟨2,.phase⟩,⟨3,.phase⟩,⟨4,.phase⟩,⟨5,.phase⟩,⟨6,.phase⟩,⟨7,.phase⟩,⟨8,.phase⟩,⟨9,.phase⟩],none⟩ fun K hK=>?_
     have hz:=HRZ9.out
     have hz:=hz.bx (S:=fun _=>False) (Bx.of HB2.out) id
     have hz:=hz.bx (S:=fun _=>False) (Bx.of HB5.out) id
     have hz:=hz.bx (S:=fun _=>False) (Bx.of HB3.out) id
     have hz:=hz.bx (S:=fun _=>False) (Bx.of HB6.out) id
     have HRZ:=Lib.hid hz
     obtain ⟨⟨r0,r1,r2,r3,r4⟩,rf,rl⟩:=hz
     have g0:=rf 0
     have g1:=rf 1
     have g2:=rf 2
     have g3:=rf 3
     have g4:=rf 4
     have HS10:=hHeld
     clear rf rl
     go_simp
     refine hK.out _ _ ?_ (fun hHeld=>?_)
     ·(try dsimp only)
      exact SB.five HS10 HK9.out
     clear hK K
     try simp only [Rg.gp]
     have HFIN : Hid (BX x0.heap.size F b cap k (.slice none 0 0) (((((x6.setCell ⟨x0.heap.size,0,none⟩ (.int .i64 F.p)).setCell ⟨x0.heap.size,1,none⟩ (.int .i64 F.e)).setCell ⟨x0.heap.size,2,none⟩ (FM F b cap)).setCell ⟨x0.heap.size,3,none⟩ (.int .i64 (k : Nat))).setCell ⟨x0.heap.size,4,none⟩ (.slice none 0 0))):=Lib.hid (RZ.five HRZ.out F b cap (k:=k) (.slice none 0 0) rfl)
     have HFB : Hid (Below (W.heap.size + 2) w0 (((((x6.setCell ⟨x0.heap.size,0,none⟩ (.int .i64 F.p)).setCell ⟨x0.heap.size,1,none⟩ (.int .i64 F.e)).setCell ⟨x0.heap.size,2,none⟩ (FM F b cap)).setCell ⟨x0.heap.size,3,none⟩ (.int .i64 (k : Nat))).setCell ⟨x0.heap.size,4,none⟩ (.slice none 0 0))):=Lib.hid hHeld.2.out.2.2
     generalize (((((x6.setCell ⟨x0.heap.size,0,none⟩ (.int .i64 F.p)).setCell ⟨x0.heap.size,1,none⟩ (.int .i64 F.e)).setCell ⟨x0.heap.size,2,none⟩ (FM F b cap)).setCell ⟨x0.heap.size,3,none⟩ (.int .i64 (k : Nat))).setCell ⟨x0.heap.size,4,none⟩ (.slice none 0 0)) = x10 at *
     refine wpAnyH_done (by kernel_rfl) ?_ _
     clear hHeld HS10 HRZ HRZ9 r0 r1 r2 r3 r4 g0 g1 g2 g3 g4
     go_wp2_with fail
     go_meet
     case rel=>exact ⟨x0.heap.size,rfl,HK9,HFIN,HFB⟩
   ·go_simp
    refine hK.out _ _ ?_ (fun hHeld=>?_)
    ·(try dsimp only)
     exact SB.keep hHeld ((Below.refl _ _).alloc (Nat.le_refl _) _)
    clear hK K
    try simp only [Rg.gp]
    obtain ⟨x5,hw5⟩ : ∃ x,x = (x9.alloc (.cells #[.slice ab m cb] 30)):=⟨_,rfl⟩
    have HB5 : Hid (Below x9.heap.size x9 x5):=Lib.hid (by rw [hw5]; exact (Below.refl _ _).alloc (Nat.le_refl _) _)
    have HZ5 : Hid (x5.heap.size = x9.heap.size + 1):=Lib.hid (by rw [hw5]; simp)
    have HC5 : Hid (x5.cell? ⟨x9.heap.size,0,none⟩ = some (.slice ab m cb)):=Lib.hid (by rw [hw5]; exact World.cell?_alloc_at _ _ _ _ rfl)
    rw [← hw5] at hHeld ⊢
    clear hw5
    refine Rg.rd1 2 ⟨some 13,.buildSlice 96 1 #[(0,.tmp 12)],96,"matrix.go:32",#[⟨1,.data⟩],none⟩ fun K hK=>?_
    go_simp
    refine hK.out _ _ ?_ (fun hHeld=>?_)
    ·(try dsimp only)
     exact SB.keep hHeld ((Below.refl _ _).alloc (Nat.le_refl _) _)
    clear hK K
    try simp only [Rg.gp]
    obtain ⟨x2,hw2⟩ : ∃ x,x = (x5.alloc (.cells #[.slice aa m ca] 30)):=⟨_,rfl⟩
    have HB2 : Hid (Below x5.heap.size x5 x2):=Lib.hid (by rw [hw2]; exact (Below.refl _ _).alloc (Nat.le_refl _) _)
    have HZ2 : Hid (x2.heap.size = x5.heap.size + 1):=Lib.hid (by rw [hw2]; simp)
    have HC2 : Hid (x2.cell? ⟨x5.heap.size,0,none⟩ = some (.slice aa m ca)):=Lib.hid (by rw [hw2]; exact World.cell?_alloc_at _ _ _ _ rfl)
    rw [← hw2] at hHeld ⊢
    clear hw2
    refine Rg.rd1 3 ⟨some 14,.call ⟨.value (.func 63),#[.tmp 13],#[96]⟩,3,"matrix.go:32",#[⟨2,.data⟩],none⟩ fun K hK=>?_
    have hc2:=HC2.out
    have hl2 : x5.heap.size < x2.heap.size:=by have:=HZ2.out; omega
    have hO : Calls Try.prog 63 #[.slice (some ⟨x5.heap.size,0,none⟩) 1 1] x2 fun e w'=>e = .returned (.int .i64 (k1 : Nat)) ∧ Below x2.heap.size x2 w':=HWD3.out x2 _ hHeld.mma hc2 hl2
    go_simp
    go_at_call 63
    with_reducible refine hO.mono ?_
    rintro z x3 ⟨rfl,hb3⟩
    have HB3 : Hid (Below x2.heap.size x2 x3):=Lib.hid hb3
    clear hO hb3 hc2 hl2
    refine hK.out _ _ ?_ (fun hHeld=>?_)
    ·(try dsimp only)
     exact SB.keep hHeld HB3.out
    clear hK K
    try simp only [Rg.gp]
    refine Rg.rd1 6 ⟨some 17,.call ⟨.value (.func 63),#[.tmp 16],#[96]⟩,3,"matrix.go:32",#[⟨5,.data⟩,⟨3,.chain⟩],none⟩ fun K hK=>?_
    have hc5:=HC5.out
    have hl5 : x9.heap.size < x5.heap.size:=by have:=HZ5.out; omega
    have hc5:=(HB2.out.cell (p:=⟨x9.heap.size,0,none⟩) hl5).trans hc5
    have hl5:=Nat.lt_of_lt_of_le hl5 HB2.out.size
    have hc5:=(HB3.out.cell (p:=⟨x9.heap.size,0,none⟩) hl5).trans hc5
    have hl5:=Nat.lt_of_lt_of_le hl5 HB3.out.size
    have hO : Calls Try.prog 63 #[.slice (some ⟨x9.heap.size,0,none⟩) 1 1] x3 fun e w'=>e = .returned (.int .i64 (k2 : Nat)) ∧ Below x3.heap.size x3 w':=HWD6.out x3 _ hHeld.mmb hc5 hl5
    go_simp
    go_at_call 63
    with_reducible refine hO.mono ?_
    rintro z x6 ⟨rfl,hb6⟩
    have HB6 : Hid (Below x3.heap.size x3 x6):=Lib.hid hb6
    clear hO hb6 hc5 hl5
    refine hK.out _ _ ?_ (fun hHeld=>?_)
    ·(try dsimp only)
     exact SB.keep hHeld HB6.out
    clear hK K
    try simp only [Rg.gp]
    refine Rg.tk 7 ⟨some 18,.binOp BinOp.add 3 (.tmp 14) (.tmp 17) 3,3,"matrix.go:32",#[⟨3,.data⟩,⟨6,.data⟩],none⟩ ?_
    try simp only [Rg.gp]
    refine Rg.tk 8 ⟨some 19,.build 79 #[(0,.tmp 11),(1,.tmp 18)],79,"matrix.go:32",#[⟨0,.data⟩,⟨7,.data⟩],none⟩ ?_
    try simp only [Rg.gp]
    refine Rg.rd1 10 ⟨none,.store 79 (.tmp 7) (.tmp 19),0,"matrix.go:32",#[⟨9,.data⟩,⟨8,.data⟩,⟨6,.chain⟩,⟨0,.phase⟩,⟨1,.phase⟩,⟨2,.phase⟩,⟨3,.phase⟩,⟨4,.phase⟩,⟨5,.phase⟩,⟨6,.phase⟩,⟨7,.phase⟩,⟨8,.phase⟩,⟨9,.phase⟩],none⟩ fun K hK=>?_
    have hz:=HRZ9.out
    have hz:=hz.bx (S:=fun _=>False) (Bx.of HB5.out) id
    have hz:=hz.bx (S:=fun _=>False) (Bx.of HB2.out) id
    have hz:=hz.bx (S:=fun _=>False) (Bx.of HB3.out) id
    have hz:=hz.bx (S:=fun _=>False) (Bx.of HB6.out) id
    have HRZ:=Lib.hid hz
    obtain ⟨⟨r0,r1,r2,r3,r4⟩,rf,rl⟩:=hz
    have g0:=rf 0
    have g1:=rf 1
    have g2:=rf 2
    have g3:=rf 3
    have g4:=rf 4
    have HS10:=hHeld
    clear rf rl
    go_simp
    refine hK.out _ _ ?_ (fun hHeld=>?_)
    ·(try dsimp only)
     exact SB.five HS10 HK9.out
    clear hK K
    try simp only [Rg.gp]
    have HFIN : Hid (BX x0.heap.size F b cap k (.slice none 0 0) (((((x6.setCell ⟨x0.heap.size,0,none⟩ (.int .i64 F.p)).setCell ⟨x0.heap.size,1,none⟩ (.int .i64 F.e)).setCell ⟨x0.heap.size,2,none⟩ (FM F b cap)).setCell ⟨x0.heap.size,3,none⟩ (.int .i64 (k : Nat))).setCell ⟨x0.heap.size,4,none⟩ (.slice none 0 0))):=Lib.hid (RZ.five HRZ.out F b cap (k:=k) (.slice none 0 0) rfl)
    have HFB : Hid (Below (W.heap.size + 2) w0 (((((x6.setCell ⟨x0.heap.size,0,none⟩ (.int .i64 F.p)).setCell ⟨x0.heap.size,1,none⟩ (.int .i64 F.e)).setCell ⟨x0.heap.size,2,none⟩ (FM F b cap)).setCell ⟨x0.heap.size,3,none⟩ (.int .i64 (k : Nat))).setCell ⟨x0.heap.size,4,none⟩ (.slice none 0 0))):=Lib.hid hHeld.2.out.2.2
    generalize (((((x6.setCell ⟨x0.heap.size,0,none⟩ (.int .i64 F.p)).setCell ⟨x0.heap.size,1,none⟩ (.int .i64 F.e)).setCell ⟨x0.heap.size,2,none⟩ (FM F b cap)).setCell ⟨x0.heap.size,3,none⟩ (.int .i64 (k : Nat))).setCell ⟨x0.heap.size,4,none⟩ (.slice none 0 0)) = x10 at *
    refine wpAnyH_done (by kernel_rfl) ?_ _
    clear hHeld HS10 HRZ HRZ9 r0 r1 r2 r3 r4 g0 g1 g2 g3 g4
    go_wp2_with fail
    go_meet
    case rel=>exact ⟨x0.heap.size,rfl,HK9,HFIN,HFB⟩
 case rest =>
  obtain ⟨G,rfl,HG,HBX,HBW⟩:=hcut
  obtain ⟨w1,hwc⟩ : ∃ w1,w1 = wc:=⟨_,rfl⟩
  subst hwc
  have HGS : Hid (G < w1.heap.size):=Lib.hid HBX.out.2.2
  have HFX1 : Hid (Bx (fun k=>W.heap.size + 2 ≤ k) w0 w1):=Lib.hid ⟨HBW.out.os,HBW.out.tape,HBW.out.output,HBW.out.size,fun k hk hs=>HBW.out.block k (by omega)⟩
  have HNA1 : Hid (MM A w1 (.slice aa m ca)):=Lib.hid (HNA.out.below (HBW.out.mono (by rw [HW0S.out]; exact Nat.le_refl _)))
  have HNB1 : Hid (MM B w1 (.slice ab m cb)):=Lib.hid (HNB.out.below (HBW.out.mono (by rw [HW0S.out]; exact Nat.le_refl _)))
  have HRB1 : Hid (RZ (W.heap.size + 1) w1):=Lib.hid (HRB.out.bx HFX1.out (by omega))
  obtain ⟨⟨x0,x1,x2,x3,x4⟩,-,-⟩:=HBX.out
  go_wp2
  go_loopw [22] (fun i wr=>∃ (t : Nat) (rs : List Nat) (v : Value),t ≤ m ∧ i = .int .i64 t ∧ Hid (OR (besM (A.take t) (B.take t)) rs (n1 + n2) w1.heap.size wr v) ∧ Hid (besM (A.take t) (B.take t) = [] → v = .slice none 0 0) ∧ Hid (BX G F b cap k v wr) ∧ Hid (Bx (fun k=>k = G ∨ w1.heap.size ≤ k) w1 wr)) (fun i _=>m - (intOf i).toNat)
  case atStart=>exact ⟨0,[],_,Nat.zero_le _,rfl,OR.nil _ _ _,Lib.hid (fun _=>rfl),HBX,Bx.refl _ _⟩
  case round =>
   obtain ⟨wo,rfl⟩ : ∃ w,w = wr:=⟨_,rfl⟩
   obtain ⟨t,rs,v,ht,rfl,HO,HZ,HB,KB⟩:=hrel
   have HSO : Hid (w1.heap.size ≤ wo.heap.size):=Lib.hid KB.out.size
   have HBWo : Hid (Below w0.heap.size w0 wo):=Lib.hid ((HBW.out.mono (by rw [HW0S.out]; exact Nat.le_refl _)).trans (KB.out.below HBW.out.size fun k hk=>by have:=HG.out; have:=HBW.out.size; have:=HW0S.out; omega))
   by_cases hlt : t < m
   ·have HKK:=Lib.hid (HKP.out (by omega))
    have ht5 : t < 500:=by omega
    have hltA : t < A.length:=by rw [HLA.out]; exact hlt
    have hltB : t < B.length:=by rw [HLB.out]; exact hlt
    obtain ⟨x,hx⟩ : ∃ x,Hid (A.getD t [] = x):=⟨_,Lib.hid rfl⟩
    obtain ⟨y,hy⟩ : ∃ x,Hid (B.getD t [] = x):=⟨_,Lib.hid rfl⟩
    have HXN : Hid (x.length = n1):=Lib.hid (by rw [← hx.out]; exact HWA.out t hltA)
    have HYN : Hid (y.length = n2):=Lib.hid (by rw [← hy.out]; exact HWB.out t hltB)
    obtain ⟨b1,o1,rfl,a2,c2,hca,hnx⟩:=MM.at (R:=A) (by rw [HLA.out]; exact HNA.out) hltA
    obtain ⟨b3,o3,rfl,a4,c4,hcb,hny⟩:=MM.at (R:=B) (by rw [HLB.out]; exact HNB.out) hltB
    rw [hx.out,HXN.out] at hca hnx
    rw [hy.out,HYN.out] at hcb hny
    have hlt3 : b3 < w0.heap.size:=World.block_lt_of_cell? w0 _ hcb
    have hca:=(HBWo.out.cell (World.block_lt_of_cell? w0 _ hca)).trans hca
    have hcb:=(HBWo.out.cell hlt3).trans hcb
    have HNX:=Lib.hid (hnx.below HBWo.out)
    have HNY:=Lib.hid (hny.below HBWo.out)
    have HCB:=Lib.hid hcb
    have HL3 : Hid (b3 < wo.heap.size):=Lib.hid (by have:=HBWo.out.size; omega)
    have HBS : Hid (besM (A.take (t + 1)) (B.take (t + 1)) = besM (A.take t) (B.take t) ++ [x ++ y]):=Lib.hid (by rw [besM_snoc hltA hltB,hx.out,hy.out])
    obtain ⟨DT,hDT⟩ : ∃ D,Hid (besM (A.take t) (B.take t) = D):=⟨_,Lib.hid rfl⟩
    have HDL : Hid (DT.length = t):=Lib.hid (by rw [← hDT.out]; unfold besM; rw [List.length_zipWith,List.length_take,List.length_take]; omega)
    rw [hDT.out] at HO HBS
    obtain ⟨⟨x0,x1,x2,x3,x4⟩,-,-⟩:=HB.out
    clear hnx hny hltA hltB hlt3
    go_wp2_with (refine wpList_make_full _ rfl _ _ 27 rfl 0 3 i0 (.int .i64 0) 1 Try.underlying27 hi hz0 hz1 .i64 .i64 (k : Int) (k : Int) k rfl rfl rfl rfl (by rw [hz2]; omega) (by unfold maxLen; omega) (Nat.zero_le _) ?_)
    intro w2 hown hgrow
    have HROW : Hid (Row (List.replicate k 0) wo.heap.size w2):=Lib.hid (Row.of_own (n:=k) (base:=0) (by
     have e:=toList_madeCells_one (Value.int .i64 0) k
     rw [List.map_replicate,show N64 0 = Value.int .i64 0 from rfl,← e]
     simpa using hown) (by simp))
    have HG2 : Hid (Bx (fun _=>False) wo w2):=Lib.hid (Bx.of ((Below.refl _ _).grown hgrow (by simp) (fun k hk=>by cases hk)))
    clear hown hgrow
    go_wp2_with (refine wpList_copy_splice rfl (.tmp 30) (.tmp 31) 27 27 rfl 3 Try.underlying27 size3 (some ⟨wo.heap.size,0,none⟩) a2 k k n1 c2 rfl rfl wo.heap.size 0 ((List.replicate k 0).map N64) 3 HROW.out.heap (x.map N64) ?c1 ?c2 ?c3 ?c4 wo.heap.size w2 (Below.refl _ _) (Nat.le_refl _) ?_)
    case c1=>rw [List.length_map,HXN.out]; show n1 = min n1 k; have:=HKK.out; omega
    case c2 =>
     intro hp
     rcases HNX.out.bx HG2.out (fun _ _ _ _ _=>id) with ⟨e,h⟩ | ⟨b',off',cap',h,g1,g2,g3⟩
     ·rw [e] at hp; simp at hp
     ·cases h
      exact ⟨_,rfl,fun j a h=>num_cellsK g3 j _ (by rw [List.getElem?_map,h]; rfl)⟩
    case c3=>rw [List.length_map,HXN.out]; have:=HKK.out; simp; omega
    case c4 =>
     intro v hv
     obtain ⟨x,_,rfl⟩:=List.mem_map.1 hv
     rfl
    intro w3 hg3 hb3
    have HROW3 : Hid (Row (x ++ List.replicate n2 0) wo.heap.size w3):=Lib.hid (by
     refine Row.of_heap (base:=0) (by rw [List.length_append,HXN.out,List.length_replicate]; unfold maxLen; omega) ?_
     have e : (x ++ List.replicate n2 0).map N64 = splice ((List.replicate k 0).map N64) 0 (x.map N64):=by
      simp [splice,HXN.out,HKK.out]
     rw [e]
     have h2:=hg3.out
     rw [show (List.map N64 (List.replicate k 0)) = List.replicate k (N64 0) from List.map_replicate]
     exact h2)
    have HG3 : Hid (Bx (fun j=>wo.heap.size ≤ j) wo w3):=Lib.hid ((HG2.out.mono fun _ e=>e.elim).trans ⟨hb3.os,hb3.tape,hb3.output,hb3.size,fun k hk hs=>hb3.block k (by omega)⟩)
    have HS3 : Hid (wo.heap.size < w3.heap.size):=Lib.hid HROW3.out.lt
    have HO3 : Hid (OR DT rs (n1 + n2) w1.heap.size w3 v):=Lib.hid (HO.out.past HG3.out)
    have HFR:=Lib.hid (HO.out.fresh (Nat.le_refl _))
    have HBX3 : Hid (BX G F b cap k v w3):=Lib.hid (HB.out.bx HG3.out (by have:=HB.out.2.2; omega))
    have HNY3 : Hid (NN y w3 (.slice a4 n2 c4)):=Lib.hid (HNY.out.bx (HG3.out.old fun k hk e=>by omega) fun _ _ _ _ _=>id)
    have hS1 : w3.drew.cell? ⟨b3,o3 + t,none⟩ = some (.slice a4 n2 c4):=(HG3.out.cell (p:=⟨b3,o3 + t,none⟩) HL3.out (by have:=HL3.out; show ¬ wo.heap.size ≤ b3; omega)).trans HCB.out
    have hle : n1 ≤ k:=by have:=HKK.out; omega
    have hne : ¬ k = n1:=by have:=HKK.out; omega
    clear hg3 hb3 HROW HG2 hca hcb x0 x1 x2 x3 x4
    go_wp2_with fail
    refine wp_region_held_drew (S:=fun w'=>w'.cell? ⟨b3,o3 + t,none⟩ = some (.slice a4 n2 c4)) (by kernel_rfl) (by with_reducible exact hS1) (fun hHeld=>?_)
    refine Rg.tk 0 ⟨some 33,.move (.tmp 10),27,"matrix.go:36",#[],none⟩ ?_
    try simp only [Rg.gp]
    refine Rg.tk 1 ⟨some 34,.move (.tmp 9),27,"matrix.go:36",#[],none⟩ ?_
    try simp only [Rg.gp]
    refine Rg.tk 2 ⟨some 35,.call ⟨.builtin Builtin.len,#[.tmp 34],#[27]⟩,3,"matrix.go:36",#[⟨1,.data⟩],none⟩ ?_
    try simp only [Rg.gp]
    refine Rg.tk 3 ⟨some 36,.slice 27 (.tmp 33) (some (.tmp 35)) none none,27,"matrix.go:36",#[⟨0,.data⟩,⟨2,.data⟩],none⟩ ?_
    try simp only [Rg.gp]
    refine Rg.tk 4 ⟨some 37,.move (.tmp 2),30,"matrix.go:36",#[],none⟩ ?_
    try simp only [Rg.gp]
    refine Rg.tk 5 ⟨some 38,.move (.tmp 8),3,"matrix.go:36",#[],none⟩ ?_
    try simp only [Rg.gp]
    refine Rg.tk 6 ⟨some 39,.indexAddr 30 (.tmp 37) (.tmp 38),0,"matrix.go:36",#[⟨4,.data⟩,⟨5,.data⟩],none⟩ ?_
    try simp only [Rg.gp]
    refine Rg.tk 7 ⟨some 40,.load 27 (.tmp 39),27,"matrix.go:36",#[⟨6,.data⟩],none⟩ ?_
    try simp only [Rg.gp]
    refine Rg.rd1 8 ⟨some 41,.call ⟨.builtin Builtin.copy,#[.tmp 36,.tmp 40],#[27,27]⟩,3,"matrix.go:36",#[⟨3,.data⟩,⟨7,.data⟩],none⟩ fun K hK=>?_
    refine step_copy_splice rfl (.tmp 36) (.tmp 40) 27 27 rfl 3 Try.underlying27 size3 _ _ _ _ _ _ rfl rfl wo.heap.size n1 ((x ++ List.replicate n2 0).map N64) 3 HROW3.out.drew.heap (y.map N64) ?c1 ?c2 ?c3 ?c4 wo.heap.size w3.drew (Below.refl _ _) (Nat.le_refl _) ?_
    case c1=>rw [List.length_map,HYN.out]; show n2 = min n2 (k - n1); have:=HKK.out; omega
    case c2 =>
     intro hp
     rcases HNY3.out with ⟨e,h⟩ | ⟨b',off',cap',h,g1,g2,g3⟩
     ·rw [e] at hp; simp at hp
     ·cases h
      exact ⟨rfl,_,rfl,fun j a h=>num_cellsK g3 j _ (by first | exact h | (rw [List.getElem?_map]; exact h))⟩
    case c3=>simp [HXN.out,HYN.out]
    case c4 =>
     intro v hv
     obtain ⟨x,_,rfl⟩:=List.mem_map.1 hv
     rfl
    intro w4 hg4 hb4
    refine hK.out _ _ ?_ (fun hHeld=>?_)
    ·(try dsimp only)
     exact (hb4.cell (p:=⟨b3,o3 + t,none⟩) HL3.out).trans hHeld
    clear hK K
    try simp only [Rg.gp]
    refine wpAnyH_done (by kernel_rfl) ?_ _
    have HX4 : Hid (Rw (x ++ y) wo.heap.size w4):=Lib.hid (Row.rw' (by
     refine Row.of_heap (base:=0) (by rw [List.length_append,HXN.out,HYN.out]; unfold maxLen; omega) ?_
     have e : (x ++ y).map N64 = splice ((x ++ List.replicate n2 0).map N64) n1 (y.map N64):=by
      simp [splice,HXN.out,HYN.out]
     rw [e]
     exact hg4.out))
    have HG4 : Hid (Bx (fun j=>wo.heap.size ≤ j) w3 w4):=Lib.hid ⟨hb4.os,hb4.tape,hb4.output,hb4.size,fun k hk hs=>hb4.block k (by omega)⟩
    have HO4 : Hid (OR DT rs (n1 + n2) w1.heap.size w4 v):=Lib.hid (HO.out.past (HG3.out.trans HG4.out))
    have HBX4 : Hid (BX G F b cap k v w4):=Lib.hid (HBX3.out.bx HG4.out (by have:=HB.out.2.2; omega))
    have HLO : Hid (w1.heap.size ≤ wo.heap.size ∧ wo.heap.size < w4.heap.size ∧ G < w1.heap.size):=Lib.hid ⟨HSO.out,HX4.out.lt,HGS.out⟩
    have HKB4 : Hid (Bx (fun k=>k = G ∨ w1.heap.size ≤ k) w1 w4):=Lib.hid (KB.out.trans ((HG3.out.trans HG4.out).mono fun j hj=>.inr (by have:=HSO.out; omega)))
    obtain ⟨⟨x0,x1,x2,x3,x4⟩,xf,xl⟩:=HBX4.out
    have f4:=xf 4
    clear hHeld hg4 hb4 xf HBX3 HO3 hS1 HNY3
    go_wp2_with (at_builtin; refine wpList_append_own_at _ rfl _ _ 30 rfl w1.heap.size 27 j0 (.slice none 0 0) 1 24 Try.underlying30 ji jz0 jz1 jz2 rfl (by decide) _ _ _ rfl (HO4.out.own.alloc _) ⟨w4.heap.size,0,none⟩ 1 1 [rowV k wo.heap.size] rfl rfl (cell_one_new _ _ _) (fun u hu=>by simp at hu; subst hu; rfl) ?d3 ?d4 ?d5 ?_)
    case d3=>have:=HDL.out; unfold maxLen; omega
    case d4=>have:=HDL.out; omega
    case d5=>have:=HLO.out; simp; omega
    intro v' w9 hown' hgrow hnil hat
    rw [HKK.out] at hown'
    have hal2 : Bx (fun _=>False) w4 (w4.alloc (.cells #[rowV k wo.heap.size] 27)):=Bx.of ((Below.refl _ _).alloc (Nat.le_refl _) _)
    have HO5 : Hid (OR (besM (A.take (t + 1)) (B.take (t + 1))) (rs ++ [wo.heap.size]) (n1 + n2) w1.heap.size w9 v'):=Lib.hid (by
     rw [HBS.out]
     exact OR.push (HO4.out.bx hal2 fun _ _=>id) (HX4.out.bx hal2 id) (by rw [List.length_append,HXN.out,HYN.out]) HLO.out.1 HFR.out.1 HFR.out.2 rfl hown' hgrow (by simpa using hat))
    obtain ⟨aV,nV,cV,hvs⟩ : ∃ a m c,v' = .slice a m c:=by obtain ⟨a,c,e⟩:=HO5.out.shape; exact ⟨a,_,c,e⟩
    have hb3 : Bx (fun j=>w1.heap.size ≤ j) w4 w9:=(hal2.mono fun _ e=>e.elim).trans (Bx.grown hgrow fun j hj=>(HO4.out.own.lt j hj).1)
    have HBX5 : Hid (BX G F b cap k v w9):=Lib.hid (HBX4.out.bx hb3 (by have:=HLO.out; omega))
    have HKB5 : Hid (Bx (fun k=>k = G ∨ w1.heap.size ≤ k) w1 w9):=Lib.hid (HKB4.out.trans (hb3.mono fun j hj=>.inr hj))
    have HNE5 : Hid (besM (A.take (t + 1)) (B.take (t + 1)) = [] → v' = .slice none 0 0):=Lib.hid (fun e=>by rw [HBS.out] at e; simp at e)
    clear hown' hgrow hnil hat hal2 hb3
    subst hvs
    clear x0 x1 x2 x3 x4 f4 xl HBX4 HO4 HX4 HFR HKB4
    obtain ⟨⟨x0,x1,x2,x3,x4⟩,xf,xl⟩:=HBX5.out
    have f4:=xf 4
    clear xf
    have HBX6 : Hid (BX G F b cap k (.slice aV nV cV) (w9.setCell ⟨G,4,none⟩ (.slice aV nV cV))):=Lib.hid (HBX5.out.put (.slice aV nV cV))
    have hb4 : Bx (fun j=>j = G) w9 (w9.setCell ⟨G,4,none⟩ (.slice aV nV cV)):=Bx.set (S:=fun j=>j = G) rfl _
    have HO6 : Hid (OR (besM (A.take (t + 1)) (B.take (t + 1))) (rs ++ [wo.heap.size]) (n1 + n2) w1.heap.size (w9.setCell ⟨G,4,none⟩ (.slice aV nV cV)) (.slice aV nV cV)):=Lib.hid (HO5.out.bx hb4 fun j hj e=>by have:=HLO.out; omega)
    have HKB6 : Hid (Bx (fun k=>k = G ∨ w1.heap.size ≤ k) w1 (w9.setCell ⟨G,4,none⟩ (.slice aV nV cV))):=Lib.hid (HKB5.out.trans (hb4.mono fun j hj=>.inl hj))
    clear hb4
    go_wp2
    go_roundw
    case rel=>exact ⟨t + 1,rs ++ [wo.heap.size],.slice aV nV cV,by omega,by go_num,HO6,HNE5,HBX6,HKB6⟩
    case measure=>simp [intOf]; omega
   ·have HE : Hid (besM (A.take t) (B.take t) = besM A B):=Lib.hid (by rw [List.take_of_length_le (by rw [HLA.out]; omega),List.take_of_length_le (by rw [HLB.out]; omega)])
    rw [HE.out] at HO HZ
    have hlt1 : ¬ (t : Int) < (m : Int):=by omega
    obtain ⟨aV,nV,cV,hvs⟩ : ∃ a m c,v = .slice a m c:=by obtain ⟨a,c,e⟩:=HO.out.shape; exact ⟨a,_,c,e⟩
    subst hvs
    have HLT : Hid (W.heap.size + 1 < G ∧ G < w1.heap.size):=Lib.hid ⟨by have:=HG.out; omega,HGS.out⟩
    obtain ⟨⟨x0,x1,x2,x3,x4⟩,-,-⟩:=HB.out
    obtain ⟨⟨r0,r1,r2,r3,r4⟩,rf,rl⟩:=HRB1.out.bx KB.out (by have:=HLT.out; omega)
    have g0:=rf 0
    have g1:=rf 1
    have g2:=rf 2
    have g3:=rf 3
    have g4:=rf 4
    have HC5 : Hid (∀ u0 u1 u2 u3 u4,Bx (fun j=>j = W.heap.size + 1) wo (((((wo.setCell ⟨W.heap.size + 1,0,none⟩ u0).setCell ⟨W.heap.size + 1,1,none⟩ u1).setCell ⟨W.heap.size + 1,2,none⟩ u2).setCell ⟨W.heap.size + 1,3,none⟩ u3).setCell ⟨W.heap.size + 1,4,none⟩ u4)):=Lib.hid fun u0 u1 u2 u3 u4=>five_bx u0 u1 u2 u3 u4
    clear rf rl
    go_wp2
    have hb6:=HC5.out (.int .i64 F.p) (.int .i64 F.e) (.slice (some ⟨b,0,none⟩) F.e cap) (.int .i64 (k : Nat)) (.slice aV nV cV)
    refine bodyPost_ret (v:=MV F b cap k (.slice aV nV cV)) (by simp [results,Try.results80,go_sem,r0,r1,r2,r3,r4]) rfl ?_
    have hWo : Below W.heap.size W wo:=HAL.out.trans (HBWo.out.mono (by have:=HW0S.out; omega))
    refine ⟨rs,_,rfl,(HO.out.bx hb6 fun j hj e=>by have:=HLT.out; omega).weak (by have:=HLT.out; omega),HZ.out,?_,hWo.trans (hb6.below hWo.size fun j e=>by omega)⟩
    have:=hb6.size
    have:=HSO.out
    have:=HLT.out
    omega
end Go.Proofs.Yteeofijcndgbfaa
