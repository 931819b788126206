/- Inverses by trial; a vector cleared by the rows of a matrix: the reference's. -/
import Derived.Test.YteeofijcndgbfaaEvTk
import Derived.Test.YteeofijcndgbfaaWd
namespace Go.Proofs.Yteeofijcndgbfaa
open Go.RowKit Go.Fl
set_option maxRecDepth 100000
set_option linter.unusedVariables false
set_option linter.unusedSimpArgs false
set_option linter.unusedSectionVars false
theorem inv_uniq {F : Gf} (hF : Ok F) {x k : Nat} (hx : x < F.q) (h0 : x ≠ 0) (hk : k < F.q) (h : F.mul x k = 1) : k = F.inv x:=by
 have h1 : F.mul (F.inv x) (F.mul x k) = F.inv x:=by rw [h,hF.mul_one (hF.inv_lt x)]
 rwa [← hF.mul_assoc,Ok.mul_comm (F.inv x),hF.mul_inv hx h0,hF.one_mul hk] at h1
set_option maxHeartbeats 3200000 in
theorem rinv_c {F : Gf} {b cap x : Nat} {W : World} (hA : FldAt F b cap W) (hx : x < F.q) (h0 : x ≠ 0) :
  Calls Try.prog 72 #[FV F b cap,.int .i64 (x : Nat)] W fun e w'=>e = .returned (.tuple #[.int .i64 (F.inv x : Nat),.int .i64 0]) ∧ Below W.heap.size W w':=by
 have HFF : Hid (Ok F):=Lib.hid (ok_mem hA.mem)
 obtain ⟨w1,hw1⟩ : ∃ w1,w1 = (W.alloc (.cells #[.int .i64 F.p,.int .i64 F.e,FM F b cap] 29)):=⟨_,rfl⟩
 have HAL : Hid (Below W.heap.size W w1):=Lib.hid (by rw [hw1]; exact (Below.refl _ _).alloc (Nat.le_refl _) _)
 have HS1 : Hid (W.heap.size < w1.heap.size):=Lib.hid (by rw [hw1]; simp)
 have HFB : Hid (FBx W.heap.size F b cap w1):=Lib.hid (by rw [hw1]; exact FBx.new W F b cap)
 have HF1:=Lib.hid (hA.below HAL.out)
 have HW1:=Lib.hid hw1
 obtain ⟨q,hq⟩ : ∃ q,Hid (F.q = q):=⟨_,Lib.hid rfl⟩
 obtain ⟨v,hv⟩ : ∃ v,Hid (F.inv x = v):=⟨_,Lib.hid rfl⟩
 have hvq : v < q:=by rw [← hv.out,← hq.out]; exact HFF.out.inv_lt x
 have hv1 : 1 ≤ v:=by rw [← hv.out]; exact Nat.pos_of_ne_zero (HFF.out.inv_ne x)
 have hq64 : q ≤ 64:=by rw [← hq.out]; exact HFF.out.q64
 have HX:=Lib.hid hx
 have H0:=Lib.hid h0
 have HVV : Hid (F.mul x v = 1):=Lib.hid (by rw [← hv.out]; exact HFF.out.mul_inv hx h0)
 have hx0 : ¬ (x : Int) = 0:=by omega
 have hx0b : ((x : Int) == 0) = false:=by simp; omega
 rw [hv.out]
 clear hA hw1 hx h0
 go_enter Try.func72,Try.ntmps72
 go_wp2
 rw [← HW1.out]
 clear HW1
 go_loopw [6] (fun i wr=>∃ k : Nat,1 ≤ k ∧ k ≤ v ∧ i = .int .i64 k ∧ Hid (Below w1.heap.size w1 wr)) (fun i _=>v + 1 - (intOf i).toNat)
 case atStart=>exact ⟨1,Nat.le_refl _,hv1,rfl,Below.refl _ _⟩
 case round =>
  obtain ⟨k,hk1,hkv,rfl,KB⟩:=hrel
  obtain ⟨wo,hwo⟩ : ∃ w,w = wr:=⟨_,rfl⟩
  subst hwo
  have hkq : (k : Int) < (q : Int):=by omega
  have HSZ : Hid (Calls Try.prog 42 #[FV F b cap] wo fun e w'=>e = .returned (.int .i64 (q : Nat)) ∧ Below wo.heap.size wo w'):=Lib.hid (by have t:=rsize_c (HF1.out.below KB.out); rw [hq.out] at t; exact t)
  obtain ⟨x0,x1,x2⟩:=HFB.out.below KB.out HS1.out
  go_wp2_with fail
  with_reducible refine HSZ.out.mono ?_
  rintro e w2 ⟨rfl,hb2⟩
  have HB2 : Hid (Below w1.heap.size w1 w2):=Lib.hid (KB.out.trans (hb2.mono KB.out.size))
  clear hb2 x0 x1 x2 HSZ
  obtain ⟨x0,x1,x2⟩:=HFB.out.below HB2.out HS1.out
  obtain ⟨y,hy⟩ : ∃ y,Hid (F.mul x k = y):=⟨_,Lib.hid rfl⟩
  have HML : Hid (Calls Try.prog 67 #[FV F b cap,.int .i64 (x : Nat),.int .i64 (k : Nat)] w2 fun e w'=>e = .returned (.int .i64 (y : Nat)) ∧ Below w2.heap.size w2 w'):=Lib.hid (by have t:=rmul_c HX.out (show k < F.q by rw [hq.out]; omega) (HF1.out.below HB2.out); rw [hy.out] at t; exact t)
  go_wp2_with fail
  with_reducible refine HML.out.mono ?_
  rintro e w3 ⟨rfl,hb3⟩
  have HB3 : Hid (Below w1.heap.size w1 w3):=Lib.hid (HB2.out.trans (hb3.mono HB2.out.size))
  clear hb3 x0 x1 x2 HML
  by_cases hkv2 : k = v
  ·have hy1 : y = 1:=by rw [← hy.out,hkv2]; exact HVV.out
   subst hkv2
   subst hy1
   have HBF : Hid (Below W.heap.size W w3):=Lib.hid (HAL.out.trans (HB3.out.mono HAL.out.size))
   go_wp2
   refine bodyPost_ret (v:=.tuple #[.int .i64 (k : Nat),.int .i64 0]) (by simp [results,Try.results72,go_sem]) rfl ?_
   exact ⟨rfl,HBF.out⟩
  ·have hy1 : ¬ (y : Int) = 1:=fun e=>hkv2 ((inv_uniq HFF.out HX.out H0.out (by rw [hq.out]; omega) (by rw [hy.out]; omega)).trans hv.out)
   have hy1b : ((y : Int) == 1) = false:=by simp; omega
   go_wp2
   go_roundw
   case rel=>exact ⟨k + 1,by omega,by omega,by go_num,HB3⟩
   case measure=>simp [intOf]; omega
def clS (F : Gf) (n : Nat) (R : List (List Nat)) (V : List Nat) : Nat → List Nat
 | 0=>V
 | k + 1=>moV F (clS F n R V k) (F.neg ((clS F n R V k).getD (pvt (Go.Fl.fn (R.getD k [])) n) 0)) (R.getD k [])
theorem clS_vn {F : Gf} (hF : Ok F) {n : Nat} {R : List (List Nat)} {V : List Nat} (hV : Vn F n V) : ∀ k,Vn F n (clS F n R V k)
 | 0=>hV
 | k + 1=>moV_vn hF (clS_vn hF hV k)
set_option maxHeartbeats 6400000 in
theorem cleared_c {F : Gf} {b cap n m ca cv : Nat} {A : List (List Nat)} {V : List Nat} {aa av : Option Addr} {W : World} (hA : FldAt F b cap W) (hn : n ≤ 1000) (hm : m ≤ 1000) (la : A.length = m) (ma : Mn F n A) (mv : Vn F n V) (hp : ∀ i,i < m → pvt (Go.Fl.fn (A.getD i [])) n < n) (na : MM A W (.slice aa m ca)) (nv : NN V W (.slice av n cv)) :
  Calls Try.prog 62 #[FV F b cap,.slice aa m ca,.slice av n cv] W (VPn (clS F n A V m) n W):=by
 have HFF : Hid (Ok F):=Lib.hid (ok_mem hA.mem)
 obtain ⟨w1,hw1⟩ : ∃ w1,w1 = W.alloc (.cells #[.int .i64 F.p,.int .i64 F.e,FM F b cap] 29):=⟨_,rfl⟩
 have HAL : Hid (Below W.heap.size W w1):=Lib.hid (by rw [hw1]; exact (Below.refl _ _).alloc (Nat.le_refl _) _)
 have HS1 : Hid (w1.heap.size = W.heap.size + 1):=Lib.hid (by rw [hw1]; simp)
 have HFB : Hid (FBx W.heap.size F b cap w1):=Lib.hid (by rw [hw1]; exact FBx.new W F b cap)
 have HF1:=Lib.hid (hA.below HAL.out)
 have HBb : Hid (b < W.heap.size):=Lib.hid hA.lt
 have HMA:=Lib.hid ma
 have HLA:=Lib.hid la
 have HMV:=Lib.hid mv
 have HPV:=Lib.hid hp
 have HNA:=Lib.hid (na.below HAL.out)
 have HNV:=Lib.hid (nv.below HAL.out)
 have HW1:=Lib.hid hw1
 clear hA ma mv la na nv hw1 hp
 go_enter Try.func62,Try.ntmps62
 go_wp2
 rw [← HW1.out]
 clear HW1
 go_loopw [2,7] (fun v i wr=>∃ (k : Nat) (aP : Option Addr) (cP : Nat),k ≤ m ∧ v = .slice aP n cP ∧ i = .int .i64 k ∧ Hid (NN (clS F n A V k) wr (.slice aP n cP)) ∧ Hid (Below w1.heap.size w1 wr)) (fun _ i _=>m - (intOf i).toNat)
 case atStart=>exact ⟨0,_,_,Nat.zero_le _,rfl,rfl,HNV,Below.refl _ _⟩
 case round =>
  obtain ⟨k,aP,cP,hk,rfl,rfl,HO,KB⟩:=hrel
  by_cases hlt : k < m
  ·have hk5 : k < 1000:=by omega
   have hkA : k < A.length:=by rw [HLA.out]; exact hlt
   obtain ⟨Y,hY⟩ : ∃ L,Hid (A.getD k [] = L):=⟨_,Lib.hid rfl⟩
   have HVY : Hid (Vn F n Y):=Lib.hid (by rw [← hY.out]; exact mrow HMA.out hkA)
   obtain ⟨X,hX⟩ : ∃ L,Hid (clS F n A V k = L):=⟨_,Lib.hid rfl⟩
   have HVX : Hid (Vn F n X):=Lib.hid (by rw [← hX.out]; exact clS_vn HFF.out HMV.out k)
   obtain ⟨pp,hpp⟩ : ∃ L,Hid (pvt (Go.Fl.fn Y) n = L):=⟨_,Lib.hid rfl⟩
   have hpn : pp < n:=by rw [← hpp.out,← hY.out]; exact HPV.out k hlt
   obtain ⟨xx,hxx⟩ : ∃ L,Hid (X.getD pp 0 = L):=⟨_,Lib.hid rfl⟩
   have HXQ : Hid (xx < F.q):=Lib.hid (by rw [← hxx.out]; exact HVX.out.el.get HFF.out pp)
   obtain ⟨nx,hnx⟩ : ∃ L,Hid (F.neg xx = L):=⟨_,Lib.hid rfl⟩
   have HNQ : Hid (nx < F.q):=Lib.hid (by rw [← hnx.out]; exact HFF.out.neg_lt _)
   obtain ⟨Z,hZ⟩ : ∃ L,Hid (clS F n A V (k + 1) = L):=⟨_,Lib.hid rfl⟩
   have HST : Hid (moV F X nx Y = Z):=Lib.hid (by rw [← hZ.out,← hnx.out,← hxx.out,← hpp.out,← hX.out,← hY.out]; rfl)
   have HVZ : Hid (Z.length = n):=Lib.hid (by rw [← HST.out]; exact (moV_vn HFF.out HVX.out).len)
   rw [hX.out] at HO
   obtain ⟨b1,o1,rfl,a1,c1,hc1,hny⟩:=MM.at (R:=A) (by rw [HLA.out]; exact HNA.out.below KB.out) hkA
   rw [hY.out,HVY.out.len] at hc1 hny
   obtain ⟨b2,o2,rfl,hc2⟩:=HO.out.atm HVX.out.len hpn
   rw [hxx.out] at hc2
   have HNY:=Lib.hid hny
   have hfb:=HFB.out.below KB.out (by have:=HS1.out; omega)
   have hpi : (pp : Int) < (n : Int):=by omega
   have hS0 : SZ F b cap W.heap.size b1 (o1 + k) b2 (o2 + pp) (.slice a1 n c1) (.int .i64 (xx : Nat)) wr.heap.size wr wr.drew:=
    ⟨hfb,hc1,hc2,Lib.hid ⟨(HF1.out.below KB.out).bx (Bx.refl (fun _=>False) wr).drew id,(Below.refl _ _).drew,Nat.le_refl _,by have:=HS1.out; have:=KB.out.size; omega,World.block_lt_of_cell? wr _ hc1,World.block_lt_of_cell? wr _ hc2,by have:=HBb.out; have:=HS1.out; have:=KB.out.size; omega⟩⟩
   clear hfb hc1 hc2 hny hkA
   go_wp2_with fail
   refine wp_region_held_drew (S:=fun w'=>SZ F b cap W.heap.size b1 (o1 + k) b2 (o2 + pp) (.slice a1 n c1) (.int .i64 (xx : Nat)) wr.heap.size wr w') (by kernel_rfl) (by with_reducible exact hS0) (fun hHeld=>?_)
   refine Rg.tk 0 ⟨some 14,.load 29 (.tmp 3),29,"ref.go:135",#[],none⟩ ?_
   try simp only [Rg.gp]
   refine Rg.tk 1 ⟨some 15,.move (.tmp 2),27,"ref.go:135",#[],none⟩ ?_
   try simp only [Rg.gp]
   refine Rg.tk 2 ⟨some 16,.load 29 (.tmp 3),29,"ref.go:135",#[],none⟩ ?_
   try simp only [Rg.gp]
   refine Rg.tk 3 ⟨some 17,.move (.tmp 2),27,"ref.go:135",#[],none⟩ ?_
   try simp only [Rg.gp]
   refine Rg.tk 4 ⟨some 18,.move (.tmp 1),30,"ref.go:135",#[],none⟩ ?_
   try simp only [Rg.gp]
   refine Rg.tk 5 ⟨some 19,.move (.tmp 7),3,"ref.go:135",#[],none⟩ ?_
   try simp only [Rg.gp]
   refine Rg.tk 6 ⟨some 20,.indexAddr 30 (.tmp 18) (.tmp 19),0,"ref.go:135",#[⟨4,.data⟩,⟨5,.data⟩],none⟩ ?_
   try simp only [Rg.gp]
   refine Rg.tk 7 ⟨some 21,.load 27 (.tmp 20),27,"ref.go:135",#[⟨6,.data⟩],none⟩ ?_
   try simp only [Rg.gp]
   refine Rg.tk 12 ⟨some 26,.move (.tmp 1),30,"ref.go:135",#[],none⟩ ?_
   try simp only [Rg.gp]
   refine Rg.tk 13 ⟨some 27,.move (.tmp 7),3,"ref.go:135",#[],none⟩ ?_
   try simp only [Rg.gp]
   refine Rg.tk 14 ⟨some 28,.indexAddr 30 (.tmp 26) (.tmp 27),0,"ref.go:135",#[⟨12,.data⟩,⟨13,.data⟩],none⟩ ?_
   try simp only [Rg.gp]
   refine Rg.tk 15 ⟨some 29,.load 27 (.tmp 28),27,"ref.go:135",#[⟨14,.data⟩],none⟩ ?_
   try simp only [Rg.gp]
   refine Rg.rd1 8 ⟨some 22,.call ⟨.value (.func 45),#[.tmp 21],#[27]⟩,3,"ref.go:135",#[⟨7,.data⟩],none⟩ fun K hK=>?_
   go_simp
   go_at_call 45
   with_reducible refine (show Calls Try.prog 45 #[.slice a1 n c1] _ (fun e w'=>e = .returned (.int .i64 (pp : Nat)) ∧ Below _ _ w') from by have t:=pivot_c (L:=Y) (a:=a1) (c:=c1) (by rw [HVY.out.len]; omega) (by rw [HVY.out.len]; exact HNY.out.below hHeld.2.2.2.out.2.1); rw [HVY.out.len,hpp.out] at t; exact t).mono ?_
   rintro z v3 ⟨rfl,hb3⟩
   refine hK.out _ _ ?_ (fun hHeld=>?_)
   ·(try dsimp only)
    exact SZ.keep hHeld hb3
   clear hK K
   try simp only [Rg.gp]
   refine Rg.tk 9 ⟨some 23,.indexAddr 27 (.tmp 17) (.tmp 22),0,"ref.go:135",#[⟨3,.data⟩,⟨8,.data⟩],none⟩ ?_
   try simp only [Rg.gp]
   refine Rg.tk 10 ⟨some 24,.load 3 (.tmp 23),3,"ref.go:135",#[⟨9,.data⟩],none⟩ ?_
   try simp only [Rg.gp]
   refine Rg.rd1 11 ⟨some 25,.call ⟨.value (.func 73),#[.tmp 16,.tmp 24],#[29,3]⟩,3,"ref.go:135",#[⟨2,.data⟩,⟨10,.data⟩,⟨8,.chain⟩],none⟩ fun K hK=>?_
   go_simp
   go_at_call 73
   with_reducible refine (show Calls Try.prog 73 #[FV F b cap,.int .i64 (xx : Nat)] _ (fun e w'=>e = .returned (.int .i64 (nx : Nat)) ∧ Below _ _ w') from by have t:=rneg_c HXQ.out hHeld.2.2.2.out.1; rw [hnx.out] at t; exact t).mono ?_
   rintro z v4 ⟨rfl,hb4⟩
   refine hK.out _ _ ?_ (fun hHeld=>?_)
   ·(try dsimp only)
    exact SZ.keep hHeld hb4
   clear hK K
   try simp only [Rg.gp]
   refine Rg.rd1 16 ⟨some 30,.call ⟨.value (.func 41),#[.tmp 14,.tmp 15,.tmp 25,.tmp 29],#[29,27,3,27]⟩,27,"ref.go:135",#[⟨0,.data⟩,⟨1,.data⟩,⟨11,.data⟩,⟨15,.data⟩,⟨11,.chain⟩],none⟩ fun K hK=>?_
   go_simp
   go_at_call 41
   with_reducible refine (show Calls Try.prog 41 #[FV F b cap,.slice (some ⟨b2,o2,none⟩) n cP,.int .i64 (nx : Nat),.slice a1 n c1] _ (VPn Z n _) from by have t:=more_c hHeld.2.2.2.out.1 (by omega) HVX.out HVY.out HNQ.out (HO.out.below hHeld.2.2.2.out.2.1) (HNY.out.below hHeld.2.2.2.out.2.1); rw [HST.out] at t; exact t.mono fun _ _ h=>h.n HVZ.out).mono ?_
   rintro z v5 ⟨a5,c5,rfl,hn5,hb5⟩
   refine hK.out _ _ ?_ (fun hHeld=>?_)
   ·(try dsimp only)
    exact SZ.keep hHeld hb5
   clear hK K
   try simp only [Rg.gp]
   refine Rg.tk 17 ⟨some 2,.assign (.tmp 30),27,"ref.go:135",#[⟨16,.data⟩,⟨16,.chain⟩,⟨0,.phase⟩,⟨1,.phase⟩,⟨2,.phase⟩,⟨3,.phase⟩,⟨4,.phase⟩,⟨5,.phase⟩,⟨6,.phase⟩,⟨7,.phase⟩,⟨8,.phase⟩,⟨9,.phase⟩,⟨10,.phase⟩,⟨11,.phase⟩,⟨12,.phase⟩,⟨13,.phase⟩,⟨14,.phase⟩,⟨15,.phase⟩,⟨16,.phase⟩],none⟩ ?_
   try simp only [Rg.gp]
   refine wpAnyH_done (by kernel_rfl) ?_ _
   have HB5:=Lib.hid (KB.out.trans (hHeld.2.2.2.out.2.1.mono KB.out.size))
   have HN5:=Lib.hid hn5
   clear hHeld hS0 hn5
   go_wp2
   go_roundw
   case rel=>exact ⟨k + 1,a5,c5,by omega,rfl,by go_num,by rw [hZ.out]; exact HN5,HB5⟩
   case measure=>simp [intOf]; omega
  ·obtain rfl : k = m:=by omega
   have hlt1 : ¬ (k : Int) < (k : Int):=by omega
   have HBF : Hid (Below W.heap.size W wr):=Lib.hid (HAL.out.trans (KB.out.mono HAL.out.size))
   go_wp2
   go_ret
   exact ⟨aP,cP,rfl,HO.out,HBF.out⟩
end Go.Proofs.Yteeofijcndgbfaa
/- The reference's put, as lists: what it makes of a reduced matrix. -/
namespace Go.Proofs.Yteeofijcndgbfaa
open Go.Fl
set_option linter.unusedVariables false
set_option linter.unusedSectionVars false
def puD (n : Nat) (R : List (List Nat)) (p : Nat) : Nat → Bool
 | 0=>false
 | k + 1=>puD n R p k || decide (p < pvt (Go.Fl.fn (R.getD k [])) n)
def puO (F : Gf) (n : Nat) (R : List (List Nat)) (p : Nat) (w : List Nat) : Nat → List (List Nat)
 | 0=>[]
 | k + 1=>(if (!puD n R p k && decide (p < pvt (Go.Fl.fn (R.getD k [])) n)) = true then puO F n R p w k ++ [w] else puO F n R p w k) ++ [moV F (R.getD k []) (F.neg ((R.getD k []).getD p 0)) w]
def puR (F : Gf) (n : Nat) (R : List (List Nat)) (p : Nat) (w : List Nat) : List (List Nat):=if puD n R p R.length = true then puO F n R p w R.length else puO F n R p w R.length ++ [w]
def putS (F : Gf) (n : Nat) (R : List (List Nat)) (V : List Nat) : List (List Nat):=
 if pvt (Go.Fl.fn (clS F n R V R.length)) n = n then R else
  puR F n R (pvt (Go.Fl.fn (clS F n R V R.length)) n) (timV F (F.inv ((clS F n R V R.length).getD (pvt (Go.Fl.fn (clS F n R V R.length)) n) 0)) (clS F n R V R.length))
theorem timV_vn {F : Gf} (hF : Ok F) {n c : Nat} {V : List Nat} (hv : Vn F n V) : Vn F n (timV F c V):=by
 unfold timV; rw [hv.len]; exact moV_vn hF (rep_vn hF n)
theorem timV_fn {F : Gf} (hF : Ok F) {n c : Nat} {V : List Nat} (hv : Vn F n V) : Go.Fl.fn (timV F c V) = ps F c (Go.Fl.fn V):=by
 unfold timV; rw [hv.len,moV_fn hF (rep_vn hF n) hv]
 funext j
 show F.add ((List.replicate n 0).getD j 0) _ = _
 rw [show (List.replicate n 0).getD j 0 = 0 from by simp [List.getD_eq_getElem?_getD,List.getElem?_replicate]; split <;> rfl]
 exact hF.zero_add (Ok.mul_lt hF _ _)
section
variable {F : Gf} (hF : Ok F)
include hF
abbrev rwL (n : Nat) (L : List (Nat × Cf)) : List (List Nat):=L.map fun a=>toV n a.2
theorem rwL_get {n : Nat} {L : List (Nat × Cf)} {i : Nat} (hi : i < L.length) : (rwL n L).getD i [] = toV n (L[i]).2:=by
 rw [List.getD_eq_getElem?_getD,List.getElem?_map,List.getElem?_eq_getElem hi]; rfl
theorem rwL_vn {n : Nat} {L : List (Nat × Cf)} (h : RedL F n L) : Mn F n (rwL n L):=fun r hr=>by
 obtain ⟨a,ha,rfl⟩:=List.mem_map.1 hr
 exact toV_vn (h.ro a ha).el
theorem rwL_fn {n : Nat} {L : List (Nat × Cf)} (h : RedL F n L) {i : Nat} (hi : i < L.length) : Go.Fl.fn (toV n (L[i]).2) = (L[i]).2:=fn_toV (h.ro _ (List.getElem_mem hi)).hi
theorem rwL_pvt {n : Nat} {L : List (Nat × Cf)} (h : RedL F n L) {i : Nat} (hi : i < L.length) : pvt (Go.Fl.fn (toV n (L[i]).2)) n = (L[i]).1:=by
 have hr:=h.red
 rw [← rows_map hF h] at hr
 have e:=red_pvt hF hr (i:=i) (by rw [List.length_map]; exact hi)
 rw [rwL_get hF hi,map_fst_getD hi] at e
 exact e
theorem clS_fn {n : Nat} {L : List (Nat × Cf)} (h : RedL F n L) {V : List Nat} (hV : Vn F n V) : ∀ k,k ≤ L.length → Go.Fl.fn (clS F n (rwL n L) V k) = (L.take k).foldl (fun x a=>mns F x (x a.1) a.2) (Go.Fl.fn V)
 | 0,_=>rfl
 | k + 1,hk=>by
  have hk' : k < L.length:=by omega
  rw [List.take_succ_eq_append_getElem hk',List.foldl_append,List.foldl_cons,List.foldl_nil,← clS_fn h hV k (by omega)]
  show Go.Fl.fn (moV F _ _ _) = _
  have hv:=rwL_vn hF h _ (List.mem_map.2 ⟨_,List.getElem_mem hk',rfl⟩)
  rw [rwL_get hF hk',moV_fn hF (clS_vn hF hV k) hv,rwL_fn hF h hk',← rwL_fn hF h hk',rwL_pvt hF h hk',rwL_fn hF h hk']
  rfl
theorem clS_clr {n : Nat} {L : List (Nat × Cf)} (h : RedL F n L) {V : List Nat} (hV : Vn F n V) : Go.Fl.fn (clS F n (rwL n L) V L.length) = clr F L (Go.Fl.fn V):=by
 rw [clS_fn hF h hV _ (Nat.le_refl _),List.take_length,clr_fold hF h.pw (fun a ha=>(h.ro a ha).el) (hV.fn hF)]
theorem puO_inv {n p : Nat} {L : List (Nat × Cf)} (h : RedL F n L) (hne : ∀ a ∈ L,a.1 ≠ p) {w : List Nat} {s : Cf} (hw : Vn F n w) (hs : Go.Fl.fn w = s) : ∀ k,k ≤ L.length →
  (puD n (rwL n L) p k = false ∧ (∀ a ∈ L.take k,a.1 < p) ∧ puO F n (rwL n L) p w k = (L.take k).map fun a=>toV n (off F p s a).2) ∨
  (puD n (rwL n L) p k = true ∧ ∃ T1 a T2,L.take k = T1 ++ a :: T2 ∧ (∀ x ∈ T1,x.1 < p) ∧ ¬ a.1 < p ∧ puO F n (rwL n L) p w k = (T1.map fun a=>toV n (off F p s a).2) ++ w :: (a :: T2).map fun a=>toV n (off F p s a).2)
 | 0,_=>.inl ⟨rfl,by simp,rfl⟩
 | k + 1,hk=>by
  have hk' : k < L.length:=by omega
  have e1 : (rwL n L).getD k [] = toV n (L[k]).2:=rwL_get hF hk'
  have e2 : moV F ((rwL n L).getD k []) (F.neg (((rwL n L).getD k []).getD p 0)) w = toV n (off F p s (L[k])).2:=by
   have hv:=rwL_vn hF h _ (List.mem_map.2 ⟨_,List.getElem_mem hk',rfl⟩)
   refine vn_ext (moV_vn hF (e1 ▸ hv)).len (toV_len _ _) fun j hj=>?_
   rw [show (moV F ((rwL n L).getD k []) (F.neg (((rwL n L).getD k []).getD p 0)) w).getD j 0 = Go.Fl.fn (moV F ((rwL n L).getD k []) (F.neg (((rwL n L).getD k []).getD p 0)) w) j from rfl,moV_fn hF (e1 ▸ hv) hw,toV_get _ hj,hs,e1]
   show F.add (Go.Fl.fn (toV n (L[k]).2) j) (F.mul (F.neg (Go.Fl.fn (toV n (L[k]).2) p)) (s j)) = _
   rw [rwL_fn hF h hk']; rfl
  have e3 : pvt (Go.Fl.fn ((rwL n L).getD k [])) n = (L[k]).1:=by rw [e1]; exact rwL_pvt hF h hk'
  have hn:=hne _ (List.getElem_mem hk')
  have eD : puD n (rwL n L) p (k + 1) = (puD n (rwL n L) p k || decide (p < (L[k]).1)):=by
   show (puD n (rwL n L) p k || decide (p < pvt (Go.Fl.fn ((rwL n L).getD k [])) n)) = _
   rw [e3]
  have eO : puO F n (rwL n L) p w (k + 1) = (if (!puD n (rwL n L) p k && decide (p < (L[k]).1)) = true then puO F n (rwL n L) p w k ++ [w] else puO F n (rwL n L) p w k) ++ [toV n (off F p s (L[k])).2]:=by
   rw [← e2,← e3]; rfl
  rw [List.take_succ_eq_append_getElem hk']
  rcases puO_inv h hne hw hs k (by omega) with ⟨h1,h2,h3⟩ | ⟨h1,T1,a,T2,h2,h3,h4,h5⟩
  ·by_cases hlt : p < (L[k]).1
   ·refine .inr ⟨by rw [eD,h1]; simp [hlt],L.take k,L[k],[],rfl,h2,by omega,?_⟩
    rw [eO,h1,h3]; simp [hlt]
   ·refine .inl ⟨by rw [eD,h1]; simp [hlt],fun a ha=>?_,?_⟩
    ·rcases List.mem_append.1 ha with h | h
     ·exact h2 a h
     ·rw [List.mem_singleton] at h; subst h; omega
    ·rw [eO,h1,h3,List.map_append]; simp [hlt,-List.map_take]
  ·refine .inr ⟨by rw [eD,h1]; rfl,T1,a,T2 ++ [L[k]],by rw [h2]; simp,h3,h4,?_⟩
   rw [eO,h1,h5]; simp
theorem putS_eq {n : Nat} {L : List (Nat × Cf)} (h : RedL F n L) {V : List Nat} (hV : Vn F n V) : putS F n (rwL n L) V = rwL n (putL F n L (Go.Fl.fn V)):=by
 have hl : (rwL n L).length = L.length:=by rw [List.length_map]
 unfold putS putL
 rw [hl]
 have hC:=clS_clr hF h hV
 have hVC : Vn F n (clS F n (rwL n L) V L.length):=clS_vn hF hV _
 generalize clS F n (rwL n L) V L.length = C at hC hVC
 rw [show C.getD (pvt (Go.Fl.fn C) n) 0 = Go.Fl.fn C (pvt (Go.Fl.fn C) n) from rfl,hC]
 have hat:=clr_at hF h (hV.fn hF)
 generalize clr F L (Go.Fl.fn V) = u at hC hat
 obtain ⟨s1,s2,s3⟩:=pvt_spec u n
 generalize pvt u n = p at s1 s2 s3
 by_cases hp : p = n
 ·rw [if_pos hp,if_pos hp]
 ·rw [if_neg hp,if_neg hp]
  have hup:=s3 (by omega)
  have hne : ∀ a ∈ L,a.1 ≠ p:=fun a ha e=>hup (e ▸ hat a ha)
  have hw : Vn F n (timV F (F.inv (u p)) C):=timV_vn hF hVC
  have hs : Go.Fl.fn (timV F (F.inv (u p)) C) = ps F (F.inv (u p)) u:=by rw [timV_fn hF hVC,hC]
  have hwt : toV n (ps F (F.inv (u p)) u) = timV F (F.inv (u p)) C:=by
   refine vn_ext (toV_len _ _) hw.len fun j hj=>?_
   rw [toV_get _ hj,← hs]; rfl
  have key:=puO_inv hF h hne hw hs L.length (Nat.le_refl _)
  rw [List.take_length] at key
  generalize timV F (F.inv (u p)) C = w at hw hs hwt key
  generalize ps F (F.inv (u p)) u = s at hs hwt key
  unfold puR
  rw [hl]
  rcases key with ⟨h1,h2,h3⟩ | ⟨h1,T1,a,T2,h2,h3,h4,h5⟩
  ·rw [h1,h3]
   have e1 : L.takeWhile (fun a=>decide (a.1 < p)) = L:=by have:=List.takeWhile_append_of_pos (p:=fun a : Nat × Cf=>decide (a.1 < p)) (l₁:=L) (l₂:=[]) (fun a ha=>by simpa using h2 a ha); simpa using this
   have e2 : L.dropWhile (fun a=>decide (a.1 < p)) = []:=by have:=List.dropWhile_append_of_pos (p:=fun a : Nat × Cf=>decide (a.1 < p)) (l₁:=L) (l₂:=[]) (fun a ha=>by simpa using h2 a ha); simpa using this
   rw [e1,e2]; simp [hwt]
  ·rw [h1,h5]
   have e1 : L.takeWhile (fun a=>decide (a.1 < p)) = T1:=by
    rw [h2,List.takeWhile_append_of_pos (fun a ha=>by simpa using h3 a ha),List.takeWhile_cons_of_neg (by simpa using h4),List.append_nil]
   have e2 : L.dropWhile (fun a=>decide (a.1 < p)) = a :: T2:=by
    rw [h2,List.dropWhile_append_of_pos (fun a ha=>by simpa using h3 a ha),List.dropWhile_cons_of_neg (by simpa using h4)]
   rw [e1,e2]; simp [hwt,Function.comp_def]
theorem putS_red {n : Nat} {S : List (List Nat)} {V : List Nat} (hS : Mn F n S) (hV : Vn F n V) : putS F n (redM F n S) V = redM F n (S ++ [V]):=by
 obtain ⟨-,hL,-⟩:=redM_ok hF hS
 have h:=putS_eq hF hL hV
 unfold redM
 rw [List.map_append,List.map_cons,List.map_nil]
 unfold redL
 rw [List.foldl_append]
 exact h
end
end Go.Proofs.Yteeofijcndgbfaa
/- put and Reduce of the reference. -/
namespace Go.Proofs.Yteeofijcndgbfaa
open Go.RowKit Go.Fl
set_option maxRecDepth 100000
set_option linter.unusedVariables false
set_option linter.unusedSimpArgs false
set_option linter.unusedSectionVars false
def DPn (L : List Nat) (n base : Nat) (W : World) (e : Ending) (w' : World) : Prop:=∃ a c,e = .returned (.slice a n c) ∧ w'.ownsRow base 3 1 (.slice a n c) n (L.map N64) ∧ Below W.heap.size W w'
theorem DPost.n {L : List Nat} {n base : Nat} {W w' : World} {e : Ending} (h : DPost L W e w') (hl : L.length = n) (hb : base ≤ W.heap.size) : DPn L n base W e w':=by
 obtain ⟨a,c,h1,h2,h3⟩:=h
 rw [hl] at h1 h2
 exact ⟨a,c,h1,own_weak h2 hb,h3⟩
theorem puO_len (F : Gf) (n : Nat) (R : List (List Nat)) (p : Nat) (w : List Nat) : ∀ k,(puO F n R p w k).length = k + (if puD n R p k = true then 1 else 0)
 | 0=>rfl
 | k + 1=>by
  have h:=puO_len F n R p w k
  rw [show puD n R p (k + 1) = (puD n R p k || decide (p < pvt (Go.Fl.fn (R.getD k [])) n)) from rfl,show puO F n R p w (k + 1) = (if (!puD n R p k && decide (p < pvt (Go.Fl.fn (R.getD k [])) n)) = true then puO F n R p w k ++ [w] else puO F n R p w k) ++ [moV F (R.getD k []) (F.neg ((R.getD k []).getD p 0)) w] from rfl,List.length_append,List.length_singleton]
  generalize puO F n R p w k = O at h
  generalize decide (p < pvt (Go.Fl.fn (R.getD k [])) n) = d
  generalize puD n R p k = D at h
  cases D <;> cases d <;> simp at h <;> simp <;> omega
theorem bb_no {D d : Bool} (h : false = (!D && d)) : D = (D || d):=by cases D <;> cases d <;> simp_all
theorem bb_yes {D d : Bool} (h : true = (!D && d)) : true = (D || d):=by cases D <;> cases d <;> simp_all
set_option maxHeartbeats 12800000 in
theorem put_c {F : Gf} {b cap n m ca cv : Nat} {A : List (List Nat)} {V : List Nat} {aa av : Option Addr} {W : World} (hA : FldAt F b cap W) (hn : n ≤ 1000) (hm : m ≤ 1000) (la : A.length = m) (ma : Mn F n A) (mv : Vn F n V) (hp : ∀ i,i < m → pvt (Go.Fl.fn (A.getD i [])) n < n) (na : MM A W (.slice aa m ca)) (nv : NN V W (.slice av n cv)) :
  Calls Try.prog 53 #[FV F b cap,.slice aa m ca,.slice av n cv] W (MPost (putS F n A V) W):=by
 obtain ⟨j0,ji,jz0,jz1,jz2⟩:=info_parts info27
 have HFF : Hid (Ok F):=Lib.hid (ok_mem hA.mem)
 obtain ⟨w1,hw1⟩ : ∃ w1,w1 = W.alloc (.cells #[.int .i64 F.p,.int .i64 F.e,FM F b cap] 29):=⟨_,rfl⟩
 have HAL : Hid (Below W.heap.size W w1):=Lib.hid (by rw [hw1]; exact (Below.refl _ _).alloc (Nat.le_refl _) _)
 have HS1 : Hid (W.heap.size < w1.heap.size):=Lib.hid (by rw [hw1]; simp)
 have HFB : Hid (FBx W.heap.size F b cap w1):=Lib.hid (by rw [hw1]; exact FBx.new W F b cap)
 have HF1:=Lib.hid (hA.below HAL.out)
 have HMA:=Lib.hid ma
 have HLA:=Lib.hid la
 have HMV:=Lib.hid mv
 have HPV:=Lib.hid hp
 have HNA:=Lib.hid (na.below HAL.out)
 have HNV:=Lib.hid (nv.below HAL.out)
 have HW1:=Lib.hid hw1
 obtain ⟨C,hC⟩ : ∃ C,Hid (clS F n A V m = C):=⟨_,Lib.hid rfl⟩
 have HVC : Hid (Vn F n C):=Lib.hid (by rw [← hC.out]; exact clS_vn HFF.out HMV.out m)
 have HCL : Hid (Calls Try.prog 62 #[FV F b cap,.slice aa m ca,.slice av n cv] w1 (VPn C n w1)):=Lib.hid (by have t:=cleared_c HF1.out hn hm la ma mv hp HNA.out HNV.out; rw [hC.out] at t; exact t)
 obtain ⟨pp,hpp⟩ : ∃ L,Hid (pvt (Go.Fl.fn C) n = L):=⟨_,Lib.hid rfl⟩
 have hpn : pp ≤ n:=by rw [← hpp.out]; exact (pvt_spec _ _).1
 clear hA ma mv la na nv hw1 hp
 obtain ⟨x0,x1,x2⟩:=HFB.out
 go_enter Try.func53,Try.ntmps53
 go_wp2_with fail
 rw [← HW1.out]
 clear HW1
 with_reducible refine HCL.out.mono ?_
 rintro e w2 ⟨a7,c7,rfl,hn7,hb2⟩
 have HB2:=Lib.hid hb2
 have HN7:=Lib.hid hn7
 have HPC : Hid (Calls Try.prog 45 #[.slice a7 n c7] w2 fun e w'=>e = .returned (.int .i64 (pp : Nat)) ∧ Below w2.heap.size w2 w'):=Lib.hid (by have t:=pivot_c (L:=C) (a:=a7) (c:=c7) (W:=w2) (by rw [HVC.out.len]; omega) (by rw [HVC.out.len]; exact hn7); rw [HVC.out.len,hpp.out] at t; exact t)
 clear hb2 hn7 HCL x0 x1 x2
 go_wp2_with fail
 with_reducible refine HPC.out.mono ?_
 rintro e w3 ⟨rfl,hb3⟩
 have HB3 : Hid (Below w1.heap.size w1 w3):=Lib.hid (HB2.out.trans (hb3.mono HB2.out.size))
 have HN73:=Lib.hid (HN7.out.below hb3)
 clear hb3 HPC HN7
 by_cases hpe : pp = n
 ·have hpe1 : (pp : Int) = (n : Int):=by omega
  have hpe2 : ((pp : Int) == (n : Int)) = true:=by simp; omega
  have HBF : Hid (Below W.heap.size W w3):=Lib.hid (HAL.out.trans (HB3.out.mono HAL.out.size))
  have HMF : Hid (MM A w3 (.slice aa m ca)):=Lib.hid (HNA.out.below HB3.out)
  have HEQ : Hid (putS F n A V = A):=Lib.hid (by unfold putS; rw [HLA.out,hC.out,hpp.out,if_pos hpe])
  go_wp2
  go_ret
  exact ⟨aa,ca,by rw [HEQ.out,HLA.out]; rfl,by rw [HEQ.out,HLA.out]; exact HMF.out,HBF.out⟩
 ·have hpe1 : ¬ (pp : Int) = (n : Int):=by omega
  have hpe2 : ((pp : Int) == (n : Int)) = false:=by simp; omega
  have hpl : pp < n:=by omega
  have hpli : (pp : Int) < (n : Int):=by omega
  obtain ⟨xx,hxx⟩ : ∃ L,Hid (C.getD pp 0 = L):=⟨_,Lib.hid rfl⟩
  have HXQ : Hid (xx < F.q):=Lib.hid (by rw [← hxx.out]; exact HVC.out.el.get HFF.out pp)
  have HX0 : Hid (xx ≠ 0):=Lib.hid (by rw [← hxx.out,← hpp.out]; exact (pvt_spec _ _).2.2 (by rw [hpp.out]; exact hpl))
  obtain ⟨ix,hix⟩ : ∃ L,Hid (F.inv xx = L):=⟨_,Lib.hid rfl⟩
  have HIQ : Hid (ix < F.q):=Lib.hid (by rw [← hix.out]; exact HFF.out.inv_lt xx)
  obtain ⟨wl,hwl⟩ : ∃ L,Hid (timV F ix C = L):=⟨_,Lib.hid rfl⟩
  have HVW : Hid (Vn F n wl):=Lib.hid (by rw [← hwl.out]; exact timV_vn HFF.out HVC.out)
  have HEQ : Hid (putS F n A V = puR F n A pp wl):=Lib.hid (by unfold putS; rw [HLA.out,hC.out,hpp.out,if_neg hpe,hxx.out,hix.out,hwl.out])
  obtain ⟨b2,o2,rfl,hc2⟩:=HN73.out.atm HVC.out.len hpl
  rw [hxx.out] at hc2
  have hfb:=HFB.out.below HB3.out HS1.out
  have hS0 : SZ F b cap W.heap.size b2 (o2 + pp) b2 (o2 + pp) (.int .i64 (xx : Nat)) (.int .i64 (xx : Nat)) w3.heap.size w3 w3.drew:=
   ⟨hfb,hc2,hc2,Lib.hid ⟨(HF1.out.below HB3.out).bx (Bx.refl (fun _=>False) w3).drew id,(Below.refl _ _).drew,Nat.le_refl _,Nat.lt_of_lt_of_le HS1.out HB3.out.size,World.block_lt_of_cell? w3 _ hc2,World.block_lt_of_cell? w3 _ hc2,Nat.lt_of_lt_of_le HF1.out.lt HB3.out.size⟩⟩
  clear hfb hc2
  go_wp2_with fail
  refine wp_region_held_drew (S:=fun w'=>SZ F b cap W.heap.size b2 (o2 + pp) b2 (o2 + pp) (.int .i64 (xx : Nat)) (.int .i64 (xx : Nat)) w3.heap.size w3 w') (by kernel_rfl) (by with_reducible exact hS0) (fun hHeld=>?_)
  refine Rg.tk 0 ⟨some 26,.load 29 (.tmp 3),29,"ref.go:147",#[],none⟩ ?_
  try simp only [Rg.gp]
  refine Rg.tk 1 ⟨some 27,.move (.tmp 7),27,"ref.go:147",#[],none⟩ ?_
  try simp only [Rg.gp]
  refine Rg.tk 2 ⟨some 28,.move (.tmp 8),3,"ref.go:147",#[],none⟩ ?_
  try simp only [Rg.gp]
  refine Rg.tk 3 ⟨some 29,.indexAddr 27 (.tmp 27) (.tmp 28),0,"ref.go:147",#[⟨1,.data⟩,⟨2,.data⟩],none⟩ ?_
  try simp only [Rg.gp]
  refine Rg.tk 4 ⟨some 30,.load 3 (.tmp 29),3,"ref.go:147",#[⟨3,.data⟩],none⟩ ?_
  try simp only [Rg.gp]
  refine Rg.rd1 5 ⟨some 31,.call ⟨.value (.func 72),#[.tmp 26,.tmp 30],#[29,3]⟩,97,"ref.go:147",#[⟨0,.data⟩,⟨4,.data⟩],none⟩ fun K hK=>?_
  go_simp
  go_at_call 72
  with_reducible refine (show Calls Try.prog 72 #[FV F b cap,.int .i64 (xx : Nat)] _ (fun e w'=>e = .returned (.tuple #[.int .i64 (ix : Nat),.int .i64 0]) ∧ Below _ _ w') from by have t:=rinv_c hHeld.2.2.2.out.1 HXQ.out HX0.out; rw [hix.out] at t; exact t).mono ?_
  rintro z v4 ⟨rfl,hb4⟩
  refine hK.out _ _ ?_ (fun hHeld=>?_)
  ·(try dsimp only)
   exact SZ.keep hHeld hb4
  clear hK K
  try simp only [Rg.gp]
  refine Rg.tk 6 ⟨some 25,.move (.tmp 31),97,"ref.go:147",#[⟨5,.data⟩],none⟩ ?_
  try simp only [Rg.gp]
  refine Rg.tk 7 ⟨some 32,.extract (.tmp 25) 0,3,"ref.go:147",#[⟨6,.data⟩],none⟩ ?_
  try simp only [Rg.gp]
  refine Rg.tk 8 ⟨some 33,.extract (.tmp 25) 1,44,"ref.go:147",#[⟨6,.data⟩,⟨9,.gcOnly Go.Departure.lateStores⟩],none⟩ ?_
  try simp only [Rg.gp]
  refine Rg.tk 9 ⟨some 9,.assign (.tmp 32),3,"ref.go:147",#[⟨7,.data⟩,⟨5,.chain⟩,⟨0,.phase⟩,⟨1,.phase⟩,⟨2,.phase⟩,⟨3,.phase⟩,⟨4,.phase⟩,⟨5,.phase⟩,⟨6,.phase⟩,⟨7,.phase⟩,⟨8,.textOnly Go.Departure.lateStores⟩],none⟩ ?_
  try simp only [Rg.gp]
  refine Rg.tk 10 ⟨some 10,.assign (.tmp 33),44,"ref.go:147",#[⟨8,.data⟩,⟨9,.chain⟩,⟨0,.phase⟩,⟨1,.phase⟩,⟨2,.phase⟩,⟨3,.phase⟩,⟨4,.phase⟩,⟨5,.phase⟩,⟨6,.phase⟩,⟨7,.phase⟩,⟨8,.phase⟩,⟨9,.phase⟩],none⟩ ?_
  try simp only [Rg.gp]
  refine wpAnyH_done (by kernel_rfl) ?_ _
  have HB4 : Hid (Below w1.heap.size w1 v4):=Lib.hid (HB3.out.trans (hHeld.2.2.2.out.2.1.mono HB3.out.size))
  have HN74:=Lib.hid (HN73.out.below hHeld.2.2.2.out.2.1)
  clear hHeld hS0 hb4
  obtain ⟨w4,hw4⟩ : ∃ w,w = v4:=⟨_,rfl⟩
  subst hw4
  have HTM : Hid (Calls Try.prog 43 #[FV F b cap,.int .i64 (ix : Nat),.slice (some ⟨b2,o2,none⟩) n c7] w4 (DPn wl n 0 w4)):=Lib.hid (by have t:=times_o (HF1.out.below HB4.out) hn HVC.out HIQ.out HN74.out; rw [hwl.out] at t; exact t.mono fun _ _ h=>h.n HVW.out.len (Nat.zero_le _))
  obtain ⟨x0,x1,x2⟩:=HFB.out.below HB4.out HS1.out
  go_wp2_with fail
  with_reducible refine HTM.out.mono ?_
  rintro e w5 ⟨aw,cw,rfl,how,hb5⟩
  have HB5 : Hid (Below w1.heap.size w1 w5):=Lib.hid (HB4.out.trans (hb5.mono HB4.out.size))
  have HOW5:=Lib.hid how
  clear how hb5 HTM HN74 x0 x1 x2
  obtain ⟨bs,hbs⟩ : ∃ g,g = w5.heap.size:=⟨_,rfl⟩
  have HBS:=Lib.hid hbs
  obtain ⟨w6,hw6⟩ : ∃ w,w = w5.alloc (.cells #[] 27):=⟨_,rfl⟩
  have HO6 : Hid (OL [] [] bs w6 (.slice (some ⟨bs,0,none⟩) 0 0)):=Lib.hid (by rw [hw6,hbs]; exact OL.nil _ w5 (Nat.le_refl _))
  have HB6 : Hid (Below bs w5 w6):=Lib.hid (by rw [hw6,hbs]; exact (Below.refl _ _).alloc (Nat.le_refl _) _)
  have HW6:=Lib.hid hw6
  clear hw6
  go_wp2
  rw [← HW6.out,← hbs]
  clear HW6 hbs
  have HR5 : Hid (Below w1.heap.size w1 w5):=HB5
  go_loopw [11,12,13] (fun v d i wr=>∃ (k : Nat) (us : List Value),k ≤ m ∧ i = .int .i64 k ∧ d = .bool (puD n A pp k) ∧ Hid (OL (puO F n A pp wl k) us bs wr v) ∧ Hid (Below bs w5 wr)) (fun _ _ i _=>m - (intOf i).toNat)
  case atStart=>exact ⟨0,[],Nat.zero_le _,rfl,rfl,HO6,HB6⟩
  case round =>
   obtain ⟨k,us,hk,rfl,rfl,HO,KB⟩:=hrel
   obtain ⟨aP,cP,hvs⟩:=HO.out.shape
   obtain ⟨D,hD⟩ : ∃ D,Hid (puD n A pp k = D):=⟨_,Lib.hid rfl⟩
   have hpl2:=puO_len F n A pp wl k
   rw [hD.out] at hpl2 ⊢
   obtain ⟨lk,hlk⟩ : ∃ l,Hid ((puO F n A pp wl k).length = l):=⟨_,Lib.hid rfl⟩
   rw [hlk.out] at hvs hpl2
   subst hvs
   have hlk2 : lk ≤ k + 1:=by rw [hpl2]; split <;> omega
   have HLK:=Lib.hid hpl2
   clear hpl2
   obtain ⟨wo,hwo⟩ : ∃ w,w = wr:=⟨_,rfl⟩
   subst hwo
   have HB1 : Hid (Below w1.heap.size w1 wo):=Lib.hid (HR5.out.trans (KB.out.mono (by rw [HBS.out]; exact HR5.out.size)))
   have HKS : Hid (bs ≤ wo.heap.size):=Lib.hid (by rw [HBS.out]; exact KB.out.size)
   by_cases hlt : k < m
   ·have hk5 : k < 1000:=by omega
    have hkA : k < A.length:=by rw [HLA.out]; exact hlt
    obtain ⟨Y,hY⟩ : ∃ L,Hid (A.getD k [] = L):=⟨_,Lib.hid rfl⟩
    have HVY : Hid (Vn F n Y):=Lib.hid (by rw [← hY.out]; exact mrow HMA.out hkA)
    obtain ⟨pv,hpv⟩ : ∃ L,Hid (pvt (Go.Fl.fn Y) n = L):=⟨_,Lib.hid rfl⟩
    have hpvn : pv < n:=by rw [← hpv.out,← hY.out]; exact HPV.out k hlt
    have HDS : Hid (puD n A pp (k + 1) = (D || decide (pp < pv))):=Lib.hid (by rw [← hD.out,← hpv.out,← hY.out]; rfl)
    obtain ⟨b1,o1,rfl,a1,c1,hc1,hny⟩:=MM.at (R:=A) (by rw [HLA.out]; exact HNA.out) hkA
    rw [hY.out,HVY.out.len] at hc1 hny
    have HNY:=Lib.hid hny
    have HL1:=Lib.hid (World.block_lt_of_cell? w1 _ hc1)
    have hcc : wo.cell? ⟨b1,o1 + k,none⟩ = some (.slice a1 n c1):=(HB1.out.cell (p:=⟨b1,o1 + k,none⟩) HL1.out).trans hc1
    have HPW : Hid (Calls Try.prog 45 #[.slice a1 n c1] wo fun e w'=>e = .returned (.int .i64 (pv : Nat)) ∧ Below wo.heap.size wo w'):=Lib.hid (by have t:=pivot_c (L:=Y) (a:=a1) (c:=c1) (W:=wo) (by rw [HVY.out.len]; omega) (by rw [HVY.out.len]; exact hny.below HB1.out); rw [HVY.out.len,hpv.out] at t; exact t)
    have HC1:=Lib.hid hc1
    clear hny hc1
    have hklt : (k : Int) < (m : Int):=by omega
    go_upto_region 12 with fail
    go_cut [55] (fun v wx=>∃ bb : Bool,v = .bool bb ∧ Hid (bb = (!D && decide (pp < pv))) ∧ Hid (Below wo.heap.size wo wx))
    case first =>
     cases D
     ·go_wp2_with fail
      with_reducible refine HPW.out.mono ?_
      rintro e w7 ⟨rfl,hb7⟩
      have HB7:=Lib.hid hb7
      clear hb7
      by_cases hpq : pp < pv
      ·have hpq1 : (pp : Int) < (pv : Int):=by omega
       go_wp2_with fail
       go_meet
       case rel=>exact ⟨_,rfl,Lib.hid (by simp [hpq,hpq1]),HB7⟩
      ·have hpq1 : ¬ (pp : Int) < (pv : Int):=by omega
       go_wp2_with fail
       go_meet
       case rel=>exact ⟨_,rfl,Lib.hid (by simp [hpq,hpq1]),HB7⟩
     ·go_wp2_with fail
      go_meet
      case rel=>exact ⟨_,rfl,Lib.hid (by simp),Below.refl _ _⟩
    case rest =>
     obtain ⟨bb,rfl,HBB,HB7⟩:=hcut
     obtain ⟨w7,hw7⟩ : ∃ w,w = wc:=⟨_,rfl⟩
     subst hw7
     have HO7:=Lib.hid (HO.out.below HB7.out)
     have HB17 : Hid (Below bs w5 w7):=Lib.hid (KB.out.trans (HB7.out.mono HKS.out))
     have HKS7 : Hid (bs ≤ w7.heap.size):=Lib.hid (Nat.le_trans HKS.out HB7.out.size)
     have HOWr : Hid (w7.ownsRow bs 27 1 (.slice aP lk cP) lk us):=Lib.hid (by have:=HO7.out.own; rwa [hlk.out] at this)
     have HROW : Hid (w7.ownsRow 0 3 1 (.slice aw n cw) n (wl.map N64)):=Lib.hid (own_belowK (own_belowK HOW5.out (KB.out.mono (Nat.le_of_eq HBS.out.symm))) HB7.out)
     clear hcc HPW
     go_upto_if 55 with fail
     go_cut [11,12] (fun v d wx=>d = .bool (puD n A pp (k + 1)) ∧ ∃ us2,Hid (OL (if bb = true then puO F n A pp wl k ++ [wl] else puO F n A pp wl k) us2 bs wx v) ∧ Hid (Below bs w5 wx))
     case first =>
      cases bb
      ·go_wp2_with fail
       go_meet
       case rel=>exact ⟨by rw [HDS.out]; exact congrArg _ (bb_no HBB.out),us,HO7,HB17⟩
      ·go_wp2_with (at_builtin; refine wpList_append_own_at _ rfl _ _ 30 rfl bs 27 j0 (.slice none 0 0) 1 24 Try.underlying30 ji jz0 jz1 jz2 rfl (by decide) _ _ _ rfl (HOWr.out.alloc _) ⟨w7.heap.size,0,none⟩ 1 1 [.slice aw n cw] rfl rfl (cell_one_new _ _ _) (fun u hu=>by simp at hu; subst hu; rfl) ?d3 ?d4 ?d5 ?_)
       case d3=>unfold maxLen; omega
       case d4=>omega
       case d5=>have:=HKS7.out; simp; omega
       intro v' w8 hown' hgrow hnil hat
       have hal2 : Below w7.heap.size w7 (w7.alloc (.cells #[.slice aw n cw] 27)):=(Below.refl _ _).alloc (Nat.le_refl _) _
       have HO8 : Hid (OL (puO F n A pp wl k ++ [wl]) (us ++ [.slice aw n cw]) bs w8 v'):=Lib.hid (OL.push (HO7.out.below hal2) (by rw [HVW.out.len]; exact own_belowK HROW.out hal2) (by rw [hlk.out]) hown' hgrow)
       have HB8 : Hid (Below bs w5 w8):=Lib.hid ((HB17.out.alloc HKS7.out _).trans (Bx.below (Bx.grown hgrow fun j hj=>(HOWr.out.lt j hj).1) (by have:=HKS7.out; simp; omega) fun j hj=>hj))
       clear hown' hgrow hnil hat hal2
       go_wp2_with fail
       go_meet
       case rel=>exact ⟨by rw [HDS.out]; exact congrArg _ (bb_yes HBB.out),_,HO8,HB8⟩
     case rest =>
      obtain ⟨rfl,us2,HOC,HBC⟩:=hcut
      obtain ⟨w8,hw8⟩ : ∃ w,w = wc:=⟨_,rfl⟩
      subst hw8
      obtain ⟨D2,hD2⟩ : ∃ D2,(if bb = true then puO F n A pp wl k ++ [wl] else puO F n A pp wl k) = D2:=⟨_,rfl⟩
      rw [hD2] at HOC
      have HDD:=Lib.hid hD2
      have hl2 : D2.length ≤ lk + 1:=by rw [← hD2]; split <;> simp [hlk.out]
      clear hD2
      obtain ⟨aQ,cQ,hvs⟩:=HOC.out.shape
      obtain ⟨l2,hl2e⟩ : ∃ l,Hid (D2.length = l):=⟨_,Lib.hid rfl⟩
      rw [hl2e.out] at hvs hl2
      subst hvs
      clear HO7 HOWr HROW HKS7 HB17 HB7
      have HKS8 : Hid (bs ≤ w8.heap.size):=Lib.hid (by rw [HBS.out]; exact HBC.out.size)
      have HB18 : Hid (Below w1.heap.size w1 w8):=Lib.hid (HR5.out.trans (HBC.out.mono (by rw [HBS.out]; exact HR5.out.size)))
      obtain ⟨yy,hyy⟩ : ∃ L,Hid (Y.getD pp 0 = L):=⟨_,Lib.hid rfl⟩
      have HYQ : Hid (yy < F.q):=Lib.hid (by rw [← hyy.out]; exact HVY.out.el.get HFF.out pp)
      obtain ⟨ny,hny2⟩ : ∃ L,Hid (F.neg yy = L):=⟨_,Lib.hid rfl⟩
      have HNQ : Hid (ny < F.q):=Lib.hid (by rw [← hny2.out]; exact HFF.out.neg_lt _)
      obtain ⟨Z,hZ⟩ : ∃ L,Hid (moV F Y ny wl = L):=⟨_,Lib.hid rfl⟩
      have HVZ : Hid (Z.length = n):=Lib.hid (by rw [← hZ.out]; exact (moV_vn HFF.out HVY.out).len)
      have HSUC : Hid (puO F n A pp wl (k + 1) = D2 ++ [Z]):=Lib.hid (by
       rw [← hZ.out,← hny2.out,← hyy.out,← hY.out,← HDD.out,HBB.out,← hD.out,← hpv.out,← hY.out]; rfl)
      obtain ⟨b3,o3,rfl,hc3⟩:=HNY.out.atm HVY.out.len hpl
      rw [hyy.out] at hc3
      have HL3:=Lib.hid (World.block_lt_of_cell? w1 _ hc3)
      have hbl : w1.heap.size ≤ bs:=by rw [HBS.out]; exact HR5.out.size
      have HNWl : Hid (NN wl w5 (.slice aw n cw)):=Lib.hid (by have h:=HOW5.out; have e:=HVW.out.len; subst e; exact NN.of_owns h)
      have hS0 : SZ F b cap W.heap.size b1 (o1 + k) b3 (o3 + pp) (.slice (some ⟨b3,o3,none⟩) n c1) (.int .i64 (yy : Nat)) bs w8 w8.drew:=
       ⟨fbx_below HFB.out HB18.out.drew HS1.out,(HB18.out.drew.cell (p:=⟨b1,o1 + k,none⟩) HL1.out).trans HC1.out,(HB18.out.drew.cell (p:=⟨b3,o3 + pp,none⟩) HL3.out).trans hc3,Lib.hid ⟨(HF1.out.below HB18.out).bx (Bx.refl (fun _=>False) w8).drew id,(Below.refl _ _).drew,HKS8.out,Nat.lt_of_lt_of_le HS1.out hbl,Nat.lt_of_lt_of_le HL1.out hbl,Nat.lt_of_lt_of_le HL3.out hbl,Nat.lt_of_lt_of_le HF1.out.lt hbl⟩⟩
      have KBW : Hid (∀ w,Below bs w8 w → Below w1.heap.size w1 w):=Lib.hid (fun w h=>HB18.out.trans (h.mono hbl))
      have KBV : Hid (∀ w,Below bs w8 w → Below w5.heap.size w5 w):=Lib.hid (fun w h=>by rw [← HBS.out]; exact HBC.out.trans h)
      clear hc3 hbl
      go_wp2_with fail
      refine wp_region_held_drew (S:=fun w'=>SZ F b cap W.heap.size b1 (o1 + k) b3 (o3 + pp) (.slice (some ⟨b3,o3,none⟩) n c1) (.int .i64 (yy : Nat)) bs w8 w') (by kernel_rfl) (by with_reducible exact hS0) (fun hHeld=>?_)
      refine Rg.tk 0 ⟨some 60,.move (.tmp 11),30,"ref.go:156",#[],none⟩ ?_
      try simp only [Rg.gp]
      refine Rg.tk 1 ⟨some 61,.load 29 (.tmp 3),29,"ref.go:156",#[],none⟩ ?_
      try simp only [Rg.gp]
      refine Rg.tk 2 ⟨some 62,.move (.tmp 1),30,"ref.go:156",#[],none⟩ ?_
      try simp only [Rg.gp]
      refine Rg.tk 3 ⟨some 63,.move (.tmp 13),3,"ref.go:156",#[],none⟩ ?_
      try simp only [Rg.gp]
      refine Rg.tk 4 ⟨some 64,.indexAddr 30 (.tmp 62) (.tmp 63),0,"ref.go:156",#[⟨2,.data⟩,⟨3,.data⟩],none⟩ ?_
      try simp only [Rg.gp]
      refine Rg.tk 5 ⟨some 65,.load 27 (.tmp 64),27,"ref.go:156",#[⟨4,.data⟩],none⟩ ?_
      try simp only [Rg.gp]
      refine Rg.tk 6 ⟨some 66,.load 29 (.tmp 3),29,"ref.go:156",#[],none⟩ ?_
      try simp only [Rg.gp]
      refine Rg.tk 7 ⟨some 67,.move (.tmp 1),30,"ref.go:156",#[],none⟩ ?_
      try simp only [Rg.gp]
      refine Rg.tk 8 ⟨some 68,.move (.tmp 13),3,"ref.go:156",#[],none⟩ ?_
      try simp only [Rg.gp]
      refine Rg.tk 9 ⟨some 69,.indexAddr 30 (.tmp 67) (.tmp 68),0,"ref.go:156",#[⟨7,.data⟩,⟨8,.data⟩],none⟩ ?_
      try simp only [Rg.gp]
      refine Rg.tk 10 ⟨some 70,.load 27 (.tmp 69),27,"ref.go:156",#[⟨9,.data⟩],none⟩ ?_
      try simp only [Rg.gp]
      refine Rg.tk 11 ⟨some 71,.move (.tmp 8),3,"ref.go:156",#[],none⟩ ?_
      try simp only [Rg.gp]
      refine Rg.tk 12 ⟨some 72,.indexAddr 27 (.tmp 70) (.tmp 71),0,"ref.go:156",#[⟨10,.data⟩,⟨11,.data⟩],none⟩ ?_
      try simp only [Rg.gp]
      refine Rg.tk 13 ⟨some 73,.load 3 (.tmp 72),3,"ref.go:156",#[⟨12,.data⟩],none⟩ ?_
      try simp only [Rg.gp]
      refine Rg.tk 15 ⟨some 75,.move (.tmp 7),27,"ref.go:156",#[],none⟩ ?_
      try simp only [Rg.gp]
      refine Rg.rd1 14 ⟨some 74,.call ⟨.value (.func 73),#[.tmp 66,.tmp 73],#[29,3]⟩,3,"ref.go:156",#[⟨6,.data⟩,⟨13,.data⟩],none⟩ fun K hK=>?_
      go_simp
      go_at_call 73
      with_reducible refine (show Calls Try.prog 73 #[FV F b cap,.int .i64 (yy : Nat)] _ (fun e w'=>e = .returned (.int .i64 (ny : Nat)) ∧ Below _ _ w') from by have t:=rneg_c HYQ.out hHeld.2.2.2.out.1; rw [hny2.out] at t; exact t).mono ?_
      rintro z v4 ⟨rfl,hb4⟩
      have HO84 : Hid (OL D2 us2 bs v4 (.slice aQ l2 cQ)):=Lib.hid (HOC.out.below (show Below w8.heap.size w8 v4 from (Below.refl _ _).drew.trans hb4))
      refine hK.out _ _ ?_ (fun hHeld=>?_)
      ·(try dsimp only)
       exact SZ.keep hHeld hb4
      clear hK K
      try simp only [Rg.gp]
      refine Rg.rd1 16 ⟨some 76,.call ⟨.value (.func 41),#[.tmp 61,.tmp 65,.tmp 74,.tmp 75],#[29,27,3,27]⟩,27,"ref.go:156",#[⟨1,.data⟩,⟨5,.data⟩,⟨14,.data⟩,⟨15,.data⟩,⟨14,.chain⟩],none⟩ fun K hK=>?_
      go_simp
      go_at_call 41
      with_reducible refine (show Calls Try.prog 41 #[FV F b cap,.slice (some ⟨b3,o3,none⟩) n c1,.int .i64 (ny : Nat),.slice aw n cw] _ (DPn Z n 0 _) from by have t:=more_o hHeld.2.2.2.out.1 hn HVY.out HVW.out HNQ.out (HNY.out.below (KBW.out _ hHeld.2.2.2.out.2.1)) (HNWl.out.below (KBV.out _ hHeld.2.2.2.out.2.1)); rw [hZ.out] at t; exact t.mono fun _ _ h=>h.n HVZ.out (Nat.zero_le _)).mono ?_
      rintro z v5 ⟨a5,c5,rfl,ho5,hb5⟩
      have HRZ:=Lib.hid ho5
      have HOV : Hid (OL D2 us2 bs v5 (.slice aQ l2 cQ)):=Lib.hid (HO84.out.below hb5)
      have HOW9 : Hid (v5.ownsRow bs 27 1 (.slice aQ l2 cQ) l2 us2):=Lib.hid (by have:=HOV.out.own; rwa [hl2e.out] at this)
      have HKS9 : Hid (bs ≤ v5.heap.size):=Lib.hid (Nat.le_trans hHeld.2.2.2.out.2.2.1 hb5.size)
      refine hK.out _ _ ?_ (fun hHeld=>?_)
      ·(try dsimp only)
       exact SZ.keep hHeld hb5
      clear hK K
      try simp only [Rg.gp]
      refine Rg.rd1 17 ⟨some 77,.buildSlice 30 1 #[(0,.tmp 76)],30,"ref.go:156",#[⟨16,.data⟩],none⟩ fun K hK=>?_
      go_simp
      refine hK.out _ _ ?_ (fun hHeld=>?_)
      ·(try dsimp only)
       exact SZ.keep hHeld ((Below.refl _ _).alloc (Nat.le_refl _) _)
      clear hK K
      try simp only [Rg.gp]
      refine Rg.rd1 18 ⟨some 78,.call ⟨.builtin Builtin.append,#[.tmp 60,.tmp 77],#[30,30]⟩,30,"ref.go:156",#[⟨0,.data⟩,⟨17,.data⟩,⟨16,.chain⟩],none⟩ fun K hK=>?_
      refine step_append_own rfl _ _ 30 rfl bs 27 j0 (.slice none 0 0) 1 24 Try.underlying30 ji jz0 jz1 jz2 rfl (by decide) _ _ _ rfl (HOW9.out.alloc _) ⟨v5.heap.size,0,none⟩ 1 1 [.slice a5 n c5] rfl rfl (cell_one_new _ _ _) (fun u hu=>by simp at hu; subst hu; rfl) ?c3 ?c4 ?c5 ?_
      case c3=>unfold maxLen; omega
      case c4=>omega
      case c5=>have:=HKS9.out; simp; omega
      intro v' v9 hown' hgrow
      refine hK.out _ _ ?_ (fun hHeld=>?_)
      ·(try dsimp only)
       exact SZ.go hHeld (Bx.below (Bx.grown hgrow fun j hj=>(HOW9.out.lt j hj).1) (by have:=HKS9.out; simp; omega) fun j hj=>hj)
      clear hK K
      try simp only [Rg.gp]
      refine Rg.tk 19 ⟨some 11,.assign (.tmp 78),30,"ref.go:156",#[⟨18,.data⟩,⟨18,.chain⟩,⟨0,.phase⟩,⟨1,.phase⟩,⟨2,.phase⟩,⟨3,.phase⟩,⟨4,.phase⟩,⟨5,.phase⟩,⟨6,.phase⟩,⟨7,.phase⟩,⟨8,.phase⟩,⟨9,.phase⟩,⟨10,.phase⟩,⟨11,.phase⟩,⟨12,.phase⟩,⟨13,.phase⟩,⟨14,.phase⟩,⟨15,.phase⟩,⟨16,.phase⟩,⟨17,.phase⟩,⟨18,.phase⟩],none⟩ ?_
      try simp only [Rg.gp]
      refine wpAnyH_done (by kernel_rfl) ?_ _
      have HO5 : Hid (OL (puO F n A pp wl (k + 1)) (us2 ++ [.slice a5 n c5]) bs v9 v'):=Lib.hid (by
       rw [HSUC.out]
       have hal2 : Below v5.heap.size v5 (v5.alloc (.cells #[.slice a5 n c5] 27)):=(Below.refl _ _).alloc (Nat.le_refl _) _
       exact OL.push (HOV.out.below hal2) (by rw [HVZ.out]; exact own_belowK HRZ.out hal2) (by rw [hl2e.out]) hown' hgrow)
      have HBN : Hid (Below bs w5 v9):=Lib.hid (HBC.out.trans hHeld.2.2.2.out.2.1)
      clear hHeld hS0 hown' hgrow
      go_wp2
      go_roundw
      case rel=>exact ⟨k + 1,_,by omega,by go_num,rfl,HO5,HBN⟩
      case measure=>simp [intOf]; omega
   ·obtain rfl : k = m:=by omega
    have hlt1 : ¬ (k : Int) < (k : Int):=by omega
    have HOWr : Hid (wo.ownsRow bs 27 1 (.slice aP lk cP) lk us):=Lib.hid (by have:=HO.out.own; rwa [hlk.out] at this)
    have HROW : Hid (wo.ownsRow 0 3 1 (.slice aw n cw) n (wl.map N64)):=Lib.hid (own_belowK HOW5.out (KB.out.mono (Nat.le_of_eq HBS.out.symm)))
    have HBF : Hid (Below W.heap.size W wo):=Lib.hid (HAL.out.trans (HB1.out.mono HAL.out.size))
    cases D
    ·have HRE : Hid (putS F n A V = puO F n A pp wl k ++ [wl]):=Lib.hid (by rw [HEQ.out]; unfold puR; rw [HLA.out,hD.out]; rfl)
     go_wp2_with (at_builtin; refine wpList_append_own_at _ rfl _ _ 30 rfl bs 27 j0 (.slice none 0 0) 1 24 Try.underlying30 ji jz0 jz1 jz2 rfl (by decide) _ _ _ rfl (HOWr.out.alloc _) ⟨wo.heap.size,0,none⟩ 1 1 [.slice aw n cw] rfl rfl (cell_one_new _ _ _) (fun u hu=>by simp at hu; subst hu; rfl) ?d3 ?d4 ?d5 ?_)
     case d3=>unfold maxLen; omega
     case d4=>omega
     case d5=>have:=HKS.out; simp; omega
     intro v' w8 hown' hgrow hnil hat
     have hal2 : Below wo.heap.size wo (wo.alloc (.cells #[.slice aw n cw] 27)):=(Below.refl _ _).alloc (Nat.le_refl _) _
     have HO8 : Hid (OL (puO F n A pp wl k ++ [wl]) (us ++ [.slice aw n cw]) bs w8 v'):=Lib.hid (OL.push (HO.out.below hal2) (by rw [HVW.out.len]; exact own_belowK HROW.out hal2) (by rw [hlk.out]) hown' hgrow)
     have HB8 : Hid (Below W.heap.size W w8):=Lib.hid (HAL.out.trans (((HB1.out.alloc HB1.out.size _).trans ((Bx.below (Bx.grown hgrow fun j hj=>(HOWr.out.lt j hj).1) (by have:=HKS.out; simp; omega) fun j hj=>hj).mono (by rw [HBS.out]; exact HR5.out.size))).mono HAL.out.size))
     clear hown' hgrow hnil hat hal2
     obtain ⟨D3,hD3⟩ : ∃ D3,puO F n A pp wl k ++ [wl] = D3:=⟨_,rfl⟩
     rw [hD3] at HO8 HRE
     clear hD3
     obtain ⟨aZ,cZ,hvs⟩:=HO8.out.shape
     obtain ⟨l3,hl3⟩ : ∃ l,Hid (D3.length = l):=⟨_,Lib.hid rfl⟩
     rw [hl3.out] at hvs
     subst hvs
     go_wp2
     go_ret
     exact ⟨aZ,cZ,by rw [HRE.out,hl3.out]; rfl,by rw [HRE.out,hl3.out]; exact HO8.out.mm,HB8.out⟩
    ·have HRE : Hid (putS F n A V = puO F n A pp wl k):=Lib.hid (by rw [HEQ.out]; unfold puR; rw [HLA.out,hD.out]; rfl)
     go_wp2
     go_ret
     exact ⟨aP,cP,by rw [HRE.out,hlk.out]; rfl,by rw [HRE.out,hlk.out]; have h:=HO.out.mm; exact h,HBF.out⟩
theorem redM_pvt {F : Gf} (hF : Ok F) {n : Nat} {S : List (List Nat)} (hS : Mn F n S) {i : Nat} (hi : i < (redM F n S).length) : pvt (Go.Fl.fn ((redM F n S).getD i [])) n < n:=by
 have hR:=redM_red hF hS
 rw [red_pvt hF hR hi]
 have hl:=hR.len
 rw [List.length_map] at hl
 exact hR.bd _ (by rw [List.getD_eq_getElem?_getD,List.getElem?_eq_getElem (by omega)]; exact List.getElem_mem _)
set_option maxHeartbeats 6400000 in
theorem redr_c {F : Gf} {b cap n m ca : Nat} {A : List (List Nat)} {aa : Option Addr} {W : World} (hA : FldAt F b cap W) (hn : n ≤ 1000) (hm : m ≤ 1000) (la : A.length = m) (ma : Mn F n A) (na : MM A W (.slice aa m ca)) :
  Calls Try.prog 16 #[FV F b cap,.slice aa m ca] W (MPost (redM F n A) W):=by
 have HFF : Hid (Ok F):=Lib.hid (ok_mem hA.mem)
 obtain ⟨w0,hw0⟩ : ∃ w1,w1 = W.alloc (.cells #[.int .i64 F.p,.int .i64 F.e,FM F b cap] 29):=⟨_,rfl⟩
 obtain ⟨w1,hw1⟩ : ∃ w1,w1 = w0.alloc (.cells #[] 27):=⟨_,rfl⟩
 have HAL : Hid (Below W.heap.size W w1):=Lib.hid (by rw [hw1,hw0]; exact ((Below.refl _ _).alloc (Nat.le_refl _) _).alloc (by simp) _)
 have HS1 : Hid (W.heap.size < w1.heap.size):=Lib.hid (by rw [hw1,hw0]; simp; omega)
 have HFB : Hid (FBx W.heap.size F b cap w1):=Lib.hid (by rw [hw1]; exact FBx.below (by rw [hw0]; exact FBx.new W F b cap) ((Below.refl _ _).alloc (Nat.le_refl _) _) (by rw [hw0]; simp))
 have hs0 : w0.heap.size = W.heap.size + 1:=by rw [hw0]; simp
 have HM0 : Hid (MM [] w1 (.slice (some ⟨W.heap.size + 1,0,none⟩) 0 0)):=Lib.hid (.inr ⟨W.heap.size + 1,0,0,rfl,Nat.le_refl _,by rw [hw1]; simp; omega,fun t ht=>absurd ht (by simp)⟩)
 have HF1:=Lib.hid (hA.below HAL.out)
 have HMA:=Lib.hid ma
 have HLA:=Lib.hid la
 have HNA:=Lib.hid (na.below HAL.out)
 have HW1:=Lib.hid (by rw [hw0] at hw1; exact hw1)
 clear hA ma la na hw1 hw0 hs0
 go_enter Try.func16,Try.ntmps16
 go_wp2
 rw [← HW1.out]
 clear HW1
 go_loopw [5,6] (fun v i wr=>∃ (k : Nat) (aP : Option Addr) (cP : Nat),k ≤ m ∧ v = .slice aP (redM F n (A.take k)).length cP ∧ i = .int .i64 k ∧ Hid (MM (redM F n (A.take k)) wr (.slice aP (redM F n (A.take k)).length cP)) ∧ Hid (Below w1.heap.size w1 wr)) (fun _ i _=>m - (intOf i).toNat)
 case atStart=>exact ⟨0,_,_,Nat.zero_le _,rfl,rfl,HM0,Below.refl _ _⟩
 case round =>
  obtain ⟨k,aP,cP,hk,rfl,rfl,HO,KB⟩:=hrel
  by_cases hlt : k < m
  ·have hk5 : k < 1000:=by omega
   have hkA : k < A.length:=by rw [HLA.out]; exact hlt
   obtain ⟨Y,hY⟩ : ∃ L,Hid (A.getD k [] = L):=⟨_,Lib.hid rfl⟩
   have HVY : Hid (Vn F n Y):=Lib.hid (by rw [← hY.out]; exact mrow HMA.out hkA)
   have HMT : Hid (Mn F n (A.take k)):=Lib.hid (fun r hr=>HMA.out r (List.mem_of_mem_take hr))
   have HSU : Hid (putS F n (redM F n (A.take k)) Y = redM F n (A.take (k + 1))):=Lib.hid (by rw [putS_red HFF.out HMT.out HVY.out,take_snoc (d:=[]) hkA,hY.out])
   obtain ⟨Q,hQ⟩ : ∃ L,Hid (redM F n (A.take k) = L):=⟨_,Lib.hid rfl⟩
   have HQN : Hid (Mn F n Q):=Lib.hid (by rw [← hQ.out]; exact (redM_ok HFF.out HMT.out).1)
   have HQP : Hid (∀ i,i < Q.length → pvt (Go.Fl.fn (Q.getD i [])) n < n):=Lib.hid (fun i hi=>by rw [← hQ.out] at hi ⊢; exact redM_pvt HFF.out HMT.out hi)
   have hql : Q.length ≤ 1000:=by
    have h:=redM_le HFF.out HMT.out
    rw [hQ.out,List.length_take] at h
    omega
   rw [hQ.out] at HO HSU ⊢
   obtain ⟨ql,hqe⟩ : ∃ l,Hid (Q.length = l):=⟨_,Lib.hid rfl⟩
   rw [hqe.out] at HO hql ⊢
   obtain ⟨b1,o1,rfl,a1,c1,hc1,hny⟩:=MM.at (R:=A) (by rw [HLA.out]; exact HNA.out.below KB.out) hkA
   rw [hY.out,HVY.out.len] at hc1 hny
   obtain ⟨wo,hwo⟩ : ∃ w,w = wr:=⟨_,rfl⟩
   subst hwo
   have HPU : Hid (Calls Try.prog 53 #[FV F b cap,.slice aP ql cP,.slice a1 n c1] wo (MPost (redM F n (A.take (k + 1))) wo)):=Lib.hid (by
    have t:=put_c (HF1.out.below KB.out) hn hql hqe.out HQN.out HVY.out (fun i hi=>HQP.out i (by rw [hqe.out]; exact hi)) HO.out hny
    rw [HSU.out] at t; exact t)
   have HPQ : Hid (∀ w,Below wo.heap.size wo w → Calls Try.prog 53 #[FV F b cap,.slice aP ql cP,.slice a1 n c1] w (MPost (redM F n (A.take (k + 1))) w)):=Lib.hid (fun w h=>by
    have t:=put_c ((HF1.out.below KB.out).below h) hn hql hqe.out HQN.out HVY.out (fun i hi=>HQP.out i (by rw [hqe.out]; exact hi)) (HO.out.below h) (hny.below h)
    rw [HSU.out] at t; exact t)
   have hfb:=HFB.out.below KB.out HS1.out
   have hS0 : SZ F b cap W.heap.size b1 (o1 + k) b1 (o1 + k) (.slice a1 n c1) (.slice a1 n c1) wo.heap.size wo wo.drew:=
    ⟨hfb,hc1,hc1,Lib.hid ⟨(HF1.out.below KB.out).bx (Bx.refl (fun _=>False) wo).drew id,(Below.refl _ _).drew,Nat.le_refl _,Nat.lt_of_lt_of_le HS1.out KB.out.size,World.block_lt_of_cell? wo _ hc1,World.block_lt_of_cell? wo _ hc1,Nat.lt_of_lt_of_le HF1.out.lt KB.out.size⟩⟩
   clear hny hkA hc1 hfb HPU
   go_wp2_with fail
   refine wp_region_held_drew (S:=fun w'=>SZ F b cap W.heap.size b1 (o1 + k) b1 (o1 + k) (.slice a1 n c1) (.slice a1 n c1) wo.heap.size wo w') (by kernel_rfl) (by with_reducible exact hS0) (fun hHeld=>?_)
   refine Rg.tk 0 ⟨some 14,.load 29 (.tmp 2),29,"ref.go:168",#[],none⟩ ?_
   try simp only [Rg.gp]
   refine Rg.tk 1 ⟨some 15,.move (.tmp 5),30,"ref.go:168",#[],none⟩ ?_
   try simp only [Rg.gp]
   refine Rg.tk 2 ⟨some 16,.move (.tmp 1),30,"ref.go:168",#[],none⟩ ?_
   try simp only [Rg.gp]
   refine Rg.tk 3 ⟨some 17,.move (.tmp 6),3,"ref.go:168",#[],none⟩ ?_
   try simp only [Rg.gp]
   refine Rg.tk 4 ⟨some 18,.indexAddr 30 (.tmp 16) (.tmp 17),0,"ref.go:168",#[⟨2,.data⟩,⟨3,.data⟩],none⟩ ?_
   try simp only [Rg.gp]
   refine Rg.tk 5 ⟨some 19,.load 27 (.tmp 18),27,"ref.go:168",#[⟨4,.data⟩],none⟩ ?_
   try simp only [Rg.gp]
   refine Rg.rd1 6 ⟨some 20,.call ⟨.value (.func 53),#[.tmp 14,.tmp 15,.tmp 19],#[29,30,27]⟩,30,"ref.go:168",#[⟨0,.data⟩,⟨1,.data⟩,⟨5,.data⟩],none⟩ fun K hK=>?_
   go_simp
   go_at_call 53
   with_reducible refine (HPQ.out _ hHeld.2.2.2.out.2.1).mono ?_
   rintro z v3 ⟨a3,c3,rfl,hm3,hb3⟩
   refine hK.out _ _ ?_ (fun hHeld=>?_)
   ·(try dsimp only)
    exact SZ.keep hHeld hb3
   clear hK K
   try simp only [Rg.gp]
   refine Rg.tk 7 ⟨some 5,.assign (.tmp 20),30,"ref.go:168",#[⟨6,.data⟩,⟨6,.chain⟩,⟨0,.phase⟩,⟨1,.phase⟩,⟨2,.phase⟩,⟨3,.phase⟩,⟨4,.phase⟩,⟨5,.phase⟩,⟨6,.phase⟩],none⟩ ?_
   try simp only [Rg.gp]
   refine wpAnyH_done (by kernel_rfl) ?_ _
   have HM3:=Lib.hid hm3
   have HB3 : Hid (Below w1.heap.size w1 v3):=Lib.hid (KB.out.trans (hHeld.2.2.2.out.2.1.mono KB.out.size))
   clear hm3 hHeld hS0 hb3 HPQ
   go_wp2
   go_roundw
   case rel=>exact ⟨k + 1,a3,c3,by omega,rfl,by go_num,HM3,HB3⟩
   case measure=>simp [intOf]; omega
  ·obtain rfl : k = m:=by omega
   have hlt1 : ¬ (k : Int) < (k : Int):=by omega
   have HBF : Hid (Below W.heap.size W wr):=Lib.hid (HAL.out.trans (KB.out.mono HAL.out.size))
   have HEA : Hid (A.take k = A):=Lib.hid (List.take_of_length_le (by rw [HLA.out]; exact Nat.le_refl _))
   rw [HEA.out] at HO ⊢
   go_wp2
   go_ret
   exact ⟨aP,cP,rfl,HO.out,HBF.out⟩
end Go.Proofs.Yteeofijcndgbfaa
