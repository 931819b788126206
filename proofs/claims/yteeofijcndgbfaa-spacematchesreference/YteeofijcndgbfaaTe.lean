/- Apply, Combine of the reference. -/
import Derived.Test.YteeofijcndgbfaaEvTk
import Derived.Test.YteeofijcndgbfaaTc
namespace Go.Proofs.Yteeofijcndgbfaa
open Go.RowKit Go.Fl
set_option maxRecDepth 100000
set_option linter.unusedVariables false
set_option linter.unusedSimpArgs false
set_option linter.unusedSectionVars false
abbrev SZ (F : Gf) (b cap B b1 o1 b2 o2 : Nat) (u1 u2 : Value) (base : Nat) (wr w : World) : Prop:=FBx B F b cap w ∧ w.cell? ⟨b1,o1,none⟩ = some u1 ∧ w.cell? ⟨b2,o2,none⟩ = some u2 ∧ Hid (FldAt F b cap w ∧ Below base wr w ∧ base ≤ w.heap.size ∧ B < base ∧ b1 < base ∧ b2 < base ∧ b < base)
theorem SZ.go {F : Gf} {b cap B b1 o1 b2 o2 base : Nat} {u1 u2 : Value} {wr w w' : World} (h : SZ F b cap B b1 o1 b2 o2 u1 u2 base wr w) (hb : Below base w w') : SZ F b cap B b1 o1 b2 o2 u1 u2 base wr w':=
 ⟨⟨(hb.cell h.2.2.2.out.2.2.2.1).trans h.1.1,(hb.cell h.2.2.2.out.2.2.2.1).trans h.1.2.1,(hb.cell h.2.2.2.out.2.2.2.1).trans h.1.2.2⟩,(hb.cell h.2.2.2.out.2.2.2.2.1).trans h.2.1,(hb.cell h.2.2.2.out.2.2.2.2.2.1).trans h.2.2.1,Lib.hid ⟨h.2.2.2.out.1.bx (S:=fun k=>base ≤ k) ⟨hb.os,hb.tape,hb.output,hb.size,fun k hk hs=>hb.block k (by omega)⟩ (by have:=h.2.2.2.out.2.2.2.2.2.2; omega),h.2.2.2.out.2.1.trans hb,Nat.le_trans h.2.2.2.out.2.2.1 hb.size,h.2.2.2.out.2.2.2⟩⟩
theorem SZ.keep {F : Gf} {b cap B b1 o1 b2 o2 base : Nat} {u1 u2 : Value} {wr w w' : World} (h : SZ F b cap B b1 o1 b2 o2 u1 u2 base wr w) (hb : Below w.heap.size w w') : SZ F b cap B b1 o1 b2 o2 u1 u2 base wr w':=h.go (hb.mono h.2.2.2.out.2.2.1)
theorem fld_below {F : Gf} {b cap base : Nat} {w w' : World} (h : FldAt F b cap w) (hb : Below base w w') (hbb : b < base) : FldAt F b cap w':=h.bx (S:=fun k=>base ≤ k) ⟨hb.os,hb.tape,hb.output,hb.size,fun k hk hs=>hb.block k (by omega)⟩ (by omega)
theorem fbx_below {F : Gf} {b cap B base : Nat} {w w' : World} (h : FBx B F b cap w) (hb : Below base w w') (hbb : B < base) : FBx B F b cap w':=⟨(hb.cell hbb).trans h.1,(hb.cell hbb).trans h.2.1,(hb.cell hbb).trans h.2.2⟩
set_option maxHeartbeats 6400000 in
theorem rapply_o {F : Gf} {b cap n m ca cx : Nat} {A : List (List Nat)} {X : List Nat} {aa ax : Option Addr} {W : World} (hA : FldAt F b cap W) (hn : n ≤ 1000) (hm : m ≤ 1000) (la : A.length = m) (ma : Mn F n A) (mx : Vn F n X) (na : MM A W (.slice aa m ca)) (nx : NN X W (.slice ax n cx)) :
  Calls Try.prog 22 #[FV F b cap,.slice aa m ca,.slice ax n cx] W (DPost (apM F n A X) W):=by
 obtain ⟨i0,hi,hz0,hz1,hz2⟩:=info_parts info3
 have HFF : Hid (Ok F):=Lib.hid (ok_mem hA.mem)
 obtain ⟨w1,hw1⟩ : ∃ w1,w1 = W.alloc (.cells #[.int .i64 F.p,.int .i64 F.e,FM F b cap] 29):=⟨_,rfl⟩
 have HAL : Hid (Below W.heap.size W w1):=Lib.hid (by rw [hw1]; exact (Below.refl _ _).alloc (Nat.le_refl _) _)
 have HS1 : Hid (w1.heap.size = W.heap.size + 1):=Lib.hid (by rw [hw1]; simp)
 have HFB : Hid (FBx W.heap.size F b cap w1):=Lib.hid (by rw [hw1]; exact FBx.new W F b cap)
 have HF1:=Lib.hid (hA.below HAL.out)
 have HBb : Hid (b < W.heap.size):=Lib.hid hA.lt
 have HMA:=Lib.hid ma
 have HLA:=Lib.hid la
 have HMX:=Lib.hid mx
 have HNA:=Lib.hid (na.below HAL.out)
 have HNX:=Lib.hid (nx.below HAL.out)
 obtain ⟨w2,hw2⟩ : ∃ w2,w2 = w1.alloc (.cells #[] 3):=⟨_,rfl⟩
 have HB2 : Hid (Below (W.heap.size + 1) w1 w2):=Lib.hid (by rw [hw2]; exact (Below.refl _ _).alloc (by rw [HS1.out]; exact Nat.le_refl _) _)
 have HO2 : Hid (w2.ownsRow (W.heap.size + 1) 3 1 (.slice (some ⟨W.heap.size + 1,0,none⟩) 0 0) 0 []):=Lib.hid (by rw [hw2]; have:=own_empty w1 (W.heap.size + 1) (by rw [HS1.out]; exact Nat.le_refl _); rwa [HS1.out] at this)
 have HW2:=Lib.hid (by rw [hw1] at hw2; exact hw2)
 obtain ⟨R,hR⟩ : ∃ R,Hid (apM F n A X = R):=⟨_,Lib.hid rfl⟩
 rw [hR.out]
 have HRL : Hid (R.length = m):=Lib.hid (by rw [← hR.out,apM_len,la])
 clear hA ma mx la na nx hw1 hw2
 go_enter Try.func22,Try.ntmps22
 go_wp2
 rw [← HW2.out]
 clear HW2
 go_loopw [7,8] (fun v i wr=>∃ (k : Nat) (aP : Option Addr) (cP : Nat),k ≤ m ∧ v = .slice aP k cP ∧ i = .int .i64 k ∧ Hid (wr.ownsRow (W.heap.size + 1) 3 1 (.slice aP k cP) k ((apM F n (A.take k) X).map N64)) ∧ Hid (Below (W.heap.size + 1) w1 wr)) (fun _ i _=>m - (intOf i).toNat)
 case atStart=>exact ⟨0,_,_,Nat.zero_le _,rfl,rfl,HO2,HB2⟩
 case round =>
  obtain ⟨k,aP,cP,hk,rfl,rfl,HO,KB⟩:=hrel
  by_cases hlt : k < m
  ·have hk5 : k < 1000:=by omega
   have hkA : k < A.length:=by rw [HLA.out]; exact hlt
   obtain ⟨Y,hY⟩ : ∃ L,Hid (A.getD k [] = L):=⟨_,Lib.hid rfl⟩
   have HVY : Hid (Vn F n Y):=Lib.hid (by rw [← hY.out]; exact mrow HMA.out hkA)
   obtain ⟨b1,o1,rfl,a1,c1,hc1,hny⟩:=MM.at (R:=A) (by rw [HLA.out]; exact HNA.out) hkA
   rw [hY.out,HVY.out.len] at hc1 hny
   have hl1:=World.block_lt_of_cell? w1 _ hc1
   rw [HS1.out] at hl1
   have HNY:=Lib.hid hny
   have HKS : Hid (W.heap.size + 1 ≤ wr.heap.size):=Lib.hid (by have:=KB.out.size; have:=HS1.out; omega)
   have HSUC : Hid (apM F n (A.take (k + 1)) X = apM F n (A.take k) X ++ [dt F n (Go.Fl.fn Y) (Go.Fl.fn X)]):=Lib.hid (by rw [apM_snoc hkA,hY.out])
   obtain ⟨DT,hDT⟩ : ∃ D,Hid (apM F n (A.take k) X = D):=⟨_,Lib.hid rfl⟩
   obtain ⟨dd,hdd⟩ : ∃ d,Hid (dt F n (Go.Fl.fn Y) (Go.Fl.fn X) = d):=⟨_,Lib.hid rfl⟩
   rw [hDT.out] at HO HSUC
   rw [hdd.out] at HSUC
   have KBD : Hid (∀ w,Below (W.heap.size + 1) wr w → Below w1.heap.size w1 w):=Lib.hid (fun w h=>by rw [HS1.out]; exact KB.out.trans h)
   have hfb:=fbx_below HFB.out KB.out (Nat.lt_succ_self _)
   have hS0 : SZ F b cap W.heap.size b1 (o1 + k) b1 (o1 + k) (.slice a1 n c1) (.slice a1 n c1) (W.heap.size + 1) wr wr.drew:=
    ⟨hfb,(KB.out.cell hl1).trans hc1,(KB.out.cell hl1).trans hc1,Lib.hid ⟨(fld_below HF1.out KB.out (Nat.lt_succ_of_lt HBb.out)).bx (Bx.refl (fun _=>False) wr).drew id,(Below.refl _ _).drew,HKS.out,Nat.lt_succ_self _,hl1,hl1,Nat.lt_succ_of_lt HBb.out⟩⟩
   clear hfb hc1 hl1 hny hkA
   go_wp2_with fail
   refine wp_region_held_drew (S:=fun w'=>SZ F b cap W.heap.size b1 (o1 + k) b1 (o1 + k) (.slice a1 n c1) (.slice a1 n c1) (W.heap.size + 1) wr w') (by kernel_rfl) (by with_reducible exact hS0) (fun hHeld=>?_)
   refine Rg.tk 0 ⟨some 16,.move (.tmp 7),27,"ref.go:118",#[],none⟩ ?_
   try simp only [Rg.gp]
   refine Rg.tk 1 ⟨some 17,.load 29 (.tmp 3),29,"ref.go:118",#[],none⟩ ?_
   try simp only [Rg.gp]
   refine Rg.tk 2 ⟨some 18,.move (.tmp 1),30,"ref.go:118",#[],none⟩ ?_
   try simp only [Rg.gp]
   refine Rg.tk 3 ⟨some 19,.move (.tmp 8),3,"ref.go:118",#[],none⟩ ?_
   try simp only [Rg.gp]
   refine Rg.tk 4 ⟨some 20,.indexAddr 30 (.tmp 18) (.tmp 19),0,"ref.go:118",#[⟨2,.data⟩,⟨3,.data⟩],none⟩ ?_
   try simp only [Rg.gp]
   refine Rg.tk 5 ⟨some 21,.load 27 (.tmp 20),27,"ref.go:118",#[⟨4,.data⟩],none⟩ ?_
   try simp only [Rg.gp]
   refine Rg.tk 6 ⟨some 22,.move (.tmp 2),27,"ref.go:118",#[],none⟩ ?_
   try simp only [Rg.gp]
   refine Rg.rd1 7 ⟨some 23,.call ⟨.value (.func 46),#[.tmp 17,.tmp 21,.tmp 22],#[29,27,27]⟩,3,"ref.go:118",#[⟨1,.data⟩,⟨5,.data⟩,⟨6,.data⟩],none⟩ fun K hK=>?_
   go_simp
   go_at_call 46
   with_reducible refine (dot_c hHeld.2.2.2.out.1 hn HVY.out HMX.out (HNY.out.below (KBD.out _ hHeld.2.2.2.out.2.1)) (HNX.out.below (KBD.out _ hHeld.2.2.2.out.2.1))).mono ?_
   rw [hdd.out]
   rintro z v2 ⟨rfl,hb4⟩
   have HO1:=Lib.hid (own_belowK (w:=wr.drew) HO.out hb4)
   have HKS2 : Hid (W.heap.size + 1 ≤ v2.heap.size):=Lib.hid (Nat.le_trans hHeld.2.2.2.out.2.2.1 hb4.size)
   refine hK.out _ _ ?_ (fun hHeld=>?_)
   ·(try dsimp only)
    exact SZ.keep hHeld hb4
   clear hK K
   try simp only [Rg.gp]
   refine Rg.rd1 8 ⟨some 24,.buildSlice 27 1 #[(0,.tmp 23)],27,"ref.go:118",#[⟨7,.data⟩],none⟩ fun K hK=>?_
   go_simp
   refine hK.out _ _ ?_ (fun hHeld=>?_)
   ·(try dsimp only)
    exact SZ.keep hHeld ((Below.refl _ _).alloc (Nat.le_refl _) _)
   clear hK K
   try simp only [Rg.gp]
   refine Rg.rd1 9 ⟨some 25,.call ⟨.builtin Builtin.append,#[.tmp 16,.tmp 24],#[27,27]⟩,27,"ref.go:118",#[⟨0,.data⟩,⟨8,.data⟩,⟨7,.chain⟩],none⟩ fun K hK=>?_
   refine step_append_own rfl _ _ 27 rfl (W.heap.size + 1) 3 i0 (.int .i64 0) 1 8 Try.underlying27 hi hz0 hz1 hz2 rfl (by decide) _ _ _ rfl (HO1.out.alloc _) ⟨v2.heap.size,0,none⟩ 1 1 [.int .i64 (dd : Nat)] rfl rfl (cell_one_new _ _ _) (fun u hu=>by simp at hu; subst hu; rfl) ?c3 ?c4 ?c5 ?_
   case c3=>unfold maxLen; omega
   case c4=>omega
   case c5=>have:=HKS2.out; simp; omega
   intro v' v9 hown' hgrow
   refine hK.out _ _ ?_ (fun hHeld=>?_)
   ·(try dsimp only)
    exact SZ.go hHeld (Bx.below (Bx.grown hgrow fun j hj=>(HO1.out.lt j hj).1) (by have:=HKS2.out; simp; omega) fun j hj=>hj)
   clear hK K
   try simp only [Rg.gp]
   refine Rg.tk 10 ⟨some 7,.assign (.tmp 25),27,"ref.go:118",#[⟨9,.data⟩,⟨9,.chain⟩,⟨0,.phase⟩,⟨1,.phase⟩,⟨2,.phase⟩,⟨3,.phase⟩,⟨4,.phase⟩,⟨5,.phase⟩,⟨6,.phase⟩,⟨7,.phase⟩,⟨8,.phase⟩,⟨9,.phase⟩],none⟩ ?_
   try simp only [Rg.gp]
   refine wpAnyH_done (by kernel_rfl) ?_ _
   have HO5 : Hid (v9.ownsRow (W.heap.size + 1) 3 1 v' (k + 1) ((apM F n (A.take (k + 1)) X).map N64)):=Lib.hid (by rw [HSUC.out,List.map_append]; exact hown')
   have HB5 : Hid (Below (W.heap.size + 1) w1 v9):=Lib.hid (KB.out.trans hHeld.2.2.2.out.2.1)
   obtain ⟨aP2,cP2,hvs⟩ : ∃ a c,v' = .slice a (k + 1) c:=by
    rcases HO5.out.2 with ⟨e,e2⟩ | ⟨_,_,_,e,_⟩
    ·exact ⟨none,0,by rw [e,e2]⟩
    ·exact ⟨_,_,e⟩
   subst hvs
   clear hHeld hS0 hown' hgrow
   go_wp2
   go_roundw
   case rel=>exact ⟨k + 1,aP2,cP2,by omega,rfl,by go_num,HO5,HB5⟩
   case measure=>simp [intOf]; omega
  ·obtain rfl : k = m:=by omega
   have hlt1 : ¬ (k : Int) < (k : Int):=by omega
   have HBF : Hid (Below W.heap.size W wr):=Lib.hid (HAL.out.trans (KB.out.mono (Nat.le_succ _)))
   have HNF : Hid (wr.ownsRow W.heap.size 3 1 (.slice aP R.length cP) R.length (R.map N64)):=Lib.hid (by
    have e : apM F n (A.take k) X = R:=by rw [← hR.out,List.take_of_length_le (by rw [HLA.out]; exact Nat.le_refl _)]
    have h:=HO.out
    rw [e] at h
    rw [HRL.out]; exact own_weak h (Nat.le_succ _))
   go_wp2
   go_ret
   exact ⟨aP,cP,by rw [HRL.out]; rfl,HNF.out,HBF.out⟩
theorem rapply_c {F : Gf} {b cap n m ca cx : Nat} {A : List (List Nat)} {X : List Nat} {aa ax : Option Addr} {W : World} (hA : FldAt F b cap W) (hn : n ≤ 1000) (hm : m ≤ 1000) (la : A.length = m) (ma : Mn F n A) (mx : Vn F n X) (na : MM A W (.slice aa m ca)) (nx : NN X W (.slice ax n cx)) :
  Calls Try.prog 22 #[FV F b cap,.slice aa m ca,.slice ax n cx] W (VPost (apM F n A X) W):=(rapply_o hA hn hm la ma mx na nx).mono fun _ _ h=>h.v
def N16 (m : Nat) (w : World) (v : Value) : Prop:=(m = 0 ∧ ∃ a c,v = .slice a 0 c) ∨ ∃ b off cap,v = .slice (some ⟨b,off,none⟩) m cap ∧ b < w.heap.size ∧ ∀ t,t < m → ∃ x : Nat,x ≤ 65535 ∧ w.cell? ⟨b,off + t,none⟩ = some (.int .u16 (x : Nat))
theorem N16.below {m : Nat} {w w' : World} {v : Value} (h : N16 m w v) (hb : Below w.heap.size w w') : N16 m w' v:=by
 rcases h with h | ⟨b,off,cap,h4,h5,h6⟩
 ·exact .inl h
 ·exact .inr ⟨b,off,cap,h4,Nat.lt_of_lt_of_le h5 hb.size,fun t ht=>by obtain ⟨x,h7,h8⟩:=h6 t ht; exact ⟨x,h7,(hb.cell h5).trans h8⟩⟩
theorem N16.at {m : Nat} {w : World} {a : Option Addr} {c : Nat} (h : N16 m w (.slice a m c)) {k : Nat} (hk : k < m) : ∃ b o x,a = some ⟨b,o,none⟩ ∧ b < w.heap.size ∧ x ≤ 65535 ∧ w.cell? ⟨b,o + k,none⟩ = some (.int .u16 (x : Nat)):=by
 rcases h with ⟨e,_⟩ | ⟨b,off,cap,h4,h5,h6⟩
 ·omega
 ·injection h4 with h1 h2 h3
  obtain ⟨x,h7,h8⟩:=h6 k hk
  exact ⟨b,off,x,h1,h5,h7,h8⟩
def LPost (F : Gf) (n : Nat) (W : World) (e : Ending) (w' : World) : Prop:=∃ L,Vn F n L ∧ VPost L W e w'
def LPostO (F : Gf) (n : Nat) (W : World) (e : Ending) (w' : World) : Prop:=∃ L,Vn F n L ∧ DPost L W e w'
set_option maxHeartbeats 6400000 in
theorem list_o {F : Gf} {b cap n m ca : Nat} {aa : Option Addr} {W : World} (hA : FldAt F b cap W) (hn : n ≤ 2000) (hm : m ≤ maxLen) (na : N16 m W (.slice aa m ca)) :
  Calls Try.prog 12 #[FV F b cap,.int .i64 (n : Nat),.slice aa m ca] W (LPostO F n W):=by
 obtain ⟨i0,hi,hz0,hz1,hz2⟩:=info_parts info3
 have HFF : Hid (Ok F):=Lib.hid (ok_mem hA.mem)
 obtain ⟨w1,hw1⟩ : ∃ w1,w1 = W.alloc (.cells #[.int .i64 F.p,.int .i64 F.e,FM F b cap] 29):=⟨_,rfl⟩
 have HAL : Hid (Below W.heap.size W w1):=Lib.hid (by rw [hw1]; exact (Below.refl _ _).alloc (Nat.le_refl _) _)
 have HS1 : Hid (w1.heap.size = W.heap.size + 1):=Lib.hid (by rw [hw1]; simp)
 have HFB : Hid (FBx W.heap.size F b cap w1):=Lib.hid (by rw [hw1]; exact FBx.new W F b cap)
 have HF1:=Lib.hid (hA.below HAL.out)
 have HBb : Hid (b < W.heap.size):=Lib.hid hA.lt
 have HNA:=Lib.hid (na.below HAL.out)
 have HML:=Lib.hid hm
 have hm63 : (m : Int) ≤ 9223372036854775807:=by unfold maxLen at hm; omega
 obtain ⟨w2,hw2⟩ : ∃ w2,w2 = w1.alloc (.cells #[] 3):=⟨_,rfl⟩
 have HB2 : Hid (Below (W.heap.size + 1) w1 w2):=Lib.hid (by rw [hw2]; exact (Below.refl _ _).alloc (by rw [HS1.out]; exact Nat.le_refl _) _)
 have HO2 : Hid (w2.ownsRow (W.heap.size + 1) 3 1 (.slice (some ⟨W.heap.size + 1,0,none⟩) 0 0) 0 []):=Lib.hid (by rw [hw2]; have:=own_empty w1 (W.heap.size + 1) (by rw [HS1.out]; exact Nat.le_refl _); rwa [HS1.out] at this)
 have HW2:=Lib.hid (by rw [hw1] at hw2; exact hw2)
 clear hA na hw1 hw2 hm
 go_enter Try.func12,Try.ntmps12
 go_wp2
 rw [← HW2.out]
 clear HW2
 go_loopw [7,8] (fun v i wr=>∃ (k : Nat) (D : List Nat) (aP : Option Addr) (cP : Nat),k ≤ n ∧ v = .slice aP k cP ∧ i = .int .i64 k ∧ Hid (Vn F k D) ∧ Hid (wr.ownsRow (W.heap.size + 1) 3 1 (.slice aP k cP) k (D.map N64)) ∧ Hid (Below (W.heap.size + 1) w1 wr)) (fun _ i _=>n - (intOf i).toNat)
 case atStart=>exact ⟨0,[],_,_,Nat.zero_le _,rfl,rfl,Lib.hid ⟨rfl,fun x hx=>by cases hx⟩,HO2,HB2⟩
 case round =>
  obtain ⟨k,D,aP,cP,hk,rfl,rfl,HD,HO,KB⟩:=hrel
  by_cases hlt : k < n
  ·have hk5 : k < 2000:=by omega
   go_upto_if 18 with fail
   go_cut [9] (fun v wx=>∃ x : Nat,v = .int .i64 x ∧ Hid (x ≤ 100000) ∧ Hid (wx = wr ∨ wx = wr.drew))
   case first =>
    by_cases hm0 : m = 0
    ·subst hm0
     go_wp2_with fail
     go_meet
     case rel=>exact ⟨0,rfl,Lib.hid (by omega),.inl rfl⟩
    have hmp : (0 : Int) < (m : Int):=by omega
    have hmpn : 0 < m:=by omega
    obtain ⟨kq,hkq⟩ : ∃ q,Hid (k % m = q):=⟨_,Lib.hid rfl⟩
    obtain ⟨kd,hkd⟩ : ∃ q,Hid (k / m = q):=⟨_,Lib.hid rfl⟩
    have hql : kq < m:=by rw [← hkq.out]; exact Nat.mod_lt _ (by omega)
    have hdl : kd ≤ 2000:=by rw [← hkd.out]; have:=Nat.div_le_self k m; omega
    have hmod : (k : Int).tmod (m : Int) = (kq : Int):=by rw [← hkq.out]; exact (Int.ofNat_tmod k m).symm
    have hdiv : (k : Int).tdiv (m : Int) = (kd : Int):=by rw [← hkd.out]; exact (Int.ofNat_tdiv k m).symm
    obtain ⟨b1,o1,u,rfl,hl1,hu,hc1⟩:=HNA.out.at hql
    rw [HS1.out] at hl1
    have hc1:=(KB.out.cell (p:=⟨b1,o1 + kq,none⟩) hl1).trans hc1
    have hm0i : ¬ (m : Int) = 0:=by omega
    have hS0 : wr.drew.cell? ⟨b1,o1 + kq,none⟩ = some (.int .u16 (u : Nat)) ∧ Hid (Below wr.heap.size wr wr.drew):=⟨hc1,Lib.hid (Below.refl _ _).drew⟩
    clear hc1
    go_wp2_with fail
    refine wp_region_held_drew (S:=fun w'=>w'.cell? ⟨b1,o1 + kq,none⟩ = some (.int .u16 (u : Nat)) ∧ Hid (Below wr.heap.size wr w')) (by kernel_rfl) (by with_reducible exact hS0) (fun hHeld=>?_)
    refine Rg.tk 0 ⟨some 19,.move (.tmp 2),22,"ref.go:282",#[],none⟩ ?_
    try simp only [Rg.gp]
    refine Rg.tk 1 ⟨some 20,.move (.tmp 8),3,"ref.go:282",#[],none⟩ ?_
    try simp only [Rg.gp]
    refine Rg.tk 2 ⟨some 21,.move (.tmp 2),22,"ref.go:282",#[],none⟩ ?_
    try simp only [Rg.gp]
    refine Rg.tk 3 ⟨some 22,.call ⟨.builtin Builtin.len,#[.tmp 21],#[22]⟩,3,"ref.go:282",#[⟨2,.data⟩],none⟩ ?_
    try simp only [Rg.gp]
    refine Rg.tk 4 ⟨some 23,.binOp BinOp.rem 3 (.tmp 20) (.tmp 22) 3,3,"ref.go:282",#[⟨1,.data⟩,⟨3,.data⟩],none⟩ ?_
    try simp only [Rg.gp]
    refine Rg.tk 5 ⟨some 24,.indexAddr 22 (.tmp 19) (.tmp 23),0,"ref.go:282",#[⟨0,.data⟩,⟨4,.data⟩],none⟩ ?_
    try simp only [Rg.gp]
    refine Rg.tk 6 ⟨some 25,.load 70 (.tmp 24),70,"ref.go:282",#[⟨5,.data⟩],none⟩ ?_
    try simp only [Rg.gp]
    refine Rg.tk 7 ⟨some 26,.convert 70 3 (.tmp 25),3,"ref.go:282",#[⟨6,.data⟩],none⟩ ?_
    try simp only [Rg.gp]
    refine Rg.tk 8 ⟨some 27,.move (.tmp 8),3,"ref.go:282",#[],none⟩ ?_
    try simp only [Rg.gp]
    refine Rg.tk 9 ⟨some 28,.move (.tmp 2),22,"ref.go:282",#[],none⟩ ?_
    try simp only [Rg.gp]
    refine Rg.tk 10 ⟨some 29,.call ⟨.builtin Builtin.len,#[.tmp 28],#[22]⟩,3,"ref.go:282",#[⟨9,.data⟩],none⟩ ?_
    try simp only [Rg.gp]
    refine Rg.tk 11 ⟨some 30,.binOp BinOp.quo 3 (.tmp 27) (.tmp 29) 3,3,"ref.go:282",#[⟨8,.data⟩,⟨10,.data⟩],none⟩ ?_
    try simp only [Rg.gp]
    refine Rg.tk 12 ⟨some 31,.binOp BinOp.mul 3 (.const (Value.int IntKind.i64 7)) (.tmp 30) 3,3,"ref.go:282",#[⟨11,.data⟩],none⟩ ?_
    try simp only [Rg.gp]
    refine Rg.tk 13 ⟨some 32,.binOp BinOp.add 3 (.tmp 26) (.tmp 31) 3,3,"ref.go:282",#[⟨7,.data⟩,⟨12,.data⟩],none⟩ ?_
    try simp only [Rg.gp]
    refine Rg.tk 14 ⟨some 9,.assign (.tmp 32),3,"ref.go:282",#[⟨13,.data⟩,⟨0,.phase⟩,⟨1,.phase⟩,⟨2,.phase⟩,⟨3,.phase⟩,⟨4,.phase⟩,⟨5,.phase⟩,⟨6,.phase⟩,⟨7,.phase⟩,⟨8,.phase⟩,⟨9,.phase⟩,⟨10,.phase⟩,⟨11,.phase⟩,⟨12,.phase⟩,⟨13,.phase⟩],none⟩ ?_
    try simp only [Rg.gp]
    refine wpAnyH_done (by kernel_rfl) ?_ _
    clear hHeld hS0
    have hx : IntKind.i64.wrap (IntKind.i64.wrap (u : Int) + IntKind.i64.wrap (7 * IntKind.i64.wrap (kd : Int))) = ((u + 7 * kd : Nat) : Int):=by
     rw [IntWalk.i64_in (kd : Int) (by omega),IntWalk.i64_in (7 * (kd : Int)) (by omega),IntWalk.i64_in (u : Int) (by omega),IntWalk.i64_in ((u : Int) + 7 * (kd : Int)) (by omega)]
     push_cast; rfl
    rw [hx]
    clear hx
    go_wp2_with fail
    go_meet
    case rel=>exact ⟨u + 7 * kd,rfl,Lib.hid (by omega),.inr rfl⟩
   case rest =>
    obtain ⟨x,rfl,HXL,HWC⟩:=hcut
    have KB2 : Hid (Below (W.heap.size + 1) w1 wc):=Lib.hid (by
     rcases HWC.out with e | e
     ·rw [e]; exact KB.out
     ·rw [e]; exact KB.out.drew)
    have HO3 : Hid (wc.ownsRow (W.heap.size + 1) 3 1 (.slice aP k cP) k (D.map N64)):=Lib.hid (by
     rcases HWC.out with e | e
     ·rw [e]; exact HO.out
     ·rw [e]; exact HO.out)
    go_upto_if 35 with fail
    obtain ⟨wo,rfl⟩ : ∃ w,w = wc:=⟨_,rfl⟩
    go_cut [9] (fun v wx=>∃ y : Nat,v = .int .i64 y ∧ Hid (y ≤ 100000) ∧ Hid (wx = wo))
    case first =>
     by_cases h3 : ((x : Int) % 3 == 0) = true
     ·go_wp2_with fail
      go_meet
      case rel=>exact ⟨0,rfl,Lib.hid (by omega),Lib.hid rfl⟩
     ·have h3f : ((x : Int) % 3 == 0) = false:=by simpa using h3
      go_wp2_with fail
      go_meet
      case rel=>exact ⟨x,rfl,HXL,Lib.hid rfl⟩
    case rest =>
     obtain ⟨y,rfl,HYL,HWE⟩:=hcut
     obtain ⟨w5,hw5⟩ : ∃ w,w = wc:=⟨_,rfl⟩
     subst hw5
     have hwe:=HWE.out
     subst hwe
     have hy5:=HYL.out
     have HF5:=Lib.hid (fld_below HF1.out KB2.out (Nat.lt_succ_of_lt HBb.out))
     obtain ⟨f0,f1,f2⟩:=fbx_below HFB.out KB2.out (Nat.lt_succ_self _)
     have HSZ : Hid (Calls Try.prog 42 #[FV F b cap] w5 fun e w'=>e = .returned (.int .i64 (F.q : Nat)) ∧ Below w5.heap.size w5 w'):=Lib.hid (rsize_c HF5.out)
     have hq0 : 0 < F.q:=HFF.out.zero_lt
     obtain ⟨r,hr⟩ : ∃ r,Hid ((y / 3) % F.q = r):=⟨_,Lib.hid rfl⟩
     have HRQ : Hid (r < F.q):=Lib.hid (by rw [← hr.out]; exact Nat.mod_lt _ hq0)
     have hqi : (0 : Int) < (F.q : Int):=by omega
     have hq1 : ¬ (F.q : Int) = 0:=by omega
     have hm1 : ((y : Int) / 3).tmod (F.q : Int) = (r : Int):=by rw [← hr.out]; rw [show (y : Int) / 3 = ((y / 3 : Nat) : Int) from by push_cast; rfl]; exact (Int.ofNat_tmod (y / 3) F.q).symm
     have hm2 : ((y : Int) / 3) % (F.q : Int) = (r : Int):=by rw [← hr.out]; push_cast; rfl
     go_wp2_with fail
     with_reducible refine HSZ.out.mono ?_
     rintro z w6 ⟨rfl,hb6⟩
     have HO6:=Lib.hid (own_belowK HO3.out hb6)
     have HKS : Hid (W.heap.size + 1 ≤ w6.heap.size):=Lib.hid (by have:=KB2.out.size; have:=HS1.out; have:=hb6.size; omega)
     have KB6 : Hid (Below (W.heap.size + 1) w1 w6):=Lib.hid (KB2.out.trans (hb6.mono (by have:=KB2.out.size; have:=HS1.out; omega)))
     clear hb6 f0 f1 f2 HSZ
     go_wp2_with (at_builtin; refine wpList_append_own _ rfl _ _ 27 rfl (W.heap.size + 1) 3 i0 (.int .i64 0) 1 8 Try.underlying27 hi hz0 hz1 hz2 rfl (by decide) _ _ _ rfl (HO6.out.alloc _) ⟨w6.heap.size,0,none⟩ 1 1 [.int .i64 (r : Nat)] rfl rfl (cell_one_new _ _ _) (fun u hu=>by simp at hu; subst hu; rfl) ?c3 ?c4 ?c5 ?_)
     case c3=>unfold maxLen; omega
     case c4=>omega
     case c5=>have:=HKS.out; simp; omega
     intro v' w7 hown' hgrow hnil
     have HO7 : Hid (w7.ownsRow (W.heap.size + 1) 3 1 v' (k + 1) ((D ++ [r]).map N64)):=Lib.hid (by rw [List.map_append]; exact hown')
     have HB7 : Hid (Below (W.heap.size + 1) w1 w7):=Lib.hid ((KB6.out.alloc HKS.out _).trans (Bx.below (Bx.grown hgrow fun j hj=>(HO6.out.lt j hj).1) (by have:=HKS.out; simp; omega) fun j hj=>hj))
     have HD7 : Hid (Vn F (k + 1) (D ++ [r])):=Lib.hid ⟨by rw [List.length_append,HD.out.len]; rfl,fun z hz=>by
      rcases List.mem_append.1 hz with h | h
      ·exact HD.out.el z h
      ·rw [List.mem_singleton] at h; subst h; exact HRQ.out⟩
     obtain ⟨aP2,cP2,hvs⟩ : ∃ a c,v' = .slice a (k + 1) c:=by
      rcases HO7.out.2 with ⟨e,e2⟩ | ⟨_,_,_,e,_⟩
      ·exact ⟨none,0,by rw [e,e2]⟩
      ·exact ⟨_,_,e⟩
     subst hvs
     clear hown' hgrow hnil
     go_wp2
     go_roundw
     case rel=>exact ⟨k + 1,D ++ [r],aP2,cP2,by omega,rfl,by go_num,HD7,HO7,HB7⟩
     case measure=>simp [intOf]; omega
  ·obtain rfl : k = n:=by omega
   have hlt1 : ¬ (k : Int) < (k : Int):=by omega
   have HBF : Hid (Below W.heap.size W wr):=Lib.hid (HAL.out.trans (KB.out.mono (Nat.le_succ _)))
   have HNF : Hid (wr.ownsRow W.heap.size 3 1 (.slice aP k cP) k (D.map N64)):=Lib.hid (own_weak HO.out (Nat.le_succ _))
   go_wp2
   go_ret
   exact ⟨D,HD.out,aP,cP,by rw [HD.out.len]; rfl,by rw [HD.out.len]; exact HNF.out,HBF.out⟩
theorem list_c {F : Gf} {b cap n m ca : Nat} {aa : Option Addr} {W : World} (hA : FldAt F b cap W) (hn : n ≤ 2000) (hm : m ≤ maxLen) (na : N16 m W (.slice aa m ca)) :
  Calls Try.prog 12 #[FV F b cap,.int .i64 (n : Nat),.slice aa m ca] W (LPost F n W):=(list_o hA hn hm na).mono fun _ _ ⟨L,h1,h2⟩=>⟨L,h1,h2.v⟩
end Go.Proofs.Yteeofijcndgbfaa
