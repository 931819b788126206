/- Values of polynomials; the inverse of the last coefficient. -/
import Derived.Test.YtllecfhfhcmpaaaEvTk
import Derived.Test.YtllecfhfhcmpaaaKd
import Derived.Test.YtllecfhfhcmpaaaEvYv
import Derived.Test.YtllecfhfhcmpaaaEvRl
namespace Go.Proofs.Ytllecfhfhcmpaaa
open Go.RowKit Go.Fl
set_option maxRecDepth 100000
set_option linter.unusedVariables false
set_option linter.unusedSimpArgs false
set_option linter.unusedSectionVars false
abbrev SV (W : World) (p q : Int) (m u : Value) (b' o : Nat) (cv : Value) (w : World) : Prop:=PB W.heap.size p q m u w ∧ w.cell? ⟨b',o,none⟩ = some cv ∧ Hid (Below W.heap.size W w) ∧ Hid (W.heap.size + 1 ≤ w.heap.size)
theorem SV.keep {W w w' : World} {p q : Int} {m u cv : Value} {b' o k : Nat} (h : SV W p q m u b' o cv w) (hb : Below k w w') (hk : W.heap.size + 1 ≤ k) (hb' : b' < W.heap.size) : SV W p q m u b' o cv w':=
 ⟨PB.keep h.1 hb (by omega),(hb.cell (p:=⟨b',o,none⟩) (by show b' < k; omega)).trans h.2.1,Lib.hid (h.2.2.1.out.trans (hb.mono (by omega))),Lib.hid (Nat.le_trans h.2.2.2.out hb.size)⟩
abbrev w1b (W : World) (p q : Int) (m u : Value) : World:=W.alloc (.cells #[.int .i64 p,.int .i64 q,m,u] 61)
theorem w1b_below (W : World) (p q : Int) (m u : Value) : Below W.heap.size W (w1b W p q m u):=(Below.refl _ _).alloc (Nat.le_refl _) _
set_option maxHeartbeats 6400000 in
theorem value_c {F : Gf} {b cap : Nat} {A : List Nat} {aa : Option Addr} {n c x : Nat} {W : World} (hO : Ops F b cap W) (hA : In F A) (ha : A.length ≤ 1000) (ea : n = A.length) (hx : x < F.q)
  (na : NN A W (.slice aa n c)) : Calls Try.prog 58 #[PF F b cap aa n c,.int .i64 (x : Nat)] W fun e w'=>e = .returned (.int .i64 (ev F x A : Nat)) ∧ Below W.heap.size W w':=by
 have hF:=hO.ok
 have hn : n ≤ 1000:=by omega
 have EA:=Lib.hid ea
 have HA:=Lib.hid hA
 have NA:=Lib.hid na
 have HO:=Lib.hid hO
 have HFF:=Lib.hid hF
 have HX:=Lib.hid hx
 have PB0:=pb_at W F.p F.e (FM F b cap) (.slice aa n c)
 have HPB:=Lib.hid PB0
 have HB0:=Lib.hid (w1b_below W F.p F.e (FM F b cap) (.slice aa n c))
 have HZ0 : Hid (W.heap.size + 1 ≤ (w1b W F.p F.e (FM F b cap) (.slice aa n c)).heap.size):=Lib.hid (by simp)
 clear hA na ea ha hO hF hx PB0
 go_enter Try.func58,Try.ntmps58
 go_wp2
 go_loopw [5,6] (fun v i wr=>∃ k : Nat,k ≤ n ∧ i = .int .i64 ((k : Int) - 1) ∧ v = .int .i64 (ev F x (A.drop k) : Nat) ∧ Hid (Below (W.heap.size + 1) (w1b W F.p F.e (FM F b cap) (.slice aa n c)) wr)) (fun _ i _=>(intOf i + 1).toNat)
 case atStart=>exact ⟨n,Nat.le_refl _,rfl,by rw [EA.out,List.drop_length]; rfl,Below.refl _ _⟩
 case round =>
  obtain ⟨k,hk,rfl,rfl,KB⟩:=hrel
  have HBW:=Lib.hid (HB0.out.trans (KB.out.mono (by omega)))
  have HZ:=Lib.hid (Nat.le_trans HZ0.out KB.out.size)
  have HP:=Lib.hid (PB.keep HPB.out KB.out (by omega))
  rcases k with _ | k
  ·go_wp2
   go_ret
   exact ⟨rfl,HBW.out⟩
  ·have h3 : (((k + 1 : Nat) : Int) - 1) = (k : Int):=by omega
   have hkA : k < A.length:=by have:=EA.out; omega
   have hkn : k < n:=by omega
   obtain ⟨cc,hcc⟩ : ∃ x,Hid (A.getD k 0 = x):=⟨_,rfl⟩
   have HC : Hid (cc < F.q):=Lib.hid (by rw [← hcc.out]; exact HA.out.get HFF.out k)
   have HV:=Lib.hid (ev_lt HFF.out x (A.drop (k + 1)))
   have HST : Hid (F.add (F.mul (ev F x (A.drop (k + 1))) x) cc = ev F x (A.drop k)):=Lib.hid (by rw [← hcc.out]; exact (ev_drop HFF.out hkA).symm)
   obtain ⟨b',off',rfl,hcA,hbW⟩ : ∃ b' off',aa = some ⟨b',off',none⟩ ∧ wr.cell? ⟨b',off' + k,none⟩ = some (.int .i64 (cc : Nat)) ∧ Hid (b' < W.heap.size):=by
    rw [← hcc.out]
    rcases NA.out with ⟨e,h⟩ | ⟨b',off',cap',h,g1,g2,g3⟩
    ·rw [e] at hkA; simp at hkA
    ·cases h; exact ⟨b',off',rfl,(HBW.out.cell (p:=⟨b',off' + k,none⟩) g2).trans (g3 k hkA),Lib.hid g2⟩
   have hS0 : SV W F.p F.e (FM F b cap) (.slice (some ⟨b',off',none⟩) n c) b' (off' + k) (.int .i64 (cc : Nat)) wr.drew:=⟨HP.out,hcA,Lib.hid HBW.out.drew,HZ⟩
   have HRR:=Lib.hid (Below.refl wr.heap.size wr)
   clear hkA hcA
   go_wp2_with fail
   refine wp_region_held_drew (S:=fun w'=>SV W F.p F.e (FM F b cap) (.slice (some ⟨b',off',none⟩) n c) b' (off' + k) (.int .i64 (cc : Nat)) w') (by kernel_rfl) (by with_reducible exact hS0) (fun hHeld=>?_)
   refine Rg.tk 0 ⟨some 15,.fieldAddr 61 (.tmp 2) 0,0,"polynomial.go:90",#[],none⟩ ?_
   try simp only [Rg.gp]
   refine Rg.tk 1 ⟨some 16,.load 28 (.tmp 15),28,"polynomial.go:90",#[⟨0,.data⟩],none⟩ ?_
   try simp only [Rg.gp]
   refine Rg.tk 2 ⟨some 17,.fieldAddr 61 (.tmp 2) 0,0,"polynomial.go:90",#[],none⟩ ?_
   try simp only [Rg.gp]
   refine Rg.tk 3 ⟨some 18,.load 28 (.tmp 17),28,"polynomial.go:90",#[⟨2,.data⟩],none⟩ ?_
   try simp only [Rg.gp]
   refine Rg.tk 4 ⟨some 19,.move (.tmp 5),3,"polynomial.go:90",#[],none⟩ ?_
   try simp only [Rg.gp]
   refine Rg.tk 5 ⟨some 20,.move (.tmp 1),3,"polynomial.go:90",#[],none⟩ ?_
   try simp only [Rg.gp]
   refine Rg.tk 7 ⟨some 22,.fieldAddr 61 (.tmp 2) 1,0,"polynomial.go:90",#[],none⟩ ?_
   try simp only [Rg.gp]
   refine Rg.tk 8 ⟨some 23,.load 25 (.tmp 22),25,"polynomial.go:90",#[⟨7,.data⟩],none⟩ ?_
   try simp only [Rg.gp]
   refine Rg.tk 9 ⟨some 24,.move (.tmp 6),3,"polynomial.go:90",#[],none⟩ ?_
   try simp only [Rg.gp]
   refine Rg.tk 10 ⟨some 25,.indexAddr 25 (.tmp 23) (.tmp 24),0,"polynomial.go:90",#[⟨8,.data⟩,⟨9,.data⟩],none⟩ ?_
   try simp only [Rg.gp]
   refine Rg.tk 11 ⟨some 26,.load 3 (.tmp 25),3,"polynomial.go:90",#[⟨10,.data⟩],none⟩ ?_
   try simp only [Rg.gp]
   refine Rg.rd1 6 ⟨some 21,.call ⟨.value (.func 68),#[.tmp 18,.tmp 19,.tmp 20],#[28,3,3]⟩,3,"polynomial.go:90",#[⟨3,.data⟩,⟨4,.data⟩,⟨5,.data⟩],none⟩ fun K hK=>?_
   go_simp
   go_at_call 68
   with_reducible refine (HO.out.mul _ hHeld.2.2.1.out (ev F x (A.drop (k + 1))) x HV.out HX.out).mono ?_
   rintro z v1 ⟨rfl,hb3⟩
   refine hK.out _ _ ?_ (fun hHeld=>?_)
   ·(try dsimp only)
    exact SV.keep hHeld hb3 hHeld.2.2.2.out hbW.out
   clear hK K
   try simp only [Rg.gp]
   refine Rg.rd1 12 ⟨some 27,.call ⟨.value (.func 73),#[.tmp 16,.tmp 21,.tmp 26],#[28,3,3]⟩,3,"polynomial.go:90",#[⟨1,.data⟩,⟨6,.data⟩,⟨11,.data⟩,⟨6,.chain⟩],none⟩ fun K hK=>?_
   go_simp
   go_at_call 73
   with_reducible refine (HO.out.add _ hHeld.2.2.1.out (F.mul (ev F x (A.drop (k + 1))) x) cc (HFF.out.mul_lt _ _) HC.out).mono ?_
   rintro z v2 ⟨rfl,hb4⟩
   refine hK.out _ _ ?_ (fun hHeld=>?_)
   ·(try dsimp only)
    exact SV.keep hHeld hb4 hHeld.2.2.2.out hbW.out
   clear hK K
   try simp only [Rg.gp]
   refine Rg.tk 13 ⟨some 5,.assign (.tmp 27),3,"polynomial.go:90",#[⟨12,.data⟩,⟨12,.chain⟩,⟨0,.phase⟩,⟨1,.phase⟩,⟨2,.phase⟩,⟨3,.phase⟩,⟨4,.phase⟩,⟨5,.phase⟩,⟨6,.phase⟩,⟨7,.phase⟩,⟨8,.phase⟩,⟨9,.phase⟩,⟨10,.phase⟩,⟨11,.phase⟩,⟨12,.phase⟩],none⟩ ?_
   try simp only [Rg.gp]
   refine wpAnyH_done (by kernel_rfl) ?_ _
   have HB3:=Lib.hid (KB.out.trans ((((Below.refl wr.heap.size wr).drew).trans (hb3.mono (Nat.le_refl _))).trans (hb4.mono (hb3.size)) |>.mono HZ.out))
   clear hHeld hS0 hb3 hb4
   rw [HST.out]
   go_wp2
   go_roundw
   case rel=>exact ⟨k,by omega,rfl,rfl,HB3⟩
   case measure=>simp [intOf]
set_option maxHeartbeats 3200000 in
theorem invlast_c {F : Gf} {b cap : Nat} {A : List Nat} {aa : Option Addr} {n c : Nat} {W : World} (hO : Ops F b cap W) (hA : Po F A) (ha : A.length ≤ 1000) (ea : n = A.length) (hne : A ≠ [])
  (na : NN A W (.slice aa n c)) : Calls Try.prog 67 #[PF F b cap aa n c] W fun e w'=>e = .returned (.int .i64 (F.inv (A.getD (A.length - 1) 0) : Nat)) ∧ Below W.heap.size W w':=by
 obtain ⟨k,hk⟩ : ∃ k,n = k + 1:=⟨n - 1,by have:=List.length_pos_iff.2 hne; omega⟩
 have e1 : A.length - 1 = k:=by omega
 rw [e1]
 obtain ⟨cc,hcc⟩ : ∃ x,Hid (A.getD k 0 = x):=⟨_,rfl⟩
 have HC : Hid (cc < F.q):=Lib.hid (by rw [← hcc.out]; exact hA.el.get hO.ok k)
 have HNZ : Hid (cc ≠ 0):=Lib.hid (by rw [← hcc.out,← e1]; exact cn_last hA.cn hne)
 rw [hcc.out]
 obtain ⟨b',off',rfl,hcA,hbW⟩ : ∃ b' off',aa = some ⟨b',off',none⟩ ∧ W.cell? ⟨b',off' + k,none⟩ = some (.int .i64 (cc : Nat)) ∧ Hid (b' < W.heap.size):=by
  rw [← hcc.out]
  rcases na with ⟨e,h⟩ | ⟨b',off',cap',h,g1,g2,g3⟩
  ·exact absurd e hne
  ·cases h; exact ⟨b',off',rfl,g3 k (by omega),Lib.hid g2⟩
 have hk1 : k ≤ 1000:=by omega
 have h3 : ((n : Int) - 1) = (k : Int):=by omega
 have hkn : k < n:=by omega
 have hnb : n ≤ 1000:=by omega
 have h5 : IntKind.i64.wrap (k : Int) = (k : Int):=IntWalk.i64_in _ (by omega)
 have HO:=Lib.hid hO
 have hb0:=w1b_below W F.p F.e (FM F b cap) (.slice (some ⟨b',off',none⟩) n c)
 have hS0 : SV W F.p F.e (FM F b cap) (.slice (some ⟨b',off',none⟩) n c) b' (off' + k) (.int .i64 (cc : Nat)) (w1b W F.p F.e (FM F b cap) (.slice (some ⟨b',off',none⟩) n c)).drew:=
  ⟨pb_at _ _ _ _ _,(hb0.cell (p:=⟨b',off' + k,none⟩) hbW.out).trans hcA,Lib.hid hb0.drew,Lib.hid (by simp)⟩
 clear hO hA ha ea hne na hcA hb0 e1 hk
 go_enter Try.func67,Try.ntmps67
 go_wp2
 refine wp_region_held_drew (S:=fun w'=>SV W F.p F.e (FM F b cap) (.slice (some ⟨b',off',none⟩) n c) b' (off' + k) (.int .i64 (cc : Nat)) w') (by kernel_rfl) (by with_reducible exact hS0) (fun hHeld=>?_)
 refine Rg.tk 0 ⟨some 6,.fieldAddr 61 (.tmp 1) 0,0,"polynomial.go:82",#[],none⟩ ?_
 try simp only [Rg.gp]
 refine Rg.tk 1 ⟨some 7,.load 28 (.tmp 6),28,"polynomial.go:82",#[⟨0,.data⟩],none⟩ ?_
 try simp only [Rg.gp]
 refine Rg.tk 2 ⟨some 8,.fieldAddr 61 (.tmp 1) 1,0,"polynomial.go:82",#[],none⟩ ?_
 try simp only [Rg.gp]
 refine Rg.tk 3 ⟨some 9,.load 25 (.tmp 8),25,"polynomial.go:82",#[⟨2,.data⟩],none⟩ ?_
 try simp only [Rg.gp]
 refine Rg.tk 4 ⟨some 10,.fieldAddr 61 (.tmp 1) 1,0,"polynomial.go:82",#[],none⟩ ?_
 try simp only [Rg.gp]
 refine Rg.tk 5 ⟨some 11,.load 25 (.tmp 10),25,"polynomial.go:82",#[⟨4,.data⟩],none⟩ ?_
 try simp only [Rg.gp]
 refine Rg.tk 6 ⟨some 12,.call ⟨.builtin Builtin.len,#[.tmp 11],#[25]⟩,3,"polynomial.go:82",#[⟨5,.data⟩],none⟩ ?_
 try simp only [Rg.gp]
 refine Rg.tk 7 ⟨some 13,.binOp BinOp.sub 3 (.tmp 12) (.const (Value.int IntKind.i64 1)) 3,3,"polynomial.go:82",#[⟨6,.data⟩],none⟩ ?_
 try simp only [Rg.gp]
 refine Rg.tk 8 ⟨some 14,.indexAddr 25 (.tmp 9) (.tmp 13),0,"polynomial.go:82",#[⟨3,.data⟩,⟨7,.data⟩],none⟩ ?_
 try simp only [Rg.gp]
 refine Rg.tk 9 ⟨some 15,.load 3 (.tmp 14),3,"polynomial.go:82",#[⟨8,.data⟩],none⟩ ?_
 try simp only [Rg.gp]
 refine Rg.rd1 10 ⟨some 16,.call ⟨.value (.func 71),#[.tmp 7,.tmp 15],#[28,3]⟩,53,"polynomial.go:82",#[⟨1,.data⟩,⟨9,.data⟩],none⟩ fun K hK=>?_
 go_simp
 go_at_call 71
 with_reducible refine (HO.out.inv _ hHeld.2.2.1.out cc HC.out HNZ.out).mono ?_
 rintro z v1 ⟨rfl,hb3⟩
 refine hK.out _ _ ?_ (fun hHeld=>?_)
 ·(try dsimp only)
  exact SV.keep hHeld hb3 hHeld.2.2.2.out hbW.out
 clear hK K
 try simp only [Rg.gp]
 refine Rg.tk 11 ⟨some 5,.move (.tmp 16),53,"polynomial.go:82",#[⟨10,.data⟩],none⟩ ?_
 try simp only [Rg.gp]
 refine Rg.tk 12 ⟨some 17,.extract (.tmp 5) 0,3,"polynomial.go:82",#[⟨11,.data⟩],none⟩ ?_
 try simp only [Rg.gp]
 refine Rg.tk 13 ⟨some 18,.extract (.tmp 5) 1,34,"polynomial.go:82",#[⟨11,.data⟩,⟨14,.gcOnly Go.Departure.lateStores⟩],none⟩ ?_
 try simp only [Rg.gp]
 refine Rg.tk 14 ⟨some 3,.assign (.tmp 17),3,"polynomial.go:82",#[⟨12,.data⟩,⟨10,.chain⟩,⟨0,.phase⟩,⟨1,.phase⟩,⟨2,.phase⟩,⟨3,.phase⟩,⟨4,.phase⟩,⟨5,.phase⟩,⟨6,.phase⟩,⟨7,.phase⟩,⟨8,.phase⟩,⟨9,.phase⟩,⟨10,.phase⟩,⟨11,.phase⟩,⟨12,.phase⟩,⟨13,.textOnly Go.Departure.lateStores⟩],none⟩ ?_
 try simp only [Rg.gp]
 refine Rg.tk 15 ⟨some 4,.assign (.tmp 18),34,"polynomial.go:82",#[⟨13,.data⟩,⟨14,.chain⟩,⟨0,.phase⟩,⟨1,.phase⟩,⟨2,.phase⟩,⟨3,.phase⟩,⟨4,.phase⟩,⟨5,.phase⟩,⟨6,.phase⟩,⟨7,.phase⟩,⟨8,.phase⟩,⟨9,.phase⟩,⟨10,.phase⟩,⟨11,.phase⟩,⟨12,.phase⟩,⟨13,.phase⟩,⟨14,.phase⟩],none⟩ ?_
 try simp only [Rg.gp]
 refine wpAnyH_done (by kernel_rfl) ?_ _
 have HBF:=hHeld.2.2.1
 clear hHeld hS0 hb3
 go_wp2
 go_ret
 exact ⟨rfl,HBF.out⟩
theorem NN.tr2 {L : List Nat} {w : World} {a : Option Addr} {n c : Nat} (h : NN L w (.slice a n c)) (e : n = L.length) : NN (trL L) w (.slice a (trL L).length c):=by subst e; exact h.tr
theorem below_drewnK {B : Nat} {a w : World} (h : Below B a w) (k : Nat) : Below B a (w.drewN k):=⟨h.os,h.tape,h.output,h.size,h.block⟩
theorem ret_boolK {a b : Bool} (h : a = b) : Ending.returned (.bool a) = .returned (.bool b):=by rw [h]
theorem take_eq_succ {A B : List Nat} {k : Nat} (h : A.take k = B.take k) (ha : k < A.length) (hb : k < B.length) (e : A.getD k 0 = B.getD k 0) : A.take (k + 1) = B.take (k + 1):=by
 rw [List.take_add_one,List.take_add_one,h]
 rw [List.getElem?_eq_getElem ha,List.getElem?_eq_getElem hb]
 simp [List.getD,ha,hb] at e
 rw [e]
set_option maxHeartbeats 1600000 in
theorem ints_c {A B : List Nat} {aa ab : Option Addr} {la lb ca cb : Nat} {W : World} (ha : A.length ≤ 100000) (hb : B.length ≤ 100000) (ea : la = A.length) (eb : lb = B.length) (na : NN A W (.slice aa la ca)) (nb : NN B W (.slice ab lb cb)) :
  Calls Try.prog 14 #[.slice aa la ca,.slice ab lb cb] W fun e w'=>e = .returned (.bool (decide (A = B))) ∧ Below W.heap.size W w':=by
 have EA:=Lib.hid ea
 have EB:=Lib.hid eb
 have NA:=Lib.hid na
 have NB:=Lib.hid nb
 have hla : la ≤ 100000:=by omega
 clear na nb ea eb ha hb
 by_cases hl : la = lb
 ·subst hl
  go_enter Try.func14,Try.ntmps14
  go_wp2
  go_loopw [5] (fun i wr=>∃ k : Nat,k ≤ la ∧ i = .int .i64 k ∧ Hid (A.take k = B.take k) ∧ Hid (Below W.heap.size W wr)) (fun i _=>la - (intOf i).toNat)
  case atStart=>exact ⟨0,Nat.zero_le _,rfl,rfl,Below.refl _ _⟩
  case round =>
   obtain ⟨k,hk,rfl,HT,KB⟩:=hrel
   by_cases hlt : k < la
   ·have hkA : k < A.length:=by have:=EA.out; omega
    have hkB : k < B.length:=by have:=EB.out; omega
    obtain ⟨xx,hxx⟩ : ∃ x,Hid (A.getD k 0 = x):=⟨_,rfl⟩
    obtain ⟨yy,hyy⟩ : ∃ x,Hid (B.getD k 0 = x):=⟨_,rfl⟩
    obtain ⟨b1,o1,rfl,hcA⟩ : ∃ b1 o1,aa = some ⟨b1,o1,none⟩ ∧ wr.cell? ⟨b1,o1 + k,none⟩ = some (.int .i64 (xx : Nat)):=by
     rw [← hxx.out]
     rcases NA.out.below KB.out with ⟨e,h⟩ | ⟨b',off',cap',h,g1,g2,g3⟩
     ·rw [e] at hkA; simp at hkA
     ·cases h; exact ⟨b',off',rfl,g3 k hkA⟩
    obtain ⟨b2,o2,rfl,hcB⟩ : ∃ b1 o1,ab = some ⟨b1,o1,none⟩ ∧ wr.cell? ⟨b1,o1 + k,none⟩ = some (.int .i64 (yy : Nat)):=by
     rw [← hyy.out]
     rcases NB.out.below KB.out with ⟨e,h⟩ | ⟨b',off',cap',h,g1,g2,g3⟩
     ·rw [e] at hkB; simp at hkB
     ·cases h; exact ⟨b',off',rfl,g3 k hkB⟩
    have HKA:=Lib.hid hkA
    have HKB:=Lib.hid hkB
    clear hkA hkB
    by_cases hxy : xx = yy
    ·have HST : Hid (A.take (k + 1) = B.take (k + 1)):=Lib.hid (take_eq_succ HT.out HKA.out HKB.out (by rw [hxx.out,hyy.out,hxy]))
     subst hxy
     go_wp2
     go_quiet (fail)
     go_wp2
     go_roundw
     case rel=>exact ⟨k + 1,by omega,by go_num,HST,below_drewnK KB.out _⟩
     case measure=>simp [intOf]; omega
    ·have HNE : Hid (¬ A = B):=Lib.hid (fun e=>hxy (by rw [← hxx.out,← hyy.out,e]))
     have hd : ((xx : Int) != (yy : Int)) = true:=by simp; omega
     have hd2 : ((xx : Int) == (yy : Int)) = false:=by simp; omega
     clear hxy
     go_wp2
     go_quiet (fail)
     go_wp2
     go_ret
     exact ⟨ret_boolK (decide_eq_false HNE.out).symm,below_drewnK KB.out _⟩
   ·obtain rfl : la = k:=by omega
    have HE : Hid (A = B):=Lib.hid (by
     have h:=HT.out
     have h1:=EA.out
     have h2:=EB.out
     rw [List.take_of_length_le (by omega),List.take_of_length_le (by omega)] at h
     exact h)
    go_wp2
    go_ret
    exact ⟨ret_boolK (decide_eq_true HE.out).symm,KB.out⟩
 ·have HNE : Hid (¬ A = B):=Lib.hid (fun e=>hl (by rw [EA.out,EB.out,e]))
  have hd : ((la : Int) != (lb : Int)) = true:=by simp; omega
  clear hl
  go_enter Try.func14,Try.ntmps14
  go_wp2
  go_ret
  exact ⟨ret_boolK (decide_eq_false HNE.out).symm,Below.refl _ _⟩
set_option maxHeartbeats 1600000 in
theorem power_c (p e : Nat) (hp : 2 ≤ p) (hq : p ^ e ≤ 64) (W : World) : Calls Try.prog 41 #[.int .i64 (p : Nat),.int .i64 (e : Nat)] W fun z w'=>z = .returned (.int .i64 (p ^ e : Nat)) ∧ w' = W:=by
 have mono : ∀ k,k ≤ e → p ^ k ≤ 64:=fun k hk=>Nat.le_trans (Nat.pow_le_pow_right (by omega) hk) hq
 have HM:=Lib.hid mono
 have hee : e ≤ 100000:=by
  have h2 : 2 ^ e ≤ p ^ e:=Nat.pow_le_pow_left hp e
  have h3 : e < 2 ^ e:=Nat.lt_two_pow_self
  omega
 clear mono hq
 go_enter Try.func41,Try.ntmps41
 go_wp2
 go_loopw [5,6] (fun v i wr=>∃ k : Nat,k ≤ e ∧ i = .int .i64 k ∧ v = .int .i64 (p ^ k : Nat) ∧ wr = W) (fun _ i _=>e - (intOf i).toNat)
 case atStart=>exact ⟨0,Nat.zero_le _,rfl,rfl,rfl⟩
 case round =>
  obtain ⟨k,hk,rfl,rfl,rfl⟩:=hrel
  by_cases hlt : k < e
  ·have h1:=HM.out (k + 1) hlt
   have h2:=HM.out k hk
   have HS : Hid (p ^ k * p = p ^ (k + 1)):=Lib.hid (Nat.pow_succ p k).symm
   have hm : ((p ^ k : Nat) : Int) * (p : Int) = ((p ^ (k + 1) : Nat) : Int):=by rw [← HS.out]; push_cast; rfl
   generalize hu1 : p ^ (k + 1) = u1 at *
   generalize hu : p ^ k = u at *
   have HU:=Lib.hid hu1
   clear hu1 hu
   have hw : IntKind.i64.wrap (u1 : Int) = (u1 : Int):=IntWalk.i64_in _ (by omega)
   go_wp2
   go_roundw
   case rel=>exact ⟨k + 1,by omega,by go_num,by rw [HU.out],trivial⟩
   case measure=>simp [intOf]; omega
  ·obtain rfl : e = k:=by omega
   go_wp2
   go_ret
   exact ⟨rfl,rfl⟩
theorem fld1 (p q : Int) (ma : Option Addr) (ml mc : Nat) (a : Option Addr) (n c : Nat) (w : World) : (Instr.field 61 (PV p q (.slice ma ml mc) a n c) 1).run Try.prog w = .ok (.slice a n c) w:=by kernel_rfl
def SlPost (L : List Nat) (w : World) (e : Ending) (w' : World) : Prop:=∃ a c,e = .returned (.slice a L.length c) ∧ NN L w' (.slice a L.length c) ∧ Below w.heap.size w w'
abbrev SF (W : World) (p q : Int) (m : Value) (w : World) : Prop:=FB W.heap.size p q m w ∧ Hid (Below W.heap.size W w) ∧ Hid (W.heap.size + 1 ≤ w.heap.size)
theorem SF.keep {W w w' : World} {p q : Int} {m : Value} {k : Nat} (h : SF W p q m w) (hb : Below k w w') (hk : W.heap.size + 1 ≤ k) : SF W p q m w':=
 ⟨FB.keep h.1 hb (by omega),Lib.hid (h.2.1.out.trans (hb.mono (by omega))),Lib.hid (Nat.le_trans h.2.2.out hb.size)⟩
inductive Kd where
 | eq (v : Value)
 | sl (l : List Nat)
 | pf (l : List Nat)
 | dm (l m : List Nat)
 | any
def Kd.ok (F : Gf) (b cap : Nat) : Kd → Value → World → Prop
 | .eq v,x,_=>x = v
 | .sl l,x,w=>∃ a c,x = .slice a l.length c ∧ NN l w (.slice a l.length c)
 | .pf l,x,w=>∃ a c,x = PF F b cap a l.length c ∧ NN l w (.slice a l.length c)
 | .dm l m,x,w=>∃ a c a' c',x = .tuple #[.slice a l.length c,.slice a' m.length c',.int .i64 0] ∧ NN l w (.slice a l.length c) ∧ NN m w (.slice a' m.length c')
 | .any,_,_=>True
def phi (F : Gf) (b cap : Nat) (L : List Kd) (j : Nat) (x : Value) (w : World) : Prop:=(L.getD j .any).ok F b cap x w
theorem phi_mono {F : Gf} {b cap : Nat} (L : List Kd) : ∀ j x w w',Below w.heap.size w w' → phi F b cap L j x w → phi F b cap L j x w':=by
 intro j x w w' hb h
 unfold phi at *
 generalize L.getD j .any = k at *
 match k,h with
 | .eq v,h=>exact h
 | .sl l,⟨a,c,e,h⟩=>exact ⟨a,c,e,h.below hb⟩
 | .pf l,⟨a,c,e,h⟩=>exact ⟨a,c,e,h.below hb⟩
 | .dm l m,⟨a,c,a',c',e,h,h'⟩=>exact ⟨a,c,a',c',e,h.below hb,h'.below hb⟩
 | .any,_=>trivial
set_option maxHeartbeats 6400000 in
theorem padd {F : Gf} {b cap : Nat} {A B : List Nat} {aa ab : Option Addr} {la lb ca cb : Nat} {W : World} (hO : Ops F b cap W) (hA : In F A) (hB : In F B) (ha : A.length ≤ 1000) (hb : B.length ≤ 1000) (ea : la = A.length) (eb : lb = B.length)
  (na : NN A W (.slice aa la ca)) (nb : NN B W (.slice ab lb cb)) : Calls Try.prog 21 #[FV F b cap,.slice aa la ca,.slice ab lb cb] W (SlPost (addP F (trL A) (trL B)) W):=by
 have HO:=Lib.hid hO
 have NA:=Lib.hid na
 have NB:=Lib.hid nb
 have EA:=Lib.hid ea
 have EB:=Lib.hid eb
 have HTA:=Lib.hid (in_trL hA)
 have HTB:=Lib.hid (in_trL hB)
 have HLA : Hid ((trL A).length ≤ 1000):=Lib.hid (Nat.le_trans (trL_len A) ha)
 have HLB : Hid ((trL B).length ≤ 1000):=Lib.hid (Nat.le_trans (trL_len B) hb)
 have hS0 : SF W F.p F.e (FM F b cap) (W.alloc (.cells #[.int .i64 F.p,.int .i64 F.e,FM F b cap] 28)).drew:=⟨by simp [FB],Lib.hid (((Below.refl _ _).alloc (Nat.le_refl _) _).drew),Lib.hid (by simp)⟩
 clear hO hA hB na nb ea eb
 go_enter Try.func21,Try.ntmps21
 go_wp2
 refine Go.Rg.region_by (S:=fun w'=>SF W F.p F.e (FM F b cap) w') (R:=fun w w'=>Below w.heap.size w w') (φ:=phi F b cap [.eq (FV F b cap),.eq (.slice aa la ca),.eq (PF F b cap aa (trL A).length ca),.eq (FV F b cap),.eq (.slice ab lb cb),.eq (PF F b cap ab (trL B).length cb),.pf (addP F (trL A) (trL B)),.sl (addP F (trL A) (trL B)),.sl (addP F (trL A) (trL B))]) (by kernel_rfl) (phi_mono _) (by kernel_rfl) (by kernel_rfl) (by rfl) (hS0) (Go.Rg.steps_ok ?steps) ?fin
 case steps =>
  refine ⟨fun a w hat K hK=>?_,?_⟩
  ·have e3 : a.tmps[3]?.getD undef = .pointer (some ⟨W.heap.size,0,none⟩):=hat.b 3 (by kernel_rfl) rfl
   have hSt:=hat.st
   rw [if_pos (by rfl)]
   go_simp
   exact hK.out _ _ hSt (Below.refl _ _) rfl
  refine ⟨Go.Rg.step_mv rfl (.inl rfl) (fun _=>Below.refl _ _) (fun a w hat=>hat.b 1 (by kernel_rfl) rfl),?_⟩
  refine ⟨fun a w hat K hK=>?_,?_⟩
  ·have e7 : a.tmps[7]?.getD undef = FV F b cap:=hat.d 0 7 (by kernel_rfl) (by kernel_rfl)
   have e8 : a.tmps[8]?.getD undef = .slice aa la ca:=hat.d 1 8 (by kernel_rfl) (by kernel_rfl)
   have hSt:=hat.st
   rw [if_pos (by rfl)]
   go_simp
   go_at_call 43
   with_reducible refine (over_c (L:=A) (by omega) EA.out (NA.out.below hSt.2.1.out)).mono ?_
   rintro z v' ⟨rfl,hb⟩
   exact hK.out _ _ (SF.keep hSt hb hSt.2.2.out) hb rfl
  refine ⟨fun a w hat K hK=>?_,?_⟩
  ·have e3 : a.tmps[3]?.getD undef = .pointer (some ⟨W.heap.size,0,none⟩):=hat.b 3 (by kernel_rfl) rfl
   have hSt:=hat.st
   rw [if_pos (by rfl)]
   go_simp
   exact hK.out _ _ hSt (Below.refl _ _) rfl
  refine ⟨Go.Rg.step_mv rfl (.inl rfl) (fun _=>Below.refl _ _) (fun a w hat=>hat.b 2 (by kernel_rfl) rfl),?_⟩
  refine ⟨fun a w hat K hK=>?_,?_⟩
  ·have e10 : a.tmps[10]?.getD undef = FV F b cap:=hat.d 3 10 (by kernel_rfl) (by kernel_rfl)
   have e11 : a.tmps[11]?.getD undef = .slice ab lb cb:=hat.d 4 11 (by kernel_rfl) (by kernel_rfl)
   have hSt:=hat.st
   rw [if_pos (by rfl)]
   go_simp
   go_at_call 43
   with_reducible refine (over_c (L:=B) (by omega) EB.out (NB.out.below hSt.2.1.out)).mono ?_
   rintro z v' ⟨rfl,hb⟩
   exact hK.out _ _ (SF.keep hSt hb hSt.2.2.out) hb rfl
  refine ⟨fun a w hat K hK=>?_,?_⟩
  ·have e9 : a.tmps[9]?.getD undef = PF F b cap aa (trL A).length ca:=hat.d 2 9 (by kernel_rfl) (by kernel_rfl)
   have e12 : a.tmps[12]?.getD undef = PF F b cap ab (trL B).length cb:=hat.d 5 12 (by kernel_rfl) (by kernel_rfl)
   have hSt:=hat.st
   rw [if_pos (by rfl)]
   go_simp
   go_at_call 53
   with_reducible refine (plus_c (HO.out.below hSt.2.1.out) HTA.out HTB.out HLA.out HLB.out rfl rfl ((NA.out.tr2 EA.out).below hSt.2.1.out) ((NB.out.tr2 EB.out).below hSt.2.1.out)).mono ?_
   rintro z v' ⟨a',c',rfl,hn',hb3,-⟩
   exact hK.out _ _ (SF.keep hSt hb3 hSt.2.2.out) hb3 ⟨a',c',rfl,hn'⟩
  refine ⟨fun a w hat K hK=>?_,?_⟩
  ·obtain ⟨a13,c13,e13,n13⟩:=(show (Kd.pf (addP F (trL A) (trL B))).ok F b cap (a.tmps[13]?.getD undef) w from hat.d 6 13 (by kernel_rfl) (by kernel_rfl))
   have hSt:=hat.st
   rw [if_pos (by rfl)]
   have hfd : ∀ w : World,(Instr.field 61 (PF F b cap a13 (addP F (trL A) (trL B)).length c13) 1).run Try.prog w = .ok (.slice a13 (addP F (trL A) (trL B)).length c13) w:=fun w=>fld1 _ _ _ _ _ _ _ _ w
   go_simp
   exact hK.out _ _ hSt (Below.refl _ _) ⟨a13,c13,rfl,n13⟩
  refine ⟨Go.Rg.step_mv rfl (.inr rfl) (fun _=>Below.refl _ _) (fun a w hat=>hat.d 7 14 (by kernel_rfl) (by kernel_rfl)),?_⟩
  exact trivial
 case fin =>
  intro a w hsz hdf hbase hSt hval
  obtain ⟨t,df⟩:=a
  have et:=Go.Rg.tmps_of hsz [7,8,9,10,11,12,13,14,6] (fun k hk=>hbase k (Go.Rg.base_of (by kernel_rfl) hk))
  have x7 : t.getD 7 undef = FV F b cap:=hval 0 7 (by kernel_rfl)
  have x8 : t.getD 8 undef = .slice aa la ca:=hval 1 8 (by kernel_rfl)
  have x9 : t.getD 9 undef = PF F b cap aa (trL A).length ca:=hval 2 9 (by kernel_rfl)
  have x10 : t.getD 10 undef = FV F b cap:=hval 3 10 (by kernel_rfl)
  have x11 : t.getD 11 undef = .slice ab lb cb:=hval 4 11 (by kernel_rfl)
  have x12 : t.getD 12 undef = PF F b cap ab (trL B).length cb:=hval 5 12 (by kernel_rfl)
  obtain ⟨p13,q13,x13,m13⟩:=(show (Kd.pf (addP F (trL A) (trL B))).ok F b cap (t.getD 13 undef) w from hval 6 13 (by kernel_rfl))
  obtain ⟨p14,q14,x14,m14⟩:=(show (Kd.sl (addP F (trL A) (trL B))).ok F b cap (t.getD 14 undef) w from hval 7 14 (by kernel_rfl))
  obtain ⟨p6,q6,x6,m6⟩:=(show (Kd.sl (addP F (trL A) (trL B))).ok F b cap (t.getD 6 undef) w from hval 8 6 (by kernel_rfl))
  clear hval hbase hsz
  simp only [List.foldl_cons,List.foldl_nil,x7,x8,x9,x10,x11,x12,x13,x14,x6] at et
  rw [et]
  have hdf' : df = _:=hdf
  rw [hdf']
  simp only [List.setIfInBounds_toArray,List.set_cons_zero,List.set_cons_succ]
  have HBF:=hSt.2.1
  clear hSt hS0
  go_wp2
  go_ret
  exact ⟨_,_,rfl,m6,HBF.out⟩
set_option maxHeartbeats 6400000 in
theorem pmul {F : Gf} {b cap : Nat} {A B : List Nat} {aa ab : Option Addr} {la lb ca cb : Nat} {W : World} (hO : Ops F b cap W) (hA : In F A) (hB : In F B) (ha : A.length ≤ 1000) (hb : B.length ≤ 1000) (ea : la = A.length) (eb : lb = B.length)
  (na : NN A W (.slice aa la ca)) (nb : NN B W (.slice ab lb cb)) : Calls Try.prog 23 #[FV F b cap,.slice aa la ca,.slice ab lb cb] W (SlPost (mulP F (trL A) (trL B)) W):=by
 have HO:=Lib.hid hO
 have NA:=Lib.hid na
 have NB:=Lib.hid nb
 have EA:=Lib.hid ea
 have EB:=Lib.hid eb
 have HTA:=Lib.hid (in_trL hA)
 have HTB:=Lib.hid (in_trL hB)
 have HLA : Hid ((trL A).length ≤ 1000):=Lib.hid (Nat.le_trans (trL_len A) ha)
 have HLB : Hid ((trL B).length ≤ 1000):=Lib.hid (Nat.le_trans (trL_len B) hb)
 have hS0 : SF W F.p F.e (FM F b cap) (W.alloc (.cells #[.int .i64 F.p,.int .i64 F.e,FM F b cap] 28)).drew:=⟨by simp [FB],Lib.hid (((Below.refl _ _).alloc (Nat.le_refl _) _).drew),Lib.hid (by simp)⟩
 clear hO hA hB na nb ea eb
 go_enter Try.func23,Try.ntmps23
 go_wp2
 refine Go.Rg.region_by (S:=fun w'=>SF W F.p F.e (FM F b cap) w') (R:=fun w w'=>Below w.heap.size w w') (φ:=phi F b cap [.eq (FV F b cap),.eq (.slice aa la ca),.eq (PF F b cap aa (trL A).length ca),.eq (FV F b cap),.eq (.slice ab lb cb),.eq (PF F b cap ab (trL B).length cb),.pf (mulP F (trL A) (trL B)),.sl (mulP F (trL A) (trL B)),.sl (mulP F (trL A) (trL B))]) (by kernel_rfl) (phi_mono _) (by kernel_rfl) (by kernel_rfl) (by rfl) (hS0) (Go.Rg.steps_ok ?steps) ?fin
 case steps =>
  refine ⟨fun a w hat K hK=>?_,?_⟩
  ·have e3 : a.tmps[3]?.getD undef = .pointer (some ⟨W.heap.size,0,none⟩):=hat.b 3 (by kernel_rfl) rfl
   have hSt:=hat.st
   rw [if_pos (by rfl)]
   go_simp
   exact hK.out _ _ hSt (Below.refl _ _) rfl
  refine ⟨Go.Rg.step_mv rfl (.inl rfl) (fun _=>Below.refl _ _) (fun a w hat=>hat.b 1 (by kernel_rfl) rfl),?_⟩
  refine ⟨fun a w hat K hK=>?_,?_⟩
  ·have e7 : a.tmps[7]?.getD undef = FV F b cap:=hat.d 0 7 (by kernel_rfl) (by kernel_rfl)
   have e8 : a.tmps[8]?.getD undef = .slice aa la ca:=hat.d 1 8 (by kernel_rfl) (by kernel_rfl)
   have hSt:=hat.st
   rw [if_pos (by rfl)]
   go_simp
   go_at_call 43
   with_reducible refine (over_c (L:=A) (by omega) EA.out (NA.out.below hSt.2.1.out)).mono ?_
   rintro z v' ⟨rfl,hb⟩
   exact hK.out _ _ (SF.keep hSt hb hSt.2.2.out) hb rfl
  refine ⟨fun a w hat K hK=>?_,?_⟩
  ·have e3 : a.tmps[3]?.getD undef = .pointer (some ⟨W.heap.size,0,none⟩):=hat.b 3 (by kernel_rfl) rfl
   have hSt:=hat.st
   rw [if_pos (by rfl)]
   go_simp
   exact hK.out _ _ hSt (Below.refl _ _) rfl
  refine ⟨Go.Rg.step_mv rfl (.inl rfl) (fun _=>Below.refl _ _) (fun a w hat=>hat.b 2 (by kernel_rfl) rfl),?_⟩
  refine ⟨fun a w hat K hK=>?_,?_⟩
  ·have e10 : a.tmps[10]?.getD undef = FV F b cap:=hat.d 3 10 (by kernel_rfl) (by kernel_rfl)
   have e11 : a.tmps[11]?.getD undef = .slice ab lb cb:=hat.d 4 11 (by kernel_rfl) (by kernel_rfl)
   have hSt:=hat.st
   rw [if_pos (by rfl)]
   go_simp
   go_at_call 43
   with_reducible refine (over_c (L:=B) (by omega) EB.out (NB.out.below hSt.2.1.out)).mono ?_
   rintro z v' ⟨rfl,hb⟩
   exact hK.out _ _ (SF.keep hSt hb hSt.2.2.out) hb rfl
  refine ⟨fun a w hat K hK=>?_,?_⟩
  ·have e9 : a.tmps[9]?.getD undef = PF F b cap aa (trL A).length ca:=hat.d 2 9 (by kernel_rfl) (by kernel_rfl)
   have e12 : a.tmps[12]?.getD undef = PF F b cap ab (trL B).length cb:=hat.d 5 12 (by kernel_rfl) (by kernel_rfl)
   have hSt:=hat.st
   rw [if_pos (by rfl)]
   go_simp
   go_at_call 52
   with_reducible refine (times_c (HO.out.below hSt.2.1.out) HTA.out HTB.out HLA.out HLB.out rfl rfl ((NA.out.tr2 EA.out).below hSt.2.1.out) ((NB.out.tr2 EB.out).below hSt.2.1.out)).mono ?_
   rintro z v' ⟨a',c',rfl,hn',hb3,-⟩
   exact hK.out _ _ (SF.keep hSt hb3 hSt.2.2.out) hb3 ⟨a',c',rfl,hn'⟩
  refine ⟨fun a w hat K hK=>?_,?_⟩
  ·obtain ⟨a13,c13,e13,n13⟩:=(show (Kd.pf (mulP F (trL A) (trL B))).ok F b cap (a.tmps[13]?.getD undef) w from hat.d 6 13 (by kernel_rfl) (by kernel_rfl))
   have hSt:=hat.st
   rw [if_pos (by rfl)]
   have hfd : ∀ w : World,(Instr.field 61 (PF F b cap a13 (mulP F (trL A) (trL B)).length c13) 1).run Try.prog w = .ok (.slice a13 (mulP F (trL A) (trL B)).length c13) w:=fun w=>fld1 _ _ _ _ _ _ _ _ w
   go_simp
   exact hK.out _ _ hSt (Below.refl _ _) ⟨a13,c13,rfl,n13⟩
  refine ⟨Go.Rg.step_mv rfl (.inr rfl) (fun _=>Below.refl _ _) (fun a w hat=>hat.d 7 14 (by kernel_rfl) (by kernel_rfl)),?_⟩
  exact trivial
 case fin =>
  intro a w hsz hdf hbase hSt hval
  obtain ⟨t,df⟩:=a
  have et:=Go.Rg.tmps_of hsz [7,8,9,10,11,12,13,14,6] (fun k hk=>hbase k (Go.Rg.base_of (by kernel_rfl) hk))
  have x7 : t.getD 7 undef = FV F b cap:=hval 0 7 (by kernel_rfl)
  have x8 : t.getD 8 undef = .slice aa la ca:=hval 1 8 (by kernel_rfl)
  have x9 : t.getD 9 undef = PF F b cap aa (trL A).length ca:=hval 2 9 (by kernel_rfl)
  have x10 : t.getD 10 undef = FV F b cap:=hval 3 10 (by kernel_rfl)
  have x11 : t.getD 11 undef = .slice ab lb cb:=hval 4 11 (by kernel_rfl)
  have x12 : t.getD 12 undef = PF F b cap ab (trL B).length cb:=hval 5 12 (by kernel_rfl)
  obtain ⟨p13,q13,x13,m13⟩:=(show (Kd.pf (mulP F (trL A) (trL B))).ok F b cap (t.getD 13 undef) w from hval 6 13 (by kernel_rfl))
  obtain ⟨p14,q14,x14,m14⟩:=(show (Kd.sl (mulP F (trL A) (trL B))).ok F b cap (t.getD 14 undef) w from hval 7 14 (by kernel_rfl))
  obtain ⟨p6,q6,x6,m6⟩:=(show (Kd.sl (mulP F (trL A) (trL B))).ok F b cap (t.getD 6 undef) w from hval 8 6 (by kernel_rfl))
  clear hval hbase hsz
  simp only [List.foldl_cons,List.foldl_nil,x7,x8,x9,x10,x11,x12,x13,x14,x6] at et
  rw [et]
  have hdf' : df = _:=hdf
  rw [hdf']
  simp only [List.setIfInBounds_toArray,List.set_cons_zero,List.set_cons_succ]
  have HBF:=hSt.2.1
  clear hSt hS0
  go_wp2
  go_ret
  exact ⟨_,_,rfl,m6,HBF.out⟩
end Go.Proofs.Ytllecfhfhcmpaaa
