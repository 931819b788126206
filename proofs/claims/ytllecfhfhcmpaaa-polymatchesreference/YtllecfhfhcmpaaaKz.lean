/- Interpolate. -/
import Derived.Test.YtllecfhfhcmpaaaEvTk
import Derived.Test.YtllecfhfhcmpaaaKy
namespace Go.Proofs.Ytllecfhfhcmpaaa
open Go.RowKit Go.Fl
set_option maxRecDepth 100000
set_option linter.unusedVariables false
set_option linter.unusedSimpArgs false
set_option linter.unusedSectionVars false
theorem interp_no {F : Gf} {b cap : Nat} {X Y : List Nat} {ax ay : Option Addr} {nx ny cx cy : Nat} {W : World} (ex : nx = X.length) (hx : X.length ≤ 100000) (ey : ny ≤ 100000) (hn : NN X W (.slice ax nx cx)) (hb : nx ≠ ny ∨ ¬ X.Nodup) :
  Calls Try.prog 19 #[FV F b cap,.slice ax nx cx,.slice ay ny cy] W fun e w'=>e = .returned (.tuple #[.slice none 0 0,.int .i64 1]) ∧ Below W.heap.size W w':=by
 have HB0 : Hid (Below W.heap.size W (W.alloc (.cells #[.int .i64 F.p,.int .i64 F.e,FM F b cap] 28))):=Lib.hid ((Below.refl _ _).alloc (Nat.le_refl _) _)
 by_cases hne : nx = ny
 ·subst hne
  have hnd : ¬ X.Nodup:=hb.resolve_left (fun h=>h rfl)
  have HRP : Hid (∀ w,Below W.heap.size W w → Calls Try.prog 49 #[.slice ax nx cx] w fun e w'=>e = .returned (.bool true) ∧ Below w.heap.size w w'):=Lib.hid (fun w hw=>by
   have:=repeats_c (W:=w) hx ex (hn.below hw)
   rw [decide_eq_true hnd] at this
   exact this)
  have hd : ((nx : Int) != (nx : Int)) = false:=by simp
  clear hb hnd ex hn hx
  go_enter Try.func19,Try.ntmps19
  go_wp2_with fail
  with_reducible refine (HRP.out _ HB0.out).mono ?_
  rintro z w1 ⟨rfl,hb1⟩
  have HB1:=Lib.hid (HB0.out.trans (hb1.mono (by simp)))
  clear hb1
  go_wp2
  exact bodyPost_ret (v:=.tuple #[.slice none 0 0,.int .i64 1]) (by simp [results,Try.results19,go_sem]) rfl ⟨rfl,HB1.out⟩
 ·have hd : ((nx : Int) != (ny : Int)) = true:=by simp; omega
  clear hb ex hn hx
  go_enter Try.func19,Try.ntmps19
  go_wp2
  exact bodyPost_ret (v:=.tuple #[.slice none 0 0,.int .i64 1]) (by simp [results,Try.results19,go_sem]) rfl ⟨rfl,HB0.out⟩
structure II (F : Gf) (b cap : Nat) (W : World) (gp : Nat) (X R P : List Nat) (ax ar ap : Option Addr) (cx cr cp : Nat) (w : World) : Prop where
 fb : FB W.heap.size F.p F.e (FM F b cap) w
 pb : PB gp F.p F.e (FM F b cap) (.slice ap P.length cp) w
 fz : ∀ j,w.frozen? ⟨gp,j,none⟩ = false
 np : NN P w (.slice ap P.length cp)
 da : ∀ x o,ap = some ⟨x,o,none⟩ → x ≠ gp
 nx : NN X w (.slice ax X.length cx)
 dx : ∀ x o,ax = some ⟨x,o,none⟩ → x ≠ gp
 nr : NN R w (.slice ar R.length cr)
 dr : ∀ x o,ar = some ⟨x,o,none⟩ → x ≠ gp
 bl : Below W.heap.size W w
 sp : gp < w.heap.size
 wp : W.heap.size + 1 ≤ gp
theorem II.keep {F : Gf} {b cap : Nat} {W : World} {gp : Nat} {X R P : List Nat} {ax ar ap : Option Addr} {cx cr cp : Nat} {w w' : World} (h : II F b cap W gp X R P ax ar ap cx cr cp w) (hb : Below w.heap.size w w') : II F b cap W gp X R P ax ar ap cx cr cp w':=
 ⟨FB.keep h.fb hb (by have:=h.wp; have:=h.sp; omega),PB.keep h.pb hb h.sp,fun j=>(hb.frozen h.sp).trans (h.fz j),h.np.below hb,h.da,h.nx.below hb,h.dx,h.nr.below hb,h.dr,h.bl.trans (hb.mono (by have:=h.wp; have:=h.sp; omega)),Nat.lt_of_lt_of_le h.sp hb.size,h.wp⟩
abbrev SI (F : Gf) (b cap : Nat) (W : World) (gp : Nat) (X R P : List Nat) (ax ar ap : Option Addr) (cx cr cp : Nat) (bx ox : Nat) (v0 : World) (w : World) : Prop:=
 FB W.heap.size F.p F.e (FM F b cap) w ∧ PB gp F.p F.e (FM F b cap) (.slice ap P.length cp) w ∧ Hid (II F b cap W gp X R P ax ar ap cx cr cp w) ∧ Hid (v0.heap.size ≤ w.heap.size)
theorem SI.keep {F : Gf} {b cap : Nat} {W : World} {gp : Nat} {X R P : List Nat} {ax ar ap : Option Addr} {cx cr cp : Nat} {bx ox : Nat} {v0 w w' : World} (h : SI F b cap W gp X R P ax ar ap cx cr cp bx ox v0 w) (hb : Below w.heap.size w w') : SI F b cap W gp X R P ax ar ap cx cr cp bx ox v0 w':=by
 have h2:=h.2.2.1.out.keep hb
 exact ⟨h2.fb,h2.pb,Lib.hid h2,Lib.hid (Nat.le_trans h.2.2.2.out hb.size)⟩
theorem NN.lt {L : List Nat} {w : World} {a : Option Addr} {n c x o : Nat} (h : NN L w (.slice a n c)) (e : a = some ⟨x,o,none⟩) : x < w.heap.size:=by
 rcases h with ⟨_,h⟩ | ⟨b',off',cap',h,g1,g2,g3⟩
 ·cases h; cases e
 ·cases h; cases e; exact g2
theorem NN.at {L : List Nat} {w : World} {b o n c t : Nat} (h : NN L w (.slice (some ⟨b,o,none⟩) n c)) (ht : t < L.length) : w.cell? ⟨b,o + t,none⟩ = some (.int .i64 (L.getD t 0 : Nat)):=by
 rcases h with ⟨e,h⟩ | ⟨b',off',cap',h,g1,g2,g3⟩
 ·cases h
 ·cases h; exact g3 t ht
theorem NN.adr {L : List Nat} {w : World} {a : Option Addr} {n c : Nat} (h : NN L w (.slice a n c)) (hl : 0 < L.length) : ∃ b o,a = some ⟨b,o,none⟩ ∧ L.length ≤ c:=by
 rcases h with ⟨e,h⟩ | ⟨b',off',cap',h,g1,g2,g3⟩
 ·rw [e] at hl; simp at hl
 ·cases h; exact ⟨b',off',rfl,g1⟩
theorem NN.one {L : List Nat} {w : World} {b o n c t x : Nat} (h : NN L w (.slice (some ⟨b,o,none⟩) n c)) (ht : t < L.length) (hx : L.getD t 0 = x) : NN [x] w (.slice (some ⟨b,o + t,none⟩) 1 (c - t)):=by
 have hc:=h.at ht
 rcases h with ⟨e,h⟩ | ⟨b',off',cap',h,g1,g2,g3⟩
 ·cases h
 ·cases h
  refine .inr ⟨b,o + t,c - t,rfl,by simp; omega,g2,fun s hs=>?_⟩
  have : s = 0:=by simpa using hs
  subst this
  rw [Nat.add_zero,hc,hx]; rfl
def InPost (F : Gf) (X Y : List Nat) (n : Nat) (w : World) (e : Ending) (w' : World) : Prop:=∃ P a c,e = .returned (.tuple #[.slice a P.length c,.int .i64 0]) ∧ NN P w' (.slice a P.length c) ∧ Po F P ∧ P.length ≤ n ∧ (∀ k,k < n → ev F (X.getD k 0) P = Y.getD k 0) ∧ Below w.heap.size w w'
set_option maxHeartbeats 12800000 in
theorem interp_c {F : Gf} [H : OkC F] {b cap : Nat} {X Y : List Nat} {ax ay : Option Addr} {n cx cy : Nat} {W : World} (hO : Ops F b cap W) (hX : In F X) (hY : In F Y) (eX : X.length = n) (eY : Y.length = n) (hn : n ≤ 900) (hnd : X.Nodup)
  (nx : NN X W (.slice ax n cx)) (ny : NN Y W (.slice ay n cy)) : Calls Try.prog 19 #[FV F b cap,.slice ax n cx,.slice ay n cy] W (InPost F X Y n W):=by
 have HRP : Hid (∀ w,Below W.heap.size W w → Calls Try.prog 49 #[.slice ax n cx] w fun e w'=>e = .returned (.bool false) ∧ Below w.heap.size w w'):=Lib.hid (fun w hw=>by
  have:=repeats_c (W:=w) (by omega) eX.symm (nx.below hw)
  rw [decide_eq_false (fun h=>h hnd)] at this
  exact this)
 have HDF : Hid (∀ w,Below W.heap.size W w → Calls Try.prog 50 #[FV F b cap,.slice ax n cx,.slice ay n cy] w (DdPost F (fe F X hX) (fe F Y hY) n w)):=Lib.hid (fun w hw=>diff_c (hO.below hw) hX hY eX eY (by omega) hnd (nx.below hw) (ny.below hw))
 have HDI : Hid (∀ i j,i < n → j < n → i ≠ j → fe F X hX i ≠ fe F X hX j):=Lib.hid (fun i j hi hj hij e=>by
  have h4 : X.getD i 0 = X.getD j 0:=congrArg Subtype.val e
  rcases Nat.lt_or_ge i j with h5 | h5
  ·exact not_nodup (by omega) h5 h4 hnd
  ·exact not_nodup (by omega) (by omega : j < i) h4.symm hnd)
 have HOV : Hid (∀ w,Calls Try.prog 43 #[FV F b cap,.slice none 0 0] w fun e w'=>e = .returned (PF F b cap none 0 0) ∧ Below w.heap.size w w'):=Lib.hid (fun w=>over_c (p:=F.p) (q:=F.e) (ma:=some ⟨b,0,none⟩) (ml:=F.e) (mc:=cap) (L:=[]) (by simp) rfl (.inl ⟨rfl,rfl⟩))
 obtain ⟨x,hx⟩ : ∃ x,Hid (fe F X hX = x):=⟨_,rfl⟩
 obtain ⟨y,hy⟩ : ∃ y,Hid (fe F Y hY = y):=⟨_,rfl⟩
 have HXV : Hid (∀ t,X.getD t 0 = (x t).1):=Lib.hid (fun t=>by rw [← hx.out]; rfl)
 have HYV : Hid (∀ t,Y.getD t 0 = (y t).1):=Lib.hid (fun t=>by rw [← hy.out]; rfl)
 rw [hx.out,hy.out] at HDF
 rw [hx.out] at HDI
 have NX:=Lib.hid nx
 have EX:=Lib.hid eX
 have HO:=Lib.hid hO
 have HB0 : Hid (Below W.heap.size W (W.alloc (.cells #[.int .i64 F.p,.int .i64 F.e,FM F b cap] 28))):=Lib.hid ((Below.refl _ _).alloc (Nat.le_refl _) _)
 have hfb : FB W.heap.size F.p F.e (FM F b cap) (W.alloc (.cells #[.int .i64 F.p,.int .i64 F.e,FM F b cap] 28)):=by simp [FB]
 have HFB0:=Lib.hid hfb
 have hd : ((n : Int) != (n : Int)) = false:=by simp
 clear eX eY hO hnd nx ny hfb
 go_enter Try.func19,Try.ntmps19
 go_wp2_with fail
 with_reducible refine (HRP.out _ HB0.out).mono ?_
 rintro z w1 ⟨rfl,hb1⟩
 have HB1:=Lib.hid (HB0.out.trans (hb1.mono (by simp)))
 have HFB1:=Lib.hid (FB.keep HFB0.out hb1 (by simp))
 have HZ1 : Hid (W.heap.size + 1 ≤ w1.heap.size):=Lib.hid (Nat.le_trans (by simp) hb1.size)
 clear hb1 HB0 HFB0 HRP
 obtain ⟨f0,f1,f2⟩:=HFB1.out
 go_wp2_with fail
 with_reducible refine (HDF.out _ HB1.out).mono ?_
 rintro z w2 ⟨R,ar,cr,rfl,hnr,hlr,hir,hdr,hb2⟩
 have HNR:=Lib.hid hnr
 have HLR:=Lib.hid hlr
 have HIR:=Lib.hid hir
 have HDR:=Lib.hid hdr
 have HB2:=Lib.hid (HB1.out.trans (hb2.mono HB1.out.size))
 have HFB2:=Lib.hid (FB.keep HFB1.out hb2 (by have:=HZ1.out; omega))
 have HZ2 : Hid (W.heap.size + 1 ≤ w2.heap.size):=Lib.hid (Nat.le_trans HZ1.out hb2.size)
 clear hb2 hnr hlr hir hdr f0 f1 f2 HFB1 HB1 HZ1 HDF
 obtain ⟨f0,f1,f2⟩:=HFB2.out
 go_wp2_with fail
 with_reducible refine (HOV.out _).mono ?_
 rintro z w3 ⟨rfl,hb3⟩
 have HI0 : Hid (II F b cap W w3.heap.size X R [] ax ar none cx cr 0 (w3.alloc (.cells #[.int .i64 F.p,.int .i64 F.e,FM F b cap,.slice none 0 0] 61))):=Lib.hid (by
  have ha : Below w3.heap.size w3 (w3.alloc (.cells #[.int .i64 F.p,.int .i64 F.e,FM F b cap,.slice none 0 0] 61)):=(Below.refl _ _).alloc (Nat.le_refl _) _
  have hz:=HZ2.out
  have hs:=hb3.size
  have nx0 : NN X W (.slice ax X.length cx):=by rw [EX.out]; exact NX.out
  have nr0 : NN R w2 (.slice ar R.length cr):=by rw [HLR.out]; exact HNR.out
  have nx3:=((nx0.below HB2.out).below hb3)
  have nr3:=nr0.below hb3
  exact ⟨FB.keep (FB.keep HFB2.out hb3 (by omega)) ha (by omega),pb_at _ _ _ _ _,fun j=>World.frozen?_alloc_at _ _ _ _ rfl,.inl ⟨rfl,rfl⟩,fun x o e=>(by cases e),nx3.below ha,fun x o e=>(by have:=nx3.lt e; omega),nr3.below ha,fun x o e=>(by have:=nr3.lt e; omega),
   (HB2.out.trans (hb3.mono (by omega))).trans (ha.mono (by omega)),by simp,by omega⟩)
 obtain ⟨gp,hgp⟩ : ∃ gp,gp = w3.heap.size:=⟨_,rfl⟩
 rw [← hgp] at HI0
 have HGP:=Lib.hid hgp
 clear hb3 hgp f0 f1 f2 HFB2 HNR
 go_wp2_with fail
 rw [← HGP.out]
 go_loopw [10] (fun i wr=>∃ (m : Nat) (ap : Option Addr) (cp : Nat),i = .int .i64 ((n : Int) - 1 - (m : Int)) ∧ m ≤ n ∧ Hid (II F b cap W gp X R (nP F x y n m) ax ar ap cx cr cp wr)) (fun i _=>(intOf i + 1).toNat)
 case atStart=>exact ⟨0,none,0,by simp,Nat.zero_le _,HI0⟩
 case round =>
  obtain ⟨m,ap,cp,rfl,hm,HI⟩:=hrel
  have HPO:=Lib.hid (nP_po x y n m)
  have HPL:=Lib.hid (nP_len x y n m)
  by_cases hlt : m < n
  ·obtain ⟨j,hj⟩ : ∃ j,j = n - (m + 1):=⟨_,rfl⟩
   have hji : (n : Int) - 1 - (m : Int) = (j : Int):=by omega
   have hjn : j < n:=by omega
   have hwj : IntKind.i64.wrap ((j : Int) + 1) = (j : Int) + 1:=IntWalk.i64_in _ (by omega)
   have HJ:=Lib.hid hj
   have HJX : Hid (j < X.length):=Lib.hid (by rw [EX.out]; exact hjn)
   have HJR : Hid (j < R.length):=Lib.hid (by rw [HLR.out]; exact hjn)
   obtain ⟨bx,ox,rfl,hxc⟩:=HI.out.nx.adr (by have:=HJX.out; omega)
   obtain ⟨br,orr,rfl,hrc⟩:=HI.out.nr.adr (by have:=HJR.out; omega)
   have hncx : n ≤ cx:=by rw [← EX.out]; exact hxc
   have hncr : n ≤ cr:=by rw [← HLR.out]; exact hrc
   have hs1 : (0 : Int) ≤ (j : Int) + 1:=by omega
   have hs2 : (j : Int) + 1 ≤ (cr : Int):=by omega
   have hs3 : (0 : Int) ≤ (j : Int):=by omega
   have hs4 : (j : Int) ≤ (j : Int) + 1:=by omega
   have hs7 : ¬ cr = j:=by omega
   have hs5 : ((j : Int) + 1).toNat - j = 1:=by omega
   have hs6 : ((j : Int) + 1 - (j : Int)).toNat = 1:=by omega
   obtain ⟨xj,hxj⟩ : ∃ v,Hid (X.getD j 0 = v):=⟨_,rfl⟩
   obtain ⟨dj,hdj⟩ : ∃ v,Hid (R.getD j 0 = v):=⟨_,rfl⟩
   have HXQ : Hid (xj < F.q):=Lib.hid (by rw [← hxj.out]; exact hX.get H.ok _)
   have HDQ : Hid (dj < F.q):=Lib.hid (by rw [← hdj.out]; exact HIR.out.get H.ok _)
   have HNXT : Hid (addP F (mulP F [F.neg xj,1] (nP F x y n m)) (trL [dj]) = nP F x y n (m + 1)):=Lib.hid (by
    show _ = addP F (mulP F [F.neg (x (n - (m + 1))).1,1] (nP F x y n m)) (trL [(dd x y (n - (m + 1)) 0).1])
    rw [← HJ.out,← HXV.out,← HDR.out j hjn,hxj.out,hdj.out])
   generalize nP F x y n m = P at *
   obtain ⟨L1,hL1⟩ : ∃ L,Hid ([F.neg xj,1] = L):=⟨_,rfl⟩
   have H1 : Hid (Po F L1 ∧ L1.length = 2):=Lib.hid (by rw [← hL1.out]; exact ⟨lin_po H.ok xj,rfl⟩)
   obtain ⟨L2,hL2⟩ : ∃ L,Hid (mulP F L1 P = L):=⟨_,rfl⟩
   have H2 : Hid (Po F L2 ∧ L2.length ≤ 1000):=Lib.hid (by
    rw [← hL2.out]
    have:=mulP_le H.ok H1.out.1 HPO.out
    have:=H1.out.2
    have:=HPL.out
    exact ⟨mulP_po H.ok _ _,by omega⟩)
   obtain ⟨L4,hL4⟩ : ∃ L,Hid (trL [dj] = L):=⟨_,rfl⟩
   have H4 : Hid (Po F L4 ∧ L4.length ≤ 1000):=Lib.hid (by rw [← hL4.out]; exact ⟨Po.tr (In.cons HDQ.out In.nil),Nat.le_trans (trL_len _) (by simp)⟩)
   obtain ⟨L3,hL3⟩ : ∃ L,Hid (addP F L2 L4 = L):=⟨_,rfl⟩
   have HL3 : Hid (L3 = nP F x y n (m + 1)):=Lib.hid (by rw [← hL3.out,← hL2.out,← hL4.out,← hL1.out]; exact HNXT.out)
   have hS0 : SI F b cap W gp X R P (some ⟨bx,ox,none⟩) (some ⟨br,orr,none⟩) ap cx cr cp bx ox wr wr.drew:=SI.keep ⟨HI.out.fb,HI.out.pb,HI,Lib.hid (Nat.le_refl _)⟩ (Below.refl _ _).drew
   rw [hji]
   clear hj hxc hrc HNXT
   obtain ⟨f0,f1,f2⟩:=HI.out.fb
   go_wp2_with fail
   refine Go.Rg.region_pre (n0:=16) (fl:=17) (m:=1) (M:=#[true,true,true,true,true,true,true,true,true,true,true,true,true,true,true,true,false]) (S:=fun w'=>SI F b cap W gp X R P (some ⟨bx,ox,none⟩) (some ⟨br,orr,none⟩) ap cx cr cp bx ox wr w') (R:=fun w w'=>Below w.heap.size w w') (φ:=ph F b cap [.eq (FV F b cap),.eq (.slice (some ⟨bx,ox,none⟩) n cx),.eq (.int .i64 (j : Nat)),.eq (.pointer (some ⟨bx,ox + j,none⟩)),.eq (.int .i64 (xj : Nat)),.pn (gp + 1) (L1),.eq (PF F b cap ap P.length cp),.pn (gp + 1) (L2),.eq (FV F b cap),.eq (.slice (some ⟨br,orr,none⟩) n cr),.eq (.int .i64 (j : Nat)),.eq (.int .i64 (j : Nat)),.eq (.int .i64 ((j : Int) + 1)),.sl ([dj]),.pf (L4),.pn (gp + 1) (L3)]) (ψ:=psi [.eq (FV F b cap),.eq (.slice (some ⟨bx,ox,none⟩) n cx),.eq (.int .i64 (j : Nat)),.eq (.pointer (some ⟨bx,ox + j,none⟩)),.eq (.int .i64 (xj : Nat)),.pn (gp + 1) (L1),.eq (PF F b cap ap P.length cp),.pn (gp + 1) (L2),.eq (FV F b cap),.eq (.slice (some ⟨br,orr,none⟩) n cr),.eq (.int .i64 (j : Nat)),.eq (.int .i64 (j : Nat)),.eq (.int .i64 ((j : Int) + 1)),.sl ([dj]),.pf (L4),.pn (gp + 1) (L3)]) (χ:=chi [.eq (FV F b cap),.eq (.slice (some ⟨bx,ox,none⟩) n cx),.eq (.int .i64 (j : Nat)),.eq (.pointer (some ⟨bx,ox + j,none⟩)),.eq (.int .i64 (xj : Nat)),.pn (gp + 1) (L1),.eq (PF F b cap ap P.length cp),.pn (gp + 1) (L2),.eq (FV F b cap),.eq (.slice (some ⟨br,orr,none⟩) n cr),.eq (.int .i64 (j : Nat)),.eq (.int .i64 (j : Nat)),.eq (.int .i64 ((j : Int) + 1)),.sl ([dj]),.pf (L4),.pn (gp + 1) (L3)]) (by kernel_rfl) (ph_mono _) (psi_sep _) (by decide) (by kernel_rfl) (by kernel_rfl) (by kernel_rfl) (by kernel_rfl) (by kernel_rfl) (fun h=>absurd h (by decide)) (by rfl) (hS0) ?steps ?fin
   case steps =>
    refine ⟨fun a w hat K hK=>?_,?_⟩
    ·have e3 : a.tmps[3]?.getD undef = .pointer (some ⟨W.heap.size,0,none⟩):=hat.b 3 (by kernel_rfl) rfl
     have hSt:=hat.st
     rw [if_pos (by rfl)]
     go_simp
     exact hK.out _ _ hSt (Below.refl _ _) rfl noB
    refine ⟨Go.Rg.step2_mv rfl (.inl rfl) (fun _=>Below.refl _ _) (fun _ _=>noB) (fun a w hat=>hat.b 1 (by kernel_rfl) rfl),?_⟩
    refine ⟨Go.Rg.step2_mv rfl (.inl rfl) (fun _=>Below.refl _ _) (fun _ _=>noB) (fun a w hat=>hat.b 10 (by kernel_rfl) rfl),?_⟩
    refine ⟨fun a w hat K hK=>?_,?_⟩
    ·have e34 : a.tmps[34]?.getD undef = .slice (some ⟨bx,ox,none⟩) n cx:=hat.d 1 34 (by kernel_rfl) (by kernel_rfl)
     have e35 : a.tmps[35]?.getD undef = .int .i64 (j : Nat):=hat.d 2 35 (by kernel_rfl) (by kernel_rfl)
     have hSt:=hat.st
     rw [if_pos (by rfl)]
     go_simp
     exact hK.out _ _ hSt (Below.refl _ _) rfl noB
    refine ⟨fun a w hat K hK=>?_,?_⟩
    ·have e36 : a.tmps[36]?.getD undef = .pointer (some ⟨bx,ox + j,none⟩):=hat.d 3 36 (by kernel_rfl) (by kernel_rfl)
     have hSt:=hat.st
     rw [if_pos (by rfl)]
     have hc:=hSt.2.2.1.out.nx.at HJX.out
     rw [hxj.out] at hc
     go_simp
     exact hK.out _ _ hSt (Below.refl _ _) rfl noB
    refine ⟨fun a w hat K hK=>?_,?_⟩
    ·have e33 : a.tmps[33]?.getD undef = FV F b cap:=hat.d 0 33 (by kernel_rfl) (by kernel_rfl)
     have e37 : a.tmps[37]?.getD undef = .int .i64 (xj : Nat):=hat.d 4 37 (by kernel_rfl) (by kernel_rfl)
     have hSt:=hat.st
     rw [if_pos (by rfl)]
     go_simp
     go_at_call 51
     with_reducible refine (minus_c (HO.out.below hSt.2.2.1.out.bl) HXQ.out).mono ?_
     rw [hL1.out]
     rintro z' v' ⟨a',c',rfl,hn',hb,hfr⟩
     exact hK.out _ _ (SI.keep hSt hb) hb ⟨a',c',rfl,hn',fun h o e=>Nat.le_trans hSt.2.2.1.out.sp (hfr h o e)⟩ noB
    refine ⟨fun a w hat K hK=>?_,?_⟩
    ·have e9 : a.tmps[9]?.getD undef = .pointer (some ⟨gp,0,none⟩):=hat.b 9 (by kernel_rfl) rfl
     have hSt:=hat.st
     rw [if_pos (by rfl)]
     go_simp
     exact hK.out _ _ hSt (Below.refl _ _) rfl noB
    refine ⟨fun a w hat K hK=>?_,?_⟩
    ·obtain ⟨a38,c38,e38,n38,fr38⟩:=(show (Ke.pn (gp + 1) (L1)).ok F b cap (a.tmps[38]?.getD undef) w from hat.d 5 38 (by kernel_rfl) (by kernel_rfl))
     have e39 : a.tmps[39]?.getD undef = PF F b cap ap P.length cp:=hat.d 6 39 (by kernel_rfl) (by kernel_rfl)
     have hSt:=hat.st
     rw [if_pos (by rfl)]
     go_simp
     go_at_call 52
     with_reducible refine (times_c (HO.out.below hSt.2.2.1.out.bl) H1.out.1.el HPO.out.el (by have:=H1.out.2; omega) (by have:=HPL.out; omega) rfl rfl n38 hSt.2.2.1.out.np).mono ?_
     rw [hL2.out]
     rintro z' v' ⟨a',c',rfl,hn',hb,hfr⟩
     exact hK.out _ _ (SI.keep hSt hb) hb ⟨a',c',rfl,hn',fun h o e=>Nat.le_trans hSt.2.2.1.out.sp (hfr h o e)⟩ noB
    refine ⟨fun a w hat K hK=>?_,?_⟩
    ·have e3 : a.tmps[3]?.getD undef = .pointer (some ⟨W.heap.size,0,none⟩):=hat.b 3 (by kernel_rfl) rfl
     have hSt:=hat.st
     rw [if_pos (by rfl)]
     go_simp
     exact hK.out _ _ hSt (Below.refl _ _) rfl noB
    refine ⟨Go.Rg.step2_mv rfl (.inl rfl) (fun _=>Below.refl _ _) (fun _ _=>noB) (fun a w hat=>hat.b 8 (by kernel_rfl) rfl),?_⟩
    refine ⟨Go.Rg.step2_mv rfl (.inl rfl) (fun _=>Below.refl _ _) (fun _ _=>noB) (fun a w hat=>hat.b 10 (by kernel_rfl) rfl),?_⟩
    refine ⟨Go.Rg.step2_mv rfl (.inl rfl) (fun _=>Below.refl _ _) (fun _ _=>noB) (fun a w hat=>hat.b 10 (by kernel_rfl) rfl),?_⟩
    refine ⟨fun a w hat K hK=>?_,?_⟩
    ·have e44 : a.tmps[44]?.getD undef = .int .i64 (j : Nat):=hat.d 11 44 (by kernel_rfl) (by kernel_rfl)
     have hSt:=hat.st
     rw [if_pos (by rfl)]
     go_simp
     exact hK.out _ _ hSt (Below.refl _ _) rfl noB
    refine ⟨fun a w hat K hK=>?_,?_⟩
    ·have e42 : a.tmps[42]?.getD undef = .slice (some ⟨br,orr,none⟩) n cr:=hat.d 9 42 (by kernel_rfl) (by kernel_rfl)
     have e43 : a.tmps[43]?.getD undef = .int .i64 (j : Nat):=hat.d 10 43 (by kernel_rfl) (by kernel_rfl)
     have e45 : a.tmps[45]?.getD undef = .int .i64 ((j : Int) + 1):=hat.d 12 45 (by kernel_rfl) (by kernel_rfl)
     have hSt:=hat.st
     rw [if_pos (by rfl)]
     go_simp
     exact hK.out _ _ hSt (Below.refl _ _) ⟨_,_,rfl,NN.one hSt.2.2.1.out.nr HJR.out hdj.out⟩ noB
    refine ⟨fun a w hat K hK=>?_,?_⟩
    ·have e41 : a.tmps[41]?.getD undef = FV F b cap:=hat.d 8 41 (by kernel_rfl) (by kernel_rfl)
     obtain ⟨a46,c46,e46,n46⟩:=(show (Ke.sl ([dj])).ok F b cap (a.tmps[46]?.getD undef) w from hat.d 13 46 (by kernel_rfl) (by kernel_rfl))
     have hSt:=hat.st
     rw [if_pos (by rfl)]
     have n46' : NN [dj] w (.slice a46 1 c46):=n46
     go_simp
     go_at_call 43
     with_reducible refine (over_c (L:=[dj]) (n:=1) (by simp) rfl n46').mono ?_
     rintro z' v' ⟨rfl,hb⟩
     rw [hL4.out]
     exact hK.out _ _ (SI.keep hSt hb) hb ⟨_,_,rfl,by have:=(n46'.tr2 rfl).below hb; rw [hL4.out] at this; exact this⟩ noB
    refine ⟨fun a w hat K hK=>?_,?_⟩
    ·obtain ⟨a40,c40,e40,n40,fr40⟩:=(show (Ke.pn (gp + 1) (L2)).ok F b cap (a.tmps[40]?.getD undef) w from hat.d 7 40 (by kernel_rfl) (by kernel_rfl))
     obtain ⟨a47,c47,e47,n47⟩:=(show (Ke.pf (L4)).ok F b cap (a.tmps[47]?.getD undef) w from hat.d 14 47 (by kernel_rfl) (by kernel_rfl))
     have hSt:=hat.st
     rw [if_pos (by rfl)]
     go_simp
     go_at_call 53
     with_reducible refine (plus_c (HO.out.below hSt.2.2.1.out.bl) H2.out.1.el H4.out.1.el H2.out.2 H4.out.2 rfl rfl n40 n47).mono ?_
     rw [hL3.out]
     rintro z' v' ⟨a',c',rfl,hn',hb,hfr⟩
     exact hK.out _ _ (SI.keep hSt hb) hb ⟨a',c',rfl,hn',fun h o e=>Nat.le_trans hSt.2.2.1.out.sp (hfr h o e)⟩ noB
    exact trivial
   case fin =>
    intro a w hsz hdf hbase hSt hval hpair hun
    obtain ⟨t,df⟩:=a
    have et:=Go.Rg.tmps_of hsz [33,34,35,36,37,38,39,40,41,42,43,44,45,46,47,48] (Go.Rg.rest_of (by kernel_rfl) hbase hun)
    have x33 : t.getD 33 undef = FV F b cap:=hval 0 33 (by decide) (by kernel_rfl)
    have x34 : t.getD 34 undef = .slice (some ⟨bx,ox,none⟩) n cx:=hval 1 34 (by decide) (by kernel_rfl)
    have x35 : t.getD 35 undef = .int .i64 (j : Nat):=hval 2 35 (by decide) (by kernel_rfl)
    have x36 : t.getD 36 undef = .pointer (some ⟨bx,ox + j,none⟩):=hval 3 36 (by decide) (by kernel_rfl)
    have x37 : t.getD 37 undef = .int .i64 (xj : Nat):=hval 4 37 (by decide) (by kernel_rfl)
    obtain ⟨p38,q38,x38,m38,fr38⟩:=(show (Ke.pn (gp + 1) (L1)).ok F b cap (t.getD 38 undef) w from hval 5 38 (by decide) (by kernel_rfl))
    have x39 : t.getD 39 undef = PF F b cap ap P.length cp:=hval 6 39 (by decide) (by kernel_rfl)
    obtain ⟨p40,q40,x40,m40,fr40⟩:=(show (Ke.pn (gp + 1) (L2)).ok F b cap (t.getD 40 undef) w from hval 7 40 (by decide) (by kernel_rfl))
    have x41 : t.getD 41 undef = FV F b cap:=hval 8 41 (by decide) (by kernel_rfl)
    have x42 : t.getD 42 undef = .slice (some ⟨br,orr,none⟩) n cr:=hval 9 42 (by decide) (by kernel_rfl)
    have x43 : t.getD 43 undef = .int .i64 (j : Nat):=hval 10 43 (by decide) (by kernel_rfl)
    have x44 : t.getD 44 undef = .int .i64 (j : Nat):=hval 11 44 (by decide) (by kernel_rfl)
    have x45 : t.getD 45 undef = .int .i64 ((j : Int) + 1):=hval 12 45 (by decide) (by kernel_rfl)
    obtain ⟨p46,q46,x46,m46⟩:=(show (Ke.sl ([dj])).ok F b cap (t.getD 46 undef) w from hval 13 46 (by decide) (by kernel_rfl))
    obtain ⟨p47,q47,x47,m47⟩:=(show (Ke.pf (L4)).ok F b cap (t.getD 47 undef) w from hval 14 47 (by decide) (by kernel_rfl))
    obtain ⟨p48,q48,x48,m48,fr48⟩:=(show (Ke.pn (gp + 1) (L3)).ok F b cap (t.getD 48 undef) w from hval 15 48 (by decide) (by kernel_rfl))
    clear hval hbase hsz hpair hun
    simp only [List.foldl_cons,List.foldl_nil,x33,x34,x35,x36,x37,x38,x39,x40,x41,x42,x43,x44,x45,x46,x47,x48] at et
    rw [et]
    have hdf' : df = _:=hdf
    rw [hdf']
    simp only [List.setIfInBounds_toArray,List.set_cons_zero,List.set_cons_succ]
    clear et hdf hdf'
    refine wpAny_of_held (S:=fun _=>True) _ _ _ _ ?_
    obtain ⟨-,⟨r0,r1,r2,r3⟩,HI2,-⟩:=hSt
    have u0:=HI2.out.fz 0
    have u1:=HI2.out.fz 1
    have u2:=HI2.out.fz 2
    have u3:=HI2.out.fz 3
    refine Rg.rd1 16 ⟨none,.store 61 (.tmp 9) (.tmp 48),0,"poly.go:56",#[⟨15,.data⟩,⟨15,.chain⟩,⟨0,.phase⟩,⟨1,.phase⟩,⟨2,.phase⟩,⟨3,.phase⟩,⟨4,.phase⟩,⟨5,.phase⟩,⟨6,.phase⟩,⟨7,.phase⟩,⟨8,.phase⟩,⟨9,.phase⟩,⟨10,.phase⟩,⟨11,.phase⟩,⟨12,.phase⟩,⟨13,.phase⟩,⟨14,.phase⟩,⟨15,.phase⟩],none⟩ fun K hK=>?_
    go_simp
    refine hK.out _ _ trivial (fun _=>?_)
    clear hK K
    try simp only [Rg.gp]
    obtain ⟨w9,hw9⟩ : ∃ w9,w9 = ((((w.setCell ⟨gp,0,none⟩ (.int .i64 F.p)).setCell ⟨gp,1,none⟩ (.int .i64 F.e)).setCell ⟨gp,2,none⟩ (FM F b cap)).setCell ⟨gp,3,none⟩ (.slice p48 (L3).length q48)):=⟨_,rfl⟩
    rw [← hw9]
    replace hw9:=Lib.hid hw9
    obtain ⟨hs9,hoth9,hz9,hsz9,hb9⟩:=box_put (k:=W.heap.size) ⟨r0,r1,r2,r3⟩ HI2.out.fz (by have:=HI2.out.wp; omega) hw9.out
    clear r0 r1 r2 r3 u0 u1 u2 u3
    refine wpAnyH_done (by kernel_rfl) ?_ _
    have HI3 : Hid (II F b cap W gp X R L3 (some ⟨bx,ox,none⟩) (some ⟨br,orr,none⟩) p48 cx cr q48 w9):=Lib.hid
     ⟨FB.othb HI2.out.fb hoth9 (by have:=HI2.out.wp; omega),hs9,hz9,m48.othb hoth9 hsz9 (fun x o e=>by have:=fr48 x o e; omega),fun x o e=>(by have:=fr48 x o e; omega),
      HI2.out.nx.othb hoth9 hsz9 HI2.out.dx,HI2.out.dx,HI2.out.nr.othb hoth9 hsz9 HI2.out.dr,HI2.out.dr,HI2.out.bl.trans hb9,by rw [hsz9]; exact HI2.out.sp,HI2.out.wp⟩
    rw [HL3.out] at HI3
    clear hw9 hs9 hoth9 hz9 hsz9 hb9 hS0 m38 m40 m46 m47 m48
    go_wp2
    go_roundw
    case rel=>exact ⟨m + 1,p48,q48,congrArg (Value.int IntKind.i64) (by omega),by omega,HI3⟩
    case measure=>simp [intOf] <;> omega
  ·obtain rfl : n = m:=by omega
   have hneg : ¬ (0 : Int) ≤ (n : Int) - 1 - (n : Int):=by omega
   have HVAL : Hid (∀ k,k < n → ev F (X.getD k 0) (nP F x y n n) = Y.getD k 0):=Lib.hid (fun k hk=>by rw [HXV.out,HYV.out]; exact nP_val x y n HDI.out k hk)
   generalize nP F x y n n = P at *
   have HBF : Hid (Below W.heap.size W wr):=Lib.hid HI.out.bl
   have HNF:=Lib.hid HI.out.np
   obtain ⟨p0,p1,p2,p3⟩:=HI.out.pb
   go_wp2
   exact bodyPost_ret (v:=.tuple #[.slice ap P.length cp,.int .i64 0]) (by simp [results,Try.results19,go_sem]) rfl ⟨P,_,_,rfl,HNF.out,HPO.out,HPL.out,HVAL.out,HBF.out⟩
end Go.Proofs.Ytllecfhfhcmpaaa
