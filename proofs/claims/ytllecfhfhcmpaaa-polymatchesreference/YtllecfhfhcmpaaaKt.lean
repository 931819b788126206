/- Gcd. -/
import Derived.Test.YtllecfhfhcmpaaaEvTk
import Derived.Test.YtllecfhfhcmpaaaKp
namespace Go.Proofs.Ytllecfhfhcmpaaa
open Go.RowKit Go.Fl
set_option maxRecDepth 100000
set_option linter.unusedVariables false
set_option linter.unusedSimpArgs false
set_option linter.unusedSectionVars false
def lenAt (w : World) (g : Nat) : Nat:=match w.cell? ⟨g,3,none⟩ with
 | some (.slice _ n _)=>n
 | _=>0
theorem lenAt_of {w : World} {g n c : Nat} {a : Option Addr} (h : w.cell? ⟨g,3,none⟩ = some (.slice a n c)) : lenAt w g = n:=by unfold lenAt; rw [h]
theorem PB.four {w : World} {h g : Nat} {p q : Int} {m v e0 e1 e2 e3 : Value} (hb : PB h p q m v w) (hg : h ≠ g) : PB h p q m v ((((w.setCell ⟨g,0,none⟩ e0).setCell ⟨g,1,none⟩ e1).setCell ⟨g,2,none⟩ e2).setCell ⟨g,3,none⟩ e3):=PB.othb hb (fun x hx=>heap4 hx) hg
theorem FB.othb {w w9 : World} {g h : Nat} {p q : Int} {m : Value} (hb : FB h p q m w) (ho : ∀ h,h ≠ g → w9.heap[h]? = w.heap[h]?) (hg : h ≠ g) : FB h p q m w9:=
 ⟨(World.cell?_of_block (a:=⟨h,0,none⟩) (ho h hg)).trans hb.1,(World.cell?_of_block (a:=⟨h,1,none⟩) (ho h hg)).trans hb.2.1,(World.cell?_of_block (a:=⟨h,2,none⟩) (ho h hg)).trans hb.2.2⟩
structure GI (F : Gf) (b cap : Nat) (W : World) (g7 g8 : Nat) (A B : List Nat) (w : World) (P Q : List Nat) (a1 a2 : Option Addr) (c1 c2 : Nat) : Prop where
 fb : FB W.heap.size F.p F.e (FM F b cap) w
 p7 : PB g7 F.p F.e (FM F b cap) (.slice a1 P.length c1) w
 p8 : PB g8 F.p F.e (FM F b cap) (.slice a2 Q.length c2) w
 z7 : ∀ j,w.frozen? ⟨g7,j,none⟩ = false
 z8 : ∀ j,w.frozen? ⟨g8,j,none⟩ = false
 nP : NN P w (.slice a1 P.length c1)
 nQ : NN Q w (.slice a2 Q.length c2)
 d1 : ∀ x o,a1 = some ⟨x,o,none⟩ → x ≠ g7 ∧ x ≠ g8
 d2 : ∀ x o,a2 = some ⟨x,o,none⟩ → x ≠ g7 ∧ x ≠ g8
 poP : Po F P
 poQ : Po F Q
 lP : P.length ≤ 1000
 lQ : Q.length ≤ 1000
 gr : GR F A B P Q
 bl : Below W.heap.size W w
 s7 : g7 < w.heap.size
 s8 : g8 < w.heap.size
 w7 : W.heap.size + 1 ≤ g7
 w8 : W.heap.size + 1 ≤ g8
 ne : g7 ≠ g8
theorem GI.keep {F : Gf} {b cap : Nat} {W : World} {g7 g8 : Nat} {A B : List Nat} {w w' : World} {P Q : List Nat} {a1 a2 : Option Addr} {c1 c2 : Nat} (h : GI F b cap W g7 g8 A B w P Q a1 a2 c1 c2) (hb : Below w.heap.size w w') : GI F b cap W g7 g8 A B w' P Q a1 a2 c1 c2:=
 ⟨FB.keep h.fb hb (by have:=h.w7; have:=h.s7; omega),PB.keep h.p7 hb h.s7,PB.keep h.p8 hb h.s8,fun j=>(hb.frozen h.s7).trans (h.z7 j),fun j=>(hb.frozen h.s8).trans (h.z8 j),h.nP.below hb,h.nQ.below hb,h.d1,h.d2,h.poP,h.poQ,h.lP,h.lQ,h.gr,
  h.bl.trans (hb.mono (by have:=h.w7; have:=h.s7; omega)),Nat.lt_of_lt_of_le h.s7 hb.size,Nat.lt_of_lt_of_le h.s8 hb.size,h.w7,h.w8,h.ne⟩
def GcPost (F : Gf) (A B : List Nat) (w : World) (e : Ending) (w' : World) : Prop:=∃ G a c,e = .returned (.slice a G.length c) ∧ NN G w' (.slice a G.length c) ∧ IsGcd F A B G ∧ G.length ≤ 1000 ∧ Below w.heap.size w w'
set_option maxHeartbeats 12800000 in
theorem gcd_c {F : Gf} {b cap : Nat} {A B : List Nat} {aa ab : Option Addr} {la lb ca cb : Nat} {W : World} (hO : Ops F b cap W) (hA : In F A) (hB : In F B) (ha : A.length ≤ 1000) (hb : B.length ≤ 1000) (ea : la = A.length) (eb : lb = B.length)
  (na : NN A W (.slice aa la ca)) (nb : NN B W (.slice ab lb cb)) : Calls Try.prog 25 #[FV F b cap,.slice aa la ca,.slice ab lb cb] W (GcPost F (trL A) (trL B) W):=by
 have HOB:=Lib.hid (fun w (h : Below W.heap.size W w)=>over_c (p:=F.p) (q:=F.e) (ma:=some ⟨b,0,none⟩) (ml:=F.e) (mc:=cap) (L:=B) (by omega) eb (nb.below h))
 have HOA:=Lib.hid (fun w (h : Below W.heap.size W w)=>over_c (p:=F.p) (q:=F.e) (ma:=some ⟨b,0,none⟩) (ml:=F.e) (mc:=cap) (L:=A) (by omega) ea (na.below h))
 have HLA : Hid ((trL A).length ≤ 1000):=Lib.hid (Nat.le_trans (trL_len A) ha)
 have HLB : Hid ((trL B).length ≤ 1000):=Lib.hid (Nat.le_trans (trL_len B) hb)
 have HPA:=Lib.hid (Po.tr hA)
 have HPB:=Lib.hid (Po.tr hB)
 have HNA:=Lib.hid (na.tr2 ea)
 have HNB:=Lib.hid (nb.tr2 eb)
 have HZ:=Lib.hid (fun a n c w=>isZero_c (p:=F.p) (q:=F.e) (m:=FM F b cap) (a:=a) (n:=n) (c:=c) rfl w)
 have HDV:=Lib.hid (fun w (h : Below W.heap.size W w) P Q a1 a2 c1 c2 (hP : Po F P) (hQ : Po F Q) (hne : Q ≠ []) (lP : P.length ≤ 1000) (lQ : Q.length ≤ 1000) n1 n2=>(divide_c (aa:=a1) (ab:=a2) (ca:=c1) (cb:=c2) (hO.below h) hP.el hQ hne lP lQ n1 n2).mono fun e w' h'=>dv_named hO.ok hQ h')
 have HMO:=Lib.hid (fun w (h : Below W.heap.size W w) P a1 c1 (hP : Po F P) (lP : P.length ≤ 1000) n1=>monic_c (aa:=a1) (c:=c1) (hO.below h) hP lP rfl n1)
 have HFF:=Lib.hid hO.ok
 have hS0 : SF W F.p F.e (FM F b cap) (W.alloc (.cells #[.int .i64 F.p,.int .i64 F.e,FM F b cap] 28)).drew:=⟨by simp [FB],Lib.hid (((Below.refl _ _).alloc (Nat.le_refl _) _).drew),Lib.hid (by simp)⟩
 clear hO hA hB ha hb ea eb na nb
 generalize trL A = TA at *
 generalize trL B = TB at *
 go_enter Try.func25,Try.ntmps25
 go_wp2_with fail
 refine Go.Rg.region_pre (n0:=8) (fl:=10) (m:=2) (M:=#[true,true,true,true,true,true,true,true,false,false]) (S:=fun w'=>SF W F.p F.e (FM F b cap) w') (R:=fun w w'=>Below w.heap.size w w') (φ:=ph F b cap [.eq (FV F b cap),.eq (.slice aa la ca),.eq (PF F b cap aa TA.length ca),.eq (FV F b cap),.eq (.slice ab lb cb),.eq (PF F b cap ab TB.length cb),.bx (W.heap.size + 1),.bx (W.heap.size + 1)]) (ψ:=psi [.eq (FV F b cap),.eq (.slice aa la ca),.eq (PF F b cap aa TA.length ca),.eq (FV F b cap),.eq (.slice ab lb cb),.eq (PF F b cap ab TB.length cb),.bx (W.heap.size + 1),.bx (W.heap.size + 1)]) (χ:=chi [.eq (FV F b cap),.eq (.slice aa la ca),.eq (PF F b cap aa TA.length ca),.eq (FV F b cap),.eq (.slice ab lb cb),.eq (PF F b cap ab TB.length cb),.bx (W.heap.size + 1),.bx (W.heap.size + 1)]) (by kernel_rfl) (ph_mono _) (psi_sep _) (by decide) (by kernel_rfl) (by kernel_rfl) (by kernel_rfl) (by kernel_rfl) (by kernel_rfl) (fun h=>absurd h (by decide)) (by rfl) (hS0) ?steps ?fin
 case steps =>
  refine ⟨fun a w hat K hK=>?_,?_⟩
  ·have e3 : a.tmps[3]?.getD undef = .pointer (some ⟨W.heap.size,0,none⟩):=hat.b 3 (by kernel_rfl) rfl
   have hSt:=hat.st
   rw [if_pos (by rfl)]
   go_simp
   exact hK.out _ _ hSt (Below.refl _ _) rfl noB
  refine ⟨Go.Rg.step2_mv rfl (.inl rfl) (fun _=>Below.refl _ _) (fun _ _=>noB) (fun a w hat=>hat.b 1 (by kernel_rfl) rfl),?_⟩
  refine ⟨fun a w hat K hK=>?_,?_⟩
  ·have e11 : a.tmps[11]?.getD undef = FV F b cap:=hat.d 0 11 (by kernel_rfl) (by kernel_rfl)
   have e12 : a.tmps[12]?.getD undef = .slice aa la ca:=hat.d 1 12 (by kernel_rfl) (by kernel_rfl)
   have hSt:=hat.st
   rw [if_pos (by rfl)]
   go_simp
   go_at_call 43
   with_reducible refine (HOA.out _ hSt.2.1.out).mono ?_
   rintro z v' ⟨rfl,hb⟩
   exact hK.out _ _ (SF.keep hSt hb hSt.2.2.out) hb rfl noB
  refine ⟨fun a w hat K hK=>?_,?_⟩
  ·have e3 : a.tmps[3]?.getD undef = .pointer (some ⟨W.heap.size,0,none⟩):=hat.b 3 (by kernel_rfl) rfl
   have hSt:=hat.st
   rw [if_pos (by rfl)]
   go_simp
   exact hK.out _ _ hSt (Below.refl _ _) rfl noB
  refine ⟨Go.Rg.step2_mv rfl (.inl rfl) (fun _=>Below.refl _ _) (fun _ _=>noB) (fun a w hat=>hat.b 2 (by kernel_rfl) rfl),?_⟩
  refine ⟨fun a w hat K hK=>?_,?_⟩
  ·have e14 : a.tmps[14]?.getD undef = FV F b cap:=hat.d 3 14 (by kernel_rfl) (by kernel_rfl)
   have e15 : a.tmps[15]?.getD undef = .slice ab lb cb:=hat.d 4 15 (by kernel_rfl) (by kernel_rfl)
   have hSt:=hat.st
   rw [if_pos (by rfl)]
   go_simp
   go_at_call 43
   with_reducible refine (HOB.out _ hSt.2.1.out).mono ?_
   rintro z v' ⟨rfl,hb⟩
   exact hK.out _ _ (SF.keep hSt hb hSt.2.2.out) hb rfl noB
  refine ⟨fun a w hat K hK=>?_,?_⟩
  ·have hSt:=hat.st
   rw [if_pos (by rfl)]
   go_simp
   have hb:=(Below.refl w.heap.size w).alloc (Nat.le_refl _) (.cells #[.int .i64 0,.int .i64 0,.slice none 0 0,.slice none 0 0] 61)
   exact hK.out _ _ (SF.keep hSt hb hSt.2.2.out) hb ⟨_,rfl,hSt.2.2.out,zb_at w⟩ (fun _=>rfl)
  refine ⟨fun a w hat K hK=>?_,?_⟩
  ·have hSt:=hat.st
   rw [if_pos (by rfl)]
   go_simp
   have hb:=(Below.refl w.heap.size w).alloc (Nat.le_refl _) (.cells #[.int .i64 0,.int .i64 0,.slice none 0 0,.slice none 0 0] 61)
   exact hK.out _ _ (SF.keep hSt hb hSt.2.2.out) hb ⟨_,rfl,hSt.2.2.out,zb_at w⟩ (fun _=>rfl)
  exact trivial
 case fin =>
  intro a w hsz hdf hbase hSt hval hpair hun
  obtain ⟨t,df⟩:=a
  have et:=Go.Rg.tmps_of hsz [11,12,13,14,15,16,7,8] (Go.Rg.rest_of (by kernel_rfl) hbase hun)
  have x11 : t.getD 11 undef = FV F b cap:=hval 0 11 (by decide) (by kernel_rfl)
  have x12 : t.getD 12 undef = .slice aa la ca:=hval 1 12 (by decide) (by kernel_rfl)
  have x13 : t.getD 13 undef = PF F b cap aa TA.length ca:=hval 2 13 (by decide) (by kernel_rfl)
  have x14 : t.getD 14 undef = FV F b cap:=hval 3 14 (by decide) (by kernel_rfl)
  have x15 : t.getD 15 undef = .slice ab lb cb:=hval 4 15 (by decide) (by kernel_rfl)
  have x16 : t.getD 16 undef = PF F b cap ab TB.length cb:=hval 5 16 (by decide) (by kernel_rfl)
  obtain ⟨g7,x7,gl7,gb7⟩:=(show (Ke.bx (W.heap.size + 1)).ok F b cap (t.getD 7 undef) w from hval 6 7 (by decide) (by kernel_rfl))
  obtain ⟨g8,x8,gl8,gb8⟩:=(show (Ke.bx (W.heap.size + 1)).ok F b cap (t.getD 8 undef) w from hval 7 8 (by decide) (by kernel_rfl))
  have gne7_8 : g7 ≠ g8:=by
    have h : t.getD 7 undef ≠ t.getD 8 undef:=hpair 6 7 7 8 (by decide) (by decide) (by decide) (by kernel_rfl) (by kernel_rfl) rfl rfl
    rw [x7,x8] at h
    intro e; exact h (by rw [e])
  clear hval hbase hsz hpair hun
  simp only [List.foldl_cons,List.foldl_nil,x11,x12,x13,x14,x15,x16,x7,x8] at et
  rw [et]
  have hdf' : df = _:=hdf
  rw [hdf']
  simp only [List.setIfInBounds_toArray,List.set_cons_zero,List.set_cons_succ]
  clear et hdf hdf'
  refine wpAny_of_held (S:=fun _=>True) _ _ _ _ ?_
  obtain ⟨r0,r1,r2,r3⟩:=zb_pb gb7
  have u0:=zb_fz gb7 0
  have u1:=zb_fz gb7 1
  have u2:=zb_fz gb7 2
  have u3:=zb_fz gb7 3
  refine Rg.rd1 8 ⟨none,.store 61 (.tmp 7) (.tmp 13),0,"poly.go:32",#[⟨6,.data⟩,⟨2,.data⟩,⟨5,.chain⟩,⟨0,.phase⟩,⟨1,.phase⟩,⟨2,.phase⟩,⟨3,.textOnly Go.Departure.lateStores⟩,⟨4,.textOnly Go.Departure.lateStores⟩,⟨5,.textOnly Go.Departure.lateStoresUnsure⟩,⟨6,.phase⟩,⟨7,.phase⟩],none⟩ fun K hK=>?_
  go_simp
  refine hK.out _ _ trivial (fun _=>?_)
  clear hK K
  try simp only [Rg.gp]
  obtain ⟨w8,hw8⟩ : ∃ w9,w9 = ((((w.setCell ⟨g7,0,none⟩ (.int .i64 F.p)).setCell ⟨g7,1,none⟩ (.int .i64 F.e)).setCell ⟨g7,2,none⟩ (FM F b cap)).setCell ⟨g7,3,none⟩ (.slice aa (TA).length ca)):=⟨_,rfl⟩
  rw [← hw8]
  replace hw8:=Lib.hid hw8
  clear r0 r1 r2 r3 u0 u1 u2 u3
  have gb8_w8 : w8.heap[g8]? = some zbox:=by rw [hw8.out]; exact (heap4 gne7_8.symm).trans gb8
  obtain ⟨r0,r1,r2,r3⟩:=zb_pb gb8_w8
  have u0:=zb_fz gb8_w8 0
  have u1:=zb_fz gb8_w8 1
  have u2:=zb_fz gb8_w8 2
  have u3:=zb_fz gb8_w8 3
  refine Rg.rd1 9 ⟨none,.store 61 (.tmp 8) (.tmp 16),0,"poly.go:32",#[⟨7,.data⟩,⟨5,.data⟩,⟨8,.chain⟩,⟨0,.phase⟩,⟨1,.phase⟩,⟨2,.phase⟩,⟨3,.phase⟩,⟨4,.phase⟩,⟨5,.phase⟩,⟨6,.phase⟩,⟨7,.phase⟩,⟨8,.phase⟩],none⟩ fun K hK=>?_
  go_simp
  refine hK.out _ _ trivial (fun _=>?_)
  clear hK K
  try simp only [Rg.gp]
  obtain ⟨w9,hw9⟩ : ∃ w9,w9 = ((((w8.setCell ⟨g8,0,none⟩ (.int .i64 F.p)).setCell ⟨g8,1,none⟩ (.int .i64 F.e)).setCell ⟨g8,2,none⟩ (FM F b cap)).setCell ⟨g8,3,none⟩ (.slice ab (TB).length cb)):=⟨_,rfl⟩
  rw [← hw9]
  replace hw9:=Lib.hid hw9
  clear r0 r1 r2 r3 u0 u1 u2 u3
  refine wpAnyH_done (by kernel_rfl) ?_ _
  obtain ⟨hs7,hoth8,hz7,hsz8,hb8⟩:=box_put (k:=W.heap.size) (zb_pb gb7) (zb_fz gb7) (by omega) hw8.out
  obtain ⟨hs8,hoth9,hz8,hsz9,hb9⟩:=box_put (k:=W.heap.size) (zb_pb gb8_w8) (zb_fz gb8_w8) (by omega) hw9.out
  have hlt : ∀ {L : List Nat} {a : Option Addr} {n c x o : Nat},NN L W (.slice a n c) → a = some ⟨x,o,none⟩ → x < W.heap.size:=by
   intro L a n c x o h e
   rcases h with ⟨_,h⟩ | ⟨b',off',cap',h,g1,g2,g3⟩
   ·cases h; cases e
   ·cases h; cases e; exact g2
  have HG : Hid (GI F b cap W g7 g8 TA TB w9 TA TB aa ab ca cb):=Lib.hid
   ⟨FB.othb (FB.othb hSt.1 hoth8 (by omega)) hoth9 (by omega),PB.othb hs7 hoth9 gne7_8,hs8,fun j=>(frozen_block (hoth9 _ gne7_8) j).trans (hz7 j),hz8,
    (((HNA.out.below hSt.2.1.out).othb hoth8 hsz8 (fun x o e=>by have:=hlt HNA.out e; omega)).othb hoth9 hsz9 (fun x o e=>by have:=hlt HNA.out e; omega)),
    (((HNB.out.below hSt.2.1.out).othb hoth8 hsz8 (fun x o e=>by have:=hlt HNB.out e; omega)).othb hoth9 hsz9 (fun x o e=>by have:=hlt HNB.out e; omega)),
    fun x o e=>by have:=hlt HNA.out e; omega,fun x o e=>by have:=hlt HNB.out e; omega,HPA.out,HPB.out,HLA.out,HLB.out,GR.refl F TA TB,(hSt.2.1.out.trans hb8).trans hb9,
    by rw [hsz9,hsz8]; exact blk_lt gb7,by rw [hsz9,hsz8]; exact blk_lt gb8,gl7,gl8,gne7_8⟩
  have HLN : Hid (lenAt w9 g8 = TB.length):=Lib.hid (lenAt_of hs8.2.2.2)
  clear hw8 hw9 hoth8 hoth9 hsz8 hsz9 hb8 hb9 gb7 gb8 gb8_w8 hSt hS0 hs7 hs8 hz7 hz8 hlt
  go_wp2
  go_loopw [9,10] (fun _ _ wr=>∃ P Q a1 a2 c1 c2,Hid (lenAt wr g8 = Q.length) ∧ Hid (GI F b cap W g7 g8 TA TB wr P Q a1 a2 c1 c2)) (fun _ _ w=>lenAt w g8)
  case atStart=>exact ⟨TA,TB,aa,ab,ca,cb,HLN,HG⟩
  case round =>
   obtain ⟨P,Q,a1,a2,c1,c2,HLQ,HI⟩:=hrel
   obtain ⟨⟨x0,x1,x2,x3⟩,⟨y0,y1,y2,y3⟩⟩:=(⟨HI.out.p7,HI.out.p8⟩ : _ ∧ _)
   by_cases hq : Q.length = 0
   ·have HZ':=Lib.hid (fun w=>by have:=HZ.out a2 Q.length c2 w; rw [decide_eq_true hq] at this; exact this)
    have HQE : Hid (Q = []):=Lib.hid (List.eq_nil_of_length_eq_zero hq)
    clear hq
    go_wp2_with fail
    with_reducible refine (HZ'.out _).mono ?_
    rintro z w2 ⟨rfl,hb2⟩
    have H2:=Lib.hid (HI.out.keep hb2)
    clear hb2 x0 x1 x2 x3 y0 y1 y2 y3
    obtain ⟨x0,x1,x2,x3⟩:=H2.out.p7
    go_wp2_with fail
    with_reducible refine (HMO.out _ H2.out.bl P a1 c1 H2.out.poP H2.out.lP H2.out.nP).mono ?_
    rintro z w3 ⟨a',c',rfl,hn',hb3,-⟩
    have HN':=Lib.hid hn'
    have HB3:=Lib.hid (H2.out.bl.trans (hb3.mono H2.out.bl.size))
    clear hn' hb3
    have HGC : Hid (IsGcd F TA TB (monP F P) ∧ (monP F P).length ≤ 1000):=Lib.hid ⟨GR.fin HFF.out H2.out.poP (by have:=H2.out.gr; rw [HQE.out] at this; exact this),by
     by_cases h : P = []
     ·rw [h]; exact Nat.zero_le _
     ·rw [(monP_spec HFF.out H2.out.poP h).2.1]; exact H2.out.lP⟩
    have hfd : ∀ w : World,(Instr.field 61 (PF F b cap a' (monP F P).length c') 1).run Try.prog w = .ok (.slice a' (monP F P).length c') w:=fun w=>fld1 _ _ _ _ _ _ _ _ w
    go_wp2
    go_ret
    exact ⟨monP F P,a',c',rfl,HN'.out,HGC.out.1,HGC.out.2,HB3.out⟩
   ·have HZ':=Lib.hid (fun w=>by have:=HZ.out a2 Q.length c2 w; rw [decide_eq_false hq] at this; exact this)
    have HQE : Hid (Q ≠ []):=Lib.hid (fun e=>hq (by rw [e]; rfl))
    clear hq
    go_wp2_with fail
    with_reducible refine (HZ'.out _).mono ?_
    rintro z w2 ⟨rfl,hb2⟩
    have H2:=Lib.hid (HI.out.keep hb2)
    clear hb2 x0 x1 x2 x3 y0 y1 y2 y3
    obtain ⟨⟨x0,x1,x2,x3⟩,⟨y0,y1,y2,y3⟩⟩:=(⟨H2.out.p7,H2.out.p8⟩ : _ ∧ _)
    go_wp2_with fail
    with_reducible refine (HDV.out _ H2.out.bl P Q a1 a2 c1 c2 H2.out.poP H2.out.poQ HQE.out H2.out.lP H2.out.lQ H2.out.nP H2.out.nQ).mono ?_
    rintro z w3 ⟨q1,k1,q2,k2,rfl,hnq,hnr,hdm,hb3,hfr1,hfr2⟩
    have H3:=Lib.hid (H2.out.keep hb3)
    have HDM:=Lib.hid hdm
    have HNR:=Lib.hid hnr
    have HFR : Hid (∀ x o,q2 = some ⟨x,o,none⟩ → x ≠ g7 ∧ x ≠ g8):=Lib.hid (fun x o e=>by have:=hfr2 x o e; have:=H2.out.s7; have:=H2.out.s8; omega)
    clear hb3 hdm hnr hnq hfr1 hfr2 x0 x1 x2 x3 y0 y1 y2 y3
    obtain ⟨⟨x0,x1,x2,x3⟩,⟨y0,y1,y2,y3⟩⟩:=(⟨H3.out.p7,H3.out.p8⟩ : _ ∧ _)
    generalize dq F P Q = DQ at *
    generalize dr F P Q = DR at *
    have HNR4 : Hid (NN DR ((w3.alloc (.cells #[.int .i64 F.p,.int .i64 F.e,FM F b cap,.slice q1 DQ.length k1] 61)).alloc (.cells #[.int .i64 F.p,.int .i64 F.e,FM F b cap,.slice q2 DR.length k2] 61)) (.slice q2 DR.length k2)):=Lib.hid (HNR.out.below (((Below.refl _ _).alloc (Nat.le_refl _) _).alloc (by simp) _))
    have H4 : Hid (GI F b cap W g7 g8 TA TB ((w3.alloc (.cells #[.int .i64 F.p,.int .i64 F.e,FM F b cap,.slice q1 DQ.length k1] 61)).alloc (.cells #[.int .i64 F.p,.int .i64 F.e,FM F b cap,.slice q2 DR.length k2] 61)) P Q a1 a2 c1 c2):=Lib.hid (H3.out.keep (((Below.refl _ _).alloc (Nat.le_refl _) _).alloc (by simp) _))
    have h10 : PB (w3.heap.size + 1) F.p F.e (FM F b cap) (.slice q2 DR.length k2) ((w3.alloc (.cells #[.int .i64 F.p,.int .i64 F.e,FM F b cap,.slice q1 DQ.length k1] 61)).alloc (.cells #[.int .i64 F.p,.int .i64 F.e,FM F b cap,.slice q2 DR.length k2] 61)):=by
     have:=pb_at (w3.alloc (.cells #[.int .i64 F.p,.int .i64 F.e,FM F b cap,.slice q1 DQ.length k1] 61)) F.p F.e (FM F b cap) (.slice q2 DR.length k2)
     rwa [show (w3.alloc (.cells #[.int .i64 F.p,.int .i64 F.e,FM F b cap,.slice q1 DQ.length k1] 61)).heap.size = w3.heap.size + 1 by simp] at this
    have HNE10 : Hid (g7 ≠ w3.heap.size + 1 ∧ g8 ≠ w3.heap.size + 1):=Lib.hid (by have:=H3.out.s7; have:=H3.out.s8; omega)
    have HGE : Hid (W.heap.size ≤ g7 ∧ W.heap.size ≤ g8):=Lib.hid (by have:=H3.out.w7; have:=H3.out.w8; omega)
    have HL10 : Hid (lenAt wr g8 = Q.length ∧ DR.length < Q.length):=Lib.hid ⟨HLQ.out,HDM.out.len⟩
    clear H3 HNR x0 x1 x2 x3 y0 y1 y2 y3
    go_wp2_with fail
    generalize hwC : ((w3.alloc (.cells #[.int .i64 F.p,.int .i64 F.e,FM F b cap,.slice q1 DQ.length k1] 61)).alloc (.cells #[.int .i64 F.p,.int .i64 F.e,FM F b cap,.slice q2 DR.length k2] 61)) = wC at *
    have hgg : ∃ g,g = w3.heap.size + 1:=⟨_,rfl⟩
    obtain ⟨g10,hg10⟩:=hgg
    rw [← hg10] at h10 HNE10
    rw [← hg10]
    clear hwC hg10
    have hS0:=(show PB g10 F.p F.e (FM F b cap) (.slice q2 DR.length k2) wC.drew from h10)
    obtain ⟨⟨x0,x1,x2,x3⟩,⟨y0,y1,y2,y3⟩⟩:=(⟨H4.out.p7,H4.out.p8⟩ : _ ∧ _)
    have u0:=H4.out.z7 0
    have u1:=H4.out.z7 1
    have u2:=H4.out.z7 2
    have u3:=H4.out.z7 3
    have v0:=H4.out.z8 0
    have v1:=H4.out.z8 1
    have v2:=H4.out.z8 2
    have v3:=H4.out.z8 3
    refine wp_region_held_drew (S:=fun w'=>PB g10 F.p F.e (FM F b cap) (.slice q2 DR.length k2) w') (by kernel_rfl) (by with_reducible exact hS0) (fun hHeld=>?_)
    generalize hwD : wC.drew = wD at hHeld ⊢
    have HWD : Hid (wC.drew = wD):=Lib.hid hwD
    clear hwD hS0
    have H4D : Hid (GI F b cap W g7 g8 TA TB wD P Q a1 a2 c1 c2):=Lib.hid (by rw [← HWD.out]; exact H4.out.keep (Below.refl _ _).drew)
    clear u0 u1 u2 u3 v0 v1 v2 v3 x0 x1 x2 x3 y0 y1 y2 y3
    obtain ⟨⟨x0,x1,x2,x3⟩,⟨y0,y1,y2,y3⟩⟩:=(⟨H4D.out.p7,H4D.out.p8⟩ : _ ∧ _)
    have u0:=H4D.out.z7 0
    have u1:=H4D.out.z7 1
    have u2:=H4D.out.z7 2
    have u3:=H4D.out.z7 3
    have v0:=H4D.out.z8 0
    have v1:=H4D.out.z8 1
    have v2:=H4D.out.z8 2
    have v3:=H4D.out.z8 3
    have HNR4D : Hid (NN DR wD (.slice q2 DR.length k2)):=Lib.hid (by rw [← HWD.out]; exact HNR4.out)
    clear HNR4 H4 h10 HWD
    refine Rg.tk 1 ⟨some 27,.load 61 (.tmp 10),61,"poly.go:35",#[⟨2,.gcOnly Go.Departure.lateStores⟩],none⟩ ?_
    try simp only [Rg.gp]
    refine Rg.rd1 0 ⟨some 26,.load 61 (.tmp 8),61,"poly.go:35",#[],none⟩ fun K hK=>?_
    go_simp
    refine hK.out _ _ ?_ (fun hHeld=>?_)
    ·(try dsimp only)
     exact hHeld
    clear hK K
    try simp only [Rg.gp]
    refine Rg.rd1 2 ⟨none,.store 61 (.tmp 7) (.tmp 26),0,"poly.go:35",#[⟨0,.data⟩,⟨0,.phase⟩,⟨1,.textOnly Go.Departure.lateStores⟩],none⟩ fun K hK=>?_
    go_simp
    refine hK.out _ _ ?_ (fun hHeld=>?_)
    ·(try dsimp only)
     exact PB.four hHeld HNE10.out.1.symm
    clear hK K
    try simp only [Rg.gp]
    obtain ⟨w8,hw8⟩ : ∃ w9,w9 = ((((wD.setCell ⟨g7,0,none⟩ (.int .i64 F.p)).setCell ⟨g7,1,none⟩ (.int .i64 F.e)).setCell ⟨g7,2,none⟩ (FM F b cap)).setCell ⟨g7,3,none⟩ (.slice a2 (Q).length c2)):=⟨_,rfl⟩
    rw [← hw8] at hHeld ⊢
    replace hw8:=Lib.hid hw8
    obtain ⟨hs7,hoth8,hz7,hsz8,hb8⟩:=box_put (k:=W.heap.size) ⟨x0,x1,x2,x3⟩ H4D.out.z7 HGE.out.1 hw8.out
    obtain ⟨y0',y1',y2',y3'⟩:=PB.othb ⟨y0,y1,y2,y3⟩ hoth8 H4D.out.ne.symm
    have v0':=(frozen_block (hoth8 _ H4D.out.ne.symm) 0).trans v0
    have v1':=(frozen_block (hoth8 _ H4D.out.ne.symm) 1).trans v1
    have v2':=(frozen_block (hoth8 _ H4D.out.ne.symm) 2).trans v2
    have v3':=(frozen_block (hoth8 _ H4D.out.ne.symm) 3).trans v3
    have HS7:=Lib.hid hs7
    have HOTH8:=Lib.hid hoth8
    have HZ7:=Lib.hid hz7
    have HSZ8:=Lib.hid hsz8
    have HB8:=Lib.hid hb8
    clear hs7 hoth8 hz7 hsz8 hb8 u0 u1 u2 u3 v0 v1 v2 v3 x0 x1 x2 x3
    refine Rg.rd1 3 ⟨none,.store 61 (.tmp 8) (.tmp 27),0,"poly.go:35",#[⟨1,.data⟩,⟨2,.chain⟩,⟨0,.phase⟩,⟨1,.phase⟩,⟨2,.phase⟩],none⟩ fun K hK=>?_
    go_simp
    refine hK.out _ _ ?_ (fun hHeld=>?_)
    ·(try dsimp only)
     exact PB.four hHeld HNE10.out.2.symm
    clear hK K
    try simp only [Rg.gp]
    obtain ⟨w9,hw9⟩ : ∃ w9,w9 = ((((w8.setCell ⟨g8,0,none⟩ (.int .i64 F.p)).setCell ⟨g8,1,none⟩ (.int .i64 F.e)).setCell ⟨g8,2,none⟩ (FM F b cap)).setCell ⟨g8,3,none⟩ (.slice q2 (DR).length k2)):=⟨_,rfl⟩
    rw [← hw9] at hHeld ⊢
    replace hw9:=Lib.hid hw9
    obtain ⟨hs8,hoth9,hz8,hsz9,hb9⟩:=box_put (k:=W.heap.size) ⟨y0',y1',y2',y3'⟩ (fun j=>(frozen_block (HOTH8.out _ H4D.out.ne.symm) j).trans (H4D.out.z8 j)) HGE.out.2 hw9.out
    refine wpAnyH_done (by kernel_rfl) ?_ _
    have HGN : Hid (GI F b cap W g7 g8 TA TB w9 Q DR a2 q2 c2 k2):=Lib.hid
     ⟨FB.othb (FB.othb H4D.out.fb HOTH8.out (by have:=H4D.out.w7; omega)) hoth9 (by have:=H4D.out.w8; omega),
      PB.othb HS7.out hoth9 H4D.out.ne,hs8,fun j=>(frozen_block (hoth9 _ H4D.out.ne) j).trans (HZ7.out j),hz8,
      (H4D.out.nQ.othb HOTH8.out HSZ8.out (fun x o e=>(H4D.out.d2 x o e).1)).othb hoth9 hsz9 (fun x o e=>(H4D.out.d2 x o e).2),
      (HNR4D.out.othb HOTH8.out HSZ8.out (fun x o e=>(HFR.out x o e).1)).othb hoth9 hsz9 (fun x o e=>(HFR.out x o e).2),
      H4D.out.d2,HFR.out,H4D.out.poQ,HDM.out.r,H4D.out.lQ,by have:=HL10.out.2; have:=H4D.out.lQ; omega,GR.step HFF.out H4D.out.poP H4D.out.poQ H4D.out.gr HDM.out,
      (H4D.out.bl.trans HB8.out).trans hb9,by rw [hsz9,HSZ8.out]; exact H4D.out.s7,by rw [hsz9,HSZ8.out]; exact H4D.out.s8,H4D.out.w7,H4D.out.w8,H4D.out.ne⟩
    have HLN' : Hid (lenAt w9 g8 = DR.length):=Lib.hid (lenAt_of hs8.2.2.2)
    clear hHeld hs8 hoth9 hz8 hsz9 hb9 y0' y1' y2' y3' v0' v1' v2' v3'
    clear hw8 hw9 HS7 HOTH8 HZ7 HSZ8 HB8
    go_wp2
    go_roundw
    case rel=>exact ⟨Q,DR,a2,q2,c2,k2,HLN',HGN⟩
    case measure=>rw [HLN'.out,HL10.out.1]; exact HL10.out.2
end Go.Proofs.Ytllecfhfhcmpaaa
