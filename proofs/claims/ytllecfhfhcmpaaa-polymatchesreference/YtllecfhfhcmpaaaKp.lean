/- Division of polynomials: divide as one contract. -/
import Derived.Test.YtllecfhfhcmpaaaKm
import Derived.Test.YtllecfhfhcmpaaaEvTk
import Derived.Test.YtllecfhfhcmpaaaEvRl
import Derived.Test.YtllecfhfhcmpaaaEvYv
namespace Go.Proofs.Ytllecfhfhcmpaaa
open Go.RowKit Go.Fl
set_option linter.unusedVariables false
theorem divide_c {F : Gf} {b cap : Nat} {A B : List Nat} {aa ab : Option Addr} {ca cb : Nat} {W : World} (hO : Ops F b cap W) (hA : In F A) (hB : Po F B) (hbn : B ≠ []) (ha : A.length ≤ 1000) (hb : B.length ≤ 1000)
  (na : NN A W (.slice aa A.length ca)) (nb : NN B W (.slice ab B.length cb)) : Calls Try.prog 45 #[PF F b cap aa A.length ca,PF F b cap ab B.length cb] W (DvPost F b cap A B W):=by
 have h0 : 0 < B.length:=List.length_pos_iff.2 hbn
 by_cases h : B.length ≤ A.length
 ·exact div_hi hO hA hB hbn ha hb rfl rfl na nb h
 by_cases h1 : 0 < A.length
 ·by_cases h2 : B.length = A.length + 1
  ·exact div_loA hO hA hB hbn ha hb rfl rfl na nb h2 h1
  ·exact div_loB hO hA hB hbn ha hb rfl rfl na nb (by omega) h1
 ·have e : A = []:=List.eq_nil_of_length_eq_zero (by omega)
  subst e
  rcases na with ⟨_,h⟩ | ⟨b',off',cap',h,-,-,-⟩
  ·cases h
   by_cases h2 : B.length = 1
   ·exact div_nilA hO hA hB hbn hb rfl rfl nb h2
   ·exact div_nilB hO hA hB hbn hb rfl rfl nb (by omega)
  ·cases h
   by_cases h2 : B.length = 1
   ·exact div_empA hO hA hB hbn hb rfl rfl nb h2
   ·exact div_empB hO hA hB hbn hb rfl rfl nb (by omega)
set_option maxRecDepth 100000
set_option linter.unusedSimpArgs false
set_option linter.unusedSectionVars false
abbrev SM (W : World) (p q : Int) (m u : Value) (w : World) : Prop:=PB W.heap.size p q m u w ∧ PB (W.heap.size + 1) 0 0 (.slice none 0 0) (.slice none 0 0) w ∧ Hid (∀ j,w.frozen? ⟨W.heap.size + 1,j,none⟩ = false) ∧ Hid (Below W.heap.size W w) ∧ Hid (W.heap.size + 2 ≤ w.heap.size)
theorem SM.keep {W w w' : World} {p q : Int} {m u : Value} {k : Nat} (h : SM W p q m u w) (hb : Below k w w') (hk : W.heap.size + 2 ≤ k) : SM W p q m u w':=
 ⟨PB.keep h.1 hb (by omega),PB.keep h.2.1 hb (by omega),Lib.hid (fun j=>(hb.frozen (by show W.heap.size + 1 < k; omega)).trans (h.2.2.1.out j)),Lib.hid (h.2.2.2.1.out.trans (hb.mono (by omega))),Lib.hid (Nat.le_trans h.2.2.2.2.out hb.size)⟩
abbrev w2m (W : World) (p q : Int) (m u : Value) : World:=(W.alloc (.cells #[.int .i64 p,.int .i64 q,m,u] 61)).alloc (.cells #[.int .i64 0,.int .i64 0,.slice none 0 0,.slice none 0 0] 61)
theorem SM.of (W : World) (p q : Int) (m u : Value) : SM W p q m u (w2m W p q m u):=by
 have a0:=pb_at W p q m u
 have a1:=pb_at (W.alloc (.cells #[.int .i64 p,.int .i64 q,m,u] 61)) 0 0 (.slice none 0 0) (.slice none 0 0)
 have e1 : (W.alloc (.cells #[.int .i64 p,.int .i64 q,m,u] 61)).heap.size = W.heap.size + 1:=by simp
 rw [e1] at a1
 have k1 : Below (W.heap.size + 1) (W.alloc (.cells #[.int .i64 p,.int .i64 q,m,u] 61)) (w2m W p q m u):=(Below.refl _ _).alloc (by simp) _
 exact ⟨PB.keep a0 k1 (by omega),a1,Lib.hid (fun j=>World.frozen?_alloc_at _ _ _ _ (by simp)),Lib.hid (((Below.refl _ _).alloc (Nat.le_refl _) _).alloc (by simp) _),Lib.hid (by simp)⟩
theorem SM.drew {W w : World} {p q : Int} {m u : Value} (h : SM W p q m u w) : SM W p q m u w.drew:=SM.keep h (Below.refl _ _).drew h.2.2.2.2.out
theorem nn_one {w : World} {x : Nat} : NN [x] (w.alloc (.cells #[.int .i64 x] 3)) (.slice (some ⟨w.heap.size,0,none⟩) 1 1):=by
 refine .inr ⟨w.heap.size,0,1,rfl,by simp,by simp,fun t ht=>?_⟩
 have : t = 0:=by simpa using ht
 subst this
 exact World.cell?_alloc_at _ _ _ _ rfl
set_option maxHeartbeats 6400000 in
theorem monic_hi {F : Gf} {b cap : Nat} {A : List Nat} {aa : Option Addr} {n c : Nat} {W : World} (hO : Ops F b cap W) (hA : Po F A) (ha : A.length ≤ 1000) (ea : n = A.length) (hne : A ≠ [])
  (na : NN A W (.slice aa n c)) : Calls Try.prog 56 #[PF F b cap aa n c] W (PPost F b cap (mulP F A (trL [F.inv (A.getD (A.length - 1) 0)])) W):=by
 have hn0 : ¬ n = 0:=by rw [ea]; exact fun e=>hne (List.eq_nil_of_length_eq_zero e)
 have hdn : decide (n = 0) = false:=decide_eq_false hn0
 obtain ⟨ii,hii⟩ : ∃ ii,Hid (F.inv (A.getD (A.length - 1) 0) = ii):=⟨_,rfl⟩
 have HII : Hid (ii < F.q):=Lib.hid (by rw [← hii.out]; exact hO.ok.inv_lt _)
 have HINV : Hid (∀ w,Below W.heap.size W w → Calls Try.prog 67 #[PF F b cap aa n c] w fun e w'=>e = .returned (.int .i64 (ii : Nat)) ∧ Below w.heap.size w w'):=Lib.hid (fun w hw=>by
  rw [← hii.out]; exact invlast_c (hO.below hw) hA ha ea hne (na.below hw))
 rw [hii.out]
 have HL1 : Hid (In F [ii]):=Lib.hid (In.cons HII.out In.nil)
 have EA:=Lib.hid ea
 have HA:=Lib.hid hA
 have NA:=Lib.hid na
 have HO:=Lib.hid hO
 have HLA:=Lib.hid ha
 have HZ:=Lib.hid (fun w=>isZero_c (p:=F.p) (q:=F.e) (m:=FM F b cap) (a:=aa) (n:=n) (c:=c) rfl w)
 have HS0:=Lib.hid (SM.of W F.p F.e (FM F b cap) (.slice aa n c))
 have hS00:=HS0.out
 obtain ⟨⟨z0,z1,z2,z3⟩,⟨r0,r1,r2,r3⟩,-,-,-⟩:=hS00
 clear r0 r1 r2 r3
 clear hO hA na ea ha hne hn0
 go_enter Try.func56,Try.ntmps56
 go_wp2_with fail
 with_reducible refine (HZ.out _).mono ?_
 rintro z w1 ⟨rfl,hb1⟩
 have HS1:=Lib.hid (SM.keep HS0.out hb1 (by simp))
 clear hb1 HS0 z0 z1 z2 z3
 have hS0:=HS1.out.drew
 obtain ⟨⟨z0,z1,z2,z3⟩,-,-,-,-⟩:=HS1.out
 go_wp2_with fail
 refine Go.Rg.region_pre (n0:=8) (fl:=9) (m:=1) (M:=#[true,true,true,true,true,true,true,true,false]) (S:=fun w'=>SM W F.p F.e (FM F b cap) (.slice aa n c) w') (R:=fun w w'=>Below w.heap.size w w') (φ:=ph F b cap [.eq (PF F b cap aa n c),.eq (.pointer (some ⟨W.heap.size,0,none⟩)),.eq (FV F b cap),.eq (PF F b cap aa n c),.eq (.int .i64 (ii : Nat)),.sl ([ii]),.pf (trL [ii]),.pn (W.heap.size + 2) (mulP F A (trL [ii]))]) (ψ:=psi [.eq (PF F b cap aa n c),.eq (.pointer (some ⟨W.heap.size,0,none⟩)),.eq (FV F b cap),.eq (PF F b cap aa n c),.eq (.int .i64 (ii : Nat)),.sl ([ii]),.pf (trL [ii]),.pn (W.heap.size + 2) (mulP F A (trL [ii]))]) (χ:=chi [.eq (PF F b cap aa n c),.eq (.pointer (some ⟨W.heap.size,0,none⟩)),.eq (FV F b cap),.eq (PF F b cap aa n c),.eq (.int .i64 (ii : Nat)),.sl ([ii]),.pf (trL [ii]),.pn (W.heap.size + 2) (mulP F A (trL [ii]))]) (by kernel_rfl) (ph_mono _) (psi_sep _) (by decide) (by kernel_rfl) (by kernel_rfl) (by kernel_rfl) (by kernel_rfl) (by kernel_rfl) (fun h=>absurd h (by decide)) (by rfl) (hS0) ?steps ?fin
 case steps =>
  refine ⟨fun a w hat K hK=>?_,?_⟩
  ·have e1 : a.tmps[1]?.getD undef = .pointer (some ⟨W.heap.size,0,none⟩):=hat.b 1 (by kernel_rfl) rfl
   have hSt:=hat.st
   rw [if_pos (by rfl)]
   go_simp
   exact hK.out _ _ hSt (Below.refl _ _) rfl noB
  refine ⟨fun a w hat K hK=>?_,?_⟩
  ·have e1 : a.tmps[1]?.getD undef = .pointer (some ⟨W.heap.size,0,none⟩):=hat.b 1 (by kernel_rfl) rfl
   have hSt:=hat.st
   rw [if_pos (by rfl)]
   go_simp
   exact hK.out _ _ hSt (Below.refl _ _) rfl noB
  refine ⟨fun a w hat K hK=>?_,?_⟩
  ·have e9 : a.tmps[9]?.getD undef = .pointer (some ⟨W.heap.size,0,none⟩):=hat.d 1 9 (by kernel_rfl) (by kernel_rfl)
   have hSt:=hat.st
   rw [if_pos (by rfl)]
   go_simp
   exact hK.out _ _ hSt (Below.refl _ _) rfl noB
  refine ⟨fun a w hat K hK=>?_,?_⟩
  ·have e1 : a.tmps[1]?.getD undef = .pointer (some ⟨W.heap.size,0,none⟩):=hat.b 1 (by kernel_rfl) rfl
   have hSt:=hat.st
   rw [if_pos (by rfl)]
   go_simp
   exact hK.out _ _ hSt (Below.refl _ _) rfl noB
  refine ⟨fun a w hat K hK=>?_,?_⟩
  ·have e11 : a.tmps[11]?.getD undef = PF F b cap aa n c:=hat.d 3 11 (by kernel_rfl) (by kernel_rfl)
   have hSt:=hat.st
   rw [if_pos (by rfl)]
   go_simp
   go_at_call 67
   with_reducible refine (HINV.out _ hSt.2.2.2.1.out).mono ?_
   rintro z v' ⟨rfl,hb⟩
   exact hK.out _ _ (SM.keep hSt hb hSt.2.2.2.2.out) hb rfl noB
  refine ⟨fun a w hat K hK=>?_,?_⟩
  ·have e12 : a.tmps[12]?.getD undef = .int .i64 (ii : Nat):=hat.d 4 12 (by kernel_rfl) (by kernel_rfl)
   have hSt:=hat.st
   rw [if_pos (by rfl)]
   go_simp
   have hb:=(Below.refl w.heap.size w).alloc (Nat.le_refl _) (.cells #[.int .i64 (ii : Nat)] 3)
   exact hK.out _ _ (SM.keep hSt hb hSt.2.2.2.2.out) hb ⟨_,_,rfl,nn_one⟩ noB
  refine ⟨fun a w hat K hK=>?_,?_⟩
  ·have e10 : a.tmps[10]?.getD undef = FV F b cap:=hat.d 2 10 (by kernel_rfl) (by kernel_rfl)
   obtain ⟨a13,c13,e13,n13⟩:=(show (Ke.sl ([ii])).ok F b cap (a.tmps[13]?.getD undef) w from hat.d 5 13 (by kernel_rfl) (by kernel_rfl))
   have hSt:=hat.st
   rw [if_pos (by rfl)]
   have n13' : NN [ii] w (.slice a13 1 c13):=n13
   go_simp
   go_at_call 43
   with_reducible refine (over_c (L:=[ii]) (n:=1) (by simp) rfl n13').mono ?_
   rintro z v' ⟨rfl,hb⟩
   exact hK.out _ _ (SM.keep hSt hb hSt.2.2.2.2.out) hb ⟨_,_,rfl,(n13.tr2 rfl).below hb⟩ noB
  refine ⟨fun a w hat K hK=>?_,?_⟩
  ·have e8 : a.tmps[8]?.getD undef = PF F b cap aa n c:=hat.d 0 8 (by kernel_rfl) (by kernel_rfl)
   obtain ⟨a14,c14,e14,n14⟩:=(show (Ke.pf (trL [ii])).ok F b cap (a.tmps[14]?.getD undef) w from hat.d 6 14 (by kernel_rfl) (by kernel_rfl))
   have hSt:=hat.st
   rw [if_pos (by rfl)]
   go_simp
   go_at_call 52
   with_reducible refine (times_c (HO.out.below hSt.2.2.2.1.out) HA.out.el (in_trL HL1.out) HLA.out (Nat.le_trans (trL_len _) (by simp)) EA.out rfl (NA.out.below hSt.2.2.2.1.out) n14).mono ?_
   rintro z v' ⟨a',c',rfl,hn',hb,hfr⟩
   exact hK.out _ _ (SM.keep hSt hb hSt.2.2.2.2.out) hb ⟨a',c',rfl,hn',fun h o e=>Nat.le_trans hSt.2.2.2.2.out (hfr h o e)⟩ noB
  exact trivial
 case fin =>
  intro a w hsz hdf hbase hSt hval hpair hun
  obtain ⟨t,df⟩:=a
  have et:=Go.Rg.tmps_of hsz [8,9,10,11,12,13,14,15] (Go.Rg.rest_of (by kernel_rfl) hbase hun)
  have x8 : t.getD 8 undef = PF F b cap aa n c:=hval 0 8 (by decide) (by kernel_rfl)
  have x9 : t.getD 9 undef = .pointer (some ⟨W.heap.size,0,none⟩):=hval 1 9 (by decide) (by kernel_rfl)
  have x10 : t.getD 10 undef = FV F b cap:=hval 2 10 (by decide) (by kernel_rfl)
  have x11 : t.getD 11 undef = PF F b cap aa n c:=hval 3 11 (by decide) (by kernel_rfl)
  have x12 : t.getD 12 undef = .int .i64 (ii : Nat):=hval 4 12 (by decide) (by kernel_rfl)
  obtain ⟨p13,q13,x13,m13⟩:=(show (Ke.sl ([ii])).ok F b cap (t.getD 13 undef) w from hval 5 13 (by decide) (by kernel_rfl))
  obtain ⟨p14,q14,x14,m14⟩:=(show (Ke.pf (trL [ii])).ok F b cap (t.getD 14 undef) w from hval 6 14 (by decide) (by kernel_rfl))
  obtain ⟨p15,q15,x15,m15,fr15⟩:=(show (Ke.pn (W.heap.size + 2) (mulP F A (trL [ii]))).ok F b cap (t.getD 15 undef) w from hval 7 15 (by decide) (by kernel_rfl))
  clear hval hbase hsz hpair hun
  simp only [List.foldl_cons,List.foldl_nil,x8,x9,x10,x11,x12,x13,x14,x15] at et
  rw [et]
  have hdf' : df = _:=hdf
  rw [hdf']
  simp only [List.setIfInBounds_toArray,List.set_cons_zero,List.set_cons_succ]
  clear et hdf hdf'
  refine wpAny_of_held (S:=fun _=>True) _ _ _ _ ?_
  obtain ⟨-,⟨r0,r1,r2,r3⟩,hfz,hbl,-⟩:=hSt
  have f0:=hfz.out 0
  have f1:=hfz.out 1
  have f2:=hfz.out 2
  have f3:=hfz.out 3
  refine Rg.rd1 8 ⟨none,.store 61 (.tmp 2) (.tmp 15),0,"polynomial.go:76",#[⟨7,.data⟩,⟨7,.chain⟩,⟨0,.phase⟩,⟨1,.phase⟩,⟨2,.phase⟩,⟨3,.phase⟩,⟨4,.phase⟩,⟨5,.phase⟩,⟨6,.phase⟩,⟨7,.phase⟩],none⟩ fun K hK=>?_
  go_simp
  refine hK.out _ _ trivial (fun _=>?_)
  clear hK K
  try simp only [Rg.gp]
  obtain ⟨w9,hw9⟩ : ∃ w9,w9 = ((((w.setCell ⟨W.heap.size + 1,0,none⟩ (.int .i64 F.p)).setCell ⟨W.heap.size + 1,1,none⟩ (.int .i64 F.e)).setCell ⟨W.heap.size + 1,2,none⟩ (FM F b cap)).setCell ⟨W.heap.size + 1,3,none⟩ (.slice p15 (mulP F A (trL [ii])).length q15)):=⟨_,rfl⟩
  rw [← hw9]
  obtain ⟨⟨s0,s1,s2,s3⟩,hoth,-,hsz9,hb9⟩:=box_put (k:=W.heap.size + 1) ⟨r0,r1,r2,r3⟩ hfz.out (Nat.le_refl _) hw9
  refine wpAnyH_done (by kernel_rfl) ?_ _
  have HN9:=Lib.hid (NN.othb m15 hoth hsz9 (fun x o e=>by have:=fr15 x o e; omega))
  have HB9:=Lib.hid (hbl.out.trans (hb9.mono (by omega)))
  clear hw9 r0 r1 r2 r3 f0 f1 f2 f3 hoth hsz9 hb9 m15 hbl
  go_wp2
  exact bodyPost_ret (v:=PF F b cap p15 (mulP F A (trL [ii])).length q15) (by simp [results,Try.results56,go_sem,s0,s1,s2,s3]) rfl ⟨_,_,rfl,HN9.out,HB9.out,fun h o e=>by have:=fr15 h o e; omega⟩
set_option maxHeartbeats 3200000 in
theorem monic_lo {F : Gf} {b cap : Nat} {aa : Option Addr} {c : Nat} {W : World} : Calls Try.prog 56 #[PF F b cap aa 0 c] W (PPost F b cap [] W):=by
 have HZ:=Lib.hid (fun w=>isZero_c (p:=F.p) (q:=F.e) (m:=FM F b cap) (a:=aa) (n:=0) (c:=c) rfl w)
 have HS0:=Lib.hid (SM.of W F.p F.e (FM F b cap) (.slice aa 0 c))
 have hS00:=HS0.out
 obtain ⟨⟨z0,z1,z2,z3⟩,⟨r0,r1,r2,r3⟩,-,-,-⟩:=hS00
 clear r0 r1 r2 r3
 go_enter Try.func56,Try.ntmps56
 go_wp2_with fail
 with_reducible refine (HZ.out _).mono ?_
 rintro z w1 ⟨rfl,hb1⟩
 have HS1:=Lib.hid (SM.keep HS0.out hb1 (by simp))
 clear hb1 HS0 z0 z1 z2 z3
 obtain ⟨⟨z0,z1,z2,z3⟩,⟨r0,r1,r2,r3⟩,hfz,hbl,-⟩:=HS1.out
 have f0:=hfz.out 0
 have f1:=hfz.out 1
 have f2:=hfz.out 2
 have f3:=hfz.out 3
 go_wp2
 exact bodyPost_ret (v:=PF F b cap none 0 0) (by simp [results,Try.results56,go_sem,r0,r1,r2,r3]) rfl ⟨none,0,rfl,.inl ⟨rfl,rfl⟩,(((hbl.out.setCell (by show W.heap.size ≤ W.heap.size + 1; omega) _).setCell (by show W.heap.size ≤ W.heap.size + 1; omega) _).setCell (by show W.heap.size ≤ W.heap.size + 1; omega) _).setCell (by show W.heap.size ≤ W.heap.size + 1; omega) _,fun h o e=>by cases e⟩
theorem monic_c {F : Gf} {b cap : Nat} {A : List Nat} {aa : Option Addr} {n c : Nat} {W : World} (hO : Ops F b cap W) (hA : Po F A) (ha : A.length ≤ 1000) (ea : n = A.length)
  (na : NN A W (.slice aa n c)) : Calls Try.prog 56 #[PF F b cap aa n c] W (PPost F b cap (monP F A) W):=by
 by_cases h : A = []
 ·subst h
  subst ea
  exact monic_lo
 ·rw [monP_ne h]
  exact monic_hi hO hA ha ea h na
open Classical in
noncomputable def dqr (F : Gf) (A B : List Nat) : List Nat × List Nat:=if h : ∃ p : List Nat × List Nat,DM F A B p.1 p.2 then Classical.choose h else ([],[])
noncomputable def dq (F : Gf) (A B : List Nat) : List Nat:=(dqr F A B).1
noncomputable def dr (F : Gf) (A B : List Nat) : List Nat:=(dqr F A B).2
theorem dqr_of {F : Gf} (hF : Ok F) {A B Q R : List Nat} (hB : Po F B) (h : DM F A B Q R) : Q = dq F A B ∧ R = dr F A B:=by
 have hx : ∃ p : List Nat × List Nat,DM F A B p.1 p.2:=⟨(Q,R),h⟩
 have e : dqr F A B = Classical.choose hx:=by unfold dqr; rw [dif_pos hx]
 have h2 : DM F A B (dq F A B) (dr F A B):=by unfold dq dr; rw [e]; exact Classical.choose_spec hx
 exact h.uniq hF hB h2
theorem dv_named {F : Gf} {b cap : Nat} {A B : List Nat} {w w' : World} {e : Ending} (hF : Ok F) (hB : Po F B) (h : DvPost F b cap A B w e w') :
  ∃ a1 c1 a2 c2,e = .returned (.tuple #[PF F b cap a1 (dq F A B).length c1,PF F b cap a2 (dr F A B).length c2]) ∧ NN (dq F A B) w' (.slice a1 (dq F A B).length c1) ∧ NN (dr F A B) w' (.slice a2 (dr F A B).length c2) ∧ DM F A B (dq F A B) (dr F A B) ∧ Below w.heap.size w w' ∧ Fr w a1 ∧ Fr w a2:=by
 obtain ⟨Q,R,a1,c1,a2,c2,h1,h2,h3,h4,h5⟩:=h
 obtain ⟨rfl,rfl⟩:=dqr_of hF hB h4
 exact ⟨a1,c1,a2,c2,h1,h2,h3,h4,h5⟩
theorem dq_po {F : Gf} {A B : List Nat} : Po F (dq F A B) ∧ Po F (dr F A B):=by
 unfold dq dr dqr
 split
 ·rename_i h
  exact ⟨(Classical.choose_spec h).q,(Classical.choose_spec h).r⟩
 ·exact ⟨Po.nil,Po.nil⟩
abbrev S9 (W : World) (g : Nat) (p q : Int) (m v : Value) (w : World) : Prop:=FB W.heap.size p q m w ∧ PB g p q m v w ∧ Hid (Below W.heap.size W w) ∧ Hid (W.heap.size < w.heap.size ∧ g < w.heap.size)
theorem S9.keep {W w w' : World} {g : Nat} {p q : Int} {m v : Value} (h : S9 W g p q m v w) (hb : Below w.heap.size w w') : S9 W g p q m v w':=
 ⟨FB.keep h.1 hb h.2.2.2.out.1,PB.keep h.2.1 hb h.2.2.2.out.2,Lib.hid (h.2.2.1.out.trans (hb.mono (by have:=h.2.2.2.out; omega))),Lib.hid ⟨Nat.lt_of_lt_of_le h.2.2.2.out.1 hb.size,Nat.lt_of_lt_of_le h.2.2.2.out.2 hb.size⟩⟩
def DmPost (Q R : List Nat) (w : World) (e : Ending) (w' : World) : Prop:=
 ∃ a1 c1 a2 c2,e = .returned (.tuple #[.slice a1 Q.length c1,.slice a2 R.length c2,.int .i64 0]) ∧ NN Q w' (.slice a1 Q.length c1) ∧ NN R w' (.slice a2 R.length c2) ∧ Below w.heap.size w w'
set_option maxHeartbeats 6400000 in
theorem divmod_hi {F : Gf} {b cap : Nat} {A B : List Nat} {aa ab : Option Addr} {la lb ca cb : Nat} {W : World} (hO : Ops F b cap W) (hA : In F A) (hB : In F B) (ha : A.length ≤ 1000) (hb : B.length ≤ 1000) (ea : la = A.length) (eb : lb = B.length)
  (na : NN A W (.slice aa la ca)) (nb : NN B W (.slice ab lb cb)) (hne : trL B ≠ []) : Calls Try.prog 17 #[FV F b cap,.slice aa la ca,.slice ab lb cb] W (DmPost (dq F (trL A) (trL B)) (dr F (trL A) (trL B)) W):=by
 have hn0 : ¬ (trL B).length = 0:=fun e=>hne (List.eq_nil_of_length_eq_zero e)
 have hdn : decide ((trL B).length = 0) = false:=decide_eq_false hn0
 have hbx : Below W.heap.size W (W.alloc (.cells #[.int .i64 F.p,.int .i64 F.e,FM F b cap] 28)):=(Below.refl _ _).alloc (Nat.le_refl _) _
 have HOB:=Lib.hid (fun w (h : Below W.heap.size W w)=>over_c (p:=F.p) (q:=F.e) (ma:=some ⟨b,0,none⟩) (ml:=F.e) (mc:=cap) (L:=B) (by omega) eb (nb.below h))
 have HOA:=Lib.hid (fun w (h : Below W.heap.size W w)=>over_c (p:=F.p) (q:=F.e) (ma:=some ⟨b,0,none⟩) (ml:=F.e) (mc:=cap) (L:=A) (by omega) ea (na.below h))
 have HDV:=Lib.hid (fun w (h : Below W.heap.size W w)=>(divide_c (aa:=aa) (ab:=ab) (ca:=ca) (cb:=cb) (hO.below h) (in_trL hA) (Po.tr hB) hne (Nat.le_trans (trL_len A) ha) (Nat.le_trans (trL_len B) hb) ((na.tr2 ea).below h) ((nb.tr2 eb).below h)).mono fun e w' h'=>dv_named hO.ok (Po.tr hB) h')
 have HZ:=Lib.hid (fun w=>by have:=isZero_c (p:=F.p) (q:=F.e) (m:=FM F b cap) (a:=ab) (n:=(trL B).length) (c:=cb) rfl w; rw [hdn] at this; exact this)
 have HBX:=Lib.hid hbx
 clear hdn
 have HCQ:=Lib.hid (dq_po (F:=F) (A:=trL A) (B:=trL B)).1.cn
 have HCR:=Lib.hid (dq_po (F:=F) (A:=trL A) (B:=trL B)).2.cn
 clear hbx hO hA hB ha hb ea eb na nb hne hn0
 generalize trL A = TA at *
 generalize trL B = TB at *
 generalize dq F TA TB = DQ at *
 generalize dr F TA TB = DR at *
 go_enter Try.func17,Try.ntmps17
 go_wp2_with fail
 with_reducible refine (HOB.out _ HBX.out).mono ?_
 rintro z w1 ⟨rfl,hb1⟩
 have HB1:=Lib.hid (HBX.out.trans (hb1.mono (by simp)))
 have hfb : FB W.heap.size F.p F.e (FM F b cap) w1:=FB.keep (w:=W.alloc (.cells #[.int .i64 F.p,.int .i64 F.e,FM F b cap] 28)) (by simp [FB]) hb1 (by simp)
 have HSZ : Hid (W.heap.size < w1.heap.size):=Lib.hid (Nat.lt_of_lt_of_le (by simp) hb1.size)
 clear hb1
 have H9 : Hid (S9 W w1.heap.size F.p F.e (FM F b cap) (.slice ab TB.length cb) (w1.alloc (.cells #[.int .i64 F.p,.int .i64 F.e,FM F b cap,.slice ab TB.length cb] 61))):=Lib.hid
  ⟨FB.keep hfb ((Below.refl w1.heap.size w1).alloc (Nat.le_refl _) _) HSZ.out,pb_at _ _ _ _ _,Lib.hid (HB1.out.alloc HB1.out.size _),Lib.hid (by have:=HSZ.out; simp; omega)⟩
 go_wp2_with fail
 with_reducible refine (HZ.out _).mono ?_
 rintro z w2 ⟨rfl,hb2⟩
 obtain ⟨gB,hgB⟩ : ∃ gB,gB = w1.heap.size:=⟨_,rfl⟩
 rw [← hgB] at H9 ⊢
 have H2:=Lib.hid (H9.out.keep hb2)
 clear hb2 H9 hgB hfb
 have hS0 : S9 W gB F.p F.e (FM F b cap) (.slice ab TB.length cb) w2.drew:=H2.out.keep (Below.refl _ _).drew
 obtain ⟨⟨f0,f1,f2⟩,⟨z0,z1,z2,z3⟩,-,-⟩:=H2.out
 go_wp2_with fail
 refine Go.Rg.region_pre (n0:=10) (fl:=7) (m:=2) (M:=#[true,true,true,true,true,true,true,true,true,true,false,false]) (S:=fun w'=>S9 W gB F.p F.e (FM F b cap) (.slice ab TB.length cb) w') (R:=fun w w'=>Below w.heap.size w w') (φ:=ph F b cap [.eq (FV F b cap),.eq (.slice aa la ca),.eq (PF F b cap aa TA.length ca),.eq (PF F b cap ab TB.length cb),.p2 (0) (DQ) (DR),.p2 (0) (DQ) (DR),.pn (0) (DQ),.pn (0) (DR),.bx (W.heap.size),.bx (W.heap.size)]) (ψ:=psi [.eq (FV F b cap),.eq (.slice aa la ca),.eq (PF F b cap aa TA.length ca),.eq (PF F b cap ab TB.length cb),.p2 (0) (DQ) (DR),.p2 (0) (DQ) (DR),.pn (0) (DQ),.pn (0) (DR),.bx (W.heap.size),.bx (W.heap.size)]) (χ:=chi [.eq (FV F b cap),.eq (.slice aa la ca),.eq (PF F b cap aa TA.length ca),.eq (PF F b cap ab TB.length cb),.p2 (0) (DQ) (DR),.p2 (0) (DQ) (DR),.pn (0) (DQ),.pn (0) (DR),.bx (W.heap.size),.bx (W.heap.size)]) (by kernel_rfl) (ph_mono _) (psi_sep _) (by decide) (by kernel_rfl) (by kernel_rfl) (by kernel_rfl) (by kernel_rfl) (by kernel_rfl) ?float (by rfl) (hS0) ?steps ?fin
 case float =>
  intro _
  refine ⟨by kernel_rfl,by kernel_rfl,fun o ho=>?_⟩
  have ho2 : some (⟨some 24,.extract (.tmp 17) 1,61,"poly.go:25",#[⟨5,.data⟩,⟨10,.gcOnly Go.Departure.lateStores⟩],none⟩ : Oper) = some o:=ho
  cases ho2
  refine ⟨fun _ _ _ _ h=>h,fun a w hat=>?_⟩
  obtain ⟨a17,c17,a'17,c'17,e17,n17,n'17,fr17,fr'17⟩:=(show (Ke.p2 (0) (DQ) (DR)).ok F b cap (a.tmps[17]?.getD undef) w from hat.d 5 17 (by kernel_rfl) (by kernel_rfl))
  exact ⟨PF F b cap a'17 (DR).length c'17,.inl ⟨by rfl,fun w=>by go_simp⟩,⟨a'17,c'17,rfl,n'17,fr'17⟩,noB⟩
 case steps =>
  refine ⟨fun a w hat K hK=>?_,?_⟩
  ·have e3 : a.tmps[3]?.getD undef = .pointer (some ⟨W.heap.size,0,none⟩):=hat.b 3 (by kernel_rfl) rfl
   have hSt:=hat.st
   rw [if_pos (by rfl)]
   go_simp
   exact hK.out _ _ hSt (Below.refl _ _) rfl noB
  refine ⟨Go.Rg.step2_mv rfl (.inl rfl) (fun _=>Below.refl _ _) (fun _ _=>noB) (fun a w hat=>hat.b 1 (by kernel_rfl) rfl),?_⟩
  refine ⟨fun a w hat K hK=>?_,?_⟩
  ·have e18 : a.tmps[18]?.getD undef = FV F b cap:=hat.d 0 18 (by kernel_rfl) (by kernel_rfl)
   have e19 : a.tmps[19]?.getD undef = .slice aa la ca:=hat.d 1 19 (by kernel_rfl) (by kernel_rfl)
   have hSt:=hat.st
   rw [if_pos (by rfl)]
   go_simp
   go_at_call 43
   with_reducible refine (HOA.out _ hSt.2.2.1.out).mono ?_
   rintro z v' ⟨rfl,hb⟩
   exact hK.out _ _ (S9.keep hSt hb) hb rfl noB
  refine ⟨fun a w hat K hK=>?_,?_⟩
  ·have e9 : a.tmps[9]?.getD undef = .pointer (some ⟨gB,0,none⟩):=hat.b 9 (by kernel_rfl) rfl
   have hSt:=hat.st
   rw [if_pos (by rfl)]
   go_simp
   exact hK.out _ _ hSt (Below.refl _ _) rfl noB
  refine ⟨fun a w hat K hK=>?_,?_⟩
  ·have e20 : a.tmps[20]?.getD undef = PF F b cap aa TA.length ca:=hat.d 2 20 (by kernel_rfl) (by kernel_rfl)
   have e21 : a.tmps[21]?.getD undef = PF F b cap ab TB.length cb:=hat.d 3 21 (by kernel_rfl) (by kernel_rfl)
   have hSt:=hat.st
   rw [if_pos (by rfl)]
   go_simp
   go_at_call 45
   with_reducible refine (HDV.out _ hSt.2.2.1.out).mono ?_
   rintro z v' ⟨a',c',a2',c2',rfl,hn',hn2',hdm',hb,hfr,hfr2⟩
   exact hK.out _ _ (S9.keep hSt hb) hb ⟨a',c',a2',c2',rfl,hn',hn2',fun _ _ _=>Nat.zero_le _,fun _ _ _=>Nat.zero_le _⟩ noB
  refine ⟨Go.Rg.step2_mv rfl (.inl rfl) (fun _=>Below.refl _ _) (fun _ _=>noB) (fun a w hat=>hat.d 4 22 (by kernel_rfl) (by kernel_rfl)),?_⟩
  refine ⟨fun a w hat K hK=>?_,?_⟩
  ·obtain ⟨a17,c17,a'17,c'17,e17,n17,n'17,fr17,fr'17⟩:=(show (Ke.p2 (0) (DQ) (DR)).ok F b cap (a.tmps[17]?.getD undef) w from hat.d 5 17 (by kernel_rfl) (by kernel_rfl))
   have hSt:=hat.st
   rw [if_pos (by rfl)]
   go_simp
   exact hK.out _ _ hSt (Below.refl _ _) ⟨a17,c17,rfl,n17,fr17⟩ noB
  refine ⟨fun a w hat K hK=>?_,?_⟩
  ·obtain ⟨a17,c17,a'17,c'17,e17,n17,n'17,fr17,fr'17⟩:=(show (Ke.p2 (0) (DQ) (DR)).ok F b cap (a.tmps[17]?.getD undef) w from hat.d 5 17 (by kernel_rfl) (by kernel_rfl))
   have hSt:=hat.st
   rw [if_pos (by rfl)]
   go_simp
   exact hK.out _ _ hSt (Below.refl _ _) ⟨a'17,c'17,rfl,n'17,fr'17⟩ noB
  refine ⟨fun a w hat K hK=>?_,?_⟩
  ·have hSt:=hat.st
   rw [if_pos (by rfl)]
   go_simp
   have hb:=(Below.refl w.heap.size w).alloc (Nat.le_refl _) (.cells #[.int .i64 0,.int .i64 0,.slice none 0 0,.slice none 0 0] 61)
   exact hK.out _ _ (S9.keep hSt hb) hb ⟨_,rfl,hSt.2.2.1.out.size,zb_at w⟩ (fun _=>rfl)
  refine ⟨fun a w hat K hK=>?_,?_⟩
  ·have hSt:=hat.st
   rw [if_pos (by rfl)]
   go_simp
   have hb:=(Below.refl w.heap.size w).alloc (Nat.le_refl _) (.cells #[.int .i64 0,.int .i64 0,.slice none 0 0,.slice none 0 0] 61)
   exact hK.out _ _ (S9.keep hSt hb) hb ⟨_,rfl,hSt.2.2.1.out.size,zb_at w⟩ (fun _=>rfl)
  exact trivial
 case fin =>
  intro a w hsz hdf hbase hSt hval hpair hun
  obtain ⟨t,df⟩:=a
  have et:=Go.Rg.tmps_of hsz [18,19,20,21,22,17,23,24,10,11] (Go.Rg.rest_of (by kernel_rfl) hbase hun)
  have x18 : t.getD 18 undef = FV F b cap:=hval 0 18 (by decide) (by kernel_rfl)
  have x19 : t.getD 19 undef = .slice aa la ca:=hval 1 19 (by decide) (by kernel_rfl)
  have x20 : t.getD 20 undef = PF F b cap aa TA.length ca:=hval 2 20 (by decide) (by kernel_rfl)
  have x21 : t.getD 21 undef = PF F b cap ab TB.length cb:=hval 3 21 (by decide) (by kernel_rfl)
  obtain ⟨p22,q22,p'22,q'22,x22,m22,m'22,fr22,fr'22⟩:=(show (Ke.p2 (0) (DQ) (DR)).ok F b cap (t.getD 22 undef) w from hval 4 22 (by decide) (by kernel_rfl))
  obtain ⟨p17,q17,p'17,q'17,x17,m17,m'17,fr17,fr'17⟩:=(show (Ke.p2 (0) (DQ) (DR)).ok F b cap (t.getD 17 undef) w from hval 5 17 (by decide) (by kernel_rfl))
  obtain ⟨p23,q23,x23,m23,fr23⟩:=(show (Ke.pn (0) (DQ)).ok F b cap (t.getD 23 undef) w from hval 6 23 (by decide) (by kernel_rfl))
  obtain ⟨p24,q24,x24,m24,fr24⟩:=(show (Ke.pn (0) (DR)).ok F b cap (t.getD 24 undef) w from hval 7 24 (by decide) (by kernel_rfl))
  obtain ⟨g10,x10,gl10,gb10⟩:=(show (Ke.bx (W.heap.size)).ok F b cap (t.getD 10 undef) w from hval 8 10 (by decide) (by kernel_rfl))
  obtain ⟨g11,x11,gl11,gb11⟩:=(show (Ke.bx (W.heap.size)).ok F b cap (t.getD 11 undef) w from hval 9 11 (by decide) (by kernel_rfl))
  have gne10_11 : g10 ≠ g11:=by
    have h : t.getD 10 undef ≠ t.getD 11 undef:=hpair 8 9 10 11 (by decide) (by decide) (by decide) (by kernel_rfl) (by kernel_rfl) rfl rfl
    rw [x10,x11] at h
    intro e; exact h (by rw [e])
  clear hval hbase hsz hpair hun
  simp only [List.foldl_cons,List.foldl_nil,x18,x19,x20,x21,x22,x17,x23,x24,x10,x11] at et
  rw [et]
  have hdf' : df = _:=hdf
  rw [hdf']
  simp only [List.setIfInBounds_toArray,List.set_cons_zero,List.set_cons_succ]
  clear et hdf hdf'
  refine wpAny_of_held (S:=fun _=>True) _ _ _ _ ?_
  obtain ⟨r0,r1,r2,r3⟩:=zb_pb gb10
  have u0:=zb_fz gb10 0
  have u1:=zb_fz gb10 1
  have u2:=zb_fz gb10 2
  have u3:=zb_fz gb10 3
  refine Rg.rd1 10 ⟨none,.store 61 (.tmp 10) (.tmp 23),0,"poly.go:25",#[⟨8,.data⟩,⟨6,.data⟩,⟨4,.chain⟩,⟨0,.phase⟩,⟨1,.phase⟩,⟨2,.phase⟩,⟨3,.phase⟩,⟨4,.phase⟩,⟨5,.phase⟩,⟨6,.phase⟩,⟨7,.textOnly Go.Departure.lateStores⟩,⟨8,.phase⟩,⟨9,.phase⟩],none⟩ fun K hK=>?_
  go_simp
  refine hK.out _ _ trivial (fun _=>?_)
  clear hK K
  try simp only [Rg.gp]
  obtain ⟨w8,hw8⟩ : ∃ w9,w9 = ((((w.setCell ⟨g10,0,none⟩ (.int .i64 F.p)).setCell ⟨g10,1,none⟩ (.int .i64 F.e)).setCell ⟨g10,2,none⟩ (FM F b cap)).setCell ⟨g10,3,none⟩ (.slice p23 (DQ).length q23)):=⟨_,rfl⟩
  rw [← hw8]
  replace hw8:=Lib.hid hw8
  have gb11_w8 : w8.heap[g11]? = some zbox:=by rw [hw8.out]; exact (heap4 gne10_11.symm).trans gb11
  obtain ⟨r0,r1,r2,r3⟩:=zb_pb gb11_w8
  have u0:=zb_fz gb11_w8 0
  have u1:=zb_fz gb11_w8 1
  have u2:=zb_fz gb11_w8 2
  have u3:=zb_fz gb11_w8 3
  refine Rg.rd1 11 ⟨none,.store 61 (.tmp 11) (.tmp 24),0,"poly.go:25",#[⟨9,.data⟩,⟨7,.data⟩,⟨10,.chain⟩,⟨0,.phase⟩,⟨1,.phase⟩,⟨2,.phase⟩,⟨3,.phase⟩,⟨4,.phase⟩,⟨5,.phase⟩,⟨6,.phase⟩,⟨7,.phase⟩,⟨8,.phase⟩,⟨9,.phase⟩,⟨10,.phase⟩],none⟩ fun K hK=>?_
  go_simp
  refine hK.out _ _ trivial (fun _=>?_)
  clear hK K
  try simp only [Rg.gp]
  obtain ⟨w9,hw9⟩ : ∃ w9,w9 = ((((w8.setCell ⟨g11,0,none⟩ (.int .i64 F.p)).setCell ⟨g11,1,none⟩ (.int .i64 F.e)).setCell ⟨g11,2,none⟩ (FM F b cap)).setCell ⟨g11,3,none⟩ (.slice p24 (DR).length q24)):=⟨_,rfl⟩
  rw [← hw9]
  replace hw9:=Lib.hid hw9
  refine wpAnyH_done (by kernel_rfl) ?_ _
  obtain ⟨⟨s0,s1,s2,s3⟩,hoth8,-,hsz8,hb8⟩:=box_put (k:=W.heap.size) (zb_pb gb10) (zb_fz gb10) gl10 hw8.out
  obtain ⟨⟨t0,t1,t2,t3⟩,hoth9,-,hsz9,hb9⟩:=box_put (k:=W.heap.size) (zb_pb gb11_w8) (zb_fz gb11_w8) gl11 hw9.out
  have HNQ:=Lib.hid ((NN.putz m23 HCQ.out gb10 hoth8 hsz8).putz HCQ.out gb11_w8 hoth9 hsz9)
  have HNR:=Lib.hid ((NN.putz m24 HCR.out gb10 hoth8 hsz8).putz HCR.out gb11_w8 hoth9 hsz9)
  obtain ⟨s0',s1',s2',s3'⟩:=PB.othb ⟨s0,s1,s2,s3⟩ hoth9 gne10_11
  have HBF:=Lib.hid ((hSt.2.2.1.out.trans hb8).trans hb9)
  clear hw8 hw9 hoth8 hoth9 hsz8 hsz9 hb8 hb9 gb10 gb11 gb11_w8 m23 m24 hSt hS0 s0 s1 s2 s3
  go_wp2_with fail
  go_quiet (fail)
  go_wp2
  exact bodyPost_ret (v:=.tuple #[.slice p23 DQ.length q23,.slice p24 DR.length q24,.int .i64 0]) (by simp [results,Try.results17,go_sem]) rfl ⟨_,_,_,_,rfl,HNQ.out,HNR.out,below_drewnK HBF.out _⟩
set_option maxHeartbeats 3200000 in
theorem divmod_lo {F : Gf} {b cap : Nat} {B : List Nat} {va : Value} {ab : Option Addr} {lb cb : Nat} {W : World} (hb : B.length ≤ 1000) (eb : lb = B.length)
  (nb : NN B W (.slice ab lb cb)) (he : trL B = []) : Calls Try.prog 17 #[FV F b cap,va,.slice ab lb cb] W fun e w'=>e = .returned (.tuple #[.slice none 0 0,.slice none 0 0,.int .i64 3]) ∧ Below W.heap.size W w':=by
 have hbx : Below W.heap.size W (W.alloc (.cells #[.int .i64 F.p,.int .i64 F.e,FM F b cap] 28)):=(Below.refl _ _).alloc (Nat.le_refl _) _
 have HOB:=Lib.hid (fun w (h : Below W.heap.size W w)=>by
  have:=over_c (p:=F.p) (q:=F.e) (ma:=some ⟨b,0,none⟩) (ml:=F.e) (mc:=cap) (L:=B) (by omega) eb (nb.below h)
  rw [he] at this
  exact this)
 have HZ:=Lib.hid (fun w=>isZero_c (p:=F.p) (q:=F.e) (m:=FM F b cap) (a:=ab) (n:=0) (c:=cb) rfl w)
 have HBX:=Lib.hid hbx
 clear hbx hb eb nb he
 go_enter Try.func17,Try.ntmps17
 go_wp2_with fail
 with_reducible refine (HOB.out _ HBX.out).mono ?_
 rintro z w1 ⟨rfl,hb1⟩
 have HB1:=Lib.hid (HBX.out.trans (hb1.mono (by simp)))
 clear hb1
 have HB2 : Hid (Below W.heap.size W (w1.alloc (.cells #[.int .i64 F.p,.int .i64 F.e,FM F b cap,.slice ab 0 cb] 61))):=Lib.hid (HB1.out.alloc HB1.out.size _)
 go_wp2_with fail
 with_reducible refine (HZ.out _).mono ?_
 rintro z w2 ⟨rfl,hb2⟩
 have HB3:=Lib.hid (HB2.out.trans (hb2.mono HB2.out.size))
 clear hb2
 go_wp2
 exact bodyPost_ret (v:=.tuple #[.slice none 0 0,.slice none 0 0,.int .i64 3]) (by simp [results,Try.results17,go_sem]) rfl ⟨rfl,HB3.out⟩
end Go.Proofs.Ytllecfhfhcmpaaa
