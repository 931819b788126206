/- The end of divide. -/
import Derived.Test.YtllecfhfhcmpaaaEvTk
import Derived.Test.YtllecfhfhcmpaaaKv
namespace Go.Proofs.Ytllecfhfhcmpaaa
open Go.RowKit Go.Fl
set_option maxRecDepth 100000
set_option linter.unusedVariables false
set_option linter.unusedSimpArgs false
set_option linter.unusedSectionVars false
set_option maxHeartbeats 6400000 in
theorem div_finS {F : Gf} {b cap : Nat} {A B Q R : List Nat} {W wr : World} {u v : Value} {di : Int} {gq nq mq g ll cL mm : Nat} {K : Act → World → Prop} {s0 s1 s3 s7 s10 s11 s12 s13 s14 s15 s16 s17 s18 s19 s20 s21 s22 s23 s24 s25 s26 s27 s28 s29 s30 s31 s32 s33 s34 s35 s36 s37 s38 s39 s40 s41 s42 s43 s44 s45 s46 s47 s48 s49 s50 s51 s52 s53 s54 s55 s56 s57 s58 s59 s60 s61 s62 s63 s64 s65 s66 s67 s68 s69 s70 s71 s72 s73 s74 s75 s76 s77 s78 s79 s80 s81 s82 s83 s84 s85 s86 s87 s88 s89 s90 : Value}
  (hK : ∀ a w,Code.wp Try.prog Code.ret (bodyPost Try.prog Try.f45 (DvPost F b cap A B W)) a w → K a w) (hP : P4 W F.p F.e (FM F b cap) u v wr) (hQ : NN Q wr (.slice (some ⟨gq,0,none⟩) nq mq)) (lq : nq = Q.length) (lQ : Q.length ≤ 1000000)
  (hR : NN R wr (.slice (some ⟨g,0,none⟩) mm cL)) (lr : mm = R.length) (lR : R.length ≤ 1000000) (gQ : W.heap.size + 4 ≤ gq) (gR : W.heap.size + 4 ≤ g) (hmin : (if (ll : Int) < di then (ll : Int) else di) = (mm : Int)) (hmc : mm ≤ cL) (hD : DM F A B (trL Q) (trL R)) :
  Code.wp Try.prog (Code.region 15 #[⟨some 78,.fieldAddr 61 (.tmp 2) 0,0,"polynomial.go:68",#[],none⟩,⟨some 79,.load 28 (.tmp 78),28,"polynomial.go:68",#[⟨0,.data⟩],none⟩,⟨some 80,.move (.tmp 9),25,"polynomial.go:68",#[],none⟩,⟨some 81,.call ⟨.value (.func 43),#[.tmp 79,.tmp 80],#[28,25]⟩,61,"polynomial.go:68",#[⟨1,.data⟩,⟨2,.data⟩],none⟩,⟨some 82,.fieldAddr 61 (.tmp 2) 0,0,"polynomial.go:68",#[],none⟩,⟨some 83,.load 28 (.tmp 82),28,"polynomial.go:68",#[⟨4,.data⟩],none⟩,⟨some 84,.move (.tmp 8),25,"polynomial.go:68",#[],none⟩,⟨some 85,.move (.tmp 6),3,"polynomial.go:68",#[],none⟩,⟨some 86,.move (.tmp 8),25,"polynomial.go:68",#[],none⟩,⟨some 87,.call ⟨.builtin Builtin.len,#[.tmp 86],#[25]⟩,3,"polynomial.go:68",#[⟨8,.data⟩],none⟩,⟨some 88,.call ⟨.builtin Builtin.min,#[.tmp 85,.tmp 87],#[3,3]⟩,3,"polynomial.go:68",#[⟨7,.data⟩,⟨9,.data⟩],none⟩,⟨some 89,.slice 25 (.tmp 84) none (some (.tmp 88)) none,25,"polynomial.go:68",#[⟨6,.data⟩,⟨10,.data⟩],none⟩,⟨some 90,.call ⟨.value (.func 43),#[.tmp 83,.tmp 89],#[28,25]⟩,61,"polynomial.go:68",#[⟨5,.data⟩,⟨11,.data⟩,⟨3,.chain⟩],none⟩,⟨none,.store 61 (.tmp 4) (.tmp 81),0,"polynomial.go:68",#[⟨3,.data⟩,⟨12,.chain⟩,⟨0,.phase⟩,⟨1,.phase⟩,⟨2,.phase⟩,⟨3,.phase⟩,⟨4,.textOnly Go.Departure.lateStores⟩,⟨5,.textOnly Go.Departure.lateStores⟩,⟨6,.textOnly Go.Departure.lateStores⟩,⟨7,.textOnly Go.Departure.lateStores⟩,⟨8,.textOnly Go.Departure.lateStores⟩,⟨9,.textOnly Go.Departure.lateStoresUnsure⟩,⟨10,.textOnly Go.Departure.lateStoresUnsure⟩,⟨11,.textOnly Go.Departure.lateStoresUnsure⟩,⟨12,.textOnly Go.Departure.lateStoresUnsure⟩],none⟩,⟨none,.store 61 (.tmp 5) (.tmp 90),0,"polynomial.go:68",#[⟨12,.data⟩,⟨13,.chain⟩,⟨0,.phase⟩,⟨1,.phase⟩,⟨2,.phase⟩,⟨3,.phase⟩,⟨4,.phase⟩,⟨5,.phase⟩,⟨6,.phase⟩,⟨7,.phase⟩,⟨8,.phase⟩,⟨9,.phase⟩,⟨10,.phase⟩,⟨11,.phase⟩,⟨12,.phase⟩,⟨13,.phase⟩],none⟩] true) (Exit.then K (bodyPost Try.prog Try.f45 (DvPost F b cap A B W))) ⟨#[s0,s1,.pointer (some ⟨W.heap.size,0,none⟩),s3,.pointer (some ⟨W.heap.size + 1 + 1,0,none⟩),.pointer (some ⟨W.heap.size + 1 + 1 + 1,0,none⟩),.int .i64 di,s7,.slice (some ⟨g,0,none⟩) ll cL,.slice (some ⟨gq,0,none⟩) nq mq,s10,s11,s12,s13,s14,s15,s16,s17,s18,s19,s20,s21,s22,s23,s24,s25,s26,s27,s28,s29,s30,s31,s32,s33,s34,s35,s36,s37,s38,s39,s40,s41,s42,s43,s44,s45,s46,s47,s48,s49,s50,s51,s52,s53,s54,s55,s56,s57,s58,s59,s60,s61,s62,s63,s64,s65,s66,s67,s68,s69,s70,s71,s72,s73,s74,s75,s76,s77,s78,s79,s80,s81,s82,s83,s84,s85,s86,s87,s88,s89,s90],[]⟩ wr:=by
 have hS0 : PB W.heap.size F.p F.e (FM F b cap) u wr.drew ∧ Hid (P4 W F.p F.e (FM F b cap) u v wr.drew) ∧ Hid (Below wr.heap.size wr wr.drew):=⟨hP.b0,Lib.hid (hP.keep (Below.refl _ _).drew),Lib.hid (Below.refl _ _).drew⟩
 have HK:=Lib.hid hK
 have HQ:=Lib.hid hQ
 have HR:=Lib.hid hR
 have HLQ : Hid (nq = Q.length ∧ Q.length ≤ 1000000):=Lib.hid ⟨lq,lQ⟩
 have HLR : Hid (mm = R.length ∧ R.length ≤ 1000000):=Lib.hid ⟨lr,lR⟩
 have HD:=Lib.hid hD
 have HGQ:=Lib.hid gQ
 have HSP : Hid (wr.heap.size ≥ W.heap.size + 4):=Lib.hid hP.sz
 have HGR : Hid (∀ h o,(some ⟨g,0,none⟩ : Option Addr) = some ⟨h,o,none⟩ → W.heap.size + 4 ≤ h):=Lib.hid (fun h o e=>by cases e; exact gR)
 have hmc2 : (mm : Int) ≤ (cL : Int):=by omega
 clear gR
 clear hP hQ lq lQ hR lr lR hD gQ hK
 refine Go.Rg.region_pre (n0:=13) (fl:=15) (m:=2) (M:=#[true,true,true,true,true,true,true,true,true,true,true,true,true,false,false]) (S:=fun w'=>PB W.heap.size F.p F.e (FM F b cap) u w' ∧ Hid (P4 W F.p F.e (FM F b cap) u v w') ∧ Hid (Below wr.heap.size wr w')) (R:=fun w w'=>Below w.heap.size w w') (φ:=ph F b cap [.eq (.pointer (some ⟨W.heap.size,0,none⟩)),.eq (FV F b cap),.eq (.slice (some ⟨gq,0,none⟩) nq mq),.eq (PF F b cap (some ⟨gq,0,none⟩) (trL Q).length mq),.eq (.pointer (some ⟨W.heap.size,0,none⟩)),.eq (FV F b cap),.eq (.slice (some ⟨g,0,none⟩) ll cL),.eq (.int .i64 di),.eq (.slice (some ⟨g,0,none⟩) ll cL),.eq (.int .i64 (ll : Nat)),.eq (.int .i64 (mm : Nat)),.eq (.slice (some ⟨g,0,none⟩) mm cL),.eq (PF F b cap (some ⟨g,0,none⟩) (trL R).length cL)]) (ψ:=psi [.eq (.pointer (some ⟨W.heap.size,0,none⟩)),.eq (FV F b cap),.eq (.slice (some ⟨gq,0,none⟩) nq mq),.eq (PF F b cap (some ⟨gq,0,none⟩) (trL Q).length mq),.eq (.pointer (some ⟨W.heap.size,0,none⟩)),.eq (FV F b cap),.eq (.slice (some ⟨g,0,none⟩) ll cL),.eq (.int .i64 di),.eq (.slice (some ⟨g,0,none⟩) ll cL),.eq (.int .i64 (ll : Nat)),.eq (.int .i64 (mm : Nat)),.eq (.slice (some ⟨g,0,none⟩) mm cL),.eq (PF F b cap (some ⟨g,0,none⟩) (trL R).length cL)]) (χ:=chi [.eq (.pointer (some ⟨W.heap.size,0,none⟩)),.eq (FV F b cap),.eq (.slice (some ⟨gq,0,none⟩) nq mq),.eq (PF F b cap (some ⟨gq,0,none⟩) (trL Q).length mq),.eq (.pointer (some ⟨W.heap.size,0,none⟩)),.eq (FV F b cap),.eq (.slice (some ⟨g,0,none⟩) ll cL),.eq (.int .i64 di),.eq (.slice (some ⟨g,0,none⟩) ll cL),.eq (.int .i64 (ll : Nat)),.eq (.int .i64 (mm : Nat)),.eq (.slice (some ⟨g,0,none⟩) mm cL),.eq (PF F b cap (some ⟨g,0,none⟩) (trL R).length cL)]) (by kernel_rfl) (ph_mono _) (psi_sep _) (by decide) (by kernel_rfl) (by kernel_rfl) (by kernel_rfl) (by kernel_rfl) (by kernel_rfl) (fun h=>absurd h (by decide)) (by rfl) (hS0) ?steps ?fin
 case steps =>
  refine ⟨fun a w hat K hK=>?_,?_⟩
  ·have e2 : a.tmps[2]?.getD undef = .pointer (some ⟨W.heap.size,0,none⟩):=hat.b 2 (by kernel_rfl) rfl
   have hSt:=hat.st
   rw [if_pos (by rfl)]
   go_simp
   exact hK.out _ _ hSt (Below.refl _ _) rfl noB
  refine ⟨fun a w hat K hK=>?_,?_⟩
  ·have e78 : a.tmps[78]?.getD undef = .pointer (some ⟨W.heap.size,0,none⟩):=hat.d 0 78 (by kernel_rfl) (by kernel_rfl)
   have hSt:=hat.st
   rw [if_pos (by rfl)]
   go_simp
   exact hK.out _ _ hSt (Below.refl _ _) rfl noB
  refine ⟨Go.Rg.step2_mv rfl (.inl rfl) (fun _=>Below.refl _ _) (fun _ _=>noB) (fun a w hat=>hat.b 9 (by kernel_rfl) rfl),?_⟩
  refine ⟨fun a w hat K hK=>?_,?_⟩
  ·have e79 : a.tmps[79]?.getD undef = FV F b cap:=hat.d 1 79 (by kernel_rfl) (by kernel_rfl)
   have e80 : a.tmps[80]?.getD undef = .slice (some ⟨gq,0,none⟩) nq mq:=hat.d 2 80 (by kernel_rfl) (by kernel_rfl)
   have hSt:=hat.st
   rw [if_pos (by rfl)]
   go_simp
   go_at_call 43
   with_reducible refine (over_c (L:=Q) (n:=nq) HLQ.out.2 HLQ.out.1 (HQ.out.below hSt.2.2.out)).mono ?_
   rintro z' v' ⟨rfl,hb⟩
   exact hK.out _ _ ⟨(hSt.2.1.out.keep (hb.mono hSt.2.1.out.sz)).b0,Lib.hid (hSt.2.1.out.keep (hb.mono hSt.2.1.out.sz)),Lib.hid (hSt.2.2.out.trans (hb.mono hSt.2.2.out.size))⟩ hb rfl noB
  refine ⟨fun a w hat K hK=>?_,?_⟩
  ·have e2 : a.tmps[2]?.getD undef = .pointer (some ⟨W.heap.size,0,none⟩):=hat.b 2 (by kernel_rfl) rfl
   have hSt:=hat.st
   rw [if_pos (by rfl)]
   go_simp
   exact hK.out _ _ hSt (Below.refl _ _) rfl noB
  refine ⟨fun a w hat K hK=>?_,?_⟩
  ·have e82 : a.tmps[82]?.getD undef = .pointer (some ⟨W.heap.size,0,none⟩):=hat.d 4 82 (by kernel_rfl) (by kernel_rfl)
   have hSt:=hat.st
   rw [if_pos (by rfl)]
   go_simp
   exact hK.out _ _ hSt (Below.refl _ _) rfl noB
  refine ⟨Go.Rg.step2_mv rfl (.inl rfl) (fun _=>Below.refl _ _) (fun _ _=>noB) (fun a w hat=>hat.b 8 (by kernel_rfl) rfl),?_⟩
  refine ⟨Go.Rg.step2_mv rfl (.inl rfl) (fun _=>Below.refl _ _) (fun _ _=>noB) (fun a w hat=>hat.b 6 (by kernel_rfl) rfl),?_⟩
  refine ⟨Go.Rg.step2_mv rfl (.inl rfl) (fun _=>Below.refl _ _) (fun _ _=>noB) (fun a w hat=>hat.b 8 (by kernel_rfl) rfl),?_⟩
  refine ⟨fun a w hat K hK=>?_,?_⟩
  ·have e86 : a.tmps[86]?.getD undef = .slice (some ⟨g,0,none⟩) ll cL:=hat.d 8 86 (by kernel_rfl) (by kernel_rfl)
   have hSt:=hat.st
   rw [if_pos (by rfl)]
   go_simp
   exact hK.out _ _ hSt (Below.refl _ _) rfl noB
  refine ⟨fun a w hat K hK=>?_,?_⟩
  ·have e85 : a.tmps[85]?.getD undef = .int .i64 di:=hat.d 7 85 (by kernel_rfl) (by kernel_rfl)
   have e87 : a.tmps[87]?.getD undef = .int .i64 (ll : Nat):=hat.d 9 87 (by kernel_rfl) (by kernel_rfl)
   have hSt:=hat.st
   rw [if_pos (by rfl)]
   go_simp
   exact hK.out _ _ hSt (Below.refl _ _) rfl noB
  refine ⟨fun a w hat K hK=>?_,?_⟩
  ·have e84 : a.tmps[84]?.getD undef = .slice (some ⟨g,0,none⟩) ll cL:=hat.d 6 84 (by kernel_rfl) (by kernel_rfl)
   have e88 : a.tmps[88]?.getD undef = .int .i64 (mm : Nat):=hat.d 10 88 (by kernel_rfl) (by kernel_rfl)
   have hSt:=hat.st
   rw [if_pos (by rfl)]
   go_simp
   exact hK.out _ _ hSt (Below.refl _ _) rfl noB
  refine ⟨fun a w hat K hK=>?_,?_⟩
  ·have e83 : a.tmps[83]?.getD undef = FV F b cap:=hat.d 5 83 (by kernel_rfl) (by kernel_rfl)
   have e89 : a.tmps[89]?.getD undef = .slice (some ⟨g,0,none⟩) mm cL:=hat.d 11 89 (by kernel_rfl) (by kernel_rfl)
   have hSt:=hat.st
   rw [if_pos (by rfl)]
   go_simp
   go_at_call 43
   with_reducible refine (over_c (L:=R) (n:=mm) HLR.out.2 HLR.out.1 (HR.out.below hSt.2.2.out)).mono ?_
   rintro z' v' ⟨rfl,hb⟩
   exact hK.out _ _ ⟨(hSt.2.1.out.keep (hb.mono hSt.2.1.out.sz)).b0,Lib.hid (hSt.2.1.out.keep (hb.mono hSt.2.1.out.sz)),Lib.hid (hSt.2.2.out.trans (hb.mono hSt.2.2.out.size))⟩ hb rfl noB
  exact trivial
 case fin =>
  intro a w hsz hdf hbase hSt hval hpair hun
  obtain ⟨t,df⟩:=a
  have et:=Go.Rg.tmps_of hsz [78,79,80,81,82,83,84,85,86,87,88,89,90] (Go.Rg.rest_of (by kernel_rfl) hbase hun)
  have x78 : t.getD 78 undef = .pointer (some ⟨W.heap.size,0,none⟩):=hval 0 78 (by decide) (by kernel_rfl)
  have x79 : t.getD 79 undef = FV F b cap:=hval 1 79 (by decide) (by kernel_rfl)
  have x80 : t.getD 80 undef = .slice (some ⟨gq,0,none⟩) nq mq:=hval 2 80 (by decide) (by kernel_rfl)
  have x81 : t.getD 81 undef = PF F b cap (some ⟨gq,0,none⟩) (trL Q).length mq:=hval 3 81 (by decide) (by kernel_rfl)
  have x82 : t.getD 82 undef = .pointer (some ⟨W.heap.size,0,none⟩):=hval 4 82 (by decide) (by kernel_rfl)
  have x83 : t.getD 83 undef = FV F b cap:=hval 5 83 (by decide) (by kernel_rfl)
  have x84 : t.getD 84 undef = .slice (some ⟨g,0,none⟩) ll cL:=hval 6 84 (by decide) (by kernel_rfl)
  have x85 : t.getD 85 undef = .int .i64 di:=hval 7 85 (by decide) (by kernel_rfl)
  have x86 : t.getD 86 undef = .slice (some ⟨g,0,none⟩) ll cL:=hval 8 86 (by decide) (by kernel_rfl)
  have x87 : t.getD 87 undef = .int .i64 (ll : Nat):=hval 9 87 (by decide) (by kernel_rfl)
  have x88 : t.getD 88 undef = .int .i64 (mm : Nat):=hval 10 88 (by decide) (by kernel_rfl)
  have x89 : t.getD 89 undef = .slice (some ⟨g,0,none⟩) mm cL:=hval 11 89 (by decide) (by kernel_rfl)
  have x90 : t.getD 90 undef = PF F b cap (some ⟨g,0,none⟩) (trL R).length cL:=hval 12 90 (by decide) (by kernel_rfl)
  clear hval hbase hsz hpair hun
  simp only [List.foldl_cons,List.foldl_nil,x78,x79,x80,x81,x82,x83,x84,x85,x86,x87,x88,x89,x90] at et
  rw [et]
  have hdf' : df = _:=hdf
  rw [hdf']
  simp only [List.setIfInBounds_toArray,List.set_cons_zero,List.set_cons_succ]
  clear et hdf hdf'
  refine wpAny_of_held (S:=fun _=>True) _ _ _ _ ?_
  obtain ⟨-,HP,HB⟩:=hSt
  obtain ⟨r0,r1,r2,r3⟩:=HP.out.b2
  have u0:=HP.out.fz2 0
  have u1:=HP.out.fz2 1
  have u2:=HP.out.fz2 2
  have u3:=HP.out.fz2 3
  refine Rg.rd1 13 ⟨none,.store 61 (.tmp 4) (.tmp 81),0,"polynomial.go:68",#[⟨3,.data⟩,⟨12,.chain⟩,⟨0,.phase⟩,⟨1,.phase⟩,⟨2,.phase⟩,⟨3,.phase⟩,⟨4,.textOnly Go.Departure.lateStores⟩,⟨5,.textOnly Go.Departure.lateStores⟩,⟨6,.textOnly Go.Departure.lateStores⟩,⟨7,.textOnly Go.Departure.lateStores⟩,⟨8,.textOnly Go.Departure.lateStores⟩,⟨9,.textOnly Go.Departure.lateStoresUnsure⟩,⟨10,.textOnly Go.Departure.lateStoresUnsure⟩,⟨11,.textOnly Go.Departure.lateStoresUnsure⟩,⟨12,.textOnly Go.Departure.lateStoresUnsure⟩],none⟩ fun K hK=>?_
  go_simp
  refine hK.out _ _ trivial (fun _=>?_)
  clear hK K
  try simp only [Rg.gp]
  obtain ⟨w8,hw8⟩ : ∃ w9,w9 = ((((w.setCell ⟨W.heap.size + 1 + 1,0,none⟩ (.int .i64 F.p)).setCell ⟨W.heap.size + 1 + 1,1,none⟩ (.int .i64 F.e)).setCell ⟨W.heap.size + 1 + 1,2,none⟩ (FM F b cap)).setCell ⟨W.heap.size + 1 + 1,3,none⟩ (.slice (some ⟨gq,0,none⟩) (trL Q).length mq)):=⟨_,rfl⟩
  rw [← hw8]
  replace hw8:=Lib.hid hw8
  obtain ⟨hs8,ho8,hz8,hn8,hb8⟩:=box_put (k:=W.heap.size + 1) ⟨r0,r1,r2,r3⟩ HP.out.fz2 (by omega) hw8.out
  clear r0 r1 r2 r3 u0 u1 u2 u3
  obtain ⟨r0,r1,r2,r3⟩:=PB.othb HP.out.b3 ho8 (by omega)
  have hf8 : ∀ j,w8.frozen? ⟨W.heap.size + 1 + 1 + 1,j,none⟩ = false:=fun j=>(frozen_block (ho8 _ (by omega)) j).trans (HP.out.fz3 j)
  have u0:=hf8 0
  have u1:=hf8 1
  have u2:=hf8 2
  have u3:=hf8 3
  have HS8:=Lib.hid hs8
  have HO8:=Lib.hid ho8
  have HN8:=Lib.hid hn8
  have HB8:=Lib.hid hb8
  have HF8:=Lib.hid hf8
  clear hs8 ho8 hn8 hb8 hz8 hf8
  refine Rg.rd1 14 ⟨none,.store 61 (.tmp 5) (.tmp 90),0,"polynomial.go:68",#[⟨12,.data⟩,⟨13,.chain⟩,⟨0,.phase⟩,⟨1,.phase⟩,⟨2,.phase⟩,⟨3,.phase⟩,⟨4,.phase⟩,⟨5,.phase⟩,⟨6,.phase⟩,⟨7,.phase⟩,⟨8,.phase⟩,⟨9,.phase⟩,⟨10,.phase⟩,⟨11,.phase⟩,⟨12,.phase⟩,⟨13,.phase⟩],none⟩ fun K hK=>?_
  go_simp
  refine hK.out _ _ trivial (fun _=>?_)
  clear hK K
  try simp only [Rg.gp]
  obtain ⟨w9,hw9⟩ : ∃ w9,w9 = ((((w8.setCell ⟨W.heap.size + 1 + 1 + 1,0,none⟩ (.int .i64 F.p)).setCell ⟨W.heap.size + 1 + 1 + 1,1,none⟩ (.int .i64 F.e)).setCell ⟨W.heap.size + 1 + 1 + 1,2,none⟩ (FM F b cap)).setCell ⟨W.heap.size + 1 + 1 + 1,3,none⟩ (.slice (some ⟨g,0,none⟩) (trL R).length cL)):=⟨_,rfl⟩
  rw [← hw9]
  replace hw9:=Lib.hid hw9
  obtain ⟨⟨t0,t1,t2,t3⟩,ho9,hz9,hn9,hb9⟩:=box_put (k:=W.heap.size + 1) ⟨r0,r1,r2,r3⟩ HF8.out (by omega) hw9.out
  clear r0 r1 r2 r3 u0 u1 u2 u3
  obtain ⟨s0',s1',s2',s3'⟩:=PB.othb HS8.out ho9 (by omega)
  refine wpAnyH_done (by kernel_rfl) ?_ _
  have HNQ:=Lib.hid ((((HQ.out.below HB.out).tr2 HLQ.out.1).othb HO8.out HN8.out (fun x o e=>by cases e; have:=HGQ.out; omega)).othb ho9 hn9 (fun x o e=>by cases e; have:=HGQ.out; omega))
  have HNR:=Lib.hid ((((HR.out.below HB.out).tr2 HLR.out.1).othb HO8.out HN8.out (fun x o e=>by have:=HGR.out x o e; omega)).othb ho9 hn9 (fun x o e=>by have:=HGR.out x o e; omega))
  have HBF:=Lib.hid (HP.out.bl.trans ((HB8.out.mono (by omega)).trans (hb9.mono (by omega))))
  refine HK.out _ _ ?_
  clear ho9 hz9 hn9 hb9 hw9 hw8 HS8 HO8 HN8 HB8 HF8
  go_wp2
  exact bodyPost_ret (v:=.tuple #[PF F b cap (some ⟨gq,0,none⟩) (trL Q).length mq,PF F b cap (some ⟨g,0,none⟩) (trL R).length cL]) (by simp [results,Try.results45,go_sem,s0',s1',s2',s3',t0,t1,t2,t3]) rfl
   ⟨trL Q,trL R,_,_,_,_,rfl,HNQ.out,HNR.out,HD.out,HBF.out,fun h o e=>(by cases e; have:=HGQ.out; omega),fun h o e=>(by have:=HGR.out h o e; omega)⟩
set_option maxHeartbeats 6400000 in
theorem div_finN {F : Gf} {b cap : Nat} {A B Q R : List Nat} {W wr : World} {u v : Value} {di : Int} {gq nq mq : Nat} {K : Act → World → Prop} {s0 s1 s3 s7 s10 s11 s12 s13 s14 s15 s16 s17 s18 s19 s20 s21 s22 s23 s24 s25 s26 s27 s28 s29 s30 s31 s32 s33 s34 s35 s36 s37 s38 s39 s40 s41 s42 s43 s44 s45 s46 s47 s48 s49 s50 s51 s52 s53 s54 s55 s56 s57 s58 s59 s60 s61 s62 s63 s64 s65 s66 s67 s68 s69 s70 s71 s72 s73 s74 s75 s76 s77 s78 s79 s80 s81 s82 s83 s84 s85 s86 s87 s88 s89 s90 : Value}
  (hK : ∀ a w,Code.wp Try.prog Code.ret (bodyPost Try.prog Try.f45 (DvPost F b cap A B W)) a w → K a w) (hP : P4 W F.p F.e (FM F b cap) u v wr) (hQ : NN Q wr (.slice (some ⟨gq,0,none⟩) nq mq)) (lq : nq = Q.length) (lQ : Q.length ≤ 1000000)
  (hR : NN R wr (.slice none 0 0)) (lr : 0 = R.length) (lR : R.length ≤ 1000000) (gQ : W.heap.size + 4 ≤ gq) (hmin : (if (0 : Int) < di then (0 : Int) else di) = 0) (hD : DM F A B (trL Q) (trL R)) :
  Code.wp Try.prog (Code.region 15 #[⟨some 78,.fieldAddr 61 (.tmp 2) 0,0,"polynomial.go:68",#[],none⟩,⟨some 79,.load 28 (.tmp 78),28,"polynomial.go:68",#[⟨0,.data⟩],none⟩,⟨some 80,.move (.tmp 9),25,"polynomial.go:68",#[],none⟩,⟨some 81,.call ⟨.value (.func 43),#[.tmp 79,.tmp 80],#[28,25]⟩,61,"polynomial.go:68",#[⟨1,.data⟩,⟨2,.data⟩],none⟩,⟨some 82,.fieldAddr 61 (.tmp 2) 0,0,"polynomial.go:68",#[],none⟩,⟨some 83,.load 28 (.tmp 82),28,"polynomial.go:68",#[⟨4,.data⟩],none⟩,⟨some 84,.move (.tmp 8),25,"polynomial.go:68",#[],none⟩,⟨some 85,.move (.tmp 6),3,"polynomial.go:68",#[],none⟩,⟨some 86,.move (.tmp 8),25,"polynomial.go:68",#[],none⟩,⟨some 87,.call ⟨.builtin Builtin.len,#[.tmp 86],#[25]⟩,3,"polynomial.go:68",#[⟨8,.data⟩],none⟩,⟨some 88,.call ⟨.builtin Builtin.min,#[.tmp 85,.tmp 87],#[3,3]⟩,3,"polynomial.go:68",#[⟨7,.data⟩,⟨9,.data⟩],none⟩,⟨some 89,.slice 25 (.tmp 84) none (some (.tmp 88)) none,25,"polynomial.go:68",#[⟨6,.data⟩,⟨10,.data⟩],none⟩,⟨some 90,.call ⟨.value (.func 43),#[.tmp 83,.tmp 89],#[28,25]⟩,61,"polynomial.go:68",#[⟨5,.data⟩,⟨11,.data⟩,⟨3,.chain⟩],none⟩,⟨none,.store 61 (.tmp 4) (.tmp 81),0,"polynomial.go:68",#[⟨3,.data⟩,⟨12,.chain⟩,⟨0,.phase⟩,⟨1,.phase⟩,⟨2,.phase⟩,⟨3,.phase⟩,⟨4,.textOnly Go.Departure.lateStores⟩,⟨5,.textOnly Go.Departure.lateStores⟩,⟨6,.textOnly Go.Departure.lateStores⟩,⟨7,.textOnly Go.Departure.lateStores⟩,⟨8,.textOnly Go.Departure.lateStores⟩,⟨9,.textOnly Go.Departure.lateStoresUnsure⟩,⟨10,.textOnly Go.Departure.lateStoresUnsure⟩,⟨11,.textOnly Go.Departure.lateStoresUnsure⟩,⟨12,.textOnly Go.Departure.lateStoresUnsure⟩],none⟩,⟨none,.store 61 (.tmp 5) (.tmp 90),0,"polynomial.go:68",#[⟨12,.data⟩,⟨13,.chain⟩,⟨0,.phase⟩,⟨1,.phase⟩,⟨2,.phase⟩,⟨3,.phase⟩,⟨4,.phase⟩,⟨5,.phase⟩,⟨6,.phase⟩,⟨7,.phase⟩,⟨8,.phase⟩,⟨9,.phase⟩,⟨10,.phase⟩,⟨11,.phase⟩,⟨12,.phase⟩,⟨13,.phase⟩],none⟩] true) (Exit.then K (bodyPost Try.prog Try.f45 (DvPost F b cap A B W))) ⟨#[s0,s1,.pointer (some ⟨W.heap.size,0,none⟩),s3,.pointer (some ⟨W.heap.size + 1 + 1,0,none⟩),.pointer (some ⟨W.heap.size + 1 + 1 + 1,0,none⟩),.int .i64 di,s7,.slice none 0 0,.slice (some ⟨gq,0,none⟩) nq mq,s10,s11,s12,s13,s14,s15,s16,s17,s18,s19,s20,s21,s22,s23,s24,s25,s26,s27,s28,s29,s30,s31,s32,s33,s34,s35,s36,s37,s38,s39,s40,s41,s42,s43,s44,s45,s46,s47,s48,s49,s50,s51,s52,s53,s54,s55,s56,s57,s58,s59,s60,s61,s62,s63,s64,s65,s66,s67,s68,s69,s70,s71,s72,s73,s74,s75,s76,s77,s78,s79,s80,s81,s82,s83,s84,s85,s86,s87,s88,s89,s90],[]⟩ wr:=by
 have hS0 : PB W.heap.size F.p F.e (FM F b cap) u wr.drew ∧ Hid (P4 W F.p F.e (FM F b cap) u v wr.drew) ∧ Hid (Below wr.heap.size wr wr.drew):=⟨hP.b0,Lib.hid (hP.keep (Below.refl _ _).drew),Lib.hid (Below.refl _ _).drew⟩
 have HK:=Lib.hid hK
 have HQ:=Lib.hid hQ
 have HR:=Lib.hid hR
 have HLQ : Hid (nq = Q.length ∧ Q.length ≤ 1000000):=Lib.hid ⟨lq,lQ⟩
 have HLR : Hid (0 = R.length ∧ R.length ≤ 1000000):=Lib.hid ⟨lr,lR⟩
 have HD:=Lib.hid hD
 have HGQ:=Lib.hid gQ
 have HSP : Hid (wr.heap.size ≥ W.heap.size + 4):=Lib.hid hP.sz
 have HGR : Hid (∀ h o,(none : Option Addr) = some ⟨h,o,none⟩ → W.heap.size + 4 ≤ h):=Lib.hid (fun h o e=>by cases e)
 clear hP hQ lq lQ hR lr lR hD gQ hK
 refine Go.Rg.region_pre (n0:=13) (fl:=15) (m:=2) (M:=#[true,true,true,true,true,true,true,true,true,true,true,true,true,false,false]) (S:=fun w'=>PB W.heap.size F.p F.e (FM F b cap) u w' ∧ Hid (P4 W F.p F.e (FM F b cap) u v w') ∧ Hid (Below wr.heap.size wr w')) (R:=fun w w'=>Below w.heap.size w w') (φ:=ph F b cap [.eq (.pointer (some ⟨W.heap.size,0,none⟩)),.eq (FV F b cap),.eq (.slice (some ⟨gq,0,none⟩) nq mq),.eq (PF F b cap (some ⟨gq,0,none⟩) (trL Q).length mq),.eq (.pointer (some ⟨W.heap.size,0,none⟩)),.eq (FV F b cap),.eq (.slice none 0 0),.eq (.int .i64 di),.eq (.slice none 0 0),.eq (.int .i64 (0 : Nat)),.eq (.int .i64 (0 : Nat)),.eq (.slice none 0 0),.eq (PF F b cap none (trL R).length 0)]) (ψ:=psi [.eq (.pointer (some ⟨W.heap.size,0,none⟩)),.eq (FV F b cap),.eq (.slice (some ⟨gq,0,none⟩) nq mq),.eq (PF F b cap (some ⟨gq,0,none⟩) (trL Q).length mq),.eq (.pointer (some ⟨W.heap.size,0,none⟩)),.eq (FV F b cap),.eq (.slice none 0 0),.eq (.int .i64 di),.eq (.slice none 0 0),.eq (.int .i64 (0 : Nat)),.eq (.int .i64 (0 : Nat)),.eq (.slice none 0 0),.eq (PF F b cap none (trL R).length 0)]) (χ:=chi [.eq (.pointer (some ⟨W.heap.size,0,none⟩)),.eq (FV F b cap),.eq (.slice (some ⟨gq,0,none⟩) nq mq),.eq (PF F b cap (some ⟨gq,0,none⟩) (trL Q).length mq),.eq (.pointer (some ⟨W.heap.size,0,none⟩)),.eq (FV F b cap),.eq (.slice none 0 0),.eq (.int .i64 di),.eq (.slice none 0 0),.eq (.int .i64 (0 : Nat)),.eq (.int .i64 (0 : Nat)),.eq (.slice none 0 0),.eq (PF F b cap none (trL R).length 0)]) (by kernel_rfl) (ph_mono _) (psi_sep _) (by decide) (by kernel_rfl) (by kernel_rfl) (by kernel_rfl) (by kernel_rfl) (by kernel_rfl) (fun h=>absurd h (by decide)) (by rfl) (hS0) ?steps ?fin
 case steps =>
  refine ⟨fun a w hat K hK=>?_,?_⟩
  ·have e2 : a.tmps[2]?.getD undef = .pointer (some ⟨W.heap.size,0,none⟩):=hat.b 2 (by kernel_rfl) rfl
   have hSt:=hat.st
   rw [if_pos (by rfl)]
   go_simp
   exact hK.out _ _ hSt (Below.refl _ _) rfl noB
  refine ⟨fun a w hat K hK=>?_,?_⟩
  ·have e78 : a.tmps[78]?.getD undef = .pointer (some ⟨W.heap.size,0,none⟩):=hat.d 0 78 (by kernel_rfl) (by kernel_rfl)
   have hSt:=hat.st
   rw [if_pos (by rfl)]
   go_simp
   exact hK.out _ _ hSt (Below.refl _ _) rfl noB
  refine ⟨Go.Rg.step2_mv rfl (.inl rfl) (fun _=>Below.refl _ _) (fun _ _=>noB) (fun a w hat=>hat.b 9 (by kernel_rfl) rfl),?_⟩
  refine ⟨fun a w hat K hK=>?_,?_⟩
  ·have e79 : a.tmps[79]?.getD undef = FV F b cap:=hat.d 1 79 (by kernel_rfl) (by kernel_rfl)
   have e80 : a.tmps[80]?.getD undef = .slice (some ⟨gq,0,none⟩) nq mq:=hat.d 2 80 (by kernel_rfl) (by kernel_rfl)
   have hSt:=hat.st
   rw [if_pos (by rfl)]
   go_simp
   go_at_call 43
   with_reducible refine (over_c (L:=Q) (n:=nq) HLQ.out.2 HLQ.out.1 (HQ.out.below hSt.2.2.out)).mono ?_
   rintro z' v' ⟨rfl,hb⟩
   exact hK.out _ _ ⟨(hSt.2.1.out.keep (hb.mono hSt.2.1.out.sz)).b0,Lib.hid (hSt.2.1.out.keep (hb.mono hSt.2.1.out.sz)),Lib.hid (hSt.2.2.out.trans (hb.mono hSt.2.2.out.size))⟩ hb rfl noB
  refine ⟨fun a w hat K hK=>?_,?_⟩
  ·have e2 : a.tmps[2]?.getD undef = .pointer (some ⟨W.heap.size,0,none⟩):=hat.b 2 (by kernel_rfl) rfl
   have hSt:=hat.st
   rw [if_pos (by rfl)]
   go_simp
   exact hK.out _ _ hSt (Below.refl _ _) rfl noB
  refine ⟨fun a w hat K hK=>?_,?_⟩
  ·have e82 : a.tmps[82]?.getD undef = .pointer (some ⟨W.heap.size,0,none⟩):=hat.d 4 82 (by kernel_rfl) (by kernel_rfl)
   have hSt:=hat.st
   rw [if_pos (by rfl)]
   go_simp
   exact hK.out _ _ hSt (Below.refl _ _) rfl noB
  refine ⟨Go.Rg.step2_mv rfl (.inl rfl) (fun _=>Below.refl _ _) (fun _ _=>noB) (fun a w hat=>hat.b 8 (by kernel_rfl) rfl),?_⟩
  refine ⟨Go.Rg.step2_mv rfl (.inl rfl) (fun _=>Below.refl _ _) (fun _ _=>noB) (fun a w hat=>hat.b 6 (by kernel_rfl) rfl),?_⟩
  refine ⟨Go.Rg.step2_mv rfl (.inl rfl) (fun _=>Below.refl _ _) (fun _ _=>noB) (fun a w hat=>hat.b 8 (by kernel_rfl) rfl),?_⟩
  refine ⟨fun a w hat K hK=>?_,?_⟩
  ·have e86 : a.tmps[86]?.getD undef = .slice none 0 0:=hat.d 8 86 (by kernel_rfl) (by kernel_rfl)
   have hSt:=hat.st
   rw [if_pos (by rfl)]
   go_simp
   exact hK.out _ _ hSt (Below.refl _ _) rfl noB
  refine ⟨fun a w hat K hK=>?_,?_⟩
  ·have e85 : a.tmps[85]?.getD undef = .int .i64 di:=hat.d 7 85 (by kernel_rfl) (by kernel_rfl)
   have e87 : a.tmps[87]?.getD undef = .int .i64 (0 : Nat):=hat.d 9 87 (by kernel_rfl) (by kernel_rfl)
   have hSt:=hat.st
   rw [if_pos (by rfl)]
   go_simp
   exact hK.out _ _ hSt (Below.refl _ _) rfl noB
  refine ⟨fun a w hat K hK=>?_,?_⟩
  ·have e84 : a.tmps[84]?.getD undef = .slice none 0 0:=hat.d 6 84 (by kernel_rfl) (by kernel_rfl)
   have e88 : a.tmps[88]?.getD undef = .int .i64 (0 : Nat):=hat.d 10 88 (by kernel_rfl) (by kernel_rfl)
   have hSt:=hat.st
   rw [if_pos (by rfl)]
   go_simp
   exact hK.out _ _ hSt (Below.refl _ _) rfl noB
  refine ⟨fun a w hat K hK=>?_,?_⟩
  ·have e83 : a.tmps[83]?.getD undef = FV F b cap:=hat.d 5 83 (by kernel_rfl) (by kernel_rfl)
   have e89 : a.tmps[89]?.getD undef = .slice none 0 0:=hat.d 11 89 (by kernel_rfl) (by kernel_rfl)
   have hSt:=hat.st
   rw [if_pos (by rfl)]
   go_simp
   go_at_call 43
   with_reducible refine (over_c (L:=R) (n:=0) HLR.out.2 HLR.out.1 (HR.out.below hSt.2.2.out)).mono ?_
   rintro z' v' ⟨rfl,hb⟩
   exact hK.out _ _ ⟨(hSt.2.1.out.keep (hb.mono hSt.2.1.out.sz)).b0,Lib.hid (hSt.2.1.out.keep (hb.mono hSt.2.1.out.sz)),Lib.hid (hSt.2.2.out.trans (hb.mono hSt.2.2.out.size))⟩ hb rfl noB
  exact trivial
 case fin =>
  intro a w hsz hdf hbase hSt hval hpair hun
  obtain ⟨t,df⟩:=a
  have et:=Go.Rg.tmps_of hsz [78,79,80,81,82,83,84,85,86,87,88,89,90] (Go.Rg.rest_of (by kernel_rfl) hbase hun)
  have x78 : t.getD 78 undef = .pointer (some ⟨W.heap.size,0,none⟩):=hval 0 78 (by decide) (by kernel_rfl)
  have x79 : t.getD 79 undef = FV F b cap:=hval 1 79 (by decide) (by kernel_rfl)
  have x80 : t.getD 80 undef = .slice (some ⟨gq,0,none⟩) nq mq:=hval 2 80 (by decide) (by kernel_rfl)
  have x81 : t.getD 81 undef = PF F b cap (some ⟨gq,0,none⟩) (trL Q).length mq:=hval 3 81 (by decide) (by kernel_rfl)
  have x82 : t.getD 82 undef = .pointer (some ⟨W.heap.size,0,none⟩):=hval 4 82 (by decide) (by kernel_rfl)
  have x83 : t.getD 83 undef = FV F b cap:=hval 5 83 (by decide) (by kernel_rfl)
  have x84 : t.getD 84 undef = .slice none 0 0:=hval 6 84 (by decide) (by kernel_rfl)
  have x85 : t.getD 85 undef = .int .i64 di:=hval 7 85 (by decide) (by kernel_rfl)
  have x86 : t.getD 86 undef = .slice none 0 0:=hval 8 86 (by decide) (by kernel_rfl)
  have x87 : t.getD 87 undef = .int .i64 (0 : Nat):=hval 9 87 (by decide) (by kernel_rfl)
  have x88 : t.getD 88 undef = .int .i64 (0 : Nat):=hval 10 88 (by decide) (by kernel_rfl)
  have x89 : t.getD 89 undef = .slice none 0 0:=hval 11 89 (by decide) (by kernel_rfl)
  have x90 : t.getD 90 undef = PF F b cap none (trL R).length 0:=hval 12 90 (by decide) (by kernel_rfl)
  clear hval hbase hsz hpair hun
  simp only [List.foldl_cons,List.foldl_nil,x78,x79,x80,x81,x82,x83,x84,x85,x86,x87,x88,x89,x90] at et
  rw [et]
  have hdf' : df = _:=hdf
  rw [hdf']
  simp only [List.setIfInBounds_toArray,List.set_cons_zero,List.set_cons_succ]
  clear et hdf hdf'
  refine wpAny_of_held (S:=fun _=>True) _ _ _ _ ?_
  obtain ⟨-,HP,HB⟩:=hSt
  obtain ⟨r0,r1,r2,r3⟩:=HP.out.b2
  have u0:=HP.out.fz2 0
  have u1:=HP.out.fz2 1
  have u2:=HP.out.fz2 2
  have u3:=HP.out.fz2 3
  refine Rg.rd1 13 ⟨none,.store 61 (.tmp 4) (.tmp 81),0,"polynomial.go:68",#[⟨3,.data⟩,⟨12,.chain⟩,⟨0,.phase⟩,⟨1,.phase⟩,⟨2,.phase⟩,⟨3,.phase⟩,⟨4,.textOnly Go.Departure.lateStores⟩,⟨5,.textOnly Go.Departure.lateStores⟩,⟨6,.textOnly Go.Departure.lateStores⟩,⟨7,.textOnly Go.Departure.lateStores⟩,⟨8,.textOnly Go.Departure.lateStores⟩,⟨9,.textOnly Go.Departure.lateStoresUnsure⟩,⟨10,.textOnly Go.Departure.lateStoresUnsure⟩,⟨11,.textOnly Go.Departure.lateStoresUnsure⟩,⟨12,.textOnly Go.Departure.lateStoresUnsure⟩],none⟩ fun K hK=>?_
  go_simp
  refine hK.out _ _ trivial (fun _=>?_)
  clear hK K
  try simp only [Rg.gp]
  obtain ⟨w8,hw8⟩ : ∃ w9,w9 = ((((w.setCell ⟨W.heap.size + 1 + 1,0,none⟩ (.int .i64 F.p)).setCell ⟨W.heap.size + 1 + 1,1,none⟩ (.int .i64 F.e)).setCell ⟨W.heap.size + 1 + 1,2,none⟩ (FM F b cap)).setCell ⟨W.heap.size + 1 + 1,3,none⟩ (.slice (some ⟨gq,0,none⟩) (trL Q).length mq)):=⟨_,rfl⟩
  rw [← hw8]
  replace hw8:=Lib.hid hw8
  obtain ⟨hs8,ho8,hz8,hn8,hb8⟩:=box_put (k:=W.heap.size + 1) ⟨r0,r1,r2,r3⟩ HP.out.fz2 (by omega) hw8.out
  clear r0 r1 r2 r3 u0 u1 u2 u3
  obtain ⟨r0,r1,r2,r3⟩:=PB.othb HP.out.b3 ho8 (by omega)
  have hf8 : ∀ j,w8.frozen? ⟨W.heap.size + 1 + 1 + 1,j,none⟩ = false:=fun j=>(frozen_block (ho8 _ (by omega)) j).trans (HP.out.fz3 j)
  have u0:=hf8 0
  have u1:=hf8 1
  have u2:=hf8 2
  have u3:=hf8 3
  have HS8:=Lib.hid hs8
  have HO8:=Lib.hid ho8
  have HN8:=Lib.hid hn8
  have HB8:=Lib.hid hb8
  have HF8:=Lib.hid hf8
  clear hs8 ho8 hn8 hb8 hz8 hf8
  refine Rg.rd1 14 ⟨none,.store 61 (.tmp 5) (.tmp 90),0,"polynomial.go:68",#[⟨12,.data⟩,⟨13,.chain⟩,⟨0,.phase⟩,⟨1,.phase⟩,⟨2,.phase⟩,⟨3,.phase⟩,⟨4,.phase⟩,⟨5,.phase⟩,⟨6,.phase⟩,⟨7,.phase⟩,⟨8,.phase⟩,⟨9,.phase⟩,⟨10,.phase⟩,⟨11,.phase⟩,⟨12,.phase⟩,⟨13,.phase⟩],none⟩ fun K hK=>?_
  go_simp
  refine hK.out _ _ trivial (fun _=>?_)
  clear hK K
  try simp only [Rg.gp]
  obtain ⟨w9,hw9⟩ : ∃ w9,w9 = ((((w8.setCell ⟨W.heap.size + 1 + 1 + 1,0,none⟩ (.int .i64 F.p)).setCell ⟨W.heap.size + 1 + 1 + 1,1,none⟩ (.int .i64 F.e)).setCell ⟨W.heap.size + 1 + 1 + 1,2,none⟩ (FM F b cap)).setCell ⟨W.heap.size + 1 + 1 + 1,3,none⟩ (.slice none (trL R).length 0)):=⟨_,rfl⟩
  rw [← hw9]
  replace hw9:=Lib.hid hw9
  obtain ⟨⟨t0,t1,t2,t3⟩,ho9,hz9,hn9,hb9⟩:=box_put (k:=W.heap.size + 1) ⟨r0,r1,r2,r3⟩ HF8.out (by omega) hw9.out
  clear r0 r1 r2 r3 u0 u1 u2 u3
  obtain ⟨s0',s1',s2',s3'⟩:=PB.othb HS8.out ho9 (by omega)
  refine wpAnyH_done (by kernel_rfl) ?_ _
  have HNQ:=Lib.hid ((((HQ.out.below HB.out).tr2 HLQ.out.1).othb HO8.out HN8.out (fun x o e=>by cases e; have:=HGQ.out; omega)).othb ho9 hn9 (fun x o e=>by cases e; have:=HGQ.out; omega))
  have HNR:=Lib.hid ((((HR.out.below HB.out).tr2 HLR.out.1).othb HO8.out HN8.out (fun x o e=>by have:=HGR.out x o e; omega)).othb ho9 hn9 (fun x o e=>by have:=HGR.out x o e; omega))
  have HBF:=Lib.hid (HP.out.bl.trans ((HB8.out.mono (by omega)).trans (hb9.mono (by omega))))
  refine HK.out _ _ ?_
  clear ho9 hz9 hn9 hb9 hw9 hw8 HS8 HO8 HN8 HB8 HF8
  go_wp2
  exact bodyPost_ret (v:=.tuple #[PF F b cap (some ⟨gq,0,none⟩) (trL Q).length mq,PF F b cap none (trL R).length 0]) (by simp [results,Try.results45,go_sem,s0',s1',s2',s3',t0,t1,t2,t3]) rfl
   ⟨trL Q,trL R,_,_,_,_,rfl,HNQ.out,HNR.out,HD.out,HBF.out,fun h o e=>(by cases e; have:=HGQ.out; omega),fun h o e=>(by have:=HGR.out h o e; omega)⟩
end Go.Proofs.Ytllecfhfhcmpaaa
