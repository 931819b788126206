/- PolyGcd: the walk. -/
import Derived.Test.YtllecfhfhcmpaaaLg
import Derived.Test.YtllecfhfhcmpaaaEvYv
namespace Go.Proofs.Ytllecfhfhcmpaaa
open Go.RowKit Go.Fl Go.Rg
set_option maxRecDepth 100000
set_option linter.unusedVariables false
set_option linter.unusedSimpArgs false
set_option linter.unusedSectionVars false

set_option maxHeartbeats 25600000 in
theorem gcd_law {q : Nat} {A B C : List Nat} {aA aB aC : Option Addr} {cA cB cC : Nat} {W : World} (hq : q ≤ 255) (hA : By A) (hB : By B) (hC : By C) (lA : A.length ≤ maxLen) (lB : B.length ≤ maxLen) (lC : C.length ≤ maxLen)
  (na : N8 A W (.slice aA A.length cA)) (nb : N8 B W (.slice aB B.length cB)) (nc : N8 C W (.slice aC C.length cC)) :
  Calls Try.prog 6 #[.agg #[.int .u8 (q : Nat), .slice aA A.length cA, .slice aB B.length cB, .slice aC C.length cC]] W fun e w' => e = .returned (.bool true) ∧ Below W.heap.size W w' := by
 have HQ := Lib.hid hq
 have HEX := Lib.hid examples_c
 have HOF := Lib.hid (fun w => of01_c q hq w)
 have HB0 : Hid (Below W.heap.size W (W.alloc (.cells #[.int .u8 (q : Nat), .slice aA A.length cA, .slice aB B.length cB, .slice aC C.length cC] 24))) := Lib.hid ((Below.refl _ _).alloc (Nat.le_refl _) _)
 have HL0 : Hid (LB W.heap.size (.int .u8 (q : Nat)) (.slice aA A.length cA) (.slice aB B.length cB) (.slice aC C.length cC) (W.alloc (.cells #[.int .u8 (q : Nat), .slice aA A.length cA, .slice aB B.length cB, .slice aC C.length cC] 24))) := Lib.hid
  ⟨World.cell?_alloc_at _ _ _ _ rfl, World.cell?_alloc_at _ _ _ _ rfl, World.cell?_alloc_at _ _ _ _ rfl, World.cell?_alloc_at _ _ _ _ rfl⟩
 have HZ0 : Hid (W.heap.size < (W.alloc (.cells #[.int .u8 (q : Nat), .slice aA A.length cA, .slice aB B.length cB, .slice aC C.length cC] 24)).heap.size) := Lib.hid (by simp)
 obtain ⟨i0, hi, hz0, hz1, hz2⟩ := info_parts info3
 clear hq
 go_enter Try.func6, Try.ntmps6
 go_wp2_with fail
 with_reducible refine (HEX.out _).mono ?_
 rintro z w1 ⟨rfl, hb1⟩
 have HB1 := Lib.hid (HB0.out.trans (hb1.mono HB0.out.size))
 have HL1 := Lib.hid (HL0.out.keep hb1 HZ0.out)
 have HZ1 : Hid (W.heap.size < w1.heap.size) := Lib.hid (Nat.lt_of_lt_of_le HZ0.out hb1.size)
 clear hb1 HB0 HL0 HZ0
 have hL1 := HL1.out
 obtain ⟨l0, l1, l2, l3⟩ := hL1
 go_wp2_with fail
 with_reducible refine (HOF.out _).mono ?_
 generalize fdOfByte q = F
 rintro z w2 ⟨b, cap, rfl, hfd, hb2⟩
 have HFF : Hid (Ok F) := Lib.hid (ok_mem hfd.mem)
 have HSS : Hid (SL W (w2.alloc (.cells #[.int .i64 F.p, .int .i64 F.e, FM F b cap] 28)) w2.heap.size F b cap (.int .u8 (q : Nat)) (.slice aA A.length cA) (.slice aB B.length cB) (.slice aC C.length cC) (w2.alloc (.cells #[.int .i64 F.p, .int .i64 F.e, FM F b cap] 28))) := Lib.hid (by
  have ha : Below w2.heap.size w2 (w2.alloc (.cells #[.int .i64 F.p, .int .i64 F.e, FM F b cap] 28)) := (Below.refl _ _).alloc (Nat.le_refl _) _
  have hz := HZ1.out
  have hs := hb2.size
  exact ⟨⟨World.cell?_alloc_at _ _ _ _ rfl, World.cell?_alloc_at _ _ _ _ rfl, World.cell?_alloc_at _ _ _ _ rfl⟩, (HL1.out.keep hb2 hz).keep ha (by omega), Lib.hid ((HB1.out.trans (hb2.mono HB1.out.size)).trans (ha.mono (by omega))), Lib.hid (Below.refl _ _), Lib.hid (hfd.below ha), Lib.hid (by simp; omega)⟩)
 clear hfd hb2 HB1 HL1 HZ1 HOF l0 l1 l2 l3
 obtain ⟨gF, hgF⟩ : ∃ gF, gF = w2.heap.size := ⟨_, rfl⟩
 rw [← hgF] at HSS
 have HGF := Lib.hid hgF
 clear hgF
 go_upto_region 5 with (fail)
 rw [← HGF.out]
 generalize (w2.alloc (.cells #[.int .i64 F.p, .int .i64 F.e, FM F b cap] 28)) = w0 at *
 clear HGF
 have NA := Lib.hid na
 have NB := Lib.hid nb
 have NC := Lib.hid nc
 obtain ⟨LA, hLA⟩ : ∃ l, Hid (ofL F A 8 = l) := ⟨_, rfl⟩
 obtain ⟨LB', hLB⟩ : ∃ l, Hid (ofL F B 8 = l) := ⟨_, rfl⟩
 obtain ⟨LC, hLC⟩ : ∃ l, Hid (ofL F C 7 = l) := ⟨_, rfl⟩
 have HIA : Hid (In F LA ∧ LA.length ≤ 8) := Lib.hid (by rw [← hLA.out]; exact ⟨ofL_in HFF.out A 8, ofL_len F A 8⟩)
 have HIB : Hid (In F LB' ∧ LB'.length ≤ 8) := Lib.hid (by rw [← hLB.out]; exact ⟨ofL_in HFF.out B 8, ofL_len F B 8⟩)
 have HIC : Hid (In F LC ∧ LC.length ≤ 7) := Lib.hid (by rw [← hLC.out]; exact ⟨ofL_in HFF.out C 7, ofL_len F C 7⟩)
 have HCA : Hid (∀ w, Below W.heap.size W w → Calls Try.prog 13 #[FV F b cap, .slice aA A.length cA, .int .i64 8] w (SlPost LA w)) := Lib.hid (fun w hw => by rw [← hLA.out]; exact of04_c HFF.out hA rfl lA (by decide) (NA.out.below hw))
 have HCB : Hid (∀ w, Below W.heap.size W w → Calls Try.prog 13 #[FV F b cap, .slice aB B.length cB, .int .i64 8] w (SlPost LB' w)) := Lib.hid (fun w hw => by rw [← hLB.out]; exact of04_c HFF.out hB rfl lB (by decide) (NB.out.below hw))
 have HCC : Hid (∀ w, Below W.heap.size W w → Calls Try.prog 13 #[FV F b cap, .slice aC C.length cC, .int .i64 7] w (OwnPost LC w)) := Lib.hid (fun w hw => by rw [← hLC.out]; exact of04_own HFF.out hC rfl lC (by decide) (NC.out.below hw))
 obtain ⟨TA, hTA⟩ : ∃ l, Hid (trL LA = l) := ⟨_, rfl⟩
 obtain ⟨TB, hTB⟩ : ∃ l, Hid (trL LB' = l) := ⟨_, rfl⟩
 have HPA : Hid (PL F 8 TA) := Lib.hid (by rw [← hTA.out]; exact pl_tr HIA.out.1 HIA.out.2)
 have HPB : Hid (PL F 8 TB) := Lib.hid (by rw [← hTB.out]; exact pl_tr HIB.out.1 HIB.out.2)
 obtain ⟨CC, hCC⟩ : ∃ l, Hid (LC ++ [1] = l) := ⟨_, Lib.hid rfl⟩
 have HPC : Hid (PL F 8 CC) := Lib.hid (by rw [← hCC.out]; exact ⟨⟨fun x hx => (List.mem_append.1 hx).elim (HIC.out.1 x) (fun h => by rw [List.mem_singleton.1 h]; exact HFF.out.one_lt), by simp [Cn]⟩, by rw [List.length_append]; have := HIC.out.2; simp; omega⟩)
 have HC1 : Hid (CC.getLast? = some 1) := Lib.hid (by rw [← hCC.out]; simp)
 have HTA : Hid (∀ w a c, NN LA w (.slice a LA.length c) → Calls Try.prog 15 #[.slice a LA.length c] w (SlPost TA w)) := Lib.hid (fun w a c hn => by rw [← hTA.out]; exact trim_c (by have := HIA.out.2; omega) rfl hn)
 have HTB : Hid (∀ w a c, NN LB' w (.slice a LB'.length c) → Calls Try.prog 15 #[.slice a LB'.length c] w (SlPost TB w)) := Lib.hid (fun w a c hn => by rw [← hTB.out]; exact trim_c (by have := HIB.out.2; omega) rfl hn)
 clear na nb nc hA hB hC lA lB lC
 have hS0 := HSS.out.drew
 refine Go.Rg.region_by (S := fun w' => SL W w0 gF F b cap (.int .u8 (q : Nat)) (.slice aA A.length cA) (.slice aB B.length cB) (.slice aC C.length cC) w') (R := fun w w' => Below w.heap.size w w') (φ := phi F b cap [.eq (FV F b cap), .eq (.pointer (some ⟨W.heap.size, 1, none⟩)), .eq (.slice aA A.length cA), .sl (LA), .sl (TA), .eq (FV F b cap), .eq (.pointer (some ⟨W.heap.size, 2, none⟩)), .eq (.slice aB B.length cB), .sl (LB'), .sl (TB), .sl (TA), .sl (TB)]) (by kernel_rfl) (phi_mono _) (by kernel_rfl) (by kernel_rfl) (by rfl) (hS0) (Go.Rg.steps_ok ?st1) ?fi1
 case st1 =>
  refine ⟨fun a w hat K hK => ?_, ?_⟩
  ·have e4 : a.tmps[4]?.getD undef = .pointer (some ⟨gF, 0, none⟩) := hat.b 4
   have hSt := hat.st
   rw [if_pos (by rfl)]
   go_simp
   exact hK.out _ _ hSt (Below.refl _ _) rfl
  refine ⟨fun a w hat K hK => ?_, ?_⟩
  ·have e1 : a.tmps[1]?.getD undef = .pointer (some ⟨W.heap.size, 0, none⟩) := hat.b 1
   have hSt := hat.st
   rw [if_pos (by rfl)]
   go_simp
   exact hK.out _ _ hSt (Below.refl _ _) rfl
  refine ⟨fun a w hat K hK => ?_, ?_⟩
  ·have e22 : a.tmps[22]?.getD undef = .pointer (some ⟨W.heap.size, 1, none⟩) := hat.d 1 22
   have hSt := hat.st
   rw [if_pos (by rfl)]
   go_simp
   exact hK.out _ _ hSt (Below.refl _ _) rfl
  refine ⟨fun a w hat K hK => ?_, ?_⟩
  ·have e21 : a.tmps[21]?.getD undef = FV F b cap := hat.d 0 21
   have e23 : a.tmps[23]?.getD undef = .slice aA A.length cA := hat.d 2 23
   have hSt := hat.st
   rw [if_pos (by rfl)]
   go_simp
   go_at_call 13
   with_reducible refine (HCA.out _ hSt.2.2.1.out).mono ?_
   rintro z' v' ⟨a', c', rfl, hn', hb⟩
   exact hK.out _ _ (SL.keep hSt hb) hb ⟨a', c', rfl, hn'⟩
  refine ⟨fun a w hat K hK => ?_, ?_⟩
  ·obtain ⟨a24, c24, e24, n24⟩ := (show (Kd.sl (LA)).ok F b cap (a.tmps[24]?.getD undef) w from hat.d 3 24)
   have hSt := hat.st
   rw [if_pos (by rfl)]
   go_simp
   go_at_call 15
   with_reducible refine (HTA.out _ _ _ n24).mono ?_
   rintro z' v' ⟨a', c', rfl, hn', hb⟩
   exact hK.out _ _ (SL.keep hSt hb) hb ⟨a', c', rfl, hn'⟩
  refine ⟨fun a w hat K hK => ?_, ?_⟩
  ·have e4 : a.tmps[4]?.getD undef = .pointer (some ⟨gF, 0, none⟩) := hat.b 4
   have hSt := hat.st
   rw [if_pos (by rfl)]
   go_simp
   exact hK.out _ _ hSt (Below.refl _ _) rfl
  refine ⟨fun a w hat K hK => ?_, ?_⟩
  ·have e1 : a.tmps[1]?.getD undef = .pointer (some ⟨W.heap.size, 0, none⟩) := hat.b 1
   have hSt := hat.st
   rw [if_pos (by rfl)]
   go_simp
   exact hK.out _ _ hSt (Below.refl _ _) rfl
  refine ⟨fun a w hat K hK => ?_, ?_⟩
  ·have e27 : a.tmps[27]?.getD undef = .pointer (some ⟨W.heap.size, 2, none⟩) := hat.d 6 27
   have hSt := hat.st
   rw [if_pos (by rfl)]
   go_simp
   exact hK.out _ _ hSt (Below.refl _ _) rfl
  refine ⟨fun a w hat K hK => ?_, ?_⟩
  ·have e26 : a.tmps[26]?.getD undef = FV F b cap := hat.d 5 26
   have e28 : a.tmps[28]?.getD undef = .slice aB B.length cB := hat.d 7 28
   have hSt := hat.st
   rw [if_pos (by rfl)]
   go_simp
   go_at_call 13
   with_reducible refine (HCB.out _ hSt.2.2.1.out).mono ?_
   rintro z' v' ⟨a', c', rfl, hn', hb⟩
   exact hK.out _ _ (SL.keep hSt hb) hb ⟨a', c', rfl, hn'⟩
  refine ⟨fun a w hat K hK => ?_, ?_⟩
  ·obtain ⟨a29, c29, e29, n29⟩ := (show (Kd.sl (LB')).ok F b cap (a.tmps[29]?.getD undef) w from hat.d 8 29)
   have hSt := hat.st
   rw [if_pos (by rfl)]
   go_simp
   go_at_call 15
   with_reducible refine (HTB.out _ _ _ n29).mono ?_
   rintro z' v' ⟨a', c', rfl, hn', hb⟩
   exact hK.out _ _ (SL.keep hSt hb) hb ⟨a', c', rfl, hn'⟩
  refine ⟨mv fun a w hat => hat.d 4 25, ?_⟩
  refine ⟨mv fun a w hat => hat.d 9 30, ?_⟩
  exact trivial
 intro a w1 hsz hdf hbase hSt hval
 obtain ⟨t, df⟩ := a
 have et := Go.Rg.tmps_of hsz [21, 22, 23, 24, 25, 26, 27, 28, 29, 30, 5, 6] (fun k hk => hbase k (Go.Rg.base_of (by kernel_rfl) hk))
 obtain ⟨p5, q5, x5, m5⟩ := (show (Kd.sl (TA)).ok F b cap (t.getD 5 undef) w1 from hval 10 5 (by kernel_rfl))
 obtain ⟨p6, q6, x6, m6⟩ := (show (Kd.sl (TB)).ok F b cap (t.getD 6 undef) w1 from hval 11 6 (by kernel_rfl))
 clear hval hbase hsz
 simp only [List.foldl_cons, List.foldl_nil, x5, x6] at et
 rw [et]
 have hdf' : df = _ := hdf
 rw [hdf']
 simp only [List.setIfInBounds_toArray, List.set_cons_zero, List.set_cons_succ]
 clear et hdf hdf'
 have HN1_5 := Lib.hid m5
 have HN1_6 := Lib.hid m6
 clear m5 m6
 have HS5 := Lib.hid hSt.start
 clear hSt hS0
 obtain ⟨⟨f0, f1, f2⟩, ⟨l0, l1, l2, l3⟩, hs5, -⟩ := HS5.out
 go_wp2_with fail
 with_reducible refine (HCC.out _ hs5.out).mono ?_
 rintro z v1 ⟨c0, c1, k0, rfl, hk1, hk2, hown, hb⟩
 have HOWN := Lib.hid hown
 clear hown
 have hlc := HIC.out.2
 go_wp2_with (at_builtin; refine wpList_append_own _ rfl _ _ 25 rfl k0 3 i0 (.int .i64 0) 1 8 Try.underlying25 hi hz0 hz1 hz2 rfl (by decide) _ _ _ rfl (HOWN.out.alloc _) ⟨v1.heap.size, 0, none⟩ 1 1 [.int .i64 1] rfl rfl ?c1 ?c2 ?c3 ?c4 ?c5 ?_)
 case c1 =>
  intro j u hj
  match j, hj with
  | 0, hj => simp at hj; subst hj; simp [Addr.add]
 case c2 => intro u hu; simp at hu; subst hu; rfl
 case c3 => unfold maxLen; omega
 case c4 => omega
 case c5 => simp; omega
 intro v' w2 hown' hgrow hnil
 have hb4 : Below k0 (v1.alloc (.cells #[.int .i64 1] 3)) w2 := (Below.refl _ _).grown hgrow (by simp; omega) fun k hk => (HOWN.out.lt k hk).1
 have HO2 : Hid (w2.ownsRow k0 3 1 v' CC.length (CC.map N64)) := Lib.hid (by rw [← hCC.out, List.length_append, List.length_singleton, List.map_append]; exact hown')
 have HB2 : Hid (Below w1.heap.size w1 w2) := Lib.hid ((hb.alloc hb.size _).trans (hb4.mono hk1))
 obtain ⟨p7, q7, rfl⟩ := (NN.of_owns HO2.out).shape
 have HN2_7 := Lib.hid (NN.of_owns HO2.out)
 have HN2_5 := Lib.hid (HN1_5.out.below HB2.out)
 have HN2_6 := Lib.hid (HN1_6.out.below HB2.out)
 have HS6 := Lib.hid (SL.keep HS5.out HB2.out).start
 clear hown' hgrow hnil hb4 hb hk1 hk2 HOWN HO2 HS5 f0 f1 f2 l0 l1 l2 l3 hs5
 go_upto_region 7 with (fail)
 obtain ⟨GG, hGG⟩ := gcd_exists HFF.out HPA.out.1 HPB.out.1
 have HGG := Lib.hid hGG
 have HPG : Hid (PL F 8 GG) := Lib.hid ⟨hGG.po, hGG.len HFF.out HPA.out.2 HPB.out.2⟩
 clear hGG
 refine Go.Rg.region_seq (S := fun w' => SL W w2 gF F b cap (.int .u8 (q : Nat)) (.slice aA A.length cA) (.slice aB B.length cB) (.slice aC C.length cC) w') (R := fun w w' => Below w.heap.size w w') (φ := phi F b cap [.eq (FV F b cap), .sl (TA), .sl (TB), .sl (GG), .sl (GG)]) (phi_mono _) (by kernel_rfl) (by kernel_rfl) (by rfl) (HS6.out) ?st2 ?fi2
 case st2 =>
  refine ⟨fun a w hat K hK => ?_, ?_⟩
  ·have e4 : a.tmps[4]?.getD undef = .pointer (some ⟨gF, 0, none⟩) := hat.b 4
   have hSt := hat.st
   rw [if_pos (by rfl)]
   go_simp
   exact hK.out _ _ hSt (Below.refl _ _) rfl
  refine ⟨mv fun a w hat => ⟨_, _, hat.b 5, (HN2_5.out.below hat.st.2.2.2.1.out)⟩, ?_⟩
  refine ⟨mv fun a w hat => ⟨_, _, hat.b 6, (HN2_6.out.below hat.st.2.2.2.1.out)⟩, ?_⟩
  refine ⟨fun a w hat K hK => ?_, ?_⟩
  ·have e37 : a.tmps[37]?.getD undef = FV F b cap := hat.d 0 37
   obtain ⟨a38, c38, e38, n38⟩ := (show (Kd.sl (TA)).ok F b cap (a.tmps[38]?.getD undef) w from hat.d 1 38)
   obtain ⟨a39, c39, e39, n39⟩ := (show (Kd.sl (TB)).ok F b cap (a.tmps[39]?.getD undef) w from hat.d 2 39)
   have hSt := hat.st
   rw [if_pos (by rfl)]
   go_simp
   go_at_call 25
   with_reducible refine (gcd_po (hSt.2.2.2.2.1.out.ops) HPA.out HPB.out HGG.out (by decide) (by decide) n38 n39).mono ?_
   rintro z' v' ⟨a', c', rfl, hn', hb⟩
   exact hK.out _ _ (SL.keep hSt hb) hb ⟨a', c', rfl, hn'⟩
  refine ⟨mv fun a w hat => hat.d 3 40, ?_⟩
  exact trivial
 intro a w3 hsz hdf hbase hSt hval
 obtain ⟨t, df⟩ := a
 have et := Go.Rg.tmps_of hsz [37, 38, 39, 40, 8] (fun k hk => hbase k (Go.Rg.base_of (by kernel_rfl) hk))
 obtain ⟨p8, q8, x8, m8⟩ := (show (Kd.sl (GG)).ok F b cap (t.getD 8 undef) w3 from hval 4 8 (by kernel_rfl))
 clear hval hbase hsz
 simp only [List.foldl_cons, List.foldl_nil, x8] at et
 rw [et]
 have hdf' : df = _ := hdf
 rw [hdf']
 simp only [List.setIfInBounds_toArray, List.set_cons_zero, List.set_cons_succ]
 clear et hdf hdf'
 have HN3_5 := Lib.hid (HN2_5.out.below hSt.2.2.2.1.out)
 have HN3_6 := Lib.hid (HN2_6.out.below hSt.2.2.2.1.out)
 have HN3_7 := Lib.hid (HN2_7.out.below hSt.2.2.2.1.out)
 have HN3_8 := Lib.hid m8
 clear m8
 have HS7 := Lib.hid hSt.start
 clear hSt
 by_cases hA0 : TA = []
 ·have hyA : ((TA.length : Int) == 0) = true := by rw [hA0]; rfl
  by_cases hB0 : TB = []
  ·have hyB : ((TB.length : Int) == 0) = true := by rw [hB0]; rfl
   have hyG : ((GG.length : Int) == 0) = true := by
    have hg := HGG.out
    rw [hA0, hB0] at hg
    rw [hg.zero HFF.out]; rfl
   have HA0 := Lib.hid hA0
   have HB0 := Lib.hid hB0
   clear hA0 hB0
   go_upto_region 8 with (fail)
   refine Go.Rg.region_seq (S := fun w' => SL W w3 gF F b cap (.int .u8 (q : Nat)) (.slice aA A.length cA) (.slice aB B.length cB) (.slice aC C.length cC) w') (R := fun w w' => Below w.heap.size w w') (φ := phi F b cap [.sl (TA), .eq (.int .i64 ((TA).length : Nat)), .eq (.bool true), .eq (.bool true), .sl (TB), .eq (.int .i64 ((TB).length : Nat)), .eq (.bool true), .eq (.bool true)]) (phi_mono _) (by kernel_rfl) (by kernel_rfl) (by rfl) (HS7.out) ?st3 ?fi3
   case st3 =>
    refine ⟨mv fun a w hat => ⟨_, _, hat.b 5, (HN3_5.out.below hat.st.2.2.2.1.out)⟩, ?_⟩
    refine ⟨fun a w hat K hK => ?_, ?_⟩
    ·obtain ⟨a41, c41, e41, n41⟩ := (show (Kd.sl (TA)).ok F b cap (a.tmps[41]?.getD undef) w from hat.d 0 41)
     have hSt := hat.st
     rw [if_pos (by rfl)]
     go_simp
     exact hK.out _ _ hSt (Below.refl _ _) rfl
    refine ⟨fun a w hat K hK => ?_, ?_⟩
    ·have e42 : a.tmps[42]?.getD undef = .int .i64 ((TA).length : Nat) := hat.d 1 42
     have hSt := hat.st
     rw [if_pos (by rfl)]
     go_simp
     exact hK.out _ _ hSt (Below.refl _ _) rfl
    refine ⟨mv fun a w hat => hat.d 2 43, ?_⟩
    refine ⟨mvg 3 44 true fun a w hat => ⟨_, _, hat.b 6, (HN3_6.out.below hat.st.2.2.2.1.out)⟩, ?_⟩
    refine ⟨fun a w hat K hK => ?_, ?_⟩
    ·obtain ⟨a45, c45, e45, n45⟩ := (show (Kd.sl (TB)).ok F b cap (a.tmps[45]?.getD undef) w from hat.d 4 45)
     have hSt := hat.st
     rw [if_pos (wy hat 3 44 true)]
     go_simp
     exact hK.out _ _ hSt (Below.refl _ _) rfl
    refine ⟨fun a w hat K hK => ?_, ?_⟩
    ·have e46 : a.tmps[46]?.getD undef = .int .i64 ((TB).length : Nat) := hat.d 5 46
     have hSt := hat.st
     rw [if_pos (wy hat 3 44 true)]
     go_simp
     exact hK.out _ _ hSt (Below.refl _ _) rfl
    refine ⟨fun a w hat K hK => ?_, ?_⟩
    ·have e44 : a.tmps[44]?.getD undef = .bool true := hat.d 3 44
     have e47 : a.tmps[47]?.getD undef = .bool true := hat.d 6 47
     have hSt := hat.st
     rw [if_pos (by rfl)]
     go_simp
     exact hK.out _ _ hSt (Below.refl _ _) rfl
    exact trivial
   intro a w4 hsz hdf hbase hSt hval
   obtain ⟨t, df⟩ := a
   have et := Go.Rg.tmps_of hsz [41, 42, 43, 44, 45, 46, 47, 48] (fun k hk => hbase k (Go.Rg.base_of (by kernel_rfl) hk))
   have x48 : t.getD 48 undef = .bool true := hval 7 48 (by kernel_rfl)
   clear hval hbase hsz
   simp only [List.foldl_cons, List.foldl_nil, x48] at et
   rw [et]
   have hdf' : df = _ := hdf
   rw [hdf']
   simp only [List.setIfInBounds_toArray, List.set_cons_zero, List.set_cons_succ]
   clear et hdf hdf'
   have HN4_5 := Lib.hid (HN3_5.out.below hSt.2.2.2.1.out)
   have HN4_6 := Lib.hid (HN3_6.out.below hSt.2.2.2.1.out)
   have HN4_7 := Lib.hid (HN3_7.out.below hSt.2.2.2.1.out)
   have HN4_8 := Lib.hid (HN3_8.out.below hSt.2.2.2.1.out)
   have HS8 := Lib.hid hSt.start
   clear hSt
   go_upto_region 9 with (fail)
   refine Go.Rg.region_seq (S := fun w' => SL W w4 gF F b cap (.int .u8 (q : Nat)) (.slice aA A.length cA) (.slice aB B.length cB) (.slice aC C.length cC) w') (R := fun w w' => Below w.heap.size w w') (φ := phi F b cap [.sl (GG), .eq (.int .i64 ((GG).length : Nat)), .eq (.bool true), .eq (.bool true), .eq (.bool true), .eq (.bool true), .eq (.bool true)]) (phi_mono _) (by kernel_rfl) (by kernel_rfl) (by rfl) (HS8.out) ?st4 ?fi4
   case st4 =>
    refine ⟨mv fun a w hat => ⟨_, _, hat.b 8, (HN4_8.out.below hat.st.2.2.2.1.out)⟩, ?_⟩
    refine ⟨fun a w hat K hK => ?_, ?_⟩
    ·obtain ⟨a49, c49, e49, n49⟩ := (show (Kd.sl (GG)).ok F b cap (a.tmps[49]?.getD undef) w from hat.d 0 49)
     have hSt := hat.st
     rw [if_pos (by rfl)]
     go_simp
     exact hK.out _ _ hSt (Below.refl _ _) rfl
    refine ⟨fun a w hat K hK => ?_, ?_⟩
    ·have e50 : a.tmps[50]?.getD undef = .int .i64 ((GG).length : Nat) := hat.d 1 50
     have hSt := hat.st
     rw [if_pos (by rfl)]
     go_simp
     exact hK.out _ _ hSt (Below.refl _ _) rfl
    refine ⟨mv fun a w hat => hat.d 2 51, ?_⟩
    refine ⟨mvg 3 52 true fun a w hat => hat.b 3, ?_⟩
    refine ⟨fun a w hat K hK => ?_, ?_⟩
    ·have e52 : a.tmps[52]?.getD undef = .bool true := hat.d 3 52
     have e53 : a.tmps[53]?.getD undef = .bool true := hat.d 4 53
     have hSt := hat.st
     rw [if_pos (by rfl)]
     go_simp
     exact hK.out _ _ hSt (Below.refl _ _) rfl
    refine ⟨mv fun a w hat => hat.d 5 54, ?_⟩
    exact trivial
   intro a w5 hsz hdf hbase hSt hval
   obtain ⟨t, df⟩ := a
   have et := Go.Rg.tmps_of hsz [49, 50, 51, 52, 53, 54, 2] (fun k hk => hbase k (Go.Rg.base_of (by kernel_rfl) hk))
   have x2 : t.getD 2 undef = .bool true := hval 6 2 (by kernel_rfl)
   clear hval hbase hsz
   simp only [List.foldl_cons, List.foldl_nil, x2] at et
   rw [et]
   have hdf' : df = _ := hdf
   rw [hdf']
   simp only [List.setIfInBounds_toArray, List.set_cons_zero, List.set_cons_succ]
   clear et hdf hdf'
   have HN5_5 := Lib.hid (HN4_5.out.below hSt.2.2.2.1.out)
   have HN5_6 := Lib.hid (HN4_6.out.below hSt.2.2.2.1.out)
   have HN5_7 := Lib.hid (HN4_7.out.below hSt.2.2.2.1.out)
   have HN5_8 := Lib.hid (HN4_8.out.below hSt.2.2.2.1.out)
   have HBF := Lib.hid hSt.2.2.1.out
   clear hSt
   go_wp2
   go_ret
   exact ⟨rfl, HBF.out⟩
  ·have hyB : ((TB.length : Int) == 0) = false := by simp; exact hB0
   have HAB : Hid (¬ (TA = [] ∧ TB = [])) := Lib.hid (fun h => hB0 h.2)
   have HG0 : Hid (GG ≠ []) := Lib.hid (HGG.out.ne HFF.out HAB.out)
   obtain ⟨gg, HGD⟩ : ∃ gg, Hid (GG.length = gg + 1) := ⟨GG.length - 1, Lib.hid (by have := List.length_pos_iff.2 HG0.out; omega)⟩
   have hg8 : GG.length ≤ 8 := HPG.out.2
   have hglt : gg < GG.length := by have := HGD.out; omega
   have hgle : (gg : Int) < (GG.length : Int) := by omega
   have hyG : ((GG.length : Int) == 0) = false := by simp; exact HG0.out
   have hwg : IntKind.i64.wrap ((GG.length : Int) - 1) = (gg : Int) := (IntWalk.i64_in _ (by omega)).trans (by have := HGD.out; omega)
   have HGL : Hid (GG.getD gg 0 = 1) := Lib.hid (by
    have h1 := get_last HFF.out (HGG.out.mo.resolve_left HG0.out)
    rwa [show GG.length - 1 = gg by have := HGD.out; omega] at h1)
   obtain ⟨ZZ, HZZ⟩ : ∃ l, Hid (([] : List Nat) = l) := ⟨_, rfl⟩
   have hyZ : ((ZZ.length : Int) == 0) = true := by rw [← HZZ.out]; rfl
   have HPZ : Hid (PL F 0 ZZ) := Lib.hid (by rw [← HZZ.out]; exact ⟨Po.nil, Nat.le_refl _⟩)
   have hdv := (HGG.out.dv GG HPG.out.1).1 (dv_refl HFF.out HPG.out.1)
   obtain ⟨QA, HDA⟩ : ∃ Q, Hid (DM F TA GG Q ZZ) := (dm_exact HFF.out HPA.out.1 HPG.out.1 HG0.out hdv.1).elim fun Q h => ⟨Q, Lib.hid (by rw [← HZZ.out]; exact h)⟩
   obtain ⟨QB, HDB⟩ : ∃ Q, Hid (DM F TB GG Q ZZ) := (dm_exact HFF.out HPB.out.1 HPG.out.1 HG0.out hdv.2).elim fun Q h => ⟨Q, Lib.hid (by rw [← HZZ.out]; exact h)⟩
   clear hdv
   have HPQA : Hid (PL F 8 QA) := Lib.hid ⟨HDA.out.q, Nat.le_trans (dm_len HFF.out HPA.out.1 HPG.out.1 HG0.out HDA.out) HPA.out.2⟩
   have HPQB : Hid (PL F 8 QB) := Lib.hid ⟨HDB.out.q, Nat.le_trans (dm_len HFF.out HPB.out.1 HPG.out.1 HG0.out HDB.out) HPB.out.2⟩
   have HGS : Hid (IsGcd F TB TA GG) := Lib.hid (IsGcd.symm HFF.out HGG.out)
   have HGM : Hid (IsGcd F (mulP F TA CC) (mulP F TB CC) (mulP F GG CC)) := Lib.hid (HGG.out.mul HFF.out HPA.out.1 HPB.out.1 HPC.out.1 HC1.out)
   have HA0 := Lib.hid hA0
   have HB0 := Lib.hid hB0
   clear hA0 hB0
   go_upto_region 8 with (fail)
   refine Go.Rg.region_seq (S := fun w' => SL W w3 gF F b cap (.int .u8 (q : Nat)) (.slice aA A.length cA) (.slice aB B.length cB) (.slice aC C.length cC) w') (R := fun w w' => Below w.heap.size w w') (φ := phi F b cap [.sl (TA), .eq (.int .i64 ((TA).length : Nat)), .eq (.bool true), .eq (.bool true), .sl (TB), .eq (.int .i64 ((TB).length : Nat)), .eq (.bool false), .eq (.bool false)]) (phi_mono _) (by kernel_rfl) (by kernel_rfl) (by rfl) (HS7.out) ?st5 ?fi5
   case st5 =>
    refine ⟨mv fun a w hat => ⟨_, _, hat.b 5, (HN3_5.out.below hat.st.2.2.2.1.out)⟩, ?_⟩
    refine ⟨fun a w hat K hK => ?_, ?_⟩
    ·obtain ⟨a41, c41, e41, n41⟩ := (show (Kd.sl (TA)).ok F b cap (a.tmps[41]?.getD undef) w from hat.d 0 41)
     have hSt := hat.st
     rw [if_pos (by rfl)]
     go_simp
     exact hK.out _ _ hSt (Below.refl _ _) rfl
    refine ⟨fun a w hat K hK => ?_, ?_⟩
    ·have e42 : a.tmps[42]?.getD undef = .int .i64 ((TA).length : Nat) := hat.d 1 42
     have hSt := hat.st
     rw [if_pos (by rfl)]
     go_simp
     exact hK.out _ _ hSt (Below.refl _ _) rfl
    refine ⟨mv fun a w hat => hat.d 2 43, ?_⟩
    refine ⟨mvg 3 44 true fun a w hat => ⟨_, _, hat.b 6, (HN3_6.out.below hat.st.2.2.2.1.out)⟩, ?_⟩
    refine ⟨fun a w hat K hK => ?_, ?_⟩
    ·obtain ⟨a45, c45, e45, n45⟩ := (show (Kd.sl (TB)).ok F b cap (a.tmps[45]?.getD undef) w from hat.d 4 45)
     have hSt := hat.st
     rw [if_pos (wy hat 3 44 true)]
     go_simp
     exact hK.out _ _ hSt (Below.refl _ _) rfl
    refine ⟨fun a w hat K hK => ?_, ?_⟩
    ·have e46 : a.tmps[46]?.getD undef = .int .i64 ((TB).length : Nat) := hat.d 5 46
     have hSt := hat.st
     rw [if_pos (wy hat 3 44 true)]
     go_simp
     exact hK.out _ _ hSt (Below.refl _ _) rfl
    refine ⟨fun a w hat K hK => ?_, ?_⟩
    ·have e44 : a.tmps[44]?.getD undef = .bool true := hat.d 3 44
     have e47 : a.tmps[47]?.getD undef = .bool false := hat.d 6 47
     have hSt := hat.st
     rw [if_pos (by rfl)]
     go_simp
     exact hK.out _ _ hSt (Below.refl _ _) rfl
    exact trivial
   intro a w4 hsz hdf hbase hSt hval
   obtain ⟨t, df⟩ := a
   have et := Go.Rg.tmps_of hsz [41, 42, 43, 44, 45, 46, 47, 48] (fun k hk => hbase k (Go.Rg.base_of (by kernel_rfl) hk))
   have x48 : t.getD 48 undef = .bool false := hval 7 48 (by kernel_rfl)
   clear hval hbase hsz
   simp only [List.foldl_cons, List.foldl_nil, x48] at et
   rw [et]
   have hdf' : df = _ := hdf
   rw [hdf']
   simp only [List.setIfInBounds_toArray, List.set_cons_zero, List.set_cons_succ]
   clear et hdf hdf'
   have HN4_5 := Lib.hid (HN3_5.out.below hSt.2.2.2.1.out)
   have HN4_6 := Lib.hid (HN3_6.out.below hSt.2.2.2.1.out)
   have HN4_7 := Lib.hid (HN3_7.out.below hSt.2.2.2.1.out)
   have HN4_8 := Lib.hid (HN3_8.out.below hSt.2.2.2.1.out)
   have HS8 := Lib.hid hSt.start
   clear hSt
   obtain ⟨bG, oG, hpG, HBG, HCL⟩ : ∃ bG oG, p8 = some ⟨bG, oG, none⟩ ∧ Hid (bG < w4.heap.size) ∧ Hid (w4.cell? ⟨bG, oG + gg, none⟩ = some (.int .i64 1)) := by
    have hgl := HGD.out
    rcases HN4_8.out with ⟨e, -⟩ | ⟨b', off', cap', e, g1, g2, g3⟩
    ·rw [e] at hgl; simp at hgl
    ·injection e with e1 e2 e3
     refine ⟨b', off', e1, Lib.hid g2, Lib.hid ?_⟩
     rw [g3 gg (by omega), HGL.out]; rfl
   subst hpG
   have HNG := HN4_8
   go_upto_region 10 with (fail)
   have HEQ10_18 : Hid (GG = GG) := Lib.hid (rfl)
   refine Go.Rg.region_seq (S := fun w' => SL W w4 gF F b cap (.int .u8 (q : Nat)) (.slice aA A.length cA) (.slice aB B.length cB) (.slice aC C.length cC) w') (R := fun w w' => Below w.heap.size w w') (φ := phi F b cap [.eq (.slice (some ⟨bG, oG, none⟩) GG.length q8), .eq (.int .i64 ((GG).length : Nat)), .eq (.bool false), .eq (.bool false), .eq (.slice (some ⟨bG, oG, none⟩) GG.length q8), .eq (.slice (some ⟨bG, oG, none⟩) GG.length q8), .eq (.int .i64 ((GG).length : Nat)), .eq (.int .i64 (gg : Nat)), .eq (.pointer (some ⟨bG, oG + gg, none⟩)), .eq (.int .i64 1), .eq (.bool false), .eq (.bool false), .eq (.bool false), .sl (GG), .eq (FV F b cap), .sl (TB), .sl (TA), .sl (GG), .eq (.bool true), .eq (.bool false), .eq (.bool false)]) (phi_mono _) (by kernel_rfl) (by kernel_rfl) (by rfl) (HS8.out) ?st6 ?fi6
   case st6 =>
    refine ⟨mv fun a w hat => hat.b 8, ?_⟩
    refine ⟨fun a w hat K hK => ?_, ?_⟩
    ·have e55 : a.tmps[55]?.getD undef = .slice (some ⟨bG, oG, none⟩) GG.length q8 := hat.d 0 55
     have hSt := hat.st
     rw [if_pos (by rfl)]
     go_simp
     exact hK.out _ _ hSt (Below.refl _ _) rfl
    refine ⟨fun a w hat K hK => ?_, ?_⟩
    ·have e56 : a.tmps[56]?.getD undef = .int .i64 ((GG).length : Nat) := hat.d 1 56
     have hSt := hat.st
     rw [if_pos (by rfl)]
     go_simp
     exact hK.out _ _ hSt (Below.refl _ _) rfl
    refine ⟨mv fun a w hat => hat.d 2 57, ?_⟩
    refine ⟨mvg 3 58 false fun a w hat => hat.b 8, ?_⟩
    refine ⟨mvg 3 58 false fun a w hat => hat.b 8, ?_⟩
    refine ⟨fun a w hat K hK => ?_, ?_⟩
    ·have e60 : a.tmps[60]?.getD undef = .slice (some ⟨bG, oG, none⟩) GG.length q8 := hat.d 5 60
     have hSt := hat.st
     rw [if_pos (wy hat 3 58 false)]
     go_simp
     exact hK.out _ _ hSt (Below.refl _ _) rfl
    refine ⟨fun a w hat K hK => ?_, ?_⟩
    ·have e61 : a.tmps[61]?.getD undef = .int .i64 ((GG).length : Nat) := hat.d 6 61
     have hSt := hat.st
     rw [if_pos (wy hat 3 58 false)]
     go_simp
     exact hK.out _ _ hSt (Below.refl _ _) rfl
    refine ⟨fun a w hat K hK => ?_, ?_⟩
    ·have e59 : a.tmps[59]?.getD undef = .slice (some ⟨bG, oG, none⟩) GG.length q8 := hat.d 4 59
     have e62 : a.tmps[62]?.getD undef = .int .i64 (gg : Nat) := hat.d 7 62
     have hSt := hat.st
     rw [if_pos (wy hat 3 58 false)]
     go_simp
     exact hK.out _ _ hSt (Below.refl _ _) rfl
    refine ⟨fun a w hat K hK => ?_, ?_⟩
    ·have e63 : a.tmps[63]?.getD undef = .pointer (some ⟨bG, oG + gg, none⟩) := hat.d 8 63
     have hSt := hat.st
     rw [if_pos (wy hat 3 58 false)]
     have hc := (hSt.2.2.2.1.out.cell (p := ⟨bG, oG + gg, none⟩) HBG.out).trans HCL.out
     go_simp
     exact hK.out _ _ hSt (Below.refl _ _) rfl
    refine ⟨fun a w hat K hK => ?_, ?_⟩
    ·have e64 : a.tmps[64]?.getD undef = .int .i64 1 := hat.d 9 64
     have hSt := hat.st
     rw [if_pos (wy hat 3 58 false)]
     go_simp
     exact hK.out _ _ hSt (Below.refl _ _) rfl
    refine ⟨fun a w hat K hK => ?_, ?_⟩
    ·have e58 : a.tmps[58]?.getD undef = .bool false := hat.d 3 58
     have e65 : a.tmps[65]?.getD undef = .bool false := hat.d 10 65
     have hSt := hat.st
     rw [if_pos (by rfl)]
     go_simp
     exact hK.out _ _ hSt (Below.refl _ _) rfl
    refine ⟨mv fun a w hat => hat.d 11 66, ?_⟩
    refine ⟨fun a w hat K hK => ?_, ?_⟩
    ·have e8 : a.tmps[8]?.getD undef = .slice (some ⟨bG, oG, none⟩) GG.length q8 := hat.b 8
     have hSt := hat.st
     rw [if_pos (wy hat 12 67 false)]
     go_simp
     exact hK.out _ _ hSt (Below.refl _ _) ⟨_, _, rfl, HNG.out.below hSt.2.2.2.1.out⟩
    refine ⟨fun a w hat K hK => ?_, ?_⟩
    ·have e4 : a.tmps[4]?.getD undef = .pointer (some ⟨gF, 0, none⟩) := hat.b 4
     have hSt := hat.st
     rw [if_pos (wy hat 12 67 false)]
     go_simp
     exact hK.out _ _ hSt (Below.refl _ _) rfl
    refine ⟨mvg 12 67 false fun a w hat => ⟨_, _, hat.b 6, (HN4_6.out.below hat.st.2.2.2.1.out)⟩, ?_⟩
    refine ⟨mvg 12 67 false fun a w hat => ⟨_, _, hat.b 5, (HN4_5.out.below hat.st.2.2.2.1.out)⟩, ?_⟩
    refine ⟨fun a w hat K hK => ?_, ?_⟩
    ·have e69 : a.tmps[69]?.getD undef = FV F b cap := hat.d 14 69
     obtain ⟨a70, c70, e70, n70⟩ := (show (Kd.sl (TB)).ok F b cap (a.tmps[70]?.getD undef) w from hat.d 15 70)
     obtain ⟨a71, c71, e71, n71⟩ := (show (Kd.sl (TA)).ok F b cap (a.tmps[71]?.getD undef) w from hat.d 16 71)
     have hSt := hat.st
     rw [if_pos (wy hat 12 67 false)]
     go_simp
     go_at_call 25
     with_reducible refine (gcd_po (hSt.2.2.2.2.1.out.ops) HPB.out HPA.out HGS.out (by decide) (by decide) n70 n71).mono ?_
     rintro z' v' ⟨a', c', rfl, hn', hb⟩
     exact hK.out _ _ (SL.keep hSt hb) hb ⟨a', c', rfl, hn'⟩
    refine ⟨fun a w hat K hK => ?_, ?_⟩
    ·obtain ⟨a68, c68, e68, n68⟩ := (show (Kd.sl (GG)).ok F b cap (a.tmps[68]?.getD undef) w from hat.d 13 68)
     obtain ⟨a72, c72, e72, n72⟩ := (show (Kd.sl (GG)).ok F b cap (a.tmps[72]?.getD undef) w from hat.d 17 72)
     have hSt := hat.st
     rw [if_pos (wy hat 12 67 false)]
     go_simp
     go_at_call 14
     with_reducible refine (ints_po HPG.out HPG.out HEQ10_18.out (by decide) (by decide) n68 n72).mono ?_
     rintro z' v' ⟨rfl, hb⟩
     exact hK.out _ _ (SL.keep hSt hb) hb rfl
    refine ⟨fun a w hat K hK => ?_, ?_⟩
    ·have e73 : a.tmps[73]?.getD undef = .bool true := hat.d 18 73
     have hSt := hat.st
     rw [if_pos (wy hat 12 67 false)]
     go_simp
     exact hK.out _ _ hSt (Below.refl _ _) rfl
    refine ⟨fun a w hat K hK => ?_, ?_⟩
    ·have e67 : a.tmps[67]?.getD undef = .bool false := hat.d 12 67
     have e74 : a.tmps[74]?.getD undef = .bool false := hat.d 19 74
     have hSt := hat.st
     rw [if_pos (by rfl)]
     go_simp
     exact hK.out _ _ hSt (Below.refl _ _) rfl
    exact trivial
   intro a w5 hsz hdf hbase hSt hval
   obtain ⟨t, df⟩ := a
   have et := Go.Rg.tmps_of hsz [55, 56, 57, 58, 59, 60, 61, 62, 63, 64, 65, 66, 67, 68, 69, 70, 71, 72, 73, 74, 75] (fun k hk => hbase k (Go.Rg.base_of (by kernel_rfl) hk))
   have x75 : t.getD 75 undef = .bool false := hval 20 75 (by kernel_rfl)
   clear hval hbase hsz
   simp only [List.foldl_cons, List.foldl_nil, x75] at et
   rw [et]
   have hdf' : df = _ := hdf
   rw [hdf']
   simp only [List.setIfInBounds_toArray, List.set_cons_zero, List.set_cons_succ]
   clear et hdf hdf'
   have HN5_5 := Lib.hid (HN4_5.out.below hSt.2.2.2.1.out)
   have HN5_6 := Lib.hid (HN4_6.out.below hSt.2.2.2.1.out)
   have HN5_7 := Lib.hid (HN4_7.out.below hSt.2.2.2.1.out)
   have HNH_8 := Lib.hid (HNG.out.below hSt.2.2.2.1.out)
   have HS10 := Lib.hid hSt.start
   clear hSt
   go_upto_region 12 with (fail)
   refine Go.Rg.region_seq (S := fun w' => SL W w5 gF F b cap (.int .u8 (q : Nat)) (.slice aA A.length cA) (.slice aB B.length cB) (.slice aC C.length cC) w') (R := fun w w' => Below w.heap.size w w') (φ := phi F b cap [.eq (FV F b cap), .sl (TA), .sl (GG), .dm (QA) (ZZ), .dm (QA) (ZZ), .sl (QA), .sl (ZZ), .eq (.int .i64 0), .sl (QA), .sl (ZZ), .eq (.int .i64 0)]) (phi_mono _) (by kernel_rfl) (by kernel_rfl) (by rfl) (HS10.out) ?st7 ?fi7
   case st7 =>
    refine ⟨fun a w hat K hK => ?_, ?_⟩
    ·have e4 : a.tmps[4]?.getD undef = .pointer (some ⟨gF, 0, none⟩) := hat.b 4
     have hSt := hat.st
     rw [if_pos (by rfl)]
     go_simp
     exact hK.out _ _ hSt (Below.refl _ _) rfl
    refine ⟨mv fun a w hat => ⟨_, _, hat.b 5, (HN5_5.out.below hat.st.2.2.2.1.out)⟩, ?_⟩
    refine ⟨mv fun a w hat => ⟨_, _, hat.b 8, (HNH_8.out.below hat.st.2.2.2.1.out)⟩, ?_⟩
    refine ⟨fun a w hat K hK => ?_, ?_⟩
    ·have e77 : a.tmps[77]?.getD undef = FV F b cap := hat.d 0 77
     obtain ⟨a78, c78, e78, n78⟩ := (show (Kd.sl (TA)).ok F b cap (a.tmps[78]?.getD undef) w from hat.d 1 78)
     obtain ⟨a79, c79, e79, n79⟩ := (show (Kd.sl (GG)).ok F b cap (a.tmps[79]?.getD undef) w from hat.d 2 79)
     have hSt := hat.st
     rw [if_pos (by rfl)]
     go_simp
     go_at_call 17
     with_reducible refine (dm_po (hSt.2.2.2.2.1.out.ops) HPA.out HPG.out HG0.out HDA.out (by decide) (by decide) n78 n79).mono ?_
     rintro z' v' ⟨a', c', a2', c2', rfl, hn', hn2', hb⟩
     exact hK.out _ _ (SL.keep hSt hb) hb ⟨a', c', a2', c2', rfl, hn', hn2'⟩
    refine ⟨mv fun a w hat => hat.d 3 80, ?_⟩
    refine ⟨fun a w hat K hK => ?_, ?_⟩
    ·obtain ⟨a76, c76, a'76, c'76, e76, n76, n'76⟩ := (show (Kd.dm (QA) (ZZ)).ok F b cap (a.tmps[76]?.getD undef) w from hat.d 4 76)
     have hSt := hat.st
     rw [if_pos (by rfl)]
     go_simp
     exact hK.out _ _ hSt (Below.refl _ _) ⟨a76, c76, rfl, n76⟩
    refine ⟨fun a w hat K hK => ?_, ?_⟩
    ·obtain ⟨a76, c76, a'76, c'76, e76, n76, n'76⟩ := (show (Kd.dm (QA) (ZZ)).ok F b cap (a.tmps[76]?.getD undef) w from hat.d 4 76)
     have hSt := hat.st
     rw [if_pos (by rfl)]
     go_simp
     exact hK.out _ _ hSt (Below.refl _ _) ⟨a'76, c'76, rfl, n'76⟩
    refine ⟨fun a w hat K hK => ?_, ?_⟩
    ·obtain ⟨a76, c76, a'76, c'76, e76, n76, n'76⟩ := (show (Kd.dm (QA) (ZZ)).ok F b cap (a.tmps[76]?.getD undef) w from hat.d 4 76)
     have hSt := hat.st
     rw [if_pos (by rfl)]
     go_simp
     exact hK.out _ _ hSt (Below.refl _ _) rfl
    refine ⟨mv fun a w hat => hat.d 5 81, ?_⟩
    refine ⟨mv fun a w hat => hat.d 6 82, ?_⟩
    refine ⟨mv fun a w hat => hat.d 7 83, ?_⟩
    exact trivial
   intro a w6 hsz hdf hbase hSt hval
   obtain ⟨t, df⟩ := a
   have et := Go.Rg.tmps_of hsz [77, 78, 79, 80, 76, 81, 82, 83, 9, 10, 11] (fun k hk => hbase k (Go.Rg.base_of (by kernel_rfl) hk))
   obtain ⟨p9, q9, x9, m9⟩ := (show (Kd.sl (QA)).ok F b cap (t.getD 9 undef) w6 from hval 8 9 (by kernel_rfl))
   obtain ⟨p10, q10, x10, m10⟩ := (show (Kd.sl (ZZ)).ok F b cap (t.getD 10 undef) w6 from hval 9 10 (by kernel_rfl))
   have x11 : t.getD 11 undef = .int .i64 0 := hval 10 11 (by kernel_rfl)
   clear hval hbase hsz
   simp only [List.foldl_cons, List.foldl_nil, x9, x10, x11] at et
   rw [et]
   have hdf' : df = _ := hdf
   rw [hdf']
   simp only [List.setIfInBounds_toArray, List.set_cons_zero, List.set_cons_succ]
   clear et hdf hdf'
   have HN6_5 := Lib.hid (HN5_5.out.below hSt.2.2.2.1.out)
   have HN6_6 := Lib.hid (HN5_6.out.below hSt.2.2.2.1.out)
   have HN6_7 := Lib.hid (HN5_7.out.below hSt.2.2.2.1.out)
   have HN6_8 := Lib.hid (HNH_8.out.below hSt.2.2.2.1.out)
   have HN6_9 := Lib.hid m9
   have HN6_10 := Lib.hid m10
   clear m9 m10
   have HS12 := Lib.hid hSt.start
   clear hSt
   go_upto_region 13 with (fail)
   refine Go.Rg.region_seq (S := fun w' => SL W w6 gF F b cap (.int .u8 (q : Nat)) (.slice aA A.length cA) (.slice aB B.length cB) (.slice aC C.length cC) w') (R := fun w w' => Below w.heap.size w w') (φ := phi F b cap [.eq (FV F b cap), .sl (TB), .sl (GG), .dm (QB) (ZZ), .dm (QB) (ZZ), .sl (QB), .sl (ZZ), .eq (.int .i64 0), .sl (QB), .sl (ZZ), .eq (.int .i64 0)]) (phi_mono _) (by kernel_rfl) (by kernel_rfl) (by rfl) (HS12.out) ?st8 ?fi8
   case st8 =>
    refine ⟨fun a w hat K hK => ?_, ?_⟩
    ·have e4 : a.tmps[4]?.getD undef = .pointer (some ⟨gF, 0, none⟩) := hat.b 4
     have hSt := hat.st
     rw [if_pos (by rfl)]
     go_simp
     exact hK.out _ _ hSt (Below.refl _ _) rfl
    refine ⟨mv fun a w hat => ⟨_, _, hat.b 6, (HN6_6.out.below hat.st.2.2.2.1.out)⟩, ?_⟩
    refine ⟨mv fun a w hat => ⟨_, _, hat.b 8, (HN6_8.out.below hat.st.2.2.2.1.out)⟩, ?_⟩
    refine ⟨fun a w hat K hK => ?_, ?_⟩
    ·have e85 : a.tmps[85]?.getD undef = FV F b cap := hat.d 0 85
     obtain ⟨a86, c86, e86, n86⟩ := (show (Kd.sl (TB)).ok F b cap (a.tmps[86]?.getD undef) w from hat.d 1 86)
     obtain ⟨a87, c87, e87, n87⟩ := (show (Kd.sl (GG)).ok F b cap (a.tmps[87]?.getD undef) w from hat.d 2 87)
     have hSt := hat.st
     rw [if_pos (by rfl)]
     go_simp
     go_at_call 17
     with_reducible refine (dm_po (hSt.2.2.2.2.1.out.ops) HPB.out HPG.out HG0.out HDB.out (by decide) (by decide) n86 n87).mono ?_
     rintro z' v' ⟨a', c', a2', c2', rfl, hn', hn2', hb⟩
     exact hK.out _ _ (SL.keep hSt hb) hb ⟨a', c', a2', c2', rfl, hn', hn2'⟩
    refine ⟨mv fun a w hat => hat.d 3 88, ?_⟩
    refine ⟨fun a w hat K hK => ?_, ?_⟩
    ·obtain ⟨a84, c84, a'84, c'84, e84, n84, n'84⟩ := (show (Kd.dm (QB) (ZZ)).ok F b cap (a.tmps[84]?.getD undef) w from hat.d 4 84)
     have hSt := hat.st
     rw [if_pos (by rfl)]
     go_simp
     exact hK.out _ _ hSt (Below.refl _ _) ⟨a84, c84, rfl, n84⟩
    refine ⟨fun a w hat K hK => ?_, ?_⟩
    ·obtain ⟨a84, c84, a'84, c'84, e84, n84, n'84⟩ := (show (Kd.dm (QB) (ZZ)).ok F b cap (a.tmps[84]?.getD undef) w from hat.d 4 84)
     have hSt := hat.st
     rw [if_pos (by rfl)]
     go_simp
     exact hK.out _ _ hSt (Below.refl _ _) ⟨a'84, c'84, rfl, n'84⟩
    refine ⟨fun a w hat K hK => ?_, ?_⟩
    ·obtain ⟨a84, c84, a'84, c'84, e84, n84, n'84⟩ := (show (Kd.dm (QB) (ZZ)).ok F b cap (a.tmps[84]?.getD undef) w from hat.d 4 84)
     have hSt := hat.st
     rw [if_pos (by rfl)]
     go_simp
     exact hK.out _ _ hSt (Below.refl _ _) rfl
    refine ⟨mv fun a w hat => hat.d 5 89, ?_⟩
    refine ⟨mv fun a w hat => hat.d 6 90, ?_⟩
    refine ⟨mv fun a w hat => hat.d 7 91, ?_⟩
    exact trivial
   intro a w7 hsz hdf hbase hSt hval
   obtain ⟨t, df⟩ := a
   have et := Go.Rg.tmps_of hsz [85, 86, 87, 88, 84, 89, 90, 91, 12, 13, 14] (fun k hk => hbase k (Go.Rg.base_of (by kernel_rfl) hk))
   obtain ⟨p12, q12, x12, m12⟩ := (show (Kd.sl (QB)).ok F b cap (t.getD 12 undef) w7 from hval 8 12 (by kernel_rfl))
   obtain ⟨p13, q13, x13, m13⟩ := (show (Kd.sl (ZZ)).ok F b cap (t.getD 13 undef) w7 from hval 9 13 (by kernel_rfl))
   have x14 : t.getD 14 undef = .int .i64 0 := hval 10 14 (by kernel_rfl)
   clear hval hbase hsz
   simp only [List.foldl_cons, List.foldl_nil, x12, x13, x14] at et
   rw [et]
   have hdf' : df = _ := hdf
   rw [hdf']
   simp only [List.setIfInBounds_toArray, List.set_cons_zero, List.set_cons_succ]
   clear et hdf hdf'
   have HN7_5 := Lib.hid (HN6_5.out.below hSt.2.2.2.1.out)
   have HN7_6 := Lib.hid (HN6_6.out.below hSt.2.2.2.1.out)
   have HN7_7 := Lib.hid (HN6_7.out.below hSt.2.2.2.1.out)
   have HN7_8 := Lib.hid (HN6_8.out.below hSt.2.2.2.1.out)
   have HN7_9 := Lib.hid (HN6_9.out.below hSt.2.2.2.1.out)
   have HN7_10 := Lib.hid (HN6_10.out.below hSt.2.2.2.1.out)
   have HN7_12 := Lib.hid m12
   have HN7_13 := Lib.hid m13
   clear m12 m13
   have HS13 := Lib.hid hSt.start
   clear hSt
   go_upto_region 14 with (fail)
   have HP_2 : Hid (PL F 16 (mulP F TA CC)) := Lib.hid (pl_mul HFF.out HPA.out HPC.out (by decide) )
   have HP_3 : Hid (PL F 16 (mulP F TB CC)) := Lib.hid (pl_mul HFF.out HPB.out HPC.out (by decide) )
   have HP_1 : Hid (PL F 16 (mulP F GG CC)) := Lib.hid (pl_mul HFF.out HPG.out HPC.out (by decide))
   have HEQ14_31 : Hid (mulP F GG CC = mulP F GG CC) := Lib.hid (rfl)
   refine Go.Rg.region_by (S := fun w' => SL W w7 gF F b cap (.int .u8 (q : Nat)) (.slice aA A.length cA) (.slice aB B.length cB) (.slice aC C.length cC) w') (R := fun w w' => Below w.heap.size w w') (φ := phi F b cap [.eq (.int .i64 0), .eq (.bool true), .eq (.bool true), .eq (.int .i64 0), .eq (.bool true), .eq (.bool true), .eq (.bool true), .sl (ZZ), .eq (.int .i64 ((ZZ).length : Nat)), .eq (.bool true), .eq (.bool true), .eq (.bool true), .sl (ZZ), .eq (.int .i64 ((ZZ).length : Nat)), .eq (.bool true), .eq (.bool true), .eq (.bool true), .eq (FV F b cap), .eq (FV F b cap), .sl (TA), .sl (CC), .sl (mulP F TA CC), .eq (FV F b cap), .sl (TB), .sl (CC), .sl (mulP F TB CC), .sl (mulP F GG CC), .eq (FV F b cap), .sl (GG), .sl (CC), .sl (mulP F GG CC), .eq (.bool true), .eq (.bool true), .eq (.bool true), .eq (.bool true), .eq (.bool true), .eq (.bool true)]) (by kernel_rfl) (phi_mono _) (by kernel_rfl) (by kernel_rfl) (by rfl) (HS13.out.drew) (Go.Rg.steps_ok ?st9) ?fi9
   case st9 =>
    refine ⟨mv fun a w hat => hat.b 11, ?_⟩
    refine ⟨fun a w hat K hK => ?_, ?_⟩
    ·have e92 : a.tmps[92]?.getD undef = .int .i64 0 := hat.d 0 92
     have hSt := hat.st
     rw [if_pos (by rfl)]
     go_simp
     exact hK.out _ _ hSt (Below.refl _ _) rfl
    refine ⟨mv fun a w hat => hat.d 1 93, ?_⟩
    refine ⟨mvg 2 94 true fun a w hat => hat.b 14, ?_⟩
    refine ⟨fun a w hat K hK => ?_, ?_⟩
    ·have e95 : a.tmps[95]?.getD undef = .int .i64 0 := hat.d 3 95
     have hSt := hat.st
     rw [if_pos (wy hat 2 94 true)]
     go_simp
     exact hK.out _ _ hSt (Below.refl _ _) rfl
    refine ⟨fun a w hat K hK => ?_, ?_⟩
    ·have e94 : a.tmps[94]?.getD undef = .bool true := hat.d 2 94
     have e96 : a.tmps[96]?.getD undef = .bool true := hat.d 4 96
     have hSt := hat.st
     rw [if_pos (by rfl)]
     go_simp
     exact hK.out _ _ hSt (Below.refl _ _) rfl
    refine ⟨mv fun a w hat => hat.d 5 97, ?_⟩
    refine ⟨mvg 6 98 true fun a w hat => ⟨_, _, hat.b 10, (HN7_10.out.below hat.st.2.2.2.1.out)⟩, ?_⟩
    refine ⟨fun a w hat K hK => ?_, ?_⟩
    ·obtain ⟨a99, c99, e99, n99⟩ := (show (Kd.sl (ZZ)).ok F b cap (a.tmps[99]?.getD undef) w from hat.d 7 99)
     have hSt := hat.st
     rw [if_pos (wy hat 6 98 true)]
     go_simp
     exact hK.out _ _ hSt (Below.refl _ _) rfl
    refine ⟨fun a w hat K hK => ?_, ?_⟩
    ·have e100 : a.tmps[100]?.getD undef = .int .i64 ((ZZ).length : Nat) := hat.d 8 100
     have hSt := hat.st
     rw [if_pos (wy hat 6 98 true)]
     go_simp
     exact hK.out _ _ hSt (Below.refl _ _) rfl
    refine ⟨fun a w hat K hK => ?_, ?_⟩
    ·have e98 : a.tmps[98]?.getD undef = .bool true := hat.d 6 98
     have e101 : a.tmps[101]?.getD undef = .bool true := hat.d 9 101
     have hSt := hat.st
     rw [if_pos (by rfl)]
     go_simp
     exact hK.out _ _ hSt (Below.refl _ _) rfl
    refine ⟨mv fun a w hat => hat.d 10 102, ?_⟩
    refine ⟨mvg 11 103 true fun a w hat => ⟨_, _, hat.b 13, (HN7_13.out.below hat.st.2.2.2.1.out)⟩, ?_⟩
    refine ⟨fun a w hat K hK => ?_, ?_⟩
    ·obtain ⟨a104, c104, e104, n104⟩ := (show (Kd.sl (ZZ)).ok F b cap (a.tmps[104]?.getD undef) w from hat.d 12 104)
     have hSt := hat.st
     rw [if_pos (wy hat 11 103 true)]
     go_simp
     exact hK.out _ _ hSt (Below.refl _ _) rfl
    refine ⟨fun a w hat K hK => ?_, ?_⟩
    ·have e105 : a.tmps[105]?.getD undef = .int .i64 ((ZZ).length : Nat) := hat.d 13 105
     have hSt := hat.st
     rw [if_pos (wy hat 11 103 true)]
     go_simp
     exact hK.out _ _ hSt (Below.refl _ _) rfl
    refine ⟨fun a w hat K hK => ?_, ?_⟩
    ·have e103 : a.tmps[103]?.getD undef = .bool true := hat.d 11 103
     have e106 : a.tmps[106]?.getD undef = .bool true := hat.d 14 106
     have hSt := hat.st
     rw [if_pos (by rfl)]
     go_simp
     exact hK.out _ _ hSt (Below.refl _ _) rfl
    refine ⟨mv fun a w hat => hat.d 15 107, ?_⟩
    refine ⟨fun a w hat K hK => ?_, ?_⟩
    ·have e4 : a.tmps[4]?.getD undef = .pointer (some ⟨gF, 0, none⟩) := hat.b 4
     have hSt := hat.st
     rw [if_pos (wy hat 16 108 true)]
     go_simp
     exact hK.out _ _ hSt (Below.refl _ _) rfl
    refine ⟨fun a w hat K hK => ?_, ?_⟩
    ·have e4 : a.tmps[4]?.getD undef = .pointer (some ⟨gF, 0, none⟩) := hat.b 4
     have hSt := hat.st
     rw [if_pos (wy hat 16 108 true)]
     go_simp
     exact hK.out _ _ hSt (Below.refl _ _) rfl
    refine ⟨mvg 16 108 true fun a w hat => ⟨_, _, hat.b 5, (HN7_5.out.below hat.st.2.2.2.1.out)⟩, ?_⟩
    refine ⟨mvg 16 108 true fun a w hat => ⟨_, _, hat.b 7, (HN7_7.out.below hat.st.2.2.2.1.out)⟩, ?_⟩
    refine ⟨fun a w hat K hK => ?_, ?_⟩
    ·have e110 : a.tmps[110]?.getD undef = FV F b cap := hat.d 18 110
     obtain ⟨a111, c111, e111, n111⟩ := (show (Kd.sl (TA)).ok F b cap (a.tmps[111]?.getD undef) w from hat.d 19 111)
     obtain ⟨a112, c112, e112, n112⟩ := (show (Kd.sl (CC)).ok F b cap (a.tmps[112]?.getD undef) w from hat.d 20 112)
     have hSt := hat.st
     rw [if_pos (wy hat 16 108 true)]
     go_simp
     go_at_call 23
     with_reducible refine (pmul_po (hSt.2.2.2.2.1.out.ops) HPA.out HPC.out (by decide) (by decide) n111 n112).mono ?_
     rintro z' v' ⟨a', c', rfl, hn', hb⟩
     exact hK.out _ _ (SL.keep hSt hb) hb ⟨a', c', rfl, hn'⟩
    refine ⟨fun a w hat K hK => ?_, ?_⟩
    ·have e4 : a.tmps[4]?.getD undef = .pointer (some ⟨gF, 0, none⟩) := hat.b 4
     have hSt := hat.st
     rw [if_pos (wy hat 16 108 true)]
     go_simp
     exact hK.out _ _ hSt (Below.refl _ _) rfl
    refine ⟨mvg 16 108 true fun a w hat => ⟨_, _, hat.b 6, (HN7_6.out.below hat.st.2.2.2.1.out)⟩, ?_⟩
    refine ⟨mvg 16 108 true fun a w hat => ⟨_, _, hat.b 7, (HN7_7.out.below hat.st.2.2.2.1.out)⟩, ?_⟩
    refine ⟨fun a w hat K hK => ?_, ?_⟩
    ·have e114 : a.tmps[114]?.getD undef = FV F b cap := hat.d 22 114
     obtain ⟨a115, c115, e115, n115⟩ := (show (Kd.sl (TB)).ok F b cap (a.tmps[115]?.getD undef) w from hat.d 23 115)
     obtain ⟨a116, c116, e116, n116⟩ := (show (Kd.sl (CC)).ok F b cap (a.tmps[116]?.getD undef) w from hat.d 24 116)
     have hSt := hat.st
     rw [if_pos (wy hat 16 108 true)]
     go_simp
     go_at_call 23
     with_reducible refine (pmul_po (hSt.2.2.2.2.1.out.ops) HPB.out HPC.out (by decide) (by decide) n115 n116).mono ?_
     rintro z' v' ⟨a', c', rfl, hn', hb⟩
     exact hK.out _ _ (SL.keep hSt hb) hb ⟨a', c', rfl, hn'⟩
    refine ⟨fun a w hat K hK => ?_, ?_⟩
    ·have e109 : a.tmps[109]?.getD undef = FV F b cap := hat.d 17 109
     obtain ⟨a113, c113, e113, n113⟩ := (show (Kd.sl (mulP F TA CC)).ok F b cap (a.tmps[113]?.getD undef) w from hat.d 21 113)
     obtain ⟨a117, c117, e117, n117⟩ := (show (Kd.sl (mulP F TB CC)).ok F b cap (a.tmps[117]?.getD undef) w from hat.d 25 117)
     have hSt := hat.st
     rw [if_pos (wy hat 16 108 true)]
     go_simp
     go_at_call 25
     with_reducible refine (gcd_po (hSt.2.2.2.2.1.out.ops) HP_2.out HP_3.out HGM.out (by decide) (by decide) n113 n117).mono ?_
     rintro z' v' ⟨a', c', rfl, hn', hb⟩
     exact hK.out _ _ (SL.keep hSt hb) hb ⟨a', c', rfl, hn'⟩
    refine ⟨fun a w hat K hK => ?_, ?_⟩
    ·have e4 : a.tmps[4]?.getD undef = .pointer (some ⟨gF, 0, none⟩) := hat.b 4
     have hSt := hat.st
     rw [if_pos (wy hat 16 108 true)]
     go_simp
     exact hK.out _ _ hSt (Below.refl _ _) rfl
    refine ⟨mvg 16 108 true fun a w hat => ⟨_, _, hat.b 8, (HN7_8.out.below hat.st.2.2.2.1.out)⟩, ?_⟩
    refine ⟨mvg 16 108 true fun a w hat => ⟨_, _, hat.b 7, (HN7_7.out.below hat.st.2.2.2.1.out)⟩, ?_⟩
    refine ⟨fun a w hat K hK => ?_, ?_⟩
    ·have e119 : a.tmps[119]?.getD undef = FV F b cap := hat.d 27 119
     obtain ⟨a120, c120, e120, n120⟩ := (show (Kd.sl (GG)).ok F b cap (a.tmps[120]?.getD undef) w from hat.d 28 120)
     obtain ⟨a121, c121, e121, n121⟩ := (show (Kd.sl (CC)).ok F b cap (a.tmps[121]?.getD undef) w from hat.d 29 121)
     have hSt := hat.st
     rw [if_pos (wy hat 16 108 true)]
     go_simp
     go_at_call 23
     with_reducible refine (pmul_po (hSt.2.2.2.2.1.out.ops) HPG.out HPC.out (by decide) (by decide) n120 n121).mono ?_
     rintro z' v' ⟨a', c', rfl, hn', hb⟩
     exact hK.out _ _ (SL.keep hSt hb) hb ⟨a', c', rfl, hn'⟩
    refine ⟨fun a w hat K hK => ?_, ?_⟩
    ·obtain ⟨a118, c118, e118, n118⟩ := (show (Kd.sl (mulP F GG CC)).ok F b cap (a.tmps[118]?.getD undef) w from hat.d 26 118)
     obtain ⟨a122, c122, e122, n122⟩ := (show (Kd.sl (mulP F GG CC)).ok F b cap (a.tmps[122]?.getD undef) w from hat.d 30 122)
     have hSt := hat.st
     rw [if_pos (wy hat 16 108 true)]
     go_simp
     go_at_call 14
     with_reducible refine (ints_po HP_1.out HP_1.out HEQ14_31.out (by decide) (by decide) n118 n122).mono ?_
     rintro z' v' ⟨rfl, hb⟩
     exact hK.out _ _ (SL.keep hSt hb) hb rfl
    refine ⟨fun a w hat K hK => ?_, ?_⟩
    ·have e108 : a.tmps[108]?.getD undef = .bool true := hat.d 16 108
     have e123 : a.tmps[123]?.getD undef = .bool true := hat.d 31 123
     have hSt := hat.st
     rw [if_pos (by rfl)]
     go_simp
     exact hK.out _ _ hSt (Below.refl _ _) rfl
    refine ⟨mv fun a w hat => hat.d 32 124, ?_⟩
    refine ⟨mvg 33 125 true fun a w hat => hat.b 3, ?_⟩
    refine ⟨fun a w hat K hK => ?_, ?_⟩
    ·have e125 : a.tmps[125]?.getD undef = .bool true := hat.d 33 125
     have e126 : a.tmps[126]?.getD undef = .bool true := hat.d 34 126
     have hSt := hat.st
     rw [if_pos (by rfl)]
     go_simp
     exact hK.out _ _ hSt (Below.refl _ _) rfl
    refine ⟨mv fun a w hat => hat.d 35 127, ?_⟩
    exact trivial
   intro a w8 hsz hdf hbase hSt hval
   obtain ⟨t, df⟩ := a
   have et := Go.Rg.tmps_of hsz [92, 93, 94, 95, 96, 97, 98, 99, 100, 101, 102, 103, 104, 105, 106, 107, 108, 109, 110, 111, 112, 113, 114, 115, 116, 117, 118, 119, 120, 121, 122, 123, 124, 125, 126, 127, 2] (fun k hk => hbase k (Go.Rg.base_of (by kernel_rfl) hk))
   have x2 : t.getD 2 undef = .bool true := hval 36 2 (by kernel_rfl)
   clear hval hbase hsz
   simp only [List.foldl_cons, List.foldl_nil, x2] at et
   rw [et]
   have hdf' : df = _ := hdf
   rw [hdf']
   simp only [List.setIfInBounds_toArray, List.set_cons_zero, List.set_cons_succ]
   clear et hdf hdf'
   have HN8_5 := Lib.hid (HN7_5.out.below hSt.2.2.2.1.out)
   have HN8_6 := Lib.hid (HN7_6.out.below hSt.2.2.2.1.out)
   have HN8_7 := Lib.hid (HN7_7.out.below hSt.2.2.2.1.out)
   have HN8_8 := Lib.hid (HN7_8.out.below hSt.2.2.2.1.out)
   have HN8_9 := Lib.hid (HN7_9.out.below hSt.2.2.2.1.out)
   have HN8_10 := Lib.hid (HN7_10.out.below hSt.2.2.2.1.out)
   have HN8_12 := Lib.hid (HN7_12.out.below hSt.2.2.2.1.out)
   have HN8_13 := Lib.hid (HN7_13.out.below hSt.2.2.2.1.out)
   have HBF := Lib.hid hSt.2.2.1.out
   clear hSt
   go_wp2
   go_ret
   exact ⟨rfl, HBF.out⟩
 ·have hyA : ((TA.length : Int) == 0) = false := by simp; exact hA0
  have HAB : Hid (¬ (TA = [] ∧ TB = [])) := Lib.hid (fun h => hA0 h.1)
  have HG0 : Hid (GG ≠ []) := Lib.hid (HGG.out.ne HFF.out HAB.out)
  obtain ⟨gg, HGD⟩ : ∃ gg, Hid (GG.length = gg + 1) := ⟨GG.length - 1, Lib.hid (by have := List.length_pos_iff.2 HG0.out; omega)⟩
  have hg8 : GG.length ≤ 8 := HPG.out.2
  have hglt : gg < GG.length := by have := HGD.out; omega
  have hgle : (gg : Int) < (GG.length : Int) := by omega
  have hyG : ((GG.length : Int) == 0) = false := by simp; exact HG0.out
  have hwg : IntKind.i64.wrap ((GG.length : Int) - 1) = (gg : Int) := (IntWalk.i64_in _ (by omega)).trans (by have := HGD.out; omega)
  have HGL : Hid (GG.getD gg 0 = 1) := Lib.hid (by
   have h1 := get_last HFF.out (HGG.out.mo.resolve_left HG0.out)
   rwa [show GG.length - 1 = gg by have := HGD.out; omega] at h1)
  obtain ⟨ZZ, HZZ⟩ : ∃ l, Hid (([] : List Nat) = l) := ⟨_, rfl⟩
  have hyZ : ((ZZ.length : Int) == 0) = true := by rw [← HZZ.out]; rfl
  have HPZ : Hid (PL F 0 ZZ) := Lib.hid (by rw [← HZZ.out]; exact ⟨Po.nil, Nat.le_refl _⟩)
  have hdv := (HGG.out.dv GG HPG.out.1).1 (dv_refl HFF.out HPG.out.1)
  obtain ⟨QA, HDA⟩ : ∃ Q, Hid (DM F TA GG Q ZZ) := (dm_exact HFF.out HPA.out.1 HPG.out.1 HG0.out hdv.1).elim fun Q h => ⟨Q, Lib.hid (by rw [← HZZ.out]; exact h)⟩
  obtain ⟨QB, HDB⟩ : ∃ Q, Hid (DM F TB GG Q ZZ) := (dm_exact HFF.out HPB.out.1 HPG.out.1 HG0.out hdv.2).elim fun Q h => ⟨Q, Lib.hid (by rw [← HZZ.out]; exact h)⟩
  clear hdv
  have HPQA : Hid (PL F 8 QA) := Lib.hid ⟨HDA.out.q, Nat.le_trans (dm_len HFF.out HPA.out.1 HPG.out.1 HG0.out HDA.out) HPA.out.2⟩
  have HPQB : Hid (PL F 8 QB) := Lib.hid ⟨HDB.out.q, Nat.le_trans (dm_len HFF.out HPB.out.1 HPG.out.1 HG0.out HDB.out) HPB.out.2⟩
  have HGS : Hid (IsGcd F TB TA GG) := Lib.hid (IsGcd.symm HFF.out HGG.out)
  have HGM : Hid (IsGcd F (mulP F TA CC) (mulP F TB CC) (mulP F GG CC)) := Lib.hid (HGG.out.mul HFF.out HPA.out.1 HPB.out.1 HPC.out.1 HC1.out)
  have HA0 := Lib.hid hA0
  clear hA0
  go_upto_region 8 with (fail)
  refine Go.Rg.region_seq (S := fun w' => SL W w3 gF F b cap (.int .u8 (q : Nat)) (.slice aA A.length cA) (.slice aB B.length cB) (.slice aC C.length cC) w') (R := fun w w' => Below w.heap.size w w') (φ := phi F b cap [.sl (TA), .eq (.int .i64 ((TA).length : Nat)), .eq (.bool false), .eq (.bool false), .any, .any, .any, .eq (.bool false)]) (phi_mono _) (by kernel_rfl) (by kernel_rfl) (by rfl) (HS7.out) ?st10 ?fi10
  case st10 =>
   refine ⟨mv fun a w hat => ⟨_, _, hat.b 5, (HN3_5.out.below hat.st.2.2.2.1.out)⟩, ?_⟩
   refine ⟨fun a w hat K hK => ?_, ?_⟩
   ·obtain ⟨a41, c41, e41, n41⟩ := (show (Kd.sl (TA)).ok F b cap (a.tmps[41]?.getD undef) w from hat.d 0 41)
    have hSt := hat.st
    rw [if_pos (by rfl)]
    go_simp
    exact hK.out _ _ hSt (Below.refl _ _) rfl
   refine ⟨fun a w hat K hK => ?_, ?_⟩
   ·have e42 : a.tmps[42]?.getD undef = .int .i64 ((TA).length : Nat) := hat.d 1 42
    have hSt := hat.st
    rw [if_pos (by rfl)]
    go_simp
    exact hK.out _ _ hSt (Below.refl _ _) rfl
   refine ⟨mv fun a w hat => hat.d 2 43, ?_⟩
   refine ⟨no 3 44 false, ?_⟩
   refine ⟨no 3 44 false, ?_⟩
   refine ⟨no 3 44 false, ?_⟩
   refine ⟨fun a w hat K hK => ?_, ?_⟩
   ·have e44 : a.tmps[44]?.getD undef = .bool false := hat.d 3 44
    have hSt := hat.st
    rw [if_pos (by rfl)]
    go_simp
    exact hK.out _ _ hSt (Below.refl _ _) rfl
   exact trivial
  intro a w4 hsz hdf hbase hSt hval
  obtain ⟨t, df⟩ := a
  have et := Go.Rg.tmps_of hsz [41, 42, 43, 44, 45, 46, 47, 48] (fun k hk => hbase k (Go.Rg.base_of (by kernel_rfl) hk))
  have x48 : t.getD 48 undef = .bool false := hval 7 48 (by kernel_rfl)
  clear hval hbase hsz
  simp only [List.foldl_cons, List.foldl_nil, x48] at et
  rw [et]
  have hdf' : df = _ := hdf
  rw [hdf']
  simp only [List.setIfInBounds_toArray, List.set_cons_zero, List.set_cons_succ]
  clear et hdf hdf'
  have HN4_5 := Lib.hid (HN3_5.out.below hSt.2.2.2.1.out)
  have HN4_6 := Lib.hid (HN3_6.out.below hSt.2.2.2.1.out)
  have HN4_7 := Lib.hid (HN3_7.out.below hSt.2.2.2.1.out)
  have HN4_8 := Lib.hid (HN3_8.out.below hSt.2.2.2.1.out)
  have HS8 := Lib.hid hSt.start
  clear hSt
  obtain ⟨bG, oG, hpG, HBG, HCL⟩ : ∃ bG oG, p8 = some ⟨bG, oG, none⟩ ∧ Hid (bG < w4.heap.size) ∧ Hid (w4.cell? ⟨bG, oG + gg, none⟩ = some (.int .i64 1)) := by
   have hgl := HGD.out
   rcases HN4_8.out with ⟨e, -⟩ | ⟨b', off', cap', e, g1, g2, g3⟩
   ·rw [e] at hgl; simp at hgl
   ·injection e with e1 e2 e3
    refine ⟨b', off', e1, Lib.hid g2, Lib.hid ?_⟩
    rw [g3 gg (by omega), HGL.out]; rfl
  subst hpG
  have HNG := HN4_8
  go_upto_region 10 with (fail)
  have HEQ10_18 : Hid (GG = GG) := Lib.hid (rfl)
  refine Go.Rg.region_seq (S := fun w' => SL W w4 gF F b cap (.int .u8 (q : Nat)) (.slice aA A.length cA) (.slice aB B.length cB) (.slice aC C.length cC) w') (R := fun w w' => Below w.heap.size w w') (φ := phi F b cap [.eq (.slice (some ⟨bG, oG, none⟩) GG.length q8), .eq (.int .i64 ((GG).length : Nat)), .eq (.bool false), .eq (.bool false), .eq (.slice (some ⟨bG, oG, none⟩) GG.length q8), .eq (.slice (some ⟨bG, oG, none⟩) GG.length q8), .eq (.int .i64 ((GG).length : Nat)), .eq (.int .i64 (gg : Nat)), .eq (.pointer (some ⟨bG, oG + gg, none⟩)), .eq (.int .i64 1), .eq (.bool false), .eq (.bool false), .eq (.bool false), .sl (GG), .eq (FV F b cap), .sl (TB), .sl (TA), .sl (GG), .eq (.bool true), .eq (.bool false), .eq (.bool false)]) (phi_mono _) (by kernel_rfl) (by kernel_rfl) (by rfl) (HS8.out) ?st11 ?fi11
  case st11 =>
   refine ⟨mv fun a w hat => hat.b 8, ?_⟩
   refine ⟨fun a w hat K hK => ?_, ?_⟩
   ·have e55 : a.tmps[55]?.getD undef = .slice (some ⟨bG, oG, none⟩) GG.length q8 := hat.d 0 55
    have hSt := hat.st
    rw [if_pos (by rfl)]
    go_simp
    exact hK.out _ _ hSt (Below.refl _ _) rfl
   refine ⟨fun a w hat K hK => ?_, ?_⟩
   ·have e56 : a.tmps[56]?.getD undef = .int .i64 ((GG).length : Nat) := hat.d 1 56
    have hSt := hat.st
    rw [if_pos (by rfl)]
    go_simp
    exact hK.out _ _ hSt (Below.refl _ _) rfl
   refine ⟨mv fun a w hat => hat.d 2 57, ?_⟩
   refine ⟨mvg 3 58 false fun a w hat => hat.b 8, ?_⟩
   refine ⟨mvg 3 58 false fun a w hat => hat.b 8, ?_⟩
   refine ⟨fun a w hat K hK => ?_, ?_⟩
   ·have e60 : a.tmps[60]?.getD undef = .slice (some ⟨bG, oG, none⟩) GG.length q8 := hat.d 5 60
    have hSt := hat.st
    rw [if_pos (wy hat 3 58 false)]
    go_simp
    exact hK.out _ _ hSt (Below.refl _ _) rfl
   refine ⟨fun a w hat K hK => ?_, ?_⟩
   ·have e61 : a.tmps[61]?.getD undef = .int .i64 ((GG).length : Nat) := hat.d 6 61
    have hSt := hat.st
    rw [if_pos (wy hat 3 58 false)]
    go_simp
    exact hK.out _ _ hSt (Below.refl _ _) rfl
   refine ⟨fun a w hat K hK => ?_, ?_⟩
   ·have e59 : a.tmps[59]?.getD undef = .slice (some ⟨bG, oG, none⟩) GG.length q8 := hat.d 4 59
    have e62 : a.tmps[62]?.getD undef = .int .i64 (gg : Nat) := hat.d 7 62
    have hSt := hat.st
    rw [if_pos (wy hat 3 58 false)]
    go_simp
    exact hK.out _ _ hSt (Below.refl _ _) rfl
   refine ⟨fun a w hat K hK => ?_, ?_⟩
   ·have e63 : a.tmps[63]?.getD undef = .pointer (some ⟨bG, oG + gg, none⟩) := hat.d 8 63
    have hSt := hat.st
    rw [if_pos (wy hat 3 58 false)]
    have hc := (hSt.2.2.2.1.out.cell (p := ⟨bG, oG + gg, none⟩) HBG.out).trans HCL.out
    go_simp
    exact hK.out _ _ hSt (Below.refl _ _) rfl
   refine ⟨fun a w hat K hK => ?_, ?_⟩
   ·have e64 : a.tmps[64]?.getD undef = .int .i64 1 := hat.d 9 64
    have hSt := hat.st
    rw [if_pos (wy hat 3 58 false)]
    go_simp
    exact hK.out _ _ hSt (Below.refl _ _) rfl
   refine ⟨fun a w hat K hK => ?_, ?_⟩
   ·have e58 : a.tmps[58]?.getD undef = .bool false := hat.d 3 58
    have e65 : a.tmps[65]?.getD undef = .bool false := hat.d 10 65
    have hSt := hat.st
    rw [if_pos (by rfl)]
    go_simp
    exact hK.out _ _ hSt (Below.refl _ _) rfl
   refine ⟨mv fun a w hat => hat.d 11 66, ?_⟩
   refine ⟨fun a w hat K hK => ?_, ?_⟩
   ·have e8 : a.tmps[8]?.getD undef = .slice (some ⟨bG, oG, none⟩) GG.length q8 := hat.b 8
    have hSt := hat.st
    rw [if_pos (wy hat 12 67 false)]
    go_simp
    exact hK.out _ _ hSt (Below.refl _ _) ⟨_, _, rfl, HNG.out.below hSt.2.2.2.1.out⟩
   refine ⟨fun a w hat K hK => ?_, ?_⟩
   ·have e4 : a.tmps[4]?.getD undef = .pointer (some ⟨gF, 0, none⟩) := hat.b 4
    have hSt := hat.st
    rw [if_pos (wy hat 12 67 false)]
    go_simp
    exact hK.out _ _ hSt (Below.refl _ _) rfl
   refine ⟨mvg 12 67 false fun a w hat => ⟨_, _, hat.b 6, (HN4_6.out.below hat.st.2.2.2.1.out)⟩, ?_⟩
   refine ⟨mvg 12 67 false fun a w hat => ⟨_, _, hat.b 5, (HN4_5.out.below hat.st.2.2.2.1.out)⟩, ?_⟩
   refine ⟨fun a w hat K hK => ?_, ?_⟩
   ·have e69 : a.tmps[69]?.getD undef = FV F b cap := hat.d 14 69
    obtain ⟨a70, c70, e70, n70⟩ := (show (Kd.sl (TB)).ok F b cap (a.tmps[70]?.getD undef) w from hat.d 15 70)
    obtain ⟨a71, c71, e71, n71⟩ := (show (Kd.sl (TA)).ok F b cap (a.tmps[71]?.getD undef) w from hat.d 16 71)
    have hSt := hat.st
    rw [if_pos (wy hat 12 67 false)]
    go_simp
    go_at_call 25
    with_reducible refine (gcd_po (hSt.2.2.2.2.1.out.ops) HPB.out HPA.out HGS.out (by decide) (by decide) n70 n71).mono ?_
    rintro z' v' ⟨a', c', rfl, hn', hb⟩
    exact hK.out _ _ (SL.keep hSt hb) hb ⟨a', c', rfl, hn'⟩
   refine ⟨fun a w hat K hK => ?_, ?_⟩
   ·obtain ⟨a68, c68, e68, n68⟩ := (show (Kd.sl (GG)).ok F b cap (a.tmps[68]?.getD undef) w from hat.d 13 68)
    obtain ⟨a72, c72, e72, n72⟩ := (show (Kd.sl (GG)).ok F b cap (a.tmps[72]?.getD undef) w from hat.d 17 72)
    have hSt := hat.st
    rw [if_pos (wy hat 12 67 false)]
    go_simp
    go_at_call 14
    with_reducible refine (ints_po HPG.out HPG.out HEQ10_18.out (by decide) (by decide) n68 n72).mono ?_
    rintro z' v' ⟨rfl, hb⟩
    exact hK.out _ _ (SL.keep hSt hb) hb rfl
   refine ⟨fun a w hat K hK => ?_, ?_⟩
   ·have e73 : a.tmps[73]?.getD undef = .bool true := hat.d 18 73
    have hSt := hat.st
    rw [if_pos (wy hat 12 67 false)]
    go_simp
    exact hK.out _ _ hSt (Below.refl _ _) rfl
   refine ⟨fun a w hat K hK => ?_, ?_⟩
   ·have e67 : a.tmps[67]?.getD undef = .bool false := hat.d 12 67
    have e74 : a.tmps[74]?.getD undef = .bool false := hat.d 19 74
    have hSt := hat.st
    rw [if_pos (by rfl)]
    go_simp
    exact hK.out _ _ hSt (Below.refl _ _) rfl
   exact trivial
  intro a w5 hsz hdf hbase hSt hval
  obtain ⟨t, df⟩ := a
  have et := Go.Rg.tmps_of hsz [55, 56, 57, 58, 59, 60, 61, 62, 63, 64, 65, 66, 67, 68, 69, 70, 71, 72, 73, 74, 75] (fun k hk => hbase k (Go.Rg.base_of (by kernel_rfl) hk))
  have x75 : t.getD 75 undef = .bool false := hval 20 75 (by kernel_rfl)
  clear hval hbase hsz
  simp only [List.foldl_cons, List.foldl_nil, x75] at et
  rw [et]
  have hdf' : df = _ := hdf
  rw [hdf']
  simp only [List.setIfInBounds_toArray, List.set_cons_zero, List.set_cons_succ]
  clear et hdf hdf'
  have HN5_5 := Lib.hid (HN4_5.out.below hSt.2.2.2.1.out)
  have HN5_6 := Lib.hid (HN4_6.out.below hSt.2.2.2.1.out)
  have HN5_7 := Lib.hid (HN4_7.out.below hSt.2.2.2.1.out)
  have HNH_8 := Lib.hid (HNG.out.below hSt.2.2.2.1.out)
  have HS10 := Lib.hid hSt.start
  clear hSt
  go_upto_region 12 with (fail)
  refine Go.Rg.region_seq (S := fun w' => SL W w5 gF F b cap (.int .u8 (q : Nat)) (.slice aA A.length cA) (.slice aB B.length cB) (.slice aC C.length cC) w') (R := fun w w' => Below w.heap.size w w') (φ := phi F b cap [.eq (FV F b cap), .sl (TA), .sl (GG), .dm (QA) (ZZ), .dm (QA) (ZZ), .sl (QA), .sl (ZZ), .eq (.int .i64 0), .sl (QA), .sl (ZZ), .eq (.int .i64 0)]) (phi_mono _) (by kernel_rfl) (by kernel_rfl) (by rfl) (HS10.out) ?st12 ?fi12
  case st12 =>
   refine ⟨fun a w hat K hK => ?_, ?_⟩
   ·have e4 : a.tmps[4]?.getD undef = .pointer (some ⟨gF, 0, none⟩) := hat.b 4
    have hSt := hat.st
    rw [if_pos (by rfl)]
    go_simp
    exact hK.out _ _ hSt (Below.refl _ _) rfl
   refine ⟨mv fun a w hat => ⟨_, _, hat.b 5, (HN5_5.out.below hat.st.2.2.2.1.out)⟩, ?_⟩
   refine ⟨mv fun a w hat => ⟨_, _, hat.b 8, (HNH_8.out.below hat.st.2.2.2.1.out)⟩, ?_⟩
   refine ⟨fun a w hat K hK => ?_, ?_⟩
   ·have e77 : a.tmps[77]?.getD undef = FV F b cap := hat.d 0 77
    obtain ⟨a78, c78, e78, n78⟩ := (show (Kd.sl (TA)).ok F b cap (a.tmps[78]?.getD undef) w from hat.d 1 78)
    obtain ⟨a79, c79, e79, n79⟩ := (show (Kd.sl (GG)).ok F b cap (a.tmps[79]?.getD undef) w from hat.d 2 79)
    have hSt := hat.st
    rw [if_pos (by rfl)]
    go_simp
    go_at_call 17
    with_reducible refine (dm_po (hSt.2.2.2.2.1.out.ops) HPA.out HPG.out HG0.out HDA.out (by decide) (by decide) n78 n79).mono ?_
    rintro z' v' ⟨a', c', a2', c2', rfl, hn', hn2', hb⟩
    exact hK.out _ _ (SL.keep hSt hb) hb ⟨a', c', a2', c2', rfl, hn', hn2'⟩
   refine ⟨mv fun a w hat => hat.d 3 80, ?_⟩
   refine ⟨fun a w hat K hK => ?_, ?_⟩
   ·obtain ⟨a76, c76, a'76, c'76, e76, n76, n'76⟩ := (show (Kd.dm (QA) (ZZ)).ok F b cap (a.tmps[76]?.getD undef) w from hat.d 4 76)
    have hSt := hat.st
    rw [if_pos (by rfl)]
    go_simp
    exact hK.out _ _ hSt (Below.refl _ _) ⟨a76, c76, rfl, n76⟩
   refine ⟨fun a w hat K hK => ?_, ?_⟩
   ·obtain ⟨a76, c76, a'76, c'76, e76, n76, n'76⟩ := (show (Kd.dm (QA) (ZZ)).ok F b cap (a.tmps[76]?.getD undef) w from hat.d 4 76)
    have hSt := hat.st
    rw [if_pos (by rfl)]
    go_simp
    exact hK.out _ _ hSt (Below.refl _ _) ⟨a'76, c'76, rfl, n'76⟩
   refine ⟨fun a w hat K hK => ?_, ?_⟩
   ·obtain ⟨a76, c76, a'76, c'76, e76, n76, n'76⟩ := (show (Kd.dm (QA) (ZZ)).ok F b cap (a.tmps[76]?.getD undef) w from hat.d 4 76)
    have hSt := hat.st
    rw [if_pos (by rfl)]
    go_simp
    exact hK.out _ _ hSt (Below.refl _ _) rfl
   refine ⟨mv fun a w hat => hat.d 5 81, ?_⟩
   refine ⟨mv fun a w hat => hat.d 6 82, ?_⟩
   refine ⟨mv fun a w hat => hat.d 7 83, ?_⟩
   exact trivial
  intro a w6 hsz hdf hbase hSt hval
  obtain ⟨t, df⟩ := a
  have et := Go.Rg.tmps_of hsz [77, 78, 79, 80, 76, 81, 82, 83, 9, 10, 11] (fun k hk => hbase k (Go.Rg.base_of (by kernel_rfl) hk))
  obtain ⟨p9, q9, x9, m9⟩ := (show (Kd.sl (QA)).ok F b cap (t.getD 9 undef) w6 from hval 8 9 (by kernel_rfl))
  obtain ⟨p10, q10, x10, m10⟩ := (show (Kd.sl (ZZ)).ok F b cap (t.getD 10 undef) w6 from hval 9 10 (by kernel_rfl))
  have x11 : t.getD 11 undef = .int .i64 0 := hval 10 11 (by kernel_rfl)
  clear hval hbase hsz
  simp only [List.foldl_cons, List.foldl_nil, x9, x10, x11] at et
  rw [et]
  have hdf' : df = _ := hdf
  rw [hdf']
  simp only [List.setIfInBounds_toArray, List.set_cons_zero, List.set_cons_succ]
  clear et hdf hdf'
  have HN6_5 := Lib.hid (HN5_5.out.below hSt.2.2.2.1.out)
  have HN6_6 := Lib.hid (HN5_6.out.below hSt.2.2.2.1.out)
  have HN6_7 := Lib.hid (HN5_7.out.below hSt.2.2.2.1.out)
  have HN6_8 := Lib.hid (HNH_8.out.below hSt.2.2.2.1.out)
  have HN6_9 := Lib.hid m9
  have HN6_10 := Lib.hid m10
  clear m9 m10
  have HS12 := Lib.hid hSt.start
  clear hSt
  go_upto_region 13 with (fail)
  refine Go.Rg.region_seq (S := fun w' => SL W w6 gF F b cap (.int .u8 (q : Nat)) (.slice aA A.length cA) (.slice aB B.length cB) (.slice aC C.length cC) w') (R := fun w w' => Below w.heap.size w w') (φ := phi F b cap [.eq (FV F b cap), .sl (TB), .sl (GG), .dm (QB) (ZZ), .dm (QB) (ZZ), .sl (QB), .sl (ZZ), .eq (.int .i64 0), .sl (QB), .sl (ZZ), .eq (.int .i64 0)]) (phi_mono _) (by kernel_rfl) (by kernel_rfl) (by rfl) (HS12.out) ?st13 ?fi13
  case st13 =>
   refine ⟨fun a w hat K hK => ?_, ?_⟩
   ·have e4 : a.tmps[4]?.getD undef = .pointer (some ⟨gF, 0, none⟩) := hat.b 4
    have hSt := hat.st
    rw [if_pos (by rfl)]
    go_simp
    exact hK.out _ _ hSt (Below.refl _ _) rfl
   refine ⟨mv fun a w hat => ⟨_, _, hat.b 6, (HN6_6.out.below hat.st.2.2.2.1.out)⟩, ?_⟩
   refine ⟨mv fun a w hat => ⟨_, _, hat.b 8, (HN6_8.out.below hat.st.2.2.2.1.out)⟩, ?_⟩
   refine ⟨fun a w hat K hK => ?_, ?_⟩
   ·have e85 : a.tmps[85]?.getD undef = FV F b cap := hat.d 0 85
    obtain ⟨a86, c86, e86, n86⟩ := (show (Kd.sl (TB)).ok F b cap (a.tmps[86]?.getD undef) w from hat.d 1 86)
    obtain ⟨a87, c87, e87, n87⟩ := (show (Kd.sl (GG)).ok F b cap (a.tmps[87]?.getD undef) w from hat.d 2 87)
    have hSt := hat.st
    rw [if_pos (by rfl)]
    go_simp
    go_at_call 17
    with_reducible refine (dm_po (hSt.2.2.2.2.1.out.ops) HPB.out HPG.out HG0.out HDB.out (by decide) (by decide) n86 n87).mono ?_
    rintro z' v' ⟨a', c', a2', c2', rfl, hn', hn2', hb⟩
    exact hK.out _ _ (SL.keep hSt hb) hb ⟨a', c', a2', c2', rfl, hn', hn2'⟩
   refine ⟨mv fun a w hat => hat.d 3 88, ?_⟩
   refine ⟨fun a w hat K hK => ?_, ?_⟩
   ·obtain ⟨a84, c84, a'84, c'84, e84, n84, n'84⟩ := (show (Kd.dm (QB) (ZZ)).ok F b cap (a.tmps[84]?.getD undef) w from hat.d 4 84)
    have hSt := hat.st
    rw [if_pos (by rfl)]
    go_simp
    exact hK.out _ _ hSt (Below.refl _ _) ⟨a84, c84, rfl, n84⟩
   refine ⟨fun a w hat K hK => ?_, ?_⟩
   ·obtain ⟨a84, c84, a'84, c'84, e84, n84, n'84⟩ := (show (Kd.dm (QB) (ZZ)).ok F b cap (a.tmps[84]?.getD undef) w from hat.d 4 84)
    have hSt := hat.st
    rw [if_pos (by rfl)]
    go_simp
    exact hK.out _ _ hSt (Below.refl _ _) ⟨a'84, c'84, rfl, n'84⟩
   refine ⟨fun a w hat K hK => ?_, ?_⟩
   ·obtain ⟨a84, c84, a'84, c'84, e84, n84, n'84⟩ := (show (Kd.dm (QB) (ZZ)).ok F b cap (a.tmps[84]?.getD undef) w from hat.d 4 84)
    have hSt := hat.st
    rw [if_pos (by rfl)]
    go_simp
    exact hK.out _ _ hSt (Below.refl _ _) rfl
   refine ⟨mv fun a w hat => hat.d 5 89, ?_⟩
   refine ⟨mv fun a w hat => hat.d 6 90, ?_⟩
   refine ⟨mv fun a w hat => hat.d 7 91, ?_⟩
   exact trivial
  intro a w7 hsz hdf hbase hSt hval
  obtain ⟨t, df⟩ := a
  have et := Go.Rg.tmps_of hsz [85, 86, 87, 88, 84, 89, 90, 91, 12, 13, 14] (fun k hk => hbase k (Go.Rg.base_of (by kernel_rfl) hk))
  obtain ⟨p12, q12, x12, m12⟩ := (show (Kd.sl (QB)).ok F b cap (t.getD 12 undef) w7 from hval 8 12 (by kernel_rfl))
  obtain ⟨p13, q13, x13, m13⟩ := (show (Kd.sl (ZZ)).ok F b cap (t.getD 13 undef) w7 from hval 9 13 (by kernel_rfl))
  have x14 : t.getD 14 undef = .int .i64 0 := hval 10 14 (by kernel_rfl)
  clear hval hbase hsz
  simp only [List.foldl_cons, List.foldl_nil, x12, x13, x14] at et
  rw [et]
  have hdf' : df = _ := hdf
  rw [hdf']
  simp only [List.setIfInBounds_toArray, List.set_cons_zero, List.set_cons_succ]
  clear et hdf hdf'
  have HN7_5 := Lib.hid (HN6_5.out.below hSt.2.2.2.1.out)
  have HN7_6 := Lib.hid (HN6_6.out.below hSt.2.2.2.1.out)
  have HN7_7 := Lib.hid (HN6_7.out.below hSt.2.2.2.1.out)
  have HN7_8 := Lib.hid (HN6_8.out.below hSt.2.2.2.1.out)
  have HN7_9 := Lib.hid (HN6_9.out.below hSt.2.2.2.1.out)
  have HN7_10 := Lib.hid (HN6_10.out.below hSt.2.2.2.1.out)
  have HN7_12 := Lib.hid m12
  have HN7_13 := Lib.hid m13
  clear m12 m13
  have HS13 := Lib.hid hSt.start
  clear hSt
  go_upto_region 14 with (fail)
  have HP_5 : Hid (PL F 16 (mulP F TA CC)) := Lib.hid (pl_mul HFF.out HPA.out HPC.out (by decide) )
  have HP_6 : Hid (PL F 16 (mulP F TB CC)) := Lib.hid (pl_mul HFF.out HPB.out HPC.out (by decide) )
  have HP_4 : Hid (PL F 16 (mulP F GG CC)) := Lib.hid (pl_mul HFF.out HPG.out HPC.out (by decide))
  have HEQ14_31 : Hid (mulP F GG CC = mulP F GG CC) := Lib.hid (rfl)
  refine Go.Rg.region_by (S := fun w' => SL W w7 gF F b cap (.int .u8 (q : Nat)) (.slice aA A.length cA) (.slice aB B.length cB) (.slice aC C.length cC) w') (R := fun w w' => Below w.heap.size w w') (φ := phi F b cap [.eq (.int .i64 0), .eq (.bool true), .eq (.bool true), .eq (.int .i64 0), .eq (.bool true), .eq (.bool true), .eq (.bool true), .sl (ZZ), .eq (.int .i64 ((ZZ).length : Nat)), .eq (.bool true), .eq (.bool true), .eq (.bool true), .sl (ZZ), .eq (.int .i64 ((ZZ).length : Nat)), .eq (.bool true), .eq (.bool true), .eq (.bool true), .eq (FV F b cap), .eq (FV F b cap), .sl (TA), .sl (CC), .sl (mulP F TA CC), .eq (FV F b cap), .sl (TB), .sl (CC), .sl (mulP F TB CC), .sl (mulP F GG CC), .eq (FV F b cap), .sl (GG), .sl (CC), .sl (mulP F GG CC), .eq (.bool true), .eq (.bool true), .eq (.bool true), .eq (.bool true), .eq (.bool true), .eq (.bool true)]) (by kernel_rfl) (phi_mono _) (by kernel_rfl) (by kernel_rfl) (by rfl) (HS13.out.drew) (Go.Rg.steps_ok ?st14) ?fi14
  case st14 =>
   refine ⟨mv fun a w hat => hat.b 11, ?_⟩
   refine ⟨fun a w hat K hK => ?_, ?_⟩
   ·have e92 : a.tmps[92]?.getD undef = .int .i64 0 := hat.d 0 92
    have hSt := hat.st
    rw [if_pos (by rfl)]
    go_simp
    exact hK.out _ _ hSt (Below.refl _ _) rfl
   refine ⟨mv fun a w hat => hat.d 1 93, ?_⟩
   refine ⟨mvg 2 94 true fun a w hat => hat.b 14, ?_⟩
   refine ⟨fun a w hat K hK => ?_, ?_⟩
   ·have e95 : a.tmps[95]?.getD undef = .int .i64 0 := hat.d 3 95
    have hSt := hat.st
    rw [if_pos (wy hat 2 94 true)]
    go_simp
    exact hK.out _ _ hSt (Below.refl _ _) rfl
   refine ⟨fun a w hat K hK => ?_, ?_⟩
   ·have e94 : a.tmps[94]?.getD undef = .bool true := hat.d 2 94
    have e96 : a.tmps[96]?.getD undef = .bool true := hat.d 4 96
    have hSt := hat.st
    rw [if_pos (by rfl)]
    go_simp
    exact hK.out _ _ hSt (Below.refl _ _) rfl
   refine ⟨mv fun a w hat => hat.d 5 97, ?_⟩
   refine ⟨mvg 6 98 true fun a w hat => ⟨_, _, hat.b 10, (HN7_10.out.below hat.st.2.2.2.1.out)⟩, ?_⟩
   refine ⟨fun a w hat K hK => ?_, ?_⟩
   ·obtain ⟨a99, c99, e99, n99⟩ := (show (Kd.sl (ZZ)).ok F b cap (a.tmps[99]?.getD undef) w from hat.d 7 99)
    have hSt := hat.st
    rw [if_pos (wy hat 6 98 true)]
    go_simp
    exact hK.out _ _ hSt (Below.refl _ _) rfl
   refine ⟨fun a w hat K hK => ?_, ?_⟩
   ·have e100 : a.tmps[100]?.getD undef = .int .i64 ((ZZ).length : Nat) := hat.d 8 100
    have hSt := hat.st
    rw [if_pos (wy hat 6 98 true)]
    go_simp
    exact hK.out _ _ hSt (Below.refl _ _) rfl
   refine ⟨fun a w hat K hK => ?_, ?_⟩
   ·have e98 : a.tmps[98]?.getD undef = .bool true := hat.d 6 98
    have e101 : a.tmps[101]?.getD undef = .bool true := hat.d 9 101
    have hSt := hat.st
    rw [if_pos (by rfl)]
    go_simp
    exact hK.out _ _ hSt (Below.refl _ _) rfl
   refine ⟨mv fun a w hat => hat.d 10 102, ?_⟩
   refine ⟨mvg 11 103 true fun a w hat => ⟨_, _, hat.b 13, (HN7_13.out.below hat.st.2.2.2.1.out)⟩, ?_⟩
   refine ⟨fun a w hat K hK => ?_, ?_⟩
   ·obtain ⟨a104, c104, e104, n104⟩ := (show (Kd.sl (ZZ)).ok F b cap (a.tmps[104]?.getD undef) w from hat.d 12 104)
    have hSt := hat.st
    rw [if_pos (wy hat 11 103 true)]
    go_simp
    exact hK.out _ _ hSt (Below.refl _ _) rfl
   refine ⟨fun a w hat K hK => ?_, ?_⟩
   ·have e105 : a.tmps[105]?.getD undef = .int .i64 ((ZZ).length : Nat) := hat.d 13 105
    have hSt := hat.st
    rw [if_pos (wy hat 11 103 true)]
    go_simp
    exact hK.out _ _ hSt (Below.refl _ _) rfl
   refine ⟨fun a w hat K hK => ?_, ?_⟩
   ·have e103 : a.tmps[103]?.getD undef = .bool true := hat.d 11 103
    have e106 : a.tmps[106]?.getD undef = .bool true := hat.d 14 106
    have hSt := hat.st
    rw [if_pos (by rfl)]
    go_simp
    exact hK.out _ _ hSt (Below.refl _ _) rfl
   refine ⟨mv fun a w hat => hat.d 15 107, ?_⟩
   refine ⟨fun a w hat K hK => ?_, ?_⟩
   ·have e4 : a.tmps[4]?.getD undef = .pointer (some ⟨gF, 0, none⟩) := hat.b 4
    have hSt := hat.st
    rw [if_pos (wy hat 16 108 true)]
    go_simp
    exact hK.out _ _ hSt (Below.refl _ _) rfl
   refine ⟨fun a w hat K hK => ?_, ?_⟩
   ·have e4 : a.tmps[4]?.getD undef = .pointer (some ⟨gF, 0, none⟩) := hat.b 4
    have hSt := hat.st
    rw [if_pos (wy hat 16 108 true)]
    go_simp
    exact hK.out _ _ hSt (Below.refl _ _) rfl
   refine ⟨mvg 16 108 true fun a w hat => ⟨_, _, hat.b 5, (HN7_5.out.below hat.st.2.2.2.1.out)⟩, ?_⟩
   refine ⟨mvg 16 108 true fun a w hat => ⟨_, _, hat.b 7, (HN7_7.out.below hat.st.2.2.2.1.out)⟩, ?_⟩
   refine ⟨fun a w hat K hK => ?_, ?_⟩
   ·have e110 : a.tmps[110]?.getD undef = FV F b cap := hat.d 18 110
    obtain ⟨a111, c111, e111, n111⟩ := (show (Kd.sl (TA)).ok F b cap (a.tmps[111]?.getD undef) w from hat.d 19 111)
    obtain ⟨a112, c112, e112, n112⟩ := (show (Kd.sl (CC)).ok F b cap (a.tmps[112]?.getD undef) w from hat.d 20 112)
    have hSt := hat.st
    rw [if_pos (wy hat 16 108 true)]
    go_simp
    go_at_call 23
    with_reducible refine (pmul_po (hSt.2.2.2.2.1.out.ops) HPA.out HPC.out (by decide) (by decide) n111 n112).mono ?_
    rintro z' v' ⟨a', c', rfl, hn', hb⟩
    exact hK.out _ _ (SL.keep hSt hb) hb ⟨a', c', rfl, hn'⟩
   refine ⟨fun a w hat K hK => ?_, ?_⟩
   ·have e4 : a.tmps[4]?.getD undef = .pointer (some ⟨gF, 0, none⟩) := hat.b 4
    have hSt := hat.st
    rw [if_pos (wy hat 16 108 true)]
    go_simp
    exact hK.out _ _ hSt (Below.refl _ _) rfl
   refine ⟨mvg 16 108 true fun a w hat => ⟨_, _, hat.b 6, (HN7_6.out.below hat.st.2.2.2.1.out)⟩, ?_⟩
   refine ⟨mvg 16 108 true fun a w hat => ⟨_, _, hat.b 7, (HN7_7.out.below hat.st.2.2.2.1.out)⟩, ?_⟩
   refine ⟨fun a w hat K hK => ?_, ?_⟩
   ·have e114 : a.tmps[114]?.getD undef = FV F b cap := hat.d 22 114
    obtain ⟨a115, c115, e115, n115⟩ := (show (Kd.sl (TB)).ok F b cap (a.tmps[115]?.getD undef) w from hat.d 23 115)
    obtain ⟨a116, c116, e116, n116⟩ := (show (Kd.sl (CC)).ok F b cap (a.tmps[116]?.getD undef) w from hat.d 24 116)
    have hSt := hat.st
    rw [if_pos (wy hat 16 108 true)]
    go_simp
    go_at_call 23
    with_reducible refine (pmul_po (hSt.2.2.2.2.1.out.ops) HPB.out HPC.out (by decide) (by decide) n115 n116).mono ?_
    rintro z' v' ⟨a', c', rfl, hn', hb⟩
    exact hK.out _ _ (SL.keep hSt hb) hb ⟨a', c', rfl, hn'⟩
   refine ⟨fun a w hat K hK => ?_, ?_⟩
   ·have e109 : a.tmps[109]?.getD undef = FV F b cap := hat.d 17 109
    obtain ⟨a113, c113, e113, n113⟩ := (show (Kd.sl (mulP F TA CC)).ok F b cap (a.tmps[113]?.getD undef) w from hat.d 21 113)
    obtain ⟨a117, c117, e117, n117⟩ := (show (Kd.sl (mulP F TB CC)).ok F b cap (a.tmps[117]?.getD undef) w from hat.d 25 117)
    have hSt := hat.st
    rw [if_pos (wy hat 16 108 true)]
    go_simp
    go_at_call 25
    with_reducible refine (gcd_po (hSt.2.2.2.2.1.out.ops) HP_5.out HP_6.out HGM.out (by decide) (by decide) n113 n117).mono ?_
    rintro z' v' ⟨a', c', rfl, hn', hb⟩
    exact hK.out _ _ (SL.keep hSt hb) hb ⟨a', c', rfl, hn'⟩
   refine ⟨fun a w hat K hK => ?_, ?_⟩
   ·have e4 : a.tmps[4]?.getD undef = .pointer (some ⟨gF, 0, none⟩) := hat.b 4
    have hSt := hat.st
    rw [if_pos (wy hat 16 108 true)]
    go_simp
    exact hK.out _ _ hSt (Below.refl _ _) rfl
   refine ⟨mvg 16 108 true fun a w hat => ⟨_, _, hat.b 8, (HN7_8.out.below hat.st.2.2.2.1.out)⟩, ?_⟩
   refine ⟨mvg 16 108 true fun a w hat => ⟨_, _, hat.b 7, (HN7_7.out.below hat.st.2.2.2.1.out)⟩, ?_⟩
   refine ⟨fun a w hat K hK => ?_, ?_⟩
   ·have e119 : a.tmps[119]?.getD undef = FV F b cap := hat.d 27 119
    obtain ⟨a120, c120, e120, n120⟩ := (show (Kd.sl (GG)).ok F b cap (a.tmps[120]?.getD undef) w from hat.d 28 120)
    obtain ⟨a121, c121, e121, n121⟩ := (show (Kd.sl (CC)).ok F b cap (a.tmps[121]?.getD undef) w from hat.d 29 121)
    have hSt := hat.st
    rw [if_pos (wy hat 16 108 true)]
    go_simp
    go_at_call 23
    with_reducible refine (pmul_po (hSt.2.2.2.2.1.out.ops) HPG.out HPC.out (by decide) (by decide) n120 n121).mono ?_
    rintro z' v' ⟨a', c', rfl, hn', hb⟩
    exact hK.out _ _ (SL.keep hSt hb) hb ⟨a', c', rfl, hn'⟩
   refine ⟨fun a w hat K hK => ?_, ?_⟩
   ·obtain ⟨a118, c118, e118, n118⟩ := (show (Kd.sl (mulP F GG CC)).ok F b cap (a.tmps[118]?.getD undef) w from hat.d 26 118)
    obtain ⟨a122, c122, e122, n122⟩ := (show (Kd.sl (mulP F GG CC)).ok F b cap (a.tmps[122]?.getD undef) w from hat.d 30 122)
    have hSt := hat.st
    rw [if_pos (wy hat 16 108 true)]
    go_simp
    go_at_call 14
    with_reducible refine (ints_po HP_4.out HP_4.out HEQ14_31.out (by decide) (by decide) n118 n122).mono ?_
    rintro z' v' ⟨rfl, hb⟩
    exact hK.out _ _ (SL.keep hSt hb) hb rfl
   refine ⟨fun a w hat K hK => ?_, ?_⟩
   ·have e108 : a.tmps[108]?.getD undef = .bool true := hat.d 16 108
    have e123 : a.tmps[123]?.getD undef = .bool true := hat.d 31 123
    have hSt := hat.st
    rw [if_pos (by rfl)]
    go_simp
    exact hK.out _ _ hSt (Below.refl _ _) rfl
   refine ⟨mv fun a w hat => hat.d 32 124, ?_⟩
   refine ⟨mvg 33 125 true fun a w hat => hat.b 3, ?_⟩
   refine ⟨fun a w hat K hK => ?_, ?_⟩
   ·have e125 : a.tmps[125]?.getD undef = .bool true := hat.d 33 125
    have e126 : a.tmps[126]?.getD undef = .bool true := hat.d 34 126
    have hSt := hat.st
    rw [if_pos (by rfl)]
    go_simp
    exact hK.out _ _ hSt (Below.refl _ _) rfl
   refine ⟨mv fun a w hat => hat.d 35 127, ?_⟩
   exact trivial
  intro a w8 hsz hdf hbase hSt hval
  obtain ⟨t, df⟩ := a
  have et := Go.Rg.tmps_of hsz [92, 93, 94, 95, 96, 97, 98, 99, 100, 101, 102, 103, 104, 105, 106, 107, 108, 109, 110, 111, 112, 113, 114, 115, 116, 117, 118, 119, 120, 121, 122, 123, 124, 125, 126, 127, 2] (fun k hk => hbase k (Go.Rg.base_of (by kernel_rfl) hk))
  have x2 : t.getD 2 undef = .bool true := hval 36 2 (by kernel_rfl)
  clear hval hbase hsz
  simp only [List.foldl_cons, List.foldl_nil, x2] at et
  rw [et]
  have hdf' : df = _ := hdf
  rw [hdf']
  simp only [List.setIfInBounds_toArray, List.set_cons_zero, List.set_cons_succ]
  clear et hdf hdf'
  have HN8_5 := Lib.hid (HN7_5.out.below hSt.2.2.2.1.out)
  have HN8_6 := Lib.hid (HN7_6.out.below hSt.2.2.2.1.out)
  have HN8_7 := Lib.hid (HN7_7.out.below hSt.2.2.2.1.out)
  have HN8_8 := Lib.hid (HN7_8.out.below hSt.2.2.2.1.out)
  have HN8_9 := Lib.hid (HN7_9.out.below hSt.2.2.2.1.out)
  have HN8_10 := Lib.hid (HN7_10.out.below hSt.2.2.2.1.out)
  have HN8_12 := Lib.hid (HN7_12.out.below hSt.2.2.2.1.out)
  have HN8_13 := Lib.hid (HN7_13.out.below hSt.2.2.2.1.out)
  have HBF := Lib.hid hSt.2.2.1.out
  clear hSt
  go_wp2
  go_ret
  exact ⟨rfl, HBF.out⟩
end Go.Proofs.Ytllecfhfhcmpaaa
