/- PolyRoots: the walk. -/
import Derived.Test.YtllecfhfhcmpaaaLj
import Derived.Deep.OwnRows
namespace Go.Proofs.Ytllecfhfhcmpaaa
open Go.RowKit Go.Fl Go.Rg
set_option maxRecDepth 100000
set_option linter.unusedVariables false
set_option linter.unusedSimpArgs false
set_option linter.unusedSectionVars false

theorem info4 : (Try.prog.info? 4).map (fun i => (i.zero, i.size, i.bytes)) = some (some (.bool false), 1, 1) := by kernel_rfl
set_option maxHeartbeats 25600000 in
theorem roots_law {q y : Nat} {A B C : List Nat} {aA aB aC : Option Addr} {cA cB cC : Nat} {W : World} (hq : q ≤ 255) (hy : y ≤ 255) (hA : By A) (hB : By B) (hC : By C) (lA : A.length ≤ maxLen) (lB : B.length ≤ maxLen) (lC : C.length ≤ maxLen)
  (na : N8 A W (.slice aA A.length cA)) (nb : N8 B W (.slice aB B.length cB)) (nc : N8 C W (.slice aC C.length cC)) :
  Calls Try.prog 7 #[.agg #[.int .u8 (q : Nat), .slice aA A.length cA, .slice aB B.length cB, .slice aC C.length cC], .int .u8 (y : Nat)] W fun e w' => e = .returned (.bool true) ∧ Below W.heap.size W w' := by
 have HQ := Lib.hid hq
 have HEX := Lib.hid examples_c
 have HOF := Lib.hid (fun w => of01_c q hq w)
 have HB0 : Hid (Below W.heap.size W (W.alloc (.cells #[.int .u8 (q : Nat), .slice aA A.length cA, .slice aB B.length cB, .slice aC C.length cC] 24))) := Lib.hid ((Below.refl _ _).alloc (Nat.le_refl _) _)
 have HL0 : Hid (LB W.heap.size (.int .u8 (q : Nat)) (.slice aA A.length cA) (.slice aB B.length cB) (.slice aC C.length cC) (W.alloc (.cells #[.int .u8 (q : Nat), .slice aA A.length cA, .slice aB B.length cB, .slice aC C.length cC] 24))) := Lib.hid
  ⟨World.cell?_alloc_at _ _ _ _ rfl, World.cell?_alloc_at _ _ _ _ rfl, World.cell?_alloc_at _ _ _ _ rfl, World.cell?_alloc_at _ _ _ _ rfl⟩
 have HZ0 : Hid (W.heap.size < (W.alloc (.cells #[.int .u8 (q : Nat), .slice aA A.length cA, .slice aB B.length cB, .slice aC C.length cC] 24)).heap.size) := Lib.hid (by simp)
 clear hq
 go_enter Try.func7, Try.ntmps7
 go_wp2_with fail
 with_reducible refine (HEX.out _).mono ?_
 rintro z w1 ⟨rfl, hb1⟩
 have HB1 := Lib.hid (HB0.out.trans (hb1.mono HB0.out.size))
 have HL1 := Lib.hid (HL0.out.keep hb1 HZ0.out)
 have HZ1 : Hid (W.heap.size < w1.heap.size) := Lib.hid (Nat.lt_of_lt_of_le HZ0.out hb1.size)
 clear hb1 HB0 HL0 HZ0
 have hL1 := HL1.out
 obtain ⟨l0, l1, l2, l3⟩ := hL1
 go_wp2_with fail
 with_reducible refine (HOF.out _).mono ?_
 generalize fdOfByte q = F
 rintro z w2 ⟨b, cap, rfl, hfd, hb2⟩
 have HFF : Hid (Ok F) := Lib.hid (ok_mem hfd.mem)
 have HSS : Hid (SL W (w2.alloc (.cells #[.int .i64 F.p, .int .i64 F.e, FM F b cap] 28)) w2.heap.size F b cap (.int .u8 (q : Nat)) (.slice aA A.length cA) (.slice aB B.length cB) (.slice aC C.length cC) (w2.alloc (.cells #[.int .i64 F.p, .int .i64 F.e, FM F b cap] 28))) := Lib.hid (by
  have ha : Below w2.heap.size w2 (w2.alloc (.cells #[.int .i64 F.p, .int .i64 F.e, FM F b cap] 28)) := (Below.refl _ _).alloc (Nat.le_refl _) _
  have hz := HZ1.out
  have hs := hb2.size
  exact ⟨⟨World.cell?_alloc_at _ _ _ _ rfl, World.cell?_alloc_at _ _ _ _ rfl, World.cell?_alloc_at _ _ _ _ rfl⟩, (HL1.out.keep hb2 hz).keep ha (by omega), Lib.hid ((HB1.out.trans (hb2.mono HB1.out.size)).trans (ha.mono (by omega))), Lib.hid (Below.refl _ _), Lib.hid (hfd.below ha), Lib.hid (by simp; omega)⟩)
 clear hfd hb2 HB1 HL1 HZ1 HOF l0 l1 l2 l3
 obtain ⟨gF, hgF⟩ : ∃ gF, gF = w2.heap.size := ⟨_, rfl⟩
 rw [← hgF] at HSS
 have HGF := Lib.hid hgF
 clear hgF
 go_upto_region 5 with (fail)
 rw [← HGF.out]
 generalize (w2.alloc (.cells #[.int .i64 F.p, .int .i64 F.e, FM F b cap] 28)) = w0 at *
 clear HGF
 have NA := Lib.hid na
 have NB := Lib.hid nb
 have NC := Lib.hid nc
 obtain ⟨LA, hLA⟩ : ∃ l, Hid (ofL F A 8 = l) := ⟨_, rfl⟩
 obtain ⟨LB', hLB⟩ : ∃ l, Hid (ofL F B 8 = l) := ⟨_, rfl⟩
 have HIA : Hid (In F LA ∧ LA.length ≤ 8) := Lib.hid (by rw [← hLA.out]; exact ⟨ofL_in HFF.out A 8, ofL_len F A 8⟩)
 have HIB : Hid (In F LB' ∧ LB'.length ≤ 8) := Lib.hid (by rw [← hLB.out]; exact ⟨ofL_in HFF.out B 8, ofL_len F B 8⟩)
 have HCA : Hid (∀ w, Below W.heap.size W w → Calls Try.prog 13 #[FV F b cap, .slice aA A.length cA, .int .i64 8] w (SlPost LA w)) := Lib.hid (fun w hw => by rw [← hLA.out]; exact of04_c HFF.out hA rfl lA (by decide) (NA.out.below hw))
 have HCB : Hid (∀ w, Below W.heap.size W w → Calls Try.prog 13 #[FV F b cap, .slice aB B.length cB, .int .i64 8] w (SlPost LB' w)) := Lib.hid (fun w hw => by rw [← hLB.out]; exact of04_c HFF.out hB rfl lB (by decide) (NB.out.below hw))
 obtain ⟨TA, hTA⟩ : ∃ l, Hid (trL LA = l) := ⟨_, rfl⟩
 obtain ⟨TB, hTB⟩ : ∃ l, Hid (trL LB' = l) := ⟨_, rfl⟩
 have HPA : Hid (PL F 8 TA) := Lib.hid (by rw [← hTA.out]; exact pl_tr HIA.out.1 HIA.out.2)
 have HPB : Hid (PL F 8 TB) := Lib.hid (by rw [← hTB.out]; exact pl_tr HIB.out.1 HIB.out.2)
 have HTA : Hid (∀ w a c, NN LA w (.slice a LA.length c) → Calls Try.prog 15 #[.slice a LA.length c] w (SlPost TA w)) := Lib.hid (fun w a c hn => by rw [← hTA.out]; exact trim_c (by have := HIA.out.2; omega) rfl hn)
 have HTB : Hid (∀ w a c, NN LB' w (.slice a LB'.length c) → Calls Try.prog 15 #[.slice a LB'.length c] w (SlPost TB w)) := Lib.hid (fun w a c hn => by rw [← hTB.out]; exact trim_c (by have := HIB.out.2; omega) rfl hn)
 clear na nb nc hA hB hC lA lB lC
 have hS0 := HSS.out.drew
 refine Go.Rg.region_seq (S := fun w' => SL W w0 gF F b cap (.int .u8 (q : Nat)) (.slice aA A.length cA) (.slice aB B.length cB) (.slice aC C.length cC) w') (R := fun w w' => Below w.heap.size w w') (φ := phi F b cap [.eq (FV F b cap), .eq (.int .i64 (F.q : Nat)), .eq (.int .i64 (F.q : Nat))]) (phi_mono _) (by kernel_rfl) (by kernel_rfl) (by rfl) (HSS.out) ?st1 ?fi1
 case st1 =>
  refine ⟨fun a w hat K hK => ?_, ?_⟩
  ·have e6 : a.tmps[6]?.getD undef = .pointer (some ⟨gF, 0, none⟩) := hat.b 6
   have hSt := hat.st
   rw [if_pos (by rfl)]
   go_simp
   exact hK.out _ _ hSt (Below.refl _ _) rfl
  refine ⟨fun a w hat K hK => ?_, ?_⟩
  ·have e29 : a.tmps[29]?.getD undef = FV F b cap := hat.d 0 29
   have hSt := hat.st
   rw [if_pos (by rfl)]
   go_simp
   go_at_call 12
   with_reducible refine (size_c HFF.out b cap w).mono ?_
   rintro z' v' ⟨rfl, hb⟩
   exact hK.out _ _ (SL.keep hSt hb) hb rfl
  refine ⟨mv fun a w hat => hat.d 1 30, ?_⟩
  exact trivial
 intro a w1 hsz hdf hbase hSt hval
 obtain ⟨t, df⟩ := a
 have et := Go.Rg.tmps_of hsz [29, 30, 7] (fun k hk => hbase k (Go.Rg.base_of (by kernel_rfl) hk))
 have x7 : t.getD 7 undef = .int .i64 (F.q : Nat) := hval 2 7 (by kernel_rfl)
 clear hval hbase hsz
 simp only [List.foldl_cons, List.foldl_nil, x7] at et
 rw [et]
 have hdf' : df = _ := hdf
 rw [hdf']
 simp only [List.setIfInBounds_toArray, List.set_cons_zero, List.set_cons_succ]
 clear et hdf hdf'
 have HS5 := Lib.hid hSt.start
 clear hSt
 go_upto_region 6 with (fail)
 refine Go.Rg.region_by (S := fun w' => SL W w1 gF F b cap (.int .u8 (q : Nat)) (.slice aA A.length cA) (.slice aB B.length cB) (.slice aC C.length cC) w') (R := fun w w' => Below w.heap.size w w') (φ := phi F b cap [.eq (FV F b cap), .eq (.pointer (some ⟨W.heap.size, 1, none⟩)), .eq (.slice aA A.length cA), .sl (LA), .sl (TA), .eq (FV F b cap), .eq (.pointer (some ⟨W.heap.size, 2, none⟩)), .eq (.slice aB B.length cB), .sl (LB'), .sl (TB), .sl (TA), .sl (TB)]) (by kernel_rfl) (phi_mono _) (by kernel_rfl) (by kernel_rfl) (by rfl) (HS5.out.drew) (Go.Rg.steps_ok ?st2) ?fi2
 case st2 =>
  refine ⟨fun a w hat K hK => ?_, ?_⟩
  ·have e6 : a.tmps[6]?.getD undef = .pointer (some ⟨gF, 0, none⟩) := hat.b 6
   have hSt := hat.st
   rw [if_pos (by rfl)]
   go_simp
   exact hK.out _ _ hSt (Below.refl _ _) rfl
  refine ⟨fun a w hat K hK => ?_, ?_⟩
  ·have e2 : a.tmps[2]?.getD undef = .pointer (some ⟨W.heap.size, 0, none⟩) := hat.b 2
   have hSt := hat.st
   rw [if_pos (by rfl)]
   go_simp
   exact hK.out _ _ hSt (Below.refl _ _) rfl
  refine ⟨fun a w hat K hK => ?_, ?_⟩
  ·have e32 : a.tmps[32]?.getD undef = .pointer (some ⟨W.heap.size, 1, none⟩) := hat.d 1 32
   have hSt := hat.st
   rw [if_pos (by rfl)]
   go_simp
   exact hK.out _ _ hSt (Below.refl _ _) rfl
  refine ⟨fun a w hat K hK => ?_, ?_⟩
  ·have e31 : a.tmps[31]?.getD undef = FV F b cap := hat.d 0 31
   have e33 : a.tmps[33]?.getD undef = .slice aA A.length cA := hat.d 2 33
   have hSt := hat.st
   rw [if_pos (by rfl)]
   go_simp
   go_at_call 13
   with_reducible refine (HCA.out _ hSt.2.2.1.out).mono ?_
   rintro z' v' ⟨a', c', rfl, hn', hb⟩
   exact hK.out _ _ (SL.keep hSt hb) hb ⟨a', c', rfl, hn'⟩
  refine ⟨fun a w hat K hK => ?_, ?_⟩
  ·obtain ⟨a34, c34, e34, n34⟩ := (show (Kd.sl (LA)).ok F b cap (a.tmps[34]?.getD undef) w from hat.d 3 34)
   have hSt := hat.st
   rw [if_pos (by rfl)]
   go_simp
   go_at_call 15
   with_reducible refine (HTA.out _ _ _ n34).mono ?_
   rintro z' v' ⟨a', c', rfl, hn', hb⟩
   exact hK.out _ _ (SL.keep hSt hb) hb ⟨a', c', rfl, hn'⟩
  refine ⟨fun a w hat K hK => ?_, ?_⟩
  ·have e6 : a.tmps[6]?.getD undef = .pointer (some ⟨gF, 0, none⟩) := hat.b 6
   have hSt := hat.st
   rw [if_pos (by rfl)]
   go_simp
   exact hK.out _ _ hSt (Below.refl _ _) rfl
  refine ⟨fun a w hat K hK => ?_, ?_⟩
  ·have e2 : a.tmps[2]?.getD undef = .pointer (some ⟨W.heap.size, 0, none⟩) := hat.b 2
   have hSt := hat.st
   rw [if_pos (by rfl)]
   go_simp
   exact hK.out _ _ hSt (Below.refl _ _) rfl
  refine ⟨fun a w hat K hK => ?_, ?_⟩
  ·have e37 : a.tmps[37]?.getD undef = .pointer (some ⟨W.heap.size, 2, none⟩) := hat.d 6 37
   have hSt := hat.st
   rw [if_pos (by rfl)]
   go_simp
   exact hK.out _ _ hSt (Below.refl _ _) rfl
  refine ⟨fun a w hat K hK => ?_, ?_⟩
  ·have e36 : a.tmps[36]?.getD undef = FV F b cap := hat.d 5 36
   have e38 : a.tmps[38]?.getD undef = .slice aB B.length cB := hat.d 7 38
   have hSt := hat.st
   rw [if_pos (by rfl)]
   go_simp
   go_at_call 13
   with_reducible refine (HCB.out _ hSt.2.2.1.out).mono ?_
   rintro z' v' ⟨a', c', rfl, hn', hb⟩
   exact hK.out _ _ (SL.keep hSt hb) hb ⟨a', c', rfl, hn'⟩
  refine ⟨fun a w hat K hK => ?_, ?_⟩
  ·obtain ⟨a39, c39, e39, n39⟩ := (show (Kd.sl (LB')).ok F b cap (a.tmps[39]?.getD undef) w from hat.d 8 39)
   have hSt := hat.st
   rw [if_pos (by rfl)]
   go_simp
   go_at_call 15
   with_reducible refine (HTB.out _ _ _ n39).mono ?_
   rintro z' v' ⟨a', c', rfl, hn', hb⟩
   exact hK.out _ _ (SL.keep hSt hb) hb ⟨a', c', rfl, hn'⟩
  refine ⟨mv fun a w hat => hat.d 4 35, ?_⟩
  refine ⟨mv fun a w hat => hat.d 9 40, ?_⟩
  exact trivial
 intro a w2 hsz hdf hbase hSt hval
 obtain ⟨t, df⟩ := a
 have et := Go.Rg.tmps_of hsz [31, 32, 33, 34, 35, 36, 37, 38, 39, 40, 8, 9] (fun k hk => hbase k (Go.Rg.base_of (by kernel_rfl) hk))
 obtain ⟨p8, q8, x8, m8⟩ := (show (Kd.sl (TA)).ok F b cap (t.getD 8 undef) w2 from hval 10 8 (by kernel_rfl))
 obtain ⟨p9, q9, x9, m9⟩ := (show (Kd.sl (TB)).ok F b cap (t.getD 9 undef) w2 from hval 11 9 (by kernel_rfl))
 clear hval hbase hsz
 simp only [List.foldl_cons, List.foldl_nil, x8, x9] at et
 rw [et]
 have hdf' : df = _ := hdf
 rw [hdf']
 simp only [List.setIfInBounds_toArray, List.set_cons_zero, List.set_cons_succ]
 clear et hdf hdf'
 have HN2_8 := Lib.hid m8
 have HN2_9 := Lib.hid m9
 clear m8 m9
 have HS6 := Lib.hid hSt.start
 clear hSt
 obtain ⟨LR, HLR⟩ : ∃ l, Hid (rootsTo F TA F.q = l) := ⟨_, Lib.hid rfl⟩
 go_upto_region 7 with (fail)
 refine Go.Rg.region_seq (S := fun w' => SL W w2 gF F b cap (.int .u8 (q : Nat)) (.slice aA A.length cA) (.slice aB B.length cB) (.slice aC C.length cC) w') (R := fun w w' => Below w.heap.size w w') (φ := phi F b cap [.eq (FV F b cap), .sl (TA), .sl (LR), .sl (LR)]) (phi_mono _) (by kernel_rfl) (by kernel_rfl) (by rfl) (HS6.out) ?st3 ?fi3
 case st3 =>
  refine ⟨fun a w hat K hK => ?_, ?_⟩
  ·have e6 : a.tmps[6]?.getD undef = .pointer (some ⟨gF, 0, none⟩) := hat.b 6
   have hSt := hat.st
   rw [if_pos (by rfl)]
   go_simp
   exact hK.out _ _ hSt (Below.refl _ _) rfl
  refine ⟨mv fun a w hat => ⟨_, _, hat.b 8, (HN2_8.out.below hat.st.2.2.2.1.out)⟩, ?_⟩
  refine ⟨fun a w hat K hK => ?_, ?_⟩
  ·have e41 : a.tmps[41]?.getD undef = FV F b cap := hat.d 0 41
   obtain ⟨a42, c42, e42, n42⟩ := (show (Kd.sl (TA)).ok F b cap (a.tmps[42]?.getD undef) w from hat.d 1 42)
   have hSt := hat.st
   rw [if_pos (by rfl)]
   go_simp
   go_at_call 29
   with_reducible refine (roots_po (hSt.2.2.2.2.1.out.ops) HPA.out HLR.out (by decide) n42).mono ?_
   rintro z' v' ⟨a', c', rfl, hn', hb⟩
   exact hK.out _ _ (SL.keep hSt hb) hb ⟨a', c', rfl, hn'⟩
  refine ⟨mv fun a w hat => hat.d 2 43, ?_⟩
  exact trivial
 intro a w3 hsz hdf hbase hSt hval
 obtain ⟨t, df⟩ := a
 have et := Go.Rg.tmps_of hsz [41, 42, 43, 10] (fun k hk => hbase k (Go.Rg.base_of (by kernel_rfl) hk))
 obtain ⟨p10, q10, x10, m10⟩ := (show (Kd.sl (LR)).ok F b cap (t.getD 10 undef) w3 from hval 3 10 (by kernel_rfl))
 clear hval hbase hsz
 simp only [List.foldl_cons, List.foldl_nil, x10] at et
 rw [et]
 have hdf' : df = _ := hdf
 rw [hdf']
 simp only [List.setIfInBounds_toArray, List.set_cons_zero, List.set_cons_succ]
 clear et hdf hdf'
 have HN3_8 := Lib.hid (HN2_8.out.below hSt.2.2.2.1.out)
 have HN3_9 := Lib.hid (HN2_9.out.below hSt.2.2.2.1.out)
 have HN3_10 := Lib.hid m10
 clear m10
 have HS7 := Lib.hid hSt.start
 clear hSt
 by_cases hA0 : TA = []
 ·have hyA : ((TA.length : Int) == 0) = true := by rw [hA0]; rfl
  have hlq : ((LR.length : Int) == (F.q : Int)) = true := by rw [← HLR.out, hA0, rootsTo_nil]; simp
  have HA0 := Lib.hid hA0
  clear hA0
  go_upto_region 8 with (fail)
  refine Go.Rg.region_seq (S := fun w' => SL W w3 gF F b cap (.int .u8 (q : Nat)) (.slice aA A.length cA) (.slice aB B.length cB) (.slice aC C.length cC) w') (R := fun w w' => Below w.heap.size w w') (φ := phi F b cap [.sl (TA), .eq (.int .i64 ((TA).length : Nat)), .eq (.bool true)]) (phi_mono _) (by kernel_rfl) (by kernel_rfl) (by rfl) (HS7.out) ?st4 ?fi4
  case st4 =>
   refine ⟨mv fun a w hat => ⟨_, _, hat.b 8, (HN3_8.out.below hat.st.2.2.2.1.out)⟩, ?_⟩
   refine ⟨fun a w hat K hK => ?_, ?_⟩
   ·obtain ⟨a44, c44, e44, n44⟩ := (show (Kd.sl (TA)).ok F b cap (a.tmps[44]?.getD undef) w from hat.d 0 44)
    have hSt := hat.st
    rw [if_pos (by rfl)]
    go_simp
    exact hK.out _ _ hSt (Below.refl _ _) rfl
   refine ⟨fun a w hat K hK => ?_, ?_⟩
   ·have e45 : a.tmps[45]?.getD undef = .int .i64 ((TA).length : Nat) := hat.d 1 45
    have hSt := hat.st
    rw [if_pos (by rfl)]
    go_simp
    exact hK.out _ _ hSt (Below.refl _ _) rfl
   exact trivial
  intro a w4 hsz hdf hbase hSt hval
  obtain ⟨t, df⟩ := a
  have et := Go.Rg.tmps_of hsz [44, 45, 46] (fun k hk => hbase k (Go.Rg.base_of (by kernel_rfl) hk))
  have x46 : t.getD 46 undef = .bool true := hval 2 46 (by kernel_rfl)
  clear hval hbase hsz
  simp only [List.foldl_cons, List.foldl_nil, x46] at et
  rw [et]
  have hdf' : df = _ := hdf
  rw [hdf']
  simp only [List.setIfInBounds_toArray, List.set_cons_zero, List.set_cons_succ]
  clear et hdf hdf'
  have HN4_8 := Lib.hid (HN3_8.out.below hSt.2.2.2.1.out)
  have HN4_9 := Lib.hid (HN3_9.out.below hSt.2.2.2.1.out)
  have HN4_10 := Lib.hid (HN3_10.out.below hSt.2.2.2.1.out)
  have HS8 := Lib.hid hSt.start
  clear hSt
  go_upto_region 9 with (fail)
  refine Go.Rg.region_seq (S := fun w' => SL W w4 gF F b cap (.int .u8 (q : Nat)) (.slice aA A.length cA) (.slice aB B.length cB) (.slice aC C.length cC) w') (R := fun w w' => Below w.heap.size w w') (φ := phi F b cap [.sl (LR), .eq (.int .i64 ((LR).length : Nat)), .eq (.int .i64 (F.q : Nat)), .eq (.bool true), .eq (.bool true), .eq (.bool true), .eq (.bool true), .eq (.bool true)]) (phi_mono _) (by kernel_rfl) (by kernel_rfl) (by rfl) (HS8.out) ?st5 ?fi5
  case st5 =>
   refine ⟨mv fun a w hat => ⟨_, _, hat.b 10, (HN4_10.out.below hat.st.2.2.2.1.out)⟩, ?_⟩
   refine ⟨fun a w hat K hK => ?_, ?_⟩
   ·obtain ⟨a47, c47, e47, n47⟩ := (show (Kd.sl (LR)).ok F b cap (a.tmps[47]?.getD undef) w from hat.d 0 47)
    have hSt := hat.st
    rw [if_pos (by rfl)]
    go_simp
    exact hK.out _ _ hSt (Below.refl _ _) rfl
   refine ⟨mv fun a w hat => hat.b 7, ?_⟩
   refine ⟨fun a w hat K hK => ?_, ?_⟩
   ·have e48 : a.tmps[48]?.getD undef = .int .i64 ((LR).length : Nat) := hat.d 1 48
    have e49 : a.tmps[49]?.getD undef = .int .i64 (F.q : Nat) := hat.d 2 49
    have hSt := hat.st
    rw [if_pos (by rfl)]
    go_simp
    exact hK.out _ _ hSt (Below.refl _ _) rfl
   refine ⟨mv fun a w hat => hat.d 3 50, ?_⟩
   refine ⟨mvg 4 51 true fun a w hat => hat.b 5, ?_⟩
   refine ⟨fun a w hat K hK => ?_, ?_⟩
   ·have e51 : a.tmps[51]?.getD undef = .bool true := hat.d 4 51
    have e52 : a.tmps[52]?.getD undef = .bool true := hat.d 5 52
    have hSt := hat.st
    rw [if_pos (by rfl)]
    go_simp
    exact hK.out _ _ hSt (Below.refl _ _) rfl
   refine ⟨mv fun a w hat => hat.d 6 53, ?_⟩
   exact trivial
  intro a w5 hsz hdf hbase hSt hval
  obtain ⟨t, df⟩ := a
  have et := Go.Rg.tmps_of hsz [47, 48, 49, 50, 51, 52, 53, 4] (fun k hk => hbase k (Go.Rg.base_of (by kernel_rfl) hk))
  have x4 : t.getD 4 undef = .bool true := hval 7 4 (by kernel_rfl)
  clear hval hbase hsz
  simp only [List.foldl_cons, List.foldl_nil, x4] at et
  rw [et]
  have hdf' : df = _ := hdf
  rw [hdf']
  simp only [List.setIfInBounds_toArray, List.set_cons_zero, List.set_cons_succ]
  clear et hdf hdf'
  have HN5_8 := Lib.hid (HN4_8.out.below hSt.2.2.2.1.out)
  have HN5_9 := Lib.hid (HN4_9.out.below hSt.2.2.2.1.out)
  have HN5_10 := Lib.hid (HN4_10.out.below hSt.2.2.2.1.out)
  have HBF := Lib.hid hSt.2.2.1.out
  clear hSt
  go_wp2
  go_ret
  exact ⟨rfl, HBF.out⟩
 ·have hyA : ((TA.length : Int) == 0) = false := by simp; exact hA0
  have hfew : LR.length < TA.length := by rw [← HLR.out]; exact rootsTo_few HFF.out HPA.out.1 hA0
  have hfew1 : ¬ (TA.length : Int) ≤ (LR.length : Int) := by omega
  have hfew2 : ¬ TA.length ≤ LR.length := by omega
  have HA0 := Lib.hid hA0
  clear hA0
  obtain ⟨v, hv⟩ : ∃ v, Hid (y % F.q = v) := ⟨_, rfl⟩
  have HVQ : Hid (v < F.q) := Lib.hid (by rw [← hv.out]; exact Nat.mod_lt _ HFF.out.zero_lt)
  have hq0 : 0 < F.q := HFF.out.zero_lt
  have hq64 : F.q ≤ 64 := HFF.out.q64
  have hmod : ((y : Int)).tmod (F.q : Int) = (v : Int) := by rw [← hv.out, Int.tmod_eq_emod_of_nonneg (by omega)]; rfl
  have hmod2 : (y : Int) % (F.q : Int) = (v : Int) := by rw [← hv.out]; rfl
  have hqz : ¬ F.q = 0 := by omega
  have hwx : IntKind.i64.wrap (y : Int) = (y : Int) := IntWalk.i64_in _ (by omega)
  go_upto_region 8 with (fail)
  refine Go.Rg.region_seq (S := fun w' => SL W w3 gF F b cap (.int .u8 (q : Nat)) (.slice aA A.length cA) (.slice aB B.length cB) (.slice aC C.length cC) w') (R := fun w w' => Below w.heap.size w w') (φ := phi F b cap [.sl (TA), .eq (.int .i64 ((TA).length : Nat)), .eq (.bool false)]) (phi_mono _) (by kernel_rfl) (by kernel_rfl) (by rfl) (HS7.out) ?st6 ?fi6
  case st6 =>
   refine ⟨mv fun a w hat => ⟨_, _, hat.b 8, (HN3_8.out.below hat.st.2.2.2.1.out)⟩, ?_⟩
   refine ⟨fun a w hat K hK => ?_, ?_⟩
   ·obtain ⟨a44, c44, e44, n44⟩ := (show (Kd.sl (TA)).ok F b cap (a.tmps[44]?.getD undef) w from hat.d 0 44)
    have hSt := hat.st
    rw [if_pos (by rfl)]
    go_simp
    exact hK.out _ _ hSt (Below.refl _ _) rfl
   refine ⟨fun a w hat K hK => ?_, ?_⟩
   ·have e45 : a.tmps[45]?.getD undef = .int .i64 ((TA).length : Nat) := hat.d 1 45
    have hSt := hat.st
    rw [if_pos (by rfl)]
    go_simp
    exact hK.out _ _ hSt (Below.refl _ _) rfl
   exact trivial
  intro a w4 hsz hdf hbase hSt hval
  obtain ⟨t, df⟩ := a
  have et := Go.Rg.tmps_of hsz [44, 45, 46] (fun k hk => hbase k (Go.Rg.base_of (by kernel_rfl) hk))
  have x46 : t.getD 46 undef = .bool false := hval 2 46 (by kernel_rfl)
  clear hval hbase hsz
  simp only [List.foldl_cons, List.foldl_nil, x46] at et
  rw [et]
  have hdf' : df = _ := hdf
  rw [hdf']
  simp only [List.setIfInBounds_toArray, List.set_cons_zero, List.set_cons_succ]
  clear et hdf hdf'
  have HN4_8 := Lib.hid (HN3_8.out.below hSt.2.2.2.1.out)
  have HN4_9 := Lib.hid (HN3_9.out.below hSt.2.2.2.1.out)
  have HN4_10 := Lib.hid (HN3_10.out.below hSt.2.2.2.1.out)
  have HS8 := Lib.hid hSt.start
  clear hSt
  go_upto_region 10 with (fail)
  refine Go.Rg.region_seq (S := fun w' => SL W w4 gF F b cap (.int .u8 (q : Nat)) (.slice aA A.length cA) (.slice aB B.length cB) (.slice aC C.length cC) w') (R := fun w w' => Below w.heap.size w w') (φ := phi F b cap [.sl (LR), .eq (.int .i64 ((LR).length : Nat)), .sl (TA), .eq (.int .i64 ((TA).length : Nat)), .eq (.bool false)]) (phi_mono _) (by kernel_rfl) (by kernel_rfl) (by rfl) (HS8.out) ?st7 ?fi7
  case st7 =>
   refine ⟨mv fun a w hat => ⟨_, _, hat.b 10, (HN4_10.out.below hat.st.2.2.2.1.out)⟩, ?_⟩
   refine ⟨fun a w hat K hK => ?_, ?_⟩
   ·obtain ⟨a54, c54, e54, n54⟩ := (show (Kd.sl (LR)).ok F b cap (a.tmps[54]?.getD undef) w from hat.d 0 54)
    have hSt := hat.st
    rw [if_pos (by rfl)]
    go_simp
    exact hK.out _ _ hSt (Below.refl _ _) rfl
   refine ⟨mv fun a w hat => ⟨_, _, hat.b 8, (HN4_8.out.below hat.st.2.2.2.1.out)⟩, ?_⟩
   refine ⟨fun a w hat K hK => ?_, ?_⟩
   ·obtain ⟨a56, c56, e56, n56⟩ := (show (Kd.sl (TA)).ok F b cap (a.tmps[56]?.getD undef) w from hat.d 2 56)
    have hSt := hat.st
    rw [if_pos (by rfl)]
    go_simp
    exact hK.out _ _ hSt (Below.refl _ _) rfl
   refine ⟨fun a w hat K hK => ?_, ?_⟩
   ·have e55 : a.tmps[55]?.getD undef = .int .i64 ((LR).length : Nat) := hat.d 1 55
    have e57 : a.tmps[57]?.getD undef = .int .i64 ((TA).length : Nat) := hat.d 3 57
    have hSt := hat.st
    rw [if_pos (by rfl)]
    go_simp
    exact hK.out _ _ hSt (Below.refl _ _) rfl
   exact trivial
  intro a w5 hsz hdf hbase hSt hval
  obtain ⟨t, df⟩ := a
  have et := Go.Rg.tmps_of hsz [54, 55, 56, 57, 58] (fun k hk => hbase k (Go.Rg.base_of (by kernel_rfl) hk))
  have x58 : t.getD 58 undef = .bool false := hval 4 58 (by kernel_rfl)
  clear hval hbase hsz
  simp only [List.foldl_cons, List.foldl_nil, x58] at et
  rw [et]
  have hdf' : df = _ := hdf
  rw [hdf']
  simp only [List.setIfInBounds_toArray, List.set_cons_zero, List.set_cons_succ]
  clear et hdf hdf'
  have HN5_8 := Lib.hid (HN4_8.out.below hSt.2.2.2.1.out)
  have HN5_9 := Lib.hid (HN4_9.out.below hSt.2.2.2.1.out)
  have HN5_10 := Lib.hid (HN4_10.out.below hSt.2.2.2.1.out)
  have HS10 := Lib.hid hSt.start
  clear hSt
  go_upto_region 12 with (fail)
  refine Go.Rg.region_seq (S := fun w' => SL W w5 gF F b cap (.int .u8 (q : Nat)) (.slice aA A.length cA) (.slice aB B.length cB) (.slice aC C.length cC) w') (R := fun w w' => Below w.heap.size w w') (φ := phi F b cap [.eq (.int .u8 (y : Nat)), .eq (.int .i64 (y : Nat)), .eq (.int .i64 (F.q : Nat)), .eq (.int .i64 (v : Nat)), .eq (.int .i64 (v : Nat)), .eq (Value.bool false)]) (phi_mono _) (by kernel_rfl) (by kernel_rfl) (by rfl) (HS10.out) ?st8 ?fi8
  case st8 =>
   refine ⟨mv fun a w hat => hat.b 1, ?_⟩
   refine ⟨fun a w hat K hK => ?_, ?_⟩
   ·have e59 : a.tmps[59]?.getD undef = .int .u8 (y : Nat) := hat.d 0 59
    have hSt := hat.st
    rw [if_pos (by rfl)]
    go_simp
    exact hK.out _ _ hSt (Below.refl _ _) rfl
   refine ⟨mv fun a w hat => hat.b 7, ?_⟩
   refine ⟨fun a w hat K hK => ?_, ?_⟩
   ·have e60 : a.tmps[60]?.getD undef = .int .i64 (y : Nat) := hat.d 1 60
    have e61 : a.tmps[61]?.getD undef = .int .i64 (F.q : Nat) := hat.d 2 61
    have hSt := hat.st
    rw [if_pos (by rfl)]
    go_simp
    exact hK.out _ _ hSt (Below.refl _ _) rfl
   refine ⟨mv fun a w hat => hat.d 3 62, ?_⟩
   refine ⟨fun a w hat K hK => ?_, ?_⟩
   ·have hSt := hat.st
    rw [if_pos (by rfl)]
    go_simp
    exact hK.out _ _ hSt (Below.refl _ _) rfl
   exact trivial
  intro a w6 hsz hdf hbase hSt hval
  obtain ⟨t, df⟩ := a
  have et := Go.Rg.tmps_of hsz [59, 60, 61, 62, 11, 12] (fun k hk => hbase k (Go.Rg.base_of (by kernel_rfl) hk))
  have x11 : t.getD 11 undef = .int .i64 (v : Nat) := hval 4 11 (by kernel_rfl)
  have x12 : t.getD 12 undef = Value.bool false := hval 5 12 (by kernel_rfl)
  clear hval hbase hsz
  simp only [List.foldl_cons, List.foldl_nil, x11, x12] at et
  rw [et]
  have hdf' : df = _ := hdf
  rw [hdf']
  simp only [List.setIfInBounds_toArray, List.set_cons_zero, List.set_cons_succ]
  clear et hdf hdf'
  have HN6_8 := Lib.hid (HN5_8.out.below hSt.2.2.2.1.out)
  have HN6_9 := Lib.hid (HN5_9.out.below hSt.2.2.2.1.out)
  have HN6_10 := Lib.hid (HN5_10.out.below hSt.2.2.2.1.out)
  have HS12 := Lib.hid hSt.start
  clear hSt
  go_wp2
  go_loopw [12, 13] (fun is i wr => ∃ k : Nat, k ≤ LR.length ∧ is = .bool (decide (v ∈ LR.take k)) ∧ i = .int .i64 k ∧ Hid (Below w6.heap.size w6 wr)) (fun _ i _ => LR.length - (intOf i).toNat)
  case atStart => exact ⟨0, Nat.zero_le _, by simp, rfl, Lib.hid (Below.refl _ _)⟩
  case round =>
   obtain ⟨k, hk, rfl, rfl, HB⟩ := hrel
   obtain ⟨is, HIS⟩ : ∃ b, Hid (decide (v ∈ LR.take k) = b) := ⟨_, Lib.hid rfl⟩
   rw [HIS.out]
   by_cases hlt : k < LR.length
   ·have HSR := Lib.hid (SL.keep HS12.out HB.out).start
    obtain ⟨bL, oL, hpL, HBG, HCS⟩ : ∃ bL oL, p10 = some ⟨bL, oL, none⟩ ∧ Hid (bL < wr.heap.size) ∧ Hid (∀ t, t < LR.length → wr.cell? ⟨bL, oL + t, none⟩ = some (.int .i64 (LR.getD t 0 : Nat))) := by
     rcases HN6_10.out.below HB.out with ⟨e, -⟩ | ⟨b', off', cap', e, g1, g2, g3⟩
     ·rw [e] at hlt; simp at hlt
     ·injection e with e1 e2 e3
      exact ⟨b', off', e1, Lib.hid g2, Lib.hid g3⟩
    subst hpL
    obtain ⟨x, HX⟩ : ∃ x, Hid (LR.getD k 0 = x) := ⟨_, Lib.hid rfl⟩
    have HCX : Hid (wr.cell? ⟨bL, oL + k, none⟩ = some (.int .i64 (x : Nat))) := Lib.hid (by rw [← HX.out]; exact HCS.out k hlt)
    have hxq : x < F.q := by rw [← HX.out, ← HLR.out]; rw [← HLR.out] at hlt; exact rootsTo_get hlt
    have hx0 : ¬ (x : Int) < 0 := by omega
    have hx1 : ¬ (F.q : Int) ≤ (x : Int) := by omega
    have hx2 : ¬ F.q ≤ x := by omega
    have hlti : (k : Int) < (LR.length : Int) := by omega
    have hl8 : TA.length ≤ 8 := HPA.out.2
    have hk8 : k < 9 := by omega
    have HTK : Hid (decide (v ∈ LR.take (k + 1)) = (decide (v ∈ LR.take k) || decide (x = v))) := Lib.hid (by
     have e : LR.take (k + 1) = LR.take k ++ [x] := by
      rw [List.take_add_one, List.getElem?_eq_getElem hlt, ← HX.out]
      simp [List.getD, hlt]
     rw [e]
     simp [List.mem_append, eq_comm])
    by_cases hk0 : 0 < k
    ·obtain ⟨j, HJ⟩ : ∃ j, Hid (k = j + 1) := ⟨k - 1, Lib.hid (by omega)⟩
     have hjl : j < LR.length := by have := HJ.out; omega
     have hjli : (j : Int) < (LR.length : Int) := by omega
     have hk0i : (0 : Int) < (k : Int) := by omega
     have hwj : IntKind.i64.wrap ((k : Int) - 1) = (j : Int) := (IntWalk.i64_in _ (by omega)).trans (by have := HJ.out; omega)
     obtain ⟨x2, HX2⟩ : ∃ x, Hid (LR.getD j 0 = x) := ⟨_, Lib.hid rfl⟩
     have HCY : Hid (wr.cell? ⟨bL, oL + j, none⟩ = some (.int .i64 (x2 : Nat))) := Lib.hid (by rw [← HX2.out]; exact HCS.out j hjl)
     have hup : x2 < x := by
      rw [← HX.out, ← HX2.out, HJ.out, ← HLR.out]
      have h := hlt
      rw [HJ.out, ← HLR.out] at h
      exact rootsTo_up h
     have hup1 : ¬ (x : Int) ≤ (x2 : Int) := by omega
     have hup2 : ¬ x ≤ x2 := by omega
     cases is with
     | true =>
      have HNX : Hid (Value.bool true = .bool (decide (v ∈ LR.take (k + 1)))) := Lib.hid (by rw [HTK.out, HIS.out]; rfl)
      go_upto_region 16 with (fail)
      refine Go.Rg.region_by (S := fun w' => SL W wr gF F b cap (.int .u8 (q : Nat)) (.slice aA A.length cA) (.slice aB B.length cB) (.slice aC C.length cC) w') (R := fun w w' => Below w.heap.size w w') (φ := phi F b cap [.eq (.slice (some ⟨bL, oL, none⟩) LR.length q10), .eq (.int .i64 (k : Nat)), .eq (.pointer (some ⟨bL, oL + k, none⟩)), .eq (.int .i64 (x : Nat)), .eq (.bool false), .eq (.bool false), .eq (.slice (some ⟨bL, oL, none⟩) LR.length q10), .eq (.int .i64 (k : Nat)), .eq (.pointer (some ⟨bL, oL + k, none⟩)), .eq (.int .i64 (x : Nat)), .eq (.int .i64 (F.q : Nat)), .eq (.bool false), .eq (.bool false), .eq (.bool false), .eq (.int .i64 (k : Nat)), .eq (.bool true), .eq (.bool true), .eq (.slice (some ⟨bL, oL, none⟩) LR.length q10), .eq (.int .i64 (k : Nat)), .eq (.pointer (some ⟨bL, oL + k, none⟩)), .eq (.int .i64 (x : Nat)), .eq (.slice (some ⟨bL, oL, none⟩) LR.length q10), .eq (.int .i64 (k : Nat)), .eq (.int .i64 (j : Nat)), .eq (.pointer (some ⟨bL, oL + j, none⟩)), .eq (.int .i64 (x2 : Nat)), .eq (.bool false), .eq (.bool false), .eq (.bool false)]) (by kernel_rfl) (phi_mono _) (by kernel_rfl) (by kernel_rfl) (by rfl) (HSR.out.drew) (Go.Rg.steps_ok ?st12) ?fi12
      case st12 =>
       refine ⟨mv fun a w hat => hat.b 10, ?_⟩
       refine ⟨mv fun a w hat => hat.b 13, ?_⟩
       refine ⟨fun a w hat K hK => ?_, ?_⟩
       ·have e69 : a.tmps[69]?.getD undef = .slice (some ⟨bL, oL, none⟩) LR.length q10 := hat.d 0 69
        have e70 : a.tmps[70]?.getD undef = .int .i64 (k : Nat) := hat.d 1 70
        have hSt := hat.st
        rw [if_pos (by rfl)]
        go_simp
        exact hK.out _ _ hSt (Below.refl _ _) rfl
       refine ⟨fun a w hat K hK => ?_, ?_⟩
       ·have e71 : a.tmps[71]?.getD undef = .pointer (some ⟨bL, oL + k, none⟩) := hat.d 2 71
        have hSt := hat.st
        rw [if_pos (by rfl)]
        have hc := (hSt.2.2.2.1.out.cell (p := ⟨bL, oL + k, none⟩) HBG.out).trans HCX.out
        go_simp
        exact hK.out _ _ hSt (Below.refl _ _) rfl
       refine ⟨fun a w hat K hK => ?_, ?_⟩
       ·have e72 : a.tmps[72]?.getD undef = .int .i64 (x : Nat) := hat.d 3 72
        have hSt := hat.st
        rw [if_pos (by rfl)]
        go_simp
        exact hK.out _ _ hSt (Below.refl _ _) rfl
       refine ⟨mv fun a w hat => hat.d 4 73, ?_⟩
       refine ⟨mvg 5 74 false fun a w hat => hat.b 10, ?_⟩
       refine ⟨mvg 5 74 false fun a w hat => hat.b 13, ?_⟩
       refine ⟨fun a w hat K hK => ?_, ?_⟩
       ·have e75 : a.tmps[75]?.getD undef = .slice (some ⟨bL, oL, none⟩) LR.length q10 := hat.d 6 75
        have e76 : a.tmps[76]?.getD undef = .int .i64 (k : Nat) := hat.d 7 76
        have hSt := hat.st
        rw [if_pos (wy hat 5 74 false)]
        go_simp
        exact hK.out _ _ hSt (Below.refl _ _) rfl
       refine ⟨fun a w hat K hK => ?_, ?_⟩
       ·have e77 : a.tmps[77]?.getD undef = .pointer (some ⟨bL, oL + k, none⟩) := hat.d 8 77
        have hSt := hat.st
        rw [if_pos (wy hat 5 74 false)]
        have hc := (hSt.2.2.2.1.out.cell (p := ⟨bL, oL + k, none⟩) HBG.out).trans HCX.out
        go_simp
        exact hK.out _ _ hSt (Below.refl _ _) rfl
       refine ⟨mvg 5 74 false fun a w hat => hat.b 7, ?_⟩
       refine ⟨fun a w hat K hK => ?_, ?_⟩
       ·have e78 : a.tmps[78]?.getD undef = .int .i64 (x : Nat) := hat.d 9 78
        have e79 : a.tmps[79]?.getD undef = .int .i64 (F.q : Nat) := hat.d 10 79
        have hSt := hat.st
        rw [if_pos (wy hat 5 74 false)]
        go_simp
        exact hK.out _ _ hSt (Below.refl _ _) rfl
       refine ⟨fun a w hat K hK => ?_, ?_⟩
       ·have e74 : a.tmps[74]?.getD undef = .bool false := hat.d 5 74
        have e80 : a.tmps[80]?.getD undef = .bool false := hat.d 11 80
        have hSt := hat.st
        rw [if_pos (by rfl)]
        go_simp
        exact hK.out _ _ hSt (Below.refl _ _) rfl
       refine ⟨mv fun a w hat => hat.d 12 81, ?_⟩
       refine ⟨mvg 13 82 false fun a w hat => hat.b 13, ?_⟩
       refine ⟨fun a w hat K hK => ?_, ?_⟩
       ·have e83 : a.tmps[83]?.getD undef = .int .i64 (k : Nat) := hat.d 14 83
        have hSt := hat.st
        rw [if_pos (wy hat 13 82 false)]
        go_simp
        exact hK.out _ _ hSt (Below.refl _ _) rfl
       refine ⟨mvg 13 82 false fun a w hat => hat.d 15 84, ?_⟩
       refine ⟨mvg 16 85 true fun a w hat => hat.b 10, ?_⟩
       refine ⟨mvg 16 85 true fun a w hat => hat.b 13, ?_⟩
       refine ⟨fun a w hat K hK => ?_, ?_⟩
       ·have e86 : a.tmps[86]?.getD undef = .slice (some ⟨bL, oL, none⟩) LR.length q10 := hat.d 17 86
        have e87 : a.tmps[87]?.getD undef = .int .i64 (k : Nat) := hat.d 18 87
        have hSt := hat.st
        rw [if_pos (wy hat 16 85 true)]
        go_simp
        exact hK.out _ _ hSt (Below.refl _ _) rfl
       refine ⟨fun a w hat K hK => ?_, ?_⟩
       ·have e88 : a.tmps[88]?.getD undef = .pointer (some ⟨bL, oL + k, none⟩) := hat.d 19 88
        have hSt := hat.st
        rw [if_pos (wy hat 16 85 true)]
        have hc := (hSt.2.2.2.1.out.cell (p := ⟨bL, oL + k, none⟩) HBG.out).trans HCX.out
        go_simp
        exact hK.out _ _ hSt (Below.refl _ _) rfl
       refine ⟨mvg 16 85 true fun a w hat => hat.b 10, ?_⟩
       refine ⟨mvg 16 85 true fun a w hat => hat.b 13, ?_⟩
       refine ⟨fun a w hat K hK => ?_, ?_⟩
       ·have e91 : a.tmps[91]?.getD undef = .int .i64 (k : Nat) := hat.d 22 91
        have hSt := hat.st
        rw [if_pos (wy hat 16 85 true)]
        go_simp
        exact hK.out _ _ hSt (Below.refl _ _) rfl
       refine ⟨fun a w hat K hK => ?_, ?_⟩
       ·have e90 : a.tmps[90]?.getD undef = .slice (some ⟨bL, oL, none⟩) LR.length q10 := hat.d 21 90
        have e92 : a.tmps[92]?.getD undef = .int .i64 (j : Nat) := hat.d 23 92
        have hSt := hat.st
        rw [if_pos (wy hat 16 85 true)]
        go_simp
        exact hK.out _ _ hSt (Below.refl _ _) rfl
       refine ⟨fun a w hat K hK => ?_, ?_⟩
       ·have e93 : a.tmps[93]?.getD undef = .pointer (some ⟨bL, oL + j, none⟩) := hat.d 24 93
        have hSt := hat.st
        rw [if_pos (wy hat 16 85 true)]
        have hc := (hSt.2.2.2.1.out.cell (p := ⟨bL, oL + j, none⟩) HBG.out).trans HCY.out
        go_simp
        exact hK.out _ _ hSt (Below.refl _ _) rfl
       refine ⟨fun a w hat K hK => ?_, ?_⟩
       ·have e89 : a.tmps[89]?.getD undef = .int .i64 (x : Nat) := hat.d 20 89
        have e94 : a.tmps[94]?.getD undef = .int .i64 (x2 : Nat) := hat.d 25 94
        have hSt := hat.st
        rw [if_pos (wy hat 16 85 true)]
        go_simp
        exact hK.out _ _ hSt (Below.refl _ _) rfl
       refine ⟨fun a w hat K hK => ?_, ?_⟩
       ·have e85 : a.tmps[85]?.getD undef = .bool true := hat.d 16 85
        have e95 : a.tmps[95]?.getD undef = .bool false := hat.d 26 95
        have hSt := hat.st
        rw [if_pos (wy hat 13 82 false)]
        go_simp
        exact hK.out _ _ hSt (Below.refl _ _) rfl
       refine ⟨fun a w hat K hK => ?_, ?_⟩
       ·have e82 : a.tmps[82]?.getD undef = .bool false := hat.d 13 82
        have e96 : a.tmps[96]?.getD undef = .bool false := hat.d 27 96
        have hSt := hat.st
        rw [if_pos (by rfl)]
        go_simp
        exact hK.out _ _ hSt (Below.refl _ _) rfl
       exact trivial
      intro a w7 hsz hdf hbase hSt hval
      obtain ⟨t, df⟩ := a
      have et := Go.Rg.tmps_of hsz [69, 70, 71, 72, 73, 74, 75, 76, 77, 78, 79, 80, 81, 82, 83, 84, 85, 86, 87, 88, 89, 90, 91, 92, 93, 94, 95, 96, 97] (fun k hk => hbase k (Go.Rg.base_of (by kernel_rfl) hk))
      have x97 : t.getD 97 undef = .bool false := hval 28 97 (by kernel_rfl)
      clear hval hbase hsz
      simp only [List.foldl_cons, List.foldl_nil, x97] at et
      rw [et]
      have hdf' : df = _ := hdf
      rw [hdf']
      simp only [List.setIfInBounds_toArray, List.set_cons_zero, List.set_cons_succ]
      clear et hdf hdf'
      have HBN := Lib.hid (HB.out.trans (hSt.2.2.2.1.out.mono HB.out.size))
      have hc18 := (hSt.2.2.2.1.out.cell (p := ⟨bL, oL + k, none⟩) HBG.out).trans HCX.out
      clear hSt
      go_wp2
      go_roundw
      case rel => exact ⟨k + 1, by omega, HNX.out, by go_num, HBN⟩
      case measure => simp [intOf]; omega
     | false =>
      by_cases hxv : x = v
      ·have hxe : ((x : Int) == (v : Int)) = true := beq_iff_eq.2 (by omega)
       have HNX : Hid (Value.bool true = .bool (decide (v ∈ LR.take (k + 1)))) := Lib.hid (by rw [HTK.out, HIS.out]; simp [hxv])
       have HXV := Lib.hid hxv
       clear hxv
       go_upto_region 16 with (fail)
       refine Go.Rg.region_by (S := fun w' => SL W wr gF F b cap (.int .u8 (q : Nat)) (.slice aA A.length cA) (.slice aB B.length cB) (.slice aC C.length cC) w') (R := fun w w' => Below w.heap.size w w') (φ := phi F b cap [.eq (.slice (some ⟨bL, oL, none⟩) LR.length q10), .eq (.int .i64 (k : Nat)), .eq (.pointer (some ⟨bL, oL + k, none⟩)), .eq (.int .i64 (x : Nat)), .eq (.bool false), .eq (.bool false), .eq (.slice (some ⟨bL, oL, none⟩) LR.length q10), .eq (.int .i64 (k : Nat)), .eq (.pointer (some ⟨bL, oL + k, none⟩)), .eq (.int .i64 (x : Nat)), .eq (.int .i64 (F.q : Nat)), .eq (.bool false), .eq (.bool false), .eq (.bool false), .eq (.int .i64 (k : Nat)), .eq (.bool true), .eq (.bool true), .eq (.slice (some ⟨bL, oL, none⟩) LR.length q10), .eq (.int .i64 (k : Nat)), .eq (.pointer (some ⟨bL, oL + k, none⟩)), .eq (.int .i64 (x : Nat)), .eq (.slice (some ⟨bL, oL, none⟩) LR.length q10), .eq (.int .i64 (k : Nat)), .eq (.int .i64 (j : Nat)), .eq (.pointer (some ⟨bL, oL + j, none⟩)), .eq (.int .i64 (x2 : Nat)), .eq (.bool false), .eq (.bool false), .eq (.bool false)]) (by kernel_rfl) (phi_mono _) (by kernel_rfl) (by kernel_rfl) (by rfl) (HSR.out.drew) (Go.Rg.steps_ok ?st13) ?fi13
       case st13 =>
        refine ⟨mv fun a w hat => hat.b 10, ?_⟩
        refine ⟨mv fun a w hat => hat.b 13, ?_⟩
        refine ⟨fun a w hat K hK => ?_, ?_⟩
        ·have e69 : a.tmps[69]?.getD undef = .slice (some ⟨bL, oL, none⟩) LR.length q10 := hat.d 0 69
         have e70 : a.tmps[70]?.getD undef = .int .i64 (k : Nat) := hat.d 1 70
         have hSt := hat.st
         rw [if_pos (by rfl)]
         go_simp
         exact hK.out _ _ hSt (Below.refl _ _) rfl
        refine ⟨fun a w hat K hK => ?_, ?_⟩
        ·have e71 : a.tmps[71]?.getD undef = .pointer (some ⟨bL, oL + k, none⟩) := hat.d 2 71
         have hSt := hat.st
         rw [if_pos (by rfl)]
         have hc := (hSt.2.2.2.1.out.cell (p := ⟨bL, oL + k, none⟩) HBG.out).trans HCX.out
         go_simp
         exact hK.out _ _ hSt (Below.refl _ _) rfl
        refine ⟨fun a w hat K hK => ?_, ?_⟩
        ·have e72 : a.tmps[72]?.getD undef = .int .i64 (x : Nat) := hat.d 3 72
         have hSt := hat.st
         rw [if_pos (by rfl)]
         go_simp
         exact hK.out _ _ hSt (Below.refl _ _) rfl
        refine ⟨mv fun a w hat => hat.d 4 73, ?_⟩
        refine ⟨mvg 5 74 false fun a w hat => hat.b 10, ?_⟩
        refine ⟨mvg 5 74 false fun a w hat => hat.b 13, ?_⟩
        refine ⟨fun a w hat K hK => ?_, ?_⟩
        ·have e75 : a.tmps[75]?.getD undef = .slice (some ⟨bL, oL, none⟩) LR.length q10 := hat.d 6 75
         have e76 : a.tmps[76]?.getD undef = .int .i64 (k : Nat) := hat.d 7 76
         have hSt := hat.st
         rw [if_pos (wy hat 5 74 false)]
         go_simp
         exact hK.out _ _ hSt (Below.refl _ _) rfl
        refine ⟨fun a w hat K hK => ?_, ?_⟩
        ·have e77 : a.tmps[77]?.getD undef = .pointer (some ⟨bL, oL + k, none⟩) := hat.d 8 77
         have hSt := hat.st
         rw [if_pos (wy hat 5 74 false)]
         have hc := (hSt.2.2.2.1.out.cell (p := ⟨bL, oL + k, none⟩) HBG.out).trans HCX.out
         go_simp
         exact hK.out _ _ hSt (Below.refl _ _) rfl
        refine ⟨mvg 5 74 false fun a w hat => hat.b 7, ?_⟩
        refine ⟨fun a w hat K hK => ?_, ?_⟩
        ·have e78 : a.tmps[78]?.getD undef = .int .i64 (x : Nat) := hat.d 9 78
         have e79 : a.tmps[79]?.getD undef = .int .i64 (F.q : Nat) := hat.d 10 79
         have hSt := hat.st
         rw [if_pos (wy hat 5 74 false)]
         go_simp
         exact hK.out _ _ hSt (Below.refl _ _) rfl
        refine ⟨fun a w hat K hK => ?_, ?_⟩
        ·have e74 : a.tmps[74]?.getD undef = .bool false := hat.d 5 74
         have e80 : a.tmps[80]?.getD undef = .bool false := hat.d 11 80
         have hSt := hat.st
         rw [if_pos (by rfl)]
         go_simp
         exact hK.out _ _ hSt (Below.refl _ _) rfl
        refine ⟨mv fun a w hat => hat.d 12 81, ?_⟩
        refine ⟨mvg 13 82 false fun a w hat => hat.b 13, ?_⟩
        refine ⟨fun a w hat K hK => ?_, ?_⟩
        ·have e83 : a.tmps[83]?.getD undef = .int .i64 (k : Nat) := hat.d 14 83
         have hSt := hat.st
         rw [if_pos (wy hat 13 82 false)]
         go_simp
         exact hK.out _ _ hSt (Below.refl _ _) rfl
        refine ⟨mvg 13 82 false fun a w hat => hat.d 15 84, ?_⟩
        refine ⟨mvg 16 85 true fun a w hat => hat.b 10, ?_⟩
        refine ⟨mvg 16 85 true fun a w hat => hat.b 13, ?_⟩
        refine ⟨fun a w hat K hK => ?_, ?_⟩
        ·have e86 : a.tmps[86]?.getD undef = .slice (some ⟨bL, oL, none⟩) LR.length q10 := hat.d 17 86
         have e87 : a.tmps[87]?.getD undef = .int .i64 (k : Nat) := hat.d 18 87
         have hSt := hat.st
         rw [if_pos (wy hat 16 85 true)]
         go_simp
         exact hK.out _ _ hSt (Below.refl _ _) rfl
        refine ⟨fun a w hat K hK => ?_, ?_⟩
        ·have e88 : a.tmps[88]?.getD undef = .pointer (some ⟨bL, oL + k, none⟩) := hat.d 19 88
         have hSt := hat.st
         rw [if_pos (wy hat 16 85 true)]
         have hc := (hSt.2.2.2.1.out.cell (p := ⟨bL, oL + k, none⟩) HBG.out).trans HCX.out
         go_simp
         exact hK.out _ _ hSt (Below.refl _ _) rfl
        refine ⟨mvg 16 85 true fun a w hat => hat.b 10, ?_⟩
        refine ⟨mvg 16 85 true fun a w hat => hat.b 13, ?_⟩
        refine ⟨fun a w hat K hK => ?_, ?_⟩
        ·have e91 : a.tmps[91]?.getD undef = .int .i64 (k : Nat) := hat.d 22 91
         have hSt := hat.st
         rw [if_pos (wy hat 16 85 true)]
         go_simp
         exact hK.out _ _ hSt (Below.refl _ _) rfl
        refine ⟨fun a w hat K hK => ?_, ?_⟩
        ·have e90 : a.tmps[90]?.getD undef = .slice (some ⟨bL, oL, none⟩) LR.length q10 := hat.d 21 90
         have e92 : a.tmps[92]?.getD undef = .int .i64 (j : Nat) := hat.d 23 92
         have hSt := hat.st
         rw [if_pos (wy hat 16 85 true)]
         go_simp
         exact hK.out _ _ hSt (Below.refl _ _) rfl
        refine ⟨fun a w hat K hK => ?_, ?_⟩
        ·have e93 : a.tmps[93]?.getD undef = .pointer (some ⟨bL, oL + j, none⟩) := hat.d 24 93
         have hSt := hat.st
         rw [if_pos (wy hat 16 85 true)]
         have hc := (hSt.2.2.2.1.out.cell (p := ⟨bL, oL + j, none⟩) HBG.out).trans HCY.out
         go_simp
         exact hK.out _ _ hSt (Below.refl _ _) rfl
        refine ⟨fun a w hat K hK => ?_, ?_⟩
        ·have e89 : a.tmps[89]?.getD undef = .int .i64 (x : Nat) := hat.d 20 89
         have e94 : a.tmps[94]?.getD undef = .int .i64 (x2 : Nat) := hat.d 25 94
         have hSt := hat.st
         rw [if_pos (wy hat 16 85 true)]
         go_simp
         exact hK.out _ _ hSt (Below.refl _ _) rfl
        refine ⟨fun a w hat K hK => ?_, ?_⟩
        ·have e85 : a.tmps[85]?.getD undef = .bool true := hat.d 16 85
         have e95 : a.tmps[95]?.getD undef = .bool false := hat.d 26 95
         have hSt := hat.st
         rw [if_pos (wy hat 13 82 false)]
         go_simp
         exact hK.out _ _ hSt (Below.refl _ _) rfl
        refine ⟨fun a w hat K hK => ?_, ?_⟩
        ·have e82 : a.tmps[82]?.getD undef = .bool false := hat.d 13 82
         have e96 : a.tmps[96]?.getD undef = .bool false := hat.d 27 96
         have hSt := hat.st
         rw [if_pos (by rfl)]
         go_simp
         exact hK.out _ _ hSt (Below.refl _ _) rfl
        exact trivial
       intro a w7 hsz hdf hbase hSt hval
       obtain ⟨t, df⟩ := a
       have et := Go.Rg.tmps_of hsz [69, 70, 71, 72, 73, 74, 75, 76, 77, 78, 79, 80, 81, 82, 83, 84, 85, 86, 87, 88, 89, 90, 91, 92, 93, 94, 95, 96, 97] (fun k hk => hbase k (Go.Rg.base_of (by kernel_rfl) hk))
       have x97 : t.getD 97 undef = .bool false := hval 28 97 (by kernel_rfl)
       clear hval hbase hsz
       simp only [List.foldl_cons, List.foldl_nil, x97] at et
       rw [et]
       have hdf' : df = _ := hdf
       rw [hdf']
       simp only [List.setIfInBounds_toArray, List.set_cons_zero, List.set_cons_succ]
       clear et hdf hdf'
       have HBN := Lib.hid (HB.out.trans (hSt.2.2.2.1.out.mono HB.out.size))
       have hc18 := (hSt.2.2.2.1.out.cell (p := ⟨bL, oL + k, none⟩) HBG.out).trans HCX.out
       clear hSt
       go_wp2
       go_roundw
       case rel => exact ⟨k + 1, by omega, HNX.out, by go_num, HBN⟩
       case measure => simp [intOf]; omega
      ·have hxe : ((x : Int) == (v : Int)) = false := beq_eq_false_iff_ne.2 (by omega)
       have HNX : Hid (Value.bool false = .bool (decide (v ∈ LR.take (k + 1)))) := Lib.hid (by rw [HTK.out, HIS.out]; simp [hxv])
       have HXV := Lib.hid hxv
       clear hxv
       go_upto_region 16 with (fail)
       refine Go.Rg.region_by (S := fun w' => SL W wr gF F b cap (.int .u8 (q : Nat)) (.slice aA A.length cA) (.slice aB B.length cB) (.slice aC C.length cC) w') (R := fun w w' => Below w.heap.size w w') (φ := phi F b cap [.eq (.slice (some ⟨bL, oL, none⟩) LR.length q10), .eq (.int .i64 (k : Nat)), .eq (.pointer (some ⟨bL, oL + k, none⟩)), .eq (.int .i64 (x : Nat)), .eq (.bool false), .eq (.bool false), .eq (.slice (some ⟨bL, oL, none⟩) LR.length q10), .eq (.int .i64 (k : Nat)), .eq (.pointer (some ⟨bL, oL + k, none⟩)), .eq (.int .i64 (x : Nat)), .eq (.int .i64 (F.q : Nat)), .eq (.bool false), .eq (.bool false), .eq (.bool false), .eq (.int .i64 (k : Nat)), .eq (.bool true), .eq (.bool true), .eq (.slice (some ⟨bL, oL, none⟩) LR.length q10), .eq (.int .i64 (k : Nat)), .eq (.pointer (some ⟨bL, oL + k, none⟩)), .eq (.int .i64 (x : Nat)), .eq (.slice (some ⟨bL, oL, none⟩) LR.length q10), .eq (.int .i64 (k : Nat)), .eq (.int .i64 (j : Nat)), .eq (.pointer (some ⟨bL, oL + j, none⟩)), .eq (.int .i64 (x2 : Nat)), .eq (.bool false), .eq (.bool false), .eq (.bool false)]) (by kernel_rfl) (phi_mono _) (by kernel_rfl) (by kernel_rfl) (by rfl) (HSR.out.drew) (Go.Rg.steps_ok ?st14) ?fi14
       case st14 =>
        refine ⟨mv fun a w hat => hat.b 10, ?_⟩
        refine ⟨mv fun a w hat => hat.b 13, ?_⟩
        refine ⟨fun a w hat K hK => ?_, ?_⟩
        ·have e69 : a.tmps[69]?.getD undef = .slice (some ⟨bL, oL, none⟩) LR.length q10 := hat.d 0 69
         have e70 : a.tmps[70]?.getD undef = .int .i64 (k : Nat) := hat.d 1 70
         have hSt := hat.st
         rw [if_pos (by rfl)]
         go_simp
         exact hK.out _ _ hSt (Below.refl _ _) rfl
        refine ⟨fun a w hat K hK => ?_, ?_⟩
        ·have e71 : a.tmps[71]?.getD undef = .pointer (some ⟨bL, oL + k, none⟩) := hat.d 2 71
         have hSt := hat.st
         rw [if_pos (by rfl)]
         have hc := (hSt.2.2.2.1.out.cell (p := ⟨bL, oL + k, none⟩) HBG.out).trans HCX.out
         go_simp
         exact hK.out _ _ hSt (Below.refl _ _) rfl
        refine ⟨fun a w hat K hK => ?_, ?_⟩
        ·have e72 : a.tmps[72]?.getD undef = .int .i64 (x : Nat) := hat.d 3 72
         have hSt := hat.st
         rw [if_pos (by rfl)]
         go_simp
         exact hK.out _ _ hSt (Below.refl _ _) rfl
        refine ⟨mv fun a w hat => hat.d 4 73, ?_⟩
        refine ⟨mvg 5 74 false fun a w hat => hat.b 10, ?_⟩
        refine ⟨mvg 5 74 false fun a w hat => hat.b 13, ?_⟩
        refine ⟨fun a w hat K hK => ?_, ?_⟩
        ·have e75 : a.tmps[75]?.getD undef = .slice (some ⟨bL, oL, none⟩) LR.length q10 := hat.d 6 75
         have e76 : a.tmps[76]?.getD undef = .int .i64 (k : Nat) := hat.d 7 76
         have hSt := hat.st
         rw [if_pos (wy hat 5 74 false)]
         go_simp
         exact hK.out _ _ hSt (Below.refl _ _) rfl
        refine ⟨fun a w hat K hK => ?_, ?_⟩
        ·have e77 : a.tmps[77]?.getD undef = .pointer (some ⟨bL, oL + k, none⟩) := hat.d 8 77
         have hSt := hat.st
         rw [if_pos (wy hat 5 74 false)]
         have hc := (hSt.2.2.2.1.out.cell (p := ⟨bL, oL + k, none⟩) HBG.out).trans HCX.out
         go_simp
         exact hK.out _ _ hSt (Below.refl _ _) rfl
        refine ⟨mvg 5 74 false fun a w hat => hat.b 7, ?_⟩
        refine ⟨fun a w hat K hK => ?_, ?_⟩
        ·have e78 : a.tmps[78]?.getD undef = .int .i64 (x : Nat) := hat.d 9 78
         have e79 : a.tmps[79]?.getD undef = .int .i64 (F.q : Nat) := hat.d 10 79
         have hSt := hat.st
         rw [if_pos (wy hat 5 74 false)]
         go_simp
         exact hK.out _ _ hSt (Below.refl _ _) rfl
        refine ⟨fun a w hat K hK => ?_, ?_⟩
        ·have e74 : a.tmps[74]?.getD undef = .bool false := hat.d 5 74
         have e80 : a.tmps[80]?.getD undef = .bool false := hat.d 11 80
         have hSt := hat.st
         rw [if_pos (by rfl)]
         go_simp
         exact hK.out _ _ hSt (Below.refl _ _) rfl
        refine ⟨mv fun a w hat => hat.d 12 81, ?_⟩
        refine ⟨mvg 13 82 false fun a w hat => hat.b 13, ?_⟩
        refine ⟨fun a w hat K hK => ?_, ?_⟩
        ·have e83 : a.tmps[83]?.getD undef = .int .i64 (k : Nat) := hat.d 14 83
         have hSt := hat.st
         rw [if_pos (wy hat 13 82 false)]
         go_simp
         exact hK.out _ _ hSt (Below.refl _ _) rfl
        refine ⟨mvg 13 82 false fun a w hat => hat.d 15 84, ?_⟩
        refine ⟨mvg 16 85 true fun a w hat => hat.b 10, ?_⟩
        refine ⟨mvg 16 85 true fun a w hat => hat.b 13, ?_⟩
        refine ⟨fun a w hat K hK => ?_, ?_⟩
        ·have e86 : a.tmps[86]?.getD undef = .slice (some ⟨bL, oL, none⟩) LR.length q10 := hat.d 17 86
         have e87 : a.tmps[87]?.getD undef = .int .i64 (k : Nat) := hat.d 18 87
         have hSt := hat.st
         rw [if_pos (wy hat 16 85 true)]
         go_simp
         exact hK.out _ _ hSt (Below.refl _ _) rfl
        refine ⟨fun a w hat K hK => ?_, ?_⟩
        ·have e88 : a.tmps[88]?.getD undef = .pointer (some ⟨bL, oL + k, none⟩) := hat.d 19 88
         have hSt := hat.st
         rw [if_pos (wy hat 16 85 true)]
         have hc := (hSt.2.2.2.1.out.cell (p := ⟨bL, oL + k, none⟩) HBG.out).trans HCX.out
         go_simp
         exact hK.out _ _ hSt (Below.refl _ _) rfl
        refine ⟨mvg 16 85 true fun a w hat => hat.b 10, ?_⟩
        refine ⟨mvg 16 85 true fun a w hat => hat.b 13, ?_⟩
        refine ⟨fun a w hat K hK => ?_, ?_⟩
        ·have e91 : a.tmps[91]?.getD undef = .int .i64 (k : Nat) := hat.d 22 91
         have hSt := hat.st
         rw [if_pos (wy hat 16 85 true)]
         go_simp
         exact hK.out _ _ hSt (Below.refl _ _) rfl
        refine ⟨fun a w hat K hK => ?_, ?_⟩
        ·have e90 : a.tmps[90]?.getD undef = .slice (some ⟨bL, oL, none⟩) LR.length q10 := hat.d 21 90
         have e92 : a.tmps[92]?.getD undef = .int .i64 (j : Nat) := hat.d 23 92
         have hSt := hat.st
         rw [if_pos (wy hat 16 85 true)]
         go_simp
         exact hK.out _ _ hSt (Below.refl _ _) rfl
        refine ⟨fun a w hat K hK => ?_, ?_⟩
        ·have e93 : a.tmps[93]?.getD undef = .pointer (some ⟨bL, oL + j, none⟩) := hat.d 24 93
         have hSt := hat.st
         rw [if_pos (wy hat 16 85 true)]
         have hc := (hSt.2.2.2.1.out.cell (p := ⟨bL, oL + j, none⟩) HBG.out).trans HCY.out
         go_simp
         exact hK.out _ _ hSt (Below.refl _ _) rfl
        refine ⟨fun a w hat K hK => ?_, ?_⟩
        ·have e89 : a.tmps[89]?.getD undef = .int .i64 (x : Nat) := hat.d 20 89
         have e94 : a.tmps[94]?.getD undef = .int .i64 (x2 : Nat) := hat.d 25 94
         have hSt := hat.st
         rw [if_pos (wy hat 16 85 true)]
         go_simp
         exact hK.out _ _ hSt (Below.refl _ _) rfl
        refine ⟨fun a w hat K hK => ?_, ?_⟩
        ·have e85 : a.tmps[85]?.getD undef = .bool true := hat.d 16 85
         have e95 : a.tmps[95]?.getD undef = .bool false := hat.d 26 95
         have hSt := hat.st
         rw [if_pos (wy hat 13 82 false)]
         go_simp
         exact hK.out _ _ hSt (Below.refl _ _) rfl
        refine ⟨fun a w hat K hK => ?_, ?_⟩
        ·have e82 : a.tmps[82]?.getD undef = .bool false := hat.d 13 82
         have e96 : a.tmps[96]?.getD undef = .bool false := hat.d 27 96
         have hSt := hat.st
         rw [if_pos (by rfl)]
         go_simp
         exact hK.out _ _ hSt (Below.refl _ _) rfl
        exact trivial
       intro a w7 hsz hdf hbase hSt hval
       obtain ⟨t, df⟩ := a
       have et := Go.Rg.tmps_of hsz [69, 70, 71, 72, 73, 74, 75, 76, 77, 78, 79, 80, 81, 82, 83, 84, 85, 86, 87, 88, 89, 90, 91, 92, 93, 94, 95, 96, 97] (fun k hk => hbase k (Go.Rg.base_of (by kernel_rfl) hk))
       have x97 : t.getD 97 undef = .bool false := hval 28 97 (by kernel_rfl)
       clear hval hbase hsz
       simp only [List.foldl_cons, List.foldl_nil, x97] at et
       rw [et]
       have hdf' : df = _ := hdf
       rw [hdf']
       simp only [List.setIfInBounds_toArray, List.set_cons_zero, List.set_cons_succ]
       clear et hdf hdf'
       have HBN := Lib.hid (HB.out.trans (hSt.2.2.2.1.out.mono HB.out.size))
       have hc18 := (hSt.2.2.2.1.out.cell (p := ⟨bL, oL + k, none⟩) HBG.out).trans HCX.out
       clear hSt
       go_wp2
       go_roundw
       case rel => exact ⟨k + 1, by omega, HNX.out, by go_num, HBN⟩
       case measure => simp [intOf]; omega
    ·have hk0i : ¬ (0 : Int) < (k : Int) := by omega
     cases is with
     | true =>
      have HNX : Hid (Value.bool true = .bool (decide (v ∈ LR.take (k + 1)))) := Lib.hid (by rw [HTK.out, HIS.out]; rfl)
      go_upto_region 16 with (fail)
      refine Go.Rg.region_by (S := fun w' => SL W wr gF F b cap (.int .u8 (q : Nat)) (.slice aA A.length cA) (.slice aB B.length cB) (.slice aC C.length cC) w') (R := fun w w' => Below w.heap.size w w') (φ := phi F b cap [.eq (.slice (some ⟨bL, oL, none⟩) LR.length q10), .eq (.int .i64 (k : Nat)), .eq (.pointer (some ⟨bL, oL + k, none⟩)), .eq (.int .i64 (x : Nat)), .eq (.bool false), .eq (.bool false), .eq (.slice (some ⟨bL, oL, none⟩) LR.length q10), .eq (.int .i64 (k : Nat)), .eq (.pointer (some ⟨bL, oL + k, none⟩)), .eq (.int .i64 (x : Nat)), .eq (.int .i64 (F.q : Nat)), .eq (.bool false), .eq (.bool false), .eq (.bool false), .eq (.int .i64 (k : Nat)), .eq (.bool false), .eq (.bool false), .any, .any, .any, .any, .any, .any, .any, .any, .any, .any, .eq (.bool false), .eq (.bool false)]) (by kernel_rfl) (phi_mono _) (by kernel_rfl) (by kernel_rfl) (by rfl) (HSR.out.drew) (Go.Rg.steps_ok ?st15) ?fi15
      case st15 =>
       refine ⟨mv fun a w hat => hat.b 10, ?_⟩
       refine ⟨mv fun a w hat => hat.b 13, ?_⟩
       refine ⟨fun a w hat K hK => ?_, ?_⟩
       ·have e69 : a.tmps[69]?.getD undef = .slice (some ⟨bL, oL, none⟩) LR.length q10 := hat.d 0 69
        have e70 : a.tmps[70]?.getD undef = .int .i64 (k : Nat) := hat.d 1 70
        have hSt := hat.st
        rw [if_pos (by rfl)]
        go_simp
        exact hK.out _ _ hSt (Below.refl _ _) rfl
       refine ⟨fun a w hat K hK => ?_, ?_⟩
       ·have e71 : a.tmps[71]?.getD undef = .pointer (some ⟨bL, oL + k, none⟩) := hat.d 2 71
        have hSt := hat.st
        rw [if_pos (by rfl)]
        have hc := (hSt.2.2.2.1.out.cell (p := ⟨bL, oL + k, none⟩) HBG.out).trans HCX.out
        go_simp
        exact hK.out _ _ hSt (Below.refl _ _) rfl
       refine ⟨fun a w hat K hK => ?_, ?_⟩
       ·have e72 : a.tmps[72]?.getD undef = .int .i64 (x : Nat) := hat.d 3 72
        have hSt := hat.st
        rw [if_pos (by rfl)]
        go_simp
        exact hK.out _ _ hSt (Below.refl _ _) rfl
       refine ⟨mv fun a w hat => hat.d 4 73, ?_⟩
       refine ⟨mvg 5 74 false fun a w hat => hat.b 10, ?_⟩
       refine ⟨mvg 5 74 false fun a w hat => hat.b 13, ?_⟩
       refine ⟨fun a w hat K hK => ?_, ?_⟩
       ·have e75 : a.tmps[75]?.getD undef = .slice (some ⟨bL, oL, none⟩) LR.length q10 := hat.d 6 75
        have e76 : a.tmps[76]?.getD undef = .int .i64 (k : Nat) := hat.d 7 76
        have hSt := hat.st
        rw [if_pos (wy hat 5 74 false)]
        go_simp
        exact hK.out _ _ hSt (Below.refl _ _) rfl
       refine ⟨fun a w hat K hK => ?_, ?_⟩
       ·have e77 : a.tmps[77]?.getD undef = .pointer (some ⟨bL, oL + k, none⟩) := hat.d 8 77
        have hSt := hat.st
        rw [if_pos (wy hat 5 74 false)]
        have hc := (hSt.2.2.2.1.out.cell (p := ⟨bL, oL + k, none⟩) HBG.out).trans HCX.out
        go_simp
        exact hK.out _ _ hSt (Below.refl _ _) rfl
       refine ⟨mvg 5 74 false fun a w hat => hat.b 7, ?_⟩
       refine ⟨fun a w hat K hK => ?_, ?_⟩
       ·have e78 : a.tmps[78]?.getD undef = .int .i64 (x : Nat) := hat.d 9 78
        have e79 : a.tmps[79]?.getD undef = .int .i64 (F.q : Nat) := hat.d 10 79
        have hSt := hat.st
        rw [if_pos (wy hat 5 74 false)]
        go_simp
        exact hK.out _ _ hSt (Below.refl _ _) rfl
       refine ⟨fun a w hat K hK => ?_, ?_⟩
       ·have e74 : a.tmps[74]?.getD undef = .bool false := hat.d 5 74
        have e80 : a.tmps[80]?.getD undef = .bool false := hat.d 11 80
        have hSt := hat.st
        rw [if_pos (by rfl)]
        go_simp
        exact hK.out _ _ hSt (Below.refl _ _) rfl
       refine ⟨mv fun a w hat => hat.d 12 81, ?_⟩
       refine ⟨mvg 13 82 false fun a w hat => hat.b 13, ?_⟩
       refine ⟨fun a w hat K hK => ?_, ?_⟩
       ·have e83 : a.tmps[83]?.getD undef = .int .i64 (k : Nat) := hat.d 14 83
        have hSt := hat.st
        rw [if_pos (wy hat 13 82 false)]
        go_simp
        exact hK.out _ _ hSt (Below.refl _ _) rfl
       refine ⟨mvg 13 82 false fun a w hat => hat.d 15 84, ?_⟩
       refine ⟨no 16 85 false, ?_⟩
       refine ⟨no 16 85 false, ?_⟩
       refine ⟨no 16 85 false, ?_⟩
       refine ⟨no 16 85 false, ?_⟩
       refine ⟨no 16 85 false, ?_⟩
       refine ⟨no 16 85 false, ?_⟩
       refine ⟨no 16 85 false, ?_⟩
       refine ⟨no 16 85 false, ?_⟩
       refine ⟨no 16 85 false, ?_⟩
       refine ⟨no 16 85 false, ?_⟩
       refine ⟨fun a w hat K hK => ?_, ?_⟩
       ·have e85 : a.tmps[85]?.getD undef = .bool false := hat.d 16 85
        have hSt := hat.st
        rw [if_pos (wy hat 13 82 false)]
        go_simp
        exact hK.out _ _ hSt (Below.refl _ _) rfl
       refine ⟨fun a w hat K hK => ?_, ?_⟩
       ·have e82 : a.tmps[82]?.getD undef = .bool false := hat.d 13 82
        have e96 : a.tmps[96]?.getD undef = .bool false := hat.d 27 96
        have hSt := hat.st
        rw [if_pos (by rfl)]
        go_simp
        exact hK.out _ _ hSt (Below.refl _ _) rfl
       exact trivial
      intro a w7 hsz hdf hbase hSt hval
      obtain ⟨t, df⟩ := a
      have et := Go.Rg.tmps_of hsz [69, 70, 71, 72, 73, 74, 75, 76, 77, 78, 79, 80, 81, 82, 83, 84, 85, 86, 87, 88, 89, 90, 91, 92, 93, 94, 95, 96, 97] (fun k hk => hbase k (Go.Rg.base_of (by kernel_rfl) hk))
      have x97 : t.getD 97 undef = .bool false := hval 28 97 (by kernel_rfl)
      clear hval hbase hsz
      simp only [List.foldl_cons, List.foldl_nil, x97] at et
      rw [et]
      have hdf' : df = _ := hdf
      rw [hdf']
      simp only [List.setIfInBounds_toArray, List.set_cons_zero, List.set_cons_succ]
      clear et hdf hdf'
      have HBN := Lib.hid (HB.out.trans (hSt.2.2.2.1.out.mono HB.out.size))
      have hc18 := (hSt.2.2.2.1.out.cell (p := ⟨bL, oL + k, none⟩) HBG.out).trans HCX.out
      clear hSt
      go_wp2
      go_roundw
      case rel => exact ⟨k + 1, by omega, HNX.out, by go_num, HBN⟩
      case measure => simp [intOf]; omega
     | false =>
      by_cases hxv : x = v
      ·have hxe : ((x : Int) == (v : Int)) = true := beq_iff_eq.2 (by omega)
       have HNX : Hid (Value.bool true = .bool (decide (v ∈ LR.take (k + 1)))) := Lib.hid (by rw [HTK.out, HIS.out]; simp [hxv])
       have HXV := Lib.hid hxv
       clear hxv
       go_upto_region 16 with (fail)
       refine Go.Rg.region_by (S := fun w' => SL W wr gF F b cap (.int .u8 (q : Nat)) (.slice aA A.length cA) (.slice aB B.length cB) (.slice aC C.length cC) w') (R := fun w w' => Below w.heap.size w w') (φ := phi F b cap [.eq (.slice (some ⟨bL, oL, none⟩) LR.length q10), .eq (.int .i64 (k : Nat)), .eq (.pointer (some ⟨bL, oL + k, none⟩)), .eq (.int .i64 (x : Nat)), .eq (.bool false), .eq (.bool false), .eq (.slice (some ⟨bL, oL, none⟩) LR.length q10), .eq (.int .i64 (k : Nat)), .eq (.pointer (some ⟨bL, oL + k, none⟩)), .eq (.int .i64 (x : Nat)), .eq (.int .i64 (F.q : Nat)), .eq (.bool false), .eq (.bool false), .eq (.bool false), .eq (.int .i64 (k : Nat)), .eq (.bool false), .eq (.bool false), .any, .any, .any, .any, .any, .any, .any, .any, .any, .any, .eq (.bool false), .eq (.bool false)]) (by kernel_rfl) (phi_mono _) (by kernel_rfl) (by kernel_rfl) (by rfl) (HSR.out.drew) (Go.Rg.steps_ok ?st16) ?fi16
       case st16 =>
        refine ⟨mv fun a w hat => hat.b 10, ?_⟩
        refine ⟨mv fun a w hat => hat.b 13, ?_⟩
        refine ⟨fun a w hat K hK => ?_, ?_⟩
        ·have e69 : a.tmps[69]?.getD undef = .slice (some ⟨bL, oL, none⟩) LR.length q10 := hat.d 0 69
         have e70 : a.tmps[70]?.getD undef = .int .i64 (k : Nat) := hat.d 1 70
         have hSt := hat.st
         rw [if_pos (by rfl)]
         go_simp
         exact hK.out _ _ hSt (Below.refl _ _) rfl
        refine ⟨fun a w hat K hK => ?_, ?_⟩
        ·have e71 : a.tmps[71]?.getD undef = .pointer (some ⟨bL, oL + k, none⟩) := hat.d 2 71
         have hSt := hat.st
         rw [if_pos (by rfl)]
         have hc := (hSt.2.2.2.1.out.cell (p := ⟨bL, oL + k, none⟩) HBG.out).trans HCX.out
         go_simp
         exact hK.out _ _ hSt (Below.refl _ _) rfl
        refine ⟨fun a w hat K hK => ?_, ?_⟩
        ·have e72 : a.tmps[72]?.getD undef = .int .i64 (x : Nat) := hat.d 3 72
         have hSt := hat.st
         rw [if_pos (by rfl)]
         go_simp
         exact hK.out _ _ hSt (Below.refl _ _) rfl
        refine ⟨mv fun a w hat => hat.d 4 73, ?_⟩
        refine ⟨mvg 5 74 false fun a w hat => hat.b 10, ?_⟩
        refine ⟨mvg 5 74 false fun a w hat => hat.b 13, ?_⟩
        refine ⟨fun a w hat K hK => ?_, ?_⟩
        ·have e75 : a.tmps[75]?.getD undef = .slice (some ⟨bL, oL, none⟩) LR.length q10 := hat.d 6 75
         have e76 : a.tmps[76]?.getD undef = .int .i64 (k : Nat) := hat.d 7 76
         have hSt := hat.st
         rw [if_pos (wy hat 5 74 false)]
         go_simp
         exact hK.out _ _ hSt (Below.refl _ _) rfl
        refine ⟨fun a w hat K hK => ?_, ?_⟩
        ·have e77 : a.tmps[77]?.getD undef = .pointer (some ⟨bL, oL + k, none⟩) := hat.d 8 77
         have hSt := hat.st
         rw [if_pos (wy hat 5 74 false)]
         have hc := (hSt.2.2.2.1.out.cell (p := ⟨bL, oL + k, none⟩) HBG.out).trans HCX.out
         go_simp
         exact hK.out _ _ hSt (Below.refl _ _) rfl
        refine ⟨mvg 5 74 false fun a w hat => hat.b 7, ?_⟩
        refine ⟨fun a w hat K hK => ?_, ?_⟩
        ·have e78 : a.tmps[78]?.getD undef = .int .i64 (x : Nat) := hat.d 9 78
         have e79 : a.tmps[79]?.getD undef = .int .i64 (F.q : Nat) := hat.d 10 79
         have hSt := hat.st
         rw [if_pos (wy hat 5 74 false)]
         go_simp
         exact hK.out _ _ hSt (Below.refl _ _) rfl
        refine ⟨fun a w hat K hK => ?_, ?_⟩
        ·have e74 : a.tmps[74]?.getD undef = .bool false := hat.d 5 74
         have e80 : a.tmps[80]?.getD undef = .bool false := hat.d 11 80
         have hSt := hat.st
         rw [if_pos (by rfl)]
         go_simp
         exact hK.out _ _ hSt (Below.refl _ _) rfl
        refine ⟨mv fun a w hat => hat.d 12 81, ?_⟩
        refine ⟨mvg 13 82 false fun a w hat => hat.b 13, ?_⟩
        refine ⟨fun a w hat K hK => ?_, ?_⟩
        ·have e83 : a.tmps[83]?.getD undef = .int .i64 (k : Nat) := hat.d 14 83
         have hSt := hat.st
         rw [if_pos (wy hat 13 82 false)]
         go_simp
         exact hK.out _ _ hSt (Below.refl _ _) rfl
        refine ⟨mvg 13 82 false fun a w hat => hat.d 15 84, ?_⟩
        refine ⟨no 16 85 false, ?_⟩
        refine ⟨no 16 85 false, ?_⟩
        refine ⟨no 16 85 false, ?_⟩
        refine ⟨no 16 85 false, ?_⟩
        refine ⟨no 16 85 false, ?_⟩
        refine ⟨no 16 85 false, ?_⟩
        refine ⟨no 16 85 false, ?_⟩
        refine ⟨no 16 85 false, ?_⟩
        refine ⟨no 16 85 false, ?_⟩
        refine ⟨no 16 85 false, ?_⟩
        refine ⟨fun a w hat K hK => ?_, ?_⟩
        ·have e85 : a.tmps[85]?.getD undef = .bool false := hat.d 16 85
         have hSt := hat.st
         rw [if_pos (wy hat 13 82 false)]
         go_simp
         exact hK.out _ _ hSt (Below.refl _ _) rfl
        refine ⟨fun a w hat K hK => ?_, ?_⟩
        ·have e82 : a.tmps[82]?.getD undef = .bool false := hat.d 13 82
         have e96 : a.tmps[96]?.getD undef = .bool false := hat.d 27 96
         have hSt := hat.st
         rw [if_pos (by rfl)]
         go_simp
         exact hK.out _ _ hSt (Below.refl _ _) rfl
        exact trivial
       intro a w7 hsz hdf hbase hSt hval
       obtain ⟨t, df⟩ := a
       have et := Go.Rg.tmps_of hsz [69, 70, 71, 72, 73, 74, 75, 76, 77, 78, 79, 80, 81, 82, 83, 84, 85, 86, 87, 88, 89, 90, 91, 92, 93, 94, 95, 96, 97] (fun k hk => hbase k (Go.Rg.base_of (by kernel_rfl) hk))
       have x97 : t.getD 97 undef = .bool false := hval 28 97 (by kernel_rfl)
       clear hval hbase hsz
       simp only [List.foldl_cons, List.foldl_nil, x97] at et
       rw [et]
       have hdf' : df = _ := hdf
       rw [hdf']
       simp only [List.setIfInBounds_toArray, List.set_cons_zero, List.set_cons_succ]
       clear et hdf hdf'
       have HBN := Lib.hid (HB.out.trans (hSt.2.2.2.1.out.mono HB.out.size))
       have hc18 := (hSt.2.2.2.1.out.cell (p := ⟨bL, oL + k, none⟩) HBG.out).trans HCX.out
       clear hSt
       go_wp2
       go_roundw
       case rel => exact ⟨k + 1, by omega, HNX.out, by go_num, HBN⟩
       case measure => simp [intOf]; omega
      ·have hxe : ((x : Int) == (v : Int)) = false := beq_eq_false_iff_ne.2 (by omega)
       have HNX : Hid (Value.bool false = .bool (decide (v ∈ LR.take (k + 1)))) := Lib.hid (by rw [HTK.out, HIS.out]; simp [hxv])
       have HXV := Lib.hid hxv
       clear hxv
       go_upto_region 16 with (fail)
       refine Go.Rg.region_by (S := fun w' => SL W wr gF F b cap (.int .u8 (q : Nat)) (.slice aA A.length cA) (.slice aB B.length cB) (.slice aC C.length cC) w') (R := fun w w' => Below w.heap.size w w') (φ := phi F b cap [.eq (.slice (some ⟨bL, oL, none⟩) LR.length q10), .eq (.int .i64 (k : Nat)), .eq (.pointer (some ⟨bL, oL + k, none⟩)), .eq (.int .i64 (x : Nat)), .eq (.bool false), .eq (.bool false), .eq (.slice (some ⟨bL, oL, none⟩) LR.length q10), .eq (.int .i64 (k : Nat)), .eq (.pointer (some ⟨bL, oL + k, none⟩)), .eq (.int .i64 (x : Nat)), .eq (.int .i64 (F.q : Nat)), .eq (.bool false), .eq (.bool false), .eq (.bool false), .eq (.int .i64 (k : Nat)), .eq (.bool false), .eq (.bool false), .any, .any, .any, .any, .any, .any, .any, .any, .any, .any, .eq (.bool false), .eq (.bool false)]) (by kernel_rfl) (phi_mono _) (by kernel_rfl) (by kernel_rfl) (by rfl) (HSR.out.drew) (Go.Rg.steps_ok ?st17) ?fi17
       case st17 =>
        refine ⟨mv fun a w hat => hat.b 10, ?_⟩
        refine ⟨mv fun a w hat => hat.b 13, ?_⟩
        refine ⟨fun a w hat K hK => ?_, ?_⟩
        ·have e69 : a.tmps[69]?.getD undef = .slice (some ⟨bL, oL, none⟩) LR.length q10 := hat.d 0 69
         have e70 : a.tmps[70]?.getD undef = .int .i64 (k : Nat) := hat.d 1 70
         have hSt := hat.st
         rw [if_pos (by rfl)]
         go_simp
         exact hK.out _ _ hSt (Below.refl _ _) rfl
        refine ⟨fun a w hat K hK => ?_, ?_⟩
        ·have e71 : a.tmps[71]?.getD undef = .pointer (some ⟨bL, oL + k, none⟩) := hat.d 2 71
         have hSt := hat.st
         rw [if_pos (by rfl)]
         have hc := (hSt.2.2.2.1.out.cell (p := ⟨bL, oL + k, none⟩) HBG.out).trans HCX.out
         go_simp
         exact hK.out _ _ hSt (Below.refl _ _) rfl
        refine ⟨fun a w hat K hK => ?_, ?_⟩
        ·have e72 : a.tmps[72]?.getD undef = .int .i64 (x : Nat) := hat.d 3 72
         have hSt := hat.st
         rw [if_pos (by rfl)]
         go_simp
         exact hK.out _ _ hSt (Below.refl _ _) rfl
        refine ⟨mv fun a w hat => hat.d 4 73, ?_⟩
        refine ⟨mvg 5 74 false fun a w hat => hat.b 10, ?_⟩
        refine ⟨mvg 5 74 false fun a w hat => hat.b 13, ?_⟩
        refine ⟨fun a w hat K hK => ?_, ?_⟩
        ·have e75 : a.tmps[75]?.getD undef = .slice (some ⟨bL, oL, none⟩) LR.length q10 := hat.d 6 75
         have e76 : a.tmps[76]?.getD undef = .int .i64 (k : Nat) := hat.d 7 76
         have hSt := hat.st
         rw [if_pos (wy hat 5 74 false)]
         go_simp
         exact hK.out _ _ hSt (Below.refl _ _) rfl
        refine ⟨fun a w hat K hK => ?_, ?_⟩
        ·have e77 : a.tmps[77]?.getD undef = .pointer (some ⟨bL, oL + k, none⟩) := hat.d 8 77
         have hSt := hat.st
         rw [if_pos (wy hat 5 74 false)]
         have hc := (hSt.2.2.2.1.out.cell (p := ⟨bL, oL + k, none⟩) HBG.out).trans HCX.out
         go_simp
         exact hK.out _ _ hSt (Below.refl _ _) rfl
        refine ⟨mvg 5 74 false fun a w hat => hat.b 7, ?_⟩
        refine ⟨fun a w hat K hK => ?_, ?_⟩
        ·have e78 : a.tmps[78]?.getD undef = .int .i64 (x : Nat) := hat.d 9 78
         have e79 : a.tmps[79]?.getD undef = .int .i64 (F.q : Nat) := hat.d 10 79
         have hSt := hat.st
         rw [if_pos (wy hat 5 74 false)]
         go_simp
         exact hK.out _ _ hSt (Below.refl _ _) rfl
        refine ⟨fun a w hat K hK => ?_, ?_⟩
        ·have e74 : a.tmps[74]?.getD undef = .bool false := hat.d 5 74
         have e80 : a.tmps[80]?.getD undef = .bool false := hat.d 11 80
         have hSt := hat.st
         rw [if_pos (by rfl)]
         go_simp
         exact hK.out _ _ hSt (Below.refl _ _) rfl
        refine ⟨mv fun a w hat => hat.d 12 81, ?_⟩
        refine ⟨mvg 13 82 false fun a w hat => hat.b 13, ?_⟩
        refine ⟨fun a w hat K hK => ?_, ?_⟩
        ·have e83 : a.tmps[83]?.getD undef = .int .i64 (k : Nat) := hat.d 14 83
         have hSt := hat.st
         rw [if_pos (wy hat 13 82 false)]
         go_simp
         exact hK.out _ _ hSt (Below.refl _ _) rfl
        refine ⟨mvg 13 82 false fun a w hat => hat.d 15 84, ?_⟩
        refine ⟨no 16 85 false, ?_⟩
        refine ⟨no 16 85 false, ?_⟩
        refine ⟨no 16 85 false, ?_⟩
        refine ⟨no 16 85 false, ?_⟩
        refine ⟨no 16 85 false, ?_⟩
        refine ⟨no 16 85 false, ?_⟩
        refine ⟨no 16 85 false, ?_⟩
        refine ⟨no 16 85 false, ?_⟩
        refine ⟨no 16 85 false, ?_⟩
        refine ⟨no 16 85 false, ?_⟩
        refine ⟨fun a w hat K hK => ?_, ?_⟩
        ·have e85 : a.tmps[85]?.getD undef = .bool false := hat.d 16 85
         have hSt := hat.st
         rw [if_pos (wy hat 13 82 false)]
         go_simp
         exact hK.out _ _ hSt (Below.refl _ _) rfl
        refine ⟨fun a w hat K hK => ?_, ?_⟩
        ·have e82 : a.tmps[82]?.getD undef = .bool false := hat.d 13 82
         have e96 : a.tmps[96]?.getD undef = .bool false := hat.d 27 96
         have hSt := hat.st
         rw [if_pos (by rfl)]
         go_simp
         exact hK.out _ _ hSt (Below.refl _ _) rfl
        exact trivial
       intro a w7 hsz hdf hbase hSt hval
       obtain ⟨t, df⟩ := a
       have et := Go.Rg.tmps_of hsz [69, 70, 71, 72, 73, 74, 75, 76, 77, 78, 79, 80, 81, 82, 83, 84, 85, 86, 87, 88, 89, 90, 91, 92, 93, 94, 95, 96, 97] (fun k hk => hbase k (Go.Rg.base_of (by kernel_rfl) hk))
       have x97 : t.getD 97 undef = .bool false := hval 28 97 (by kernel_rfl)
       clear hval hbase hsz
       simp only [List.foldl_cons, List.foldl_nil, x97] at et
       rw [et]
       have hdf' : df = _ := hdf
       rw [hdf']
       simp only [List.setIfInBounds_toArray, List.set_cons_zero, List.set_cons_succ]
       clear et hdf hdf'
       have HBN := Lib.hid (HB.out.trans (hSt.2.2.2.1.out.mono HB.out.size))
       have hc18 := (hSt.2.2.2.1.out.cell (p := ⟨bL, oL + k, none⟩) HBG.out).trans HCX.out
       clear hSt
       go_wp2
       go_roundw
       case rel => exact ⟨k + 1, by omega, HNX.out, by go_num, HBN⟩
       case measure => simp [intOf]; omega
   ·have hlt1 : ¬ (k : Int) < (LR.length : Int) := by omega
    have HIE : Hid (is = decide (ev F v TA = 0)) := Lib.hid (by
     rw [← HIS.out, List.take_of_length_le (by omega), ← HLR.out]
     exact seen_end HVQ.out)
    have HSA := Lib.hid (SL.keep HS12.out HB.out).start
    have HNR_8 := Lib.hid (HN6_8.out.below HB.out)
    have HNR_9 := Lib.hid (HN6_9.out.below HB.out)
    have HNR_10 := Lib.hid (HN6_10.out.below HB.out)
    obtain ⟨LN, HLN⟩ : ∃ l, Hid ([F.neg v, 1] = l) := ⟨_, Lib.hid rfl⟩
    have HPN : Hid (PL F 2 LN) := Lib.hid (by rw [← HLN.out]; exact ⟨⟨In.cons (HFF.out.neg_lt v) (In.cons HFF.out.one_lt In.nil), by simp [Cn]⟩, by simp⟩)
    have HN0 : Hid (LN ≠ []) := Lib.hid (by rw [← HLN.out]; simp)
    obtain ⟨QV, RV, hDV⟩ := DM.exists HFF.out HPA.out.1 HPN.out.1 HN0.out
    have HDV := Lib.hid hDV
    have HRV : Hid (RV = trL [ev F v TA]) := Lib.hid (by have h := hDV; rw [← HLN.out] at h; exact (ev_eq HFF.out HVQ.out HPA.out.1 h).2)
    have hyE : (((ev F v TA : Nat) : Int) == 0) = is := by
     rw [HIE.out]
     by_cases h : ev F v TA = 0 <;> simp [h]
    have hyR : ((RV.length : Int) == 0) = is := by
     rw [HIE.out, HRV.out]
     by_cases h : ev F v TA = 0
     ·rw [h]; rfl
     ·have e : trL [ev F v TA] = [ev F v TA] := trL_of (by simp [Cn, h])
      rw [e]; simp [h]
    have hyI : (is != is) = false := by simp
    have HIE' := HIE
    clear hDV HIE
    go_upto_region 19 with (fail)
    refine Go.Rg.region_by (S := fun w' => SL W wr gF F b cap (.int .u8 (q : Nat)) (.slice aA A.length cA) (.slice aB B.length cB) (.slice aC C.length cC) w') (R := fun w w' => Below w.heap.size w w') (φ := phi F b cap [.eq (FV F b cap), .sl (TA), .eq (FV F b cap), .eq (.int .i64 (v : Nat)), .eq (.int .i64 (F.neg v : Nat)), .sl (LN), .dm (QV) (RV), .dm (QV) (RV), .sl (QV), .sl (RV), .eq (.int .i64 0), .sl (QV), .sl (RV), .eq (.int .i64 0)]) (by kernel_rfl) (phi_mono _) (by kernel_rfl) (by kernel_rfl) (by rfl) (HSA.out.drew) (Go.Rg.steps_ok ?st9) ?fi9
    case st9 =>
     refine ⟨fun a w hat K hK => ?_, ?_⟩
     ·have e6 : a.tmps[6]?.getD undef = .pointer (some ⟨gF, 0, none⟩) := hat.b 6
      have hSt := hat.st
      rw [if_pos (by rfl)]
      go_simp
      exact hK.out _ _ hSt (Below.refl _ _) rfl
     refine ⟨mv fun a w hat => ⟨_, _, hat.b 8, (HNR_8.out.below hat.st.2.2.2.1.out)⟩, ?_⟩
     refine ⟨fun a w hat K hK => ?_, ?_⟩
     ·have e6 : a.tmps[6]?.getD undef = .pointer (some ⟨gF, 0, none⟩) := hat.b 6
      have hSt := hat.st
      rw [if_pos (by rfl)]
      go_simp
      exact hK.out _ _ hSt (Below.refl _ _) rfl
     refine ⟨mv fun a w hat => hat.b 11, ?_⟩
     refine ⟨fun a w hat K hK => ?_, ?_⟩
     ·have e110 : a.tmps[110]?.getD undef = FV F b cap := hat.d 2 110
      have e111 : a.tmps[111]?.getD undef = .int .i64 (v : Nat) := hat.d 3 111
      have hSt := hat.st
      rw [if_pos (by rfl)]
      go_simp
      go_at_call 35
      with_reducible refine (rneg_c HVQ.out hSt.2.2.2.2.1.out).mono ?_
      rintro z' v' ⟨rfl, hb⟩
      exact hK.out _ _ (SL.keep hSt hb) hb rfl
     refine ⟨fun a w hat K hK => ?_, ?_⟩
     ·have e112 : a.tmps[112]?.getD undef = .int .i64 (F.neg v : Nat) := hat.d 4 112
      have hSt := hat.st
      rw [if_pos (by rfl)]
      have hn := nn_two (w := w) (x := F.neg v) (y := 1)
      have HL2 : Hid (2 = LN.length) := Lib.hid (by rw [← HLN.out]; rfl)
      rw [HLN.out] at hn
      go_simp
      have hb := (Below.refl w.heap.size w).alloc (Nat.le_refl _) (.cells #[.int .i64 (F.neg v : Nat), .int .i64 1] 3)
      refine hK.out _ _ (SL.keep hSt hb) hb ⟨some ⟨w.heap.size, 0, none⟩, 2, ?_, ?_⟩
      ·rw [← HL2.out]
      ·rw [← HL2.out]; exact hn
     refine ⟨fun a w hat K hK => ?_, ?_⟩
     ·have e108 : a.tmps[108]?.getD undef = FV F b cap := hat.d 0 108
      obtain ⟨a109, c109, e109, n109⟩ := (show (Kd.sl (TA)).ok F b cap (a.tmps[109]?.getD undef) w from hat.d 1 109)
      obtain ⟨a113, c113, e113, n113⟩ := (show (Kd.sl (LN)).ok F b cap (a.tmps[113]?.getD undef) w from hat.d 5 113)
      have hSt := hat.st
      rw [if_pos (by rfl)]
      go_simp
      go_at_call 17
      with_reducible refine (dm_po (hSt.2.2.2.2.1.out.ops) HPA.out HPN.out HN0.out HDV.out (by decide) (by decide) n109 n113).mono ?_
      rintro z' v' ⟨a', c', a2', c2', rfl, hn', hn2', hb⟩
      exact hK.out _ _ (SL.keep hSt hb) hb ⟨a', c', a2', c2', rfl, hn', hn2'⟩
     refine ⟨mv fun a w hat => hat.d 6 114, ?_⟩
     refine ⟨fun a w hat K hK => ?_, ?_⟩
     ·obtain ⟨a107, c107, a'107, c'107, e107, n107, n'107⟩ := (show (Kd.dm (QV) (RV)).ok F b cap (a.tmps[107]?.getD undef) w from hat.d 7 107)
      have hSt := hat.st
      rw [if_pos (by rfl)]
      go_simp
      exact hK.out _ _ hSt (Below.refl _ _) ⟨a107, c107, rfl, n107⟩
     refine ⟨fun a w hat K hK => ?_, ?_⟩
     ·obtain ⟨a107, c107, a'107, c'107, e107, n107, n'107⟩ := (show (Kd.dm (QV) (RV)).ok F b cap (a.tmps[107]?.getD undef) w from hat.d 7 107)
      have hSt := hat.st
      rw [if_pos (by rfl)]
      go_simp
      exact hK.out _ _ hSt (Below.refl _ _) ⟨a'107, c'107, rfl, n'107⟩
     refine ⟨fun a w hat K hK => ?_, ?_⟩
     ·obtain ⟨a107, c107, a'107, c'107, e107, n107, n'107⟩ := (show (Kd.dm (QV) (RV)).ok F b cap (a.tmps[107]?.getD undef) w from hat.d 7 107)
      have hSt := hat.st
      rw [if_pos (by rfl)]
      go_simp
      exact hK.out _ _ hSt (Below.refl _ _) rfl
     refine ⟨mv fun a w hat => hat.d 8 115, ?_⟩
     refine ⟨mv fun a w hat => hat.d 9 116, ?_⟩
     refine ⟨mv fun a w hat => hat.d 10 117, ?_⟩
     exact trivial
    intro a w7 hsz hdf hbase hSt hval
    obtain ⟨t, df⟩ := a
    have et := Go.Rg.tmps_of hsz [108, 109, 110, 111, 112, 113, 114, 107, 115, 116, 117, 14, 15, 16] (fun k hk => hbase k (Go.Rg.base_of (by kernel_rfl) hk))
    obtain ⟨p14, q14, x14, m14⟩ := (show (Kd.sl (QV)).ok F b cap (t.getD 14 undef) w7 from hval 11 14 (by kernel_rfl))
    obtain ⟨p15, q15, x15, m15⟩ := (show (Kd.sl (RV)).ok F b cap (t.getD 15 undef) w7 from hval 12 15 (by kernel_rfl))
    have x16 : t.getD 16 undef = .int .i64 0 := hval 13 16 (by kernel_rfl)
    clear hval hbase hsz
    simp only [List.foldl_cons, List.foldl_nil, x14, x15, x16] at et
    rw [et]
    have hdf' : df = _ := hdf
    rw [hdf']
    simp only [List.setIfInBounds_toArray, List.set_cons_zero, List.set_cons_succ]
    clear et hdf hdf'
    have HN7_8 := Lib.hid (HNR_8.out.below hSt.2.2.2.1.out)
    have HN7_9 := Lib.hid (HNR_9.out.below hSt.2.2.2.1.out)
    have HN7_10 := Lib.hid (HNR_10.out.below hSt.2.2.2.1.out)
    have HN7_14 := Lib.hid m14
    have HN7_15 := Lib.hid m15
    clear m14 m15
    have HS19 := Lib.hid hSt.start
    clear hSt
    go_upto_region 20 with (fail)
    refine Go.Rg.region_seq (S := fun w' => SL W w7 gF F b cap (.int .u8 (q : Nat)) (.slice aA A.length cA) (.slice aB B.length cB) (.slice aC C.length cC) w') (R := fun w w' => Below w.heap.size w w') (φ := phi F b cap [.eq (.int .i64 0), .eq (.bool false), .eq (.bool false), .eq (.bool is), .sl (RV), .eq (.int .i64 ((RV).length : Nat)), .eq (.bool is), .eq (.bool false), .eq (.bool false), .eq (.bool false), .eq (.bool is), .eq (FV F b cap), .sl (TA), .eq (.int .i64 (v : Nat)), .eq (.int .i64 (ev F v TA : Nat)), .eq (.bool is), .eq (.bool false), .eq (.bool false)]) (phi_mono _) (by kernel_rfl) (by kernel_rfl) (by rfl) (HS19.out) ?st10 ?fi10
    case st10 =>
     refine ⟨mv fun a w hat => hat.b 16, ?_⟩
     refine ⟨fun a w hat K hK => ?_, ?_⟩
     ·have e118 : a.tmps[118]?.getD undef = .int .i64 0 := hat.d 0 118
      have hSt := hat.st
      rw [if_pos (by rfl)]
      go_simp
      exact hK.out _ _ hSt (Below.refl _ _) rfl
     refine ⟨mv fun a w hat => hat.d 1 119, ?_⟩
     refine ⟨mvg 2 120 false fun a w hat => hat.b 12, ?_⟩
     refine ⟨mvg 2 120 false fun a w hat => ⟨_, _, hat.b 15, (HN7_15.out.below hat.st.2.2.2.1.out)⟩, ?_⟩
     refine ⟨fun a w hat K hK => ?_, ?_⟩
     ·obtain ⟨a122, c122, e122, n122⟩ := (show (Kd.sl (RV)).ok F b cap (a.tmps[122]?.getD undef) w from hat.d 4 122)
      have hSt := hat.st
      rw [if_pos (wy hat 2 120 false)]
      go_simp
      exact hK.out _ _ hSt (Below.refl _ _) rfl
     refine ⟨fun a w hat K hK => ?_, ?_⟩
     ·have e123 : a.tmps[123]?.getD undef = .int .i64 ((RV).length : Nat) := hat.d 5 123
      have hSt := hat.st
      rw [if_pos (wy hat 2 120 false)]
      go_simp
      exact hK.out _ _ hSt (Below.refl _ _) rfl
     refine ⟨fun a w hat K hK => ?_, ?_⟩
     ·have e121 : a.tmps[121]?.getD undef = .bool is := hat.d 3 121
      have e124 : a.tmps[124]?.getD undef = .bool is := hat.d 6 124
      have hSt := hat.st
      rw [if_pos (wy hat 2 120 false)]
      go_simp
      exact hK.out _ _ hSt (Below.refl _ _) rfl
     refine ⟨fun a w hat K hK => ?_, ?_⟩
     ·have e120 : a.tmps[120]?.getD undef = .bool false := hat.d 2 120
      have e125 : a.tmps[125]?.getD undef = .bool false := hat.d 7 125
      have hSt := hat.st
      rw [if_pos (by rfl)]
      go_simp
      exact hK.out _ _ hSt (Below.refl _ _) rfl
     refine ⟨mv fun a w hat => hat.d 8 126, ?_⟩
     refine ⟨mvg 9 127 false fun a w hat => hat.b 12, ?_⟩
     refine ⟨fun a w hat K hK => ?_, ?_⟩
     ·have e6 : a.tmps[6]?.getD undef = .pointer (some ⟨gF, 0, none⟩) := hat.b 6
      have hSt := hat.st
      rw [if_pos (wy hat 9 127 false)]
      go_simp
      exact hK.out _ _ hSt (Below.refl _ _) rfl
     refine ⟨mvg 9 127 false fun a w hat => ⟨_, _, hat.b 8, (HN7_8.out.below hat.st.2.2.2.1.out)⟩, ?_⟩
     refine ⟨mvg 9 127 false fun a w hat => hat.b 11, ?_⟩
     refine ⟨fun a w hat K hK => ?_, ?_⟩
     ·have e129 : a.tmps[129]?.getD undef = FV F b cap := hat.d 11 129
      obtain ⟨a130, c130, e130, n130⟩ := (show (Kd.sl (TA)).ok F b cap (a.tmps[130]?.getD undef) w from hat.d 12 130)
      have e131 : a.tmps[131]?.getD undef = .int .i64 (v : Nat) := hat.d 13 131
      have hSt := hat.st
      rw [if_pos (wy hat 9 127 false)]
      go_simp
      go_at_call 27
      with_reducible refine (eval_po (hSt.2.2.2.2.1.out.ops) HPA.out (by decide) HVQ.out n130).mono ?_
      rintro z' v' ⟨rfl, hb⟩
      exact hK.out _ _ (SL.keep hSt hb) hb rfl
     refine ⟨fun a w hat K hK => ?_, ?_⟩
     ·have e132 : a.tmps[132]?.getD undef = .int .i64 (ev F v TA : Nat) := hat.d 14 132
      have hSt := hat.st
      rw [if_pos (wy hat 9 127 false)]
      go_simp
      exact hK.out _ _ hSt (Below.refl _ _) rfl
     refine ⟨fun a w hat K hK => ?_, ?_⟩
     ·have e128 : a.tmps[128]?.getD undef = .bool is := hat.d 10 128
      have e133 : a.tmps[133]?.getD undef = .bool is := hat.d 15 133
      have hSt := hat.st
      rw [if_pos (wy hat 9 127 false)]
      go_simp
      exact hK.out _ _ hSt (Below.refl _ _) rfl
     refine ⟨fun a w hat K hK => ?_, ?_⟩
     ·have e127 : a.tmps[127]?.getD undef = .bool false := hat.d 9 127
      have e134 : a.tmps[134]?.getD undef = .bool false := hat.d 16 134
      have hSt := hat.st
      rw [if_pos (by rfl)]
      go_simp
      exact hK.out _ _ hSt (Below.refl _ _) rfl
     exact trivial
    intro a w8 hsz hdf hbase hSt hval
    obtain ⟨t, df⟩ := a
    have et := Go.Rg.tmps_of hsz [118, 119, 120, 121, 122, 123, 124, 125, 126, 127, 128, 129, 130, 131, 132, 133, 134, 135] (fun k hk => hbase k (Go.Rg.base_of (by kernel_rfl) hk))
    have x135 : t.getD 135 undef = .bool false := hval 17 135 (by kernel_rfl)
    clear hval hbase hsz
    simp only [List.foldl_cons, List.foldl_nil, x135] at et
    rw [et]
    have hdf' : df = _ := hdf
    rw [hdf']
    simp only [List.setIfInBounds_toArray, List.set_cons_zero, List.set_cons_succ]
    clear et hdf hdf'
    have HN8_8 := Lib.hid (HN7_8.out.below hSt.2.2.2.1.out)
    have HN8_9 := Lib.hid (HN7_9.out.below hSt.2.2.2.1.out)
    have HN8_10 := Lib.hid (HN7_10.out.below hSt.2.2.2.1.out)
    have HN8_14 := Lib.hid (HN7_14.out.below hSt.2.2.2.1.out)
    have HN8_15 := Lib.hid (HN7_15.out.below hSt.2.2.2.1.out)
    have HS20 := Lib.hid hSt.start
    clear hSt
    obtain ⟨LM, HLM⟩ : ∃ l, Hid (rootsTo F TB F.q = l) := ⟨_, Lib.hid rfl⟩
    have HPMU : Hid (PL F 16 (mulP F TA TB)) := Lib.hid (pl_mul HFF.out HPA.out HPB.out (by decide))
    obtain ⟨LBO, HLBO⟩ : ∃ l, Hid (rootsTo F (mulP F TA TB) F.q = l) := ⟨_, Lib.hid rfl⟩
    go_upto_region 22 with (fail)
    refine Go.Rg.region_by (S := fun w' => SL W w8 gF F b cap (.int .u8 (q : Nat)) (.slice aA A.length cA) (.slice aB B.length cB) (.slice aC C.length cC) w') (R := fun w w' => Below w.heap.size w w') (φ := phi F b cap [.eq (FV F b cap), .sl (TB), .sl (LM), .eq (FV F b cap), .eq (FV F b cap), .sl (TA), .sl (TB), .sl (mulP F TA TB), .sl (LBO), .sl (LM), .sl (LBO)]) (by kernel_rfl) (phi_mono _) (by kernel_rfl) (by kernel_rfl) (by rfl) (HS20.out.drew) (Go.Rg.steps_ok ?st11) ?fi11
    case st11 =>
     refine ⟨fun a w hat K hK => ?_, ?_⟩
     ·have e6 : a.tmps[6]?.getD undef = .pointer (some ⟨gF, 0, none⟩) := hat.b 6
      have hSt := hat.st
      rw [if_pos (by rfl)]
      go_simp
      exact hK.out _ _ hSt (Below.refl _ _) rfl
     refine ⟨mv fun a w hat => ⟨_, _, hat.b 9, (HN8_9.out.below hat.st.2.2.2.1.out)⟩, ?_⟩
     refine ⟨fun a w hat K hK => ?_, ?_⟩
     ·have e136 : a.tmps[136]?.getD undef = FV F b cap := hat.d 0 136
      obtain ⟨a137, c137, e137, n137⟩ := (show (Kd.sl (TB)).ok F b cap (a.tmps[137]?.getD undef) w from hat.d 1 137)
      have hSt := hat.st
      rw [if_pos (by rfl)]
      go_simp
      go_at_call 29
      with_reducible refine (roots_po (hSt.2.2.2.2.1.out.ops) HPB.out HLM.out (by decide) n137).mono ?_
      rintro z' v' ⟨a', c', rfl, hn', hb⟩
      exact hK.out _ _ (SL.keep hSt hb) hb ⟨a', c', rfl, hn'⟩
     refine ⟨fun a w hat K hK => ?_, ?_⟩
     ·have e6 : a.tmps[6]?.getD undef = .pointer (some ⟨gF, 0, none⟩) := hat.b 6
      have hSt := hat.st
      rw [if_pos (by rfl)]
      go_simp
      exact hK.out _ _ hSt (Below.refl _ _) rfl
     refine ⟨fun a w hat K hK => ?_, ?_⟩
     ·have e6 : a.tmps[6]?.getD undef = .pointer (some ⟨gF, 0, none⟩) := hat.b 6
      have hSt := hat.st
      rw [if_pos (by rfl)]
      go_simp
      exact hK.out _ _ hSt (Below.refl _ _) rfl
     refine ⟨mv fun a w hat => ⟨_, _, hat.b 8, (HN8_8.out.below hat.st.2.2.2.1.out)⟩, ?_⟩
     refine ⟨mv fun a w hat => ⟨_, _, hat.b 9, (HN8_9.out.below hat.st.2.2.2.1.out)⟩, ?_⟩
     refine ⟨fun a w hat K hK => ?_, ?_⟩
     ·have e140 : a.tmps[140]?.getD undef = FV F b cap := hat.d 4 140
      obtain ⟨a141, c141, e141, n141⟩ := (show (Kd.sl (TA)).ok F b cap (a.tmps[141]?.getD undef) w from hat.d 5 141)
      obtain ⟨a142, c142, e142, n142⟩ := (show (Kd.sl (TB)).ok F b cap (a.tmps[142]?.getD undef) w from hat.d 6 142)
      have hSt := hat.st
      rw [if_pos (by rfl)]
      go_simp
      go_at_call 23
      with_reducible refine (pmul_po (hSt.2.2.2.2.1.out.ops) HPA.out HPB.out (by decide) (by decide) n141 n142).mono ?_
      rintro z' v' ⟨a', c', rfl, hn', hb⟩
      exact hK.out _ _ (SL.keep hSt hb) hb ⟨a', c', rfl, hn'⟩
     refine ⟨fun a w hat K hK => ?_, ?_⟩
     ·have e139 : a.tmps[139]?.getD undef = FV F b cap := hat.d 3 139
      obtain ⟨a143, c143, e143, n143⟩ := (show (Kd.sl (mulP F TA TB)).ok F b cap (a.tmps[143]?.getD undef) w from hat.d 7 143)
      have hSt := hat.st
      rw [if_pos (by rfl)]
      go_simp
      go_at_call 29
      with_reducible refine (roots_po (hSt.2.2.2.2.1.out.ops) HPMU.out HLBO.out (by decide) n143).mono ?_
      rintro z' v' ⟨a', c', rfl, hn', hb⟩
      exact hK.out _ _ (SL.keep hSt hb) hb ⟨a', c', rfl, hn'⟩
     refine ⟨mv fun a w hat => hat.d 2 138, ?_⟩
     refine ⟨mv fun a w hat => hat.d 8 144, ?_⟩
     exact trivial
    intro a w9 hsz hdf hbase hSt hval
    obtain ⟨t, df⟩ := a
    have et := Go.Rg.tmps_of hsz [136, 137, 138, 139, 140, 141, 142, 143, 144, 17, 18] (fun k hk => hbase k (Go.Rg.base_of (by kernel_rfl) hk))
    obtain ⟨p17, q17, x17, m17⟩ := (show (Kd.sl (LM)).ok F b cap (t.getD 17 undef) w9 from hval 9 17 (by kernel_rfl))
    obtain ⟨p18, q18, x18, m18⟩ := (show (Kd.sl (LBO)).ok F b cap (t.getD 18 undef) w9 from hval 10 18 (by kernel_rfl))
    clear hval hbase hsz
    simp only [List.foldl_cons, List.foldl_nil, x17, x18] at et
    rw [et]
    have hdf' : df = _ := hdf
    rw [hdf']
    simp only [List.setIfInBounds_toArray, List.set_cons_zero, List.set_cons_succ]
    clear et hdf hdf'
    have HN9_8 := Lib.hid (HN8_8.out.below hSt.2.2.2.1.out)
    have HN9_9 := Lib.hid (HN8_9.out.below hSt.2.2.2.1.out)
    have HN9_10 := Lib.hid (HN8_10.out.below hSt.2.2.2.1.out)
    have HN9_17 := Lib.hid m17
    have HN9_18 := Lib.hid m18
    clear m17 m18
    have HS22 := Lib.hid hSt.start
    clear hSt
    have hsz22 : F.q ≤ 9223372036854775807 := by omega
    obtain ⟨i0, hi, hz0, hz1, hz2⟩ := info_parts info4
    obtain ⟨gS, HG⟩ : ∃ g, Hid (w9.heap.size = g) := ⟨_, Lib.hid rfl⟩
    go_wp2_with (refine wpList_make_row _ rfl _ _ 48 rfl 4 i0 (.bool false) Try.underlying48 hi hz0 hz1 rfl .i64 .i64 F.q rfl rfl (by rw [hz2]; omega) hsz22 ?_)
    have HROW : Hid ((w9.alloc (.cells (madeCells #[.bool false] F.q) 4)).rowIs gS 4 F.q (fun x => .bool (decide (x ∈ LR.take 0)))) := Lib.hid (by
     rw [← HG.out]
     exact (World.rowIs_made w9 (.bool false) F.q 4).congr (fun i _ => by simp))
    have HBM : Hid (Below w9.heap.size w9 (w9.alloc (.cells (madeCells #[.bool false] F.q) 4))) := Lib.hid ((Below.refl _ _).alloc (Nat.le_refl _) _)
    have HGL : Hid (w9.heap.size ≤ gS) := Lib.hid (by rw [HG.out]; exact Nat.le_refl _)
    rw [HG.out]
    generalize w9.alloc (.cells (madeCells #[.bool false] F.q) 4) = wm at *
    clear hi hz0 hz1 hz2
    go_wp2
    go_loopw [20] (fun i wr => ∃ k : Nat, k ≤ LR.length ∧ i = .int .i64 k ∧ Hid (wr.rowIs gS 4 F.q (fun x => .bool (decide (x ∈ LR.take k)))) ∧ Hid (Below w9.heap.size w9 wr)) (fun i _ => LR.length - (intOf i).toNat)
    case atStart => exact ⟨0, Nat.zero_le _, rfl, HROW, HBM⟩
    case round =>
     obtain ⟨k, hk, rfl, HRW, HB3⟩ := hrel
     by_cases hlt : k < LR.length
     ·obtain ⟨bL, oL, hpL, HCS⟩ : ∃ bL oL, p10 = some ⟨bL, oL, none⟩ ∧ Hid (∀ t, t < LR.length → wr.cell? ⟨bL, oL + t, none⟩ = some (.int .i64 (LR.getD t 0 : Nat))) := by
       rcases HN9_10.out.below HB3.out with ⟨e, -⟩ | ⟨b', off', cap', e, g1, g2, g3⟩
       ·rw [e] at hlt; simp at hlt
       ·injection e with e1 e2 e3
        exact ⟨b', off', e1, Lib.hid g3⟩
      subst hpL
      obtain ⟨x, HX⟩ : ∃ x, Hid (LR.getD k 0 = x) := ⟨_, Lib.hid rfl⟩
      have hcX : wr.cell? ⟨bL, oL + k, none⟩ = some (.int .i64 (x : Nat)) := by rw [← HX.out]; exact HCS.out k hlt
      have hxq : x < F.q := by rw [← HX.out, ← HLR.out]; rw [← HLR.out] at hlt; exact rootsTo_get hlt
      have hxi : (x : Int) < (F.q : Int) := by omega
      have hlti : (k : Int) < (LR.length : Int) := by omega
      have hl8 : TA.length ≤ 8 := HPA.out.2
      have hk8 : k < 9 := by omega
      have hcS := HRW.out.cell hxq
      have hfS := HRW.out.frozen x
      have HNX : Hid ((wr.setCell ⟨gS, x, none⟩ (.bool true)).rowIs gS 4 F.q (fun z => .bool (decide (z ∈ LR.take (k + 1))))) := Lib.hid ((HRW.out.set x (.bool true)).congr (fun j hj => by
       have e : LR.take (k + 1) = LR.take k ++ [x] := by
        rw [List.take_add_one, List.getElem?_eq_getElem hlt, ← HX.out]
        simp [List.getD, hlt]
       rw [e]
       by_cases h : j = x <;> simp [h]))
      have HBN : Hid (Below w9.heap.size w9 (wr.setCell ⟨gS, x, none⟩ (.bool true))) := Lib.hid (HB3.out.setCell (p := ⟨gS, x, none⟩) HGL.out _)
      clear hk
      go_wp2
      go_roundw
      case rel => exact ⟨k + 1, by omega, by go_num, HNX, HBN⟩
      case measure => simp [intOf]; omega
     ·have hlt1 : ¬ (k : Int) < (LR.length : Int) := by omega
      have HRF : Hid (wr.rowIs gS 4 F.q (fun x => .bool (decide (x ∈ LR)))) := Lib.hid (HRW.out.congr (fun i _ => by rw [List.take_of_length_le (by omega)]))
      have HPR' : Hid (LR.length ≤ 64) := Lib.hid (by rw [← HLR.out]; exact Nat.le_trans (rootsTo_len F TA F.q) hq64)
      have HMF : Hid (LM.length ≤ 64) := Lib.hid (by rw [← HLM.out]; exact Nat.le_trans (rootsTo_len F TB F.q) hq64)
      have HBF : Hid (Below W.heap.size W wr) := Lib.hid (HS22.out.2.2.1.out.trans (HB3.out.mono HS22.out.2.2.1.out.size))
      go_wp2
      obtain ⟨wz, HWZ⟩ : ∃ wz, Hid (wr = wz) := ⟨_, Lib.hid rfl⟩
      rw [HWZ.out] at HB3 HRF HBF ⊢
      clear HRW HWZ
      go_loopw [21, 22] (fun n i wq => ∃ k : Nat, k ≤ LM.length ∧ n = .int .i64 ((LR.length + (offA F TA (LM.take k)).length : Nat) : Int) ∧ i = .int .i64 k ∧ wz = wq) (fun _ i _ => LM.length - (intOf i).toNat)
      case atStart => exact ⟨0, Nat.zero_le _, by simp [offA], rfl, rfl⟩
      case round =>
       obtain ⟨k2, hk2, rfl, rfl, rfl⟩ := hrel
       obtain ⟨nn, HNN⟩ : ∃ nn, Hid (LR.length + (offA F TA (LM.take k2)).length = nn) := ⟨_, Lib.hid rfl⟩
       rw [HNN.out]
       by_cases hlt2 : k2 < LM.length
       ·obtain ⟨bM, oM, hpM, HCM⟩ : ∃ bM oM, p17 = some ⟨bM, oM, none⟩ ∧ Hid (∀ t, t < LM.length → wz.cell? ⟨bM, oM + t, none⟩ = some (.int .i64 (LM.getD t 0 : Nat))) := by
         rcases HN9_17.out.below HB3.out with ⟨e, -⟩ | ⟨b', off', cap', e, g1, g2, g3⟩
         ·rw [e] at hlt2; simp at hlt2
         ·injection e with e1 e2 e3
          exact ⟨b', off', e1, Lib.hid g3⟩
        subst hpM
        obtain ⟨x, HX⟩ : ∃ x, Hid (LM.getD k2 0 = x) := ⟨_, Lib.hid rfl⟩
        have hcX : wz.cell? ⟨bM, oM + k2, none⟩ = some (.int .i64 (x : Nat)) := by rw [← HX.out]; exact HCM.out k2 hlt2
        have hxq : x < F.q := by rw [← HX.out, ← HLM.out]; rw [← HLM.out] at hlt2; exact rootsTo_get hlt2
        have hx0 : ¬ (x : Int) < 0 := by omega
        have hx1 : ¬ (F.q : Int) ≤ (x : Int) := by omega
        have hx2 : ¬ F.q ≤ x := by omega
        have hxi : (x : Int) < (F.q : Int) := by omega
        have hlti : (k2 : Int) < (LM.length : Int) := by omega
        have hM64 := HMF.out
        have hk64 : k2 < 64 := by omega
        have hnn : nn < 200 := by
         have h1 : (offA F TA (LM.take k2)).length ≤ (LM.take k2).length := List.length_filter_le _ _
         rw [List.length_take] at h1
         have h2 : LR.length ≤ 64 := HPR'.out
         have := HNN.out
         omega
        obtain ⟨bb, HBB⟩ : ∃ b, Hid (decide (x ∈ LR) = b) := ⟨_, Lib.hid rfl⟩
        have hcS : wz.cell? ⟨gS, x, none⟩ = some (.bool bb) := by rw [← HBB.out]; exact HRF.out.cell hxq
        have HNX : Hid (LR.length + (offA F TA (LM.take (k2 + 1))).length = nn + (if bb = true then 0 else 1)) := Lib.hid (by
         have h1 := offA_succ (F := F) (A := TA) hlt2
         rw [HX.out] at h1
         have h2 : decide (x ∈ LR) = decide (ev F x TA = 0) := by rw [← HLR.out]; exact seen_end hxq
         rw [HBB.out] at h2
         rw [h1, ← HNN.out, h2]
         by_cases h : ev F x TA = 0 <;> simp [h] <;> omega)
        clear hk2
        cases bb with
        | true =>
         go_wp2
         go_roundw
         case rel => exact ⟨k2 + 1, by omega, by rw [HNX.out]; go_num, by go_num, trivial⟩
         case measure => simp [intOf]; omega
        | false =>
         go_wp2
         go_roundw
         case rel => exact ⟨k2 + 1, by omega, by rw [HNX.out]; go_num, by go_num, trivial⟩
         case measure => simp [intOf]; omega
       ·have hlt3 : ¬ (k2 : Int) < (LM.length : Int) := by omega
        have HNE : Hid (LBO.length = nn) := Lib.hid (by
         rw [← HNN.out, ← HLBO.out, rootsTo_mul HFF.out HPA.out.1 HPB.out.1 F.q (Nat.le_refl _), List.take_of_length_le (by omega), HLR.out, HLM.out])
        have hyN : ((LBO.length : Int) == (nn : Int)) = true := by rw [HNE.out]; simp
        clear hk2
        go_wp2
        go_ret
        exact ⟨rfl, HBF.out⟩
end Go.Proofs.Ytllecfhfhcmpaaa
