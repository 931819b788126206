/- PolyDivides: the walk. -/
import Derived.Test.YtllecfhfhcmpaaaLg
namespace Go.Proofs.Ytllecfhfhcmpaaa
open Go.RowKit Go.Fl Go.Rg
set_option maxRecDepth 100000
set_option linter.unusedVariables false
set_option linter.unusedSimpArgs false
set_option linter.unusedSectionVars false

theorem NN.pre {L : List Nat} {w : World} {a : Option Addr} {c k : Nat} (h : NN L w (.slice a L.length c)) (hk : k ≤ L.length) : NN (L.take k) w (.slice a (L.take k).length c) := by
 rcases h with ⟨rfl, h⟩ | ⟨b, off, cap, h, h1, h2, h3⟩
 ·rw [List.take_nil]; exact .inl ⟨rfl, h⟩
 ·have e : (L.take k).length = k := by rw [List.length_take]; omega
  cases h
  rw [e]
  exact NN.take (.inr ⟨b, off, _, rfl, h1, h2, h3⟩) hk
set_option maxHeartbeats 25600000 in
theorem divides_c {q : Nat} {A B C : List Nat} {aA aB aC : Option Addr} {cA cB cC : Nat} {W : World} (hq : q ≤ 255) (hA : By A) (hB : By B) (hC : By C) (lA : A.length ≤ maxLen) (lB : B.length ≤ maxLen) (lC : C.length ≤ maxLen)
  (na : N8 A W (.slice aA A.length cA)) (nb : N8 B W (.slice aB B.length cB)) (nc : N8 C W (.slice aC C.length cC)) :
  Calls Try.prog 5 #[.agg #[.int .u8 (q : Nat), .slice aA A.length cA, .slice aB B.length cB, .slice aC C.length cC]] W fun e w' => e = .returned (.bool true) ∧ Below W.heap.size W w' := by
 have HQ := Lib.hid hq
 have HEX := Lib.hid examples_c
 have HOF := Lib.hid (fun w => of01_c q hq w)
 have HB0 : Hid (Below W.heap.size W (W.alloc (.cells #[.int .u8 (q : Nat), .slice aA A.length cA, .slice aB B.length cB, .slice aC C.length cC] 24))) := Lib.hid ((Below.refl _ _).alloc (Nat.le_refl _) _)
 have HL0 : Hid (LB W.heap.size (.int .u8 (q : Nat)) (.slice aA A.length cA) (.slice aB B.length cB) (.slice aC C.length cC) (W.alloc (.cells #[.int .u8 (q : Nat), .slice aA A.length cA, .slice aB B.length cB, .slice aC C.length cC] 24))) := Lib.hid
  ⟨World.cell?_alloc_at _ _ _ _ rfl, World.cell?_alloc_at _ _ _ _ rfl, World.cell?_alloc_at _ _ _ _ rfl, World.cell?_alloc_at _ _ _ _ rfl⟩
 have HZ0 : Hid (W.heap.size < (W.alloc (.cells #[.int .u8 (q : Nat), .slice aA A.length cA, .slice aB B.length cB, .slice aC C.length cC] 24)).heap.size) := Lib.hid (by simp)
 clear hq
 go_enter Try.func5, Try.ntmps5
 go_wp2_with fail
 with_reducible refine (HEX.out _).mono ?_
 rintro z w1 ⟨rfl, hb1⟩
 have HB1 := Lib.hid (HB0.out.trans (hb1.mono HB0.out.size))
 have HL1 := Lib.hid (HL0.out.keep hb1 HZ0.out)
 have HZ1 : Hid (W.heap.size < w1.heap.size) := Lib.hid (Nat.lt_of_lt_of_le HZ0.out hb1.size)
 clear hb1 HB0 HL0 HZ0
 have hL1 := HL1.out
 obtain ⟨l0, l1, l2, l3⟩ := hL1
 go_wp2_with fail
 with_reducible refine (HOF.out _).mono ?_
 generalize fdOfByte q = F
 rintro z w2 ⟨b, cap, rfl, hfd, hb2⟩
 have HFF : Hid (Ok F) := Lib.hid (ok_mem hfd.mem)
 have HSS : Hid (SL W (w2.alloc (.cells #[.int .i64 F.p, .int .i64 F.e, FM F b cap] 28)) w2.heap.size F b cap (.int .u8 (q : Nat)) (.slice aA A.length cA) (.slice aB B.length cB) (.slice aC C.length cC) (w2.alloc (.cells #[.int .i64 F.p, .int .i64 F.e, FM F b cap] 28))) := Lib.hid (by
  have ha : Below w2.heap.size w2 (w2.alloc (.cells #[.int .i64 F.p, .int .i64 F.e, FM F b cap] 28)) := (Below.refl _ _).alloc (Nat.le_refl _) _
  have hz := HZ1.out
  have hs := hb2.size
  exact ⟨⟨World.cell?_alloc_at _ _ _ _ rfl, World.cell?_alloc_at _ _ _ _ rfl, World.cell?_alloc_at _ _ _ _ rfl⟩, (HL1.out.keep hb2 hz).keep ha (by omega), Lib.hid ((HB1.out.trans (hb2.mono HB1.out.size)).trans (ha.mono (by omega))), Lib.hid (Below.refl _ _), Lib.hid (hfd.below ha), Lib.hid (by simp; omega)⟩)
 clear hfd hb2 HB1 HL1 HZ1 HOF l0 l1 l2 l3
 obtain ⟨gF, hgF⟩ : ∃ gF, gF = w2.heap.size := ⟨_, rfl⟩
 rw [← hgF] at HSS
 have HGF := Lib.hid hgF
 clear hgF
 go_upto_region 5 with (fail)
 rw [← HGF.out]
 generalize (w2.alloc (.cells #[.int .i64 F.p, .int .i64 F.e, FM F b cap] 28)) = w0 at *
 clear HGF
 have NA := Lib.hid na
 have NB := Lib.hid nb
 have NC := Lib.hid nc
 obtain ⟨LA, hLA⟩ : ∃ l, Hid (ofL F A 10 = l) := ⟨_, rfl⟩
 obtain ⟨LB', hLB⟩ : ∃ l, Hid (ofL F B 10 = l) := ⟨_, rfl⟩
 obtain ⟨LC, hLC⟩ : ∃ l, Hid (ofL F C 10 = l) := ⟨_, rfl⟩
 have HIA : Hid (In F LA ∧ LA.length ≤ 10) := Lib.hid (by rw [← hLA.out]; exact ⟨ofL_in HFF.out A 10, ofL_len F A 10⟩)
 have HIB : Hid (In F LB' ∧ LB'.length ≤ 10) := Lib.hid (by rw [← hLB.out]; exact ⟨ofL_in HFF.out B 10, ofL_len F B 10⟩)
 have HIC : Hid (In F LC ∧ LC.length ≤ 10) := Lib.hid (by rw [← hLC.out]; exact ⟨ofL_in HFF.out C 10, ofL_len F C 10⟩)
 have HCA : Hid (∀ w, Below W.heap.size W w → Calls Try.prog 13 #[FV F b cap, .slice aA A.length cA, .int .i64 10] w (SlPost LA w)) := Lib.hid (fun w hw => by rw [← hLA.out]; exact of04_c HFF.out hA rfl lA (by decide) (NA.out.below hw))
 have HCB : Hid (∀ w, Below W.heap.size W w → Calls Try.prog 13 #[FV F b cap, .slice aB B.length cB, .int .i64 10] w (SlPost LB' w)) := Lib.hid (fun w hw => by rw [← hLB.out]; exact of04_c HFF.out hB rfl lB (by decide) (NB.out.below hw))
 have HCC : Hid (∀ w, Below W.heap.size W w → Calls Try.prog 13 #[FV F b cap, .slice aC C.length cC, .int .i64 10] w (SlPost LC w)) := Lib.hid (fun w hw => by rw [← hLC.out]; exact of04_c HFF.out hC rfl lC (by decide) (NC.out.below hw))
 obtain ⟨TA, hTA⟩ : ∃ l, Hid (trL LA = l) := ⟨_, rfl⟩
 obtain ⟨TB, hTB⟩ : ∃ l, Hid (trL LB' = l) := ⟨_, rfl⟩
 obtain ⟨TC, hTC⟩ : ∃ l, Hid (trL LC = l) := ⟨_, rfl⟩
 have HPA : Hid (PL F 10 TA) := Lib.hid (by rw [← hTA.out]; exact pl_tr HIA.out.1 HIA.out.2)
 have HPB : Hid (PL F 10 TB) := Lib.hid (by rw [← hTB.out]; exact pl_tr HIB.out.1 HIB.out.2)
 have HPC : Hid (PL F 10 TC) := Lib.hid (by rw [← hTC.out]; exact pl_tr HIC.out.1 HIC.out.2)
 have HTA : Hid (∀ w a c, NN LA w (.slice a LA.length c) → Calls Try.prog 15 #[.slice a LA.length c] w (SlPost TA w)) := Lib.hid (fun w a c hn => by rw [← hTA.out]; exact trim_c (by have := HIA.out.2; omega) rfl hn)
 have HTB : Hid (∀ w a c, NN LB' w (.slice a LB'.length c) → Calls Try.prog 15 #[.slice a LB'.length c] w (SlPost TB w)) := Lib.hid (fun w a c hn => by rw [← hTB.out]; exact trim_c (by have := HIB.out.2; omega) rfl hn)
 have HTC : Hid (∀ w a c, NN LC w (.slice a LC.length c) → Calls Try.prog 15 #[.slice a LC.length c] w (SlPost TC w)) := Lib.hid (fun w a c hn => by rw [← hTC.out]; exact trim_c (by have := HIC.out.2; omega) rfl hn)
 clear na nb nc hA hB hC lA lB lC
 have hS0 := HSS.out.drew
 refine Go.Rg.region_by (S := fun w' => SL W w0 gF F b cap (.int .u8 (q : Nat)) (.slice aA A.length cA) (.slice aB B.length cB) (.slice aC C.length cC) w') (R := fun w w' => Below w.heap.size w w') (φ := phi F b cap [.eq (FV F b cap), .eq (.pointer (some ⟨W.heap.size, 1, none⟩)), .eq (.slice aA A.length cA), .sl (LA), .sl (TA), .eq (FV F b cap), .eq (.pointer (some ⟨W.heap.size, 2, none⟩)), .eq (.slice aB B.length cB), .sl (LB'), .sl (TB), .eq (FV F b cap), .eq (.pointer (some ⟨W.heap.size, 3, none⟩)), .eq (.slice aC C.length cC), .sl (LC), .sl (TC), .sl (TA), .sl (TB), .sl (TC)]) (by kernel_rfl) (phi_mono _) (by kernel_rfl) (by kernel_rfl) (by rfl) (hS0) (Go.Rg.steps_ok ?st1) ?fi1
 case st1 =>
  refine ⟨fun a w hat K hK => ?_, ?_⟩
  ·have e4 : a.tmps[4]?.getD undef = .pointer (some ⟨gF, 0, none⟩) := hat.b 4
   have hSt := hat.st
   rw [if_pos (by rfl)]
   go_simp
   exact hK.out _ _ hSt (Below.refl _ _) rfl
  refine ⟨fun a w hat K hK => ?_, ?_⟩
  ·have e1 : a.tmps[1]?.getD undef = .pointer (some ⟨W.heap.size, 0, none⟩) := hat.b 1
   have hSt := hat.st
   rw [if_pos (by rfl)]
   go_simp
   exact hK.out _ _ hSt (Below.refl _ _) rfl
  refine ⟨fun a w hat K hK => ?_, ?_⟩
  ·have e22 : a.tmps[22]?.getD undef = .pointer (some ⟨W.heap.size, 1, none⟩) := hat.d 1 22
   have hSt := hat.st
   rw [if_pos (by rfl)]
   go_simp
   exact hK.out _ _ hSt (Below.refl _ _) rfl
  refine ⟨fun a w hat K hK => ?_, ?_⟩
  ·have e21 : a.tmps[21]?.getD undef = FV F b cap := hat.d 0 21
   have e23 : a.tmps[23]?.getD undef = .slice aA A.length cA := hat.d 2 23
   have hSt := hat.st
   rw [if_pos (by rfl)]
   go_simp
   go_at_call 13
   with_reducible refine (HCA.out _ hSt.2.2.1.out).mono ?_
   rintro z' v' ⟨a', c', rfl, hn', hb⟩
   exact hK.out _ _ (SL.keep hSt hb) hb ⟨a', c', rfl, hn'⟩
  refine ⟨fun a w hat K hK => ?_, ?_⟩
  ·obtain ⟨a24, c24, e24, n24⟩ := (show (Kd.sl (LA)).ok F b cap (a.tmps[24]?.getD undef) w from hat.d 3 24)
   have hSt := hat.st
   rw [if_pos (by rfl)]
   go_simp
   go_at_call 15
   with_reducible refine (HTA.out _ _ _ n24).mono ?_
   rintro z' v' ⟨a', c', rfl, hn', hb⟩
   exact hK.out _ _ (SL.keep hSt hb) hb ⟨a', c', rfl, hn'⟩
  refine ⟨fun a w hat K hK => ?_, ?_⟩
  ·have e4 : a.tmps[4]?.getD undef = .pointer (some ⟨gF, 0, none⟩) := hat.b 4
   have hSt := hat.st
   rw [if_pos (by rfl)]
   go_simp
   exact hK.out _ _ hSt (Below.refl _ _) rfl
  refine ⟨fun a w hat K hK => ?_, ?_⟩
  ·have e1 : a.tmps[1]?.getD undef = .pointer (some ⟨W.heap.size, 0, none⟩) := hat.b 1
   have hSt := hat.st
   rw [if_pos (by rfl)]
   go_simp
   exact hK.out _ _ hSt (Below.refl _ _) rfl
  refine ⟨fun a w hat K hK => ?_, ?_⟩
  ·have e27 : a.tmps[27]?.getD undef = .pointer (some ⟨W.heap.size, 2, none⟩) := hat.d 6 27
   have hSt := hat.st
   rw [if_pos (by rfl)]
   go_simp
   exact hK.out _ _ hSt (Below.refl _ _) rfl
  refine ⟨fun a w hat K hK => ?_, ?_⟩
  ·have e26 : a.tmps[26]?.getD undef = FV F b cap := hat.d 5 26
   have e28 : a.tmps[28]?.getD undef = .slice aB B.length cB := hat.d 7 28
   have hSt := hat.st
   rw [if_pos (by rfl)]
   go_simp
   go_at_call 13
   with_reducible refine (HCB.out _ hSt.2.2.1.out).mono ?_
   rintro z' v' ⟨a', c', rfl, hn', hb⟩
   exact hK.out _ _ (SL.keep hSt hb) hb ⟨a', c', rfl, hn'⟩
  refine ⟨fun a w hat K hK => ?_, ?_⟩
  ·obtain ⟨a29, c29, e29, n29⟩ := (show (Kd.sl (LB')).ok F b cap (a.tmps[29]?.getD undef) w from hat.d 8 29)
   have hSt := hat.st
   rw [if_pos (by rfl)]
   go_simp
   go_at_call 15
   with_reducible refine (HTB.out _ _ _ n29).mono ?_
   rintro z' v' ⟨a', c', rfl, hn', hb⟩
   exact hK.out _ _ (SL.keep hSt hb) hb ⟨a', c', rfl, hn'⟩
  refine ⟨fun a w hat K hK => ?_, ?_⟩
  ·have e4 : a.tmps[4]?.getD undef = .pointer (some ⟨gF, 0, none⟩) := hat.b 4
   have hSt := hat.st
   rw [if_pos (by rfl)]
   go_simp
   exact hK.out _ _ hSt (Below.refl _ _) rfl
  refine ⟨fun a w hat K hK => ?_, ?_⟩
  ·have e1 : a.tmps[1]?.getD undef = .pointer (some ⟨W.heap.size, 0, none⟩) := hat.b 1
   have hSt := hat.st
   rw [if_pos (by rfl)]
   go_simp
   exact hK.out _ _ hSt (Below.refl _ _) rfl
  refine ⟨fun a w hat K hK => ?_, ?_⟩
  ·have e32 : a.tmps[32]?.getD undef = .pointer (some ⟨W.heap.size, 3, none⟩) := hat.d 11 32
   have hSt := hat.st
   rw [if_pos (by rfl)]
   go_simp
   exact hK.out _ _ hSt (Below.refl _ _) rfl
  refine ⟨fun a w hat K hK => ?_, ?_⟩
  ·have e31 : a.tmps[31]?.getD undef = FV F b cap := hat.d 10 31
   have e33 : a.tmps[33]?.getD undef = .slice aC C.length cC := hat.d 12 33
   have hSt := hat.st
   rw [if_pos (by rfl)]
   go_simp
   go_at_call 13
   with_reducible refine (HCC.out _ hSt.2.2.1.out).mono ?_
   rintro z' v' ⟨a', c', rfl, hn', hb⟩
   exact hK.out _ _ (SL.keep hSt hb) hb ⟨a', c', rfl, hn'⟩
  refine ⟨fun a w hat K hK => ?_, ?_⟩
  ·obtain ⟨a34, c34, e34, n34⟩ := (show (Kd.sl (LC)).ok F b cap (a.tmps[34]?.getD undef) w from hat.d 13 34)
   have hSt := hat.st
   rw [if_pos (by rfl)]
   go_simp
   go_at_call 15
   with_reducible refine (HTC.out _ _ _ n34).mono ?_
   rintro z' v' ⟨a', c', rfl, hn', hb⟩
   exact hK.out _ _ (SL.keep hSt hb) hb ⟨a', c', rfl, hn'⟩
  refine ⟨mv fun a w hat => hat.d 4 25, ?_⟩
  refine ⟨mv fun a w hat => hat.d 9 30, ?_⟩
  refine ⟨mv fun a w hat => hat.d 14 35, ?_⟩
  exact trivial
 intro a w1 hsz hdf hbase hSt hval
 obtain ⟨t, df⟩ := a
 have et := Go.Rg.tmps_of hsz [21, 22, 23, 24, 25, 26, 27, 28, 29, 30, 31, 32, 33, 34, 35, 5, 6, 7] (fun k hk => hbase k (Go.Rg.base_of (by kernel_rfl) hk))
 obtain ⟨p5, q5, x5, m5⟩ := (show (Kd.sl (TA)).ok F b cap (t.getD 5 undef) w1 from hval 15 5 (by kernel_rfl))
 obtain ⟨p6, q6, x6, m6⟩ := (show (Kd.sl (TB)).ok F b cap (t.getD 6 undef) w1 from hval 16 6 (by kernel_rfl))
 obtain ⟨p7, q7, x7, m7⟩ := (show (Kd.sl (TC)).ok F b cap (t.getD 7 undef) w1 from hval 17 7 (by kernel_rfl))
 clear hval hbase hsz
 simp only [List.foldl_cons, List.foldl_nil, x5, x6, x7] at et
 rw [et]
 have hdf' : df = _ := hdf
 rw [hdf']
 simp only [List.setIfInBounds_toArray, List.set_cons_zero, List.set_cons_succ]
 clear et hdf hdf'
 have HN1_5 := Lib.hid m5
 have HN1_6 := Lib.hid m6
 have HN1_7 := Lib.hid m7
 clear m5 m6 m7
 have HS5 := Lib.hid hSt.start
 clear hSt hS0
 by_cases hB0 : TB = []
 ·have hyB : ((TB.length : Int) == 0) = true := by rw [hB0]; rfl
  have HB0 := Lib.hid hB0
  clear hB0
  go_upto_region 6 with (fail)
  refine Go.Rg.region_seq (S := fun w' => SL W w1 gF F b cap (.int .u8 (q : Nat)) (.slice aA A.length cA) (.slice aB B.length cB) (.slice aC C.length cC) w') (R := fun w w' => Below w.heap.size w w') (φ := phi F b cap [.eq (FV F b cap), .sl (TA), .sl (TB), .eq (.tuple #[.slice none 0 0, .slice none 0 0, .int .i64 3]), .eq (.tuple #[.slice none 0 0, .slice none 0 0, .int .i64 3]), .eq (.slice none 0 0), .eq (.slice none 0 0), .eq (.int .i64 3), .eq (.slice none 0 0), .eq (.slice none 0 0), .eq (.int .i64 3)]) (phi_mono _) (by kernel_rfl) (by kernel_rfl) (by rfl) (HS5.out) ?st2 ?fi2
  case st2 =>
   refine ⟨fun a w hat K hK => ?_, ?_⟩
   ·have e4 : a.tmps[4]?.getD undef = .pointer (some ⟨gF, 0, none⟩) := hat.b 4
    have hSt := hat.st
    rw [if_pos (by rfl)]
    go_simp
    exact hK.out _ _ hSt (Below.refl _ _) rfl
   refine ⟨mv fun a w hat => ⟨_, _, hat.b 5, (HN1_5.out.below hat.st.2.2.2.1.out)⟩, ?_⟩
   refine ⟨mv fun a w hat => ⟨_, _, hat.b 6, (HN1_6.out.below hat.st.2.2.2.1.out)⟩, ?_⟩
   refine ⟨fun a w hat K hK => ?_, ?_⟩
   ·have e37 : a.tmps[37]?.getD undef = FV F b cap := hat.d 0 37
    obtain ⟨a38, c38, e38, n38⟩ := (show (Kd.sl (TA)).ok F b cap (a.tmps[38]?.getD undef) w from hat.d 1 38)
    obtain ⟨a39, c39, e39, n39⟩ := (show (Kd.sl (TB)).ok F b cap (a.tmps[39]?.getD undef) w from hat.d 2 39)
    have hSt := hat.st
    rw [if_pos (by rfl)]
    go_simp
    go_at_call 17
    with_reducible refine (dm_zero HB0.out n39).mono ?_
    rintro z' v' ⟨rfl, hb⟩
    exact hK.out _ _ (SL.keep hSt hb) hb rfl
   refine ⟨mv fun a w hat => hat.d 3 40, ?_⟩
   refine ⟨fun a w hat K hK => ?_, ?_⟩
   ·have e36 : a.tmps[36]?.getD undef = .tuple #[.slice none 0 0, .slice none 0 0, .int .i64 3] := hat.d 4 36
    have hSt := hat.st
    rw [if_pos (by rfl)]
    go_simp
    exact hK.out _ _ hSt (Below.refl _ _) rfl
   refine ⟨fun a w hat K hK => ?_, ?_⟩
   ·have e36 : a.tmps[36]?.getD undef = .tuple #[.slice none 0 0, .slice none 0 0, .int .i64 3] := hat.d 4 36
    have hSt := hat.st
    rw [if_pos (by rfl)]
    go_simp
    exact hK.out _ _ hSt (Below.refl _ _) rfl
   refine ⟨fun a w hat K hK => ?_, ?_⟩
   ·have e36 : a.tmps[36]?.getD undef = .tuple #[.slice none 0 0, .slice none 0 0, .int .i64 3] := hat.d 4 36
    have hSt := hat.st
    rw [if_pos (by rfl)]
    go_simp
    exact hK.out _ _ hSt (Below.refl _ _) rfl
   refine ⟨mv fun a w hat => hat.d 5 41, ?_⟩
   refine ⟨mv fun a w hat => hat.d 6 42, ?_⟩
   refine ⟨mv fun a w hat => hat.d 7 43, ?_⟩
   exact trivial
  intro a w2 hsz hdf hbase hSt hval
  obtain ⟨t, df⟩ := a
  have et := Go.Rg.tmps_of hsz [37, 38, 39, 40, 36, 41, 42, 43, 8, 9, 10] (fun k hk => hbase k (Go.Rg.base_of (by kernel_rfl) hk))
  have x8 : t.getD 8 undef = .slice none 0 0 := hval 8 8 (by kernel_rfl)
  have x9 : t.getD 9 undef = .slice none 0 0 := hval 9 9 (by kernel_rfl)
  have x10 : t.getD 10 undef = .int .i64 3 := hval 10 10 (by kernel_rfl)
  clear hval hbase hsz
  simp only [List.foldl_cons, List.foldl_nil, x8, x9, x10] at et
  rw [et]
  have hdf' : df = _ := hdf
  rw [hdf']
  simp only [List.setIfInBounds_toArray, List.set_cons_zero, List.set_cons_succ]
  clear et hdf hdf'
  have HN2_5 := Lib.hid (HN1_5.out.below hSt.2.2.2.1.out)
  have HN2_6 := Lib.hid (HN1_6.out.below hSt.2.2.2.1.out)
  have HN2_7 := Lib.hid (HN1_7.out.below hSt.2.2.2.1.out)
  have HS6 := Lib.hid hSt.start
  clear hSt
  go_upto_region 7 with (fail)
  refine Go.Rg.region_seq (S := fun w' => SL W w2 gF F b cap (.int .u8 (q : Nat)) (.slice aA A.length cA) (.slice aB B.length cB) (.slice aC C.length cC) w') (R := fun w w' => Below w.heap.size w w') (φ := phi F b cap [.sl (TB), .eq (.int .i64 ((TB).length : Nat)), .eq (.bool true)]) (phi_mono _) (by kernel_rfl) (by kernel_rfl) (by rfl) (HS6.out) ?st3 ?fi3
  case st3 =>
   refine ⟨mv fun a w hat => ⟨_, _, hat.b 6, (HN2_6.out.below hat.st.2.2.2.1.out)⟩, ?_⟩
   refine ⟨fun a w hat K hK => ?_, ?_⟩
   ·obtain ⟨a44, c44, e44, n44⟩ := (show (Kd.sl (TB)).ok F b cap (a.tmps[44]?.getD undef) w from hat.d 0 44)
    have hSt := hat.st
    rw [if_pos (by rfl)]
    go_simp
    exact hK.out _ _ hSt (Below.refl _ _) rfl
   refine ⟨fun a w hat K hK => ?_, ?_⟩
   ·have e45 : a.tmps[45]?.getD undef = .int .i64 ((TB).length : Nat) := hat.d 1 45
    have hSt := hat.st
    rw [if_pos (by rfl)]
    go_simp
    exact hK.out _ _ hSt (Below.refl _ _) rfl
   exact trivial
  intro a w3 hsz hdf hbase hSt hval
  obtain ⟨t, df⟩ := a
  have et := Go.Rg.tmps_of hsz [44, 45, 46] (fun k hk => hbase k (Go.Rg.base_of (by kernel_rfl) hk))
  have x46 : t.getD 46 undef = .bool true := hval 2 46 (by kernel_rfl)
  clear hval hbase hsz
  simp only [List.foldl_cons, List.foldl_nil, x46] at et
  rw [et]
  have hdf' : df = _ := hdf
  rw [hdf']
  simp only [List.setIfInBounds_toArray, List.set_cons_zero, List.set_cons_succ]
  clear et hdf hdf'
  have HN3_5 := Lib.hid (HN2_5.out.below hSt.2.2.2.1.out)
  have HN3_6 := Lib.hid (HN2_6.out.below hSt.2.2.2.1.out)
  have HN3_7 := Lib.hid (HN2_7.out.below hSt.2.2.2.1.out)
  have HS7 := Lib.hid hSt.start
  clear hSt
  go_upto_region 8 with (fail)
  refine Go.Rg.region_seq (S := fun w' => SL W w3 gF F b cap (.int .u8 (q : Nat)) (.slice aA A.length cA) (.slice aB B.length cB) (.slice aC C.length cC) w') (R := fun w w' => Below w.heap.size w w') (φ := phi F b cap [.eq (.int .i64 3), .eq (.bool true), .eq (.bool true), .eq (.slice none 0 0), .eq (.int .i64 0), .eq (.bool true), .eq (.bool true), .eq (.bool true), .eq (.slice none 0 0), .eq (.int .i64 0), .eq (.bool true), .eq (.bool true), .eq (.bool true), .eq (.bool true), .eq (.bool true), .eq (.bool true)]) (phi_mono _) (by kernel_rfl) (by kernel_rfl) (by rfl) (HS7.out) ?st4 ?fi4
  case st4 =>
   refine ⟨mv fun a w hat => hat.b 10, ?_⟩
   refine ⟨fun a w hat K hK => ?_, ?_⟩
   ·have e47 : a.tmps[47]?.getD undef = .int .i64 3 := hat.d 0 47
    have hSt := hat.st
    rw [if_pos (by rfl)]
    go_simp
    exact hK.out _ _ hSt (Below.refl _ _) rfl
   refine ⟨mv fun a w hat => hat.d 1 48, ?_⟩
   refine ⟨mvg 2 49 true fun a w hat => hat.b 8, ?_⟩
   refine ⟨fun a w hat K hK => ?_, ?_⟩
   ·have e50 : a.tmps[50]?.getD undef = .slice none 0 0 := hat.d 3 50
    have hSt := hat.st
    rw [if_pos (wy hat 2 49 true)]
    go_simp
    exact hK.out _ _ hSt (Below.refl _ _) rfl
   refine ⟨fun a w hat K hK => ?_, ?_⟩
   ·have e51 : a.tmps[51]?.getD undef = .int .i64 0 := hat.d 4 51
    have hSt := hat.st
    rw [if_pos (wy hat 2 49 true)]
    go_simp
    exact hK.out _ _ hSt (Below.refl _ _) rfl
   refine ⟨fun a w hat K hK => ?_, ?_⟩
   ·have e49 : a.tmps[49]?.getD undef = .bool true := hat.d 2 49
    have e52 : a.tmps[52]?.getD undef = .bool true := hat.d 5 52
    have hSt := hat.st
    rw [if_pos (by rfl)]
    go_simp
    exact hK.out _ _ hSt (Below.refl _ _) rfl
   refine ⟨mv fun a w hat => hat.d 6 53, ?_⟩
   refine ⟨mvg 7 54 true fun a w hat => hat.b 9, ?_⟩
   refine ⟨fun a w hat K hK => ?_, ?_⟩
   ·have e55 : a.tmps[55]?.getD undef = .slice none 0 0 := hat.d 8 55
    have hSt := hat.st
    rw [if_pos (wy hat 7 54 true)]
    go_simp
    exact hK.out _ _ hSt (Below.refl _ _) rfl
   refine ⟨fun a w hat K hK => ?_, ?_⟩
   ·have e56 : a.tmps[56]?.getD undef = .int .i64 0 := hat.d 9 56
    have hSt := hat.st
    rw [if_pos (wy hat 7 54 true)]
    go_simp
    exact hK.out _ _ hSt (Below.refl _ _) rfl
   refine ⟨fun a w hat K hK => ?_, ?_⟩
   ·have e54 : a.tmps[54]?.getD undef = .bool true := hat.d 7 54
    have e57 : a.tmps[57]?.getD undef = .bool true := hat.d 10 57
    have hSt := hat.st
    rw [if_pos (by rfl)]
    go_simp
    exact hK.out _ _ hSt (Below.refl _ _) rfl
   refine ⟨mv fun a w hat => hat.d 11 58, ?_⟩
   refine ⟨mvg 12 59 true fun a w hat => hat.b 3, ?_⟩
   refine ⟨fun a w hat K hK => ?_, ?_⟩
   ·have e59 : a.tmps[59]?.getD undef = .bool true := hat.d 12 59
    have e60 : a.tmps[60]?.getD undef = .bool true := hat.d 13 60
    have hSt := hat.st
    rw [if_pos (by rfl)]
    go_simp
    exact hK.out _ _ hSt (Below.refl _ _) rfl
   refine ⟨mv fun a w hat => hat.d 14 61, ?_⟩
   exact trivial
  intro a w4 hsz hdf hbase hSt hval
  obtain ⟨t, df⟩ := a
  have et := Go.Rg.tmps_of hsz [47, 48, 49, 50, 51, 52, 53, 54, 55, 56, 57, 58, 59, 60, 61, 2] (fun k hk => hbase k (Go.Rg.base_of (by kernel_rfl) hk))
  have x2 : t.getD 2 undef = .bool true := hval 15 2 (by kernel_rfl)
  clear hval hbase hsz
  simp only [List.foldl_cons, List.foldl_nil, x2] at et
  rw [et]
  have hdf' : df = _ := hdf
  rw [hdf']
  simp only [List.setIfInBounds_toArray, List.set_cons_zero, List.set_cons_succ]
  clear et hdf hdf'
  have HN4_5 := Lib.hid (HN3_5.out.below hSt.2.2.2.1.out)
  have HN4_6 := Lib.hid (HN3_6.out.below hSt.2.2.2.1.out)
  have HN4_7 := Lib.hid (HN3_7.out.below hSt.2.2.2.1.out)
  have HBF := Lib.hid hSt.2.2.1.out
  clear hSt
  go_wp2
  go_ret
  exact ⟨rfl, HBF.out⟩
 ·have hlB : 0 < TB.length := List.length_pos_iff.2 hB0
  have hyB : ((TB.length : Int) == 0) = false := by simp; exact hB0
  have hyC : ¬ TB.length = 0 := by omega
  obtain ⟨QQ, RR, hDM⟩ := DM.exists HFF.out HPA.out.1 HPB.out.1 hB0
  have HDM := Lib.hid hDM
  have HPQ : Hid (PL F 10 QQ) := Lib.hid ⟨hDM.q, Nat.le_trans (dm_len HFF.out HPA.out.1 HPB.out.1 hB0 hDM) HPA.out.2⟩
  have HPR : Hid (PL F 10 RR) := Lib.hid ⟨hDM.r, by have := hDM.len; have := HPB.out.2; omega⟩
  have hrl : RR.length < TB.length := hDM.len
  have hrl1 : ¬ (TB.length : Int) ≤ (RR.length : Int) := by omega
  have hrl2 : ¬ TB.length ≤ RR.length := by omega
  obtain ⟨dd, hdd⟩ : ∃ dd, TB.length = dd + 1 := ⟨TB.length - 1, by omega⟩
  have hlb10 : TB.length ≤ 10 := HPB.out.2
  have hwd : IntKind.i64.wrap ((TB.length : Int) - 1) = (dd : Int) := (IntWalk.i64_in _ (by omega)).trans (by omega)
  have HDD := Lib.hid hdd
  clear hdd
  obtain ⟨mm, HMM⟩ : ∃ mm, Hid ((TC.length < dd ∧ mm = TC.length) ∨ (¬ TC.length < dd ∧ mm = dd)) := by
   by_cases h : TC.length < dd
   ·exact ⟨_, Lib.hid (.inl ⟨h, rfl⟩)⟩
   ·exact ⟨_, Lib.hid (.inr ⟨h, rfl⟩)⟩
  have HMC : Hid (mm ≤ TC.length) := Lib.hid (by have := HMM.out; omega)
  have hmd : mm ≤ dd := by have := HMM.out; omega
  obtain ⟨TK, HTK⟩ : ∃ l, Hid (TC.take mm = l) := ⟨_, rfl⟩
  have HIK : Hid (In F TK ∧ TK.length ≤ 10) := Lib.hid (by rw [← HTK.out]; exact ⟨fun x hx => HPC.out.1.el x (List.mem_of_mem_take hx), by rw [List.length_take]; have := HPC.out.2; omega⟩)
  obtain ⟨TM, hTM⟩ : ∃ l, Hid (trL TK = l) := ⟨_, rfl⟩
  have HPM : Hid (PL F 10 TM) := Lib.hid (by rw [← hTM.out]; exact pl_tr HIK.out.1 HIK.out.2)
  have HML : Hid (TM.length < TB.length) := Lib.hid (by have h1 := trL_len TK; rw [hTM.out, ← HTK.out, List.length_take] at h1; have := HDD.out; omega)
  have HTM : Hid (∀ w a c, NN TK w (.slice a TK.length c) → Calls Try.prog 15 #[.slice a TK.length c] w (SlPost TM w)) := Lib.hid (fun w a c hn => by rw [← hTM.out]; exact trim_c (by have := HIK.out.2; omega) rfl hn)
  have HDM2 : Hid (DM F (addP F (mulP F TA TB) TM) TB TA TM) := Lib.hid (DM.of HFF.out HPA.out.1 HPB.out.1 HPM.out.1 HML.out)
  have HB0 := Lib.hid hB0
  clear hB0 hDM hmd
  go_upto_region 6 with (fail)
  refine Go.Rg.region_seq (S := fun w' => SL W w1 gF F b cap (.int .u8 (q : Nat)) (.slice aA A.length cA) (.slice aB B.length cB) (.slice aC C.length cC) w') (R := fun w w' => Below w.heap.size w w') (φ := phi F b cap [.eq (FV F b cap), .sl (TA), .sl (TB), .dm (QQ) (RR), .dm (QQ) (RR), .sl (QQ), .sl (RR), .eq (.int .i64 0), .sl (QQ), .sl (RR), .eq (.int .i64 0)]) (phi_mono _) (by kernel_rfl) (by kernel_rfl) (by rfl) (HS5.out) ?st5 ?fi5
  case st5 =>
   refine ⟨fun a w hat K hK => ?_, ?_⟩
   ·have e4 : a.tmps[4]?.getD undef = .pointer (some ⟨gF, 0, none⟩) := hat.b 4
    have hSt := hat.st
    rw [if_pos (by rfl)]
    go_simp
    exact hK.out _ _ hSt (Below.refl _ _) rfl
   refine ⟨mv fun a w hat => ⟨_, _, hat.b 5, (HN1_5.out.below hat.st.2.2.2.1.out)⟩, ?_⟩
   refine ⟨mv fun a w hat => ⟨_, _, hat.b 6, (HN1_6.out.below hat.st.2.2.2.1.out)⟩, ?_⟩
   refine ⟨fun a w hat K hK => ?_, ?_⟩
   ·have e37 : a.tmps[37]?.getD undef = FV F b cap := hat.d 0 37
    obtain ⟨a38, c38, e38, n38⟩ := (show (Kd.sl (TA)).ok F b cap (a.tmps[38]?.getD undef) w from hat.d 1 38)
    obtain ⟨a39, c39, e39, n39⟩ := (show (Kd.sl (TB)).ok F b cap (a.tmps[39]?.getD undef) w from hat.d 2 39)
    have hSt := hat.st
    rw [if_pos (by rfl)]
    go_simp
    go_at_call 17
    with_reducible refine (dm_po (hSt.2.2.2.2.1.out.ops) HPA.out HPB.out HB0.out HDM.out (by decide) (by decide) n38 n39).mono ?_
    rintro z' v' ⟨a', c', a2', c2', rfl, hn', hn2', hb⟩
    exact hK.out _ _ (SL.keep hSt hb) hb ⟨a', c', a2', c2', rfl, hn', hn2'⟩
   refine ⟨mv fun a w hat => hat.d 3 40, ?_⟩
   refine ⟨fun a w hat K hK => ?_, ?_⟩
   ·obtain ⟨a36, c36, a'36, c'36, e36, n36, n'36⟩ := (show (Kd.dm (QQ) (RR)).ok F b cap (a.tmps[36]?.getD undef) w from hat.d 4 36)
    have hSt := hat.st
    rw [if_pos (by rfl)]
    go_simp
    exact hK.out _ _ hSt (Below.refl _ _) ⟨a36, c36, rfl, n36⟩
   refine ⟨fun a w hat K hK => ?_, ?_⟩
   ·obtain ⟨a36, c36, a'36, c'36, e36, n36, n'36⟩ := (show (Kd.dm (QQ) (RR)).ok F b cap (a.tmps[36]?.getD undef) w from hat.d 4 36)
    have hSt := hat.st
    rw [if_pos (by rfl)]
    go_simp
    exact hK.out _ _ hSt (Below.refl _ _) ⟨a'36, c'36, rfl, n'36⟩
   refine ⟨fun a w hat K hK => ?_, ?_⟩
   ·obtain ⟨a36, c36, a'36, c'36, e36, n36, n'36⟩ := (show (Kd.dm (QQ) (RR)).ok F b cap (a.tmps[36]?.getD undef) w from hat.d 4 36)
    have hSt := hat.st
    rw [if_pos (by rfl)]
    go_simp
    exact hK.out _ _ hSt (Below.refl _ _) rfl
   refine ⟨mv fun a w hat => hat.d 5 41, ?_⟩
   refine ⟨mv fun a w hat => hat.d 6 42, ?_⟩
   refine ⟨mv fun a w hat => hat.d 7 43, ?_⟩
   exact trivial
  intro a w2 hsz hdf hbase hSt hval
  obtain ⟨t, df⟩ := a
  have et := Go.Rg.tmps_of hsz [37, 38, 39, 40, 36, 41, 42, 43, 8, 9, 10] (fun k hk => hbase k (Go.Rg.base_of (by kernel_rfl) hk))
  obtain ⟨p8, q8, x8, m8⟩ := (show (Kd.sl (QQ)).ok F b cap (t.getD 8 undef) w2 from hval 8 8 (by kernel_rfl))
  obtain ⟨p9, q9, x9, m9⟩ := (show (Kd.sl (RR)).ok F b cap (t.getD 9 undef) w2 from hval 9 9 (by kernel_rfl))
  have x10 : t.getD 10 undef = .int .i64 0 := hval 10 10 (by kernel_rfl)
  clear hval hbase hsz
  simp only [List.foldl_cons, List.foldl_nil, x8, x9, x10] at et
  rw [et]
  have hdf' : df = _ := hdf
  rw [hdf']
  simp only [List.setIfInBounds_toArray, List.set_cons_zero, List.set_cons_succ]
  clear et hdf hdf'
  have HN2_5 := Lib.hid (HN1_5.out.below hSt.2.2.2.1.out)
  have HN2_6 := Lib.hid (HN1_6.out.below hSt.2.2.2.1.out)
  have HN2_7 := Lib.hid (HN1_7.out.below hSt.2.2.2.1.out)
  have HN2_8 := Lib.hid m8
  have HN2_9 := Lib.hid m9
  clear m8 m9
  have HS6 := Lib.hid hSt.start
  clear hSt
  go_upto_region 7 with (fail)
  refine Go.Rg.region_seq (S := fun w' => SL W w2 gF F b cap (.int .u8 (q : Nat)) (.slice aA A.length cA) (.slice aB B.length cB) (.slice aC C.length cC) w') (R := fun w w' => Below w.heap.size w w') (φ := phi F b cap [.sl (TB), .eq (.int .i64 ((TB).length : Nat)), .eq (.bool false)]) (phi_mono _) (by kernel_rfl) (by kernel_rfl) (by rfl) (HS6.out) ?st6 ?fi6
  case st6 =>
   refine ⟨mv fun a w hat => ⟨_, _, hat.b 6, (HN2_6.out.below hat.st.2.2.2.1.out)⟩, ?_⟩
   refine ⟨fun a w hat K hK => ?_, ?_⟩
   ·obtain ⟨a44, c44, e44, n44⟩ := (show (Kd.sl (TB)).ok F b cap (a.tmps[44]?.getD undef) w from hat.d 0 44)
    have hSt := hat.st
    rw [if_pos (by rfl)]
    go_simp
    exact hK.out _ _ hSt (Below.refl _ _) rfl
   refine ⟨fun a w hat K hK => ?_, ?_⟩
   ·have e45 : a.tmps[45]?.getD undef = .int .i64 ((TB).length : Nat) := hat.d 1 45
    have hSt := hat.st
    rw [if_pos (by rfl)]
    go_simp
    exact hK.out _ _ hSt (Below.refl _ _) rfl
   exact trivial
  intro a w3 hsz hdf hbase hSt hval
  obtain ⟨t, df⟩ := a
  have et := Go.Rg.tmps_of hsz [44, 45, 46] (fun k hk => hbase k (Go.Rg.base_of (by kernel_rfl) hk))
  have x46 : t.getD 46 undef = .bool false := hval 2 46 (by kernel_rfl)
  clear hval hbase hsz
  simp only [List.foldl_cons, List.foldl_nil, x46] at et
  rw [et]
  have hdf' : df = _ := hdf
  rw [hdf']
  simp only [List.setIfInBounds_toArray, List.set_cons_zero, List.set_cons_succ]
  clear et hdf hdf'
  have HN3_5 := Lib.hid (HN2_5.out.below hSt.2.2.2.1.out)
  have HN3_6 := Lib.hid (HN2_6.out.below hSt.2.2.2.1.out)
  have HN3_7 := Lib.hid (HN2_7.out.below hSt.2.2.2.1.out)
  have HN3_8 := Lib.hid (HN2_8.out.below hSt.2.2.2.1.out)
  have HN3_9 := Lib.hid (HN2_9.out.below hSt.2.2.2.1.out)
  have HS7 := Lib.hid hSt.start
  clear hSt
  go_upto_region 9 with (fail)
  have hS0 := HS7.out.drew
  have HP_1 : Hid (PL F 20 (mulP F QQ TB)) := Lib.hid (pl_mul HFF.out HPQ.out HPB.out (by decide) )
  have HP_2 : Hid (PL F 20 (addP F (mulP F QQ TB) RR)) := Lib.hid (pl_add HFF.out HP_1.out HPR.out (by decide) (by decide))
  have HEQ9_18 : Hid (addP F (mulP F QQ TB) RR = TA) := Lib.hid ((fn_DM HFF.out HPA.out.1 HPB.out.1.el HDM.out).symm)
  refine Go.Rg.region_by (S := fun w' => SL W w3 gF F b cap (.int .u8 (q : Nat)) (.slice aA A.length cA) (.slice aB B.length cB) (.slice aC C.length cC) w') (R := fun w w' => Below w.heap.size w w') (φ := phi F b cap [.eq (.int .i64 0), .eq (.bool false), .eq (.bool false), .sl (RR), .eq (.int .i64 ((RR).length : Nat)), .sl (TB), .eq (.int .i64 ((TB).length : Nat)), .eq (.bool false), .eq (.bool false), .eq (.bool false), .eq (FV F b cap), .eq (FV F b cap), .sl (QQ), .sl (TB), .sl (mulP F QQ TB), .sl (RR), .sl (addP F (mulP F QQ TB) RR), .sl (TA), .eq (.bool true), .eq (.bool false), .eq (.bool false)]) (by kernel_rfl) (phi_mono _) (by kernel_rfl) (by kernel_rfl) (by rfl) (hS0) (Go.Rg.steps_ok ?st7) ?fi7
  case st7 =>
   refine ⟨mv fun a w hat => hat.b 10, ?_⟩
   refine ⟨fun a w hat K hK => ?_, ?_⟩
   ·have e62 : a.tmps[62]?.getD undef = .int .i64 0 := hat.d 0 62
    have hSt := hat.st
    rw [if_pos (by rfl)]
    go_simp
    exact hK.out _ _ hSt (Below.refl _ _) rfl
   refine ⟨mv fun a w hat => hat.d 1 63, ?_⟩
   refine ⟨mvg 2 64 false fun a w hat => ⟨_, _, hat.b 9, (HN3_9.out.below hat.st.2.2.2.1.out)⟩, ?_⟩
   refine ⟨fun a w hat K hK => ?_, ?_⟩
   ·obtain ⟨a65, c65, e65, n65⟩ := (show (Kd.sl (RR)).ok F b cap (a.tmps[65]?.getD undef) w from hat.d 3 65)
    have hSt := hat.st
    rw [if_pos (wy hat 2 64 false)]
    go_simp
    exact hK.out _ _ hSt (Below.refl _ _) rfl
   refine ⟨mvg 2 64 false fun a w hat => ⟨_, _, hat.b 6, (HN3_6.out.below hat.st.2.2.2.1.out)⟩, ?_⟩
   refine ⟨fun a w hat K hK => ?_, ?_⟩
   ·obtain ⟨a67, c67, e67, n67⟩ := (show (Kd.sl (TB)).ok F b cap (a.tmps[67]?.getD undef) w from hat.d 5 67)
    have hSt := hat.st
    rw [if_pos (wy hat 2 64 false)]
    go_simp
    exact hK.out _ _ hSt (Below.refl _ _) rfl
   refine ⟨fun a w hat K hK => ?_, ?_⟩
   ·have e66 : a.tmps[66]?.getD undef = .int .i64 ((RR).length : Nat) := hat.d 4 66
    have e68 : a.tmps[68]?.getD undef = .int .i64 ((TB).length : Nat) := hat.d 6 68
    have hSt := hat.st
    rw [if_pos (wy hat 2 64 false)]
    go_simp
    exact hK.out _ _ hSt (Below.refl _ _) rfl
   refine ⟨fun a w hat K hK => ?_, ?_⟩
   ·have e64 : a.tmps[64]?.getD undef = .bool false := hat.d 2 64
    have e69 : a.tmps[69]?.getD undef = .bool false := hat.d 7 69
    have hSt := hat.st
    rw [if_pos (by rfl)]
    go_simp
    exact hK.out _ _ hSt (Below.refl _ _) rfl
   refine ⟨mv fun a w hat => hat.d 8 70, ?_⟩
   refine ⟨fun a w hat K hK => ?_, ?_⟩
   ·have e4 : a.tmps[4]?.getD undef = .pointer (some ⟨gF, 0, none⟩) := hat.b 4
    have hSt := hat.st
    rw [if_pos (wy hat 9 71 false)]
    go_simp
    exact hK.out _ _ hSt (Below.refl _ _) rfl
   refine ⟨fun a w hat K hK => ?_, ?_⟩
   ·have e4 : a.tmps[4]?.getD undef = .pointer (some ⟨gF, 0, none⟩) := hat.b 4
    have hSt := hat.st
    rw [if_pos (wy hat 9 71 false)]
    go_simp
    exact hK.out _ _ hSt (Below.refl _ _) rfl
   refine ⟨mvg 9 71 false fun a w hat => ⟨_, _, hat.b 8, (HN3_8.out.below hat.st.2.2.2.1.out)⟩, ?_⟩
   refine ⟨mvg 9 71 false fun a w hat => ⟨_, _, hat.b 6, (HN3_6.out.below hat.st.2.2.2.1.out)⟩, ?_⟩
   refine ⟨fun a w hat K hK => ?_, ?_⟩
   ·have e73 : a.tmps[73]?.getD undef = FV F b cap := hat.d 11 73
    obtain ⟨a74, c74, e74, n74⟩ := (show (Kd.sl (QQ)).ok F b cap (a.tmps[74]?.getD undef) w from hat.d 12 74)
    obtain ⟨a75, c75, e75, n75⟩ := (show (Kd.sl (TB)).ok F b cap (a.tmps[75]?.getD undef) w from hat.d 13 75)
    have hSt := hat.st
    rw [if_pos (wy hat 9 71 false)]
    go_simp
    go_at_call 23
    with_reducible refine (pmul_po (hSt.2.2.2.2.1.out.ops) HPQ.out HPB.out (by decide) (by decide) n74 n75).mono ?_
    rintro z' v' ⟨a', c', rfl, hn', hb⟩
    exact hK.out _ _ (SL.keep hSt hb) hb ⟨a', c', rfl, hn'⟩
   refine ⟨mvg 9 71 false fun a w hat => ⟨_, _, hat.b 9, (HN3_9.out.below hat.st.2.2.2.1.out)⟩, ?_⟩
   refine ⟨fun a w hat K hK => ?_, ?_⟩
   ·have e72 : a.tmps[72]?.getD undef = FV F b cap := hat.d 10 72
    obtain ⟨a76, c76, e76, n76⟩ := (show (Kd.sl (mulP F QQ TB)).ok F b cap (a.tmps[76]?.getD undef) w from hat.d 14 76)
    obtain ⟨a77, c77, e77, n77⟩ := (show (Kd.sl (RR)).ok F b cap (a.tmps[77]?.getD undef) w from hat.d 15 77)
    have hSt := hat.st
    rw [if_pos (wy hat 9 71 false)]
    go_simp
    go_at_call 21
    with_reducible refine (padd_po (hSt.2.2.2.2.1.out.ops) HP_1.out HPR.out (by decide) (by decide) n76 n77).mono ?_
    rintro z' v' ⟨a', c', rfl, hn', hb⟩
    exact hK.out _ _ (SL.keep hSt hb) hb ⟨a', c', rfl, hn'⟩
   refine ⟨mvg 9 71 false fun a w hat => ⟨_, _, hat.b 5, (HN3_5.out.below hat.st.2.2.2.1.out)⟩, ?_⟩
   refine ⟨fun a w hat K hK => ?_, ?_⟩
   ·obtain ⟨a78, c78, e78, n78⟩ := (show (Kd.sl (addP F (mulP F QQ TB) RR)).ok F b cap (a.tmps[78]?.getD undef) w from hat.d 16 78)
    obtain ⟨a79, c79, e79, n79⟩ := (show (Kd.sl (TA)).ok F b cap (a.tmps[79]?.getD undef) w from hat.d 17 79)
    have hSt := hat.st
    rw [if_pos (wy hat 9 71 false)]
    go_simp
    go_at_call 14
    with_reducible refine (ints_po HP_2.out HPA.out HEQ9_18.out (by decide) (by decide) n78 n79).mono ?_
    rintro z' v' ⟨rfl, hb⟩
    exact hK.out _ _ (SL.keep hSt hb) hb rfl
   refine ⟨fun a w hat K hK => ?_, ?_⟩
   ·have e80 : a.tmps[80]?.getD undef = .bool true := hat.d 18 80
    have hSt := hat.st
    rw [if_pos (wy hat 9 71 false)]
    go_simp
    exact hK.out _ _ hSt (Below.refl _ _) rfl
   refine ⟨fun a w hat K hK => ?_, ?_⟩
   ·have e71 : a.tmps[71]?.getD undef = .bool false := hat.d 9 71
    have e81 : a.tmps[81]?.getD undef = .bool false := hat.d 19 81
    have hSt := hat.st
    rw [if_pos (by rfl)]
    go_simp
    exact hK.out _ _ hSt (Below.refl _ _) rfl
   exact trivial
  intro a w4 hsz hdf hbase hSt hval
  obtain ⟨t, df⟩ := a
  have et := Go.Rg.tmps_of hsz [62, 63, 64, 65, 66, 67, 68, 69, 70, 71, 72, 73, 74, 75, 76, 77, 78, 79, 80, 81, 82] (fun k hk => hbase k (Go.Rg.base_of (by kernel_rfl) hk))
  have x82 : t.getD 82 undef = .bool false := hval 20 82 (by kernel_rfl)
  clear hval hbase hsz
  simp only [List.foldl_cons, List.foldl_nil, x82] at et
  rw [et]
  have hdf' : df = _ := hdf
  rw [hdf']
  simp only [List.setIfInBounds_toArray, List.set_cons_zero, List.set_cons_succ]
  clear et hdf hdf'
  have HN4_5 := Lib.hid (HN3_5.out.below hSt.2.2.2.1.out)
  have HN4_6 := Lib.hid (HN3_6.out.below hSt.2.2.2.1.out)
  have HN4_7 := Lib.hid (HN3_7.out.below hSt.2.2.2.1.out)
  have HN4_8 := Lib.hid (HN3_8.out.below hSt.2.2.2.1.out)
  have HN4_9 := Lib.hid (HN3_9.out.below hSt.2.2.2.1.out)
  have HS9 := Lib.hid hSt.start
  clear hSt hS0
  go_upto_region 11 with (fail)
  refine Go.Rg.region_seq (S := fun w' => SL W w4 gF F b cap (.int .u8 (q : Nat)) (.slice aA A.length cA) (.slice aB B.length cB) (.slice aC C.length cC) w') (R := fun w w' => Below w.heap.size w w') (φ := phi F b cap [.sl (TC), .sl (TC), .eq (.int .i64 ((TC).length : Nat)), .sl (TB), .eq (.int .i64 ((TB).length : Nat)), .eq (.int .i64 (dd : Nat)), .eq (.int .i64 (mm : Nat)), .sl (TK), .sl (TM), .sl (TM)]) (phi_mono _) (by kernel_rfl) (by kernel_rfl) (by rfl) (HS9.out) ?st8 ?fi8
  case st8 =>
   refine ⟨mv fun a w hat => ⟨_, _, hat.b 7, (HN4_7.out.below hat.st.2.2.2.1.out)⟩, ?_⟩
   refine ⟨mv fun a w hat => ⟨_, _, hat.b 7, (HN4_7.out.below hat.st.2.2.2.1.out)⟩, ?_⟩
   refine ⟨fun a w hat K hK => ?_, ?_⟩
   ·obtain ⟨a84, c84, e84, n84⟩ := (show (Kd.sl (TC)).ok F b cap (a.tmps[84]?.getD undef) w from hat.d 1 84)
    have hSt := hat.st
    rw [if_pos (by rfl)]
    go_simp
    exact hK.out _ _ hSt (Below.refl _ _) rfl
   refine ⟨mv fun a w hat => ⟨_, _, hat.b 6, (HN4_6.out.below hat.st.2.2.2.1.out)⟩, ?_⟩
   refine ⟨fun a w hat K hK => ?_, ?_⟩
   ·obtain ⟨a86, c86, e86, n86⟩ := (show (Kd.sl (TB)).ok F b cap (a.tmps[86]?.getD undef) w from hat.d 3 86)
    have hSt := hat.st
    rw [if_pos (by rfl)]
    go_simp
    exact hK.out _ _ hSt (Below.refl _ _) rfl
   refine ⟨fun a w hat K hK => ?_, ?_⟩
   ·have e87 : a.tmps[87]?.getD undef = .int .i64 ((TB).length : Nat) := hat.d 4 87
    have hSt := hat.st
    rw [if_pos (by rfl)]
    go_simp
    exact hK.out _ _ hSt (Below.refl _ _) rfl
   refine ⟨fun a w hat K hK => ?_, ?_⟩
   ·have e85 : a.tmps[85]?.getD undef = .int .i64 ((TC).length : Nat) := hat.d 2 85
    have e88 : a.tmps[88]?.getD undef = .int .i64 (dd : Nat) := hat.d 5 88
    have hSt := hat.st
    rw [if_pos (by rfl)]
    have hmm' := HMM.out
    go_simp
    exact hK.out _ _ hSt (Below.refl _ _) (by show Value.int .i64 _ = Value.int .i64 _; congr 1; split <;> omega)
   refine ⟨fun a w hat K hK => ?_, ?_⟩
   ·obtain ⟨a83, c83, e83, n83⟩ := (show (Kd.sl (TC)).ok F b cap (a.tmps[83]?.getD undef) w from hat.d 0 83)
    have e89 : a.tmps[89]?.getD undef = .int .i64 (mm : Nat) := hat.d 6 89
    have hSt := hat.st
    rw [if_pos (by rfl)]
    have hle := HMC.out
    have hmm' := HMM.out
    rcases n83 with ⟨hl, hv⟩ | ⟨b', off', cap', hv, h1, h2, h3⟩
    ·injection hv with v1 v2 v3
     have hz : mm = 0 := by rw [hl] at hle; exact Nat.le_zero.1 hle
     have ht : TK = [] := by rw [← HTK.out, hl, List.take_nil]
     subst v1 v3
     rw [hl] at e83
     rw [hz] at e89
     go_simp
     exact hK.out _ _ hSt (Below.refl _ _) ⟨none, 0, by rw [ht]; rfl, .inl ⟨ht, by rw [ht]; rfl⟩⟩
    ·injection hv with v1 v2 v3
     subst v1 v3
     have hc : mm ≤ c83 := by omega
     have hn := NN.pre (.inr ⟨b', off', c83, rfl, h1, h2, h3⟩) hle
     rw [HTK.out] at hn
     have HLT : Hid (mm = TK.length) := Lib.hid (by rw [← HTK.out, List.length_take]; omega)
     go_simp
     refine hK.out _ _ hSt (Below.refl _ _) ⟨some ⟨b', off', none⟩, c83, ?_, hn⟩
     rw [HLT.out]
   refine ⟨fun a w hat K hK => ?_, ?_⟩
   ·obtain ⟨a90, c90, e90, n90⟩ := (show (Kd.sl (TK)).ok F b cap (a.tmps[90]?.getD undef) w from hat.d 7 90)
    have hSt := hat.st
    rw [if_pos (by rfl)]
    go_simp
    go_at_call 15
    with_reducible refine (HTM.out _ _ _ n90).mono ?_
    rintro z' v' ⟨a', c', rfl, hn', hb⟩
    exact hK.out _ _ (SL.keep hSt hb) hb ⟨a', c', rfl, hn'⟩
   refine ⟨mv fun a w hat => hat.d 8 91, ?_⟩
   exact trivial
  intro a w5 hsz hdf hbase hSt hval
  obtain ⟨t, df⟩ := a
  have et := Go.Rg.tmps_of hsz [83, 84, 85, 86, 87, 88, 89, 90, 91, 11] (fun k hk => hbase k (Go.Rg.base_of (by kernel_rfl) hk))
  obtain ⟨p11, q11, x11, m11⟩ := (show (Kd.sl (TM)).ok F b cap (t.getD 11 undef) w5 from hval 9 11 (by kernel_rfl))
  clear hval hbase hsz
  simp only [List.foldl_cons, List.foldl_nil, x11] at et
  rw [et]
  have hdf' : df = _ := hdf
  rw [hdf']
  simp only [List.setIfInBounds_toArray, List.set_cons_zero, List.set_cons_succ]
  clear et hdf hdf'
  have HN5_5 := Lib.hid (HN4_5.out.below hSt.2.2.2.1.out)
  have HN5_6 := Lib.hid (HN4_6.out.below hSt.2.2.2.1.out)
  have HN5_7 := Lib.hid (HN4_7.out.below hSt.2.2.2.1.out)
  have HN5_8 := Lib.hid (HN4_8.out.below hSt.2.2.2.1.out)
  have HN5_9 := Lib.hid (HN4_9.out.below hSt.2.2.2.1.out)
  have HN5_11 := Lib.hid m11
  clear m11
  have HS11 := Lib.hid hSt.start
  clear hSt
  go_upto_region 12 with (fail)
  have HP_3 : Hid (PL F 20 (mulP F TA TB)) := Lib.hid (pl_mul HFF.out HPA.out HPB.out (by decide))
  have HP_4 : Hid (PL F 20 (addP F (mulP F TA TB) TM)) := Lib.hid (pl_add HFF.out HP_3.out HPM.out (by decide) (by decide))
  refine Go.Rg.region_by (S := fun w' => SL W w5 gF F b cap (.int .u8 (q : Nat)) (.slice aA A.length cA) (.slice aB B.length cB) (.slice aC C.length cC) w') (R := fun w w' => Below w.heap.size w w') (φ := phi F b cap [.eq (FV F b cap), .eq (FV F b cap), .eq (FV F b cap), .sl (TA), .sl (TB), .sl (mulP F TA TB), .sl (TM), .sl (addP F (mulP F TA TB) TM), .sl (TB), .dm (TA) (TM), .dm (TA) (TM), .sl (TA), .sl (TM), .eq (.int .i64 0), .sl (TA), .sl (TM), .eq (.int .i64 0)]) (by kernel_rfl) (phi_mono _) (by kernel_rfl) (by kernel_rfl) (by rfl) (HS11.out.drew) (Go.Rg.steps_ok ?st9) ?fi9
  case st9 =>
   refine ⟨fun a w hat K hK => ?_, ?_⟩
   ·have e4 : a.tmps[4]?.getD undef = .pointer (some ⟨gF, 0, none⟩) := hat.b 4
    have hSt := hat.st
    rw [if_pos (by rfl)]
    go_simp
    exact hK.out _ _ hSt (Below.refl _ _) rfl
   refine ⟨fun a w hat K hK => ?_, ?_⟩
   ·have e4 : a.tmps[4]?.getD undef = .pointer (some ⟨gF, 0, none⟩) := hat.b 4
    have hSt := hat.st
    rw [if_pos (by rfl)]
    go_simp
    exact hK.out _ _ hSt (Below.refl _ _) rfl
   refine ⟨fun a w hat K hK => ?_, ?_⟩
   ·have e4 : a.tmps[4]?.getD undef = .pointer (some ⟨gF, 0, none⟩) := hat.b 4
    have hSt := hat.st
    rw [if_pos (by rfl)]
    go_simp
    exact hK.out _ _ hSt (Below.refl _ _) rfl
   refine ⟨mv fun a w hat => ⟨_, _, hat.b 5, (HN5_5.out.below hat.st.2.2.2.1.out)⟩, ?_⟩
   refine ⟨mv fun a w hat => ⟨_, _, hat.b 6, (HN5_6.out.below hat.st.2.2.2.1.out)⟩, ?_⟩
   refine ⟨fun a w hat K hK => ?_, ?_⟩
   ·have e95 : a.tmps[95]?.getD undef = FV F b cap := hat.d 2 95
    obtain ⟨a96, c96, e96, n96⟩ := (show (Kd.sl (TA)).ok F b cap (a.tmps[96]?.getD undef) w from hat.d 3 96)
    obtain ⟨a97, c97, e97, n97⟩ := (show (Kd.sl (TB)).ok F b cap (a.tmps[97]?.getD undef) w from hat.d 4 97)
    have hSt := hat.st
    rw [if_pos (by rfl)]
    go_simp
    go_at_call 23
    with_reducible refine (pmul_po (hSt.2.2.2.2.1.out.ops) HPA.out HPB.out (by decide) (by decide) n96 n97).mono ?_
    rintro z' v' ⟨a', c', rfl, hn', hb⟩
    exact hK.out _ _ (SL.keep hSt hb) hb ⟨a', c', rfl, hn'⟩
   refine ⟨mv fun a w hat => ⟨_, _, hat.b 11, (HN5_11.out.below hat.st.2.2.2.1.out)⟩, ?_⟩
   refine ⟨fun a w hat K hK => ?_, ?_⟩
   ·have e94 : a.tmps[94]?.getD undef = FV F b cap := hat.d 1 94
    obtain ⟨a98, c98, e98, n98⟩ := (show (Kd.sl (mulP F TA TB)).ok F b cap (a.tmps[98]?.getD undef) w from hat.d 5 98)
    obtain ⟨a99, c99, e99, n99⟩ := (show (Kd.sl (TM)).ok F b cap (a.tmps[99]?.getD undef) w from hat.d 6 99)
    have hSt := hat.st
    rw [if_pos (by rfl)]
    go_simp
    go_at_call 21
    with_reducible refine (padd_po (hSt.2.2.2.2.1.out.ops) HP_3.out HPM.out (by decide) (by decide) n98 n99).mono ?_
    rintro z' v' ⟨a', c', rfl, hn', hb⟩
    exact hK.out _ _ (SL.keep hSt hb) hb ⟨a', c', rfl, hn'⟩
   refine ⟨mv fun a w hat => ⟨_, _, hat.b 6, (HN5_6.out.below hat.st.2.2.2.1.out)⟩, ?_⟩
   refine ⟨fun a w hat K hK => ?_, ?_⟩
   ·have e93 : a.tmps[93]?.getD undef = FV F b cap := hat.d 0 93
    obtain ⟨a100, c100, e100, n100⟩ := (show (Kd.sl (addP F (mulP F TA TB) TM)).ok F b cap (a.tmps[100]?.getD undef) w from hat.d 7 100)
    obtain ⟨a101, c101, e101, n101⟩ := (show (Kd.sl (TB)).ok F b cap (a.tmps[101]?.getD undef) w from hat.d 8 101)
    have hSt := hat.st
    rw [if_pos (by rfl)]
    go_simp
    go_at_call 17
    with_reducible refine (dm_po (hSt.2.2.2.2.1.out.ops) HP_4.out HPB.out HB0.out HDM2.out (by decide) (by decide) n100 n101).mono ?_
    rintro z' v' ⟨a', c', a2', c2', rfl, hn', hn2', hb⟩
    exact hK.out _ _ (SL.keep hSt hb) hb ⟨a', c', a2', c2', rfl, hn', hn2'⟩
   refine ⟨mv fun a w hat => hat.d 9 102, ?_⟩
   refine ⟨fun a w hat K hK => ?_, ?_⟩
   ·obtain ⟨a92, c92, a'92, c'92, e92, n92, n'92⟩ := (show (Kd.dm (TA) (TM)).ok F b cap (a.tmps[92]?.getD undef) w from hat.d 10 92)
    have hSt := hat.st
    rw [if_pos (by rfl)]
    go_simp
    exact hK.out _ _ hSt (Below.refl _ _) ⟨a92, c92, rfl, n92⟩
   refine ⟨fun a w hat K hK => ?_, ?_⟩
   ·obtain ⟨a92, c92, a'92, c'92, e92, n92, n'92⟩ := (show (Kd.dm (TA) (TM)).ok F b cap (a.tmps[92]?.getD undef) w from hat.d 10 92)
    have hSt := hat.st
    rw [if_pos (by rfl)]
    go_simp
    exact hK.out _ _ hSt (Below.refl _ _) ⟨a'92, c'92, rfl, n'92⟩
   refine ⟨fun a w hat K hK => ?_, ?_⟩
   ·obtain ⟨a92, c92, a'92, c'92, e92, n92, n'92⟩ := (show (Kd.dm (TA) (TM)).ok F b cap (a.tmps[92]?.getD undef) w from hat.d 10 92)
    have hSt := hat.st
    rw [if_pos (by rfl)]
    go_simp
    exact hK.out _ _ hSt (Below.refl _ _) rfl
   refine ⟨mv fun a w hat => hat.d 11 103, ?_⟩
   refine ⟨mv fun a w hat => hat.d 12 104, ?_⟩
   refine ⟨mv fun a w hat => hat.d 13 105, ?_⟩
   exact trivial
  intro a w6 hsz hdf hbase hSt hval
  obtain ⟨t, df⟩ := a
  have et := Go.Rg.tmps_of hsz [93, 94, 95, 96, 97, 98, 99, 100, 101, 102, 92, 103, 104, 105, 12, 13, 14] (fun k hk => hbase k (Go.Rg.base_of (by kernel_rfl) hk))
  obtain ⟨p12, q12, x12, m12⟩ := (show (Kd.sl (TA)).ok F b cap (t.getD 12 undef) w6 from hval 14 12 (by kernel_rfl))
  obtain ⟨p13, q13, x13, m13⟩ := (show (Kd.sl (TM)).ok F b cap (t.getD 13 undef) w6 from hval 15 13 (by kernel_rfl))
  have x14 : t.getD 14 undef = .int .i64 0 := hval 16 14 (by kernel_rfl)
  clear hval hbase hsz
  simp only [List.foldl_cons, List.foldl_nil, x12, x13, x14] at et
  rw [et]
  have hdf' : df = _ := hdf
  rw [hdf']
  simp only [List.setIfInBounds_toArray, List.set_cons_zero, List.set_cons_succ]
  clear et hdf hdf'
  have HN6_5 := Lib.hid (HN5_5.out.below hSt.2.2.2.1.out)
  have HN6_6 := Lib.hid (HN5_6.out.below hSt.2.2.2.1.out)
  have HN6_7 := Lib.hid (HN5_7.out.below hSt.2.2.2.1.out)
  have HN6_8 := Lib.hid (HN5_8.out.below hSt.2.2.2.1.out)
  have HN6_9 := Lib.hid (HN5_9.out.below hSt.2.2.2.1.out)
  have HN6_11 := Lib.hid (HN5_11.out.below hSt.2.2.2.1.out)
  have HN6_12 := Lib.hid m12
  have HN6_13 := Lib.hid m13
  clear m12 m13
  have HS12 := Lib.hid hSt.start
  clear hSt
  go_upto_region 13 with (fail)
  have HEQ13_5 : Hid (TA = TA) := Lib.hid (rfl)
  have HEQ13_10 : Hid (TM = TM) := Lib.hid (rfl)
  refine Go.Rg.region_seq (S := fun w' => SL W w6 gF F b cap (.int .u8 (q : Nat)) (.slice aA A.length cA) (.slice aB B.length cB) (.slice aC C.length cC) w') (R := fun w w' => Below w.heap.size w w') (φ := phi F b cap [.eq (.int .i64 0), .eq (.bool true), .eq (.bool true), .sl (TA), .sl (TA), .eq (.bool true), .eq (.bool true), .eq (.bool true), .sl (TM), .sl (TM), .eq (.bool true), .eq (.bool true), .eq (.bool true), .eq (.bool true), .eq (.bool true), .eq (.bool true)]) (phi_mono _) (by kernel_rfl) (by kernel_rfl) (by rfl) (HS12.out) ?st10 ?fi10
  case st10 =>
   refine ⟨mv fun a w hat => hat.b 14, ?_⟩
   refine ⟨fun a w hat K hK => ?_, ?_⟩
   ·have e106 : a.tmps[106]?.getD undef = .int .i64 0 := hat.d 0 106
    have hSt := hat.st
    rw [if_pos (by rfl)]
    go_simp
    exact hK.out _ _ hSt (Below.refl _ _) rfl
   refine ⟨mv fun a w hat => hat.d 1 107, ?_⟩
   refine ⟨mvg 2 108 true fun a w hat => ⟨_, _, hat.b 12, (HN6_12.out.below hat.st.2.2.2.1.out)⟩, ?_⟩
   refine ⟨mvg 2 108 true fun a w hat => ⟨_, _, hat.b 5, (HN6_5.out.below hat.st.2.2.2.1.out)⟩, ?_⟩
   refine ⟨fun a w hat K hK => ?_, ?_⟩
   ·obtain ⟨a109, c109, e109, n109⟩ := (show (Kd.sl (TA)).ok F b cap (a.tmps[109]?.getD undef) w from hat.d 3 109)
    obtain ⟨a110, c110, e110, n110⟩ := (show (Kd.sl (TA)).ok F b cap (a.tmps[110]?.getD undef) w from hat.d 4 110)
    have hSt := hat.st
    rw [if_pos (wy hat 2 108 true)]
    go_simp
    go_at_call 14
    with_reducible refine (ints_po HPA.out HPA.out HEQ13_5.out (by decide) (by decide) n109 n110).mono ?_
    rintro z' v' ⟨rfl, hb⟩
    exact hK.out _ _ (SL.keep hSt hb) hb rfl
   refine ⟨fun a w hat K hK => ?_, ?_⟩
   ·have e108 : a.tmps[108]?.getD undef = .bool true := hat.d 2 108
    have e111 : a.tmps[111]?.getD undef = .bool true := hat.d 5 111
    have hSt := hat.st
    rw [if_pos (by rfl)]
    go_simp
    exact hK.out _ _ hSt (Below.refl _ _) rfl
   refine ⟨mv fun a w hat => hat.d 6 112, ?_⟩
   refine ⟨mvg 7 113 true fun a w hat => ⟨_, _, hat.b 13, (HN6_13.out.below hat.st.2.2.2.1.out)⟩, ?_⟩
   refine ⟨mvg 7 113 true fun a w hat => ⟨_, _, hat.b 11, (HN6_11.out.below hat.st.2.2.2.1.out)⟩, ?_⟩
   refine ⟨fun a w hat K hK => ?_, ?_⟩
   ·obtain ⟨a114, c114, e114, n114⟩ := (show (Kd.sl (TM)).ok F b cap (a.tmps[114]?.getD undef) w from hat.d 8 114)
    obtain ⟨a115, c115, e115, n115⟩ := (show (Kd.sl (TM)).ok F b cap (a.tmps[115]?.getD undef) w from hat.d 9 115)
    have hSt := hat.st
    rw [if_pos (wy hat 7 113 true)]
    go_simp
    go_at_call 14
    with_reducible refine (ints_po HPM.out HPM.out HEQ13_10.out (by decide) (by decide) n114 n115).mono ?_
    rintro z' v' ⟨rfl, hb⟩
    exact hK.out _ _ (SL.keep hSt hb) hb rfl
   refine ⟨fun a w hat K hK => ?_, ?_⟩
   ·have e113 : a.tmps[113]?.getD undef = .bool true := hat.d 7 113
    have e116 : a.tmps[116]?.getD undef = .bool true := hat.d 10 116
    have hSt := hat.st
    rw [if_pos (by rfl)]
    go_simp
    exact hK.out _ _ hSt (Below.refl _ _) rfl
   refine ⟨mv fun a w hat => hat.d 11 117, ?_⟩
   refine ⟨mvg 12 118 true fun a w hat => hat.b 3, ?_⟩
   refine ⟨fun a w hat K hK => ?_, ?_⟩
   ·have e118 : a.tmps[118]?.getD undef = .bool true := hat.d 12 118
    have e119 : a.tmps[119]?.getD undef = .bool true := hat.d 13 119
    have hSt := hat.st
    rw [if_pos (by rfl)]
    go_simp
    exact hK.out _ _ hSt (Below.refl _ _) rfl
   refine ⟨mv fun a w hat => hat.d 14 120, ?_⟩
   exact trivial
  intro a w7 hsz hdf hbase hSt hval
  obtain ⟨t, df⟩ := a
  have et := Go.Rg.tmps_of hsz [106, 107, 108, 109, 110, 111, 112, 113, 114, 115, 116, 117, 118, 119, 120, 2] (fun k hk => hbase k (Go.Rg.base_of (by kernel_rfl) hk))
  have x2 : t.getD 2 undef = .bool true := hval 15 2 (by kernel_rfl)
  clear hval hbase hsz
  simp only [List.foldl_cons, List.foldl_nil, x2] at et
  rw [et]
  have hdf' : df = _ := hdf
  rw [hdf']
  simp only [List.setIfInBounds_toArray, List.set_cons_zero, List.set_cons_succ]
  clear et hdf hdf'
  have HN7_5 := Lib.hid (HN6_5.out.below hSt.2.2.2.1.out)
  have HN7_6 := Lib.hid (HN6_6.out.below hSt.2.2.2.1.out)
  have HN7_7 := Lib.hid (HN6_7.out.below hSt.2.2.2.1.out)
  have HN7_8 := Lib.hid (HN6_8.out.below hSt.2.2.2.1.out)
  have HN7_9 := Lib.hid (HN6_9.out.below hSt.2.2.2.1.out)
  have HN7_11 := Lib.hid (HN6_11.out.below hSt.2.2.2.1.out)
  have HN7_12 := Lib.hid (HN6_12.out.below hSt.2.2.2.1.out)
  have HN7_13 := Lib.hid (HN6_13.out.below hSt.2.2.2.1.out)
  have HBF := Lib.hid hSt.2.2.1.out
  clear hSt
  go_wp2
  go_ret
  exact ⟨rfl, HBF.out⟩
end Go.Proofs.Ytllecfhfhcmpaaa
