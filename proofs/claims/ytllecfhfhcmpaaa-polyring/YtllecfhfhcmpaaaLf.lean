/- PolyRing: the walk. -/
import Derived.Test.YtllecfhfhcmpaaaLe
namespace Go.Proofs.Ytllecfhfhcmpaaa
open Go.RowKit Go.Fl Go.Rg
set_option maxRecDepth 100000
set_option linter.unusedVariables false
set_option linter.unusedSimpArgs false
set_option linter.unusedSectionVars false

theorem padd_nil {F : Gf} {b cap n : Nat} {A : List Nat} {aa : Option Addr} {ca : Nat} {W : World} (hO : Ops F b cap W) (hA : PL F n A) (hn : n ≤ 1000) (na : NN A W (.slice aa A.length ca)) :
  Calls Try.prog 21 #[FV F b cap, .slice aa A.length ca, .slice none 0 0] W (SlPost A W) := by
 have := padd_po hO hA (pl_nil (k := 0)) hn (by decide) na (.inl ⟨rfl, rfl⟩)
 rwa [addP_nil hO.ok hA.1] at this
theorem pmul_c1 {F : Gf} {b cap n : Nat} {A : List Nat} {aa ab : Option Addr} {ca cb : Nat} {W : World} (hO : Ops F b cap W) (hA : PL F n A) (h1 : PL F 1 [1]) (hn : n ≤ 1000) (na : NN A W (.slice aa A.length ca)) (nb : NN [1] W (.slice ab 1 cb)) :
  Calls Try.prog 23 #[FV F b cap, .slice aa A.length ca, .slice ab 1 cb] W (SlPost (mulP F A [1]) W) := pmul_po hO hA h1 hn (by decide) na nb
/-- numbers below 256 -/
def By (l : List Nat) : Prop := ∀ x ∈ l, x < 256
set_option maxHeartbeats 25600000 in
theorem ring_c {q y : Nat} {A B C : List Nat} {aA aB aC : Option Addr} {cA cB cC : Nat} {W : World} (hq : q ≤ 255) (hy : y ≤ 255) (hA : By A) (hB : By B) (hC : By C) (lA : A.length ≤ maxLen) (lB : B.length ≤ maxLen) (lC : C.length ≤ maxLen)
  (na : N8 A W (.slice aA A.length cA)) (nb : N8 B W (.slice aB B.length cB)) (nc : N8 C W (.slice aC C.length cC)) :
  Calls Try.prog 4 #[.agg #[.int .u8 (q : Nat), .slice aA A.length cA, .slice aB B.length cB, .slice aC C.length cC], .int .u8 (y : Nat)] W fun e w' => e = .returned (.bool true) ∧ Below W.heap.size W w' := by
 have HQ := Lib.hid hq
 have HEX := Lib.hid examples_c
 have HOF := Lib.hid (fun w => of01_c q hq w)
 have HB0 : Hid (Below W.heap.size W (W.alloc (.cells #[.int .u8 (q : Nat), .slice aA A.length cA, .slice aB B.length cB, .slice aC C.length cC] 24))) := Lib.hid ((Below.refl _ _).alloc (Nat.le_refl _) _)
 have HL0 : Hid (LB W.heap.size (.int .u8 (q : Nat)) (.slice aA A.length cA) (.slice aB B.length cB) (.slice aC C.length cC) (W.alloc (.cells #[.int .u8 (q : Nat), .slice aA A.length cA, .slice aB B.length cB, .slice aC C.length cC] 24))) := Lib.hid
  ⟨World.cell?_alloc_at _ _ _ _ rfl, World.cell?_alloc_at _ _ _ _ rfl, World.cell?_alloc_at _ _ _ _ rfl, World.cell?_alloc_at _ _ _ _ rfl⟩
 have HZ0 : Hid (W.heap.size < (W.alloc (.cells #[.int .u8 (q : Nat), .slice aA A.length cA, .slice aB B.length cB, .slice aC C.length cC] 24)).heap.size) := Lib.hid (by simp)
 clear hq
 go_enter Try.func4, Try.ntmps4
 go_wp2_with fail
 with_reducible refine (HEX.out _).mono ?_
 rintro z w1 ⟨rfl, hb1⟩
 have HB1 := Lib.hid (HB0.out.trans (hb1.mono HB0.out.size))
 have HL1 := Lib.hid (HL0.out.keep hb1 HZ0.out)
 have HZ1 : Hid (W.heap.size < w1.heap.size) := Lib.hid (Nat.lt_of_lt_of_le HZ0.out hb1.size)
 clear hb1 HB0 HL0 HZ0
 have hL1 := HL1.out
 obtain ⟨l0, l1, l2, l3⟩ := hL1
 go_wp2_with fail
 with_reducible refine (HOF.out _).mono ?_
 generalize fdOfByte q = F
 rintro z w2 ⟨b, cap, rfl, hfd, hb2⟩
 have HFF : Hid (Ok F) := Lib.hid (ok_mem hfd.mem)
 have HSS : Hid (SL W (w2.alloc (.cells #[.int .i64 F.p, .int .i64 F.e, FM F b cap] 28)) w2.heap.size F b cap (.int .u8 (q : Nat)) (.slice aA A.length cA) (.slice aB B.length cB) (.slice aC C.length cC) (w2.alloc (.cells #[.int .i64 F.p, .int .i64 F.e, FM F b cap] 28))) := Lib.hid (by
  have ha : Below w2.heap.size w2 (w2.alloc (.cells #[.int .i64 F.p, .int .i64 F.e, FM F b cap] 28)) := (Below.refl _ _).alloc (Nat.le_refl _) _
  have hz := HZ1.out
  have hs := hb2.size
  exact ⟨⟨World.cell?_alloc_at _ _ _ _ rfl, World.cell?_alloc_at _ _ _ _ rfl, World.cell?_alloc_at _ _ _ _ rfl⟩, (HL1.out.keep hb2 hz).keep ha (by omega), Lib.hid ((HB1.out.trans (hb2.mono HB1.out.size)).trans (ha.mono (by omega))), Lib.hid (Below.refl _ _), Lib.hid (hfd.below ha), Lib.hid (by simp; omega)⟩)
 clear hfd hb2 HB1 HL1 HZ1 HOF l0 l1 l2 l3
 obtain ⟨gF, hgF⟩ : ∃ gF, gF = w2.heap.size := ⟨_, rfl⟩
 rw [← hgF] at HSS
 have HGF := Lib.hid hgF
 clear hgF
 go_upto_region 5 with (fail)
 rw [← HGF.out]
 generalize (w2.alloc (.cells #[.int .i64 F.p, .int .i64 F.e, FM F b cap] 28)) = w0 at *
 clear HGF
 have NA := Lib.hid na
 have NB := Lib.hid nb
 have NC := Lib.hid nc
 obtain ⟨LA, hLA⟩ : ∃ l, Hid (ofL F A 10 = l) := ⟨_, rfl⟩
 obtain ⟨LB', hLB⟩ : ∃ l, Hid (ofL F B 10 = l) := ⟨_, rfl⟩
 obtain ⟨LC, hLC⟩ : ∃ l, Hid (ofL F C 10 = l) := ⟨_, rfl⟩
 have HIA : Hid (In F LA ∧ LA.length ≤ 10) := Lib.hid (by rw [← hLA.out]; exact ⟨ofL_in HFF.out A 10, ofL_len F A 10⟩)
 have HIB : Hid (In F LB' ∧ LB'.length ≤ 10) := Lib.hid (by rw [← hLB.out]; exact ⟨ofL_in HFF.out B 10, ofL_len F B 10⟩)
 have HIC : Hid (In F LC ∧ LC.length ≤ 10) := Lib.hid (by rw [← hLC.out]; exact ⟨ofL_in HFF.out C 10, ofL_len F C 10⟩)
 have HCA : Hid (∀ w, Below W.heap.size W w → Calls Try.prog 13 #[FV F b cap, .slice aA A.length cA, .int .i64 10] w (SlPost LA w)) := Lib.hid (fun w hw => by rw [← hLA.out]; exact of04_c HFF.out hA rfl lA (by decide) (NA.out.below hw))
 have HCB : Hid (∀ w, Below W.heap.size W w → Calls Try.prog 13 #[FV F b cap, .slice aB B.length cB, .int .i64 10] w (SlPost LB' w)) := Lib.hid (fun w hw => by rw [← hLB.out]; exact of04_c HFF.out hB rfl lB (by decide) (NB.out.below hw))
 have HCC : Hid (∀ w, Below W.heap.size W w → Calls Try.prog 13 #[FV F b cap, .slice aC C.length cC, .int .i64 10] w (SlPost LC w)) := Lib.hid (fun w hw => by rw [← hLC.out]; exact of04_c HFF.out hC rfl lC (by decide) (NC.out.below hw))
 obtain ⟨TA, hTA⟩ : ∃ l, Hid (trL LA = l) := ⟨_, rfl⟩
 obtain ⟨TB, hTB⟩ : ∃ l, Hid (trL LB' = l) := ⟨_, rfl⟩
 obtain ⟨TC, hTC⟩ : ∃ l, Hid (trL LC = l) := ⟨_, rfl⟩
 have HPA : Hid (PL F 10 TA) := Lib.hid (by rw [← hTA.out]; exact pl_tr HIA.out.1 HIA.out.2)
 have HPB : Hid (PL F 10 TB) := Lib.hid (by rw [← hTB.out]; exact pl_tr HIB.out.1 HIB.out.2)
 have HPC : Hid (PL F 10 TC) := Lib.hid (by rw [← hTC.out]; exact pl_tr HIC.out.1 HIC.out.2)
 have HTA : Hid (∀ w a c, NN LA w (.slice a LA.length c) → Calls Try.prog 15 #[.slice a LA.length c] w (SlPost TA w)) := Lib.hid (fun w a c hn => by rw [← hTA.out]; exact trim_c (by have := HIA.out.2; omega) rfl hn)
 have HTB : Hid (∀ w a c, NN LB' w (.slice a LB'.length c) → Calls Try.prog 15 #[.slice a LB'.length c] w (SlPost TB w)) := Lib.hid (fun w a c hn => by rw [← hTB.out]; exact trim_c (by have := HIB.out.2; omega) rfl hn)
 have HTC : Hid (∀ w a c, NN LC w (.slice a LC.length c) → Calls Try.prog 15 #[.slice a LC.length c] w (SlPost TC w)) := Lib.hid (fun w a c hn => by rw [← hTC.out]; exact trim_c (by have := HIC.out.2; omega) rfl hn)
 clear na nb nc hA hB hC lA lB lC
 have hS0 := HSS.out.drew
 refine Go.Rg.region_by (S := fun w' => SL W w0 gF F b cap (.int .u8 (q : Nat)) (.slice aA A.length cA) (.slice aB B.length cB) (.slice aC C.length cC) w') (R := fun w w' => Below w.heap.size w w') (φ := phi F b cap [.eq (FV F b cap), .eq (.pointer (some ⟨W.heap.size, 1, none⟩)), .eq (.slice aA A.length cA), .sl (LA), .sl (TA), .eq (FV F b cap), .eq (.pointer (some ⟨W.heap.size, 2, none⟩)), .eq (.slice aB B.length cB), .sl (LB'), .sl (TB), .eq (FV F b cap), .eq (.pointer (some ⟨W.heap.size, 3, none⟩)), .eq (.slice aC C.length cC), .sl (LC), .sl (TC), .sl (TA), .sl (TB), .sl (TC)]) (by kernel_rfl) (phi_mono _) (by kernel_rfl) (by kernel_rfl) (by rfl) (hS0) (Go.Rg.steps_ok ?st1) ?fi1
 case st1 =>
  refine ⟨fun a w hat K hK => ?_, ?_⟩
  ·have e6 : a.tmps[6]?.getD undef = .pointer (some ⟨gF, 0, none⟩) := hat.b 6
   have hSt := hat.st
   rw [if_pos (by rfl)]
   go_simp
   exact hK.out _ _ hSt (Below.refl _ _) rfl
  refine ⟨fun a w hat K hK => ?_, ?_⟩
  ·have e2 : a.tmps[2]?.getD undef = .pointer (some ⟨W.heap.size, 0, none⟩) := hat.b 2
   have hSt := hat.st
   rw [if_pos (by rfl)]
   go_simp
   exact hK.out _ _ hSt (Below.refl _ _) rfl
  refine ⟨fun a w hat K hK => ?_, ?_⟩
  ·have e22 : a.tmps[22]?.getD undef = .pointer (some ⟨W.heap.size, 1, none⟩) := hat.d 1 22
   have hSt := hat.st
   rw [if_pos (by rfl)]
   go_simp
   exact hK.out _ _ hSt (Below.refl _ _) rfl
  refine ⟨fun a w hat K hK => ?_, ?_⟩
  ·have e21 : a.tmps[21]?.getD undef = FV F b cap := hat.d 0 21
   have e23 : a.tmps[23]?.getD undef = .slice aA A.length cA := hat.d 2 23
   have hSt := hat.st
   rw [if_pos (by rfl)]
   go_simp
   go_at_call 13
   with_reducible refine (HCA.out _ hSt.2.2.1.out).mono ?_
   rintro z' v' ⟨a', c', rfl, hn', hb⟩
   exact hK.out _ _ (SL.keep hSt hb) hb ⟨a', c', rfl, hn'⟩
  refine ⟨fun a w hat K hK => ?_, ?_⟩
  ·obtain ⟨a24, c24, e24, n24⟩ := (show (Kd.sl (LA)).ok F b cap (a.tmps[24]?.getD undef) w from hat.d 3 24)
   have hSt := hat.st
   rw [if_pos (by rfl)]
   go_simp
   go_at_call 15
   with_reducible refine (HTA.out _ _ _ n24).mono ?_
   rintro z' v' ⟨a', c', rfl, hn', hb⟩
   exact hK.out _ _ (SL.keep hSt hb) hb ⟨a', c', rfl, hn'⟩
  refine ⟨fun a w hat K hK => ?_, ?_⟩
  ·have e6 : a.tmps[6]?.getD undef = .pointer (some ⟨gF, 0, none⟩) := hat.b 6
   have hSt := hat.st
   rw [if_pos (by rfl)]
   go_simp
   exact hK.out _ _ hSt (Below.refl _ _) rfl
  refine ⟨fun a w hat K hK => ?_, ?_⟩
  ·have e2 : a.tmps[2]?.getD undef = .pointer (some ⟨W.heap.size, 0, none⟩) := hat.b 2
   have hSt := hat.st
   rw [if_pos (by rfl)]
   go_simp
   exact hK.out _ _ hSt (Below.refl _ _) rfl
  refine ⟨fun a w hat K hK => ?_, ?_⟩
  ·have e27 : a.tmps[27]?.getD undef = .pointer (some ⟨W.heap.size, 2, none⟩) := hat.d 6 27
   have hSt := hat.st
   rw [if_pos (by rfl)]
   go_simp
   exact hK.out _ _ hSt (Below.refl _ _) rfl
  refine ⟨fun a w hat K hK => ?_, ?_⟩
  ·have e26 : a.tmps[26]?.getD undef = FV F b cap := hat.d 5 26
   have e28 : a.tmps[28]?.getD undef = .slice aB B.length cB := hat.d 7 28
   have hSt := hat.st
   rw [if_pos (by rfl)]
   go_simp
   go_at_call 13
   with_reducible refine (HCB.out _ hSt.2.2.1.out).mono ?_
   rintro z' v' ⟨a', c', rfl, hn', hb⟩
   exact hK.out _ _ (SL.keep hSt hb) hb ⟨a', c', rfl, hn'⟩
  refine ⟨fun a w hat K hK => ?_, ?_⟩
  ·obtain ⟨a29, c29, e29, n29⟩ := (show (Kd.sl (LB')).ok F b cap (a.tmps[29]?.getD undef) w from hat.d 8 29)
   have hSt := hat.st
   rw [if_pos (by rfl)]
   go_simp
   go_at_call 15
   with_reducible refine (HTB.out _ _ _ n29).mono ?_
   rintro z' v' ⟨a', c', rfl, hn', hb⟩
   exact hK.out _ _ (SL.keep hSt hb) hb ⟨a', c', rfl, hn'⟩
  refine ⟨fun a w hat K hK => ?_, ?_⟩
  ·have e6 : a.tmps[6]?.getD undef = .pointer (some ⟨gF, 0, none⟩) := hat.b 6
   have hSt := hat.st
   rw [if_pos (by rfl)]
   go_simp
   exact hK.out _ _ hSt (Below.refl _ _) rfl
  refine ⟨fun a w hat K hK => ?_, ?_⟩
  ·have e2 : a.tmps[2]?.getD undef = .pointer (some ⟨W.heap.size, 0, none⟩) := hat.b 2
   have hSt := hat.st
   rw [if_pos (by rfl)]
   go_simp
   exact hK.out _ _ hSt (Below.refl _ _) rfl
  refine ⟨fun a w hat K hK => ?_, ?_⟩
  ·have e32 : a.tmps[32]?.getD undef = .pointer (some ⟨W.heap.size, 3, none⟩) := hat.d 11 32
   have hSt := hat.st
   rw [if_pos (by rfl)]
   go_simp
   exact hK.out _ _ hSt (Below.refl _ _) rfl
  refine ⟨fun a w hat K hK => ?_, ?_⟩
  ·have e31 : a.tmps[31]?.getD undef = FV F b cap := hat.d 10 31
   have e33 : a.tmps[33]?.getD undef = .slice aC C.length cC := hat.d 12 33
   have hSt := hat.st
   rw [if_pos (by rfl)]
   go_simp
   go_at_call 13
   with_reducible refine (HCC.out _ hSt.2.2.1.out).mono ?_
   rintro z' v' ⟨a', c', rfl, hn', hb⟩
   exact hK.out _ _ (SL.keep hSt hb) hb ⟨a', c', rfl, hn'⟩
  refine ⟨fun a w hat K hK => ?_, ?_⟩
  ·obtain ⟨a34, c34, e34, n34⟩ := (show (Kd.sl (LC)).ok F b cap (a.tmps[34]?.getD undef) w from hat.d 13 34)
   have hSt := hat.st
   rw [if_pos (by rfl)]
   go_simp
   go_at_call 15
   with_reducible refine (HTC.out _ _ _ n34).mono ?_
   rintro z' v' ⟨a', c', rfl, hn', hb⟩
   exact hK.out _ _ (SL.keep hSt hb) hb ⟨a', c', rfl, hn'⟩
  refine ⟨mv fun a w hat => hat.d 4 25, ?_⟩
  refine ⟨mv fun a w hat => hat.d 9 30, ?_⟩
  refine ⟨mv fun a w hat => hat.d 14 35, ?_⟩
  exact trivial
 intro a w1 hsz hdf hbase hSt hval
 obtain ⟨t, df⟩ := a
 have et := Go.Rg.tmps_of hsz [21, 22, 23, 24, 25, 26, 27, 28, 29, 30, 31, 32, 33, 34, 35, 7, 8, 9] (fun k hk => hbase k (Go.Rg.base_of (by kernel_rfl) hk))
 obtain ⟨p7, q7, x7, m7⟩ := (show (Kd.sl (TA)).ok F b cap (t.getD 7 undef) w1 from hval 15 7 (by kernel_rfl))
 obtain ⟨p8, q8, x8, m8⟩ := (show (Kd.sl (TB)).ok F b cap (t.getD 8 undef) w1 from hval 16 8 (by kernel_rfl))
 obtain ⟨p9, q9, x9, m9⟩ := (show (Kd.sl (TC)).ok F b cap (t.getD 9 undef) w1 from hval 17 9 (by kernel_rfl))
 clear hval hbase hsz
 simp only [List.foldl_cons, List.foldl_nil, x7, x8, x9] at et
 rw [et]
 have hdf' : df = _ := hdf
 rw [hdf']
 simp only [List.setIfInBounds_toArray, List.set_cons_zero, List.set_cons_succ]
 clear et hdf hdf'
 have HN1_7 := Lib.hid m7
 have HN1_8 := Lib.hid m8
 have HN1_9 := Lib.hid m9
 clear m7 m8 m9
 have HSA := Lib.hid hSt.start
 clear hSt hS0
 obtain ⟨v, hv⟩ : ∃ v, Hid (y % F.q = v) := ⟨_, rfl⟩
 have HVQ : Hid (v < F.q) := Lib.hid (by rw [← hv.out]; exact Nat.mod_lt _ HFF.out.zero_lt)
 have hq0 : 0 < F.q := HFF.out.zero_lt
 have hq64 : F.q ≤ 64 := HFF.out.q64
 have hmod : ((y : Int)).tmod (F.q : Int) = (v : Int) := by rw [← hv.out, Int.tmod_eq_emod_of_nonneg (by omega)]; rfl
 have hmod2 : (y : Int) % (F.q : Int) = (v : Int) := by rw [← hv.out]; rfl
 have hqz : ¬ F.q = 0 := by omega
 have hwx : IntKind.i64.wrap (y : Int) = (y : Int) := IntWalk.i64_in _ (by omega)
 go_upto_region 6 with (fail)
 refine Go.Rg.region_seq (S := fun w' => SL W w1 gF F b cap (.int .u8 (q : Nat)) (.slice aA A.length cA) (.slice aB B.length cB) (.slice aC C.length cC) w') (R := fun w w' => Below w.heap.size w w') (φ := phi F b cap [.eq (.int .u8 (y : Nat)), .eq (.int .i64 (y : Nat)), .eq (FV F b cap), .eq (.int .i64 (F.q : Nat)), .eq (.int .i64 (v : Nat)), .eq (.int .i64 (v : Nat))]) (phi_mono _) (by kernel_rfl) (by kernel_rfl) (by rfl) (HSA.out) ?st2 ?fi2
 case st2 =>
  refine ⟨mv fun a w hat => hat.b 1, ?_⟩
  refine ⟨fun a w hat K hK => ?_, ?_⟩
  ·have e36 : a.tmps[36]?.getD undef = .int .u8 (y : Nat) := hat.d 0 36
   have hSt := hat.st
   rw [if_pos (by rfl)]
   go_simp
   exact hK.out _ _ hSt (Below.refl _ _) rfl
  refine ⟨fun a w hat K hK => ?_, ?_⟩
  ·have e6 : a.tmps[6]?.getD undef = .pointer (some ⟨gF, 0, none⟩) := hat.b 6
   have hSt := hat.st
   rw [if_pos (by rfl)]
   go_simp
   exact hK.out _ _ hSt (Below.refl _ _) rfl
  refine ⟨fun a w hat K hK => ?_, ?_⟩
  ·have e38 : a.tmps[38]?.getD undef = FV F b cap := hat.d 2 38
   have hSt := hat.st
   rw [if_pos (by rfl)]
   go_simp
   go_at_call 12
   with_reducible refine (size_c HFF.out b cap w).mono ?_
   rintro z' v' ⟨rfl, hb⟩
   exact hK.out _ _ (SL.keep hSt hb) hb rfl
  refine ⟨fun a w hat K hK => ?_, ?_⟩
  ·have e37 : a.tmps[37]?.getD undef = .int .i64 (y : Nat) := hat.d 1 37
   have e39 : a.tmps[39]?.getD undef = .int .i64 (F.q : Nat) := hat.d 3 39
   have hSt := hat.st
   rw [if_pos (by rfl)]
   go_simp
   exact hK.out _ _ hSt (Below.refl _ _) rfl
  refine ⟨mv fun a w hat => hat.d 4 40, ?_⟩
  exact trivial
 intro a w2 hsz hdf hbase hSt hval
 obtain ⟨t, df⟩ := a
 have et := Go.Rg.tmps_of hsz [36, 37, 38, 39, 40, 10] (fun k hk => hbase k (Go.Rg.base_of (by kernel_rfl) hk))
 have x10 : t.getD 10 undef = .int .i64 (v : Nat) := hval 5 10 (by kernel_rfl)
 clear hval hbase hsz
 simp only [List.foldl_cons, List.foldl_nil, x10] at et
 rw [et]
 have hdf' : df = _ := hdf
 rw [hdf']
 simp only [List.setIfInBounds_toArray, List.set_cons_zero, List.set_cons_succ]
 clear et hdf hdf'
 have HN2_7 := Lib.hid (HN1_7.out.below hSt.2.2.2.1.out)
 have HN2_8 := Lib.hid (HN1_8.out.below hSt.2.2.2.1.out)
 have HN2_9 := Lib.hid (HN1_9.out.below hSt.2.2.2.1.out)
 have HS6 := Lib.hid hSt.start
 clear hSt
 go_upto_region 7 with (fail)
 have hS0 := HS6.out.drew
 have HP_1 : Hid (PL F 10 (addP F TA TB)) := Lib.hid (pl_add HFF.out HPA.out HPB.out (by decide) (by decide))
 have HP_2 : Hid (PL F 20 (mulP F TA TB)) := Lib.hid (pl_mul HFF.out HPA.out HPB.out (by decide) )
 refine Go.Rg.region_by (S := fun w' => SL W w2 gF F b cap (.int .u8 (q : Nat)) (.slice aA A.length cA) (.slice aB B.length cB) (.slice aC C.length cC) w') (R := fun w w' => Below w.heap.size w w') (φ := phi F b cap [.eq (FV F b cap), .sl (TA), .sl (TB), .sl (addP F TA TB), .eq (FV F b cap), .sl (TA), .sl (TB), .sl (mulP F TA TB), .sl (addP F TA TB), .sl (mulP F TA TB)]) (by kernel_rfl) (phi_mono _) (by kernel_rfl) (by kernel_rfl) (by rfl) (hS0) (Go.Rg.steps_ok ?st3) ?fi3
 case st3 =>
  refine ⟨fun a w hat K hK => ?_, ?_⟩
  ·have e6 : a.tmps[6]?.getD undef = .pointer (some ⟨gF, 0, none⟩) := hat.b 6
   have hSt := hat.st
   rw [if_pos (by rfl)]
   go_simp
   exact hK.out _ _ hSt (Below.refl _ _) rfl
  refine ⟨mv fun a w hat => ⟨_, _, hat.b 7, (HN2_7.out.below hat.st.2.2.2.1.out)⟩, ?_⟩
  refine ⟨mv fun a w hat => ⟨_, _, hat.b 8, (HN2_8.out.below hat.st.2.2.2.1.out)⟩, ?_⟩
  refine ⟨fun a w hat K hK => ?_, ?_⟩
  ·have e41 : a.tmps[41]?.getD undef = FV F b cap := hat.d 0 41
   obtain ⟨a42, c42, e42, n42⟩ := (show (Kd.sl (TA)).ok F b cap (a.tmps[42]?.getD undef) w from hat.d 1 42)
   obtain ⟨a43, c43, e43, n43⟩ := (show (Kd.sl (TB)).ok F b cap (a.tmps[43]?.getD undef) w from hat.d 2 43)
   have hSt := hat.st
   rw [if_pos (by rfl)]
   go_simp
   go_at_call 21
   with_reducible refine (padd_po (hSt.2.2.2.2.1.out.ops) HPA.out HPB.out (by decide) (by decide) n42 n43).mono ?_
   rintro z' v' ⟨a', c', rfl, hn', hb⟩
   exact hK.out _ _ (SL.keep hSt hb) hb ⟨a', c', rfl, hn'⟩
  refine ⟨fun a w hat K hK => ?_, ?_⟩
  ·have e6 : a.tmps[6]?.getD undef = .pointer (some ⟨gF, 0, none⟩) := hat.b 6
   have hSt := hat.st
   rw [if_pos (by rfl)]
   go_simp
   exact hK.out _ _ hSt (Below.refl _ _) rfl
  refine ⟨mv fun a w hat => ⟨_, _, hat.b 7, (HN2_7.out.below hat.st.2.2.2.1.out)⟩, ?_⟩
  refine ⟨mv fun a w hat => ⟨_, _, hat.b 8, (HN2_8.out.below hat.st.2.2.2.1.out)⟩, ?_⟩
  refine ⟨fun a w hat K hK => ?_, ?_⟩
  ·have e45 : a.tmps[45]?.getD undef = FV F b cap := hat.d 4 45
   obtain ⟨a46, c46, e46, n46⟩ := (show (Kd.sl (TA)).ok F b cap (a.tmps[46]?.getD undef) w from hat.d 5 46)
   obtain ⟨a47, c47, e47, n47⟩ := (show (Kd.sl (TB)).ok F b cap (a.tmps[47]?.getD undef) w from hat.d 6 47)
   have hSt := hat.st
   rw [if_pos (by rfl)]
   go_simp
   go_at_call 23
   with_reducible refine (pmul_po (hSt.2.2.2.2.1.out.ops) HPA.out HPB.out (by decide) (by decide) n46 n47).mono ?_
   rintro z' v' ⟨a', c', rfl, hn', hb⟩
   exact hK.out _ _ (SL.keep hSt hb) hb ⟨a', c', rfl, hn'⟩
  refine ⟨mv fun a w hat => hat.d 3 44, ?_⟩
  refine ⟨mv fun a w hat => hat.d 7 48, ?_⟩
  exact trivial
 intro a w3 hsz hdf hbase hSt hval
 obtain ⟨t, df⟩ := a
 have et := Go.Rg.tmps_of hsz [41, 42, 43, 44, 45, 46, 47, 48, 11, 12] (fun k hk => hbase k (Go.Rg.base_of (by kernel_rfl) hk))
 obtain ⟨p11, q11, x11, m11⟩ := (show (Kd.sl (addP F TA TB)).ok F b cap (t.getD 11 undef) w3 from hval 8 11 (by kernel_rfl))
 obtain ⟨p12, q12, x12, m12⟩ := (show (Kd.sl (mulP F TA TB)).ok F b cap (t.getD 12 undef) w3 from hval 9 12 (by kernel_rfl))
 clear hval hbase hsz
 simp only [List.foldl_cons, List.foldl_nil, x11, x12] at et
 rw [et]
 have hdf' : df = _ := hdf
 rw [hdf']
 simp only [List.setIfInBounds_toArray, List.set_cons_zero, List.set_cons_succ]
 clear et hdf hdf'
 have HN3_7 := Lib.hid (HN2_7.out.below hSt.2.2.2.1.out)
 have HN3_8 := Lib.hid (HN2_8.out.below hSt.2.2.2.1.out)
 have HN3_9 := Lib.hid (HN2_9.out.below hSt.2.2.2.1.out)
 have HN3_11 := Lib.hid m11
 have HN3_12 := Lib.hid m12
 clear m11 m12
 have HS7 := Lib.hid hSt.start
 clear hSt
 go_upto_region 8 with (fail)
 have hS0 := HS7.out.drew
 have HP_3 : Hid (PL F 10 (addP F TB TA)) := Lib.hid (pl_add HFF.out HPB.out HPA.out (by decide) (by decide))
 have HEQ8_5 : Hid (addP F TA TB = addP F TB TA) := Lib.hid (addP_comm HFF.out HPA.out.1.el HPB.out.1.el)
 have HP_4 : Hid (PL F 20 (mulP F TB TA)) := Lib.hid (pl_mul HFF.out HPB.out HPA.out (by decide) )
 have HEQ8_13 : Hid (mulP F TA TB = mulP F TB TA) := Lib.hid (mulP_comm HFF.out HPA.out.1.el HPB.out.1.el)
 have HP_5 : Hid (PL F 10 (addP F (addP F TA TB) TC)) := Lib.hid (pl_add HFF.out HP_1.out HPC.out (by decide) (by decide))
 have HP_6 : Hid (PL F 10 (addP F TB TC)) := Lib.hid (pl_add HFF.out HPB.out HPC.out (by decide) (by decide))
 have HP_7 : Hid (PL F 10 (addP F TA (addP F TB TC))) := Lib.hid (pl_add HFF.out HPA.out HP_6.out (by decide) (by decide))
 have HEQ8_28 : Hid (addP F (addP F TA TB) TC = addP F TA (addP F TB TC)) := Lib.hid (addP_assoc HFF.out HPA.out.1.el HPB.out.1.el HPC.out.1.el)
 have HP_8 : Hid (PL F 30 (mulP F (mulP F TA TB) TC)) := Lib.hid (pl_mul HFF.out HP_2.out HPC.out (by decide) )
 have HP_9 : Hid (PL F 20 (mulP F TB TC)) := Lib.hid (pl_mul HFF.out HPB.out HPC.out (by decide) )
 have HP_10 : Hid (PL F 30 (mulP F TA (mulP F TB TC))) := Lib.hid (pl_mul HFF.out HPA.out HP_9.out (by decide) )
 have HEQ8_43 : Hid (mulP F (mulP F TA TB) TC = mulP F TA (mulP F TB TC)) := Lib.hid (mulP_assoc HFF.out HPA.out.1.el HPB.out.1.el HPC.out.1.el)
 have HP_11 : Hid (PL F 20 (mulP F (addP F TA TB) TC)) := Lib.hid (pl_mul HFF.out HP_1.out HPC.out (by decide) )
 have HP_12 : Hid (PL F 20 (mulP F TA TC)) := Lib.hid (pl_mul HFF.out HPA.out HPC.out (by decide) )
 have HP_13 : Hid (PL F 20 (addP F (mulP F TA TC) (mulP F TB TC))) := Lib.hid (pl_add HFF.out HP_12.out HP_9.out (by decide) (by decide))
 have HEQ8_61 : Hid (mulP F (addP F TA TB) TC = addP F (mulP F TA TC) (mulP F TB TC)) := Lib.hid (mulP_addP HFF.out HPA.out.1.el HPB.out.1.el HPC.out.1.el)
 refine Go.Rg.region_by (S := fun w' => SL W w3 gF F b cap (.int .u8 (q : Nat)) (.slice aA A.length cA) (.slice aB B.length cB) (.slice aC C.length cC) w') (R := fun w w' => Below w.heap.size w w') (φ := phi F b cap [.sl (addP F TA TB), .eq (FV F b cap), .sl (TB), .sl (TA), .sl (addP F TB TA), .eq (.bool true), .eq (.bool false), .eq (.bool false), .sl (mulP F TA TB), .eq (FV F b cap), .sl (TB), .sl (TA), .sl (mulP F TB TA), .eq (.bool true), .eq (.bool false), .eq (.bool false), .eq (.bool false), .eq (FV F b cap), .sl (addP F TA TB), .sl (TC), .sl (addP F (addP F TA TB) TC), .eq (FV F b cap), .sl (TA), .eq (FV F b cap), .sl (TB), .sl (TC), .sl (addP F TB TC), .sl (addP F TA (addP F TB TC)), .eq (.bool true), .eq (.bool false), .eq (.bool false), .eq (.bool false), .eq (FV F b cap), .sl (mulP F TA TB), .sl (TC), .sl (mulP F (mulP F TA TB) TC), .eq (FV F b cap), .sl (TA), .eq (FV F b cap), .sl (TB), .sl (TC), .sl (mulP F TB TC), .sl (mulP F TA (mulP F TB TC)), .eq (.bool true), .eq (.bool false), .eq (.bool false), .eq (.bool false), .eq (FV F b cap), .sl (addP F TA TB), .sl (TC), .sl (mulP F (addP F TA TB) TC), .eq (FV F b cap), .eq (FV F b cap), .sl (TA), .sl (TC), .sl (mulP F TA TC), .eq (FV F b cap), .sl (TB), .sl (TC), .sl (mulP F TB TC), .sl (addP F (mulP F TA TC) (mulP F TB TC)), .eq (.bool true), .eq (.bool false), .eq (.bool false)]) (by kernel_rfl) (phi_mono _) (by kernel_rfl) (by kernel_rfl) (by rfl) (hS0) (Go.Rg.steps_ok ?st4) ?fi4
 case st4 =>
  refine ⟨mv fun a w hat => ⟨_, _, hat.b 11, (HN3_11.out.below hat.st.2.2.2.1.out)⟩, ?_⟩
  refine ⟨fun a w hat K hK => ?_, ?_⟩
  ·have e6 : a.tmps[6]?.getD undef = .pointer (some ⟨gF, 0, none⟩) := hat.b 6
   have hSt := hat.st
   rw [if_pos (by rfl)]
   go_simp
   exact hK.out _ _ hSt (Below.refl _ _) rfl
  refine ⟨mv fun a w hat => ⟨_, _, hat.b 8, (HN3_8.out.below hat.st.2.2.2.1.out)⟩, ?_⟩
  refine ⟨mv fun a w hat => ⟨_, _, hat.b 7, (HN3_7.out.below hat.st.2.2.2.1.out)⟩, ?_⟩
  refine ⟨fun a w hat K hK => ?_, ?_⟩
  ·have e50 : a.tmps[50]?.getD undef = FV F b cap := hat.d 1 50
   obtain ⟨a51, c51, e51, n51⟩ := (show (Kd.sl (TB)).ok F b cap (a.tmps[51]?.getD undef) w from hat.d 2 51)
   obtain ⟨a52, c52, e52, n52⟩ := (show (Kd.sl (TA)).ok F b cap (a.tmps[52]?.getD undef) w from hat.d 3 52)
   have hSt := hat.st
   rw [if_pos (by rfl)]
   go_simp
   go_at_call 21
   with_reducible refine (padd_po (hSt.2.2.2.2.1.out.ops) HPB.out HPA.out (by decide) (by decide) n51 n52).mono ?_
   rintro z' v' ⟨a', c', rfl, hn', hb⟩
   exact hK.out _ _ (SL.keep hSt hb) hb ⟨a', c', rfl, hn'⟩
  refine ⟨fun a w hat K hK => ?_, ?_⟩
  ·obtain ⟨a49, c49, e49, n49⟩ := (show (Kd.sl (addP F TA TB)).ok F b cap (a.tmps[49]?.getD undef) w from hat.d 0 49)
   obtain ⟨a53, c53, e53, n53⟩ := (show (Kd.sl (addP F TB TA)).ok F b cap (a.tmps[53]?.getD undef) w from hat.d 4 53)
   have hSt := hat.st
   rw [if_pos (by rfl)]
   go_simp
   go_at_call 14
   with_reducible refine (ints_po HP_1.out HP_3.out HEQ8_5.out (by decide) (by decide) n49 n53).mono ?_
   rintro z' v' ⟨rfl, hb⟩
   exact hK.out _ _ (SL.keep hSt hb) hb rfl
  refine ⟨fun a w hat K hK => ?_, ?_⟩
  ·have e54 : a.tmps[54]?.getD undef = .bool true := hat.d 5 54
   have hSt := hat.st
   rw [if_pos (by rfl)]
   go_simp
   exact hK.out _ _ hSt (Below.refl _ _) rfl
  refine ⟨mv fun a w hat => hat.d 6 55, ?_⟩
  refine ⟨mvg 7 56 false fun a w hat => ⟨_, _, hat.b 12, (HN3_12.out.below hat.st.2.2.2.1.out)⟩, ?_⟩
  refine ⟨fun a w hat K hK => ?_, ?_⟩
  ·have e6 : a.tmps[6]?.getD undef = .pointer (some ⟨gF, 0, none⟩) := hat.b 6
   have hSt := hat.st
   rw [if_pos (wy hat 7 56 false)]
   go_simp
   exact hK.out _ _ hSt (Below.refl _ _) rfl
  refine ⟨mvg 7 56 false fun a w hat => ⟨_, _, hat.b 8, (HN3_8.out.below hat.st.2.2.2.1.out)⟩, ?_⟩
  refine ⟨mvg 7 56 false fun a w hat => ⟨_, _, hat.b 7, (HN3_7.out.below hat.st.2.2.2.1.out)⟩, ?_⟩
  refine ⟨fun a w hat K hK => ?_, ?_⟩
  ·have e58 : a.tmps[58]?.getD undef = FV F b cap := hat.d 9 58
   obtain ⟨a59, c59, e59, n59⟩ := (show (Kd.sl (TB)).ok F b cap (a.tmps[59]?.getD undef) w from hat.d 10 59)
   obtain ⟨a60, c60, e60, n60⟩ := (show (Kd.sl (TA)).ok F b cap (a.tmps[60]?.getD undef) w from hat.d 11 60)
   have hSt := hat.st
   rw [if_pos (wy hat 7 56 false)]
   go_simp
   go_at_call 23
   with_reducible refine (pmul_po (hSt.2.2.2.2.1.out.ops) HPB.out HPA.out (by decide) (by decide) n59 n60).mono ?_
   rintro z' v' ⟨a', c', rfl, hn', hb⟩
   exact hK.out _ _ (SL.keep hSt hb) hb ⟨a', c', rfl, hn'⟩
  refine ⟨fun a w hat K hK => ?_, ?_⟩
  ·obtain ⟨a57, c57, e57, n57⟩ := (show (Kd.sl (mulP F TA TB)).ok F b cap (a.tmps[57]?.getD undef) w from hat.d 8 57)
   obtain ⟨a61, c61, e61, n61⟩ := (show (Kd.sl (mulP F TB TA)).ok F b cap (a.tmps[61]?.getD undef) w from hat.d 12 61)
   have hSt := hat.st
   rw [if_pos (wy hat 7 56 false)]
   go_simp
   go_at_call 14
   with_reducible refine (ints_po HP_2.out HP_4.out HEQ8_13.out (by decide) (by decide) n57 n61).mono ?_
   rintro z' v' ⟨rfl, hb⟩
   exact hK.out _ _ (SL.keep hSt hb) hb rfl
  refine ⟨fun a w hat K hK => ?_, ?_⟩
  ·have e62 : a.tmps[62]?.getD undef = .bool true := hat.d 13 62
   have hSt := hat.st
   rw [if_pos (wy hat 7 56 false)]
   go_simp
   exact hK.out _ _ hSt (Below.refl _ _) rfl
  refine ⟨fun a w hat K hK => ?_, ?_⟩
  ·have e56 : a.tmps[56]?.getD undef = .bool false := hat.d 7 56
   have e63 : a.tmps[63]?.getD undef = .bool false := hat.d 14 63
   have hSt := hat.st
   rw [if_pos (by rfl)]
   go_simp
   exact hK.out _ _ hSt (Below.refl _ _) rfl
  refine ⟨mv fun a w hat => hat.d 15 64, ?_⟩
  refine ⟨fun a w hat K hK => ?_, ?_⟩
  ·have e6 : a.tmps[6]?.getD undef = .pointer (some ⟨gF, 0, none⟩) := hat.b 6
   have hSt := hat.st
   rw [if_pos (wy hat 16 65 false)]
   go_simp
   exact hK.out _ _ hSt (Below.refl _ _) rfl
  refine ⟨mvg 16 65 false fun a w hat => ⟨_, _, hat.b 11, (HN3_11.out.below hat.st.2.2.2.1.out)⟩, ?_⟩
  refine ⟨mvg 16 65 false fun a w hat => ⟨_, _, hat.b 9, (HN3_9.out.below hat.st.2.2.2.1.out)⟩, ?_⟩
  refine ⟨fun a w hat K hK => ?_, ?_⟩
  ·have e66 : a.tmps[66]?.getD undef = FV F b cap := hat.d 17 66
   obtain ⟨a67, c67, e67, n67⟩ := (show (Kd.sl (addP F TA TB)).ok F b cap (a.tmps[67]?.getD undef) w from hat.d 18 67)
   obtain ⟨a68, c68, e68, n68⟩ := (show (Kd.sl (TC)).ok F b cap (a.tmps[68]?.getD undef) w from hat.d 19 68)
   have hSt := hat.st
   rw [if_pos (wy hat 16 65 false)]
   go_simp
   go_at_call 21
   with_reducible refine (padd_po (hSt.2.2.2.2.1.out.ops) HP_1.out HPC.out (by decide) (by decide) n67 n68).mono ?_
   rintro z' v' ⟨a', c', rfl, hn', hb⟩
   exact hK.out _ _ (SL.keep hSt hb) hb ⟨a', c', rfl, hn'⟩
  refine ⟨fun a w hat K hK => ?_, ?_⟩
  ·have e6 : a.tmps[6]?.getD undef = .pointer (some ⟨gF, 0, none⟩) := hat.b 6
   have hSt := hat.st
   rw [if_pos (wy hat 16 65 false)]
   go_simp
   exact hK.out _ _ hSt (Below.refl _ _) rfl
  refine ⟨mvg 16 65 false fun a w hat => ⟨_, _, hat.b 7, (HN3_7.out.below hat.st.2.2.2.1.out)⟩, ?_⟩
  refine ⟨fun a w hat K hK => ?_, ?_⟩
  ·have e6 : a.tmps[6]?.getD undef = .pointer (some ⟨gF, 0, none⟩) := hat.b 6
   have hSt := hat.st
   rw [if_pos (wy hat 16 65 false)]
   go_simp
   exact hK.out _ _ hSt (Below.refl _ _) rfl
  refine ⟨mvg 16 65 false fun a w hat => ⟨_, _, hat.b 8, (HN3_8.out.below hat.st.2.2.2.1.out)⟩, ?_⟩
  refine ⟨mvg 16 65 false fun a w hat => ⟨_, _, hat.b 9, (HN3_9.out.below hat.st.2.2.2.1.out)⟩, ?_⟩
  refine ⟨fun a w hat K hK => ?_, ?_⟩
  ·have e72 : a.tmps[72]?.getD undef = FV F b cap := hat.d 23 72
   obtain ⟨a73, c73, e73, n73⟩ := (show (Kd.sl (TB)).ok F b cap (a.tmps[73]?.getD undef) w from hat.d 24 73)
   obtain ⟨a74, c74, e74, n74⟩ := (show (Kd.sl (TC)).ok F b cap (a.tmps[74]?.getD undef) w from hat.d 25 74)
   have hSt := hat.st
   rw [if_pos (wy hat 16 65 false)]
   go_simp
   go_at_call 21
   with_reducible refine (padd_po (hSt.2.2.2.2.1.out.ops) HPB.out HPC.out (by decide) (by decide) n73 n74).mono ?_
   rintro z' v' ⟨a', c', rfl, hn', hb⟩
   exact hK.out _ _ (SL.keep hSt hb) hb ⟨a', c', rfl, hn'⟩
  refine ⟨fun a w hat K hK => ?_, ?_⟩
  ·have e70 : a.tmps[70]?.getD undef = FV F b cap := hat.d 21 70
   obtain ⟨a71, c71, e71, n71⟩ := (show (Kd.sl (TA)).ok F b cap (a.tmps[71]?.getD undef) w from hat.d 22 71)
   obtain ⟨a75, c75, e75, n75⟩ := (show (Kd.sl (addP F TB TC)).ok F b cap (a.tmps[75]?.getD undef) w from hat.d 26 75)
   have hSt := hat.st
   rw [if_pos (wy hat 16 65 false)]
   go_simp
   go_at_call 21
   with_reducible refine (padd_po (hSt.2.2.2.2.1.out.ops) HPA.out HP_6.out (by decide) (by decide) n71 n75).mono ?_
   rintro z' v' ⟨a', c', rfl, hn', hb⟩
   exact hK.out _ _ (SL.keep hSt hb) hb ⟨a', c', rfl, hn'⟩
  refine ⟨fun a w hat K hK => ?_, ?_⟩
  ·obtain ⟨a69, c69, e69, n69⟩ := (show (Kd.sl (addP F (addP F TA TB) TC)).ok F b cap (a.tmps[69]?.getD undef) w from hat.d 20 69)
   obtain ⟨a76, c76, e76, n76⟩ := (show (Kd.sl (addP F TA (addP F TB TC))).ok F b cap (a.tmps[76]?.getD undef) w from hat.d 27 76)
   have hSt := hat.st
   rw [if_pos (wy hat 16 65 false)]
   go_simp
   go_at_call 14
   with_reducible refine (ints_po HP_5.out HP_7.out HEQ8_28.out (by decide) (by decide) n69 n76).mono ?_
   rintro z' v' ⟨rfl, hb⟩
   exact hK.out _ _ (SL.keep hSt hb) hb rfl
  refine ⟨fun a w hat K hK => ?_, ?_⟩
  ·have e77 : a.tmps[77]?.getD undef = .bool true := hat.d 28 77
   have hSt := hat.st
   rw [if_pos (wy hat 16 65 false)]
   go_simp
   exact hK.out _ _ hSt (Below.refl _ _) rfl
  refine ⟨fun a w hat K hK => ?_, ?_⟩
  ·have e65 : a.tmps[65]?.getD undef = .bool false := hat.d 16 65
   have e78 : a.tmps[78]?.getD undef = .bool false := hat.d 29 78
   have hSt := hat.st
   rw [if_pos (by rfl)]
   go_simp
   exact hK.out _ _ hSt (Below.refl _ _) rfl
  refine ⟨mv fun a w hat => hat.d 30 79, ?_⟩
  refine ⟨fun a w hat K hK => ?_, ?_⟩
  ·have e6 : a.tmps[6]?.getD undef = .pointer (some ⟨gF, 0, none⟩) := hat.b 6
   have hSt := hat.st
   rw [if_pos (wy hat 31 80 false)]
   go_simp
   exact hK.out _ _ hSt (Below.refl _ _) rfl
  refine ⟨mvg 31 80 false fun a w hat => ⟨_, _, hat.b 12, (HN3_12.out.below hat.st.2.2.2.1.out)⟩, ?_⟩
  refine ⟨mvg 31 80 false fun a w hat => ⟨_, _, hat.b 9, (HN3_9.out.below hat.st.2.2.2.1.out)⟩, ?_⟩
  refine ⟨fun a w hat K hK => ?_, ?_⟩
  ·have e81 : a.tmps[81]?.getD undef = FV F b cap := hat.d 32 81
   obtain ⟨a82, c82, e82, n82⟩ := (show (Kd.sl (mulP F TA TB)).ok F b cap (a.tmps[82]?.getD undef) w from hat.d 33 82)
   obtain ⟨a83, c83, e83, n83⟩ := (show (Kd.sl (TC)).ok F b cap (a.tmps[83]?.getD undef) w from hat.d 34 83)
   have hSt := hat.st
   rw [if_pos (wy hat 31 80 false)]
   go_simp
   go_at_call 23
   with_reducible refine (pmul_po (hSt.2.2.2.2.1.out.ops) HP_2.out HPC.out (by decide) (by decide) n82 n83).mono ?_
   rintro z' v' ⟨a', c', rfl, hn', hb⟩
   exact hK.out _ _ (SL.keep hSt hb) hb ⟨a', c', rfl, hn'⟩
  refine ⟨fun a w hat K hK => ?_, ?_⟩
  ·have e6 : a.tmps[6]?.getD undef = .pointer (some ⟨gF, 0, none⟩) := hat.b 6
   have hSt := hat.st
   rw [if_pos (wy hat 31 80 false)]
   go_simp
   exact hK.out _ _ hSt (Below.refl _ _) rfl
  refine ⟨mvg 31 80 false fun a w hat => ⟨_, _, hat.b 7, (HN3_7.out.below hat.st.2.2.2.1.out)⟩, ?_⟩
  refine ⟨fun a w hat K hK => ?_, ?_⟩
  ·have e6 : a.tmps[6]?.getD undef = .pointer (some ⟨gF, 0, none⟩) := hat.b 6
   have hSt := hat.st
   rw [if_pos (wy hat 31 80 false)]
   go_simp
   exact hK.out _ _ hSt (Below.refl _ _) rfl
  refine ⟨mvg 31 80 false fun a w hat => ⟨_, _, hat.b 8, (HN3_8.out.below hat.st.2.2.2.1.out)⟩, ?_⟩
  refine ⟨mvg 31 80 false fun a w hat => ⟨_, _, hat.b 9, (HN3_9.out.below hat.st.2.2.2.1.out)⟩, ?_⟩
  refine ⟨fun a w hat K hK => ?_, ?_⟩
  ·have e87 : a.tmps[87]?.getD undef = FV F b cap := hat.d 38 87
   obtain ⟨a88, c88, e88, n88⟩ := (show (Kd.sl (TB)).ok F b cap (a.tmps[88]?.getD undef) w from hat.d 39 88)
   obtain ⟨a89, c89, e89, n89⟩ := (show (Kd.sl (TC)).ok F b cap (a.tmps[89]?.getD undef) w from hat.d 40 89)
   have hSt := hat.st
   rw [if_pos (wy hat 31 80 false)]
   go_simp
   go_at_call 23
   with_reducible refine (pmul_po (hSt.2.2.2.2.1.out.ops) HPB.out HPC.out (by decide) (by decide) n88 n89).mono ?_
   rintro z' v' ⟨a', c', rfl, hn', hb⟩
   exact hK.out _ _ (SL.keep hSt hb) hb ⟨a', c', rfl, hn'⟩
  refine ⟨fun a w hat K hK => ?_, ?_⟩
  ·have e85 : a.tmps[85]?.getD undef = FV F b cap := hat.d 36 85
   obtain ⟨a86, c86, e86, n86⟩ := (show (Kd.sl (TA)).ok F b cap (a.tmps[86]?.getD undef) w from hat.d 37 86)
   obtain ⟨a90, c90, e90, n90⟩ := (show (Kd.sl (mulP F TB TC)).ok F b cap (a.tmps[90]?.getD undef) w from hat.d 41 90)
   have hSt := hat.st
   rw [if_pos (wy hat 31 80 false)]
   go_simp
   go_at_call 23
   with_reducible refine (pmul_po (hSt.2.2.2.2.1.out.ops) HPA.out HP_9.out (by decide) (by decide) n86 n90).mono ?_
   rintro z' v' ⟨a', c', rfl, hn', hb⟩
   exact hK.out _ _ (SL.keep hSt hb) hb ⟨a', c', rfl, hn'⟩
  refine ⟨fun a w hat K hK => ?_, ?_⟩
  ·obtain ⟨a84, c84, e84, n84⟩ := (show (Kd.sl (mulP F (mulP F TA TB) TC)).ok F b cap (a.tmps[84]?.getD undef) w from hat.d 35 84)
   obtain ⟨a91, c91, e91, n91⟩ := (show (Kd.sl (mulP F TA (mulP F TB TC))).ok F b cap (a.tmps[91]?.getD undef) w from hat.d 42 91)
   have hSt := hat.st
   rw [if_pos (wy hat 31 80 false)]
   go_simp
   go_at_call 14
   with_reducible refine (ints_po HP_8.out HP_10.out HEQ8_43.out (by decide) (by decide) n84 n91).mono ?_
   rintro z' v' ⟨rfl, hb⟩
   exact hK.out _ _ (SL.keep hSt hb) hb rfl
  refine ⟨fun a w hat K hK => ?_, ?_⟩
  ·have e92 : a.tmps[92]?.getD undef = .bool true := hat.d 43 92
   have hSt := hat.st
   rw [if_pos (wy hat 31 80 false)]
   go_simp
   exact hK.out _ _ hSt (Below.refl _ _) rfl
  refine ⟨fun a w hat K hK => ?_, ?_⟩
  ·have e80 : a.tmps[80]?.getD undef = .bool false := hat.d 31 80
   have e93 : a.tmps[93]?.getD undef = .bool false := hat.d 44 93
   have hSt := hat.st
   rw [if_pos (by rfl)]
   go_simp
   exact hK.out _ _ hSt (Below.refl _ _) rfl
  refine ⟨mv fun a w hat => hat.d 45 94, ?_⟩
  refine ⟨fun a w hat K hK => ?_, ?_⟩
  ·have e6 : a.tmps[6]?.getD undef = .pointer (some ⟨gF, 0, none⟩) := hat.b 6
   have hSt := hat.st
   rw [if_pos (wy hat 46 95 false)]
   go_simp
   exact hK.out _ _ hSt (Below.refl _ _) rfl
  refine ⟨mvg 46 95 false fun a w hat => ⟨_, _, hat.b 11, (HN3_11.out.below hat.st.2.2.2.1.out)⟩, ?_⟩
  refine ⟨mvg 46 95 false fun a w hat => ⟨_, _, hat.b 9, (HN3_9.out.below hat.st.2.2.2.1.out)⟩, ?_⟩
  refine ⟨fun a w hat K hK => ?_, ?_⟩
  ·have e96 : a.tmps[96]?.getD undef = FV F b cap := hat.d 47 96
   obtain ⟨a97, c97, e97, n97⟩ := (show (Kd.sl (addP F TA TB)).ok F b cap (a.tmps[97]?.getD undef) w from hat.d 48 97)
   obtain ⟨a98, c98, e98, n98⟩ := (show (Kd.sl (TC)).ok F b cap (a.tmps[98]?.getD undef) w from hat.d 49 98)
   have hSt := hat.st
   rw [if_pos (wy hat 46 95 false)]
   go_simp
   go_at_call 23
   with_reducible refine (pmul_po (hSt.2.2.2.2.1.out.ops) HP_1.out HPC.out (by decide) (by decide) n97 n98).mono ?_
   rintro z' v' ⟨a', c', rfl, hn', hb⟩
   exact hK.out _ _ (SL.keep hSt hb) hb ⟨a', c', rfl, hn'⟩
  refine ⟨fun a w hat K hK => ?_, ?_⟩
  ·have e6 : a.tmps[6]?.getD undef = .pointer (some ⟨gF, 0, none⟩) := hat.b 6
   have hSt := hat.st
   rw [if_pos (wy hat 46 95 false)]
   go_simp
   exact hK.out _ _ hSt (Below.refl _ _) rfl
  refine ⟨fun a w hat K hK => ?_, ?_⟩
  ·have e6 : a.tmps[6]?.getD undef = .pointer (some ⟨gF, 0, none⟩) := hat.b 6
   have hSt := hat.st
   rw [if_pos (wy hat 46 95 false)]
   go_simp
   exact hK.out _ _ hSt (Below.refl _ _) rfl
  refine ⟨mvg 46 95 false fun a w hat => ⟨_, _, hat.b 7, (HN3_7.out.below hat.st.2.2.2.1.out)⟩, ?_⟩
  refine ⟨mvg 46 95 false fun a w hat => ⟨_, _, hat.b 9, (HN3_9.out.below hat.st.2.2.2.1.out)⟩, ?_⟩
  refine ⟨fun a w hat K hK => ?_, ?_⟩
  ·have e101 : a.tmps[101]?.getD undef = FV F b cap := hat.d 52 101
   obtain ⟨a102, c102, e102, n102⟩ := (show (Kd.sl (TA)).ok F b cap (a.tmps[102]?.getD undef) w from hat.d 53 102)
   obtain ⟨a103, c103, e103, n103⟩ := (show (Kd.sl (TC)).ok F b cap (a.tmps[103]?.getD undef) w from hat.d 54 103)
   have hSt := hat.st
   rw [if_pos (wy hat 46 95 false)]
   go_simp
   go_at_call 23
   with_reducible refine (pmul_po (hSt.2.2.2.2.1.out.ops) HPA.out HPC.out (by decide) (by decide) n102 n103).mono ?_
   rintro z' v' ⟨a', c', rfl, hn', hb⟩
   exact hK.out _ _ (SL.keep hSt hb) hb ⟨a', c', rfl, hn'⟩
  refine ⟨fun a w hat K hK => ?_, ?_⟩
  ·have e6 : a.tmps[6]?.getD undef = .pointer (some ⟨gF, 0, none⟩) := hat.b 6
   have hSt := hat.st
   rw [if_pos (wy hat 46 95 false)]
   go_simp
   exact hK.out _ _ hSt (Below.refl _ _) rfl
  refine ⟨mvg 46 95 false fun a w hat => ⟨_, _, hat.b 8, (HN3_8.out.below hat.st.2.2.2.1.out)⟩, ?_⟩
  refine ⟨mvg 46 95 false fun a w hat => ⟨_, _, hat.b 9, (HN3_9.out.below hat.st.2.2.2.1.out)⟩, ?_⟩
  refine ⟨fun a w hat K hK => ?_, ?_⟩
  ·have e105 : a.tmps[105]?.getD undef = FV F b cap := hat.d 56 105
   obtain ⟨a106, c106, e106, n106⟩ := (show (Kd.sl (TB)).ok F b cap (a.tmps[106]?.getD undef) w from hat.d 57 106)
   obtain ⟨a107, c107, e107, n107⟩ := (show (Kd.sl (TC)).ok F b cap (a.tmps[107]?.getD undef) w from hat.d 58 107)
   have hSt := hat.st
   rw [if_pos (wy hat 46 95 false)]
   go_simp
   go_at_call 23
   with_reducible refine (pmul_po (hSt.2.2.2.2.1.out.ops) HPB.out HPC.out (by decide) (by decide) n106 n107).mono ?_
   rintro z' v' ⟨a', c', rfl, hn', hb⟩
   exact hK.out _ _ (SL.keep hSt hb) hb ⟨a', c', rfl, hn'⟩
  refine ⟨fun a w hat K hK => ?_, ?_⟩
  ·have e100 : a.tmps[100]?.getD undef = FV F b cap := hat.d 51 100
   obtain ⟨a104, c104, e104, n104⟩ := (show (Kd.sl (mulP F TA TC)).ok F b cap (a.tmps[104]?.getD undef) w from hat.d 55 104)
   obtain ⟨a108, c108, e108, n108⟩ := (show (Kd.sl (mulP F TB TC)).ok F b cap (a.tmps[108]?.getD undef) w from hat.d 59 108)
   have hSt := hat.st
   rw [if_pos (wy hat 46 95 false)]
   go_simp
   go_at_call 21
   with_reducible refine (padd_po (hSt.2.2.2.2.1.out.ops) HP_12.out HP_9.out (by decide) (by decide) n104 n108).mono ?_
   rintro z' v' ⟨a', c', rfl, hn', hb⟩
   exact hK.out _ _ (SL.keep hSt hb) hb ⟨a', c', rfl, hn'⟩
  refine ⟨fun a w hat K hK => ?_, ?_⟩
  ·obtain ⟨a99, c99, e99, n99⟩ := (show (Kd.sl (mulP F (addP F TA TB) TC)).ok F b cap (a.tmps[99]?.getD undef) w from hat.d 50 99)
   obtain ⟨a109, c109, e109, n109⟩ := (show (Kd.sl (addP F (mulP F TA TC) (mulP F TB TC))).ok F b cap (a.tmps[109]?.getD undef) w from hat.d 60 109)
   have hSt := hat.st
   rw [if_pos (wy hat 46 95 false)]
   go_simp
   go_at_call 14
   with_reducible refine (ints_po HP_11.out HP_13.out HEQ8_61.out (by decide) (by decide) n99 n109).mono ?_
   rintro z' v' ⟨rfl, hb⟩
   exact hK.out _ _ (SL.keep hSt hb) hb rfl
  refine ⟨fun a w hat K hK => ?_, ?_⟩
  ·have e110 : a.tmps[110]?.getD undef = .bool true := hat.d 61 110
   have hSt := hat.st
   rw [if_pos (wy hat 46 95 false)]
   go_simp
   exact hK.out _ _ hSt (Below.refl _ _) rfl
  refine ⟨fun a w hat K hK => ?_, ?_⟩
  ·have e95 : a.tmps[95]?.getD undef = .bool false := hat.d 46 95
   have e111 : a.tmps[111]?.getD undef = .bool false := hat.d 62 111
   have hSt := hat.st
   rw [if_pos (by rfl)]
   go_simp
   exact hK.out _ _ hSt (Below.refl _ _) rfl
  exact trivial
 intro a w4 hsz hdf hbase hSt hval
 obtain ⟨t, df⟩ := a
 have et := Go.Rg.tmps_of hsz [49, 50, 51, 52, 53, 54, 55, 56, 57, 58, 59, 60, 61, 62, 63, 64, 65, 66, 67, 68, 69, 70, 71, 72, 73, 74, 75, 76, 77, 78, 79, 80, 81, 82, 83, 84, 85, 86, 87, 88, 89, 90, 91, 92, 93, 94, 95, 96, 97, 98, 99, 100, 101, 102, 103, 104, 105, 106, 107, 108, 109, 110, 111, 112] (fun k hk => hbase k (Go.Rg.base_of (by kernel_rfl) hk))
 have x112 : t.getD 112 undef = .bool false := hval 63 112 (by kernel_rfl)
 clear hval hbase hsz
 simp only [List.foldl_cons, List.foldl_nil, x112] at et
 rw [et]
 have hdf' : df = _ := hdf
 rw [hdf']
 simp only [List.setIfInBounds_toArray, List.set_cons_zero, List.set_cons_succ]
 clear et hdf hdf'
 have HN4_7 := Lib.hid (HN3_7.out.below hSt.2.2.2.1.out)
 have HN4_8 := Lib.hid (HN3_8.out.below hSt.2.2.2.1.out)
 have HN4_9 := Lib.hid (HN3_9.out.below hSt.2.2.2.1.out)
 have HN4_11 := Lib.hid (HN3_11.out.below hSt.2.2.2.1.out)
 have HN4_12 := Lib.hid (HN3_12.out.below hSt.2.2.2.1.out)
 have HS8 := Lib.hid hSt.start
 clear hSt hS0
 have HP1 : Hid (PL F 1 [1]) := Lib.hid ⟨po_one HFF.out 1 HFF.out.one_lt (by decide), Nat.le_refl _⟩
 have HPM1 : Hid (PL F 11 (mulP F TA [1])) := Lib.hid (pl_mul HFF.out HPA.out HP1.out (by decide))
 go_upto_region 10 with (fail)
 by_cases hA0 : TA = []
 ·have hvA : ¬ 0 < TA.length := by rw [hA0]; decide
  have hzA : ¬ (0 : Int) < (TA.length : Int) := by rw [hA0]; decide
  have hyA : ((TA.length : Int) == 0) = true := by rw [hA0]; rfl
  have hp0 : (mulP F TA TB).length = 0 := by rw [hA0]; rfl
  have hp1 : ¬ (0 : Int) < ((mulP F TA TB).length : Int) := by omega
  have hp2 : ¬ 0 < (mulP F TA TB).length := by omega
  clear hp0
  have HA0 := Lib.hid hA0
  clear hA0
  have HEQ10_40 : Hid (mulP F TA [1] = TA) := Lib.hid (mulP_one HFF.out HPA.out.1)
  have HEQ10_48 : Hid (TA = TA) := Lib.hid (rfl)
  refine Go.Rg.region_seq (S := fun w' => SL W w4 gF F b cap (.int .u8 (q : Nat)) (.slice aA A.length cA) (.slice aB B.length cB) (.slice aC C.length cC) w') (R := fun w w' => Below w.heap.size w w') (φ := phi F b cap [.sl (TA), .eq (.int .i64 ((TA).length : Nat)), .eq (.bool false), .eq (.bool false), .any, .any, .any, .eq (.bool false), .eq (.bool false), .any, .any, .any, .any, .any, .any, .any, .any, .any, .eq (.bool false), .eq (.bool false), .sl (TA), .eq (.int .i64 ((TA).length : Nat)), .eq (.bool true), .eq (.bool true), .any, .any, .any, .eq (.bool true), .eq (.bool true), .sl (mulP F TA TB), .eq (.int .i64 ((mulP F TA TB).length : Nat)), .eq (.bool false), .eq (.bool false), .eq (.bool false), .eq (.bool false), .eq (FV F b cap), .sl (TA), .sl ([1]), .sl (mulP F TA [1]), .sl (TA), .eq (.bool true), .eq (.bool false), .eq (.bool false), .eq (.bool false), .eq (FV F b cap), .sl (TA), .sl (TA), .sl (TA), .eq (.bool true), .eq (.bool false), .eq (.bool false)]) (phi_mono _) (by kernel_rfl) (by kernel_rfl) (by rfl) (HS8.out) ?st5 ?fi5
  case st5 =>
   refine ⟨mv fun a w hat => ⟨_, _, hat.b 7, (HN4_7.out.below hat.st.2.2.2.1.out)⟩, ?_⟩
   refine ⟨fun a w hat K hK => ?_, ?_⟩
   ·obtain ⟨a113, c113, e113, n113⟩ := (show (Kd.sl (TA)).ok F b cap (a.tmps[113]?.getD undef) w from hat.d 0 113)
    have hSt := hat.st
    rw [if_pos (by rfl)]
    go_simp
    exact hK.out _ _ hSt (Below.refl _ _) rfl
   refine ⟨fun a w hat K hK => ?_, ?_⟩
   ·have e114 : a.tmps[114]?.getD undef = .int .i64 ((TA).length : Nat) := hat.d 1 114
    have hSt := hat.st
    rw [if_pos (by rfl)]
    go_simp
    exact hK.out _ _ hSt (Below.refl _ _) rfl
   refine ⟨mv fun a w hat => hat.d 2 115, ?_⟩
   refine ⟨no 3 116 false, ?_⟩
   refine ⟨no 3 116 false, ?_⟩
   refine ⟨no 3 116 false, ?_⟩
   refine ⟨fun a w hat K hK => ?_, ?_⟩
   ·have e116 : a.tmps[116]?.getD undef = .bool false := hat.d 3 116
    have hSt := hat.st
    rw [if_pos (by rfl)]
    go_simp
    exact hK.out _ _ hSt (Below.refl _ _) rfl
   refine ⟨mv fun a w hat => hat.d 7 120, ?_⟩
   refine ⟨no 8 121 false, ?_⟩
   refine ⟨no 8 121 false, ?_⟩
   refine ⟨no 8 121 false, ?_⟩
   refine ⟨no 8 121 false, ?_⟩
   refine ⟨no 8 121 false, ?_⟩
   refine ⟨no 8 121 false, ?_⟩
   refine ⟨no 8 121 false, ?_⟩
   refine ⟨no 8 121 false, ?_⟩
   refine ⟨no 8 121 false, ?_⟩
   refine ⟨fun a w hat K hK => ?_, ?_⟩
   ·have e121 : a.tmps[121]?.getD undef = .bool false := hat.d 8 121
    have hSt := hat.st
    rw [if_pos (by rfl)]
    go_simp
    exact hK.out _ _ hSt (Below.refl _ _) rfl
   refine ⟨mv fun a w hat => hat.d 18 131, ?_⟩
   refine ⟨mvg 19 132 false fun a w hat => ⟨_, _, hat.b 7, (HN4_7.out.below hat.st.2.2.2.1.out)⟩, ?_⟩
   refine ⟨fun a w hat K hK => ?_, ?_⟩
   ·obtain ⟨a133, c133, e133, n133⟩ := (show (Kd.sl (TA)).ok F b cap (a.tmps[133]?.getD undef) w from hat.d 20 133)
    have hSt := hat.st
    rw [if_pos (wy hat 19 132 false)]
    go_simp
    exact hK.out _ _ hSt (Below.refl _ _) rfl
   refine ⟨fun a w hat K hK => ?_, ?_⟩
   ·have e134 : a.tmps[134]?.getD undef = .int .i64 ((TA).length : Nat) := hat.d 21 134
    have hSt := hat.st
    rw [if_pos (wy hat 19 132 false)]
    go_simp
    exact hK.out _ _ hSt (Below.refl _ _) rfl
   refine ⟨mvg 19 132 false fun a w hat => hat.d 22 135, ?_⟩
   refine ⟨no 23 136 true, ?_⟩
   refine ⟨no 23 136 true, ?_⟩
   refine ⟨no 23 136 true, ?_⟩
   refine ⟨fun a w hat K hK => ?_, ?_⟩
   ·have e136 : a.tmps[136]?.getD undef = .bool true := hat.d 23 136
    have hSt := hat.st
    rw [if_pos (wy hat 19 132 false)]
    go_simp
    exact hK.out _ _ hSt (Below.refl _ _) rfl
   refine ⟨mvg 19 132 false fun a w hat => hat.d 27 140, ?_⟩
   refine ⟨mvg 28 141 true fun a w hat => ⟨_, _, hat.b 12, (HN4_12.out.below hat.st.2.2.2.1.out)⟩, ?_⟩
   refine ⟨fun a w hat K hK => ?_, ?_⟩
   ·obtain ⟨a142, c142, e142, n142⟩ := (show (Kd.sl (mulP F TA TB)).ok F b cap (a.tmps[142]?.getD undef) w from hat.d 29 142)
    have hSt := hat.st
    rw [if_pos (wy hat 28 141 true)]
    go_simp
    exact hK.out _ _ hSt (Below.refl _ _) rfl
   refine ⟨fun a w hat K hK => ?_, ?_⟩
   ·have e143 : a.tmps[143]?.getD undef = .int .i64 ((mulP F TA TB).length : Nat) := hat.d 30 143
    have hSt := hat.st
    rw [if_pos (wy hat 28 141 true)]
    go_simp
    exact hK.out _ _ hSt (Below.refl _ _) rfl
   refine ⟨fun a w hat K hK => ?_, ?_⟩
   ·have e141 : a.tmps[141]?.getD undef = .bool true := hat.d 28 141
    have e144 : a.tmps[144]?.getD undef = .bool false := hat.d 31 144
    have hSt := hat.st
    rw [if_pos (wy hat 19 132 false)]
    go_simp
    exact hK.out _ _ hSt (Below.refl _ _) rfl
   refine ⟨fun a w hat K hK => ?_, ?_⟩
   ·have e132 : a.tmps[132]?.getD undef = .bool false := hat.d 19 132
    have e145 : a.tmps[145]?.getD undef = .bool false := hat.d 32 145
    have hSt := hat.st
    rw [if_pos (by rfl)]
    go_simp
    exact hK.out _ _ hSt (Below.refl _ _) rfl
   refine ⟨mv fun a w hat => hat.d 33 146, ?_⟩
   refine ⟨fun a w hat K hK => ?_, ?_⟩
   ·have e6 : a.tmps[6]?.getD undef = .pointer (some ⟨gF, 0, none⟩) := hat.b 6
    have hSt := hat.st
    rw [if_pos (wy hat 34 147 false)]
    go_simp
    exact hK.out _ _ hSt (Below.refl _ _) rfl
   refine ⟨mvg 34 147 false fun a w hat => ⟨_, _, hat.b 7, (HN4_7.out.below hat.st.2.2.2.1.out)⟩, ?_⟩
   refine ⟨fun a w hat K hK => ?_, ?_⟩
   ·have hSt := hat.st
    rw [if_pos (wy hat 34 147 false)]
    go_simp
    have hb := (Below.refl w.heap.size w).alloc (Nat.le_refl _) (.cells #[.int .i64 1] 3)
    exact hK.out _ _ (SL.keep hSt hb) hb ⟨_, _, rfl, nn_one (x := 1)⟩
   refine ⟨fun a w hat K hK => ?_, ?_⟩
   ·have e148 : a.tmps[148]?.getD undef = FV F b cap := hat.d 35 148
    obtain ⟨a149, c149, e149, n149⟩ := (show (Kd.sl (TA)).ok F b cap (a.tmps[149]?.getD undef) w from hat.d 36 149)
    obtain ⟨a150, c150, e150, n150⟩ := (show (Kd.sl ([1])).ok F b cap (a.tmps[150]?.getD undef) w from hat.d 37 150)
    have hSt := hat.st
    rw [if_pos (wy hat 34 147 false)]
    have n150' : NN [1] w (.slice a150 1 c150) := n150
    go_simp
    go_at_call 23
    with_reducible refine (pmul_c1 (hSt.2.2.2.2.1.out.ops) HPA.out HP1.out (by decide) n149 n150').mono ?_
    rintro z' v' ⟨a', c', rfl, hn', hb⟩
    exact hK.out _ _ (SL.keep hSt hb) hb ⟨a', c', rfl, hn'⟩
   refine ⟨mvg 34 147 false fun a w hat => ⟨_, _, hat.b 7, (HN4_7.out.below hat.st.2.2.2.1.out)⟩, ?_⟩
   refine ⟨fun a w hat K hK => ?_, ?_⟩
   ·obtain ⟨a151, c151, e151, n151⟩ := (show (Kd.sl (mulP F TA [1])).ok F b cap (a.tmps[151]?.getD undef) w from hat.d 38 151)
    obtain ⟨a152, c152, e152, n152⟩ := (show (Kd.sl (TA)).ok F b cap (a.tmps[152]?.getD undef) w from hat.d 39 152)
    have hSt := hat.st
    rw [if_pos (wy hat 34 147 false)]
    go_simp
    go_at_call 14
    with_reducible refine (ints_po HPM1.out HPA.out HEQ10_40.out (by decide) (by decide) n151 n152).mono ?_
    rintro z' v' ⟨rfl, hb⟩
    exact hK.out _ _ (SL.keep hSt hb) hb rfl
   refine ⟨fun a w hat K hK => ?_, ?_⟩
   ·have e153 : a.tmps[153]?.getD undef = .bool true := hat.d 40 153
    have hSt := hat.st
    rw [if_pos (wy hat 34 147 false)]
    go_simp
    exact hK.out _ _ hSt (Below.refl _ _) rfl
   refine ⟨fun a w hat K hK => ?_, ?_⟩
   ·have e147 : a.tmps[147]?.getD undef = .bool false := hat.d 34 147
    have e154 : a.tmps[154]?.getD undef = .bool false := hat.d 41 154
    have hSt := hat.st
    rw [if_pos (by rfl)]
    go_simp
    exact hK.out _ _ hSt (Below.refl _ _) rfl
   refine ⟨mv fun a w hat => hat.d 42 155, ?_⟩
   refine ⟨fun a w hat K hK => ?_, ?_⟩
   ·have e6 : a.tmps[6]?.getD undef = .pointer (some ⟨gF, 0, none⟩) := hat.b 6
    have hSt := hat.st
    rw [if_pos (wy hat 43 156 false)]
    go_simp
    exact hK.out _ _ hSt (Below.refl _ _) rfl
   refine ⟨mvg 43 156 false fun a w hat => ⟨_, _, hat.b 7, (HN4_7.out.below hat.st.2.2.2.1.out)⟩, ?_⟩
   refine ⟨fun a w hat K hK => ?_, ?_⟩
   ·have e157 : a.tmps[157]?.getD undef = FV F b cap := hat.d 44 157
    obtain ⟨a158, c158, e158, n158⟩ := (show (Kd.sl (TA)).ok F b cap (a.tmps[158]?.getD undef) w from hat.d 45 158)
    have hSt := hat.st
    rw [if_pos (wy hat 43 156 false)]
    go_simp
    go_at_call 21
    with_reducible refine (padd_nil (hSt.2.2.2.2.1.out.ops) HPA.out (by decide) n158).mono ?_
    rintro z' v' ⟨a', c', rfl, hn', hb⟩
    exact hK.out _ _ (SL.keep hSt hb) hb ⟨a', c', rfl, hn'⟩
   refine ⟨mvg 43 156 false fun a w hat => ⟨_, _, hat.b 7, (HN4_7.out.below hat.st.2.2.2.1.out)⟩, ?_⟩
   refine ⟨fun a w hat K hK => ?_, ?_⟩
   ·obtain ⟨a159, c159, e159, n159⟩ := (show (Kd.sl (TA)).ok F b cap (a.tmps[159]?.getD undef) w from hat.d 46 159)
    obtain ⟨a160, c160, e160, n160⟩ := (show (Kd.sl (TA)).ok F b cap (a.tmps[160]?.getD undef) w from hat.d 47 160)
    have hSt := hat.st
    rw [if_pos (wy hat 43 156 false)]
    go_simp
    go_at_call 14
    with_reducible refine (ints_po HPA.out HPA.out HEQ10_48.out (by decide) (by decide) n159 n160).mono ?_
    rintro z' v' ⟨rfl, hb⟩
    exact hK.out _ _ (SL.keep hSt hb) hb rfl
   refine ⟨fun a w hat K hK => ?_, ?_⟩
   ·have e161 : a.tmps[161]?.getD undef = .bool true := hat.d 48 161
    have hSt := hat.st
    rw [if_pos (wy hat 43 156 false)]
    go_simp
    exact hK.out _ _ hSt (Below.refl _ _) rfl
   refine ⟨fun a w hat K hK => ?_, ?_⟩
   ·have e156 : a.tmps[156]?.getD undef = .bool false := hat.d 43 156
    have e162 : a.tmps[162]?.getD undef = .bool false := hat.d 49 162
    have hSt := hat.st
    rw [if_pos (by rfl)]
    go_simp
    exact hK.out _ _ hSt (Below.refl _ _) rfl
   exact trivial
  intro a w5 hsz hdf hbase hSt hval
  obtain ⟨t, df⟩ := a
  have et := Go.Rg.tmps_of hsz [113, 114, 115, 116, 117, 118, 119, 120, 121, 122, 123, 124, 125, 126, 127, 128, 129, 130, 131, 132, 133, 134, 135, 136, 137, 138, 139, 140, 141, 142, 143, 144, 145, 146, 147, 148, 149, 150, 151, 152, 153, 154, 155, 156, 157, 158, 159, 160, 161, 162, 163] (fun k hk => hbase k (Go.Rg.base_of (by kernel_rfl) hk))
  have x163 : t.getD 163 undef = .bool false := hval 50 163 (by kernel_rfl)
  clear hval hbase hsz
  simp only [List.foldl_cons, List.foldl_nil, x163] at et
  rw [et]
  have hdf' : df = _ := hdf
  rw [hdf']
  simp only [List.setIfInBounds_toArray, List.set_cons_zero, List.set_cons_succ]
  clear et hdf hdf'
  have HN5_7 := Lib.hid (HN4_7.out.below hSt.2.2.2.1.out)
  have HN5_8 := Lib.hid (HN4_8.out.below hSt.2.2.2.1.out)
  have HN5_9 := Lib.hid (HN4_9.out.below hSt.2.2.2.1.out)
  have HN5_11 := Lib.hid (HN4_11.out.below hSt.2.2.2.1.out)
  have HN5_12 := Lib.hid (HN4_12.out.below hSt.2.2.2.1.out)
  have HS10 := Lib.hid hSt.start
  clear hSt
  go_upto_region 12 with (fail)
  have hS0 := HS10.out.drew
  refine Go.Rg.region_by (S := fun w' => SL W w5 gF F b cap (.int .u8 (q : Nat)) (.slice aA A.length cA) (.slice aB B.length cB) (.slice aC C.length cC) w') (R := fun w w' => Below w.heap.size w w') (φ := phi F b cap [.eq (FV F b cap), .sl (TA), .eq (.int .i64 (v : Nat)), .eq (.int .i64 (ev F v TA : Nat)), .eq (FV F b cap), .sl (TB), .eq (.int .i64 (v : Nat)), .eq (.int .i64 (ev F v TB : Nat)), .eq (.int .i64 (ev F v TA : Nat)), .eq (.int .i64 (ev F v TB : Nat))]) (by kernel_rfl) (phi_mono _) (by kernel_rfl) (by kernel_rfl) (by rfl) (hS0) (Go.Rg.steps_ok ?st6) ?fi6
  case st6 =>
   refine ⟨fun a w hat K hK => ?_, ?_⟩
   ·have e6 : a.tmps[6]?.getD undef = .pointer (some ⟨gF, 0, none⟩) := hat.b 6
    have hSt := hat.st
    rw [if_pos (by rfl)]
    go_simp
    exact hK.out _ _ hSt (Below.refl _ _) rfl
   refine ⟨mv fun a w hat => ⟨_, _, hat.b 7, (HN5_7.out.below hat.st.2.2.2.1.out)⟩, ?_⟩
   refine ⟨mv fun a w hat => hat.b 10, ?_⟩
   refine ⟨fun a w hat K hK => ?_, ?_⟩
   ·have e164 : a.tmps[164]?.getD undef = FV F b cap := hat.d 0 164
    obtain ⟨a165, c165, e165, n165⟩ := (show (Kd.sl (TA)).ok F b cap (a.tmps[165]?.getD undef) w from hat.d 1 165)
    have e166 : a.tmps[166]?.getD undef = .int .i64 (v : Nat) := hat.d 2 166
    have hSt := hat.st
    rw [if_pos (by rfl)]
    go_simp
    go_at_call 27
    with_reducible refine (eval_po (hSt.2.2.2.2.1.out.ops) HPA.out (by decide) HVQ.out n165).mono ?_
    rintro z' v' ⟨rfl, hb⟩
    exact hK.out _ _ (SL.keep hSt hb) hb rfl
   refine ⟨fun a w hat K hK => ?_, ?_⟩
   ·have e6 : a.tmps[6]?.getD undef = .pointer (some ⟨gF, 0, none⟩) := hat.b 6
    have hSt := hat.st
    rw [if_pos (by rfl)]
    go_simp
    exact hK.out _ _ hSt (Below.refl _ _) rfl
   refine ⟨mv fun a w hat => ⟨_, _, hat.b 8, (HN5_8.out.below hat.st.2.2.2.1.out)⟩, ?_⟩
   refine ⟨mv fun a w hat => hat.b 10, ?_⟩
   refine ⟨fun a w hat K hK => ?_, ?_⟩
   ·have e168 : a.tmps[168]?.getD undef = FV F b cap := hat.d 4 168
    obtain ⟨a169, c169, e169, n169⟩ := (show (Kd.sl (TB)).ok F b cap (a.tmps[169]?.getD undef) w from hat.d 5 169)
    have e170 : a.tmps[170]?.getD undef = .int .i64 (v : Nat) := hat.d 6 170
    have hSt := hat.st
    rw [if_pos (by rfl)]
    go_simp
    go_at_call 27
    with_reducible refine (eval_po (hSt.2.2.2.2.1.out.ops) HPB.out (by decide) HVQ.out n169).mono ?_
    rintro z' v' ⟨rfl, hb⟩
    exact hK.out _ _ (SL.keep hSt hb) hb rfl
   refine ⟨mv fun a w hat => hat.d 3 167, ?_⟩
   refine ⟨mv fun a w hat => hat.d 7 171, ?_⟩
   exact trivial
  intro a w6 hsz hdf hbase hSt hval
  obtain ⟨t, df⟩ := a
  have et := Go.Rg.tmps_of hsz [164, 165, 166, 167, 168, 169, 170, 171, 13, 14] (fun k hk => hbase k (Go.Rg.base_of (by kernel_rfl) hk))
  have x13 : t.getD 13 undef = .int .i64 (ev F v TA : Nat) := hval 8 13 (by kernel_rfl)
  have x14 : t.getD 14 undef = .int .i64 (ev F v TB : Nat) := hval 9 14 (by kernel_rfl)
  clear hval hbase hsz
  simp only [List.foldl_cons, List.foldl_nil, x13, x14] at et
  rw [et]
  have hdf' : df = _ := hdf
  rw [hdf']
  simp only [List.setIfInBounds_toArray, List.set_cons_zero, List.set_cons_succ]
  clear et hdf hdf'
  have HN6_7 := Lib.hid (HN5_7.out.below hSt.2.2.2.1.out)
  have HN6_8 := Lib.hid (HN5_8.out.below hSt.2.2.2.1.out)
  have HN6_9 := Lib.hid (HN5_9.out.below hSt.2.2.2.1.out)
  have HN6_11 := Lib.hid (HN5_11.out.below hSt.2.2.2.1.out)
  have HN6_12 := Lib.hid (HN5_12.out.below hSt.2.2.2.1.out)
  have HS12 := Lib.hid hSt.start
  clear hSt
  go_upto_region 13 with (fail)
  have hS0 := HS12.out.drew
  have HEV1 : Hid (ev F v (addP F TA TB) = F.add (ev F v TA) (ev F v TB)) := Lib.hid (ev_addP HFF.out HVQ.out HPA.out.1.el HPB.out.1.el)
  have HEV2 : Hid (ev F v (mulP F TA TB) = F.mul (ev F v TA) (ev F v TB)) := Lib.hid (ev_mulP HFF.out HVQ.out HPA.out.1.el HPB.out.1.el)
  have HVA : Hid (ev F v TA < F.q) := Lib.hid (ev_lt HFF.out v TA)
  have HVB : Hid (ev F v TB < F.q) := Lib.hid (ev_lt HFF.out v TB)
  refine Go.Rg.region_by (S := fun w' => SL W w6 gF F b cap (.int .u8 (q : Nat)) (.slice aA A.length cA) (.slice aB B.length cB) (.slice aC C.length cC) w') (R := fun w w' => Below w.heap.size w w') (φ := phi F b cap [.eq (FV F b cap), .sl (addP F TA TB), .eq (.int .i64 (v : Nat)), .eq (.int .i64 (F.add (ev F v TA) (ev F v TB) : Nat)), .eq (FV F b cap), .eq (.int .i64 (ev F v TA : Nat)), .eq (.int .i64 (ev F v TB : Nat)), .eq (.int .i64 (F.add (ev F v TA) (ev F v TB) : Nat)), .eq (.bool true), .eq (.bool true), .eq (FV F b cap), .sl (mulP F TA TB), .eq (.int .i64 (v : Nat)), .eq (.int .i64 (F.mul (ev F v TA) (ev F v TB) : Nat)), .eq (FV F b cap), .eq (.int .i64 (ev F v TA : Nat)), .eq (.int .i64 (ev F v TB : Nat)), .eq (.int .i64 (F.mul (ev F v TA) (ev F v TB) : Nat)), .eq (.bool true), .eq (.bool true), .eq (.bool true), .eq (.bool true), .eq (.bool true), .eq (.bool true)]) (by kernel_rfl) (phi_mono _) (by kernel_rfl) (by kernel_rfl) (by rfl) (hS0) (Go.Rg.steps_ok ?st7) ?fi7
  case st7 =>
   refine ⟨fun a w hat K hK => ?_, ?_⟩
   ·have e6 : a.tmps[6]?.getD undef = .pointer (some ⟨gF, 0, none⟩) := hat.b 6
    have hSt := hat.st
    rw [if_pos (by rfl)]
    go_simp
    exact hK.out _ _ hSt (Below.refl _ _) rfl
   refine ⟨mv fun a w hat => ⟨_, _, hat.b 11, (HN6_11.out.below hat.st.2.2.2.1.out)⟩, ?_⟩
   refine ⟨mv fun a w hat => hat.b 10, ?_⟩
   refine ⟨fun a w hat K hK => ?_, ?_⟩
   ·have e172 : a.tmps[172]?.getD undef = FV F b cap := hat.d 0 172
    obtain ⟨a173, c173, e173, n173⟩ := (show (Kd.sl (addP F TA TB)).ok F b cap (a.tmps[173]?.getD undef) w from hat.d 1 173)
    have e174 : a.tmps[174]?.getD undef = .int .i64 (v : Nat) := hat.d 2 174
    have hSt := hat.st
    rw [if_pos (by rfl)]
    go_simp
    go_at_call 27
    with_reducible refine (eval_po (hSt.2.2.2.2.1.out.ops) HP_1.out (by decide) HVQ.out n173).mono ?_
    rintro z' v' ⟨rfl, hb⟩
    rw [HEV1.out]
    exact hK.out _ _ (SL.keep hSt hb) hb rfl
   refine ⟨fun a w hat K hK => ?_, ?_⟩
   ·have e6 : a.tmps[6]?.getD undef = .pointer (some ⟨gF, 0, none⟩) := hat.b 6
    have hSt := hat.st
    rw [if_pos (by rfl)]
    go_simp
    exact hK.out _ _ hSt (Below.refl _ _) rfl
   refine ⟨mv fun a w hat => hat.b 13, ?_⟩
   refine ⟨mv fun a w hat => hat.b 14, ?_⟩
   refine ⟨fun a w hat K hK => ?_, ?_⟩
   ·have e176 : a.tmps[176]?.getD undef = FV F b cap := hat.d 4 176
    have e177 : a.tmps[177]?.getD undef = .int .i64 (ev F v TA : Nat) := hat.d 5 177
    have e178 : a.tmps[178]?.getD undef = .int .i64 (ev F v TB : Nat) := hat.d 6 178
    have hSt := hat.st
    rw [if_pos (by rfl)]
    go_simp
    go_at_call 33
    with_reducible refine (radd_c HVA.out HVB.out hSt.2.2.2.2.1.out).mono ?_
    rintro z' v' ⟨rfl, hb⟩
    exact hK.out _ _ (SL.keep hSt hb) hb rfl
   refine ⟨fun a w hat K hK => ?_, ?_⟩
   ·have e175 : a.tmps[175]?.getD undef = .int .i64 (F.add (ev F v TA) (ev F v TB) : Nat) := hat.d 3 175
    have e179 : a.tmps[179]?.getD undef = .int .i64 (F.add (ev F v TA) (ev F v TB) : Nat) := hat.d 7 179
    have hSt := hat.st
    rw [if_pos (by rfl)]
    go_simp
    exact hK.out _ _ hSt (Below.refl _ _) rfl
   refine ⟨mv fun a w hat => hat.d 8 180, ?_⟩
   refine ⟨fun a w hat K hK => ?_, ?_⟩
   ·have e6 : a.tmps[6]?.getD undef = .pointer (some ⟨gF, 0, none⟩) := hat.b 6
    have hSt := hat.st
    rw [if_pos (wy hat 9 181 true)]
    go_simp
    exact hK.out _ _ hSt (Below.refl _ _) rfl
   refine ⟨mvg 9 181 true fun a w hat => ⟨_, _, hat.b 12, (HN6_12.out.below hat.st.2.2.2.1.out)⟩, ?_⟩
   refine ⟨mvg 9 181 true fun a w hat => hat.b 10, ?_⟩
   refine ⟨fun a w hat K hK => ?_, ?_⟩
   ·have e182 : a.tmps[182]?.getD undef = FV F b cap := hat.d 10 182
    obtain ⟨a183, c183, e183, n183⟩ := (show (Kd.sl (mulP F TA TB)).ok F b cap (a.tmps[183]?.getD undef) w from hat.d 11 183)
    have e184 : a.tmps[184]?.getD undef = .int .i64 (v : Nat) := hat.d 12 184
    have hSt := hat.st
    rw [if_pos (wy hat 9 181 true)]
    go_simp
    go_at_call 27
    with_reducible refine (eval_po (hSt.2.2.2.2.1.out.ops) HP_2.out (by decide) HVQ.out n183).mono ?_
    rintro z' v' ⟨rfl, hb⟩
    rw [HEV2.out]
    exact hK.out _ _ (SL.keep hSt hb) hb rfl
   refine ⟨fun a w hat K hK => ?_, ?_⟩
   ·have e6 : a.tmps[6]?.getD undef = .pointer (some ⟨gF, 0, none⟩) := hat.b 6
    have hSt := hat.st
    rw [if_pos (wy hat 9 181 true)]
    go_simp
    exact hK.out _ _ hSt (Below.refl _ _) rfl
   refine ⟨mvg 9 181 true fun a w hat => hat.b 13, ?_⟩
   refine ⟨mvg 9 181 true fun a w hat => hat.b 14, ?_⟩
   refine ⟨fun a w hat K hK => ?_, ?_⟩
   ·have e186 : a.tmps[186]?.getD undef = FV F b cap := hat.d 14 186
    have e187 : a.tmps[187]?.getD undef = .int .i64 (ev F v TA : Nat) := hat.d 15 187
    have e188 : a.tmps[188]?.getD undef = .int .i64 (ev F v TB : Nat) := hat.d 16 188
    have hSt := hat.st
    rw [if_pos (wy hat 9 181 true)]
    go_simp
    go_at_call 34
    with_reducible refine (rmul_c HVA.out HVB.out hSt.2.2.2.2.1.out).mono ?_
    rintro z' v' ⟨rfl, hb⟩
    exact hK.out _ _ (SL.keep hSt hb) hb rfl
   refine ⟨fun a w hat K hK => ?_, ?_⟩
   ·have e185 : a.tmps[185]?.getD undef = .int .i64 (F.mul (ev F v TA) (ev F v TB) : Nat) := hat.d 13 185
    have e189 : a.tmps[189]?.getD undef = .int .i64 (F.mul (ev F v TA) (ev F v TB) : Nat) := hat.d 17 189
    have hSt := hat.st
    rw [if_pos (wy hat 9 181 true)]
    go_simp
    exact hK.out _ _ hSt (Below.refl _ _) rfl
   refine ⟨fun a w hat K hK => ?_, ?_⟩
   ·have e181 : a.tmps[181]?.getD undef = .bool true := hat.d 9 181
    have e190 : a.tmps[190]?.getD undef = .bool true := hat.d 18 190
    have hSt := hat.st
    rw [if_pos (by rfl)]
    go_simp
    exact hK.out _ _ hSt (Below.refl _ _) rfl
   refine ⟨mv fun a w hat => hat.d 19 191, ?_⟩
   refine ⟨mvg 20 192 true fun a w hat => hat.b 5, ?_⟩
   refine ⟨fun a w hat K hK => ?_, ?_⟩
   ·have e192 : a.tmps[192]?.getD undef = .bool true := hat.d 20 192
    have e193 : a.tmps[193]?.getD undef = .bool true := hat.d 21 193
    have hSt := hat.st
    rw [if_pos (by rfl)]
    go_simp
    exact hK.out _ _ hSt (Below.refl _ _) rfl
   refine ⟨mv fun a w hat => hat.d 22 194, ?_⟩
   exact trivial
  intro a w7 hsz hdf hbase hSt hval
  obtain ⟨t, df⟩ := a
  have et := Go.Rg.tmps_of hsz [172, 173, 174, 175, 176, 177, 178, 179, 180, 181, 182, 183, 184, 185, 186, 187, 188, 189, 190, 191, 192, 193, 194, 4] (fun k hk => hbase k (Go.Rg.base_of (by kernel_rfl) hk))
  have x4 : t.getD 4 undef = .bool true := hval 23 4 (by kernel_rfl)
  clear hval hbase hsz
  simp only [List.foldl_cons, List.foldl_nil, x4] at et
  rw [et]
  have hdf' : df = _ := hdf
  rw [hdf']
  simp only [List.setIfInBounds_toArray, List.set_cons_zero, List.set_cons_succ]
  clear et hdf hdf'
  have HN7_7 := Lib.hid (HN6_7.out.below hSt.2.2.2.1.out)
  have HN7_8 := Lib.hid (HN6_8.out.below hSt.2.2.2.1.out)
  have HN7_9 := Lib.hid (HN6_9.out.below hSt.2.2.2.1.out)
  have HN7_11 := Lib.hid (HN6_11.out.below hSt.2.2.2.1.out)
  have HN7_12 := Lib.hid (HN6_12.out.below hSt.2.2.2.1.out)
  have HBF := Lib.hid hSt.2.2.1.out
  clear hSt hS0
  go_wp2
  go_ret
  exact ⟨rfl, HBF.out⟩
 ·by_cases hB0 : TB = []
  ·have hlA : 0 < TA.length := List.length_pos_iff.2 hA0
   have hzA : (0 : Int) < (TA.length : Int) := by omega
   have hyA : ((TA.length : Int) == 0) = false := by simp; exact hA0
   have hwA : ¬ TA.length = 0 := by omega
   have hvB : ¬ 0 < TB.length := by rw [hB0]; decide
   have hzB : ¬ (0 : Int) < (TB.length : Int) := by rw [hB0]; decide
   have hyB : ((TB.length : Int) == 0) = true := by rw [hB0]; rfl
   have hp0 : (mulP F TA TB).length = 0 := by rw [hB0, mulP_nil HFF.out]; rfl
   have hp1 : ¬ (0 : Int) < ((mulP F TA TB).length : Int) := by omega
   have hp2 : ¬ 0 < (mulP F TA TB).length := by omega
   clear hp0
   have HA0 := Lib.hid hA0
   have HB0 := Lib.hid hB0
   clear hA0 hB0
   have HEQ10_40 : Hid (mulP F TA [1] = TA) := Lib.hid (mulP_one HFF.out HPA.out.1)
   have HEQ10_48 : Hid (TA = TA) := Lib.hid (rfl)
   refine Go.Rg.region_seq (S := fun w' => SL W w4 gF F b cap (.int .u8 (q : Nat)) (.slice aA A.length cA) (.slice aB B.length cB) (.slice aC C.length cC) w') (R := fun w w' => Below w.heap.size w w') (φ := phi F b cap [.sl (TA), .eq (.int .i64 ((TA).length : Nat)), .eq (.bool true), .eq (.bool true), .sl (TB), .eq (.int .i64 ((TB).length : Nat)), .eq (.bool false), .eq (.bool false), .eq (.bool false), .any, .any, .any, .any, .any, .any, .any, .any, .any, .eq (.bool false), .eq (.bool false), .sl (TA), .eq (.int .i64 ((TA).length : Nat)), .eq (.bool false), .eq (.bool false), .sl (TB), .eq (.int .i64 ((TB).length : Nat)), .eq (.bool true), .eq (.bool true), .eq (.bool true), .sl (mulP F TA TB), .eq (.int .i64 ((mulP F TA TB).length : Nat)), .eq (.bool false), .eq (.bool false), .eq (.bool false), .eq (.bool false), .eq (FV F b cap), .sl (TA), .sl ([1]), .sl (mulP F TA [1]), .sl (TA), .eq (.bool true), .eq (.bool false), .eq (.bool false), .eq (.bool false), .eq (FV F b cap), .sl (TA), .sl (TA), .sl (TA), .eq (.bool true), .eq (.bool false), .eq (.bool false)]) (phi_mono _) (by kernel_rfl) (by kernel_rfl) (by rfl) (HS8.out) ?st8 ?fi8
   case st8 =>
    refine ⟨mv fun a w hat => ⟨_, _, hat.b 7, (HN4_7.out.below hat.st.2.2.2.1.out)⟩, ?_⟩
    refine ⟨fun a w hat K hK => ?_, ?_⟩
    ·obtain ⟨a113, c113, e113, n113⟩ := (show (Kd.sl (TA)).ok F b cap (a.tmps[113]?.getD undef) w from hat.d 0 113)
     have hSt := hat.st
     rw [if_pos (by rfl)]
     go_simp
     exact hK.out _ _ hSt (Below.refl _ _) rfl
    refine ⟨fun a w hat K hK => ?_, ?_⟩
    ·have e114 : a.tmps[114]?.getD undef = .int .i64 ((TA).length : Nat) := hat.d 1 114
     have hSt := hat.st
     rw [if_pos (by rfl)]
     go_simp
     exact hK.out _ _ hSt (Below.refl _ _) rfl
    refine ⟨mv fun a w hat => hat.d 2 115, ?_⟩
    refine ⟨mvg 3 116 true fun a w hat => ⟨_, _, hat.b 8, (HN4_8.out.below hat.st.2.2.2.1.out)⟩, ?_⟩
    refine ⟨fun a w hat K hK => ?_, ?_⟩
    ·obtain ⟨a117, c117, e117, n117⟩ := (show (Kd.sl (TB)).ok F b cap (a.tmps[117]?.getD undef) w from hat.d 4 117)
     have hSt := hat.st
     rw [if_pos (wy hat 3 116 true)]
     go_simp
     exact hK.out _ _ hSt (Below.refl _ _) rfl
    refine ⟨fun a w hat K hK => ?_, ?_⟩
    ·have e118 : a.tmps[118]?.getD undef = .int .i64 ((TB).length : Nat) := hat.d 5 118
     have hSt := hat.st
     rw [if_pos (wy hat 3 116 true)]
     go_simp
     exact hK.out _ _ hSt (Below.refl _ _) rfl
    refine ⟨fun a w hat K hK => ?_, ?_⟩
    ·have e116 : a.tmps[116]?.getD undef = .bool true := hat.d 3 116
     have e119 : a.tmps[119]?.getD undef = .bool false := hat.d 6 119
     have hSt := hat.st
     rw [if_pos (by rfl)]
     go_simp
     exact hK.out _ _ hSt (Below.refl _ _) rfl
    refine ⟨mv fun a w hat => hat.d 7 120, ?_⟩
    refine ⟨no 8 121 false, ?_⟩
    refine ⟨no 8 121 false, ?_⟩
    refine ⟨no 8 121 false, ?_⟩
    refine ⟨no 8 121 false, ?_⟩
    refine ⟨no 8 121 false, ?_⟩
    refine ⟨no 8 121 false, ?_⟩
    refine ⟨no 8 121 false, ?_⟩
    refine ⟨no 8 121 false, ?_⟩
    refine ⟨no 8 121 false, ?_⟩
    refine ⟨fun a w hat K hK => ?_, ?_⟩
    ·have e121 : a.tmps[121]?.getD undef = .bool false := hat.d 8 121
     have hSt := hat.st
     rw [if_pos (by rfl)]
     go_simp
     exact hK.out _ _ hSt (Below.refl _ _) rfl
    refine ⟨mv fun a w hat => hat.d 18 131, ?_⟩
    refine ⟨mvg 19 132 false fun a w hat => ⟨_, _, hat.b 7, (HN4_7.out.below hat.st.2.2.2.1.out)⟩, ?_⟩
    refine ⟨fun a w hat K hK => ?_, ?_⟩
    ·obtain ⟨a133, c133, e133, n133⟩ := (show (Kd.sl (TA)).ok F b cap (a.tmps[133]?.getD undef) w from hat.d 20 133)
     have hSt := hat.st
     rw [if_pos (wy hat 19 132 false)]
     go_simp
     exact hK.out _ _ hSt (Below.refl _ _) rfl
    refine ⟨fun a w hat K hK => ?_, ?_⟩
    ·have e134 : a.tmps[134]?.getD undef = .int .i64 ((TA).length : Nat) := hat.d 21 134
     have hSt := hat.st
     rw [if_pos (wy hat 19 132 false)]
     go_simp
     exact hK.out _ _ hSt (Below.refl _ _) rfl
    refine ⟨mvg 19 132 false fun a w hat => hat.d 22 135, ?_⟩
    refine ⟨mvg 23 136 false fun a w hat => ⟨_, _, hat.b 8, (HN4_8.out.below hat.st.2.2.2.1.out)⟩, ?_⟩
    refine ⟨fun a w hat K hK => ?_, ?_⟩
    ·obtain ⟨a137, c137, e137, n137⟩ := (show (Kd.sl (TB)).ok F b cap (a.tmps[137]?.getD undef) w from hat.d 24 137)
     have hSt := hat.st
     rw [if_pos (wy hat 23 136 false)]
     go_simp
     exact hK.out _ _ hSt (Below.refl _ _) rfl
    refine ⟨fun a w hat K hK => ?_, ?_⟩
    ·have e138 : a.tmps[138]?.getD undef = .int .i64 ((TB).length : Nat) := hat.d 25 138
     have hSt := hat.st
     rw [if_pos (wy hat 23 136 false)]
     go_simp
     exact hK.out _ _ hSt (Below.refl _ _) rfl
    refine ⟨fun a w hat K hK => ?_, ?_⟩
    ·have e136 : a.tmps[136]?.getD undef = .bool false := hat.d 23 136
     have e139 : a.tmps[139]?.getD undef = .bool true := hat.d 26 139
     have hSt := hat.st
     rw [if_pos (wy hat 19 132 false)]
     go_simp
     exact hK.out _ _ hSt (Below.refl _ _) rfl
    refine ⟨mvg 19 132 false fun a w hat => hat.d 27 140, ?_⟩
    refine ⟨mvg 28 141 true fun a w hat => ⟨_, _, hat.b 12, (HN4_12.out.below hat.st.2.2.2.1.out)⟩, ?_⟩
    refine ⟨fun a w hat K hK => ?_, ?_⟩
    ·obtain ⟨a142, c142, e142, n142⟩ := (show (Kd.sl (mulP F TA TB)).ok F b cap (a.tmps[142]?.getD undef) w from hat.d 29 142)
     have hSt := hat.st
     rw [if_pos (wy hat 28 141 true)]
     go_simp
     exact hK.out _ _ hSt (Below.refl _ _) rfl
    refine ⟨fun a w hat K hK => ?_, ?_⟩
    ·have e143 : a.tmps[143]?.getD undef = .int .i64 ((mulP F TA TB).length : Nat) := hat.d 30 143
     have hSt := hat.st
     rw [if_pos (wy hat 28 141 true)]
     go_simp
     exact hK.out _ _ hSt (Below.refl _ _) rfl
    refine ⟨fun a w hat K hK => ?_, ?_⟩
    ·have e141 : a.tmps[141]?.getD undef = .bool true := hat.d 28 141
     have e144 : a.tmps[144]?.getD undef = .bool false := hat.d 31 144
     have hSt := hat.st
     rw [if_pos (wy hat 19 132 false)]
     go_simp
     exact hK.out _ _ hSt (Below.refl _ _) rfl
    refine ⟨fun a w hat K hK => ?_, ?_⟩
    ·have e132 : a.tmps[132]?.getD undef = .bool false := hat.d 19 132
     have e145 : a.tmps[145]?.getD undef = .bool false := hat.d 32 145
     have hSt := hat.st
     rw [if_pos (by rfl)]
     go_simp
     exact hK.out _ _ hSt (Below.refl _ _) rfl
    refine ⟨mv fun a w hat => hat.d 33 146, ?_⟩
    refine ⟨fun a w hat K hK => ?_, ?_⟩
    ·have e6 : a.tmps[6]?.getD undef = .pointer (some ⟨gF, 0, none⟩) := hat.b 6
     have hSt := hat.st
     rw [if_pos (wy hat 34 147 false)]
     go_simp
     exact hK.out _ _ hSt (Below.refl _ _) rfl
    refine ⟨mvg 34 147 false fun a w hat => ⟨_, _, hat.b 7, (HN4_7.out.below hat.st.2.2.2.1.out)⟩, ?_⟩
    refine ⟨fun a w hat K hK => ?_, ?_⟩
    ·have hSt := hat.st
     rw [if_pos (wy hat 34 147 false)]
     go_simp
     have hb := (Below.refl w.heap.size w).alloc (Nat.le_refl _) (.cells #[.int .i64 1] 3)
     exact hK.out _ _ (SL.keep hSt hb) hb ⟨_, _, rfl, nn_one (x := 1)⟩
    refine ⟨fun a w hat K hK => ?_, ?_⟩
    ·have e148 : a.tmps[148]?.getD undef = FV F b cap := hat.d 35 148
     obtain ⟨a149, c149, e149, n149⟩ := (show (Kd.sl (TA)).ok F b cap (a.tmps[149]?.getD undef) w from hat.d 36 149)
     obtain ⟨a150, c150, e150, n150⟩ := (show (Kd.sl ([1])).ok F b cap (a.tmps[150]?.getD undef) w from hat.d 37 150)
     have hSt := hat.st
     rw [if_pos (wy hat 34 147 false)]
     have n150' : NN [1] w (.slice a150 1 c150) := n150
     go_simp
     go_at_call 23
     with_reducible refine (pmul_c1 (hSt.2.2.2.2.1.out.ops) HPA.out HP1.out (by decide) n149 n150').mono ?_
     rintro z' v' ⟨a', c', rfl, hn', hb⟩
     exact hK.out _ _ (SL.keep hSt hb) hb ⟨a', c', rfl, hn'⟩
    refine ⟨mvg 34 147 false fun a w hat => ⟨_, _, hat.b 7, (HN4_7.out.below hat.st.2.2.2.1.out)⟩, ?_⟩
    refine ⟨fun a w hat K hK => ?_, ?_⟩
    ·obtain ⟨a151, c151, e151, n151⟩ := (show (Kd.sl (mulP F TA [1])).ok F b cap (a.tmps[151]?.getD undef) w from hat.d 38 151)
     obtain ⟨a152, c152, e152, n152⟩ := (show (Kd.sl (TA)).ok F b cap (a.tmps[152]?.getD undef) w from hat.d 39 152)
     have hSt := hat.st
     rw [if_pos (wy hat 34 147 false)]
     go_simp
     go_at_call 14
     with_reducible refine (ints_po HPM1.out HPA.out HEQ10_40.out (by decide) (by decide) n151 n152).mono ?_
     rintro z' v' ⟨rfl, hb⟩
     exact hK.out _ _ (SL.keep hSt hb) hb rfl
    refine ⟨fun a w hat K hK => ?_, ?_⟩
    ·have e153 : a.tmps[153]?.getD undef = .bool true := hat.d 40 153
     have hSt := hat.st
     rw [if_pos (wy hat 34 147 false)]
     go_simp
     exact hK.out _ _ hSt (Below.refl _ _) rfl
    refine ⟨fun a w hat K hK => ?_, ?_⟩
    ·have e147 : a.tmps[147]?.getD undef = .bool false := hat.d 34 147
     have e154 : a.tmps[154]?.getD undef = .bool false := hat.d 41 154
     have hSt := hat.st
     rw [if_pos (by rfl)]
     go_simp
     exact hK.out _ _ hSt (Below.refl _ _) rfl
    refine ⟨mv fun a w hat => hat.d 42 155, ?_⟩
    refine ⟨fun a w hat K hK => ?_, ?_⟩
    ·have e6 : a.tmps[6]?.getD undef = .pointer (some ⟨gF, 0, none⟩) := hat.b 6
     have hSt := hat.st
     rw [if_pos (wy hat 43 156 false)]
     go_simp
     exact hK.out _ _ hSt (Below.refl _ _) rfl
    refine ⟨mvg 43 156 false fun a w hat => ⟨_, _, hat.b 7, (HN4_7.out.below hat.st.2.2.2.1.out)⟩, ?_⟩
    refine ⟨fun a w hat K hK => ?_, ?_⟩
    ·have e157 : a.tmps[157]?.getD undef = FV F b cap := hat.d 44 157
     obtain ⟨a158, c158, e158, n158⟩ := (show (Kd.sl (TA)).ok F b cap (a.tmps[158]?.getD undef) w from hat.d 45 158)
     have hSt := hat.st
     rw [if_pos (wy hat 43 156 false)]
     go_simp
     go_at_call 21
     with_reducible refine (padd_nil (hSt.2.2.2.2.1.out.ops) HPA.out (by decide) n158).mono ?_
     rintro z' v' ⟨a', c', rfl, hn', hb⟩
     exact hK.out _ _ (SL.keep hSt hb) hb ⟨a', c', rfl, hn'⟩
    refine ⟨mvg 43 156 false fun a w hat => ⟨_, _, hat.b 7, (HN4_7.out.below hat.st.2.2.2.1.out)⟩, ?_⟩
    refine ⟨fun a w hat K hK => ?_, ?_⟩
    ·obtain ⟨a159, c159, e159, n159⟩ := (show (Kd.sl (TA)).ok F b cap (a.tmps[159]?.getD undef) w from hat.d 46 159)
     obtain ⟨a160, c160, e160, n160⟩ := (show (Kd.sl (TA)).ok F b cap (a.tmps[160]?.getD undef) w from hat.d 47 160)
     have hSt := hat.st
     rw [if_pos (wy hat 43 156 false)]
     go_simp
     go_at_call 14
     with_reducible refine (ints_po HPA.out HPA.out HEQ10_48.out (by decide) (by decide) n159 n160).mono ?_
     rintro z' v' ⟨rfl, hb⟩
     exact hK.out _ _ (SL.keep hSt hb) hb rfl
    refine ⟨fun a w hat K hK => ?_, ?_⟩
    ·have e161 : a.tmps[161]?.getD undef = .bool true := hat.d 48 161
     have hSt := hat.st
     rw [if_pos (wy hat 43 156 false)]
     go_simp
     exact hK.out _ _ hSt (Below.refl _ _) rfl
    refine ⟨fun a w hat K hK => ?_, ?_⟩
    ·have e156 : a.tmps[156]?.getD undef = .bool false := hat.d 43 156
     have e162 : a.tmps[162]?.getD undef = .bool false := hat.d 49 162
     have hSt := hat.st
     rw [if_pos (by rfl)]
     go_simp
     exact hK.out _ _ hSt (Below.refl _ _) rfl
    exact trivial
   intro a w5 hsz hdf hbase hSt hval
   obtain ⟨t, df⟩ := a
   have et := Go.Rg.tmps_of hsz [113, 114, 115, 116, 117, 118, 119, 120, 121, 122, 123, 124, 125, 126, 127, 128, 129, 130, 131, 132, 133, 134, 135, 136, 137, 138, 139, 140, 141, 142, 143, 144, 145, 146, 147, 148, 149, 150, 151, 152, 153, 154, 155, 156, 157, 158, 159, 160, 161, 162, 163] (fun k hk => hbase k (Go.Rg.base_of (by kernel_rfl) hk))
   have x163 : t.getD 163 undef = .bool false := hval 50 163 (by kernel_rfl)
   clear hval hbase hsz
   simp only [List.foldl_cons, List.foldl_nil, x163] at et
   rw [et]
   have hdf' : df = _ := hdf
   rw [hdf']
   simp only [List.setIfInBounds_toArray, List.set_cons_zero, List.set_cons_succ]
   clear et hdf hdf'
   have HN5_7 := Lib.hid (HN4_7.out.below hSt.2.2.2.1.out)
   have HN5_8 := Lib.hid (HN4_8.out.below hSt.2.2.2.1.out)
   have HN5_9 := Lib.hid (HN4_9.out.below hSt.2.2.2.1.out)
   have HN5_11 := Lib.hid (HN4_11.out.below hSt.2.2.2.1.out)
   have HN5_12 := Lib.hid (HN4_12.out.below hSt.2.2.2.1.out)
   have HS10 := Lib.hid hSt.start
   clear hSt
   go_upto_region 12 with (fail)
   have hS0 := HS10.out.drew
   refine Go.Rg.region_by (S := fun w' => SL W w5 gF F b cap (.int .u8 (q : Nat)) (.slice aA A.length cA) (.slice aB B.length cB) (.slice aC C.length cC) w') (R := fun w w' => Below w.heap.size w w') (φ := phi F b cap [.eq (FV F b cap), .sl (TA), .eq (.int .i64 (v : Nat)), .eq (.int .i64 (ev F v TA : Nat)), .eq (FV F b cap), .sl (TB), .eq (.int .i64 (v : Nat)), .eq (.int .i64 (ev F v TB : Nat)), .eq (.int .i64 (ev F v TA : Nat)), .eq (.int .i64 (ev F v TB : Nat))]) (by kernel_rfl) (phi_mono _) (by kernel_rfl) (by kernel_rfl) (by rfl) (hS0) (Go.Rg.steps_ok ?st9) ?fi9
   case st9 =>
    refine ⟨fun a w hat K hK => ?_, ?_⟩
    ·have e6 : a.tmps[6]?.getD undef = .pointer (some ⟨gF, 0, none⟩) := hat.b 6
     have hSt := hat.st
     rw [if_pos (by rfl)]
     go_simp
     exact hK.out _ _ hSt (Below.refl _ _) rfl
    refine ⟨mv fun a w hat => ⟨_, _, hat.b 7, (HN5_7.out.below hat.st.2.2.2.1.out)⟩, ?_⟩
    refine ⟨mv fun a w hat => hat.b 10, ?_⟩
    refine ⟨fun a w hat K hK => ?_, ?_⟩
    ·have e164 : a.tmps[164]?.getD undef = FV F b cap := hat.d 0 164
     obtain ⟨a165, c165, e165, n165⟩ := (show (Kd.sl (TA)).ok F b cap (a.tmps[165]?.getD undef) w from hat.d 1 165)
     have e166 : a.tmps[166]?.getD undef = .int .i64 (v : Nat) := hat.d 2 166
     have hSt := hat.st
     rw [if_pos (by rfl)]
     go_simp
     go_at_call 27
     with_reducible refine (eval_po (hSt.2.2.2.2.1.out.ops) HPA.out (by decide) HVQ.out n165).mono ?_
     rintro z' v' ⟨rfl, hb⟩
     exact hK.out _ _ (SL.keep hSt hb) hb rfl
    refine ⟨fun a w hat K hK => ?_, ?_⟩
    ·have e6 : a.tmps[6]?.getD undef = .pointer (some ⟨gF, 0, none⟩) := hat.b 6
     have hSt := hat.st
     rw [if_pos (by rfl)]
     go_simp
     exact hK.out _ _ hSt (Below.refl _ _) rfl
    refine ⟨mv fun a w hat => ⟨_, _, hat.b 8, (HN5_8.out.below hat.st.2.2.2.1.out)⟩, ?_⟩
    refine ⟨mv fun a w hat => hat.b 10, ?_⟩
    refine ⟨fun a w hat K hK => ?_, ?_⟩
    ·have e168 : a.tmps[168]?.getD undef = FV F b cap := hat.d 4 168
     obtain ⟨a169, c169, e169, n169⟩ := (show (Kd.sl (TB)).ok F b cap (a.tmps[169]?.getD undef) w from hat.d 5 169)
     have e170 : a.tmps[170]?.getD undef = .int .i64 (v : Nat) := hat.d 6 170
     have hSt := hat.st
     rw [if_pos (by rfl)]
     go_simp
     go_at_call 27
     with_reducible refine (eval_po (hSt.2.2.2.2.1.out.ops) HPB.out (by decide) HVQ.out n169).mono ?_
     rintro z' v' ⟨rfl, hb⟩
     exact hK.out _ _ (SL.keep hSt hb) hb rfl
    refine ⟨mv fun a w hat => hat.d 3 167, ?_⟩
    refine ⟨mv fun a w hat => hat.d 7 171, ?_⟩
    exact trivial
   intro a w6 hsz hdf hbase hSt hval
   obtain ⟨t, df⟩ := a
   have et := Go.Rg.tmps_of hsz [164, 165, 166, 167, 168, 169, 170, 171, 13, 14] (fun k hk => hbase k (Go.Rg.base_of (by kernel_rfl) hk))
   have x13 : t.getD 13 undef = .int .i64 (ev F v TA : Nat) := hval 8 13 (by kernel_rfl)
   have x14 : t.getD 14 undef = .int .i64 (ev F v TB : Nat) := hval 9 14 (by kernel_rfl)
   clear hval hbase hsz
   simp only [List.foldl_cons, List.foldl_nil, x13, x14] at et
   rw [et]
   have hdf' : df = _ := hdf
   rw [hdf']
   simp only [List.setIfInBounds_toArray, List.set_cons_zero, List.set_cons_succ]
   clear et hdf hdf'
   have HN6_7 := Lib.hid (HN5_7.out.below hSt.2.2.2.1.out)
   have HN6_8 := Lib.hid (HN5_8.out.below hSt.2.2.2.1.out)
   have HN6_9 := Lib.hid (HN5_9.out.below hSt.2.2.2.1.out)
   have HN6_11 := Lib.hid (HN5_11.out.below hSt.2.2.2.1.out)
   have HN6_12 := Lib.hid (HN5_12.out.below hSt.2.2.2.1.out)
   have HS12 := Lib.hid hSt.start
   clear hSt
   go_upto_region 13 with (fail)
   have hS0 := HS12.out.drew
   have HEV1 : Hid (ev F v (addP F TA TB) = F.add (ev F v TA) (ev F v TB)) := Lib.hid (ev_addP HFF.out HVQ.out HPA.out.1.el HPB.out.1.el)
   have HEV2 : Hid (ev F v (mulP F TA TB) = F.mul (ev F v TA) (ev F v TB)) := Lib.hid (ev_mulP HFF.out HVQ.out HPA.out.1.el HPB.out.1.el)
   have HVA : Hid (ev F v TA < F.q) := Lib.hid (ev_lt HFF.out v TA)
   have HVB : Hid (ev F v TB < F.q) := Lib.hid (ev_lt HFF.out v TB)
   refine Go.Rg.region_by (S := fun w' => SL W w6 gF F b cap (.int .u8 (q : Nat)) (.slice aA A.length cA) (.slice aB B.length cB) (.slice aC C.length cC) w') (R := fun w w' => Below w.heap.size w w') (φ := phi F b cap [.eq (FV F b cap), .sl (addP F TA TB), .eq (.int .i64 (v : Nat)), .eq (.int .i64 (F.add (ev F v TA) (ev F v TB) : Nat)), .eq (FV F b cap), .eq (.int .i64 (ev F v TA : Nat)), .eq (.int .i64 (ev F v TB : Nat)), .eq (.int .i64 (F.add (ev F v TA) (ev F v TB) : Nat)), .eq (.bool true), .eq (.bool true), .eq (FV F b cap), .sl (mulP F TA TB), .eq (.int .i64 (v : Nat)), .eq (.int .i64 (F.mul (ev F v TA) (ev F v TB) : Nat)), .eq (FV F b cap), .eq (.int .i64 (ev F v TA : Nat)), .eq (.int .i64 (ev F v TB : Nat)), .eq (.int .i64 (F.mul (ev F v TA) (ev F v TB) : Nat)), .eq (.bool true), .eq (.bool true), .eq (.bool true), .eq (.bool true), .eq (.bool true), .eq (.bool true)]) (by kernel_rfl) (phi_mono _) (by kernel_rfl) (by kernel_rfl) (by rfl) (hS0) (Go.Rg.steps_ok ?st10) ?fi10
   case st10 =>
    refine ⟨fun a w hat K hK => ?_, ?_⟩
    ·have e6 : a.tmps[6]?.getD undef = .pointer (some ⟨gF, 0, none⟩) := hat.b 6
     have hSt := hat.st
     rw [if_pos (by rfl)]
     go_simp
     exact hK.out _ _ hSt (Below.refl _ _) rfl
    refine ⟨mv fun a w hat => ⟨_, _, hat.b 11, (HN6_11.out.below hat.st.2.2.2.1.out)⟩, ?_⟩
    refine ⟨mv fun a w hat => hat.b 10, ?_⟩
    refine ⟨fun a w hat K hK => ?_, ?_⟩
    ·have e172 : a.tmps[172]?.getD undef = FV F b cap := hat.d 0 172
     obtain ⟨a173, c173, e173, n173⟩ := (show (Kd.sl (addP F TA TB)).ok F b cap (a.tmps[173]?.getD undef) w from hat.d 1 173)
     have e174 : a.tmps[174]?.getD undef = .int .i64 (v : Nat) := hat.d 2 174
     have hSt := hat.st
     rw [if_pos (by rfl)]
     go_simp
     go_at_call 27
     with_reducible refine (eval_po (hSt.2.2.2.2.1.out.ops) HP_1.out (by decide) HVQ.out n173).mono ?_
     rintro z' v' ⟨rfl, hb⟩
     rw [HEV1.out]
     exact hK.out _ _ (SL.keep hSt hb) hb rfl
    refine ⟨fun a w hat K hK => ?_, ?_⟩
    ·have e6 : a.tmps[6]?.getD undef = .pointer (some ⟨gF, 0, none⟩) := hat.b 6
     have hSt := hat.st
     rw [if_pos (by rfl)]
     go_simp
     exact hK.out _ _ hSt (Below.refl _ _) rfl
    refine ⟨mv fun a w hat => hat.b 13, ?_⟩
    refine ⟨mv fun a w hat => hat.b 14, ?_⟩
    refine ⟨fun a w hat K hK => ?_, ?_⟩
    ·have e176 : a.tmps[176]?.getD undef = FV F b cap := hat.d 4 176
     have e177 : a.tmps[177]?.getD undef = .int .i64 (ev F v TA : Nat) := hat.d 5 177
     have e178 : a.tmps[178]?.getD undef = .int .i64 (ev F v TB : Nat) := hat.d 6 178
     have hSt := hat.st
     rw [if_pos (by rfl)]
     go_simp
     go_at_call 33
     with_reducible refine (radd_c HVA.out HVB.out hSt.2.2.2.2.1.out).mono ?_
     rintro z' v' ⟨rfl, hb⟩
     exact hK.out _ _ (SL.keep hSt hb) hb rfl
    refine ⟨fun a w hat K hK => ?_, ?_⟩
    ·have e175 : a.tmps[175]?.getD undef = .int .i64 (F.add (ev F v TA) (ev F v TB) : Nat) := hat.d 3 175
     have e179 : a.tmps[179]?.getD undef = .int .i64 (F.add (ev F v TA) (ev F v TB) : Nat) := hat.d 7 179
     have hSt := hat.st
     rw [if_pos (by rfl)]
     go_simp
     exact hK.out _ _ hSt (Below.refl _ _) rfl
    refine ⟨mv fun a w hat => hat.d 8 180, ?_⟩
    refine ⟨fun a w hat K hK => ?_, ?_⟩
    ·have e6 : a.tmps[6]?.getD undef = .pointer (some ⟨gF, 0, none⟩) := hat.b 6
     have hSt := hat.st
     rw [if_pos (wy hat 9 181 true)]
     go_simp
     exact hK.out _ _ hSt (Below.refl _ _) rfl
    refine ⟨mvg 9 181 true fun a w hat => ⟨_, _, hat.b 12, (HN6_12.out.below hat.st.2.2.2.1.out)⟩, ?_⟩
    refine ⟨mvg 9 181 true fun a w hat => hat.b 10, ?_⟩
    refine ⟨fun a w hat K hK => ?_, ?_⟩
    ·have e182 : a.tmps[182]?.getD undef = FV F b cap := hat.d 10 182
     obtain ⟨a183, c183, e183, n183⟩ := (show (Kd.sl (mulP F TA TB)).ok F b cap (a.tmps[183]?.getD undef) w from hat.d 11 183)
     have e184 : a.tmps[184]?.getD undef = .int .i64 (v : Nat) := hat.d 12 184
     have hSt := hat.st
     rw [if_pos (wy hat 9 181 true)]
     go_simp
     go_at_call 27
     with_reducible refine (eval_po (hSt.2.2.2.2.1.out.ops) HP_2.out (by decide) HVQ.out n183).mono ?_
     rintro z' v' ⟨rfl, hb⟩
     rw [HEV2.out]
     exact hK.out _ _ (SL.keep hSt hb) hb rfl
    refine ⟨fun a w hat K hK => ?_, ?_⟩
    ·have e6 : a.tmps[6]?.getD undef = .pointer (some ⟨gF, 0, none⟩) := hat.b 6
     have hSt := hat.st
     rw [if_pos (wy hat 9 181 true)]
     go_simp
     exact hK.out _ _ hSt (Below.refl _ _) rfl
    refine ⟨mvg 9 181 true fun a w hat => hat.b 13, ?_⟩
    refine ⟨mvg 9 181 true fun a w hat => hat.b 14, ?_⟩
    refine ⟨fun a w hat K hK => ?_, ?_⟩
    ·have e186 : a.tmps[186]?.getD undef = FV F b cap := hat.d 14 186
     have e187 : a.tmps[187]?.getD undef = .int .i64 (ev F v TA : Nat) := hat.d 15 187
     have e188 : a.tmps[188]?.getD undef = .int .i64 (ev F v TB : Nat) := hat.d 16 188
     have hSt := hat.st
     rw [if_pos (wy hat 9 181 true)]
     go_simp
     go_at_call 34
     with_reducible refine (rmul_c HVA.out HVB.out hSt.2.2.2.2.1.out).mono ?_
     rintro z' v' ⟨rfl, hb⟩
     exact hK.out _ _ (SL.keep hSt hb) hb rfl
    refine ⟨fun a w hat K hK => ?_, ?_⟩
    ·have e185 : a.tmps[185]?.getD undef = .int .i64 (F.mul (ev F v TA) (ev F v TB) : Nat) := hat.d 13 185
     have e189 : a.tmps[189]?.getD undef = .int .i64 (F.mul (ev F v TA) (ev F v TB) : Nat) := hat.d 17 189
     have hSt := hat.st
     rw [if_pos (wy hat 9 181 true)]
     go_simp
     exact hK.out _ _ hSt (Below.refl _ _) rfl
    refine ⟨fun a w hat K hK => ?_, ?_⟩
    ·have e181 : a.tmps[181]?.getD undef = .bool true := hat.d 9 181
     have e190 : a.tmps[190]?.getD undef = .bool true := hat.d 18 190
     have hSt := hat.st
     rw [if_pos (by rfl)]
     go_simp
     exact hK.out _ _ hSt (Below.refl _ _) rfl
    refine ⟨mv fun a w hat => hat.d 19 191, ?_⟩
    refine ⟨mvg 20 192 true fun a w hat => hat.b 5, ?_⟩
    refine ⟨fun a w hat K hK => ?_, ?_⟩
    ·have e192 : a.tmps[192]?.getD undef = .bool true := hat.d 20 192
     have e193 : a.tmps[193]?.getD undef = .bool true := hat.d 21 193
     have hSt := hat.st
     rw [if_pos (by rfl)]
     go_simp
     exact hK.out _ _ hSt (Below.refl _ _) rfl
    refine ⟨mv fun a w hat => hat.d 22 194, ?_⟩
    exact trivial
   intro a w7 hsz hdf hbase hSt hval
   obtain ⟨t, df⟩ := a
   have et := Go.Rg.tmps_of hsz [172, 173, 174, 175, 176, 177, 178, 179, 180, 181, 182, 183, 184, 185, 186, 187, 188, 189, 190, 191, 192, 193, 194, 4] (fun k hk => hbase k (Go.Rg.base_of (by kernel_rfl) hk))
   have x4 : t.getD 4 undef = .bool true := hval 23 4 (by kernel_rfl)
   clear hval hbase hsz
   simp only [List.foldl_cons, List.foldl_nil, x4] at et
   rw [et]
   have hdf' : df = _ := hdf
   rw [hdf']
   simp only [List.setIfInBounds_toArray, List.set_cons_zero, List.set_cons_succ]
   clear et hdf hdf'
   have HN7_7 := Lib.hid (HN6_7.out.below hSt.2.2.2.1.out)
   have HN7_8 := Lib.hid (HN6_8.out.below hSt.2.2.2.1.out)
   have HN7_9 := Lib.hid (HN6_9.out.below hSt.2.2.2.1.out)
   have HN7_11 := Lib.hid (HN6_11.out.below hSt.2.2.2.1.out)
   have HN7_12 := Lib.hid (HN6_12.out.below hSt.2.2.2.1.out)
   have HBF := Lib.hid hSt.2.2.1.out
   clear hSt hS0
   go_wp2
   go_ret
   exact ⟨rfl, HBF.out⟩
  ·have hlA : 0 < TA.length := List.length_pos_iff.2 hA0
   have hzA : (0 : Int) < (TA.length : Int) := by omega
   have hyA : ((TA.length : Int) == 0) = false := by simp; exact hA0
   have hwA : ¬ TA.length = 0 := by omega
   have hlB : 0 < TB.length := List.length_pos_iff.2 hB0
   have hzB : (0 : Int) < (TB.length : Int) := by omega
   have hyB : ((TB.length : Int) == 0) = false := by simp; exact hB0
   have hwB : ¬ TB.length = 0 := by omega
   have hlen := mulP_len HFF.out HPA.out.1 HPB.out.1 hA0 hB0
   have hla : TA.length ≤ 10 := HPA.out.2
   have hlb : TB.length ≤ 10 := HPB.out.2
   have hw1 : IntKind.i64.wrap ((TA.length : Int) + (TB.length : Int)) = (TA.length : Int) + (TB.length : Int) := IntWalk.i64_in _ (by omega)
   have hw2 : IntKind.i64.wrap ((TA.length : Int) + (TB.length : Int) - 1) = (TA.length : Int) + (TB.length : Int) - 1 := IntWalk.i64_in _ (by omega)
   have hd : (((mulP F TA TB).length : Int) != (TA.length : Int) + (TB.length : Int) - 1) = false := by simp; omega
   have HLEN := Lib.hid hlen
   have HA0 := Lib.hid hA0
   have HB0 := Lib.hid hB0
   clear hA0 hB0 hlen
   have HEQ10_40 : Hid (mulP F TA [1] = TA) := Lib.hid (mulP_one HFF.out HPA.out.1)
   have HEQ10_48 : Hid (TA = TA) := Lib.hid (rfl)
   refine Go.Rg.region_seq (S := fun w' => SL W w4 gF F b cap (.int .u8 (q : Nat)) (.slice aA A.length cA) (.slice aB B.length cB) (.slice aC C.length cC) w') (R := fun w w' => Below w.heap.size w w') (φ := phi F b cap [.sl (TA), .eq (.int .i64 ((TA).length : Nat)), .eq (.bool true), .eq (.bool true), .sl (TB), .eq (.int .i64 ((TB).length : Nat)), .eq (.bool true), .eq (.bool true), .eq (.bool true), .sl (mulP F TA TB), .eq (.int .i64 ((mulP F TA TB).length : Nat)), .sl (TA), .eq (.int .i64 ((TA).length : Nat)), .sl (TB), .eq (.int .i64 ((TB).length : Nat)), .eq (.int .i64 ((TA.length : Int) + (TB.length : Int))), .eq (.int .i64 ((TA.length : Int) + (TB.length : Int) - 1)), .eq (.bool false), .eq (.bool false), .eq (.bool false), .sl (TA), .eq (.int .i64 ((TA).length : Nat)), .eq (.bool false), .eq (.bool false), .sl (TB), .eq (.int .i64 ((TB).length : Nat)), .eq (.bool false), .eq (.bool false), .eq (.bool false), .any, .any, .any, .eq (.bool false), .eq (.bool false), .eq (.bool false), .eq (FV F b cap), .sl (TA), .sl ([1]), .sl (mulP F TA [1]), .sl (TA), .eq (.bool true), .eq (.bool false), .eq (.bool false), .eq (.bool false), .eq (FV F b cap), .sl (TA), .sl (TA), .sl (TA), .eq (.bool true), .eq (.bool false), .eq (.bool false)]) (phi_mono _) (by kernel_rfl) (by kernel_rfl) (by rfl) (HS8.out) ?st11 ?fi11
   case st11 =>
    refine ⟨mv fun a w hat => ⟨_, _, hat.b 7, (HN4_7.out.below hat.st.2.2.2.1.out)⟩, ?_⟩
    refine ⟨fun a w hat K hK => ?_, ?_⟩
    ·obtain ⟨a113, c113, e113, n113⟩ := (show (Kd.sl (TA)).ok F b cap (a.tmps[113]?.getD undef) w from hat.d 0 113)
     have hSt := hat.st
     rw [if_pos (by rfl)]
     go_simp
     exact hK.out _ _ hSt (Below.refl _ _) rfl
    refine ⟨fun a w hat K hK => ?_, ?_⟩
    ·have e114 : a.tmps[114]?.getD undef = .int .i64 ((TA).length : Nat) := hat.d 1 114
     have hSt := hat.st
     rw [if_pos (by rfl)]
     go_simp
     exact hK.out _ _ hSt (Below.refl _ _) rfl
    refine ⟨mv fun a w hat => hat.d 2 115, ?_⟩
    refine ⟨mvg 3 116 true fun a w hat => ⟨_, _, hat.b 8, (HN4_8.out.below hat.st.2.2.2.1.out)⟩, ?_⟩
    refine ⟨fun a w hat K hK => ?_, ?_⟩
    ·obtain ⟨a117, c117, e117, n117⟩ := (show (Kd.sl (TB)).ok F b cap (a.tmps[117]?.getD undef) w from hat.d 4 117)
     have hSt := hat.st
     rw [if_pos (wy hat 3 116 true)]
     go_simp
     exact hK.out _ _ hSt (Below.refl _ _) rfl
    refine ⟨fun a w hat K hK => ?_, ?_⟩
    ·have e118 : a.tmps[118]?.getD undef = .int .i64 ((TB).length : Nat) := hat.d 5 118
     have hSt := hat.st
     rw [if_pos (wy hat 3 116 true)]
     go_simp
     exact hK.out _ _ hSt (Below.refl _ _) rfl
    refine ⟨fun a w hat K hK => ?_, ?_⟩
    ·have e116 : a.tmps[116]?.getD undef = .bool true := hat.d 3 116
     have e119 : a.tmps[119]?.getD undef = .bool true := hat.d 6 119
     have hSt := hat.st
     rw [if_pos (by rfl)]
     go_simp
     exact hK.out _ _ hSt (Below.refl _ _) rfl
    refine ⟨mv fun a w hat => hat.d 7 120, ?_⟩
    refine ⟨mvg 8 121 true fun a w hat => ⟨_, _, hat.b 12, (HN4_12.out.below hat.st.2.2.2.1.out)⟩, ?_⟩
    refine ⟨fun a w hat K hK => ?_, ?_⟩
    ·obtain ⟨a122, c122, e122, n122⟩ := (show (Kd.sl (mulP F TA TB)).ok F b cap (a.tmps[122]?.getD undef) w from hat.d 9 122)
     have hSt := hat.st
     rw [if_pos (wy hat 8 121 true)]
     go_simp
     exact hK.out _ _ hSt (Below.refl _ _) rfl
    refine ⟨mvg 8 121 true fun a w hat => ⟨_, _, hat.b 7, (HN4_7.out.below hat.st.2.2.2.1.out)⟩, ?_⟩
    refine ⟨fun a w hat K hK => ?_, ?_⟩
    ·obtain ⟨a124, c124, e124, n124⟩ := (show (Kd.sl (TA)).ok F b cap (a.tmps[124]?.getD undef) w from hat.d 11 124)
     have hSt := hat.st
     rw [if_pos (wy hat 8 121 true)]
     go_simp
     exact hK.out _ _ hSt (Below.refl _ _) rfl
    refine ⟨mvg 8 121 true fun a w hat => ⟨_, _, hat.b 8, (HN4_8.out.below hat.st.2.2.2.1.out)⟩, ?_⟩
    refine ⟨fun a w hat K hK => ?_, ?_⟩
    ·obtain ⟨a126, c126, e126, n126⟩ := (show (Kd.sl (TB)).ok F b cap (a.tmps[126]?.getD undef) w from hat.d 13 126)
     have hSt := hat.st
     rw [if_pos (wy hat 8 121 true)]
     go_simp
     exact hK.out _ _ hSt (Below.refl _ _) rfl
    refine ⟨fun a w hat K hK => ?_, ?_⟩
    ·have e125 : a.tmps[125]?.getD undef = .int .i64 ((TA).length : Nat) := hat.d 12 125
     have e127 : a.tmps[127]?.getD undef = .int .i64 ((TB).length : Nat) := hat.d 14 127
     have hSt := hat.st
     rw [if_pos (wy hat 8 121 true)]
     go_simp
     exact hK.out _ _ hSt (Below.refl _ _) rfl
    refine ⟨fun a w hat K hK => ?_, ?_⟩
    ·have e128 : a.tmps[128]?.getD undef = .int .i64 ((TA.length : Int) + (TB.length : Int)) := hat.d 15 128
     have hSt := hat.st
     rw [if_pos (wy hat 8 121 true)]
     go_simp
     exact hK.out _ _ hSt (Below.refl _ _) rfl
    refine ⟨fun a w hat K hK => ?_, ?_⟩
    ·have e123 : a.tmps[123]?.getD undef = .int .i64 ((mulP F TA TB).length : Nat) := hat.d 10 123
     have e129 : a.tmps[129]?.getD undef = .int .i64 ((TA.length : Int) + (TB.length : Int) - 1) := hat.d 16 129
     have hSt := hat.st
     rw [if_pos (wy hat 8 121 true)]
     go_simp
     exact hK.out _ _ hSt (Below.refl _ _) rfl
    refine ⟨fun a w hat K hK => ?_, ?_⟩
    ·have e121 : a.tmps[121]?.getD undef = .bool true := hat.d 8 121
     have e130 : a.tmps[130]?.getD undef = .bool false := hat.d 17 130
     have hSt := hat.st
     rw [if_pos (by rfl)]
     go_simp
     exact hK.out _ _ hSt (Below.refl _ _) rfl
    refine ⟨mv fun a w hat => hat.d 18 131, ?_⟩
    refine ⟨mvg 19 132 false fun a w hat => ⟨_, _, hat.b 7, (HN4_7.out.below hat.st.2.2.2.1.out)⟩, ?_⟩
    refine ⟨fun a w hat K hK => ?_, ?_⟩
    ·obtain ⟨a133, c133, e133, n133⟩ := (show (Kd.sl (TA)).ok F b cap (a.tmps[133]?.getD undef) w from hat.d 20 133)
     have hSt := hat.st
     rw [if_pos (wy hat 19 132 false)]
     go_simp
     exact hK.out _ _ hSt (Below.refl _ _) rfl
    refine ⟨fun a w hat K hK => ?_, ?_⟩
    ·have e134 : a.tmps[134]?.getD undef = .int .i64 ((TA).length : Nat) := hat.d 21 134
     have hSt := hat.st
     rw [if_pos (wy hat 19 132 false)]
     go_simp
     exact hK.out _ _ hSt (Below.refl _ _) rfl
    refine ⟨mvg 19 132 false fun a w hat => hat.d 22 135, ?_⟩
    refine ⟨mvg 23 136 false fun a w hat => ⟨_, _, hat.b 8, (HN4_8.out.below hat.st.2.2.2.1.out)⟩, ?_⟩
    refine ⟨fun a w hat K hK => ?_, ?_⟩
    ·obtain ⟨a137, c137, e137, n137⟩ := (show (Kd.sl (TB)).ok F b cap (a.tmps[137]?.getD undef) w from hat.d 24 137)
     have hSt := hat.st
     rw [if_pos (wy hat 23 136 false)]
     go_simp
     exact hK.out _ _ hSt (Below.refl _ _) rfl
    refine ⟨fun a w hat K hK => ?_, ?_⟩
    ·have e138 : a.tmps[138]?.getD undef = .int .i64 ((TB).length : Nat) := hat.d 25 138
     have hSt := hat.st
     rw [if_pos (wy hat 23 136 false)]
     go_simp
     exact hK.out _ _ hSt (Below.refl _ _) rfl
    refine ⟨fun a w hat K hK => ?_, ?_⟩
    ·have e136 : a.tmps[136]?.getD undef = .bool false := hat.d 23 136
     have e139 : a.tmps[139]?.getD undef = .bool false := hat.d 26 139
     have hSt := hat.st
     rw [if_pos (wy hat 19 132 false)]
     go_simp
     exact hK.out _ _ hSt (Below.refl _ _) rfl
    refine ⟨mvg 19 132 false fun a w hat => hat.d 27 140, ?_⟩
    refine ⟨no 28 141 false, ?_⟩
    refine ⟨no 28 141 false, ?_⟩
    refine ⟨no 28 141 false, ?_⟩
    refine ⟨fun a w hat K hK => ?_, ?_⟩
    ·have e141 : a.tmps[141]?.getD undef = .bool false := hat.d 28 141
     have hSt := hat.st
     rw [if_pos (wy hat 19 132 false)]
     go_simp
     exact hK.out _ _ hSt (Below.refl _ _) rfl
    refine ⟨fun a w hat K hK => ?_, ?_⟩
    ·have e132 : a.tmps[132]?.getD undef = .bool false := hat.d 19 132
     have e145 : a.tmps[145]?.getD undef = .bool false := hat.d 32 145
     have hSt := hat.st
     rw [if_pos (by rfl)]
     go_simp
     exact hK.out _ _ hSt (Below.refl _ _) rfl
    refine ⟨mv fun a w hat => hat.d 33 146, ?_⟩
    refine ⟨fun a w hat K hK => ?_, ?_⟩
    ·have e6 : a.tmps[6]?.getD undef = .pointer (some ⟨gF, 0, none⟩) := hat.b 6
     have hSt := hat.st
     rw [if_pos (wy hat 34 147 false)]
     go_simp
     exact hK.out _ _ hSt (Below.refl _ _) rfl
    refine ⟨mvg 34 147 false fun a w hat => ⟨_, _, hat.b 7, (HN4_7.out.below hat.st.2.2.2.1.out)⟩, ?_⟩
    refine ⟨fun a w hat K hK => ?_, ?_⟩
    ·have hSt := hat.st
     rw [if_pos (wy hat 34 147 false)]
     go_simp
     have hb := (Below.refl w.heap.size w).alloc (Nat.le_refl _) (.cells #[.int .i64 1] 3)
     exact hK.out _ _ (SL.keep hSt hb) hb ⟨_, _, rfl, nn_one (x := 1)⟩
    refine ⟨fun a w hat K hK => ?_, ?_⟩
    ·have e148 : a.tmps[148]?.getD undef = FV F b cap := hat.d 35 148
     obtain ⟨a149, c149, e149, n149⟩ := (show (Kd.sl (TA)).ok F b cap (a.tmps[149]?.getD undef) w from hat.d 36 149)
     obtain ⟨a150, c150, e150, n150⟩ := (show (Kd.sl ([1])).ok F b cap (a.tmps[150]?.getD undef) w from hat.d 37 150)
     have hSt := hat.st
     rw [if_pos (wy hat 34 147 false)]
     have n150' : NN [1] w (.slice a150 1 c150) := n150
     go_simp
     go_at_call 23
     with_reducible refine (pmul_c1 (hSt.2.2.2.2.1.out.ops) HPA.out HP1.out (by decide) n149 n150').mono ?_
     rintro z' v' ⟨a', c', rfl, hn', hb⟩
     exact hK.out _ _ (SL.keep hSt hb) hb ⟨a', c', rfl, hn'⟩
    refine ⟨mvg 34 147 false fun a w hat => ⟨_, _, hat.b 7, (HN4_7.out.below hat.st.2.2.2.1.out)⟩, ?_⟩
    refine ⟨fun a w hat K hK => ?_, ?_⟩
    ·obtain ⟨a151, c151, e151, n151⟩ := (show (Kd.sl (mulP F TA [1])).ok F b cap (a.tmps[151]?.getD undef) w from hat.d 38 151)
     obtain ⟨a152, c152, e152, n152⟩ := (show (Kd.sl (TA)).ok F b cap (a.tmps[152]?.getD undef) w from hat.d 39 152)
     have hSt := hat.st
     rw [if_pos (wy hat 34 147 false)]
     go_simp
     go_at_call 14
     with_reducible refine (ints_po HPM1.out HPA.out HEQ10_40.out (by decide) (by decide) n151 n152).mono ?_
     rintro z' v' ⟨rfl, hb⟩
     exact hK.out _ _ (SL.keep hSt hb) hb rfl
    refine ⟨fun a w hat K hK => ?_, ?_⟩
    ·have e153 : a.tmps[153]?.getD undef = .bool true := hat.d 40 153
     have hSt := hat.st
     rw [if_pos (wy hat 34 147 false)]
     go_simp
     exact hK.out _ _ hSt (Below.refl _ _) rfl
    refine ⟨fun a w hat K hK => ?_, ?_⟩
    ·have e147 : a.tmps[147]?.getD undef = .bool false := hat.d 34 147
     have e154 : a.tmps[154]?.getD undef = .bool false := hat.d 41 154
     have hSt := hat.st
     rw [if_pos (by rfl)]
     go_simp
     exact hK.out _ _ hSt (Below.refl _ _) rfl
    refine ⟨mv fun a w hat => hat.d 42 155, ?_⟩
    refine ⟨fun a w hat K hK => ?_, ?_⟩
    ·have e6 : a.tmps[6]?.getD undef = .pointer (some ⟨gF, 0, none⟩) := hat.b 6
     have hSt := hat.st
     rw [if_pos (wy hat 43 156 false)]
     go_simp
     exact hK.out _ _ hSt (Below.refl _ _) rfl
    refine ⟨mvg 43 156 false fun a w hat => ⟨_, _, hat.b 7, (HN4_7.out.below hat.st.2.2.2.1.out)⟩, ?_⟩
    refine ⟨fun a w hat K hK => ?_, ?_⟩
    ·have e157 : a.tmps[157]?.getD undef = FV F b cap := hat.d 44 157
     obtain ⟨a158, c158, e158, n158⟩ := (show (Kd.sl (TA)).ok F b cap (a.tmps[158]?.getD undef) w from hat.d 45 158)
     have hSt := hat.st
     rw [if_pos (wy hat 43 156 false)]
     go_simp
     go_at_call 21
     with_reducible refine (padd_nil (hSt.2.2.2.2.1.out.ops) HPA.out (by decide) n158).mono ?_
     rintro z' v' ⟨a', c', rfl, hn', hb⟩
     exact hK.out _ _ (SL.keep hSt hb) hb ⟨a', c', rfl, hn'⟩
    refine ⟨mvg 43 156 false fun a w hat => ⟨_, _, hat.b 7, (HN4_7.out.below hat.st.2.2.2.1.out)⟩, ?_⟩
    refine ⟨fun a w hat K hK => ?_, ?_⟩
    ·obtain ⟨a159, c159, e159, n159⟩ := (show (Kd.sl (TA)).ok F b cap (a.tmps[159]?.getD undef) w from hat.d 46 159)
     obtain ⟨a160, c160, e160, n160⟩ := (show (Kd.sl (TA)).ok F b cap (a.tmps[160]?.getD undef) w from hat.d 47 160)
     have hSt := hat.st
     rw [if_pos (wy hat 43 156 false)]
     go_simp
     go_at_call 14
     with_reducible refine (ints_po HPA.out HPA.out HEQ10_48.out (by decide) (by decide) n159 n160).mono ?_
     rintro z' v' ⟨rfl, hb⟩
     exact hK.out _ _ (SL.keep hSt hb) hb rfl
    refine ⟨fun a w hat K hK => ?_, ?_⟩
    ·have e161 : a.tmps[161]?.getD undef = .bool true := hat.d 48 161
     have hSt := hat.st
     rw [if_pos (wy hat 43 156 false)]
     go_simp
     exact hK.out _ _ hSt (Below.refl _ _) rfl
    refine ⟨fun a w hat K hK => ?_, ?_⟩
    ·have e156 : a.tmps[156]?.getD undef = .bool false := hat.d 43 156
     have e162 : a.tmps[162]?.getD undef = .bool false := hat.d 49 162
     have hSt := hat.st
     rw [if_pos (by rfl)]
     go_simp
     exact hK.out _ _ hSt (Below.refl _ _) rfl
    exact trivial
   intro a w5 hsz hdf hbase hSt hval
   obtain ⟨t, df⟩ := a
   have et := Go.Rg.tmps_of hsz [113, 114, 115, 116, 117, 118, 119, 120, 121, 122, 123, 124, 125, 126, 127, 128, 129, 130, 131, 132, 133, 134, 135, 136, 137, 138, 139, 140, 141, 142, 143, 144, 145, 146, 147, 148, 149, 150, 151, 152, 153, 154, 155, 156, 157, 158, 159, 160, 161, 162, 163] (fun k hk => hbase k (Go.Rg.base_of (by kernel_rfl) hk))
   have x163 : t.getD 163 undef = .bool false := hval 50 163 (by kernel_rfl)
   clear hval hbase hsz
   simp only [List.foldl_cons, List.foldl_nil, x163] at et
   rw [et]
   have hdf' : df = _ := hdf
   rw [hdf']
   simp only [List.setIfInBounds_toArray, List.set_cons_zero, List.set_cons_succ]
   clear et hdf hdf'
   have HN5_7 := Lib.hid (HN4_7.out.below hSt.2.2.2.1.out)
   have HN5_8 := Lib.hid (HN4_8.out.below hSt.2.2.2.1.out)
   have HN5_9 := Lib.hid (HN4_9.out.below hSt.2.2.2.1.out)
   have HN5_11 := Lib.hid (HN4_11.out.below hSt.2.2.2.1.out)
   have HN5_12 := Lib.hid (HN4_12.out.below hSt.2.2.2.1.out)
   have HS10 := Lib.hid hSt.start
   clear hSt
   go_upto_region 12 with (fail)
   have hS0 := HS10.out.drew
   refine Go.Rg.region_by (S := fun w' => SL W w5 gF F b cap (.int .u8 (q : Nat)) (.slice aA A.length cA) (.slice aB B.length cB) (.slice aC C.length cC) w') (R := fun w w' => Below w.heap.size w w') (φ := phi F b cap [.eq (FV F b cap), .sl (TA), .eq (.int .i64 (v : Nat)), .eq (.int .i64 (ev F v TA : Nat)), .eq (FV F b cap), .sl (TB), .eq (.int .i64 (v : Nat)), .eq (.int .i64 (ev F v TB : Nat)), .eq (.int .i64 (ev F v TA : Nat)), .eq (.int .i64 (ev F v TB : Nat))]) (by kernel_rfl) (phi_mono _) (by kernel_rfl) (by kernel_rfl) (by rfl) (hS0) (Go.Rg.steps_ok ?st12) ?fi12
   case st12 =>
    refine ⟨fun a w hat K hK => ?_, ?_⟩
    ·have e6 : a.tmps[6]?.getD undef = .pointer (some ⟨gF, 0, none⟩) := hat.b 6
     have hSt := hat.st
     rw [if_pos (by rfl)]
     go_simp
     exact hK.out _ _ hSt (Below.refl _ _) rfl
    refine ⟨mv fun a w hat => ⟨_, _, hat.b 7, (HN5_7.out.below hat.st.2.2.2.1.out)⟩, ?_⟩
    refine ⟨mv fun a w hat => hat.b 10, ?_⟩
    refine ⟨fun a w hat K hK => ?_, ?_⟩
    ·have e164 : a.tmps[164]?.getD undef = FV F b cap := hat.d 0 164
     obtain ⟨a165, c165, e165, n165⟩ := (show (Kd.sl (TA)).ok F b cap (a.tmps[165]?.getD undef) w from hat.d 1 165)
     have e166 : a.tmps[166]?.getD undef = .int .i64 (v : Nat) := hat.d 2 166
     have hSt := hat.st
     rw [if_pos (by rfl)]
     go_simp
     go_at_call 27
     with_reducible refine (eval_po (hSt.2.2.2.2.1.out.ops) HPA.out (by decide) HVQ.out n165).mono ?_
     rintro z' v' ⟨rfl, hb⟩
     exact hK.out _ _ (SL.keep hSt hb) hb rfl
    refine ⟨fun a w hat K hK => ?_, ?_⟩
    ·have e6 : a.tmps[6]?.getD undef = .pointer (some ⟨gF, 0, none⟩) := hat.b 6
     have hSt := hat.st
     rw [if_pos (by rfl)]
     go_simp
     exact hK.out _ _ hSt (Below.refl _ _) rfl
    refine ⟨mv fun a w hat => ⟨_, _, hat.b 8, (HN5_8.out.below hat.st.2.2.2.1.out)⟩, ?_⟩
    refine ⟨mv fun a w hat => hat.b 10, ?_⟩
    refine ⟨fun a w hat K hK => ?_, ?_⟩
    ·have e168 : a.tmps[168]?.getD undef = FV F b cap := hat.d 4 168
     obtain ⟨a169, c169, e169, n169⟩ := (show (Kd.sl (TB)).ok F b cap (a.tmps[169]?.getD undef) w from hat.d 5 169)
     have e170 : a.tmps[170]?.getD undef = .int .i64 (v : Nat) := hat.d 6 170
     have hSt := hat.st
     rw [if_pos (by rfl)]
     go_simp
     go_at_call 27
     with_reducible refine (eval_po (hSt.2.2.2.2.1.out.ops) HPB.out (by decide) HVQ.out n169).mono ?_
     rintro z' v' ⟨rfl, hb⟩
     exact hK.out _ _ (SL.keep hSt hb) hb rfl
    refine ⟨mv fun a w hat => hat.d 3 167, ?_⟩
    refine ⟨mv fun a w hat => hat.d 7 171, ?_⟩
    exact trivial
   intro a w6 hsz hdf hbase hSt hval
   obtain ⟨t, df⟩ := a
   have et := Go.Rg.tmps_of hsz [164, 165, 166, 167, 168, 169, 170, 171, 13, 14] (fun k hk => hbase k (Go.Rg.base_of (by kernel_rfl) hk))
   have x13 : t.getD 13 undef = .int .i64 (ev F v TA : Nat) := hval 8 13 (by kernel_rfl)
   have x14 : t.getD 14 undef = .int .i64 (ev F v TB : Nat) := hval 9 14 (by kernel_rfl)
   clear hval hbase hsz
   simp only [List.foldl_cons, List.foldl_nil, x13, x14] at et
   rw [et]
   have hdf' : df = _ := hdf
   rw [hdf']
   simp only [List.setIfInBounds_toArray, List.set_cons_zero, List.set_cons_succ]
   clear et hdf hdf'
   have HN6_7 := Lib.hid (HN5_7.out.below hSt.2.2.2.1.out)
   have HN6_8 := Lib.hid (HN5_8.out.below hSt.2.2.2.1.out)
   have HN6_9 := Lib.hid (HN5_9.out.below hSt.2.2.2.1.out)
   have HN6_11 := Lib.hid (HN5_11.out.below hSt.2.2.2.1.out)
   have HN6_12 := Lib.hid (HN5_12.out.below hSt.2.2.2.1.out)
   have HS12 := Lib.hid hSt.start
   clear hSt
   go_upto_region 13 with (fail)
   have hS0 := HS12.out.drew
   have HEV1 : Hid (ev F v (addP F TA TB) = F.add (ev F v TA) (ev F v TB)) := Lib.hid (ev_addP HFF.out HVQ.out HPA.out.1.el HPB.out.1.el)
   have HEV2 : Hid (ev F v (mulP F TA TB) = F.mul (ev F v TA) (ev F v TB)) := Lib.hid (ev_mulP HFF.out HVQ.out HPA.out.1.el HPB.out.1.el)
   have HVA : Hid (ev F v TA < F.q) := Lib.hid (ev_lt HFF.out v TA)
   have HVB : Hid (ev F v TB < F.q) := Lib.hid (ev_lt HFF.out v TB)
   refine Go.Rg.region_by (S := fun w' => SL W w6 gF F b cap (.int .u8 (q : Nat)) (.slice aA A.length cA) (.slice aB B.length cB) (.slice aC C.length cC) w') (R := fun w w' => Below w.heap.size w w') (φ := phi F b cap [.eq (FV F b cap), .sl (addP F TA TB), .eq (.int .i64 (v : Nat)), .eq (.int .i64 (F.add (ev F v TA) (ev F v TB) : Nat)), .eq (FV F b cap), .eq (.int .i64 (ev F v TA : Nat)), .eq (.int .i64 (ev F v TB : Nat)), .eq (.int .i64 (F.add (ev F v TA) (ev F v TB) : Nat)), .eq (.bool true), .eq (.bool true), .eq (FV F b cap), .sl (mulP F TA TB), .eq (.int .i64 (v : Nat)), .eq (.int .i64 (F.mul (ev F v TA) (ev F v TB) : Nat)), .eq (FV F b cap), .eq (.int .i64 (ev F v TA : Nat)), .eq (.int .i64 (ev F v TB : Nat)), .eq (.int .i64 (F.mul (ev F v TA) (ev F v TB) : Nat)), .eq (.bool true), .eq (.bool true), .eq (.bool true), .eq (.bool true), .eq (.bool true), .eq (.bool true)]) (by kernel_rfl) (phi_mono _) (by kernel_rfl) (by kernel_rfl) (by rfl) (hS0) (Go.Rg.steps_ok ?st13) ?fi13
   case st13 =>
    refine ⟨fun a w hat K hK => ?_, ?_⟩
    ·have e6 : a.tmps[6]?.getD undef = .pointer (some ⟨gF, 0, none⟩) := hat.b 6
     have hSt := hat.st
     rw [if_pos (by rfl)]
     go_simp
     exact hK.out _ _ hSt (Below.refl _ _) rfl
    refine ⟨mv fun a w hat => ⟨_, _, hat.b 11, (HN6_11.out.below hat.st.2.2.2.1.out)⟩, ?_⟩
    refine ⟨mv fun a w hat => hat.b 10, ?_⟩
    refine ⟨fun a w hat K hK => ?_, ?_⟩
    ·have e172 : a.tmps[172]?.getD undef = FV F b cap := hat.d 0 172
     obtain ⟨a173, c173, e173, n173⟩ := (show (Kd.sl (addP F TA TB)).ok F b cap (a.tmps[173]?.getD undef) w from hat.d 1 173)
     have e174 : a.tmps[174]?.getD undef = .int .i64 (v : Nat) := hat.d 2 174
     have hSt := hat.st
     rw [if_pos (by rfl)]
     go_simp
     go_at_call 27
     with_reducible refine (eval_po (hSt.2.2.2.2.1.out.ops) HP_1.out (by decide) HVQ.out n173).mono ?_
     rintro z' v' ⟨rfl, hb⟩
     rw [HEV1.out]
     exact hK.out _ _ (SL.keep hSt hb) hb rfl
    refine ⟨fun a w hat K hK => ?_, ?_⟩
    ·have e6 : a.tmps[6]?.getD undef = .pointer (some ⟨gF, 0, none⟩) := hat.b 6
     have hSt := hat.st
     rw [if_pos (by rfl)]
     go_simp
     exact hK.out _ _ hSt (Below.refl _ _) rfl
    refine ⟨mv fun a w hat => hat.b 13, ?_⟩
    refine ⟨mv fun a w hat => hat.b 14, ?_⟩
    refine ⟨fun a w hat K hK => ?_, ?_⟩
    ·have e176 : a.tmps[176]?.getD undef = FV F b cap := hat.d 4 176
     have e177 : a.tmps[177]?.getD undef = .int .i64 (ev F v TA : Nat) := hat.d 5 177
     have e178 : a.tmps[178]?.getD undef = .int .i64 (ev F v TB : Nat) := hat.d 6 178
     have hSt := hat.st
     rw [if_pos (by rfl)]
     go_simp
     go_at_call 33
     with_reducible refine (radd_c HVA.out HVB.out hSt.2.2.2.2.1.out).mono ?_
     rintro z' v' ⟨rfl, hb⟩
     exact hK.out _ _ (SL.keep hSt hb) hb rfl
    refine ⟨fun a w hat K hK => ?_, ?_⟩
    ·have e175 : a.tmps[175]?.getD undef = .int .i64 (F.add (ev F v TA) (ev F v TB) : Nat) := hat.d 3 175
     have e179 : a.tmps[179]?.getD undef = .int .i64 (F.add (ev F v TA) (ev F v TB) : Nat) := hat.d 7 179
     have hSt := hat.st
     rw [if_pos (by rfl)]
     go_simp
     exact hK.out _ _ hSt (Below.refl _ _) rfl
    refine ⟨mv fun a w hat => hat.d 8 180, ?_⟩
    refine ⟨fun a w hat K hK => ?_, ?_⟩
    ·have e6 : a.tmps[6]?.getD undef = .pointer (some ⟨gF, 0, none⟩) := hat.b 6
     have hSt := hat.st
     rw [if_pos (wy hat 9 181 true)]
     go_simp
     exact hK.out _ _ hSt (Below.refl _ _) rfl
    refine ⟨mvg 9 181 true fun a w hat => ⟨_, _, hat.b 12, (HN6_12.out.below hat.st.2.2.2.1.out)⟩, ?_⟩
    refine ⟨mvg 9 181 true fun a w hat => hat.b 10, ?_⟩
    refine ⟨fun a w hat K hK => ?_, ?_⟩
    ·have e182 : a.tmps[182]?.getD undef = FV F b cap := hat.d 10 182
     obtain ⟨a183, c183, e183, n183⟩ := (show (Kd.sl (mulP F TA TB)).ok F b cap (a.tmps[183]?.getD undef) w from hat.d 11 183)
     have e184 : a.tmps[184]?.getD undef = .int .i64 (v : Nat) := hat.d 12 184
     have hSt := hat.st
     rw [if_pos (wy hat 9 181 true)]
     go_simp
     go_at_call 27
     with_reducible refine (eval_po (hSt.2.2.2.2.1.out.ops) HP_2.out (by decide) HVQ.out n183).mono ?_
     rintro z' v' ⟨rfl, hb⟩
     rw [HEV2.out]
     exact hK.out _ _ (SL.keep hSt hb) hb rfl
    refine ⟨fun a w hat K hK => ?_, ?_⟩
    ·have e6 : a.tmps[6]?.getD undef = .pointer (some ⟨gF, 0, none⟩) := hat.b 6
     have hSt := hat.st
     rw [if_pos (wy hat 9 181 true)]
     go_simp
     exact hK.out _ _ hSt (Below.refl _ _) rfl
    refine ⟨mvg 9 181 true fun a w hat => hat.b 13, ?_⟩
    refine ⟨mvg 9 181 true fun a w hat => hat.b 14, ?_⟩
    refine ⟨fun a w hat K hK => ?_, ?_⟩
    ·have e186 : a.tmps[186]?.getD undef = FV F b cap := hat.d 14 186
     have e187 : a.tmps[187]?.getD undef = .int .i64 (ev F v TA : Nat) := hat.d 15 187
     have e188 : a.tmps[188]?.getD undef = .int .i64 (ev F v TB : Nat) := hat.d 16 188
     have hSt := hat.st
     rw [if_pos (wy hat 9 181 true)]
     go_simp
     go_at_call 34
     with_reducible refine (rmul_c HVA.out HVB.out hSt.2.2.2.2.1.out).mono ?_
     rintro z' v' ⟨rfl, hb⟩
     exact hK.out _ _ (SL.keep hSt hb) hb rfl
    refine ⟨fun a w hat K hK => ?_, ?_⟩
    ·have e185 : a.tmps[185]?.getD undef = .int .i64 (F.mul (ev F v TA) (ev F v TB) : Nat) := hat.d 13 185
     have e189 : a.tmps[189]?.getD undef = .int .i64 (F.mul (ev F v TA) (ev F v TB) : Nat) := hat.d 17 189
     have hSt := hat.st
     rw [if_pos (wy hat 9 181 true)]
     go_simp
     exact hK.out _ _ hSt (Below.refl _ _) rfl
    refine ⟨fun a w hat K hK => ?_, ?_⟩
    ·have e181 : a.tmps[181]?.getD undef = .bool true := hat.d 9 181
     have e190 : a.tmps[190]?.getD undef = .bool true := hat.d 18 190
     have hSt := hat.st
     rw [if_pos (by rfl)]
     go_simp
     exact hK.out _ _ hSt (Below.refl _ _) rfl
    refine ⟨mv fun a w hat => hat.d 19 191, ?_⟩
    refine ⟨mvg 20 192 true fun a w hat => hat.b 5, ?_⟩
    refine ⟨fun a w hat K hK => ?_, ?_⟩
    ·have e192 : a.tmps[192]?.getD undef = .bool true := hat.d 20 192
     have e193 : a.tmps[193]?.getD undef = .bool true := hat.d 21 193
     have hSt := hat.st
     rw [if_pos (by rfl)]
     go_simp
     exact hK.out _ _ hSt (Below.refl _ _) rfl
    refine ⟨mv fun a w hat => hat.d 22 194, ?_⟩
    exact trivial
   intro a w7 hsz hdf hbase hSt hval
   obtain ⟨t, df⟩ := a
   have et := Go.Rg.tmps_of hsz [172, 173, 174, 175, 176, 177, 178, 179, 180, 181, 182, 183, 184, 185, 186, 187, 188, 189, 190, 191, 192, 193, 194, 4] (fun k hk => hbase k (Go.Rg.base_of (by kernel_rfl) hk))
   have x4 : t.getD 4 undef = .bool true := hval 23 4 (by kernel_rfl)
   clear hval hbase hsz
   simp only [List.foldl_cons, List.foldl_nil, x4] at et
   rw [et]
   have hdf' : df = _ := hdf
   rw [hdf']
   simp only [List.setIfInBounds_toArray, List.set_cons_zero, List.set_cons_succ]
   clear et hdf hdf'
   have HN7_7 := Lib.hid (HN6_7.out.below hSt.2.2.2.1.out)
   have HN7_8 := Lib.hid (HN6_8.out.below hSt.2.2.2.1.out)
   have HN7_9 := Lib.hid (HN6_9.out.below hSt.2.2.2.1.out)
   have HN7_11 := Lib.hid (HN6_11.out.below hSt.2.2.2.1.out)
   have HN7_12 := Lib.hid (HN6_12.out.below hSt.2.2.2.1.out)
   have HBF := Lib.hid hSt.2.2.1.out
   clear hSt hS0
   go_wp2
   go_ret
   exact ⟨rfl, HBF.out⟩
end Go.Proofs.Ytllecfhfhcmpaaa
