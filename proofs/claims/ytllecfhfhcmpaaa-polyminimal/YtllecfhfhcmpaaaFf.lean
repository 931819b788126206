/- PolyMinimal: the walk. -/
import Derived.Test.YtllecfhfhcmpaaaLp
import Derived.Test.YtllecfhfhcmpaaaEvYv
import Derived.Test.YtllecfhfhcmpaaaRows
namespace Go.Proofs.Ytllecfhfhcmpaaa
open Go.RowKit Go.Fl Go.Rg
set_option maxRecDepth 100000
set_option linter.unusedVariables false
set_option linter.unusedSimpArgs false
set_option linter.unusedSectionVars false

theorem trL_mem : ∀ {l : List Nat} {x : Nat}, x ∈ trL l → x ∈ l
 | [], x, h => by cases h
 | c :: l, x, h => by
  unfold trL at h
  split at h
  ·cases h
  ·rcases List.mem_cons.1 h with rfl | h
   ·exact List.mem_cons_self
   ·exact List.mem_cons_of_mem _ (trL_mem h)
/-- the first k numbers modulo m -/
def modTo (m : Nat) (L : List Nat) (k : Nat) : List Nat := (L.take k).map (· % m) ++ L.drop k
theorem modTo_len (m : Nat) (L : List Nat) (k : Nat) : (modTo m L k).length = L.length := by unfold modTo; simp; omega
theorem modTo_at {m : Nat} {L : List Nat} {k : Nat} (hk : k < L.length) : (modTo m L k).getD k 0 = L.getD k 0 := by
 unfold modTo
 rw [List.getD_eq_getElem?_getD, List.getD_eq_getElem?_getD, List.getElem?_append_right (by simp; omega)]
 simp [Nat.min_eq_left (Nat.le_of_lt hk)]
theorem modTo_set {m : Nat} {L : List Nat} {k : Nat} (hk : k < L.length) : (modTo m L k).set k (L.getD k 0 % m) = modTo m L (k + 1) := by
 unfold modTo
 have e : ((L.take k).map (· % m)).length = k := by simp; omega
 rw [List.set_append_right _ _ (by rw [e]; exact Nat.le_refl _), e, Nat.sub_self, List.drop_eq_getElem_cons hk, List.set_cons_zero, List.take_add_one, List.getElem?_eq_getElem hk, show L.getD k 0 = L[k] by simp [List.getD, hk]]
 simp only [Option.toList_some, List.map_append, List.map_cons, List.map_nil, List.append_assoc, List.cons_append, List.nil_append]
set_option maxHeartbeats 25600000 in
theorem minimal_law {q y : Nat} {A B C : List Nat} {aA aB aC : Option Addr} {cA cB cC : Nat} {W : World} (hq : q ≤ 255) (hy : y ≤ 255) (hA : By A) (hB : By B) (hC : By C) (lA : A.length ≤ maxLen) (lB : B.length ≤ maxLen) (lC : C.length ≤ maxLen)
  (na : N8 A W (.slice aA A.length cA)) (nb : N8 B W (.slice aB B.length cB)) (nc : N8 C W (.slice aC C.length cC)) :
  Calls Try.prog 9 #[.agg #[.int .u8 (q : Nat), .slice aA A.length cA, .slice aB B.length cB, .slice aC C.length cC], .int .u8 (y : Nat)] W fun e w' => e = .returned (.bool true) ∧ Below W.heap.size W w' := by
 have HQ := Lib.hid hq
 have HEX := Lib.hid examples_c
 have HOF := Lib.hid (fun w => of01_c q hq w)
 have HB0 : Hid (Below W.heap.size W (W.alloc (.cells #[.int .u8 (q : Nat), .slice aA A.length cA, .slice aB B.length cB, .slice aC C.length cC] 24))) := Lib.hid ((Below.refl _ _).alloc (Nat.le_refl _) _)
 have HL0 : Hid (LB W.heap.size (.int .u8 (q : Nat)) (.slice aA A.length cA) (.slice aB B.length cB) (.slice aC C.length cC) (W.alloc (.cells #[.int .u8 (q : Nat), .slice aA A.length cA, .slice aB B.length cB, .slice aC C.length cC] 24))) := Lib.hid ⟨World.cell?_alloc_at _ _ _ _ rfl, World.cell?_alloc_at _ _ _ _ rfl, World.cell?_alloc_at _ _ _ _ rfl, World.cell?_alloc_at _ _ _ _ rfl⟩
 have HZ0 : Hid (W.heap.size < (W.alloc (.cells #[.int .u8 (q : Nat), .slice aA A.length cA, .slice aB B.length cB, .slice aC C.length cC] 24)).heap.size) := Lib.hid (by simp)
 obtain ⟨i0, hi, hz0, hz1, hz2⟩ := info_parts info3
 clear hq
 go_enter Try.func9, Try.ntmps9
 go_wp2_with fail
 with_reducible refine (HEX.out _).mono ?_
 rintro z w1 ⟨rfl, hb1⟩
 have HB1 := Lib.hid (HB0.out.trans (hb1.mono HB0.out.size))
 have HL1 := Lib.hid (HL0.out.keep hb1 HZ0.out)
 have HZ1 : Hid (W.heap.size < w1.heap.size) := Lib.hid (Nat.lt_of_lt_of_le HZ0.out hb1.size)
 clear hb1 HB0 HL0 HZ0
 have hL1 := HL1.out
 obtain ⟨l0, l1, l2, l3⟩ := hL1
 go_wp2_with fail
 with_reducible refine (HOF.out _).mono ?_
 generalize fdOfByte q = F
 rintro z w2 ⟨b, cap, rfl, hfd, hb2⟩
 have HMEM := Lib.hid hfd.mem
 have HFF : Hid (Ok F) := Lib.hid (ok_mem hfd.mem)
 have HFR : Hid (FrOk F) := Lib.hid (fr_ok hfd.mem)
 have HSS : Hid (SL W (w2.alloc (.cells #[.int .i64 F.p, .int .i64 F.e, FM F b cap] 28)) w2.heap.size F b cap (.int .u8 (q : Nat)) (.slice aA A.length cA) (.slice aB B.length cB) (.slice aC C.length cC) (w2.alloc (.cells #[.int .i64 F.p, .int .i64 F.e, FM F b cap] 28))) := Lib.hid (by
  have ha : Below w2.heap.size w2 (w2.alloc (.cells #[.int .i64 F.p, .int .i64 F.e, FM F b cap] 28)) := (Below.refl _ _).alloc (Nat.le_refl _) _
  have hz := HZ1.out
  have hs := hb2.size
  exact ⟨⟨World.cell?_alloc_at _ _ _ _ rfl, World.cell?_alloc_at _ _ _ _ rfl, World.cell?_alloc_at _ _ _ _ rfl⟩, (HL1.out.keep hb2 (by omega)).keep ha (by omega), Lib.hid ((HB1.out.trans (hb2.mono HB1.out.size)).trans (ha.mono (by omega))), Lib.hid (Below.refl _ _), Lib.hid (hfd.below ha), Lib.hid (by simp; omega)⟩)
 clear hfd hb2 HB1 HL1 HZ1 HOF l0 l1 l2 l3
 obtain ⟨gF, hgF⟩ : ∃ gF, gF = w2.heap.size := ⟨_, rfl⟩
 rw [← hgF] at HSS
 have HGF := Lib.hid hgF
 clear hgF
 go_upto_region 5 with (fail)
 rw [← HGF.out]
 generalize (w2.alloc (.cells #[.int .i64 F.p, .int .i64 F.e, FM F b cap] 28)) = w0 at *
 clear HGF
 have NA := Lib.hid na
 have hq1 : 1 < F.q := HFF.out.one_lt
 have hq64 : F.q ≤ 64 := HFF.out.q64
 have hqz : ¬ F.q = 0 := by omega
 obtain ⟨v, hv⟩ : ∃ v, Hid (y % F.q = v) := ⟨_, rfl⟩
 have HVQ : Hid (v < F.q) := Lib.hid (by rw [← hv.out]; exact Nat.mod_lt _ HFF.out.zero_lt)
 have hmod : ((y : Int)).tmod (F.q : Int) = (v : Int) := by rw [← hv.out, Int.tmod_eq_emod_of_nonneg (by omega)]; rfl
 have hmod2 : (y : Int) % (F.q : Int) = (v : Int) := by rw [← hv.out]; rfl
 have hwx : IntKind.i64.wrap (y : Int) = (y : Int) := IntWalk.i64_in _ (by omega)
 obtain ⟨LA, hLA⟩ : ∃ l, Hid (ofL F A 8 = l) := ⟨_, rfl⟩
 have HIA : Hid (In F LA ∧ LA.length ≤ 8) := Lib.hid (by rw [← hLA.out]; exact ⟨ofL_in HFF.out A 8, ofL_len F A 8⟩)
 have HCA : Hid (∀ w, Below W.heap.size W w → Calls Try.prog 13 #[FV F b cap, .slice aA A.length cA, .int .i64 8] w (OwnPost LA w)) := Lib.hid (fun w hw => by rw [← hLA.out]; exact of04_own HFF.out hA rfl lA (by decide) (NA.out.below hw))
 have hp2 := HFF.out.p2
 have hp64 := (ok_small HFF.out).1
 have he1 := HFF.out.e1
 have he6 := (ok_small HFF.out).2
 have HMO : Hid (MinOk F v) := Lib.hid (min_ok HMEM.out HVQ.out)
 letI : OkC F := ⟨HFF.out⟩
 obtain ⟨M, HM⟩ : ∃ l, Hid (minL F v = l) := ⟨_, Lib.hid rfl⟩
 obtain ⟨pb, HPB⟩ : ∃ x, Hid (F.pow v F.p = x) := ⟨_, Lib.hid rfl⟩
 have HPBQ : Hid (pb < F.q) := Lib.hid (by rw [← HPB.out]; exact HFF.out.pow_lt v F.p)
 have HMC : Hid (∀ w, FldAt F b cap w → Calls Try.prog 31 #[FV F b cap, .int .i64 (v : Nat)] w (SlPost M w)) := Lib.hid (fun w hw => by rw [← HM.out]; exact minimal_c ⟨v, HVQ.out⟩ hw)
 have HMC2 : Hid (∀ w, FldAt F b cap w → Calls Try.prog 31 #[FV F b cap, .int .i64 (pb : Nat)] w (SlPost M w)) := Lib.hid (fun w hw => by rw [← HM.out, ← HMO.out.next, HPB.out]; exact minimal_c ⟨pb, HPBQ.out⟩ hw)
 obtain ⟨d, HD⟩ : ∃ d, Hid ((conjL F v).length = d) := ⟨_, Lib.hid rfl⟩
 have HD1 : Hid (0 < d ∧ d ≤ 6) := Lib.hid ⟨by rw [← HD.out]; exact List.length_pos_of_mem (conj_head HFF.out HFR.out), by
  have h := conjF_len (⟨v, HVQ.out⟩ : El F) F.e ⟨v, HVQ.out⟩
  have h2 := congrArg List.length (conjF_map (⟨v, HVQ.out⟩ : El F) F.e ⟨v, HVQ.out⟩)
  rw [List.length_map] at h2
  rw [← HD.out]
  show (conjTo F v F.e v).length ≤ 6
  have h3 : (conjTo F v F.e v).length ≤ F.e := by rw [← h2]; exact h
  omega⟩
 have hd1 : 0 < d := HD1.out.1
 have hd6 : d ≤ 6 := HD1.out.2
 have HML : Hid (M.length = d + 1) := Lib.hid (by rw [← HM.out, ← HD.out]; exact HMO.out.len)
 have HPM : Hid (PL F 8 M) := Lib.hid ⟨by
  rw [← HM.out]
  exact (lin_ok HFF.out (conjL F v) [1] ⟨In.cons HFF.out.one_lt In.nil, by simp [Cn]⟩).1, by rw [HML.out]; omega⟩
 have HM0 : Hid (M ≠ []) := Lib.hid (fun e => by have := HML.out; rw [e] at this; simp at this)
 have HTOP : Hid (M.getD d 0 = 1) := Lib.hid (by rw [← HM.out, ← HD.out]; exact HMO.out.top)
 have HLOW : Hid (∀ k, k < M.length → M.getD k 0 < F.p) := Lib.hid (fun k hk => by
  rw [List.getD_eq_getElem?_getD, List.getElem?_eq_getElem hk]
  exact HMO.out.low _ (by rw [HM.out]; exact List.getElem_mem hk))
 have HDV : Hid (F.e % d = 0) := Lib.hid (by rw [← HD.out]; exact HMO.out.dvd)
 have HZR : Hid (ev F v M = 0) := Lib.hid (by rw [← HM.out]; exact HMO.out.zero v (conj_head HFF.out HFR.out))
 clear na nb nc hA hB hC lA lB lC
 refine Go.Rg.region_seq (S := fun w' => SL W w0 gF F b cap (.int .u8 (q : Nat)) (.slice aA A.length cA) (.slice aB B.length cB) (.slice aC C.length cC) w') (R := fun w w' => Below w.heap.size w w') (φ := phi F b cap [.eq (.int .u8 (y : Nat)), .eq (.int .i64 (y : Nat)), .eq (FV F b cap), .eq (.int .i64 (F.q : Nat)), .eq (.int .i64 (v : Nat)), .eq (.int .i64 (v : Nat))]) (phi_mono _) (by kernel_rfl) (by kernel_rfl) (by rfl) (HSS.out) ?st1 ?fi1
 case st1 =>
  refine ⟨mv fun a w hat => hat.b 1, ?_⟩
  refine ⟨fun a w hat K hK => ?_, ?_⟩
  ·have e26 : a.tmps[26]?.getD undef = .int .u8 (y : Nat) := hat.d 0 26
   have hSt := hat.st
   rw [if_pos (by rfl)]
   go_simp
   exact hK.out _ _ hSt (Below.refl _ _) rfl
  refine ⟨fun a w hat K hK => ?_, ?_⟩
  ·have e6 : a.tmps[6]?.getD undef = .pointer (some ⟨gF, 0, none⟩) := hat.b 6
   have hSt := hat.st
   rw [if_pos (by rfl)]
   go_simp
   exact hK.out _ _ hSt (Below.refl _ _) rfl
  refine ⟨fun a w hat K hK => ?_, ?_⟩
  ·have e28 : a.tmps[28]?.getD undef = FV F b cap := hat.d 2 28
   have hSt := hat.st
   rw [if_pos (by rfl)]
   go_simp
   go_at_call 12
   with_reducible refine (size_c HFF.out b cap w).mono ?_
   rintro z' v' ⟨rfl, hb⟩
   exact hK.out _ _ (SL.keep hSt hb) hb rfl
  refine ⟨fun a w hat K hK => ?_, ?_⟩
  ·have e27 : a.tmps[27]?.getD undef = .int .i64 (y : Nat) := hat.d 1 27
   have e29 : a.tmps[29]?.getD undef = .int .i64 (F.q : Nat) := hat.d 3 29
   have hSt := hat.st
   rw [if_pos (by rfl)]
   go_simp
   exact hK.out _ _ hSt (Below.refl _ _) rfl
  refine ⟨mv fun a w hat => hat.d 4 30, ?_⟩
  exact trivial
 intro a w1 hsz hdf hbase hSt hval
 obtain ⟨t, df⟩ := a
 have et := Go.Rg.tmps_of hsz [26, 27, 28, 29, 30, 7] (fun k hk => hbase k (Go.Rg.base_of (by kernel_rfl) hk))
 have x7 : t.getD 7 undef = .int .i64 (v : Nat) := hval 5 7 (by kernel_rfl)
 clear hval hbase hsz
 simp only [List.foldl_cons, List.foldl_nil, x7] at et
 rw [et]
 have hdf' : df = _ := hdf
 rw [hdf']
 simp only [List.setIfInBounds_toArray, List.set_cons_zero, List.set_cons_succ]
 clear et hdf hdf'
 generalize t.getD 26 undef = j26
 generalize t.getD 27 undef = j27
 generalize t.getD 28 undef = j28
 generalize t.getD 29 undef = j29
 generalize t.getD 30 undef = j30
 have HS5 := Lib.hid hSt.start
 clear hSt
 go_upto_region 6 with (fail)
 refine Go.Rg.region_seq (S := fun w' => SL W w1 gF F b cap (.int .u8 (q : Nat)) (.slice aA A.length cA) (.slice aB B.length cB) (.slice aC C.length cC) w') (R := fun w w' => Below w.heap.size w w') (φ := phi F b cap [.eq (FV F b cap), .eq (.int .i64 (v : Nat)), .sl (M), .sl (M)]) (phi_mono _) (by kernel_rfl) (by kernel_rfl) (by rfl) (HS5.out) ?st2 ?fi2
 case st2 =>
  refine ⟨fun a w hat K hK => ?_, ?_⟩
  ·have e6 : a.tmps[6]?.getD undef = .pointer (some ⟨gF, 0, none⟩) := hat.b 6
   have hSt := hat.st
   rw [if_pos (by rfl)]
   go_simp
   exact hK.out _ _ hSt (Below.refl _ _) rfl
  refine ⟨mv fun a w hat => hat.b 7, ?_⟩
  refine ⟨fun a w hat K hK => ?_, ?_⟩
  ·have e31 : a.tmps[31]?.getD undef = FV F b cap := hat.d 0 31
   have e32 : a.tmps[32]?.getD undef = .int .i64 (v : Nat) := hat.d 1 32
   have hSt := hat.st
   rw [if_pos (by rfl)]
   go_simp
   go_at_call 31
   with_reducible refine (HMC.out _ hSt.2.2.2.2.1.out).mono ?_
   rintro z' v' ⟨a', c', rfl, hn', hb⟩
   exact hK.out _ _ (SL.keep hSt hb) hb ⟨a', c', rfl, hn'⟩
  refine ⟨mv fun a w hat => hat.d 2 33, ?_⟩
  exact trivial
 intro a w2 hsz hdf hbase hSt hval
 obtain ⟨t, df⟩ := a
 have et := Go.Rg.tmps_of hsz [31, 32, 33, 8] (fun k hk => hbase k (Go.Rg.base_of (by kernel_rfl) hk))
 obtain ⟨p8, q8, x8, m8⟩ := (show (Kd.sl (M)).ok F b cap (t.getD 8 undef) w2 from hval 3 8 (by kernel_rfl))
 clear hval hbase hsz
 simp only [List.foldl_cons, List.foldl_nil, x8] at et
 rw [et]
 have hdf' : df = _ := hdf
 rw [hdf']
 simp only [List.setIfInBounds_toArray, List.set_cons_zero, List.set_cons_succ]
 clear et hdf hdf'
 have HN2_8 := Lib.hid m8
 clear m8
 generalize t.getD 31 undef = j31
 generalize t.getD 32 undef = j32
 generalize t.getD 33 undef = j33
 have HS6 := Lib.hid hSt.start
 clear hSt
 obtain ⟨bM, oM, hpM, HBM, HCM⟩ : ∃ bM oM, p8 = some ⟨bM, oM, none⟩ ∧ Hid (bM < w2.heap.size) ∧ Hid (∀ t, t < M.length → w2.cell? ⟨bM, oM + t, none⟩ = some (.int .i64 (M.getD t 0 : Nat))) := by
  have hml := HML.out
  rcases HN2_8.out with ⟨e, -⟩ | ⟨b', off', cap', e, g1, g2, g3⟩
  ·rw [e] at hml; simp at hml
  ·injection e with e1 e2 e3
   exact ⟨b', off', e1, Lib.hid g2, Lib.hid g3⟩
 subst hpM
 have hml2 : ¬ (M.length : Int) < 2 := by have := HML.out; omega
 have hml3 : ¬ M.length < 2 := by have := HML.out; omega
 have hwd : IntKind.i64.wrap ((M.length : Int) - 1) = (d : Int) := (IntWalk.i64_in _ (by have := HML.out; omega)).trans (by have := HML.out; omega)
 have hdl : (d : Int) < (M.length : Int) := by have := HML.out; omega
 have hdl2 : d < M.length := by have := HML.out; omega
 have hedm : ((F.e : Int)).tmod (d : Int) = 0 := by rw [Int.tmod_eq_emod_of_nonneg (by omega)]; exact Int.ofNat_inj.2 HDV.out
 have hedm2 : (F.e : Int) % (d : Int) = 0 := Int.ofNat_inj.2 HDV.out
 have hdz : ¬ d = 0 := by omega
 have HC1 : Hid (w2.cell? ⟨bM, oM + d, none⟩ = some (.int .i64 1)) := Lib.hid (by rw [HCM.out d hdl2, HTOP.out]; rfl)
 have hyE : (((ev F v M : Nat) : Int) != 0) = false := by rw [HZR.out]; rfl
 go_upto_region 7 with (fail)
 refine Go.Rg.region_seq (S := fun w' => SL W w2 gF F b cap (.int .u8 (q : Nat)) (.slice aA A.length cA) (.slice aB B.length cB) (.slice aC C.length cC) w') (R := fun w w' => Below w.heap.size w w') (φ := phi F b cap [.eq (.slice (some ⟨bM, oM, none⟩) M.length q8), .eq (.int .i64 ((M).length : Nat)), .eq (.bool false), .eq (.bool false), .eq (.slice (some ⟨bM, oM, none⟩) M.length q8), .eq (.slice (some ⟨bM, oM, none⟩) M.length q8), .eq (.int .i64 ((M).length : Nat)), .eq (.int .i64 (d : Nat)), .eq (.pointer (some ⟨bM, oM + d, none⟩)), .eq (.int .i64 1), .eq (.bool false), .eq (.bool false), .eq (.bool false), .eq (.pointer (some ⟨gF, 1, none⟩)), .eq (.int .i64 (F.e : Nat)), .eq (.slice (some ⟨bM, oM, none⟩) M.length q8), .eq (.int .i64 ((M).length : Nat)), .eq (.int .i64 (d : Nat)), .eq (.int .i64 0), .eq (.bool false), .eq (.bool false), .eq (.bool false), .eq (FV F b cap), .eq (.slice (some ⟨bM, oM, none⟩) M.length q8), .eq (.int .i64 (v : Nat)), .eq (.int .i64 (ev F v M : Nat)), .eq (.bool false), .eq (.bool false)]) (phi_mono _) (by kernel_rfl) (by kernel_rfl) (by rfl) (HS6.out) ?st3 ?fi3
 case st3 =>
  refine ⟨mv fun a w hat => hat.b 8, ?_⟩
  refine ⟨fun a w hat K hK => ?_, ?_⟩
  ·have e34 : a.tmps[34]?.getD undef = .slice (some ⟨bM, oM, none⟩) M.length q8 := hat.d 0 34
   have hSt := hat.st
   rw [if_pos (by rfl)]
   go_simp
   exact hK.out _ _ hSt (Below.refl _ _) rfl
  refine ⟨fun a w hat K hK => ?_, ?_⟩
  ·have e35 : a.tmps[35]?.getD undef = .int .i64 ((M).length : Nat) := hat.d 1 35
   have hSt := hat.st
   rw [if_pos (by rfl)]
   go_simp
   exact hK.out _ _ hSt (Below.refl _ _) rfl
  refine ⟨mv fun a w hat => hat.d 2 36, ?_⟩
  refine ⟨mvg 3 37 false fun a w hat => hat.b 8, ?_⟩
  refine ⟨mvg 3 37 false fun a w hat => hat.b 8, ?_⟩
  refine ⟨fun a w hat K hK => ?_, ?_⟩
  ·have e39 : a.tmps[39]?.getD undef = .slice (some ⟨bM, oM, none⟩) M.length q8 := hat.d 5 39
   have hSt := hat.st
   rw [if_pos (wy hat 3 37 false)]
   go_simp
   exact hK.out _ _ hSt (Below.refl _ _) rfl
  refine ⟨fun a w hat K hK => ?_, ?_⟩
  ·have e40 : a.tmps[40]?.getD undef = .int .i64 ((M).length : Nat) := hat.d 6 40
   have hSt := hat.st
   rw [if_pos (wy hat 3 37 false)]
   go_simp
   exact hK.out _ _ hSt (Below.refl _ _) rfl
  refine ⟨fun a w hat K hK => ?_, ?_⟩
  ·have e38 : a.tmps[38]?.getD undef = .slice (some ⟨bM, oM, none⟩) M.length q8 := hat.d 4 38
   have e41 : a.tmps[41]?.getD undef = .int .i64 (d : Nat) := hat.d 7 41
   have hSt := hat.st
   rw [if_pos (wy hat 3 37 false)]
   go_simp
   exact hK.out _ _ hSt (Below.refl _ _) rfl
  refine ⟨fun a w hat K hK => ?_, ?_⟩
  ·have e42 : a.tmps[42]?.getD undef = .pointer (some ⟨bM, oM + d, none⟩) := hat.d 8 42
   have hSt := hat.st
   rw [if_pos (wy hat 3 37 false)]
   have hc := (hSt.2.2.2.1.out.cell (p := ⟨bM, oM + d, none⟩) HBM.out).trans HC1.out
   go_simp
   exact hK.out _ _ hSt (Below.refl _ _) rfl
  refine ⟨fun a w hat K hK => ?_, ?_⟩
  ·have e43 : a.tmps[43]?.getD undef = .int .i64 1 := hat.d 9 43
   have hSt := hat.st
   rw [if_pos (wy hat 3 37 false)]
   go_simp
   exact hK.out _ _ hSt (Below.refl _ _) rfl
  refine ⟨fun a w hat K hK => ?_, ?_⟩
  ·have e37 : a.tmps[37]?.getD undef = .bool false := hat.d 3 37
   have e44 : a.tmps[44]?.getD undef = .bool false := hat.d 10 44
   have hSt := hat.st
   rw [if_pos (by rfl)]
   go_simp
   exact hK.out _ _ hSt (Below.refl _ _) rfl
  refine ⟨mv fun a w hat => hat.d 11 45, ?_⟩
  refine ⟨fun a w hat K hK => ?_, ?_⟩
  ·have e6 : a.tmps[6]?.getD undef = .pointer (some ⟨gF, 0, none⟩) := hat.b 6
   have hSt := hat.st
   rw [if_pos (wy hat 12 46 false)]
   go_simp
   exact hK.out _ _ hSt (Below.refl _ _) rfl
  refine ⟨fun a w hat K hK => ?_, ?_⟩
  ·have e47 : a.tmps[47]?.getD undef = .pointer (some ⟨gF, 1, none⟩) := hat.d 13 47
   have hSt := hat.st
   rw [if_pos (wy hat 12 46 false)]
   go_simp
   exact hK.out _ _ hSt (Below.refl _ _) rfl
  refine ⟨mvg 12 46 false fun a w hat => hat.b 8, ?_⟩
  refine ⟨fun a w hat K hK => ?_, ?_⟩
  ·have e49 : a.tmps[49]?.getD undef = .slice (some ⟨bM, oM, none⟩) M.length q8 := hat.d 15 49
   have hSt := hat.st
   rw [if_pos (wy hat 12 46 false)]
   go_simp
   exact hK.out _ _ hSt (Below.refl _ _) rfl
  refine ⟨fun a w hat K hK => ?_, ?_⟩
  ·have e50 : a.tmps[50]?.getD undef = .int .i64 ((M).length : Nat) := hat.d 16 50
   have hSt := hat.st
   rw [if_pos (wy hat 12 46 false)]
   go_simp
   exact hK.out _ _ hSt (Below.refl _ _) rfl
  refine ⟨fun a w hat K hK => ?_, ?_⟩
  ·have e48 : a.tmps[48]?.getD undef = .int .i64 (F.e : Nat) := hat.d 14 48
   have e51 : a.tmps[51]?.getD undef = .int .i64 (d : Nat) := hat.d 17 51
   have hSt := hat.st
   rw [if_pos (wy hat 12 46 false)]
   go_simp
   exact hK.out _ _ hSt (Below.refl _ _) rfl
  refine ⟨fun a w hat K hK => ?_, ?_⟩
  ·have e52 : a.tmps[52]?.getD undef = .int .i64 0 := hat.d 18 52
   have hSt := hat.st
   rw [if_pos (wy hat 12 46 false)]
   go_simp
   exact hK.out _ _ hSt (Below.refl _ _) rfl
  refine ⟨fun a w hat K hK => ?_, ?_⟩
  ·have e46 : a.tmps[46]?.getD undef = .bool false := hat.d 12 46
   have e53 : a.tmps[53]?.getD undef = .bool false := hat.d 19 53
   have hSt := hat.st
   rw [if_pos (by rfl)]
   go_simp
   exact hK.out _ _ hSt (Below.refl _ _) rfl
  refine ⟨mv fun a w hat => hat.d 20 54, ?_⟩
  refine ⟨fun a w hat K hK => ?_, ?_⟩
  ·have e6 : a.tmps[6]?.getD undef = .pointer (some ⟨gF, 0, none⟩) := hat.b 6
   have hSt := hat.st
   rw [if_pos (wy hat 21 55 false)]
   go_simp
   exact hK.out _ _ hSt (Below.refl _ _) rfl
  refine ⟨mvg 21 55 false fun a w hat => hat.b 8, ?_⟩
  refine ⟨mvg 21 55 false fun a w hat => hat.b 7, ?_⟩
  refine ⟨fun a w hat K hK => ?_, ?_⟩
  ·have e56 : a.tmps[56]?.getD undef = FV F b cap := hat.d 22 56
   have e57 : a.tmps[57]?.getD undef = .slice (some ⟨bM, oM, none⟩) M.length q8 := hat.d 23 57
   have e58 : a.tmps[58]?.getD undef = .int .i64 (v : Nat) := hat.d 24 58
   have hSt := hat.st
   rw [if_pos (wy hat 21 55 false)]
   go_simp
   go_at_call 27
   with_reducible refine (eval_po (hSt.2.2.2.2.1.out.ops) HPM.out (by decide) HVQ.out (HN2_8.out.below hSt.2.2.2.1.out)).mono ?_
   rintro z' v' ⟨rfl, hb⟩
   exact hK.out _ _ (SL.keep hSt hb) hb rfl
  refine ⟨fun a w hat K hK => ?_, ?_⟩
  ·have e59 : a.tmps[59]?.getD undef = .int .i64 (ev F v M : Nat) := hat.d 25 59
   have hSt := hat.st
   rw [if_pos (wy hat 21 55 false)]
   go_simp
   exact hK.out _ _ hSt (Below.refl _ _) rfl
  refine ⟨fun a w hat K hK => ?_, ?_⟩
  ·have e55 : a.tmps[55]?.getD undef = .bool false := hat.d 21 55
   have e60 : a.tmps[60]?.getD undef = .bool false := hat.d 26 60
   have hSt := hat.st
   rw [if_pos (by rfl)]
   go_simp
   exact hK.out _ _ hSt (Below.refl _ _) rfl
  exact trivial
 intro a w3 hsz hdf hbase hSt hval
 obtain ⟨t, df⟩ := a
 have et := Go.Rg.tmps_of hsz [34, 35, 36, 37, 38, 39, 40, 41, 42, 43, 44, 45, 46, 47, 48, 49, 50, 51, 52, 53, 54, 55, 56, 57, 58, 59, 60, 61] (fun k hk => hbase k (Go.Rg.base_of (by kernel_rfl) hk))
 have x61 : t.getD 61 undef = .bool false := hval 27 61 (by kernel_rfl)
 clear hval hbase hsz
 simp only [List.foldl_cons, List.foldl_nil, x61] at et
 rw [et]
 have hdf' : df = _ := hdf
 rw [hdf']
 simp only [List.setIfInBounds_toArray, List.set_cons_zero, List.set_cons_succ]
 clear et hdf hdf'
 have HN3_98 := Lib.hid (HN2_8.out.below hSt.2.2.2.1.out)
 generalize t.getD 34 undef = j34
 generalize t.getD 35 undef = j35
 generalize t.getD 36 undef = j36
 generalize t.getD 37 undef = j37
 generalize t.getD 38 undef = j38
 generalize t.getD 39 undef = j39
 generalize t.getD 40 undef = j40
 generalize t.getD 41 undef = j41
 generalize t.getD 42 undef = j42
 generalize t.getD 43 undef = j43
 generalize t.getD 44 undef = j44
 generalize t.getD 45 undef = j45
 generalize t.getD 46 undef = j46
 generalize t.getD 47 undef = j47
 generalize t.getD 48 undef = j48
 generalize t.getD 49 undef = j49
 generalize t.getD 50 undef = j50
 generalize t.getD 51 undef = j51
 generalize t.getD 52 undef = j52
 generalize t.getD 53 undef = j53
 generalize t.getD 54 undef = j54
 generalize t.getD 55 undef = j55
 generalize t.getD 56 undef = j56
 generalize t.getD 57 undef = j57
 generalize t.getD 58 undef = j58
 generalize t.getD 59 undef = j59
 generalize t.getD 60 undef = j60
 generalize t.getD 61 undef = j61
 have HS7 := Lib.hid hSt.start
 have HNM7 := Lib.hid (HN2_8.out.below hSt.2.2.2.1.out)
 clear hSt HS6
 go_wp2
 go_loopw [9] (fun i wr => ∃ k : Nat, k ≤ M.length ∧ i = .int .i64 k ∧ Hid (Below w3.heap.size w3 wr)) (fun i _ => M.length - (intOf i).toNat)
 case atStart => exact ⟨0, Nat.zero_le _, rfl, Lib.hid (Below.refl _ _)⟩
 case round =>
  obtain ⟨k, hk, rfl, HB⟩ := hrel
  by_cases hlt : k < M.length
  ·have hlti : (k : Int) < (M.length : Int) := by omega
   have HSR := Lib.hid (SL.keep HS7.out HB.out).start
   obtain ⟨x, HX⟩ : ∃ x, Hid (M.getD k 0 = x) := ⟨_, Lib.hid rfl⟩
   have HCX : Hid (wr.cell? ⟨bM, oM + k, none⟩ = some (.int .i64 (x : Nat))) := Lib.hid (by rw [← HX.out]; exact (HNM7.out.below HB.out).at hlt)
   have HBG : Hid (bM < wr.heap.size) := Lib.hid ((HNM7.out.below HB.out).lt rfl)
   have hxp : x < F.p := by rw [← HX.out]; exact HLOW.out k hlt
   have hx0 : ¬ (x : Int) < 0 := by omega
   have hx1 : ¬ (F.p : Int) ≤ (x : Int) := by omega
   have hx2 : ¬ F.p ≤ x := by omega
   have hk8 : k < 9 := by have := HML.out; omega
   clear hk
   go_upto_region 12 with (fail)
   refine Go.Rg.region_by (S := fun w' => SL W wr gF F b cap (.int .u8 (q : Nat)) (.slice aA A.length cA) (.slice aB B.length cB) (.slice aC C.length cC) w') (R := fun w w' => Below w.heap.size w w') (φ := phi F b cap [.eq (.slice (some ⟨bM, oM, none⟩) M.length q8), .eq (.int .i64 (k : Nat)), .eq (.pointer (some ⟨bM, oM + k, none⟩)), .eq (.int .i64 (x : Nat)), .eq (.bool false), .eq (.bool false), .eq (.slice (some ⟨bM, oM, none⟩) M.length q8), .eq (.int .i64 (k : Nat)), .eq (.pointer (some ⟨bM, oM + k, none⟩)), .eq (.int .i64 (x : Nat)), .eq (.pointer (some ⟨gF, 0, none⟩)), .eq (.int .i64 (F.p : Nat)), .eq (.bool false), .eq (.bool false)]) (by kernel_rfl) (phi_mono _) (by kernel_rfl) (by kernel_rfl) (by rfl) (HSR.out.drew) (Go.Rg.steps_ok ?st4) ?fi4
   case st4 =>
    refine ⟨mv fun a w hat => hat.b 8, ?_⟩
    refine ⟨mv fun a w hat => hat.b 9, ?_⟩
    refine ⟨fun a w hat K hK => ?_, ?_⟩
    ·have e68 : a.tmps[68]?.getD undef = .slice (some ⟨bM, oM, none⟩) M.length q8 := hat.d 0 68
     have e69 : a.tmps[69]?.getD undef = .int .i64 (k : Nat) := hat.d 1 69
     have hSt := hat.st
     rw [if_pos (by rfl)]
     go_simp
     exact hK.out _ _ hSt (Below.refl _ _) rfl
    refine ⟨fun a w hat K hK => ?_, ?_⟩
    ·have e70 : a.tmps[70]?.getD undef = .pointer (some ⟨bM, oM + k, none⟩) := hat.d 2 70
     have hSt := hat.st
     rw [if_pos (by rfl)]
     have hc := (hSt.2.2.2.1.out.cell (p := ⟨bM, oM + k, none⟩) HBG.out).trans HCX.out
     go_simp
     exact hK.out _ _ hSt (Below.refl _ _) rfl
    refine ⟨fun a w hat K hK => ?_, ?_⟩
    ·have e71 : a.tmps[71]?.getD undef = .int .i64 (x : Nat) := hat.d 3 71
     have hSt := hat.st
     rw [if_pos (by rfl)]
     go_simp
     exact hK.out _ _ hSt (Below.refl _ _) rfl
    refine ⟨mv fun a w hat => hat.d 4 72, ?_⟩
    refine ⟨mvg 5 73 false fun a w hat => hat.b 8, ?_⟩
    refine ⟨mvg 5 73 false fun a w hat => hat.b 9, ?_⟩
    refine ⟨fun a w hat K hK => ?_, ?_⟩
    ·have e74 : a.tmps[74]?.getD undef = .slice (some ⟨bM, oM, none⟩) M.length q8 := hat.d 6 74
     have e75 : a.tmps[75]?.getD undef = .int .i64 (k : Nat) := hat.d 7 75
     have hSt := hat.st
     rw [if_pos (wy hat 5 73 false)]
     go_simp
     exact hK.out _ _ hSt (Below.refl _ _) rfl
    refine ⟨fun a w hat K hK => ?_, ?_⟩
    ·have e76 : a.tmps[76]?.getD undef = .pointer (some ⟨bM, oM + k, none⟩) := hat.d 8 76
     have hSt := hat.st
     rw [if_pos (wy hat 5 73 false)]
     have hc := (hSt.2.2.2.1.out.cell (p := ⟨bM, oM + k, none⟩) HBG.out).trans HCX.out
     go_simp
     exact hK.out _ _ hSt (Below.refl _ _) rfl
    refine ⟨fun a w hat K hK => ?_, ?_⟩
    ·have e6 : a.tmps[6]?.getD undef = .pointer (some ⟨gF, 0, none⟩) := hat.b 6
     have hSt := hat.st
     rw [if_pos (wy hat 5 73 false)]
     go_simp
     exact hK.out _ _ hSt (Below.refl _ _) rfl
    refine ⟨fun a w hat K hK => ?_, ?_⟩
    ·have e78 : a.tmps[78]?.getD undef = .pointer (some ⟨gF, 0, none⟩) := hat.d 10 78
     have hSt := hat.st
     rw [if_pos (wy hat 5 73 false)]
     go_simp
     exact hK.out _ _ hSt (Below.refl _ _) rfl
    refine ⟨fun a w hat K hK => ?_, ?_⟩
    ·have e77 : a.tmps[77]?.getD undef = .int .i64 (x : Nat) := hat.d 9 77
     have e79 : a.tmps[79]?.getD undef = .int .i64 (F.p : Nat) := hat.d 11 79
     have hSt := hat.st
     rw [if_pos (wy hat 5 73 false)]
     go_simp
     exact hK.out _ _ hSt (Below.refl _ _) rfl
    refine ⟨fun a w hat K hK => ?_, ?_⟩
    ·have e73 : a.tmps[73]?.getD undef = .bool false := hat.d 5 73
     have e80 : a.tmps[80]?.getD undef = .bool false := hat.d 12 80
     have hSt := hat.st
     rw [if_pos (by rfl)]
     go_simp
     exact hK.out _ _ hSt (Below.refl _ _) rfl
    exact trivial
   intro a w21 hsz hdf hbase hSt hval
   obtain ⟨t, df⟩ := a
   have et := Go.Rg.tmps_of hsz [68, 69, 70, 71, 72, 73, 74, 75, 76, 77, 78, 79, 80, 81] (fun k hk => hbase k (Go.Rg.base_of (by kernel_rfl) hk))
   have x81 : t.getD 81 undef = .bool false := hval 13 81 (by kernel_rfl)
   clear hval hbase hsz
   simp only [List.foldl_cons, List.foldl_nil, x81] at et
   rw [et]
   have hdf' : df = _ := hdf
   rw [hdf']
   simp only [List.setIfInBounds_toArray, List.set_cons_zero, List.set_cons_succ]
   clear et hdf hdf'
   have HBN := Lib.hid (HB.out.trans (hSt.2.2.2.1.out.mono HB.out.size))
   clear hSt
   go_wp2
   go_roundw
   case rel => exact ⟨k + 1, by omega, by go_num, HBN⟩
   case measure => simp [intOf]; omega
  ·have hlt1 : ¬ (k : Int) < (M.length : Int) := by omega
   clear hk hlt
   have HSa := Lib.hid (SL.keep HS7.out HB.out)
   have HNMa := Lib.hid (HNM7.out.below HB.out)
   clear HS7 HNM7 HB
   obtain ⟨⟨f0, f1, f2⟩, -⟩ := HSa.out
   go_wp2_with fail
   with_reducible refine (rpow_c HVQ.out HSa.out.2.2.2.2.1.out).mono ?_
   rintro z wA ⟨rfl, hb⟩
   rw [HPB.out]
   have HSb := Lib.hid (SL.keep HSa.out hb)
   have HNMb := Lib.hid (HNMa.out.below hb)
   clear hb HSa HNMa f0 f1 f2
   obtain ⟨⟨f0, f1, f2⟩, ⟨l0, l1, l2, l3⟩, -⟩ := HSb.out
   go_wp2_with fail
   with_reducible refine (HCA.out _ HSb.out.2.2.1.out).mono ?_
   rintro z wB ⟨aL, cL, k0, rfl, hk1, hk2, hown, hb⟩
   have HOWN := Lib.hid hown
   have HBB := Lib.hid hb
   have HK0 := Lib.hid (And.intro hk1 hk2)
   clear hown hb hk1 hk2 f0 f1 f2 l0 l1 l2 l3
   obtain ⟨n, HN⟩ : ∃ n, Hid (LA.length = n) := ⟨_, Lib.hid rfl⟩
   have hn8 : n ≤ 8 := by rw [← HN.out]; exact HIA.out.2
   rw [HN.out] at HOWN ⊢
   go_wp2
   go_loopw [13] (fun i wr => ∃ k : Nat, k ≤ n ∧ i = .int .i64 k ∧ Hid (wr.ownsRow k0 3 1 (.slice aL n cL) n ((modTo F.p LA k).map N64)) ∧ Hid (Below wA.heap.size wA wr)) (fun i _ => n - (intOf i).toNat)
   case atStart => exact ⟨0, Nat.zero_le _, rfl, Lib.hid (by have h := HOWN.out; simpa [modTo] using h), HBB⟩
   case round =>
    obtain ⟨k, hk, rfl, HO, HB⟩ := hrel
    by_cases hlt : k < n
    ·have hlti : (k : Int) < (n : Int) := by omega
     obtain ⟨g, cg, hgv⟩ := own_someK HO.out (by omega)
     injection hgv with hg1 hg2 hg3
     subst hg1 hg3
     obtain ⟨x, HX⟩ : ∃ x, Hid (LA.getD k 0 = x) := ⟨_, Lib.hid rfl⟩
     obtain ⟨xm, HXM⟩ : ∃ m, Hid (x % F.p = m) := ⟨_, Lib.hid rfl⟩
     have hkl : k < LA.length := by rw [HN.out]; exact hlt
     have hx64 : x < 64 := by rw [← HX.out]; exact Nat.lt_of_lt_of_le (HIA.out.1.get HFF.out k) hq64
     have hcx : wr.cell? ⟨g, k, none⟩ = some (.int .i64 (x : Nat)) := by
      have h := World.ownsRow.cellAt HO.out k (by omega)
      refine h.trans ?_
      have hl := modTo_len F.p LA k
      rw [← HX.out, ← modTo_at (m := F.p) hkl, List.getElem?_map, List.getElem?_eq_getElem (by rw [hl]; exact hkl)]
      simp [List.getD, N64, hl, hkl]
     have hfz := World.ownsRow.frozenAt HO.out k
     have hgA : wA.heap.size ≤ g := Nat.le_trans HK0.out.1 (World.ownsRow.lt HO.out g rfl).1
     have hgF : gF + 1 ≤ g := by have := HSb.out.2.2.2.2.2.out; omega
     have hmx : ((x : Int)).tmod (F.p : Int) = (xm : Int) := by rw [← HXM.out, Int.tmod_eq_emod_of_nonneg (by omega)]; rfl
     have hmx2 : (x : Int) % (F.p : Int) = (xm : Int) := by rw [← HXM.out]; rfl
     have hpz : ¬ F.p = 0 := by omega
     have hxm : xm < 64 := by rw [← HXM.out]; have := Nat.mod_le x F.p; omega
     have hwxm : IntKind.i64.wrap (xm : Int) = (xm : Int) := IntWalk.i64_in _ (by omega)
     have hwx0 : IntKind.i64.wrap (x : Int) = (x : Int) := IntWalk.i64_in _ (by omega)
     have hS0 : FB gF F.p F.e (FM F b cap) wr.drew := (SL.keep HSb.out HB.out).1
     have HO2 : Hid ((wr.setCell ⟨g, k, none⟩ (.int .i64 (xm : Nat))).drew.ownsRow k0 3 1 (.slice (some ⟨g, 0, none⟩) n cL) n ((modTo F.p LA (k + 1)).map N64)) := Lib.hid (by
      have h := (World.ownsRow.stored (w := wr) HO.out k (.int .i64 (xm : Nat))).1
      rw [← modTo_set hkl, HX.out, HXM.out, List.map_set]
      exact h)
     have HBN : Hid (Below wA.heap.size wA (wr.setCell ⟨g, k, none⟩ (.int .i64 (xm : Nat))).drew) := Lib.hid (HB.out.setCell (p := ⟨g, k, none⟩) hgA _).drew
     clear hk hkl
     go_upto_region 19 with (fail)
     refine wp_region_held_drew (S := fun w' => FB gF F.p F.e (FM F b cap) w') (by kernel_rfl) (by with_reducible exact hS0) (fun hHeld => ?_)
     refine wpAnyH_take (i := 0) (oi := { dst := some 100, op := Op.move (Operand.tmp 12), type := 25, pos := "law.go:228", after := #[], guard := none }) (v := ?_) rfl (by kernel_rfl) (by kernel_rfl) (by kernel_rfl) (fun _ _ _ h => h) (Or.inl ⟨by first | with_reducible rfl | go_simp, ?_⟩) (by assumption) ?_
     rotate_left
     ·(intro w hSw; (try dsimp only at hSw); go_simp; try (with_reducible rfl))
     try simp only [Act.put, List.setIfInBounds_toArray, List.set_cons_zero, List.set_cons_succ]
     refine wpAnyH_take (i := 1) (oi := { dst := some 101, op := Op.move (Operand.tmp 13), type := 3, pos := "law.go:228", after := #[], guard := none }) (v := ?_) rfl (by kernel_rfl) (by kernel_rfl) (by kernel_rfl) (fun _ _ _ h => h) (Or.inl ⟨by first | with_reducible rfl | go_simp, ?_⟩) (by assumption) ?_
     rotate_left
     ·(intro w hSw; (try dsimp only at hSw); go_simp; try (with_reducible rfl))
     try simp only [Act.put, List.setIfInBounds_toArray, List.set_cons_zero, List.set_cons_succ]
     refine wpAnyH_take (i := 2) (oi := { dst := some 102, op := Op.move (Operand.tmp 12), type := 25, pos := "law.go:228", after := #[], guard := none }) (v := ?_) rfl (by kernel_rfl) (by kernel_rfl) (by kernel_rfl) (fun _ _ _ h => h) (Or.inl ⟨by first | with_reducible rfl | go_simp, ?_⟩) (by assumption) ?_
     rotate_left
     ·(intro w hSw; (try dsimp only at hSw); go_simp; try (with_reducible rfl))
     try simp only [Act.put, List.setIfInBounds_toArray, List.set_cons_zero, List.set_cons_succ]
     refine wpAnyH_take (i := 3) (oi := { dst := some 103, op := Op.move (Operand.tmp 13), type := 3, pos := "law.go:228", after := #[], guard := none }) (v := ?_) rfl (by kernel_rfl) (by kernel_rfl) (by kernel_rfl) (fun _ _ _ h => h) (Or.inl ⟨by first | with_reducible rfl | go_simp, ?_⟩) (by assumption) ?_
     rotate_left
     ·(intro w hSw; (try dsimp only at hSw); go_simp; try (with_reducible rfl))
     try simp only [Act.put, List.setIfInBounds_toArray, List.set_cons_zero, List.set_cons_succ]
     refine wpAnyH_take (i := 4) (oi := { dst := some 104, op := Op.indexAddr 25 (Operand.tmp 102) (Operand.tmp 103), type := 0, pos := "law.go:228", after := #[{ on := 2, ground := Ground.data }, { on := 3, ground := Ground.data }], guard := none }) (v := ?_) rfl (by kernel_rfl) (by kernel_rfl) (by kernel_rfl) (fun _ _ _ h => h) (Or.inl ⟨by first | with_reducible rfl | go_simp, ?_⟩) (by assumption) ?_
     rotate_left
     ·(intro w hSw; (try dsimp only at hSw); go_simp; try (with_reducible rfl))
     try simp only [Act.put, List.setIfInBounds_toArray, List.set_cons_zero, List.set_cons_succ]
     refine wpAnyH_take (i := 6) (oi := { dst := some 106, op := Op.fieldAddr 28 (Operand.tmp 6) 0, type := 0, pos := "law.go:228", after := #[], guard := none }) (v := ?_) rfl (by kernel_rfl) (by kernel_rfl) (by kernel_rfl) (fun _ _ _ h => h) (Or.inl ⟨by first | with_reducible rfl | go_simp, ?_⟩) (by assumption) ?_
     rotate_left
     ·(intro w hSw; (try dsimp only at hSw); go_simp; try (with_reducible rfl))
     try simp only [Act.put, List.setIfInBounds_toArray, List.set_cons_zero, List.set_cons_succ]
     refine wpAnyH_take (i := 7) (oi := { dst := some 107, op := Op.load 3 (Operand.tmp 106), type := 3, pos := "law.go:228", after := #[{ on := 6, ground := Ground.data }], guard := none }) (v := ?_) rfl (by kernel_rfl) (by kernel_rfl) (by kernel_rfl) (fun _ _ _ h => h) (Or.inl ⟨by first | with_reducible rfl | go_simp, ?_⟩) (by assumption) ?_
     rotate_left
     ·(intro w hSw; (try dsimp only at hSw); go_simp; try (with_reducible rfl))
     try simp only [Act.put, List.setIfInBounds_toArray, List.set_cons_zero, List.set_cons_succ]
     refine wpAnyH_ready (rs := [5]) (by kernel_rfl) (by simp) ?_
     refine (AllReadyH.cons (o := { dst := some 105, op := Op.load 3 (Operand.tmp 104), type := 3, pos := "law.go:228", after := #[{ on := 4, ground := Ground.data }], guard := none }) rfl (fun K hK => ?_) AllReadyH.nil)
     go_simp
     refine hK.out _ _ ?_ (fun hHeld => ?_)
     ·(try dsimp only)
      exact hHeld
     clear hK K
     try simp only [Act.put, List.setIfInBounds_toArray, List.set_cons_zero, List.set_cons_succ]
     refine wpAnyH_take (i := 8) (oi := { dst := some 108, op := Op.binOp BinOp.rem 3 (Operand.tmp 105) (Operand.tmp 107) 3, type := 3, pos := "law.go:228", after := #[{ on := 5, ground := Ground.data }, { on := 7, ground := Ground.data }], guard := none }) (v := ?_) rfl (by kernel_rfl) (by kernel_rfl) (by kernel_rfl) (fun _ _ _ h => h) (Or.inl ⟨by first | with_reducible rfl | go_simp, ?_⟩) (by assumption) ?_
     rotate_left
     ·(intro w hSw; (try dsimp only at hSw); go_simp; try (with_reducible rfl))
     try simp only [Act.put, List.setIfInBounds_toArray, List.set_cons_zero, List.set_cons_succ]
     refine wpAnyH_take (i := 9) (oi := { dst := some 109, op := Op.indexAddr 25 (Operand.tmp 100) (Operand.tmp 101), type := 0, pos := "law.go:228", after := #[{ on := 0, ground := Ground.data }, { on := 1, ground := Ground.data }, { on := 0, ground := Ground.phase }, { on := 1, ground := Ground.phase }, { on := 2, ground := Ground.phase }, { on := 3, ground := Ground.phase }, { on := 4, ground := Ground.phase }, { on := 5, ground := Ground.phase }, { on := 6, ground := Ground.phase }, { on := 7, ground := Ground.phase }, { on := 8, ground := Ground.phase }], guard := none }) (v := ?_) rfl (by kernel_rfl) (by kernel_rfl) (by kernel_rfl) (fun _ _ _ h => h) (Or.inl ⟨by first | with_reducible rfl | go_simp, ?_⟩) (by assumption) ?_
     rotate_left
     ·(intro w hSw; (try dsimp only at hSw); go_simp; try (with_reducible rfl))
     try simp only [Act.put, List.setIfInBounds_toArray, List.set_cons_zero, List.set_cons_succ]
     refine wpAnyH_ready (rs := [10]) (by kernel_rfl) (by simp) ?_
     refine (AllReadyH.cons (o := { dst := none, op := Op.store 3 (Operand.tmp 109) (Operand.tmp 108), type := 0, pos := "law.go:228", after := #[{ on := 9, ground := Ground.data }, { on := 8, ground := Ground.data }, { on := 0, ground := Ground.phase }, { on := 1, ground := Ground.phase }, { on := 2, ground := Ground.phase }, { on := 3, ground := Ground.phase }, { on := 4, ground := Ground.phase }, { on := 5, ground := Ground.phase }, { on := 6, ground := Ground.phase }, { on := 7, ground := Ground.phase }, { on := 8, ground := Ground.phase }], guard := none }) rfl (fun K hK => ?_) AllReadyH.nil)
     go_simp
     refine hK.out _ _ ?_ (fun hHeld => ?_)
     ·(try dsimp only)
      exact FB.keep hHeld ((Below.refl _ _).setCell (p := ⟨g, k, none⟩) hgF _) (Nat.lt_succ_self gF)
     clear hK K
     try simp only [Act.put, List.setIfInBounds_toArray, List.set_cons_zero, List.set_cons_succ]
     refine wpAnyH_done (by kernel_rfl) ?_ _
     clear hHeld hS0 hcx hfz
     go_wp2
     go_roundw
     case rel => exact ⟨k + 1, by omega, by go_num, HO2, HBN⟩
     case measure => simp [intOf]; omega
    ·have hlt1 : ¬ (k : Int) < (n : Int) := by omega
     obtain rfl : n = k := by omega
     clear hk hlt
     obtain ⟨LP, HLP⟩ : ∃ l, Hid (modTo F.p LA n = l) := ⟨_, Lib.hid rfl⟩
     have HLPI : Hid (LP.length = n ∧ (∀ x ∈ LP, x < F.p)) := Lib.hid (by
      rw [← HLP.out]
      refine ⟨by rw [modTo_len]; exact HN.out, fun x hx => ?_⟩
      unfold modTo at hx
      rw [List.drop_eq_nil_of_le (by rw [HN.out]; exact Nat.le_refl _), List.append_nil] at hx
      obtain ⟨z, _, rfl⟩ := List.mem_map.1 hx
      exact Nat.mod_lt _ (by omega))
     rw [HLP.out] at HO
     have HNL : Hid (NN LP wr (.slice aL n cL)) := Lib.hid (by have e := HLPI.out.1; have h := HO.out; rw [← e] at h ⊢; exact NN.of_owns h)
     obtain ⟨TP, HTP⟩ : ∃ l, Hid (trL LP = l) := ⟨_, Lib.hid rfl⟩
     have HPT : Hid (PL F 8 TP) := Lib.hid (by rw [← HTP.out]; exact pl_tr (fun x hx => HFR.out.low x (HLPI.out.2 x hx)) (by rw [HLPI.out.1]; exact hn8))
     have HTL : Hid (∀ x ∈ TP, x < F.p) := Lib.hid (fun x hx => HLPI.out.2 x (by rw [← HTP.out] at hx; exact trL_mem hx))
     have HTC : Hid (∀ w a c, NN LP w (.slice a n c) → Calls Try.prog 15 #[.slice a n c] w (SlPost TP w)) := Lib.hid (fun w a c hn => by rw [← HTP.out]; exact trim_c (by rw [HLPI.out.1]; omega) HLPI.out.1.symm hn)
     have HSc := Lib.hid (SL.keep HSb.out HB.out)
     have HNMc := Lib.hid (HNMb.out.below HB.out)
     clear HO HB HSb HNMb
     go_wp2_with fail
     with_reducible refine (HTC.out _ _ _ HNL.out).mono ?_
     rintro z wC ⟨aT, cT, rfl, hnT, hb⟩
     have HNT := Lib.hid hnT
     have HSd := Lib.hid (SL.keep HSc.out hb).start
     have HNMd := Lib.hid (HNMc.out.below hb)
     clear hnT hb HSc HNMc HNL
     obtain ⟨QV, RV, hDQ⟩ := DM.exists HFF.out HPT.out.1 HPM.out.1 HM0.out
     have HDQ := Lib.hid hDQ
     obtain ⟨is, HIS⟩ : ∃ b, Hid (decide (RV = []) = b) := ⟨_, Lib.hid rfl⟩
     have hyR : ((RV.length : Int) == 0) = is := by
      rw [← HIS.out]
      by_cases h : RV = []
      ·rw [h]; rfl
      ·have hl := List.length_pos_iff.2 h
       rw [decide_eq_false h]
       exact beq_eq_false_iff_ne.2 (by omega)
     have hyV : (((ev F v TP : Nat) : Int) == 0) = is := by
      rw [← HIS.out]
      have hd := hDQ
      rw [← HM.out] at hd
      have h := min_div HFF.out HFR.out HVQ.out HMO.out (by rw [HM.out]; exact HPM.out.1) HPT.out.1 HTL.out hd
      by_cases h0 : RV = []
      ·rw [h.1 h0, decide_eq_true h0]; rfl
      ·rw [decide_eq_false h0]
       exact beq_eq_false_iff_ne.2 (fun e => h0 (h.2 (Int.ofNat_inj.1 e)))
     have hyI : (is != is) = false := by simp
     obtain ⟨ZZ, HZZ⟩ : ∃ l, Hid (([] : List Nat) = l) := ⟨_, Lib.hid rfl⟩
     have hyZ : ((ZZ.length : Int) == 0) = true := by rw [← HZZ.out]; rfl
     have HPMU : Hid (PL F 16 (mulP F TP M)) := Lib.hid (pl_mul HFF.out HPT.out HPM.out (by decide))
     have HDM2 : Hid (DM F (mulP F TP M) M TP ZZ) := Lib.hid (by
      rw [← HZZ.out]
      have h := DM.of HFF.out HPT.out.1 HPM.out.1 (R := []) Po.nil (by rw [HML.out]; simp)
      rwa [addP_nil HFF.out (mulP_po HFF.out _ _)] at h)
     clear hDQ
     go_upto_region 21 with (fail)
     refine Go.Rg.region_seq (S := fun w' => SL W wC gF F b cap (.int .u8 (q : Nat)) (.slice aA A.length cA) (.slice aB B.length cB) (.slice aC C.length cC) w') (R := fun w w' => Below w.heap.size w w') (φ := phi F b cap [.eq (FV F b cap), .sl (TP), .sl (M), .dm (QV) (RV), .dm (QV) (RV), .sl (QV), .sl (RV), .eq (.int .i64 0), .sl (QV), .sl (RV), .eq (.int .i64 0)]) (phi_mono _) (by kernel_rfl) (by kernel_rfl) (by rfl) (HSd.out) ?st5 ?fi5
     case st5 =>
      refine ⟨fun a w hat K hK => ?_, ?_⟩
      ·have e6 : a.tmps[6]?.getD undef = .pointer (some ⟨gF, 0, none⟩) := hat.b 6
       have hSt := hat.st
       rw [if_pos (by rfl)]
       go_simp
       exact hK.out _ _ hSt (Below.refl _ _) rfl
      refine ⟨mv fun a w hat => ⟨_, _, hat.b 12, (HNT.out.below hat.st.2.2.2.1.out)⟩, ?_⟩
      refine ⟨mv fun a w hat => ⟨_, _, hat.b 8, (HNMd.out.below hat.st.2.2.2.1.out)⟩, ?_⟩
      refine ⟨fun a w hat K hK => ?_, ?_⟩
      ·have e113 : a.tmps[113]?.getD undef = FV F b cap := hat.d 0 113
       obtain ⟨a114, c114, e114, n114⟩ := (show (Kd.sl (TP)).ok F b cap (a.tmps[114]?.getD undef) w from hat.d 1 114)
       obtain ⟨a115, c115, e115, n115⟩ := (show (Kd.sl (M)).ok F b cap (a.tmps[115]?.getD undef) w from hat.d 2 115)
       have hSt := hat.st
       rw [if_pos (by rfl)]
       go_simp
       go_at_call 17
       with_reducible refine (dm_po (hSt.2.2.2.2.1.out.ops) HPT.out HPM.out HM0.out HDQ.out (by decide) (by decide) n114 n115).mono ?_
       rintro z' v' ⟨a', c', a2', c2', rfl, hn', hn2', hb⟩
       exact hK.out _ _ (SL.keep hSt hb) hb ⟨a', c', a2', c2', rfl, hn', hn2'⟩
      refine ⟨mv fun a w hat => hat.d 3 116, ?_⟩
      refine ⟨fun a w hat K hK => ?_, ?_⟩
      ·obtain ⟨a112, c112, a'112, c'112, e112, n112, n'112⟩ := (show (Kd.dm (QV) (RV)).ok F b cap (a.tmps[112]?.getD undef) w from hat.d 4 112)
       have hSt := hat.st
       rw [if_pos (by rfl)]
       go_simp
       exact hK.out _ _ hSt (Below.refl _ _) ⟨a112, c112, rfl, n112⟩
      refine ⟨fun a w hat K hK => ?_, ?_⟩
      ·obtain ⟨a112, c112, a'112, c'112, e112, n112, n'112⟩ := (show (Kd.dm (QV) (RV)).ok F b cap (a.tmps[112]?.getD undef) w from hat.d 4 112)
       have hSt := hat.st
       rw [if_pos (by rfl)]
       go_simp
       exact hK.out _ _ hSt (Below.refl _ _) ⟨a'112, c'112, rfl, n'112⟩
      refine ⟨fun a w hat K hK => ?_, ?_⟩
      ·obtain ⟨a112, c112, a'112, c'112, e112, n112, n'112⟩ := (show (Kd.dm (QV) (RV)).ok F b cap (a.tmps[112]?.getD undef) w from hat.d 4 112)
       have hSt := hat.st
       rw [if_pos (by rfl)]
       go_simp
       exact hK.out _ _ hSt (Below.refl _ _) rfl
      refine ⟨mv fun a w hat => hat.d 5 117, ?_⟩
      refine ⟨mv fun a w hat => hat.d 6 118, ?_⟩
      refine ⟨mv fun a w hat => hat.d 7 119, ?_⟩
      exact trivial
     intro a w31 hsz hdf hbase hSt hval
     obtain ⟨t, df⟩ := a
     have et := Go.Rg.tmps_of hsz [113, 114, 115, 116, 112, 117, 118, 119, 14, 15, 16] (fun k hk => hbase k (Go.Rg.base_of (by kernel_rfl) hk))
     obtain ⟨p14, q14, x14, m14⟩ := (show (Kd.sl (QV)).ok F b cap (t.getD 14 undef) w31 from hval 8 14 (by kernel_rfl))
     obtain ⟨p15, q15, x15, m15⟩ := (show (Kd.sl (RV)).ok F b cap (t.getD 15 undef) w31 from hval 9 15 (by kernel_rfl))
     have x16 : t.getD 16 undef = .int .i64 0 := hval 10 16 (by kernel_rfl)
     clear hval hbase hsz
     simp only [List.foldl_cons, List.foldl_nil, x14, x15, x16] at et
     rw [et]
     have hdf' : df = _ := hdf
     rw [hdf']
     simp only [List.setIfInBounds_toArray, List.set_cons_zero, List.set_cons_succ]
     clear et hdf hdf'
     have HN31_8 := Lib.hid (HNMd.out.below hSt.2.2.2.1.out)
     have HN31_12 := Lib.hid (HNT.out.below hSt.2.2.2.1.out)
     have HN31_14 := Lib.hid m14
     have HN31_15 := Lib.hid m15
     clear m14 m15
     have HS21 := Lib.hid hSt.start
     clear hSt
     go_upto_region 22 with (fail)
     refine Go.Rg.region_seq (S := fun w' => SL W w31 gF F b cap (.int .u8 (q : Nat)) (.slice aA A.length cA) (.slice aB B.length cB) (.slice aC C.length cC) w') (R := fun w w' => Below w.heap.size w w') (φ := phi F b cap [.eq (.int .i64 0), .eq (.bool false), .eq (.bool false), .sl (RV), .eq (.int .i64 ((RV).length : Nat)), .eq (.bool is), .eq (FV F b cap), .sl (TP), .eq (.int .i64 (v : Nat)), .eq (.int .i64 (ev F v TP : Nat)), .eq (.bool is), .eq (.bool false), .eq (.bool false)]) (phi_mono _) (by kernel_rfl) (by kernel_rfl) (by rfl) (HS21.out) ?st6 ?fi6
     case st6 =>
      refine ⟨mv fun a w hat => hat.b 16, ?_⟩
      refine ⟨fun a w hat K hK => ?_, ?_⟩
      ·have e120 : a.tmps[120]?.getD undef = .int .i64 0 := hat.d 0 120
       have hSt := hat.st
       rw [if_pos (by rfl)]
       go_simp
       exact hK.out _ _ hSt (Below.refl _ _) rfl
      refine ⟨mv fun a w hat => hat.d 1 121, ?_⟩
      refine ⟨mvg 2 122 false fun a w hat => ⟨_, _, hat.b 15, (HN31_15.out.below hat.st.2.2.2.1.out)⟩, ?_⟩
      refine ⟨fun a w hat K hK => ?_, ?_⟩
      ·obtain ⟨a123, c123, e123, n123⟩ := (show (Kd.sl (RV)).ok F b cap (a.tmps[123]?.getD undef) w from hat.d 3 123)
       have hSt := hat.st
       rw [if_pos (wy hat 2 122 false)]
       go_simp
       exact hK.out _ _ hSt (Below.refl _ _) rfl
      refine ⟨fun a w hat K hK => ?_, ?_⟩
      ·have e124 : a.tmps[124]?.getD undef = .int .i64 ((RV).length : Nat) := hat.d 4 124
       have hSt := hat.st
       rw [if_pos (wy hat 2 122 false)]
       go_simp
       exact hK.out _ _ hSt (Below.refl _ _) rfl
      refine ⟨fun a w hat K hK => ?_, ?_⟩
      ·have e6 : a.tmps[6]?.getD undef = .pointer (some ⟨gF, 0, none⟩) := hat.b 6
       have hSt := hat.st
       rw [if_pos (wy hat 2 122 false)]
       go_simp
       exact hK.out _ _ hSt (Below.refl _ _) rfl
      refine ⟨mvg 2 122 false fun a w hat => ⟨_, _, hat.b 12, (HN31_12.out.below hat.st.2.2.2.1.out)⟩, ?_⟩
      refine ⟨mvg 2 122 false fun a w hat => hat.b 7, ?_⟩
      refine ⟨fun a w hat K hK => ?_, ?_⟩
      ·have e126 : a.tmps[126]?.getD undef = FV F b cap := hat.d 6 126
       obtain ⟨a127, c127, e127, n127⟩ := (show (Kd.sl (TP)).ok F b cap (a.tmps[127]?.getD undef) w from hat.d 7 127)
       have e128 : a.tmps[128]?.getD undef = .int .i64 (v : Nat) := hat.d 8 128
       have hSt := hat.st
       rw [if_pos (wy hat 2 122 false)]
       go_simp
       go_at_call 27
       with_reducible refine (eval_po (hSt.2.2.2.2.1.out.ops) HPT.out (by decide) HVQ.out n127).mono ?_
       rintro z' v' ⟨rfl, hb⟩
       exact hK.out _ _ (SL.keep hSt hb) hb rfl
      refine ⟨fun a w hat K hK => ?_, ?_⟩
      ·have e129 : a.tmps[129]?.getD undef = .int .i64 (ev F v TP : Nat) := hat.d 9 129
       have hSt := hat.st
       rw [if_pos (wy hat 2 122 false)]
       go_simp
       exact hK.out _ _ hSt (Below.refl _ _) rfl
      refine ⟨fun a w hat K hK => ?_, ?_⟩
      ·have e125 : a.tmps[125]?.getD undef = .bool is := hat.d 5 125
       have e130 : a.tmps[130]?.getD undef = .bool is := hat.d 10 130
       have hSt := hat.st
       rw [if_pos (wy hat 2 122 false)]
       go_simp
       exact hK.out _ _ hSt (Below.refl _ _) rfl
      refine ⟨fun a w hat K hK => ?_, ?_⟩
      ·have e122 : a.tmps[122]?.getD undef = .bool false := hat.d 2 122
       have e131 : a.tmps[131]?.getD undef = .bool false := hat.d 11 131
       have hSt := hat.st
       rw [if_pos (by rfl)]
       go_simp
       exact hK.out _ _ hSt (Below.refl _ _) rfl
      exact trivial
     intro a w32 hsz hdf hbase hSt hval
     obtain ⟨t, df⟩ := a
     have et := Go.Rg.tmps_of hsz [120, 121, 122, 123, 124, 125, 126, 127, 128, 129, 130, 131, 132] (fun k hk => hbase k (Go.Rg.base_of (by kernel_rfl) hk))
     have x132 : t.getD 132 undef = .bool false := hval 12 132 (by kernel_rfl)
     clear hval hbase hsz
     simp only [List.foldl_cons, List.foldl_nil, x132] at et
     rw [et]
     have hdf' : df = _ := hdf
     rw [hdf']
     simp only [List.setIfInBounds_toArray, List.set_cons_zero, List.set_cons_succ]
     clear et hdf hdf'
     have HN32_8 := Lib.hid (HN31_8.out.below hSt.2.2.2.1.out)
     have HN32_12 := Lib.hid (HN31_12.out.below hSt.2.2.2.1.out)
     have HN32_14 := Lib.hid (HN31_14.out.below hSt.2.2.2.1.out)
     have HN32_15 := Lib.hid (HN31_15.out.below hSt.2.2.2.1.out)
     have HS22 := Lib.hid hSt.start
     clear hSt
     go_upto_region 24 with (fail)
     refine Go.Rg.region_by (S := fun w' => SL W w32 gF F b cap (.int .u8 (q : Nat)) (.slice aA A.length cA) (.slice aB B.length cB) (.slice aC C.length cC) w') (R := fun w w' => Below w.heap.size w w') (φ := phi F b cap [.eq (FV F b cap), .eq (FV F b cap), .sl (TP), .sl (M), .sl (mulP F TP M), .sl (M), .dm (TP) (ZZ), .dm (TP) (ZZ), .sl (TP), .sl (ZZ), .eq (.int .i64 0), .sl (TP), .sl (ZZ), .eq (.int .i64 0)]) (by kernel_rfl) (phi_mono _) (by kernel_rfl) (by kernel_rfl) (by rfl) (HS22.out.drew) (Go.Rg.steps_ok ?st7) ?fi7
     case st7 =>
      refine ⟨fun a w hat K hK => ?_, ?_⟩
      ·have e6 : a.tmps[6]?.getD undef = .pointer (some ⟨gF, 0, none⟩) := hat.b 6
       have hSt := hat.st
       rw [if_pos (by rfl)]
       go_simp
       exact hK.out _ _ hSt (Below.refl _ _) rfl
      refine ⟨fun a w hat K hK => ?_, ?_⟩
      ·have e6 : a.tmps[6]?.getD undef = .pointer (some ⟨gF, 0, none⟩) := hat.b 6
       have hSt := hat.st
       rw [if_pos (by rfl)]
       go_simp
       exact hK.out _ _ hSt (Below.refl _ _) rfl
      refine ⟨mv fun a w hat => ⟨_, _, hat.b 12, (HN32_12.out.below hat.st.2.2.2.1.out)⟩, ?_⟩
      refine ⟨mv fun a w hat => ⟨_, _, hat.b 8, (HN32_8.out.below hat.st.2.2.2.1.out)⟩, ?_⟩
      refine ⟨fun a w hat K hK => ?_, ?_⟩
      ·have e135 : a.tmps[135]?.getD undef = FV F b cap := hat.d 1 135
       obtain ⟨a136, c136, e136, n136⟩ := (show (Kd.sl (TP)).ok F b cap (a.tmps[136]?.getD undef) w from hat.d 2 136)
       obtain ⟨a137, c137, e137, n137⟩ := (show (Kd.sl (M)).ok F b cap (a.tmps[137]?.getD undef) w from hat.d 3 137)
       have hSt := hat.st
       rw [if_pos (by rfl)]
       go_simp
       go_at_call 23
       with_reducible refine (pmul_po (hSt.2.2.2.2.1.out.ops) HPT.out HPM.out (by decide) (by decide) n136 n137).mono ?_
       rintro z' v' ⟨a', c', rfl, hn', hb⟩
       exact hK.out _ _ (SL.keep hSt hb) hb ⟨a', c', rfl, hn'⟩
      refine ⟨mv fun a w hat => ⟨_, _, hat.b 8, (HN32_8.out.below hat.st.2.2.2.1.out)⟩, ?_⟩
      refine ⟨fun a w hat K hK => ?_, ?_⟩
      ·have e134 : a.tmps[134]?.getD undef = FV F b cap := hat.d 0 134
       obtain ⟨a138, c138, e138, n138⟩ := (show (Kd.sl (mulP F TP M)).ok F b cap (a.tmps[138]?.getD undef) w from hat.d 4 138)
       obtain ⟨a139, c139, e139, n139⟩ := (show (Kd.sl (M)).ok F b cap (a.tmps[139]?.getD undef) w from hat.d 5 139)
       have hSt := hat.st
       rw [if_pos (by rfl)]
       go_simp
       go_at_call 17
       with_reducible refine (dm_po (hSt.2.2.2.2.1.out.ops) HPMU.out HPM.out HM0.out HDM2.out (by decide) (by decide) n138 n139).mono ?_
       rintro z' v' ⟨a', c', a2', c2', rfl, hn', hn2', hb⟩
       exact hK.out _ _ (SL.keep hSt hb) hb ⟨a', c', a2', c2', rfl, hn', hn2'⟩
      refine ⟨mv fun a w hat => hat.d 6 140, ?_⟩
      refine ⟨fun a w hat K hK => ?_, ?_⟩
      ·obtain ⟨a133, c133, a'133, c'133, e133, n133, n'133⟩ := (show (Kd.dm (TP) (ZZ)).ok F b cap (a.tmps[133]?.getD undef) w from hat.d 7 133)
       have hSt := hat.st
       rw [if_pos (by rfl)]
       go_simp
       exact hK.out _ _ hSt (Below.refl _ _) ⟨a133, c133, rfl, n133⟩
      refine ⟨fun a w hat K hK => ?_, ?_⟩
      ·obtain ⟨a133, c133, a'133, c'133, e133, n133, n'133⟩ := (show (Kd.dm (TP) (ZZ)).ok F b cap (a.tmps[133]?.getD undef) w from hat.d 7 133)
       have hSt := hat.st
       rw [if_pos (by rfl)]
       go_simp
       exact hK.out _ _ hSt (Below.refl _ _) ⟨a'133, c'133, rfl, n'133⟩
      refine ⟨fun a w hat K hK => ?_, ?_⟩
      ·obtain ⟨a133, c133, a'133, c'133, e133, n133, n'133⟩ := (show (Kd.dm (TP) (ZZ)).ok F b cap (a.tmps[133]?.getD undef) w from hat.d 7 133)
       have hSt := hat.st
       rw [if_pos (by rfl)]
       go_simp
       exact hK.out _ _ hSt (Below.refl _ _) rfl
      refine ⟨mv fun a w hat => hat.d 8 141, ?_⟩
      refine ⟨mv fun a w hat => hat.d 9 142, ?_⟩
      refine ⟨mv fun a w hat => hat.d 10 143, ?_⟩
      exact trivial
     intro a w33 hsz hdf hbase hSt hval
     obtain ⟨t, df⟩ := a
     have et := Go.Rg.tmps_of hsz [134, 135, 136, 137, 138, 139, 140, 133, 141, 142, 143, 17, 18, 19] (fun k hk => hbase k (Go.Rg.base_of (by kernel_rfl) hk))
     obtain ⟨p17, q17, x17, m17⟩ := (show (Kd.sl (TP)).ok F b cap (t.getD 17 undef) w33 from hval 11 17 (by kernel_rfl))
     obtain ⟨p18, q18, x18, m18⟩ := (show (Kd.sl (ZZ)).ok F b cap (t.getD 18 undef) w33 from hval 12 18 (by kernel_rfl))
     have x19 : t.getD 19 undef = .int .i64 0 := hval 13 19 (by kernel_rfl)
     clear hval hbase hsz
     simp only [List.foldl_cons, List.foldl_nil, x17, x18, x19] at et
     rw [et]
     have hdf' : df = _ := hdf
     rw [hdf']
     simp only [List.setIfInBounds_toArray, List.set_cons_zero, List.set_cons_succ]
     clear et hdf hdf'
     have HN33_8 := Lib.hid (HN32_8.out.below hSt.2.2.2.1.out)
     have HN33_12 := Lib.hid (HN32_12.out.below hSt.2.2.2.1.out)
     have HN33_17 := Lib.hid m17
     have HN33_18 := Lib.hid m18
     clear m17 m18
     have HS24 := Lib.hid hSt.start
     clear hSt
     go_upto_region 25 with (fail)
     have HEQ25_12 : Hid (M = M) := Lib.hid (rfl)
     refine Go.Rg.region_seq (S := fun w' => SL W w33 gF F b cap (.int .u8 (q : Nat)) (.slice aA A.length cA) (.slice aB B.length cB) (.slice aC C.length cC) w') (R := fun w w' => Below w.heap.size w w') (φ := phi F b cap [.eq (.int .i64 0), .eq (.bool true), .eq (.bool true), .sl (ZZ), .eq (.int .i64 ((ZZ).length : Nat)), .eq (.bool true), .eq (.bool true), .eq (.bool true), .eq (FV F b cap), .eq (.int .i64 (pb : Nat)), .sl (M), .sl (M), .eq (.bool true), .eq (.bool true), .eq (.bool true), .eq (.bool true), .eq (.bool true), .eq (.bool true)]) (phi_mono _) (by kernel_rfl) (by kernel_rfl) (by rfl) (HS24.out) ?st8 ?fi8
     case st8 =>
      refine ⟨mv fun a w hat => hat.b 19, ?_⟩
      refine ⟨fun a w hat K hK => ?_, ?_⟩
      ·have e144 : a.tmps[144]?.getD undef = .int .i64 0 := hat.d 0 144
       have hSt := hat.st
       rw [if_pos (by rfl)]
       go_simp
       exact hK.out _ _ hSt (Below.refl _ _) rfl
      refine ⟨mv fun a w hat => hat.d 1 145, ?_⟩
      refine ⟨mvg 2 146 true fun a w hat => ⟨_, _, hat.b 18, (HN33_18.out.below hat.st.2.2.2.1.out)⟩, ?_⟩
      refine ⟨fun a w hat K hK => ?_, ?_⟩
      ·obtain ⟨a147, c147, e147, n147⟩ := (show (Kd.sl (ZZ)).ok F b cap (a.tmps[147]?.getD undef) w from hat.d 3 147)
       have hSt := hat.st
       rw [if_pos (wy hat 2 146 true)]
       go_simp
       exact hK.out _ _ hSt (Below.refl _ _) rfl
      refine ⟨fun a w hat K hK => ?_, ?_⟩
      ·have e148 : a.tmps[148]?.getD undef = .int .i64 ((ZZ).length : Nat) := hat.d 4 148
       have hSt := hat.st
       rw [if_pos (wy hat 2 146 true)]
       go_simp
       exact hK.out _ _ hSt (Below.refl _ _) rfl
      refine ⟨fun a w hat K hK => ?_, ?_⟩
      ·have e146 : a.tmps[146]?.getD undef = .bool true := hat.d 2 146
       have e149 : a.tmps[149]?.getD undef = .bool true := hat.d 5 149
       have hSt := hat.st
       rw [if_pos (by rfl)]
       go_simp
       exact hK.out _ _ hSt (Below.refl _ _) rfl
      refine ⟨mv fun a w hat => hat.d 6 150, ?_⟩
      refine ⟨fun a w hat K hK => ?_, ?_⟩
      ·have e6 : a.tmps[6]?.getD undef = .pointer (some ⟨gF, 0, none⟩) := hat.b 6
       have hSt := hat.st
       rw [if_pos (wy hat 7 151 true)]
       go_simp
       exact hK.out _ _ hSt (Below.refl _ _) rfl
      refine ⟨mvg 7 151 true fun a w hat => hat.b 10, ?_⟩
      refine ⟨fun a w hat K hK => ?_, ?_⟩
      ·have e152 : a.tmps[152]?.getD undef = FV F b cap := hat.d 8 152
       have e153 : a.tmps[153]?.getD undef = .int .i64 (pb : Nat) := hat.d 9 153
       have hSt := hat.st
       rw [if_pos (wy hat 7 151 true)]
       go_simp
       go_at_call 31
       with_reducible refine (HMC2.out _ hSt.2.2.2.2.1.out).mono ?_
       rintro z' v' ⟨a', c', rfl, hn', hb⟩
       exact hK.out _ _ (SL.keep hSt hb) hb ⟨a', c', rfl, hn'⟩
      refine ⟨mvg 7 151 true fun a w hat => ⟨_, _, hat.b 8, (HN33_8.out.below hat.st.2.2.2.1.out)⟩, ?_⟩
      refine ⟨fun a w hat K hK => ?_, ?_⟩
      ·obtain ⟨a154, c154, e154, n154⟩ := (show (Kd.sl (M)).ok F b cap (a.tmps[154]?.getD undef) w from hat.d 10 154)
       obtain ⟨a155, c155, e155, n155⟩ := (show (Kd.sl (M)).ok F b cap (a.tmps[155]?.getD undef) w from hat.d 11 155)
       have hSt := hat.st
       rw [if_pos (wy hat 7 151 true)]
       go_simp
       go_at_call 14
       with_reducible refine (ints_po HPM.out HPM.out HEQ25_12.out (by decide) (by decide) n154 n155).mono ?_
       rintro z' v' ⟨rfl, hb⟩
       exact hK.out _ _ (SL.keep hSt hb) hb rfl
      refine ⟨fun a w hat K hK => ?_, ?_⟩
      ·have e151 : a.tmps[151]?.getD undef = .bool true := hat.d 7 151
       have e156 : a.tmps[156]?.getD undef = .bool true := hat.d 12 156
       have hSt := hat.st
       rw [if_pos (by rfl)]
       go_simp
       exact hK.out _ _ hSt (Below.refl _ _) rfl
      refine ⟨mv fun a w hat => hat.d 13 157, ?_⟩
      refine ⟨mvg 14 158 true fun a w hat => hat.b 5, ?_⟩
      refine ⟨fun a w hat K hK => ?_, ?_⟩
      ·have e158 : a.tmps[158]?.getD undef = .bool true := hat.d 14 158
       have e159 : a.tmps[159]?.getD undef = .bool true := hat.d 15 159
       have hSt := hat.st
       rw [if_pos (by rfl)]
       go_simp
       exact hK.out _ _ hSt (Below.refl _ _) rfl
      refine ⟨mv fun a w hat => hat.d 16 160, ?_⟩
      exact trivial
     intro a w34 hsz hdf hbase hSt hval
     obtain ⟨t, df⟩ := a
     have et := Go.Rg.tmps_of hsz [144, 145, 146, 147, 148, 149, 150, 151, 152, 153, 154, 155, 156, 157, 158, 159, 160, 4] (fun k hk => hbase k (Go.Rg.base_of (by kernel_rfl) hk))
     have x4 : t.getD 4 undef = .bool true := hval 17 4 (by kernel_rfl)
     clear hval hbase hsz
     simp only [List.foldl_cons, List.foldl_nil, x4] at et
     rw [et]
     have hdf' : df = _ := hdf
     rw [hdf']
     simp only [List.setIfInBounds_toArray, List.set_cons_zero, List.set_cons_succ]
     clear et hdf hdf'
     have HN34_8 := Lib.hid (HN33_8.out.below hSt.2.2.2.1.out)
     have HN34_12 := Lib.hid (HN33_12.out.below hSt.2.2.2.1.out)
     have HN34_17 := Lib.hid (HN33_17.out.below hSt.2.2.2.1.out)
     have HN34_18 := Lib.hid (HN33_18.out.below hSt.2.2.2.1.out)
     have HBF := Lib.hid hSt.2.2.1.out
     clear hSt
     go_wp2
     go_ret
     exact ⟨rfl, HBF.out⟩
end Go.Proofs.Ytllecfhfhcmpaaa

/-
  For every value of type Lists and every byte the law PolyMinimal answers true and leaves them as they were: no condition.
-/
namespace Go.Proofs.Ytllecfhfhcmpaaa.polyMinimal
open Go.ChangeShapes Go.WideShapes Go.ChangeAt Go.RowKit
set_option linter.unusedVariables false      -- a walk need not use every 'w<i>' (that an integer argument fits its kind)

/-! ### STEP 1: the law: minimal_law -/

/-! ### THE ROW's STEP: WRITTEN OUT: LEAVE IT -/
set_option maxRecDepth 100000 in
theorem lifted (os : Os) (started : os.Started) (H : Type) (enc : TypeId × Value → H) :
  ReturnsInHanded {} Try.checked os 9 .any (Rows.polyMinimalSpec.pre6 enc Try.prog Try.f9 Rows.polyMinimalRow.domain false) (Rows.polyMinimalSpec.post enc Try.prog Try.f9 false true false false) := by
 refine returnsInHanded_of_change (C := Try.checked) own started (by kernel_rfl) Try.func9
  (ChangeSpec.witness6 (enc := enc) (C := Try.checked) false ⟨#[], #[.agg #[.int .u8 0, .slice none 0 0, .slice none 0 0, .slice none 0 0], .int .u8 0], []⟩ 8 (by kernel_rfl) (by kernel_rfl) (by kernel_rfl) (by kernel_rfl)) ?_
 intro W base args ds gs before hval0 hW hcnd _
 letI : Go.Ev.Rho := Go.Ev.rhoN (fun _ => 0)
 have hval : ∀ (j : Nat) t v, Try.f9.params[j]? = some t → args[j]? = some v → Value.okWide Try.prog W .any base t v := hval0
 have hW' := hW
 obtain ⟨p, q, hA0, hV, rfl, hfz, hnd⟩ := hW
 have hA : DataW.TrodAll enc Try.prog W 0 (fun _ => true) true Try.f9.params.toList args.toList ds p := hA0
 rw [Try.params9] at hA hval
 obtain ⟨v0, vs0, d0, ds0, p0, q0, hargs, rfl, rfl, h0, r0⟩ := trodAll_cons hA
 obtain ⟨v1, vs1, d1, ds1, p1, q1, e1, rfl, rfl, h1, r1⟩ := trodAll_cons r0
 obtain ⟨rfl, rfl, rfl⟩ := trodAll_nil r1
 subst e1
 obtain rfl : args = #[v0, v1] := by cases args; simp_all
 obtain ⟨rfl, rfl⟩ := trodVars_none hV
 obtain ⟨z, va, vb, vc, da, db, dc, pa, pb, pc, rfl, rfl, rfl, w0, ⟨hva, hta⟩, ⟨hvb, htb⟩, ⟨hvc, htc⟩⟩ := open_lists (hval 0 24 v0 rfl rfl) h0
 obtain ⟨A, aA, cA, XA⟩ := argB hva hta
 obtain ⟨B, aB, cB, XB⟩ := argB hvb htb
 obtain ⟨C, aC, cC, XC⟩ := argB hvc htc
 have sa : va.cells.toList = [va] := by rw [XA.is]; rfl
 have sb : vb.cells.toList = [vb] := by rw [XB.is]; rfl
 have sc : vc.cells.toList = [vc] := by rw [XC.is]; rfl
 obtain ⟨zn, hz, hzn⟩ := bd8 w0
 obtain ⟨a1, rfl, rfl, rfl, w1⟩ := open_int u5 (hval 1 5 v1 rfl rfl) h1
 obtain ⟨yn, hy, hyn⟩ := bd8 w1
 clear hA0 hval0
 have key : Calls Try.prog 9 #[.agg #[.int .u8 z, va, vb, vc], .int .u8 a1] W fun e w' => e = .returned (.bool true) ∧ Below W.heap.size W w' := by
  rw [XA.is, XB.is, XC.is, hz, hy]
  exact minimal_law hzn hyn XA.by' XB.by' XC.by' XA.len XB.len XC.len XA.given XB.given XC.given
 refine key.mono fun e W' ⟨he, hg⟩ => ?_
 subst he
 refine ⟨_, rfl, Go.Ev.post_low (pa := (pa ++ (pb ++ pc)) ++ ([] ++ [])) (pv := []) hW' (fun _ _ _ => (trodAll_cons_mk (shut_bool Try.underlying4 _) trodAll_mk0))
  (fun sp hsp => (trodAll_cons_mk (shut_lists w0 sa sb sc (XA.shut W' hg sp (fun q hq => hsp q (by simp [hq]))) (XB.shut W' hg sp (fun q hq => hsp q (by simp [hq]))) (XC.shut W' hg sp (fun q hq => hsp q (by simp [hq])))) (trodAll_cons_mk (shut_int u5 w1) trodAll_mk0))) (fun _ _ => rfl) rfl
  hg (ok_one (by kernel_rfl) rfl (okWide_bool_mk Try.underlying4 _))⟩

theorem over : Rows.polyMinimalRow.holds Try.pinned (OpenSpec.ofChange Rows.polyMinimalSpec) :=
 OpenClaim.holds_of_wide 9 Try.f9 rfl rfl rfl rfl rfl rfl rfl ⟨rfl, rfl, rfl, rfl, rfl⟩ rfl rfl rfl rfl rfl (by kernel_rfl) Try.func9 (by kernel_rfl)
  (of_decide_eq_true (by kernel_rfl)) (by unfold Func.isWrapper; first | (rw [if_pos (by decide +kernel)]; kernel_rfl) | (rw [if_neg (by decide +kernel)]; exact ⟨rfl, rfl⟩))
  (fun os started H enc _ => lifted os started H enc)

/-- ████ THE STATEMENT ████ -/
theorem proved : Rows.PolyMinimalSaid :=
 over
#print axioms proved
end Go.Proofs.Ytllecfhfhcmpaaa.polyMinimal
