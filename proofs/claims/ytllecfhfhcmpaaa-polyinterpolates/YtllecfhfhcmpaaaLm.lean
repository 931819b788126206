/- PolyInterpolates: the walk. -/
import Derived.Test.YtllecfhfhcmpaaaLl
namespace Go.Proofs.Ytllecfhfhcmpaaa
open Go.RowKit Go.Fl Go.Rg
set_option maxRecDepth 100000
set_option linter.unusedVariables false
set_option linter.unusedSimpArgs false
set_option linter.unusedSectionVars false

def lenV : Value → Nat
 | .slice _ l _ => l
 | _ => 0
theorem one_cell {w : World} {x : Value} : ∀ j u, [x][j]? = some u → (w.alloc (.cells #[x] 3)).cell? ((⟨w.heap.size, 0, none⟩ : Addr).add j) = some u := cell_one_new w x 3
theorem one_one {x : Nat} : ∀ u ∈ [Value.int .i64 (x : Nat)], u.oneCell' = true := fun u hu => by simp at hu; subst hu; rfl
theorem own_sh {w : World} {B n : Nat} {v : Value} {xs : List Value} (h : w.ownsRow B 3 1 v n xs) : ∃ a c, v = .slice a n c := by
 rcases h.2 with ⟨rfl, rfl⟩ | ⟨g', cap, cur, rfl, _⟩
 ·exact ⟨_, _, rfl⟩
 ·exact ⟨_, _, rfl⟩
theorem cell_newE {w : World} {x : Value} {b : Nat} (e : b = w.heap.size) : (w.alloc (.cells #[x] 3)).cell? ⟨b, 0, none⟩ = some x := by
 subst e
 exact World.cell?_alloc_at _ _ _ _ rfl
theorem cell_new2E {w : World} {x : Value} {o : Obj} {b : Nat} (e : b = w.heap.size) : ((w.alloc (.cells #[x] 3)).alloc o).cell? ⟨b, 0, none⟩ = some x := by
 have hb : Below (w.alloc (.cells #[x] 3)).heap.size (w.alloc (.cells #[x] 3)) ((w.alloc (.cells #[x] 3)).alloc o) := (Below.refl _ _).alloc (Nat.le_refl _) _
 exact (hb.cell (p := ⟨b, 0, none⟩) (by subst e; simp)).trans (cell_newE e)
theorem one_cellE {w : World} {x : Value} {b : Nat} (e : b = w.heap.size) : ∀ j u, [x][j]? = some u → (w.alloc (.cells #[x] 3)).cell? ((⟨b, 0, none⟩ : Addr).add j) = some u := by
 subst e
 exact one_cell
theorem one_cell2E {w : World} {x : Value} {o : Obj} {b : Nat} (e : b = w.heap.size) : ∀ j u, [x][j]? = some u → ((w.alloc (.cells #[x] 3)).alloc o).cell? ((⟨b, 0, none⟩ : Addr).add j) = some u := by
 subst e
 exact one_cell2
theorem dup_head {X : List Nat} (h : 0 < X.length) : ¬ (X ++ [X.getD 0 0]).Nodup := fun hd => by
 cases X with
 | nil => simp at h
 | cons x X => simp [List.nodup_append] at hd
theorem NN.tailc {L : List Nat} {w : World} {b n c : Nat} (h : NN L w (.slice (some ⟨b, 0, none⟩) n c)) (hl : 0 < L.length) : NN L.tail w (.slice (if c = 1 then some ⟨b, 0, none⟩ else some ⟨b, 1, none⟩) L.tail.length (c - 1)) := by
 rcases h with ⟨e, h⟩ | ⟨b', off', cap', h, g1, g2, g3⟩
 ·rw [e] at hl; simp at hl
 ·cases h
  by_cases hc : c = 1
  ·rw [if_pos hc]
   refine .inr ⟨b, 0, c - 1, rfl, by rw [List.length_tail]; omega, g2, fun t ht => ?_⟩
   rw [List.length_tail] at ht
   omega
  ·rw [if_neg hc]
   refine .inr ⟨b, 1, c - 1, rfl, by rw [List.length_tail]; omega, g2, fun t ht => ?_⟩
   rw [List.length_tail] at ht
   have := g3 (t + 1) (by omega)
   rw [show 1 + t = 0 + (t + 1) by omega, this]
   cases L with
   | nil => simp at hl
   | cons x L => rfl
set_option maxHeartbeats 25600000 in
theorem interp_law {q c0 c1 : Nat} {A B C : List Nat} {aA aB aC : Option Addr} {cA cB cC : Nat} {W : World} (hq : q ≤ 255) (h0 : c0 ≤ 255) (h1 : c1 ≤ 255) (hA : By A) (hB : By B) (hC : By C) (lA : A.length ≤ maxLen) (lB : B.length ≤ maxLen) (lC : C.length ≤ maxLen)
  (na : N8 A W (.slice aA A.length cA)) (nb : N8 B W (.slice aB B.length cB)) (nc : N8 C W (.slice aC C.length cC)) :
  Calls Try.prog 8 #[.agg #[.int .u8 (q : Nat), .slice aA A.length cA, .slice aB B.length cB, .slice aC C.length cC], .agg #[.int .u8 (c0 : Nat), .int .u8 (c1 : Nat)]] W fun e w' => e = .returned (.bool true) ∧ Below W.heap.size W w' := by
 have HQ := Lib.hid hq
 have HEX := Lib.hid examples_c
 have HOF := Lib.hid (fun w => of01_c q hq w)
 have HB0 : Hid (Below W.heap.size W ((W.alloc (.cells #[.int .u8 (q : Nat), .slice aA A.length cA, .slice aB B.length cB, .slice aC C.length cC] 24)).alloc (.cells #[.int .u8 (c0 : Nat), .int .u8 (c1 : Nat)] 49))) := Lib.hid (((Below.refl _ _).alloc (Nat.le_refl _) _).alloc (by simp) _)
 have HL0 : Hid (LB W.heap.size (.int .u8 (q : Nat)) (.slice aA A.length cA) (.slice aB B.length cB) (.slice aC C.length cC) ((W.alloc (.cells #[.int .u8 (q : Nat), .slice aA A.length cA, .slice aB B.length cB, .slice aC C.length cC] 24)).alloc (.cells #[.int .u8 (c0 : Nat), .int .u8 (c1 : Nat)] 49))) := Lib.hid
  (LB.keep (k := W.heap.size + 1) ⟨World.cell?_alloc_at _ _ _ _ rfl, World.cell?_alloc_at _ _ _ _ rfl, World.cell?_alloc_at _ _ _ _ rfl, World.cell?_alloc_at _ _ _ _ rfl⟩ ((Below.refl _ _).alloc (by simp) _) (by omega))
 have HK0 : Hid (KB (W.heap.size + 1) c0 c1 ((W.alloc (.cells #[.int .u8 (q : Nat), .slice aA A.length cA, .slice aB B.length cB, .slice aC C.length cC] 24)).alloc (.cells #[.int .u8 (c0 : Nat), .int .u8 (c1 : Nat)] 49))) := Lib.hid (by
  have e : W.heap.size + 1 = (W.alloc (.cells #[.int .u8 (q : Nat), .slice aA A.length cA, .slice aB B.length cB, .slice aC C.length cC] 24)).heap.size := by simp
  rw [e]
  exact ⟨World.cell?_alloc_at _ _ _ _ rfl, World.cell?_alloc_at _ _ _ _ rfl⟩)
 have HZ0 : Hid (W.heap.size + 1 < ((W.alloc (.cells #[.int .u8 (q : Nat), .slice aA A.length cA, .slice aB B.length cB, .slice aC C.length cC] 24)).alloc (.cells #[.int .u8 (c0 : Nat), .int .u8 (c1 : Nat)] 49)).heap.size) := Lib.hid (by simp)
 obtain ⟨i0, hi, hz0, hz1, hz2⟩ := info_parts info3
 clear hq
 go_enter Try.func8, Try.ntmps8
 go_wp2_with fail
 with_reducible refine (HEX.out _).mono ?_
 rintro z w1 ⟨rfl, hb1⟩
 have HB1 := Lib.hid (HB0.out.trans (hb1.mono HB0.out.size))
 have HL1 := Lib.hid (HL0.out.keep hb1 (Nat.lt_of_succ_lt HZ0.out))
 have HK1 := Lib.hid (HK0.out.keep hb1 HZ0.out)
 have HZ1 : Hid (W.heap.size + 1 < w1.heap.size) := Lib.hid (Nat.lt_of_lt_of_le HZ0.out hb1.size)
 clear hb1 HB0 HL0 HZ0 HK0
 have hL1 := HL1.out
 obtain ⟨l0, l1, l2, l3⟩ := hL1
 go_wp2_with fail
 with_reducible refine (HOF.out _).mono ?_
 generalize fdOfByte q = F
 rintro z w2 ⟨b, cap, rfl, hfd, hb2⟩
 have HFF : Hid (Ok F) := Lib.hid (ok_mem hfd.mem)
 have HSS : Hid (SL W (w2.alloc (.cells #[.int .i64 F.p, .int .i64 F.e, FM F b cap] 28)) w2.heap.size F b cap (.int .u8 (q : Nat)) (.slice aA A.length cA) (.slice aB B.length cB) (.slice aC C.length cC) (w2.alloc (.cells #[.int .i64 F.p, .int .i64 F.e, FM F b cap] 28))) := Lib.hid (by
  have ha : Below w2.heap.size w2 (w2.alloc (.cells #[.int .i64 F.p, .int .i64 F.e, FM F b cap] 28)) := (Below.refl _ _).alloc (Nat.le_refl _) _
  have hz := HZ1.out
  have hs := hb2.size
  exact ⟨⟨World.cell?_alloc_at _ _ _ _ rfl, World.cell?_alloc_at _ _ _ _ rfl, World.cell?_alloc_at _ _ _ _ rfl⟩, (HL1.out.keep hb2 (by omega)).keep ha (by omega), Lib.hid ((HB1.out.trans (hb2.mono HB1.out.size)).trans (ha.mono (by omega))), Lib.hid (Below.refl _ _), Lib.hid (hfd.below ha), Lib.hid (by simp; omega)⟩)
 have HKK : Hid (KB (W.heap.size + 1) c0 c1 (w2.alloc (.cells #[.int .i64 F.p, .int .i64 F.e, FM F b cap] 28))) := Lib.hid ((HK1.out.keep hb2 HZ1.out).keep (k := w2.heap.size) ((Below.refl _ _).alloc (Nat.le_refl _) _) (by have := HZ1.out; have := hb2.size; omega))
 have HZK : Hid (W.heap.size + 1 < (w2.alloc (.cells #[.int .i64 F.p, .int .i64 F.e, FM F b cap] 28)).heap.size) := Lib.hid (by have := HZ1.out; have := hb2.size; simp; omega)
 clear hfd hb2 HB1 HL1 HZ1 HK1 HOF l0 l1 l2 l3
 obtain ⟨gF, hgF⟩ : ∃ gF, gF = w2.heap.size := ⟨_, rfl⟩
 rw [← hgF] at HSS
 have HGF := Lib.hid hgF
 clear hgF
 go_upto_region 5 with (fail)
 rw [← HGF.out]
 generalize (w2.alloc (.cells #[.int .i64 F.p, .int .i64 F.e, FM F b cap] 28)) = w0 at *
 clear HGF
 have NA := Lib.hid na
 have NB := Lib.hid nb
 have hq1 : 1 < F.q := HFF.out.one_lt
 have hq64 : F.q ≤ 64 := HFF.out.q64
 obtain ⟨m0, hm0⟩ : ∃ m, c0 % 8 = m := ⟨_, rfl⟩
 have hm8 : m0 < 8 := by omega
 obtain ⟨n, HMN⟩ : ∃ n, Hid ((F.q < 1 + m0 ∧ n = F.q) ∨ (¬ F.q < 1 + m0 ∧ n = 1 + m0)) := by
  by_cases h : F.q < 1 + m0
  ·exact ⟨_, Lib.hid (.inl ⟨h, rfl⟩)⟩
  ·exact ⟨_, Lib.hid (.inr ⟨h, rfl⟩)⟩
 have hn8 : n ≤ 8 := by have := HMN.out; omega
 have hn1 : 0 < n := by have := HMN.out; omega
 have hnq : n ≤ F.q := by have := HMN.out; omega
 have hmod8 : ((c0 : Int)).tmod 8 = (m0 : Int) := by rw [← hm0, Int.tmod_eq_emod_of_nonneg (by omega)]; rfl
 have hmod8' : (c0 : Int) % 8 = (m0 : Int) := by rw [← hm0]; rfl
 have hwm : IntKind.u8.wrap (m0 : Int) = (m0 : Int) := by simp [IntKind.wrap, IntKind.signed, IntKind.bits]; omega
 have hwm2 : IntKind.i64.wrap (m0 : Int) = (m0 : Int) := IntWalk.i64_in _ (by omega)
 have hwm1 : IntKind.i64.wrap (1 + (m0 : Int)) = ((1 + m0 : Nat) : Int) := (IntWalk.i64_in _ (by omega)).trans (by omega)
 obtain ⟨LA, hLA⟩ : ∃ l, Hid (ofL F A n = l) := ⟨_, rfl⟩
 obtain ⟨LB', hLB⟩ : ∃ l, Hid (ofL F B n = l) := ⟨_, rfl⟩
 have HIA : Hid (In F LA ∧ LA.length ≤ n) := Lib.hid (by rw [← hLA.out]; exact ⟨ofL_in HFF.out A n, ofL_len F A n⟩)
 have HIB : Hid (In F LB' ∧ LB'.length ≤ n) := Lib.hid (by rw [← hLB.out]; exact ⟨ofL_in HFF.out B n, ofL_len F B n⟩)
 have HCA : Hid (∀ w, Below W.heap.size W w → Calls Try.prog 13 #[FV F b cap, .slice aA A.length cA, .int .i64 (n : Nat)] w (SlPost LA w)) := Lib.hid (fun w hw => by rw [← hLA.out]; exact of04_c HFF.out hA rfl lA (by omega) (NA.out.below hw))
 have HCB : Hid (∀ w, Below W.heap.size W w → Calls Try.prog 13 #[FV F b cap, .slice aB B.length cB, .int .i64 (n : Nat)] w (OwnPost LB' w)) := Lib.hid (fun w hw => by rw [← hLB.out]; exact of04_own HFF.out hB rfl lB (by omega) (NB.out.below hw))
 obtain ⟨TA, hTA⟩ : ∃ l, Hid (trL LA = l) := ⟨_, rfl⟩
 have HPA : Hid (PL F 8 TA) := Lib.hid (by rw [← hTA.out]; exact pl_tr HIA.out.1 (by have := HIA.out.2; omega))
 have HTN : Hid (TA.length ≤ n) := Lib.hid (by rw [← hTA.out]; exact Nat.le_trans (trL_len LA) HIA.out.2)
 have HTA : Hid (∀ w a c, NN LA w (.slice a LA.length c) → Calls Try.prog 15 #[.slice a LA.length c] w (SlPost TA w)) := Lib.hid (fun w a c hn => by rw [← hTA.out]; exact trim_c (by have := HIA.out.2; omega) rfl hn)
 letI : OkC F := ⟨HFF.out⟩
 clear na nb nc hA hB hC lA lB lC
 refine Go.Rg.region_seq (S := fun w' => SL W w0 gF F b cap (.int .u8 (q : Nat)) (.slice aA A.length cA) (.slice aB B.length cB) (.slice aC C.length cC) w') (R := fun w w' => Below w.heap.size w w') (φ := phi F b cap [.eq (FV F b cap), .eq (.int .i64 (F.q : Nat)), .eq (.int .i64 (F.q : Nat))]) (phi_mono _) (by kernel_rfl) (by kernel_rfl) (by rfl) (HSS.out) ?st1 ?fi1
 case st1 =>
  refine ⟨fun a w hat K hK => ?_, ?_⟩
  ·have e6 : a.tmps[6]?.getD undef = .pointer (some ⟨gF, 0, none⟩) := hat.b 6
   have hSt := hat.st
   rw [if_pos (by rfl)]
   go_simp
   exact hK.out _ _ hSt (Below.refl _ _) rfl
  refine ⟨fun a w hat K hK => ?_, ?_⟩
  ·have e30 : a.tmps[30]?.getD undef = FV F b cap := hat.d 0 30
   have hSt := hat.st
   rw [if_pos (by rfl)]
   go_simp
   go_at_call 12
   with_reducible refine (size_c HFF.out b cap w).mono ?_
   rintro z' v' ⟨rfl, hb⟩
   exact hK.out _ _ (SL.keep hSt hb) hb rfl
  refine ⟨mv fun a w hat => hat.d 1 31, ?_⟩
  exact trivial
 intro a w1 hsz hdf hbase hSt hval
 obtain ⟨t, df⟩ := a
 have et := Go.Rg.tmps_of hsz [30, 31, 7] (fun k hk => hbase k (Go.Rg.base_of (by kernel_rfl) hk))
 have x7 : t.getD 7 undef = .int .i64 (F.q : Nat) := hval 2 7 (by kernel_rfl)
 clear hval hbase hsz
 simp only [List.foldl_cons, List.foldl_nil, x7] at et
 rw [et]
 have hdf' : df = _ := hdf
 rw [hdf']
 simp only [List.setIfInBounds_toArray, List.set_cons_zero, List.set_cons_succ]
 clear et hdf hdf'
 generalize t.getD 30 undef = j30
 generalize t.getD 31 undef = j31
 have HS5 := Lib.hid hSt.start
 have HK5 := Lib.hid (HKK.out.keep hSt.2.2.2.1.out HZK.out)
 have HBK := Lib.hid hSt.2.2.2.1.out.size
 clear hSt HSS HKK
 go_upto_region 6 with (fail)
 refine Go.Rg.region_seq (S := fun w' => SL W w1 gF F b cap (.int .u8 (q : Nat)) (.slice aA A.length cA) (.slice aB B.length cB) (.slice aC C.length cC) w') (R := fun w w' => Below w.heap.size w w') (φ := phi F b cap [.eq (.int .i64 (F.q : Nat)), .eq (.pointer (some ⟨W.heap.size + 1, 0, none⟩)), .eq (.int .u8 (c0 : Nat)), .eq (.int .u8 (m0 : Nat)), .eq (.int .i64 (m0 : Nat)), .eq (.int .i64 ((1 + m0 : Nat) : Int)), .eq (.int .i64 (n : Nat)), .eq (.int .i64 (n : Nat))]) (phi_mono _) (by kernel_rfl) (by kernel_rfl) (by rfl) (HS5.out) ?st2 ?fi2
 case st2 =>
  refine ⟨mv fun a w hat => hat.b 7, ?_⟩
  refine ⟨fun a w hat K hK => ?_, ?_⟩
  ·have e3 : a.tmps[3]?.getD undef = .pointer (some ⟨W.heap.size + 1, 0, none⟩) := hat.b 3
   have hSt := hat.st
   rw [if_pos (by rfl)]
   go_simp
   exact hK.out _ _ hSt (Below.refl _ _) rfl
  refine ⟨fun a w hat K hK => ?_, ?_⟩
  ·have e33 : a.tmps[33]?.getD undef = .pointer (some ⟨W.heap.size + 1, 0, none⟩) := hat.d 1 33
   have hSt := hat.st
   rw [if_pos (by rfl)]
   have hc := (hSt.2.2.2.1.out.cell (p := ⟨W.heap.size + 1, 0, none⟩) (Nat.lt_of_lt_of_le HZK.out HBK.out)).trans HK5.out.1
   go_simp
   exact hK.out _ _ hSt (Below.refl _ _) rfl
  refine ⟨fun a w hat K hK => ?_, ?_⟩
  ·have e34 : a.tmps[34]?.getD undef = .int .u8 (c0 : Nat) := hat.d 2 34
   have hSt := hat.st
   rw [if_pos (by rfl)]
   go_simp
   exact hK.out _ _ hSt (Below.refl _ _) rfl
  refine ⟨fun a w hat K hK => ?_, ?_⟩
  ·have e35 : a.tmps[35]?.getD undef = .int .u8 (m0 : Nat) := hat.d 3 35
   have hSt := hat.st
   rw [if_pos (by rfl)]
   go_simp
   exact hK.out _ _ hSt (Below.refl _ _) rfl
  refine ⟨fun a w hat K hK => ?_, ?_⟩
  ·have e36 : a.tmps[36]?.getD undef = .int .i64 (m0 : Nat) := hat.d 4 36
   have hSt := hat.st
   rw [if_pos (by rfl)]
   go_simp
   exact hK.out _ _ hSt (Below.refl _ _) rfl
  refine ⟨fun a w hat K hK => ?_, ?_⟩
  ·have e32 : a.tmps[32]?.getD undef = .int .i64 (F.q : Nat) := hat.d 0 32
   have e37 : a.tmps[37]?.getD undef = .int .i64 ((1 + m0 : Nat) : Int) := hat.d 5 37
   have hSt := hat.st
   rw [if_pos (by rfl)]
   have hmm' := HMN.out
   go_simp
   exact hK.out _ _ hSt (Below.refl _ _) (by show Value.int .i64 _ = Value.int .i64 _; congr 1; split <;> omega)
  refine ⟨mv fun a w hat => hat.d 6 38, ?_⟩
  exact trivial
 intro a w2 hsz hdf hbase hSt hval
 obtain ⟨t, df⟩ := a
 have et := Go.Rg.tmps_of hsz [32, 33, 34, 35, 36, 37, 38, 8] (fun k hk => hbase k (Go.Rg.base_of (by kernel_rfl) hk))
 have x8 : t.getD 8 undef = .int .i64 (n : Nat) := hval 7 8 (by kernel_rfl)
 clear hval hbase hsz
 simp only [List.foldl_cons, List.foldl_nil, x8] at et
 rw [et]
 have hdf' : df = _ := hdf
 rw [hdf']
 simp only [List.setIfInBounds_toArray, List.set_cons_zero, List.set_cons_succ]
 clear et hdf hdf'
 generalize t.getD 32 undef = j32
 generalize t.getD 33 undef = j33
 generalize t.getD 34 undef = j34
 generalize t.getD 35 undef = j35
 generalize t.getD 36 undef = j36
 generalize t.getD 37 undef = j37
 generalize t.getD 38 undef = j38
 have HS6 := Lib.hid hSt.start
 have HK6 := Lib.hid (HK5.out.keep hSt.2.2.2.1.out (Nat.lt_of_lt_of_le HZK.out HBK.out))
 have HBK6 := Lib.hid (Nat.le_trans HBK.out hSt.2.2.2.1.out.size)
 clear hSt HK5 HS5
 go_upto_region 7 with (fail)
 refine Go.Rg.region_seq (S := fun w' => SL W w2 gF F b cap (.int .u8 (q : Nat)) (.slice aA A.length cA) (.slice aB B.length cB) (.slice aC C.length cC) w') (R := fun w w' => Below w.heap.size w w') (φ := phi F b cap [.eq (FV F b cap), .eq (.pointer (some ⟨W.heap.size, 1, none⟩)), .eq (.slice aA A.length cA), .eq (.int .i64 (n : Nat)), .sl (LA), .sl (TA), .sl (TA)]) (phi_mono _) (by kernel_rfl) (by kernel_rfl) (by rfl) (HS6.out) ?st3 ?fi3
 case st3 =>
  refine ⟨fun a w hat K hK => ?_, ?_⟩
  ·have e6 : a.tmps[6]?.getD undef = .pointer (some ⟨gF, 0, none⟩) := hat.b 6
   have hSt := hat.st
   rw [if_pos (by rfl)]
   go_simp
   exact hK.out _ _ hSt (Below.refl _ _) rfl
  refine ⟨fun a w hat K hK => ?_, ?_⟩
  ·have e2 : a.tmps[2]?.getD undef = .pointer (some ⟨W.heap.size, 0, none⟩) := hat.b 2
   have hSt := hat.st
   rw [if_pos (by rfl)]
   go_simp
   exact hK.out _ _ hSt (Below.refl _ _) rfl
  refine ⟨fun a w hat K hK => ?_, ?_⟩
  ·have e40 : a.tmps[40]?.getD undef = .pointer (some ⟨W.heap.size, 1, none⟩) := hat.d 1 40
   have hSt := hat.st
   rw [if_pos (by rfl)]
   go_simp
   exact hK.out _ _ hSt (Below.refl _ _) rfl
  refine ⟨mv fun a w hat => hat.b 8, ?_⟩
  refine ⟨fun a w hat K hK => ?_, ?_⟩
  ·have e39 : a.tmps[39]?.getD undef = FV F b cap := hat.d 0 39
   have e41 : a.tmps[41]?.getD undef = .slice aA A.length cA := hat.d 2 41
   have e42 : a.tmps[42]?.getD undef = .int .i64 (n : Nat) := hat.d 3 42
   have hSt := hat.st
   rw [if_pos (by rfl)]
   go_simp
   go_at_call 13
   with_reducible refine (HCA.out _ hSt.2.2.1.out).mono ?_
   rintro z' v' ⟨a', c', rfl, hn', hb⟩
   exact hK.out _ _ (SL.keep hSt hb) hb ⟨a', c', rfl, hn'⟩
  refine ⟨fun a w hat K hK => ?_, ?_⟩
  ·obtain ⟨a43, c43, e43, n43⟩ := (show (Kd.sl (LA)).ok F b cap (a.tmps[43]?.getD undef) w from hat.d 4 43)
   have hSt := hat.st
   rw [if_pos (by rfl)]
   go_simp
   go_at_call 15
   with_reducible refine (HTA.out _ _ _ n43).mono ?_
   rintro z' v' ⟨a', c', rfl, hn', hb⟩
   exact hK.out _ _ (SL.keep hSt hb) hb ⟨a', c', rfl, hn'⟩
  refine ⟨mv fun a w hat => hat.d 5 44, ?_⟩
  exact trivial
 intro a w3 hsz hdf hbase hSt hval
 obtain ⟨t, df⟩ := a
 have et := Go.Rg.tmps_of hsz [39, 40, 41, 42, 43, 44, 9] (fun k hk => hbase k (Go.Rg.base_of (by kernel_rfl) hk))
 obtain ⟨p9, q9, x9, m9⟩ := (show (Kd.sl (TA)).ok F b cap (t.getD 9 undef) w3 from hval 6 9 (by kernel_rfl))
 clear hval hbase hsz
 simp only [List.foldl_cons, List.foldl_nil, x9] at et
 rw [et]
 have hdf' : df = _ := hdf
 rw [hdf']
 simp only [List.setIfInBounds_toArray, List.set_cons_zero, List.set_cons_succ]
 clear et hdf hdf'
 have HN3_9 := Lib.hid m9
 clear m9
 generalize t.getD 39 undef = j39
 generalize t.getD 40 undef = j40
 generalize t.getD 41 undef = j41
 generalize t.getD 42 undef = j42
 generalize t.getD 43 undef = j43
 generalize t.getD 44 undef = j44
 have HS7 := Lib.hid hSt.start
 have HK7 := Lib.hid (HK6.out.keep hSt.2.2.2.1.out (Nat.lt_of_lt_of_le HZK.out HBK6.out))
 have HB7 : Hid (W.heap.size + 1 < w3.heap.size) := Lib.hid (Nat.lt_of_lt_of_le HZK.out (Nat.le_trans HBK6.out hSt.2.2.2.1.out.size))
 clear hSt HK6 HS6
 go_wp2
 go_loopw [10, 11, 12, 13] (fun xs ys i _ wr => ∃ k : Nat, k ≤ n ∧ i = .int .i64 k ∧ Hid (TR w3.heap.size xs ys (xsL F.q c1 k) ((xsL F.q c1 k).map fun v => ev F v TA) wr) ∧ Hid (Below w3.heap.size w3 wr)) (fun _ _ i _ _ => n - (intOf i).toNat)
 case atStart => exact ⟨0, Nat.zero_le _, rfl, Lib.hid (TR.new w3), Lib.hid (((Below.refl _ _).alloc (Nat.le_refl _) _).alloc (by simp) _)⟩
 case round =>
  obtain ⟨k, hk, rfl, HTR, HB⟩ := hrel
  by_cases hlt : k < n
  ·have hlti : (k : Int) < (n : Int) := by omega
   obtain ⟨-, hk1⟩ := HK7.out.keep HB.out HB7.out
   obtain ⟨v, hv⟩ : ∃ v, (k + c1) % F.q = v := ⟨_, rfl⟩
   have hvq : v < F.q := by rw [← hv]; exact Nat.mod_lt _ (by omega)
   have hwc : IntKind.i64.wrap (c1 : Int) = (c1 : Int) := IntWalk.i64_in _ (by omega)
   have hwk : IntKind.i64.wrap ((k : Int) + (c1 : Int)) = ((k + c1 : Nat) : Int) := (IntWalk.i64_in _ (by omega)).trans (by omega)
   have hmod : (((k + c1 : Nat) : Int)).tmod (F.q : Int) = (v : Int) := by rw [← hv, Int.tmod_eq_emod_of_nonneg (by omega)]; rfl
   have hmod2 : ((k : Int) + (c1 : Int)) % (F.q : Int) = (v : Int) := by rw [← hv]; simp
   have hwv : IntKind.i64.wrap (v : Int) = (v : Int) := IntWalk.i64_in _ (by omega)
   have hqz : ¬ F.q = 0 := by omega
   have HV := Lib.hid hv
   have HSR := Lib.hid (SL.keep HS7.out HB.out)
   have HXL := xsL_len F.q c1 k
   clear hk hv
   go_wp2_with (at_builtin; refine wpList_append_own_at _ rfl _ _ 25 rfl w3.heap.size 3 i0 (.int .i64 0) 1 8 Try.underlying25 hi hz0 hz1 hz2 rfl (by decide) _ _ _ rfl (HTR.out.x.alloc _) ⟨wr.heap.size, 0, none⟩ 1 1 [.int .i64 (v : Nat)] rfl rfl one_cell one_one ?c3 ?c4 ?c5 ?_)
   case c3 => unfold maxLen; omega
   case c4 => omega
   case c5 => have := HB.out.size; simp; omega
   intro vx' wA hown hgrow hnil hat
   have HT1 := Lib.hid ((HTR.out.below ((Below.refl _ _).alloc (Nat.le_refl _) (.cells #[.int .i64 (v : Nat)] 3))).appX HXL hown hgrow (by simpa using hat))
   have HB1 : Hid (Below w3.heap.size w3 wA) := Lib.hid ((HB.out.alloc HB.out.size _).grown hgrow (by have := HB.out.size; simp; omega) (fun g hg => (World.ownsRow.lt HTR.out.x g hg).1))
   have HS1 := Lib.hid (SL.keep HS7.out HB1.out)
   clear hown hgrow hnil hat hk1 HSR HTR
   obtain ⟨⟨f0, f1, f2⟩, -⟩ := HS1.out
   go_wp2_with fail
   with_reducible refine (eval_po HS1.out.2.2.2.2.1.out.ops HPA.out (by decide) hvq (HN3_9.out.below HB1.out)).mono ?_
   rintro z wB ⟨rfl, hb2⟩
   have HT2 := Lib.hid (HT1.out.below hb2)
   have HB2 := Lib.hid (HB1.out.trans (hb2.mono HB1.out.size))
   have hey : ev F v TA < F.q := ev_lt HFF.out v TA
   obtain ⟨y, HY⟩ : ∃ y, Hid (ev F v TA = y) := ⟨_, Lib.hid rfl⟩
   rw [HY.out] at hey ⊢
   clear hb2 f0 f1 f2 HT1 HB1 HS1
   have HYL : ((xsL F.q c1 k).map fun v => ev F v TA).length = k := by rw [List.length_map]; exact HXL
   go_wp2_with (at_builtin; refine wpList_append_own_at _ rfl _ _ 25 rfl w3.heap.size 3 i0 (.int .i64 0) 1 8 Try.underlying25 hi hz0 hz1 hz2 rfl (by decide) _ _ _ rfl (HT2.out.y.alloc _) ⟨wB.heap.size, 0, none⟩ 1 1 [.int .i64 (y : Nat)] rfl rfl one_cell one_one ?c3 ?c4 ?c5 ?_)
   case c3 => rw [HYL]; unfold maxLen; omega
   case c4 => rw [HYL]; omega
   case c5 => have := HB2.out.size; simp; omega
   intro vy' wC hown hgrow hnil hat
   have HT3 : Hid (TR w3.heap.size vx' vy' (xsL F.q c1 (k + 1)) ((xsL F.q c1 (k + 1)).map fun v => ev F v TA) wC) := Lib.hid (by
    have h := (HT2.out.below ((Below.refl _ _).alloc (Nat.le_refl _) (.cells #[.int .i64 (y : Nat)] 3))).appY HYL (by simpa using hown) hgrow (by simpa using hat)
    rw [xsL_succ, HV.out, List.map_append, List.map_cons, List.map_nil, HY.out]
    exact h)
   have HB3 : Hid (Below w3.heap.size w3 wC) := Lib.hid ((HB2.out.alloc HB2.out.size _).grown hgrow (by have := HB2.out.size; simp; omega) (fun g hg => (World.ownsRow.lt HT2.out.y g hg).1))
   clear hown hgrow hnil hat HT2 HB2
   go_wp2
   go_roundw
   case rel => exact ⟨k + 1, by omega, by go_num, HT3, HB3⟩
   case measure => simp [intOf]; omega
  ·have hlt1 : ¬ (k : Int) < (n : Int) := by omega
   obtain rfl : n = k := by omega
   obtain ⟨X, HX⟩ : ∃ l, Hid (xsL F.q c1 n = l) := ⟨_, Lib.hid rfl⟩
   have HXI : Hid (In F X ∧ X.length = n ∧ X.Nodup) := Lib.hid (by rw [← HX.out]; exact ⟨xsL_in HFF.out c1 n, xsL_len _ _ _, xsL_nodup hnq⟩)
   obtain ⟨Y, HY⟩ : ∃ l, Hid ((X.map fun v => ev F v TA) = l) := ⟨_, Lib.hid rfl⟩
   have HYI : Hid (In F Y ∧ Y.length = n) := Lib.hid (by rw [← HY.out]; exact ⟨ev_map_in HFF.out X TA, by rw [List.length_map]; exact HXI.out.2.1⟩)
   rw [HX.out, HY.out] at HTR
   obtain ⟨gX, cX, hxe, hgx1, hgx2⟩ := own_form HTR.out.x HTR.out.bx
   obtain ⟨gY, cY, hye, hgy1, hgy2⟩ := own_form HTR.out.y HTR.out.b2
   rw [HXI.out.2.1] at hxe
   rw [HYI.out.2] at hye
   subst hxe hye
   have HGXY : Hid (w3.heap.size ≤ gX ∧ gX < wr.heap.size ∧ w3.heap.size ≤ gY ∧ gY < wr.heap.size ∧ gX ≠ gY) := Lib.hid ⟨hgx1, hgx2, hgy1, hgy2, fun e => HTR.out.ne (by rw [e]; rfl)⟩
   clear hgx1 hgx2 hgy1 hgy2 hk hlt
   have HNX : Hid (NN X wr (.slice (some ⟨gX, 0, none⟩) n cX)) := Lib.hid (by have h := NN.of_owns HTR.out.x; exact h)
   have HNY : Hid (NN Y wr (.slice (some ⟨gY, 0, none⟩) n cY)) := Lib.hid (by have h := NN.of_owns HTR.out.y; exact h)
   have HSa := Lib.hid (SL.keep HS7.out HB.out)
   have HN9a := Lib.hid (HN3_9.out.below HB.out)
   obtain ⟨⟨f0, f1, f2⟩, -⟩ := HSa.out
   go_wp2_with fail
   with_reducible refine (values_ok (X := X) (Y := Y) (n := n) fun w hw => interp_c ((HSa.out.2.2.2.2.1.out.below hw).ops) HXI.out.1 HYI.out.1 HXI.out.2.1 HYI.out.2 (by omega) HXI.out.2.2 (HNX.out.below hw) (HNY.out.below hw)).mono ?_
   rintro z wA ⟨P, aP, cP, rfl, hn, hp, hl, hv, hb⟩
   obtain rfl : TA = P := (interp_uniq HFF.out hp HPA.out.1 HXI.out.2.2 HXI.out.1 HXI.out.2.1 hl HTN.out (by rw [HY.out]; exact hv)).symm
   have HNP := Lib.hid hn
   have HTA2 := Lib.hid (HTR.out.below hb)
   have HNX2 := Lib.hid (HNX.out.below hb)
   have HNY2 := Lib.hid (HNY.out.below hb)
   have HSb := Lib.hid (SL.keep HSa.out hb)
   have HN9b := Lib.hid (HN9a.out.below hb)
   have HGX2 : Hid (W.heap.size ≤ gX ∧ gX < wA.heap.size ∧ W.heap.size ≤ gY ∧ gY < wA.heap.size ∧ gX ≠ gY ∧ gF < gX ∧ gF < gY) := Lib.hid (by have := HGXY.out; have := hb.size; have := HB7.out; have := HS7.out.2.2.2.2.2.out; omega)
   clear hn hp hl hv hb f0 f1 f2 HTR HNX HNY HSa HN9a HGXY HB HS7 HK7 HTA
   obtain ⟨⟨f0, f1, f2⟩, -⟩ := HSb.out
   go_wp2_with fail
   with_reducible refine (ints_po HPA.out HPA.out rfl (by decide) (by decide) HNP.out HN9b.out).mono ?_
   rintro z wB ⟨rfl, hb⟩
   have HSc := Lib.hid (SL.keep HSb.out hb)
   have HTB := Lib.hid (HTA2.out.below hb)
   have HNX3 := Lib.hid (HNX2.out.below hb)
   have HNY3 := Lib.hid (HNY2.out.below hb)
   have HGX3 : Hid (gX < wB.heap.size ∧ gY < wB.heap.size) := Lib.hid (by have := HGX2.out; have := hb.size; omega)
   clear hb f0 f1 f2 HTA2 HNX2 HNY2 HSb HN9b HNP
   obtain ⟨⟨f0, f1, f2⟩, ⟨l0, l1, l2, l3⟩, -⟩ := HSc.out
   go_wp2_with fail
   with_reducible refine (HCB.out _ HSc.out.2.2.1.out).mono ?_
   rintro z wC ⟨aL, cL, k0, rfl, hk1, hk2, hown, hb⟩
   have HOWN := Lib.hid hown
   have HBC := Lib.hid hb
   have HK0 := Lib.hid (And.intro hk1 hk2)
   clear hown hb hk1 hk2 f0 f1 f2 l0 l1 l2 l3
   go_wp2
   go_loopw [16] (fun v wr => ∃ (m t c : Nat) (a : Option Addr), Hid (LB'.length + t = m) ∧ m ≤ n ∧ v = .slice a m c ∧ Hid (wr.ownsRow k0 3 1 (.slice a m c) m ((LB' ++ List.replicate t 0).map N64)) ∧ Hid (Below wB.heap.size wB wr) ∧ Hid (k0 ≤ wr.heap.size)) (fun v _ => n - lenV v)
   case atStart => exact ⟨_, 0, _, _, Lib.hid rfl, HIB.out.2, rfl, Lib.hid (by simpa using HOWN.out), HBC, Lib.hid HK0.out.2⟩
   case round =>
    obtain ⟨m, t, c, a, HM, hm, rfl, HO, HBL, HKL⟩ := hrel
    by_cases hlt : m < n
    ·have hlti : (m : Int) < (n : Int) := by omega
     clear hm
     go_wp2_with (at_builtin; refine wpList_append_own_at _ rfl _ _ 25 rfl k0 3 i0 (.int .i64 0) 1 8 Try.underlying25 hi hz0 hz1 hz2 rfl (by decide) _ _ _ rfl (HO.out.alloc _) ⟨wr.heap.size, 0, none⟩ 1 1 [.int .i64 0] rfl rfl one_cell (one_one (x := 0)) ?c3 ?c4 ?c5 ?_)
     case c3 => unfold maxLen; omega
     case c4 => omega
     case c5 => have := HKL.out; simp; omega
     intro v' wD hown hgrow hnil hat
     obtain ⟨a', c', rfl⟩ := own_sh hown
     have HO2 : Hid (wD.ownsRow k0 3 1 (.slice a' (m + 1) c') (m + 1) ((LB' ++ List.replicate (t + 1) 0).map N64)) := Lib.hid (by
      rw [List.replicate_succ', ← List.append_assoc, List.map_append]
      simpa [N64] using hown)
     have HBL2 : Hid (Below wB.heap.size wB wD) := Lib.hid ((HBL.out.alloc HBL.out.size _).grown hgrow (by have := HBL.out.size; simp; omega) (fun g hg => Nat.le_trans HK0.out.1 (World.ownsRow.lt HO.out g hg).1))
     have HKL2 : Hid (k0 ≤ wD.heap.size) := Lib.hid (by have := HKL.out; have := hgrow.size; simp at this; omega)
     have HM2 : Hid (LB'.length + (t + 1) = m + 1) := Lib.hid (by have := HM.out; omega)
     clear hown hgrow hnil hat HO HBL HKL HM
     go_wp2
     go_roundw
     case rel => exact ⟨m + 1, t + 1, c', a', HM2, by omega, rfl, HO2, HBL2, HKL2⟩
     case measure => simp [lenV]; omega
    ·have hlt1 : ¬ (m : Int) < (n : Int) := by omega
     obtain rfl : n = m := by omega
     clear hm hlt
     obtain ⟨BZ, HBZ⟩ : ∃ l, Hid (LB' ++ List.replicate t 0 = l) := ⟨_, Lib.hid rfl⟩
     have HZI : Hid (In F BZ ∧ BZ.length = n) := Lib.hid (by rw [← HBZ.out]; exact ⟨pad_in HFF.out HIB.out.1 t, by rw [List.length_append, List.length_replicate]; exact HM.out⟩)
     rw [HBZ.out] at HO
     have HNZ : Hid (NN BZ wr (.slice a n c)) := Lib.hid (by have e := HZI.out.2; have h := HO.out; rw [← e] at h ⊢; exact NN.of_owns h)
     obtain ⟨bZ, oZ, rfl, -⟩ := HNZ.out.adr (by rw [HZI.out.2]; exact hn1)
     have HSd := Lib.hid (SL.keep HSc.out HBL.out)
     have HTC := Lib.hid (HTB.out.below HBL.out)
     have HNXd := Lib.hid (HNX3.out.below HBL.out)
     have HNYd := Lib.hid (HNY3.out.below HBL.out)
     have HZL : Hid (bZ < wr.heap.size ∧ gX < wr.heap.size ∧ gY < wr.heap.size) := Lib.hid (by have := HNZ.out.lt rfl; have := HGX3.out; have := HBL.out.size; omega)
     clear HO HBL HKL HM HBZ HSc HTB HNX3 HNY3 HGX3
     obtain ⟨⟨f0, f1, f2⟩, -⟩ := HSd.out
     go_wp2_with fail
     with_reducible refine (values_ok (X := X) (Y := BZ) (n := n) fun w hw => interp_c ((HSd.out.2.2.2.2.1.out.below hw).ops) HXI.out.1 HZI.out.1 HXI.out.2.1 HZI.out.2 (by omega) HXI.out.2.2 (HNXd.out.below hw) (HNZ.out.below hw)).mono ?_
     rintro z wE ⟨QQ, aQ, cQ, rfl, hn, hp, hl, hv, hb⟩
     have HNQ := Lib.hid hn
     have HPQ : Hid (PL F 8 QQ) := Lib.hid ⟨hp, by omega⟩
     have HQV := Lib.hid hv
     have hlq1 : ¬ (n : Int) < (QQ.length : Int) := by omega
     have hlq2 : ¬ n < QQ.length := by omega
     have HSe := Lib.hid (SL.keep HSd.out hb)
     have HTE := Lib.hid (HTC.out.below hb)
     have HNXe := Lib.hid (HNXd.out.below hb)
     have HNYe := Lib.hid (HNYd.out.below hb)
     have HNZe := Lib.hid (HNZ.out.below hb)
     have HZLe : Hid (bZ < wE.heap.size ∧ gX < wE.heap.size ∧ gY < wE.heap.size) := Lib.hid (by have := HZL.out; have := hb.size; omega)
     clear hn hp hl hv hb f0 f1 f2 HSd HTC HNXd HNYd HNZ HZL
     go_wp2
     go_loopw [19] (fun i wr => ∃ k : Nat, k ≤ n ∧ i = .int .i64 k ∧ Hid (Below wE.heap.size wE wr)) (fun i _ => n - (intOf i).toNat)
     case atStart => exact ⟨0, Nat.zero_le _, rfl, Lib.hid (Below.refl _ _)⟩
     case round =>
      obtain ⟨k, hk, rfl, HBQ⟩ := hrel
      have HSq := Lib.hid (SL.keep HSe.out HBQ.out).start
      by_cases hlt : k < n
      ·have hlti : (k : Int) < (n : Int) := by omega
       have HNQq := Lib.hid (HNQ.out.below HBQ.out)
       obtain ⟨x, HXk⟩ : ∃ x, Hid (X.getD k 0 = x) := ⟨_, Lib.hid rfl⟩
       obtain ⟨zz, HZk⟩ : ∃ x, Hid (BZ.getD k 0 = x) := ⟨_, Lib.hid rfl⟩
       have HCX : Hid (wr.cell? ⟨gX, k, none⟩ = some (.int .i64 (x : Nat))) := Lib.hid (by
        have h := (HNXe.out.below HBQ.out).at (t := k) (by rw [HXI.out.2.1]; exact hlt)
        rw [HXk.out, Nat.zero_add] at h; exact h)
       have HCZ : Hid (wr.cell? ⟨bZ, oZ + k, none⟩ = some (.int .i64 (zz : Nat))) := Lib.hid (by
        have h := (HNZe.out.below HBQ.out).at (t := k) (by rw [HZI.out.2]; exact hlt)
        rw [HZk.out] at h; exact h)
       have HVQ : Hid (x < F.q) := Lib.hid (by rw [← HXk.out]; exact HXI.out.1.get HFF.out k)
       have HEV : Hid (ev F x QQ = zz) := Lib.hid (by rw [← HXk.out, ← HZk.out]; exact HQV.out k hlt)
       have hyN : (((ev F x QQ : Nat) : Int) != (zz : Int)) = false := by rw [HEV.out]; simp
       have HLq : Hid (gX < wr.heap.size ∧ bZ < wr.heap.size) := Lib.hid (by have := HZLe.out; have := HBQ.out.size; omega)
       have hk8 : k < 8 := by omega
       clear hk
       go_upto_region 27 with (fail)
       refine Go.Rg.region_by (S := fun w' => SL W wr gF F b cap (.int .u8 (q : Nat)) (.slice aA A.length cA) (.slice aB B.length cB) (.slice aC C.length cC) w') (R := fun w w' => Below w.heap.size w w') (φ := phi F b cap [.eq (FV F b cap), .sl (QQ), .eq (.slice (some ⟨gX, 0, none⟩) n cX), .eq (.int .i64 (k : Nat)), .eq (.pointer (some ⟨gX, k, none⟩)), .eq (.int .i64 (x : Nat)), .eq (.int .i64 (ev F x QQ : Nat)), .eq (.slice (some ⟨bZ, oZ, none⟩) n c), .eq (.int .i64 (k : Nat)), .eq (.pointer (some ⟨bZ, oZ + k, none⟩)), .eq (.int .i64 (zz : Nat)), .eq (.bool false)]) (by kernel_rfl) (phi_mono _) (by kernel_rfl) (by kernel_rfl) (by rfl) (HSq.out.drew) (Go.Rg.steps_ok ?st4) ?fi4
       case st4 =>
        refine ⟨fun a w hat K hK => ?_, ?_⟩
        ·have e6 : a.tmps[6]?.getD undef = .pointer (some ⟨gF, 0, none⟩) := hat.b 6
         have hSt := hat.st
         rw [if_pos (by rfl)]
         go_simp
         exact hK.out _ _ hSt (Below.refl _ _) rfl
        refine ⟨mv fun a w hat => ⟨_, _, hat.b 17, (HNQq.out.below hat.st.2.2.2.1.out)⟩, ?_⟩
        refine ⟨mv fun a w hat => hat.b 10, ?_⟩
        refine ⟨mv fun a w hat => hat.b 19, ?_⟩
        refine ⟨fun a w hat K hK => ?_, ?_⟩
        ·have e119 : a.tmps[119]?.getD undef = .slice (some ⟨gX, 0, none⟩) n cX := hat.d 2 119
         have e120 : a.tmps[120]?.getD undef = .int .i64 (k : Nat) := hat.d 3 120
         have hSt := hat.st
         rw [if_pos (by rfl)]
         go_simp
         exact hK.out _ _ hSt (Below.refl _ _) rfl
        refine ⟨fun a w hat K hK => ?_, ?_⟩
        ·have e121 : a.tmps[121]?.getD undef = .pointer (some ⟨gX, k, none⟩) := hat.d 4 121
         have hSt := hat.st
         rw [if_pos (by rfl)]
         have hc := (hSt.2.2.2.1.out.cell (p := ⟨gX, k, none⟩) HLq.out.1).trans HCX.out
         go_simp
         exact hK.out _ _ hSt (Below.refl _ _) rfl
        refine ⟨fun a w hat K hK => ?_, ?_⟩
        ·have e117 : a.tmps[117]?.getD undef = FV F b cap := hat.d 0 117
         obtain ⟨a118, c118, e118, n118⟩ := (show (Kd.sl (QQ)).ok F b cap (a.tmps[118]?.getD undef) w from hat.d 1 118)
         have e122 : a.tmps[122]?.getD undef = .int .i64 (x : Nat) := hat.d 5 122
         have hSt := hat.st
         rw [if_pos (by rfl)]
         go_simp
         go_at_call 27
         with_reducible refine (eval_po (hSt.2.2.2.2.1.out.ops) HPQ.out (by decide) HVQ.out n118).mono ?_
         rintro z' v' ⟨rfl, hb⟩
         exact hK.out _ _ (SL.keep hSt hb) hb rfl
        refine ⟨mv fun a w hat => hat.b 16, ?_⟩
        refine ⟨mv fun a w hat => hat.b 19, ?_⟩
        refine ⟨fun a w hat K hK => ?_, ?_⟩
        ·have e124 : a.tmps[124]?.getD undef = .slice (some ⟨bZ, oZ, none⟩) n c := hat.d 7 124
         have e125 : a.tmps[125]?.getD undef = .int .i64 (k : Nat) := hat.d 8 125
         have hSt := hat.st
         rw [if_pos (by rfl)]
         go_simp
         exact hK.out _ _ hSt (Below.refl _ _) rfl
        refine ⟨fun a w hat K hK => ?_, ?_⟩
        ·have e126 : a.tmps[126]?.getD undef = .pointer (some ⟨bZ, oZ + k, none⟩) := hat.d 9 126
         have hSt := hat.st
         rw [if_pos (by rfl)]
         have hc := (hSt.2.2.2.1.out.cell (p := ⟨bZ, oZ + k, none⟩) HLq.out.2).trans HCZ.out
         go_simp
         exact hK.out _ _ hSt (Below.refl _ _) rfl
        refine ⟨fun a w hat K hK => ?_, ?_⟩
        ·have e123 : a.tmps[123]?.getD undef = .int .i64 (ev F x QQ : Nat) := hat.d 6 123
         have e127 : a.tmps[127]?.getD undef = .int .i64 (zz : Nat) := hat.d 10 127
         have hSt := hat.st
         rw [if_pos (by rfl)]
         go_simp
         exact hK.out _ _ hSt (Below.refl _ _) rfl
        exact trivial
       intro a w21 hsz hdf hbase hSt hval
       obtain ⟨t, df⟩ := a
       have et := Go.Rg.tmps_of hsz [117, 118, 119, 120, 121, 122, 123, 124, 125, 126, 127, 128] (fun k hk => hbase k (Go.Rg.base_of (by kernel_rfl) hk))
       have x128 : t.getD 128 undef = .bool false := hval 11 128 (by kernel_rfl)
       clear hval hbase hsz
       simp only [List.foldl_cons, List.foldl_nil, x128] at et
       rw [et]
       have hdf' : df = _ := hdf
       rw [hdf']
       simp only [List.setIfInBounds_toArray, List.set_cons_zero, List.set_cons_succ]
       clear et hdf hdf'
       have HN21_17 := Lib.hid (HNQq.out.below hSt.2.2.2.1.out)
       have HBQ2 := Lib.hid (HBQ.out.trans (hSt.2.2.2.1.out.mono HBQ.out.size))
       clear hSt
       go_wp2
       go_roundw
       case rel => exact ⟨k + 1, by omega, by go_num, HBQ2⟩
       case measure => simp [intOf]; omega
      ·have hlt1 : ¬ (k : Int) < (n : Int) := by omega
       clear hk hlt
       have HNYr := Lib.hid (HNYe.out.below HBQ.out)
       have HNXr := Lib.hid (HNXe.out.below HBQ.out)
       have HTQ := Lib.hid (HTE.out.below HBQ.out)
       have HYT : Hid (Y.tail.length = n - 1 ∧ n ≠ Y.tail.length) := Lib.hid (by rw [List.length_tail, HYI.out.2]; omega)
       obtain ⟨YT, HYT2⟩ : ∃ l, Hid (Y.tail = l) := ⟨_, Lib.hid rfl⟩
       rw [HYT2.out] at HYT
       have hn1i : (1 : Int) ≤ (n : Int) := by omega
       go_upto_region 29 with (fail)
       refine Go.Rg.region_by (S := fun w' => SL W wr gF F b cap (.int .u8 (q : Nat)) (.slice aA A.length cA) (.slice aB B.length cB) (.slice aC C.length cC) w') (R := fun w w' => Below w.heap.size w w') (φ := phi F b cap [.eq (FV F b cap), .eq (.slice (some ⟨gX, 0, none⟩) n cX), .eq (.slice (some ⟨gY, 0, none⟩) n cY), .sl (YT), .eq (.tuple #[.slice none 0 0, .bool false]), .eq (.tuple #[.slice none 0 0, .bool false]), .eq (.slice none 0 0), .eq (.bool false), .eq (.slice none 0 0), .eq (.bool false)]) (by kernel_rfl) (phi_mono _) (by kernel_rfl) (by kernel_rfl) (by rfl) (HSq.out.drew) (Go.Rg.steps_ok ?st5) ?fi5
       case st5 =>
        refine ⟨fun a w hat K hK => ?_, ?_⟩
        ·have e6 : a.tmps[6]?.getD undef = .pointer (some ⟨gF, 0, none⟩) := hat.b 6
         have hSt := hat.st
         rw [if_pos (by rfl)]
         go_simp
         exact hK.out _ _ hSt (Below.refl _ _) rfl
        refine ⟨mv fun a w hat => hat.b 10, ?_⟩
        refine ⟨mv fun a w hat => hat.b 11, ?_⟩
        refine ⟨fun a w hat K hK => ?_, ?_⟩
        ·have e132 : a.tmps[132]?.getD undef = .slice (some ⟨gY, 0, none⟩) n cY := hat.d 2 132
         have hSt := hat.st
         rw [if_pos (by rfl)]
         have hny := HNYr.out.below hSt.2.2.2.1.out
         go_simp
         have hnt := hny.tailc (by rw [HYI.out.2]; exact hn1)
         rw [HYT2.out] at hnt
         exact hK.out _ _ hSt (Below.refl _ _) ⟨_, _, by rw [HYT.out.1], hnt⟩
        refine ⟨fun a w hat K hK => ?_, ?_⟩
        ·have e130 : a.tmps[130]?.getD undef = FV F b cap := hat.d 0 130
         have e131 : a.tmps[131]?.getD undef = .slice (some ⟨gX, 0, none⟩) n cX := hat.d 1 131
         obtain ⟨a133, c133, e133, n133⟩ := (show (Kd.sl (YT)).ok F b cap (a.tmps[133]?.getD undef) w from hat.d 3 133)
         have hSt := hat.st
         rw [if_pos (by rfl)]
         go_simp
         go_at_call 36
         with_reducible refine (values_no fun w2 hw2 => interp_no (X := X) (Y := X) HXI.out.2.1.symm (by have := HXI.out.2.1; omega) (by have := HYT.out; omega) ((HNXr.out.below hSt.2.2.2.1.out).below hw2) (.inl HYT.out.2)).mono ?_
         rintro z' v' ⟨rfl, hb⟩
         exact hK.out _ _ (SL.keep hSt hb) hb rfl
        refine ⟨mv fun a w hat => hat.d 4 134, ?_⟩
        refine ⟨fun a w hat K hK => ?_, ?_⟩
        ·have e129 : a.tmps[129]?.getD undef = .tuple #[.slice none 0 0, .bool false] := hat.d 5 129
         have hSt := hat.st
         rw [if_pos (by rfl)]
         go_simp
         exact hK.out _ _ hSt (Below.refl _ _) rfl
        refine ⟨fun a w hat K hK => ?_, ?_⟩
        ·have e129 : a.tmps[129]?.getD undef = .tuple #[.slice none 0 0, .bool false] := hat.d 5 129
         have hSt := hat.st
         rw [if_pos (by rfl)]
         go_simp
         exact hK.out _ _ hSt (Below.refl _ _) rfl
        refine ⟨mv fun a w hat => hat.d 6 135, ?_⟩
        refine ⟨mv fun a w hat => hat.d 7 136, ?_⟩
        exact trivial
       intro a w31 hsz hdf hbase hSt hval
       obtain ⟨t, df⟩ := a
       have et := Go.Rg.tmps_of hsz [130, 131, 132, 133, 134, 129, 135, 136, 20, 21] (fun k hk => hbase k (Go.Rg.base_of (by kernel_rfl) hk))
       have x20 : t.getD 20 undef = .slice none 0 0 := hval 8 20 (by kernel_rfl)
       have x21 : t.getD 21 undef = .bool false := hval 9 21 (by kernel_rfl)
       clear hval hbase hsz
       simp only [List.foldl_cons, List.foldl_nil, x20, x21] at et
       rw [et]
       have hdf' : df = _ := hdf
       rw [hdf']
       simp only [List.setIfInBounds_toArray, List.set_cons_zero, List.set_cons_succ]
       clear et hdf hdf'
       have HTF := Lib.hid (HTQ.out.below hSt.2.2.2.1.out)
       obtain ⟨x0, HX0⟩ : ∃ x, Hid (X.getD 0 0 = x) := ⟨_, Lib.hid rfl⟩
       obtain ⟨y0, HY0⟩ : ∃ x, Hid (Y.getD 0 0 = x) := ⟨_, Lib.hid rfl⟩
       have HGS : Hid (w3.heap.size ≤ gX ∧ w3.heap.size ≤ w31.heap.size ∧ gX < w31.heap.size ∧ gY < w31.heap.size) := Lib.hid (by have h1 := World.ownsRow.lt HTF.out.x gX rfl; have h2 := World.ownsRow.lt HTF.out.y gY rfl; omega)
       have HOX : Hid (w31.ownsRow w3.heap.size 3 1 (.slice (some ⟨gX, 0, none⟩) n cX) n (X.map N64)) := Lib.hid (by have h := HTF.out.x; rw [HXI.out.2.1] at h; exact h)
       have HOY : Hid (w31.ownsRow w3.heap.size 3 1 (.slice (some ⟨gY, 0, none⟩) n cY) n (Y.map N64)) := Lib.hid (by have h := HTF.out.y; rw [HYI.out.2] at h; exact h)
       have HNYX : Hid ((Value.slice (some ⟨gY, 0, none⟩) n cY).ownBlock ≠ some gX) := Lib.hid (by have := HGX2.out; simp [Value.ownBlock]; omega)
       have HDUP : Hid (¬ (X ++ [x0]).Nodup) := Lib.hid (by rw [← HX0.out]; exact dup_head (by rw [HXI.out.2.1]; exact hn1))
       have hS0 : SJ W gF F.p F.e (FM F b cap) gX gY x0 y0 w31.drew := ⟨hSt.1, by
         have h := World.ownsRow.cellAt HOX.out 0 (by omega)
         rw [← HX0.out]
         refine h.trans ?_
         rw [List.getElem?_map, List.getElem?_eq_getElem (by rw [HXI.out.2.1]; exact hn1)]
         simp [List.getD, N64, HXI.out.2.1, hn1], by
         have h := World.ownsRow.cellAt HOY.out 0 (by omega)
         rw [← HY0.out]
         refine h.trans ?_
         rw [List.getElem?_map, List.getElem?_eq_getElem (by rw [HYI.out.2]; exact hn1)]
         simp [List.getD, N64, HYI.out.2, hn1], Lib.hid hSt.2.2.1.out.drew, Lib.hid (by have := HGX2.out; have := HGS.out; simp; omega)⟩
       clear hSt HTF
       go_upto_region 30 with (fail)
       refine wp_region_held_drew (S := fun w' => SJ W gF F.p F.e (FM F b cap) gX gY x0 y0 w') (by kernel_rfl) (by with_reducible exact hS0) (fun hHeld => ?_)
       refine wpAnyH_take (i := 0) (oi := { dst := some 138, op := Op.load 28 (Operand.tmp 6), type := 28, pos := "law.go:204", after := #[], guard := none }) (v := ?_) rfl (by kernel_rfl) (by kernel_rfl) (by kernel_rfl) (fun _ _ _ h => h) (Or.inl ⟨by first | with_reducible rfl | go_simp, ?_⟩) (by assumption) ?_
       rotate_left
       ·(intro w hSw; (try dsimp only at hSw); go_simp; try (with_reducible rfl))
       try simp only [Act.put, List.setIfInBounds_toArray, List.set_cons_zero, List.set_cons_succ]
       refine wpAnyH_take (i := 1) (oi := { dst := some 139, op := Op.move (Operand.tmp 10), type := 25, pos := "law.go:204", after := #[], guard := none }) (v := ?_) rfl (by kernel_rfl) (by kernel_rfl) (by kernel_rfl) (fun _ _ _ h => h) (Or.inl ⟨by first | with_reducible rfl | go_simp, ?_⟩) (by assumption) ?_
       rotate_left
       ·(intro w hSw; (try dsimp only at hSw); go_simp; try (with_reducible rfl))
       try simp only [Act.put, List.setIfInBounds_toArray, List.set_cons_zero, List.set_cons_succ]
       refine wpAnyH_take (i := 2) (oi := { dst := some 140, op := Op.move (Operand.tmp 10), type := 25, pos := "law.go:204", after := #[], guard := none }) (v := ?_) rfl (by kernel_rfl) (by kernel_rfl) (by kernel_rfl) (fun _ _ _ h => h) (Or.inl ⟨by first | with_reducible rfl | go_simp, ?_⟩) (by assumption) ?_
       rotate_left
       ·(intro w hSw; (try dsimp only at hSw); go_simp; try (with_reducible rfl))
       try simp only [Act.put, List.setIfInBounds_toArray, List.set_cons_zero, List.set_cons_succ]
       refine wpAnyH_take (i := 3) (oi := { dst := some 141, op := Op.indexAddr 25 (Operand.tmp 140) (Operand.const (Value.int IntKind.i64 0)), type := 0, pos := "law.go:204", after := #[{ on := 2, ground := Ground.data }], guard := none }) (v := ?_) rfl (by kernel_rfl) (by kernel_rfl) (by kernel_rfl) (fun _ _ _ h => h) (Or.inl ⟨by first | with_reducible rfl | go_simp, ?_⟩) (by assumption) ?_
       rotate_left
       ·(intro w hSw; (try dsimp only at hSw); go_simp; try (with_reducible rfl))
       try simp only [Act.put, List.setIfInBounds_toArray, List.set_cons_zero, List.set_cons_succ]
       refine wpAnyH_take (i := 4) (oi := { dst := some 142, op := Op.load 3 (Operand.tmp 141), type := 3, pos := "law.go:204", after := #[{ on := 3, ground := Ground.data }], guard := none }) (v := ?_) rfl (by kernel_rfl) (by kernel_rfl) (by kernel_rfl) (fun _ _ _ h => h) (Or.inl ⟨by first | with_reducible rfl | go_simp, ?_⟩) (by assumption) ?_
       rotate_left
       ·(intro w hSw; (try dsimp only at hSw); go_simp; try (with_reducible rfl))
       try simp only [Act.put, List.setIfInBounds_toArray, List.set_cons_zero, List.set_cons_succ]
       refine wpAnyH_take (i := 7) (oi := { dst := some 145, op := Op.move (Operand.tmp 11), type := 25, pos := "law.go:204", after := #[], guard := none }) (v := ?_) rfl (by kernel_rfl) (by kernel_rfl) (by kernel_rfl) (fun _ _ _ h => h) (Or.inl ⟨by first | with_reducible rfl | go_simp, ?_⟩) (by assumption) ?_
       rotate_left
       ·(intro w hSw; (try dsimp only at hSw); go_simp; try (with_reducible rfl))
       try simp only [Act.put, List.setIfInBounds_toArray, List.set_cons_zero, List.set_cons_succ]
       refine wpAnyH_take (i := 8) (oi := { dst := some 146, op := Op.move (Operand.tmp 11), type := 25, pos := "law.go:204", after := #[], guard := none }) (v := ?_) rfl (by kernel_rfl) (by kernel_rfl) (by kernel_rfl) (fun _ _ _ h => h) (Or.inl ⟨by first | with_reducible rfl | go_simp, ?_⟩) (by assumption) ?_
       rotate_left
       ·(intro w hSw; (try dsimp only at hSw); go_simp; try (with_reducible rfl))
       try simp only [Act.put, List.setIfInBounds_toArray, List.set_cons_zero, List.set_cons_succ]
       refine wpAnyH_take (i := 9) (oi := { dst := some 147, op := Op.indexAddr 25 (Operand.tmp 146) (Operand.const (Value.int IntKind.i64 0)), type := 0, pos := "law.go:204", after := #[{ on := 8, ground := Ground.data }], guard := none }) (v := ?_) rfl (by kernel_rfl) (by kernel_rfl) (by kernel_rfl) (fun _ _ _ h => h) (Or.inl ⟨by first | with_reducible rfl | go_simp, ?_⟩) (by assumption) ?_
       rotate_left
       ·(intro w hSw; (try dsimp only at hSw); go_simp; try (with_reducible rfl))
       try simp only [Act.put, List.setIfInBounds_toArray, List.set_cons_zero, List.set_cons_succ]
       refine wpAnyH_take (i := 10) (oi := { dst := some 148, op := Op.load 3 (Operand.tmp 147), type := 3, pos := "law.go:204", after := #[{ on := 9, ground := Ground.data }], guard := none }) (v := ?_) rfl (by kernel_rfl) (by kernel_rfl) (by kernel_rfl) (fun _ _ _ h => h) (Or.inl ⟨by first | with_reducible rfl | go_simp, ?_⟩) (by assumption) ?_
       rotate_left
       ·(intro w hSw; (try dsimp only at hSw); go_simp; try (with_reducible rfl))
       try simp only [Act.put, List.setIfInBounds_toArray, List.set_cons_zero, List.set_cons_succ]
       refine wpAnyH_ready (rs := [5, 11]) (by kernel_rfl) (by simp) ?_
       refine (AllReadyH.cons (o := { dst := some 143, op := Op.buildSlice 25 1 #[(0, Operand.tmp 142)], type := 25, pos := "law.go:204", after := #[{ on := 4, ground := Ground.data }], guard := none }) rfl (fun K hK => ?_) (AllReadyH.cons (o := { dst := some 149, op := Op.buildSlice 25 1 #[(0, Operand.tmp 148)], type := 25, pos := "law.go:204", after := #[{ on := 10, ground := Ground.data }], guard := none }) rfl (fun K hK => ?_) AllReadyH.nil))
       ·go_simp
        refine hK.out _ _ ?_ (fun hHeld => ?_)
        ·(try dsimp only)
         exact SJ.keep hHeld ((Below.refl _ _).alloc (Nat.le_refl _) _)
        clear hK K
        try simp only [Act.put, List.setIfInBounds_toArray, List.set_cons_zero, List.set_cons_succ]
        refine wpAnyH_ready (rs := [6, 11]) (by kernel_rfl) (by simp) ?_
        refine (AllReadyH.cons (o := { dst := some 144, op := Op.call { callee := Callee.builtin Builtin.append, args := #[Operand.tmp 139, Operand.tmp 143], argTypes := #[25, 25] }, type := 25, pos := "law.go:204", after := #[{ on := 1, ground := Ground.data }, { on := 5, ground := Ground.data }], guard := none }) rfl (fun K hK => ?_) (AllReadyH.cons (o := { dst := some 149, op := Op.buildSlice 25 1 #[(0, Operand.tmp 148)], type := 25, pos := "law.go:204", after := #[{ on := 10, ground := Ground.data }], guard := none }) rfl (fun K hK => ?_) AllReadyH.nil))
        ·refine step_app rfl _ _ 25 rfl w3.heap.size i0 Try.underlying25 hi hz0 hz1 hz2 gX n cX (X.map N64) rfl (by first | exact HOX.out.alloc _ | exact (HOX.out.alloc _).alloc _) _ 1 (.int .i64 (x0 : Nat)) rfl (by first | exact one_cellE (by simp) | exact one_cell2E (by simp)) one_one ?c1 ?c2 ?c3 ?_
         case c1 => unfold maxLen; omega
         case c2 => omega
         case c3 => have := HGS.out; simp; omega
         intro v6 w6 hown6 hgrow6 hat6 hcell6
         obtain ⟨a6, c6, rfl⟩ := own_sh hown6
         have HX6 := Lib.hid hown6
         have HG6 := Lib.hid hgrow6
         have HY6 : Hid (w6.ownsRow w3.heap.size 3 1 (.slice (some ⟨gY, 0, none⟩) n cY) n (Y.map N64)) := Lib.hid (World.ownsRow.kept (by first | exact HOY.out.alloc _ | exact (HOY.out.alloc _).alloc _) hgrow6 (.inr HNYX.out))
         have HNE6 : Hid ((Value.slice a6 (n + 1) c6).ownBlock ≠ some gY) := Lib.hid (by
          intro e
          rcases hat6 with h | h <;> rw [h] at e <;> simp at e <;> (have := HGS.out; have := HGX2.out; omega))
         have HB6 : Hid (w3.heap.size ≤ w6.heap.size ∧ gX < w6.heap.size ∧ gY < w6.heap.size) := Lib.hid ⟨Nat.le_trans HGS.out.1 (Nat.le_of_lt (Nat.lt_of_lt_of_le hHeld.2.2.2.2.out.2.2.2.1 hgrow6.size)), Nat.lt_of_lt_of_le hHeld.2.2.2.2.out.2.2.2.1 hgrow6.size, Nat.lt_of_lt_of_le hHeld.2.2.2.2.out.2.2.2.2.1 hgrow6.size⟩
         refine hK.out _ _ ?_ (fun hHeld => ?_)
         ·(try dsimp only)
          exact SJ.grow hHeld hgrow6 (.inl rfl) hcell6 hn1
         clear hK K
         try simp only [Act.put, List.setIfInBounds_toArray, List.set_cons_zero, List.set_cons_succ]
         refine wpAnyH_ready (rs := [11]) (by kernel_rfl) (by simp) ?_
         refine (AllReadyH.cons (o := { dst := some 149, op := Op.buildSlice 25 1 #[(0, Operand.tmp 148)], type := 25, pos := "law.go:204", after := #[{ on := 10, ground := Ground.data }], guard := none }) rfl (fun K hK => ?_) AllReadyH.nil)
         go_simp
         refine hK.out _ _ ?_ (fun hHeld => ?_)
         ·(try dsimp only)
          exact SJ.keep hHeld ((Below.refl _ _).alloc (Nat.le_refl _) _)
         clear hK K
         try simp only [Act.put, List.setIfInBounds_toArray, List.set_cons_zero, List.set_cons_succ]
         refine wpAnyH_ready (rs := [12]) (by kernel_rfl) (by simp) ?_
         refine (AllReadyH.cons (o := { dst := some 150, op := Op.call { callee := Callee.builtin Builtin.append, args := #[Operand.tmp 145, Operand.tmp 149], argTypes := #[25, 25] }, type := 25, pos := "law.go:204", after := #[{ on := 7, ground := Ground.data }, { on := 11, ground := Ground.data }, { on := 6, ground := Ground.chain }], guard := none }) rfl (fun K hK => ?_) AllReadyH.nil)
         refine step_app rfl _ _ 25 rfl w3.heap.size i0 Try.underlying25 hi hz0 hz1 hz2 gY n cY (Y.map N64) rfl (by first | exact HY6.out | exact HY6.out.alloc _) _ 1 (.int .i64 (y0 : Nat)) rfl (by first | exact one_cellE (by simp) | exact one_grown HG6.out (by first | (simp; done) | (simp; omega)) (by have := HGS.out; omega) (cell_newE (by simp)) | exact one_grown HG6.out (by first | (simp; done) | (simp; omega)) (by have := HGS.out; omega) (cell_new2E (by simp))) one_one ?c1 ?c2 ?c3 ?_
         case c1 => unfold maxLen; omega
         case c2 => omega
         case c3 => have := HB6.out; simp; try omega
         intro v12 w12 hown12 hgrow12 hat12 hcell12
         obtain ⟨a12, c12, rfl⟩ := own_sh hown12
         have HX12 : Hid (NN (X ++ [x0]) w12 (.slice a6 (n + 1) c6)) := Lib.hid (by
          have h : w12.ownsRow w3.heap.size 3 1 (.slice a6 (n + 1) c6) (n + 1) (X.map N64 ++ [.int .i64 (x0 : Nat)]) := World.ownsRow.kept (by first | exact HX6.out | exact HX6.out.alloc _) hgrow12 (.inr HNE6.out)
          have e : (X ++ [x0]).length = n + 1 := by rw [List.length_append, HXI.out.2.1]; simp
          rw [← e] at h ⊢
          exact NN.of_owns (by rw [List.map_append]; exact h))
         refine hK.out _ _ ?_ (fun hHeld => ?_)
         ·(try dsimp only)
          exact SJ.grow hHeld hgrow12 (.inr rfl) hcell12 hn1
         clear hK K
         try simp only [Act.put, List.setIfInBounds_toArray, List.set_cons_zero, List.set_cons_succ]
         refine wpAnyH_ready (rs := [13]) (by kernel_rfl) (by simp) ?_
         refine (AllReadyH.cons (o := { dst := some 151, op := Op.call { callee := Callee.value (Operand.func 36), args := #[Operand.tmp 138, Operand.tmp 144, Operand.tmp 150], argTypes := #[28, 25, 25] }, type := 50, pos := "law.go:204", after := #[{ on := 0, ground := Ground.data }, { on := 6, ground := Ground.data }, { on := 12, ground := Ground.data }, { on := 12, ground := Ground.chain }], guard := none }) rfl (fun K hK => ?_) AllReadyH.nil)
         go_simp
         go_at_call 36
         with_reducible refine (values_no fun w2 hw2 => interp_no (X := X ++ [x0]) (Y := X) (nx := n + 1) (by rw [List.length_append, HXI.out.2.1]; simp) (by rw [List.length_append, HXI.out.2.1]; simp; omega) (by omega) (HX12.out.below hw2) (.inr HDUP.out)).mono ?_
         rintro z w13 ⟨rfl, hb13⟩
         refine hK.out _ _ ?_ (fun hHeld => ?_)
         ·(try dsimp only)
          exact SJ.keep hHeld hb13
         clear hK K
         try simp only [Act.put, List.setIfInBounds_toArray, List.set_cons_zero, List.set_cons_succ]
         refine wpAnyH_take (i := 14) (oi := { dst := some 137, op := Op.move (Operand.tmp 151), type := 50, pos := "law.go:204", after := #[{ on := 13, ground := Ground.data }], guard := none }) (v := ?_) rfl (by kernel_rfl) (by kernel_rfl) (by kernel_rfl) (fun _ _ _ h => h) (Or.inl ⟨by first | with_reducible rfl | go_simp, ?_⟩) (by assumption) ?_
         rotate_left
         ·(intro w hSw; (try dsimp only at hSw); go_simp; try (with_reducible rfl))
         try simp only [Act.put, List.setIfInBounds_toArray, List.set_cons_zero, List.set_cons_succ]
         refine wpAnyH_take (i := 15) (oi := { dst := some 152, op := Op.extract (Operand.tmp 137) 0, type := 25, pos := "law.go:204", after := #[{ on := 14, ground := Ground.data }], guard := none }) (v := ?_) rfl (by kernel_rfl) (by kernel_rfl) (by kernel_rfl) (fun _ _ _ h => h) (Or.inl ⟨by first | with_reducible rfl | go_simp, ?_⟩) (by assumption) ?_
         rotate_left
         ·(intro w hSw; (try dsimp only at hSw); go_simp; try (with_reducible rfl))
         try simp only [Act.put, List.setIfInBounds_toArray, List.set_cons_zero, List.set_cons_succ]
         refine wpAnyH_take (i := 16) (oi := { dst := some 153, op := Op.extract (Operand.tmp 137) 1, type := 4, pos := "law.go:204", after := #[{ on := 14, ground := Ground.data }, { on := 17, ground := Ground.gcOnly Go.Departure.lateStores }], guard := none }) (v := ?_) rfl (by kernel_rfl) (by kernel_rfl) (by kernel_rfl) (fun _ _ _ h => h) (Or.inl ⟨by first | with_reducible rfl | go_simp, ?_⟩) (by assumption) ?_
         rotate_left
         ·(intro w hSw; (try dsimp only at hSw); go_simp; try (with_reducible rfl))
         try simp only [Act.put, List.setIfInBounds_toArray, List.set_cons_zero, List.set_cons_succ]
         refine wpAnyH_take (i := 17) (oi := { dst := some 22, op := Op.assign (Operand.tmp 152), type := 25, pos := "law.go:204", after := #[{ on := 15, ground := Ground.data }, { on := 13, ground := Ground.chain }, { on := 0, ground := Ground.phase }, { on := 1, ground := Ground.phase }, { on := 2, ground := Ground.phase }, { on := 3, ground := Ground.phase }, { on := 4, ground := Ground.phase }, { on := 5, ground := Ground.phase }, { on := 6, ground := Ground.phase }, { on := 7, ground := Ground.phase }, { on := 8, ground := Ground.phase }, { on := 9, ground := Ground.phase }, { on := 10, ground := Ground.phase }, { on := 11, ground := Ground.phase }, { on := 12, ground := Ground.phase }, { on := 13, ground := Ground.phase }, { on := 14, ground := Ground.phase }, { on := 15, ground := Ground.phase }, { on := 16, ground := Ground.textOnly Go.Departure.lateStores }], guard := none }) (v := ?_) rfl (by kernel_rfl) (by kernel_rfl) (by kernel_rfl) (fun _ _ _ h => h) (Or.inl ⟨by first | with_reducible rfl | go_simp, ?_⟩) (by assumption) ?_
         rotate_left
         ·(intro w hSw; (try dsimp only at hSw); go_simp; try (with_reducible rfl))
         try simp only [Act.put, List.setIfInBounds_toArray, List.set_cons_zero, List.set_cons_succ]
         refine wpAnyH_take (i := 18) (oi := { dst := some 23, op := Op.assign (Operand.tmp 153), type := 4, pos := "law.go:204", after := #[{ on := 16, ground := Ground.data }, { on := 17, ground := Ground.chain }, { on := 0, ground := Ground.phase }, { on := 1, ground := Ground.phase }, { on := 2, ground := Ground.phase }, { on := 3, ground := Ground.phase }, { on := 4, ground := Ground.phase }, { on := 5, ground := Ground.phase }, { on := 6, ground := Ground.phase }, { on := 7, ground := Ground.phase }, { on := 8, ground := Ground.phase }, { on := 9, ground := Ground.phase }, { on := 10, ground := Ground.phase }, { on := 11, ground := Ground.phase }, { on := 12, ground := Ground.phase }, { on := 13, ground := Ground.phase }, { on := 14, ground := Ground.phase }, { on := 15, ground := Ground.phase }, { on := 16, ground := Ground.phase }, { on := 17, ground := Ground.phase }], guard := none }) (v := ?_) rfl (by kernel_rfl) (by kernel_rfl) (by kernel_rfl) (fun _ _ _ h => h) (Or.inl ⟨by first | with_reducible rfl | go_simp, ?_⟩) (by assumption) ?_
         rotate_left
         ·(intro w hSw; (try dsimp only at hSw); go_simp; try (with_reducible rfl))
         try simp only [Act.put, List.setIfInBounds_toArray, List.set_cons_zero, List.set_cons_succ]
         refine wpAnyH_done (by kernel_rfl) ?_ _
         have HBF := Lib.hid hHeld.2.2.2.1.out
         clear hHeld
         go_wp2
         go_ret
         exact ⟨rfl, HBF.out⟩
        ·go_simp
         refine hK.out _ _ ?_ (fun hHeld => ?_)
         ·(try dsimp only)
          exact SJ.keep hHeld ((Below.refl _ _).alloc (Nat.le_refl _) _)
         clear hK K
         try simp only [Act.put, List.setIfInBounds_toArray, List.set_cons_zero, List.set_cons_succ]
         refine wpAnyH_ready (rs := [6]) (by kernel_rfl) (by simp) ?_
         refine (AllReadyH.cons (o := { dst := some 144, op := Op.call { callee := Callee.builtin Builtin.append, args := #[Operand.tmp 139, Operand.tmp 143], argTypes := #[25, 25] }, type := 25, pos := "law.go:204", after := #[{ on := 1, ground := Ground.data }, { on := 5, ground := Ground.data }], guard := none }) rfl (fun K hK => ?_) AllReadyH.nil)
         refine step_app rfl _ _ 25 rfl w3.heap.size i0 Try.underlying25 hi hz0 hz1 hz2 gX n cX (X.map N64) rfl (by first | exact HOX.out.alloc _ | exact (HOX.out.alloc _).alloc _) _ 1 (.int .i64 (x0 : Nat)) rfl (by first | exact one_cellE (by simp) | exact one_cell2E (by simp)) one_one ?c1 ?c2 ?c3 ?_
         case c1 => unfold maxLen; omega
         case c2 => omega
         case c3 => have := HGS.out; simp; omega
         intro v6 w6 hown6 hgrow6 hat6 hcell6
         obtain ⟨a6, c6, rfl⟩ := own_sh hown6
         have HX6 := Lib.hid hown6
         have HG6 := Lib.hid hgrow6
         have HY6 : Hid (w6.ownsRow w3.heap.size 3 1 (.slice (some ⟨gY, 0, none⟩) n cY) n (Y.map N64)) := Lib.hid (World.ownsRow.kept (by first | exact HOY.out.alloc _ | exact (HOY.out.alloc _).alloc _) hgrow6 (.inr HNYX.out))
         have HNE6 : Hid ((Value.slice a6 (n + 1) c6).ownBlock ≠ some gY) := Lib.hid (by
          intro e
          rcases hat6 with h | h <;> rw [h] at e <;> simp at e <;> (have := HGS.out; have := HGX2.out; omega))
         have HB6 : Hid (w3.heap.size ≤ w6.heap.size ∧ gX < w6.heap.size ∧ gY < w6.heap.size) := Lib.hid ⟨Nat.le_trans HGS.out.1 (Nat.le_of_lt (Nat.lt_of_lt_of_le hHeld.2.2.2.2.out.2.2.2.1 hgrow6.size)), Nat.lt_of_lt_of_le hHeld.2.2.2.2.out.2.2.2.1 hgrow6.size, Nat.lt_of_lt_of_le hHeld.2.2.2.2.out.2.2.2.2.1 hgrow6.size⟩
         refine hK.out _ _ ?_ (fun hHeld => ?_)
         ·(try dsimp only)
          exact SJ.grow hHeld hgrow6 (.inl rfl) hcell6 hn1
         clear hK K
         try simp only [Act.put, List.setIfInBounds_toArray, List.set_cons_zero, List.set_cons_succ]
         refine wpAnyH_ready (rs := [12]) (by kernel_rfl) (by simp) ?_
         refine (AllReadyH.cons (o := { dst := some 150, op := Op.call { callee := Callee.builtin Builtin.append, args := #[Operand.tmp 145, Operand.tmp 149], argTypes := #[25, 25] }, type := 25, pos := "law.go:204", after := #[{ on := 7, ground := Ground.data }, { on := 11, ground := Ground.data }, { on := 6, ground := Ground.chain }], guard := none }) rfl (fun K hK => ?_) AllReadyH.nil)
         refine step_app rfl _ _ 25 rfl w3.heap.size i0 Try.underlying25 hi hz0 hz1 hz2 gY n cY (Y.map N64) rfl (by first | exact HY6.out | exact HY6.out.alloc _) _ 1 (.int .i64 (y0 : Nat)) rfl (by first | exact one_cellE (by simp) | exact one_grown HG6.out (by first | (simp; done) | (simp; omega)) (by have := HGS.out; omega) (cell_newE (by simp)) | exact one_grown HG6.out (by first | (simp; done) | (simp; omega)) (by have := HGS.out; omega) (cell_new2E (by simp))) one_one ?c1 ?c2 ?c3 ?_
         case c1 => unfold maxLen; omega
         case c2 => omega
         case c3 => have := HB6.out; simp; try omega
         intro v12 w12 hown12 hgrow12 hat12 hcell12
         obtain ⟨a12, c12, rfl⟩ := own_sh hown12
         have HX12 : Hid (NN (X ++ [x0]) w12 (.slice a6 (n + 1) c6)) := Lib.hid (by
          have h : w12.ownsRow w3.heap.size 3 1 (.slice a6 (n + 1) c6) (n + 1) (X.map N64 ++ [.int .i64 (x0 : Nat)]) := World.ownsRow.kept (by first | exact HX6.out | exact HX6.out.alloc _) hgrow12 (.inr HNE6.out)
          have e : (X ++ [x0]).length = n + 1 := by rw [List.length_append, HXI.out.2.1]; simp
          rw [← e] at h ⊢
          exact NN.of_owns (by rw [List.map_append]; exact h))
         refine hK.out _ _ ?_ (fun hHeld => ?_)
         ·(try dsimp only)
          exact SJ.grow hHeld hgrow12 (.inr rfl) hcell12 hn1
         clear hK K
         try simp only [Act.put, List.setIfInBounds_toArray, List.set_cons_zero, List.set_cons_succ]
         refine wpAnyH_ready (rs := [13]) (by kernel_rfl) (by simp) ?_
         refine (AllReadyH.cons (o := { dst := some 151, op := Op.call { callee := Callee.value (Operand.func 36), args := #[Operand.tmp 138, Operand.tmp 144, Operand.tmp 150], argTypes := #[28, 25, 25] }, type := 50, pos := "law.go:204", after := #[{ on := 0, ground := Ground.data }, { on := 6, ground := Ground.data }, { on := 12, ground := Ground.data }, { on := 12, ground := Ground.chain }], guard := none }) rfl (fun K hK => ?_) AllReadyH.nil)
         go_simp
         go_at_call 36
         with_reducible refine (values_no fun w2 hw2 => interp_no (X := X ++ [x0]) (Y := X) (nx := n + 1) (by rw [List.length_append, HXI.out.2.1]; simp) (by rw [List.length_append, HXI.out.2.1]; simp; omega) (by omega) (HX12.out.below hw2) (.inr HDUP.out)).mono ?_
         rintro z w13 ⟨rfl, hb13⟩
         refine hK.out _ _ ?_ (fun hHeld => ?_)
         ·(try dsimp only)
          exact SJ.keep hHeld hb13
         clear hK K
         try simp only [Act.put, List.setIfInBounds_toArray, List.set_cons_zero, List.set_cons_succ]
         refine wpAnyH_take (i := 14) (oi := { dst := some 137, op := Op.move (Operand.tmp 151), type := 50, pos := "law.go:204", after := #[{ on := 13, ground := Ground.data }], guard := none }) (v := ?_) rfl (by kernel_rfl) (by kernel_rfl) (by kernel_rfl) (fun _ _ _ h => h) (Or.inl ⟨by first | with_reducible rfl | go_simp, ?_⟩) (by assumption) ?_
         rotate_left
         ·(intro w hSw; (try dsimp only at hSw); go_simp; try (with_reducible rfl))
         try simp only [Act.put, List.setIfInBounds_toArray, List.set_cons_zero, List.set_cons_succ]
         refine wpAnyH_take (i := 15) (oi := { dst := some 152, op := Op.extract (Operand.tmp 137) 0, type := 25, pos := "law.go:204", after := #[{ on := 14, ground := Ground.data }], guard := none }) (v := ?_) rfl (by kernel_rfl) (by kernel_rfl) (by kernel_rfl) (fun _ _ _ h => h) (Or.inl ⟨by first | with_reducible rfl | go_simp, ?_⟩) (by assumption) ?_
         rotate_left
         ·(intro w hSw; (try dsimp only at hSw); go_simp; try (with_reducible rfl))
         try simp only [Act.put, List.setIfInBounds_toArray, List.set_cons_zero, List.set_cons_succ]
         refine wpAnyH_take (i := 16) (oi := { dst := some 153, op := Op.extract (Operand.tmp 137) 1, type := 4, pos := "law.go:204", after := #[{ on := 14, ground := Ground.data }, { on := 17, ground := Ground.gcOnly Go.Departure.lateStores }], guard := none }) (v := ?_) rfl (by kernel_rfl) (by kernel_rfl) (by kernel_rfl) (fun _ _ _ h => h) (Or.inl ⟨by first | with_reducible rfl | go_simp, ?_⟩) (by assumption) ?_
         rotate_left
         ·(intro w hSw; (try dsimp only at hSw); go_simp; try (with_reducible rfl))
         try simp only [Act.put, List.setIfInBounds_toArray, List.set_cons_zero, List.set_cons_succ]
         refine wpAnyH_take (i := 17) (oi := { dst := some 22, op := Op.assign (Operand.tmp 152), type := 25, pos := "law.go:204", after := #[{ on := 15, ground := Ground.data }, { on := 13, ground := Ground.chain }, { on := 0, ground := Ground.phase }, { on := 1, ground := Ground.phase }, { on := 2, ground := Ground.phase }, { on := 3, ground := Ground.phase }, { on := 4, ground := Ground.phase }, { on := 5, ground := Ground.phase }, { on := 6, ground := Ground.phase }, { on := 7, ground := Ground.phase }, { on := 8, ground := Ground.phase }, { on := 9, ground := Ground.phase }, { on := 10, ground := Ground.phase }, { on := 11, ground := Ground.phase }, { on := 12, ground := Ground.phase }, { on := 13, ground := Ground.phase }, { on := 14, ground := Ground.phase }, { on := 15, ground := Ground.phase }, { on := 16, ground := Ground.textOnly Go.Departure.lateStores }], guard := none }) (v := ?_) rfl (by kernel_rfl) (by kernel_rfl) (by kernel_rfl) (fun _ _ _ h => h) (Or.inl ⟨by first | with_reducible rfl | go_simp, ?_⟩) (by assumption) ?_
         rotate_left
         ·(intro w hSw; (try dsimp only at hSw); go_simp; try (with_reducible rfl))
         try simp only [Act.put, List.setIfInBounds_toArray, List.set_cons_zero, List.set_cons_succ]
         refine wpAnyH_take (i := 18) (oi := { dst := some 23, op := Op.assign (Operand.tmp 153), type := 4, pos := "law.go:204", after := #[{ on := 16, ground := Ground.data }, { on := 17, ground := Ground.chain }, { on := 0, ground := Ground.phase }, { on := 1, ground := Ground.phase }, { on := 2, ground := Ground.phase }, { on := 3, ground := Ground.phase }, { on := 4, ground := Ground.phase }, { on := 5, ground := Ground.phase }, { on := 6, ground := Ground.phase }, { on := 7, ground := Ground.phase }, { on := 8, ground := Ground.phase }, { on := 9, ground := Ground.phase }, { on := 10, ground := Ground.phase }, { on := 11, ground := Ground.phase }, { on := 12, ground := Ground.phase }, { on := 13, ground := Ground.phase }, { on := 14, ground := Ground.phase }, { on := 15, ground := Ground.phase }, { on := 16, ground := Ground.phase }, { on := 17, ground := Ground.phase }], guard := none }) (v := ?_) rfl (by kernel_rfl) (by kernel_rfl) (by kernel_rfl) (fun _ _ _ h => h) (Or.inl ⟨by first | with_reducible rfl | go_simp, ?_⟩) (by assumption) ?_
         rotate_left
         ·(intro w hSw; (try dsimp only at hSw); go_simp; try (with_reducible rfl))
         try simp only [Act.put, List.setIfInBounds_toArray, List.set_cons_zero, List.set_cons_succ]
         refine wpAnyH_done (by kernel_rfl) ?_ _
         have HBF := Lib.hid hHeld.2.2.2.1.out
         clear hHeld
         go_wp2
         go_ret
         exact ⟨rfl, HBF.out⟩
       ·go_simp
        refine hK.out _ _ ?_ (fun hHeld => ?_)
        ·(try dsimp only)
         exact SJ.keep hHeld ((Below.refl _ _).alloc (Nat.le_refl _) _)
        clear hK K
        try simp only [Act.put, List.setIfInBounds_toArray, List.set_cons_zero, List.set_cons_succ]
        refine wpAnyH_ready (rs := [5]) (by kernel_rfl) (by simp) ?_
        refine (AllReadyH.cons (o := { dst := some 143, op := Op.buildSlice 25 1 #[(0, Operand.tmp 142)], type := 25, pos := "law.go:204", after := #[{ on := 4, ground := Ground.data }], guard := none }) rfl (fun K hK => ?_) AllReadyH.nil)
        go_simp
        refine hK.out _ _ ?_ (fun hHeld => ?_)
        ·(try dsimp only)
         exact SJ.keep hHeld ((Below.refl _ _).alloc (Nat.le_refl _) _)
        clear hK K
        try simp only [Act.put, List.setIfInBounds_toArray, List.set_cons_zero, List.set_cons_succ]
        refine wpAnyH_ready (rs := [6]) (by kernel_rfl) (by simp) ?_
        refine (AllReadyH.cons (o := { dst := some 144, op := Op.call { callee := Callee.builtin Builtin.append, args := #[Operand.tmp 139, Operand.tmp 143], argTypes := #[25, 25] }, type := 25, pos := "law.go:204", after := #[{ on := 1, ground := Ground.data }, { on := 5, ground := Ground.data }], guard := none }) rfl (fun K hK => ?_) AllReadyH.nil)
        refine step_app rfl _ _ 25 rfl w3.heap.size i0 Try.underlying25 hi hz0 hz1 hz2 gX n cX (X.map N64) rfl (by first | exact HOX.out.alloc _ | exact (HOX.out.alloc _).alloc _) _ 1 (.int .i64 (x0 : Nat)) rfl (by first | exact one_cellE (by simp) | exact one_cell2E (by simp)) one_one ?c1 ?c2 ?c3 ?_
        case c1 => unfold maxLen; omega
        case c2 => omega
        case c3 => have := HGS.out; simp; omega
        intro v6 w6 hown6 hgrow6 hat6 hcell6
        obtain ⟨a6, c6, rfl⟩ := own_sh hown6
        have HX6 := Lib.hid hown6
        have HG6 := Lib.hid hgrow6
        have HY6 : Hid (w6.ownsRow w3.heap.size 3 1 (.slice (some ⟨gY, 0, none⟩) n cY) n (Y.map N64)) := Lib.hid (World.ownsRow.kept (by first | exact HOY.out.alloc _ | exact (HOY.out.alloc _).alloc _) hgrow6 (.inr HNYX.out))
        have HNE6 : Hid ((Value.slice a6 (n + 1) c6).ownBlock ≠ some gY) := Lib.hid (by
         intro e
         rcases hat6 with h | h <;> rw [h] at e <;> simp at e <;> (have := HGS.out; have := HGX2.out; omega))
        have HB6 : Hid (w3.heap.size ≤ w6.heap.size ∧ gX < w6.heap.size ∧ gY < w6.heap.size) := Lib.hid ⟨Nat.le_trans HGS.out.1 (Nat.le_of_lt (Nat.lt_of_lt_of_le hHeld.2.2.2.2.out.2.2.2.1 hgrow6.size)), Nat.lt_of_lt_of_le hHeld.2.2.2.2.out.2.2.2.1 hgrow6.size, Nat.lt_of_lt_of_le hHeld.2.2.2.2.out.2.2.2.2.1 hgrow6.size⟩
        refine hK.out _ _ ?_ (fun hHeld => ?_)
        ·(try dsimp only)
         exact SJ.grow hHeld hgrow6 (.inl rfl) hcell6 hn1
        clear hK K
        try simp only [Act.put, List.setIfInBounds_toArray, List.set_cons_zero, List.set_cons_succ]
        refine wpAnyH_ready (rs := [12]) (by kernel_rfl) (by simp) ?_
        refine (AllReadyH.cons (o := { dst := some 150, op := Op.call { callee := Callee.builtin Builtin.append, args := #[Operand.tmp 145, Operand.tmp 149], argTypes := #[25, 25] }, type := 25, pos := "law.go:204", after := #[{ on := 7, ground := Ground.data }, { on := 11, ground := Ground.data }, { on := 6, ground := Ground.chain }], guard := none }) rfl (fun K hK => ?_) AllReadyH.nil)
        refine step_app rfl _ _ 25 rfl w3.heap.size i0 Try.underlying25 hi hz0 hz1 hz2 gY n cY (Y.map N64) rfl (by first | exact HY6.out | exact HY6.out.alloc _) _ 1 (.int .i64 (y0 : Nat)) rfl (by first | exact one_cellE (by simp) | exact one_grown HG6.out (by first | (simp; done) | (simp; omega)) (by have := HGS.out; omega) (cell_newE (by simp)) | exact one_grown HG6.out (by first | (simp; done) | (simp; omega)) (by have := HGS.out; omega) (cell_new2E (by simp))) one_one ?c1 ?c2 ?c3 ?_
        case c1 => unfold maxLen; omega
        case c2 => omega
        case c3 => have := HB6.out; simp; try omega
        intro v12 w12 hown12 hgrow12 hat12 hcell12
        obtain ⟨a12, c12, rfl⟩ := own_sh hown12
        have HX12 : Hid (NN (X ++ [x0]) w12 (.slice a6 (n + 1) c6)) := Lib.hid (by
         have h : w12.ownsRow w3.heap.size 3 1 (.slice a6 (n + 1) c6) (n + 1) (X.map N64 ++ [.int .i64 (x0 : Nat)]) := World.ownsRow.kept (by first | exact HX6.out | exact HX6.out.alloc _) hgrow12 (.inr HNE6.out)
         have e : (X ++ [x0]).length = n + 1 := by rw [List.length_append, HXI.out.2.1]; simp
         rw [← e] at h ⊢
         exact NN.of_owns (by rw [List.map_append]; exact h))
        refine hK.out _ _ ?_ (fun hHeld => ?_)
        ·(try dsimp only)
         exact SJ.grow hHeld hgrow12 (.inr rfl) hcell12 hn1
        clear hK K
        try simp only [Act.put, List.setIfInBounds_toArray, List.set_cons_zero, List.set_cons_succ]
        refine wpAnyH_ready (rs := [13]) (by kernel_rfl) (by simp) ?_
        refine (AllReadyH.cons (o := { dst := some 151, op := Op.call { callee := Callee.value (Operand.func 36), args := #[Operand.tmp 138, Operand.tmp 144, Operand.tmp 150], argTypes := #[28, 25, 25] }, type := 50, pos := "law.go:204", after := #[{ on := 0, ground := Ground.data }, { on := 6, ground := Ground.data }, { on := 12, ground := Ground.data }, { on := 12, ground := Ground.chain }], guard := none }) rfl (fun K hK => ?_) AllReadyH.nil)
        go_simp
        go_at_call 36
        with_reducible refine (values_no fun w2 hw2 => interp_no (X := X ++ [x0]) (Y := X) (nx := n + 1) (by rw [List.length_append, HXI.out.2.1]; simp) (by rw [List.length_append, HXI.out.2.1]; simp; omega) (by omega) (HX12.out.below hw2) (.inr HDUP.out)).mono ?_
        rintro z w13 ⟨rfl, hb13⟩
        refine hK.out _ _ ?_ (fun hHeld => ?_)
        ·(try dsimp only)
         exact SJ.keep hHeld hb13
        clear hK K
        try simp only [Act.put, List.setIfInBounds_toArray, List.set_cons_zero, List.set_cons_succ]
        refine wpAnyH_take (i := 14) (oi := { dst := some 137, op := Op.move (Operand.tmp 151), type := 50, pos := "law.go:204", after := #[{ on := 13, ground := Ground.data }], guard := none }) (v := ?_) rfl (by kernel_rfl) (by kernel_rfl) (by kernel_rfl) (fun _ _ _ h => h) (Or.inl ⟨by first | with_reducible rfl | go_simp, ?_⟩) (by assumption) ?_
        rotate_left
        ·(intro w hSw; (try dsimp only at hSw); go_simp; try (with_reducible rfl))
        try simp only [Act.put, List.setIfInBounds_toArray, List.set_cons_zero, List.set_cons_succ]
        refine wpAnyH_take (i := 15) (oi := { dst := some 152, op := Op.extract (Operand.tmp 137) 0, type := 25, pos := "law.go:204", after := #[{ on := 14, ground := Ground.data }], guard := none }) (v := ?_) rfl (by kernel_rfl) (by kernel_rfl) (by kernel_rfl) (fun _ _ _ h => h) (Or.inl ⟨by first | with_reducible rfl | go_simp, ?_⟩) (by assumption) ?_
        rotate_left
        ·(intro w hSw; (try dsimp only at hSw); go_simp; try (with_reducible rfl))
        try simp only [Act.put, List.setIfInBounds_toArray, List.set_cons_zero, List.set_cons_succ]
        refine wpAnyH_take (i := 16) (oi := { dst := some 153, op := Op.extract (Operand.tmp 137) 1, type := 4, pos := "law.go:204", after := #[{ on := 14, ground := Ground.data }, { on := 17, ground := Ground.gcOnly Go.Departure.lateStores }], guard := none }) (v := ?_) rfl (by kernel_rfl) (by kernel_rfl) (by kernel_rfl) (fun _ _ _ h => h) (Or.inl ⟨by first | with_reducible rfl | go_simp, ?_⟩) (by assumption) ?_
        rotate_left
        ·(intro w hSw; (try dsimp only at hSw); go_simp; try (with_reducible rfl))
        try simp only [Act.put, List.setIfInBounds_toArray, List.set_cons_zero, List.set_cons_succ]
        refine wpAnyH_take (i := 17) (oi := { dst := some 22, op := Op.assign (Operand.tmp 152), type := 25, pos := "law.go:204", after := #[{ on := 15, ground := Ground.data }, { on := 13, ground := Ground.chain }, { on := 0, ground := Ground.phase }, { on := 1, ground := Ground.phase }, { on := 2, ground := Ground.phase }, { on := 3, ground := Ground.phase }, { on := 4, ground := Ground.phase }, { on := 5, ground := Ground.phase }, { on := 6, ground := Ground.phase }, { on := 7, ground := Ground.phase }, { on := 8, ground := Ground.phase }, { on := 9, ground := Ground.phase }, { on := 10, ground := Ground.phase }, { on := 11, ground := Ground.phase }, { on := 12, ground := Ground.phase }, { on := 13, ground := Ground.phase }, { on := 14, ground := Ground.phase }, { on := 15, ground := Ground.phase }, { on := 16, ground := Ground.textOnly Go.Departure.lateStores }], guard := none }) (v := ?_) rfl (by kernel_rfl) (by kernel_rfl) (by kernel_rfl) (fun _ _ _ h => h) (Or.inl ⟨by first | with_reducible rfl | go_simp, ?_⟩) (by assumption) ?_
        rotate_left
        ·(intro w hSw; (try dsimp only at hSw); go_simp; try (with_reducible rfl))
        try simp only [Act.put, List.setIfInBounds_toArray, List.set_cons_zero, List.set_cons_succ]
        refine wpAnyH_take (i := 18) (oi := { dst := some 23, op := Op.assign (Operand.tmp 153), type := 4, pos := "law.go:204", after := #[{ on := 16, ground := Ground.data }, { on := 17, ground := Ground.chain }, { on := 0, ground := Ground.phase }, { on := 1, ground := Ground.phase }, { on := 2, ground := Ground.phase }, { on := 3, ground := Ground.phase }, { on := 4, ground := Ground.phase }, { on := 5, ground := Ground.phase }, { on := 6, ground := Ground.phase }, { on := 7, ground := Ground.phase }, { on := 8, ground := Ground.phase }, { on := 9, ground := Ground.phase }, { on := 10, ground := Ground.phase }, { on := 11, ground := Ground.phase }, { on := 12, ground := Ground.phase }, { on := 13, ground := Ground.phase }, { on := 14, ground := Ground.phase }, { on := 15, ground := Ground.phase }, { on := 16, ground := Ground.phase }, { on := 17, ground := Ground.phase }], guard := none }) (v := ?_) rfl (by kernel_rfl) (by kernel_rfl) (by kernel_rfl) (fun _ _ _ h => h) (Or.inl ⟨by first | with_reducible rfl | go_simp, ?_⟩) (by assumption) ?_
        rotate_left
        ·(intro w hSw; (try dsimp only at hSw); go_simp; try (with_reducible rfl))
        try simp only [Act.put, List.setIfInBounds_toArray, List.set_cons_zero, List.set_cons_succ]
        refine wpAnyH_done (by kernel_rfl) ?_ _
        have HBF := Lib.hid hHeld.2.2.2.1.out
        clear hHeld
        go_wp2
        go_ret
        exact ⟨rfl, HBF.out⟩
end Go.Proofs.Ytllecfhfhcmpaaa
