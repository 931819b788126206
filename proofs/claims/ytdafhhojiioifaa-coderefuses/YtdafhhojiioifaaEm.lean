/- Codes with too many words are refused. -/
import Derived.Test.YtdafhhojiioifaaEl
namespace Go.Proofs.Ytdafhhojiioifaa
open Go.RowKit Go.Fl
set_option maxRecDepth 100000
set_option linter.unusedVariables false
set_option linter.unusedSimpArgs false
set_option linter.unusedSectionVars false
set_option maxHeartbeats 3200000 in
theorem few_big {F : Gf} {n m cg : Nat} {G : List (List Nat)} {L : List (Nat × Cf)} {ga : Option Addr} {W : World} (hC : VC F n m G L) (hk : 4096 < cnK F.q m) (ng : MM G W (.slice ga m cg)) :
  Calls Try.prog 68 #[DV F.q n (.slice ga m cg)] W fun e w' => e = .returned (.tuple #[.agg #[.int .i64 0, .int .i64 0, .slice none 0 0, .int .i64 0], .int .i64 2]) ∧ Below W.heap.size W w' := by
 obtain ⟨W1, hW1⟩ : ∃ W1, (W.alloc (.cells #[.int .i64 (F.q : Nat), .int .i64 (n : Nat), .slice ga m cg] 32)).alloc (.cells ZX 73) = W1 := ⟨_, rfl⟩
 have HB1 : Hid (Below W.heap.size W W1) := Lib.hid (by rw [← hW1]; exact ((Below.refl _ _).alloc (Nat.le_refl _) _).alloc (by simp) _)
 have HR1 : Hid (BC (W.heap.size + 1) ZX.toList 73 W1) := Lib.hid (by rw [← hW1]; exact BC.new _ ZX.toList 73 (by simp))
 have HC1 : Hid (BC W.heap.size [.int .i64 (F.q : Nat), .int .i64 (n : Nat), .slice ga m cg] 32 W1) := Lib.hid (by rw [← hW1]; exact (BC.new W [.int .i64 (F.q : Nat), .int .i64 (n : Nat), .slice ga m cg] 32 rfl).alloc _)
 have HS1 : Hid (W1.heap.size = W.heap.size + 2) := Lib.hid (by rw [← hW1]; simp)
 have HA : Hid (Calls Try.prog 54 #[DV F.q n (.slice ga m cg)] W1 fun e w' => ∃ b cap, e = .returned (.tuple #[XV F b cap n, .bool true]) ∧ FldAt F b cap w' ∧ Below W1.heap.size W1 w' ∧ W1.heap.size ≤ b) := Lib.hid (by have := around_c hC.gc (ng.below HB1.out); rw [hC.ar] at this; exact this)
 have HCO : Hid (∀ w, MM G w (.slice ga m cg) → Calls Try.prog 35 #[DV F.q n (.slice ga m cg)] w fun e w' => e = .returned (.int .i64 (cnK F.q m : Nat)) ∧ Below w.heap.size w w') := Lib.hid fun w h => count_c hC h
 have HNG := Lib.hid (ng.below HB1.out)
 obtain ⟨q, hqq⟩ : ∃ q, Hid (F.q = q) := ⟨_, Lib.hid rfl⟩
 rw [hqq.out] at HA HC1 hW1 HCO hk ⊢
 obtain ⟨k5, hk5⟩ : ∃ k, Hid (cnK q m = k) := ⟨_, Lib.hid rfl⟩
 rw [hk5.out] at hk HCO
 have hk4 : (4096 : Int) < (k5 : Int) := by omega
 have HW1 := Lib.hid hW1
 have c0 := HC1.out.cell (i := 0) rfl
 have c1 := HC1.out.cell (i := 1) rfl
 have c2 := HC1.out.cell (i := 2) rfl
 clear hW1 hC ng hk
 go_enter Try.func68, Try.ntmps68
 go_upto_region 1 with fail
 rw [HW1.out]
 go_wp2_with fail
 with_reducible refine HA.out.mono ?_
 rintro e w2 ⟨b, cap, rfl, hfa, hb2, hbl⟩
 obtain ⟨w3, hw3⟩ : ∃ w3, w3 = w2.alloc (.cells (XC F b cap n) 73) := ⟨_, rfl⟩
 obtain ⟨x, hx⟩ : ∃ x, x = w2.heap.size := ⟨_, rfl⟩
 have HAL : Hid (Below w2.heap.size w2 w3) := Lib.hid (by rw [hw3]; exact (Below.refl _ _).alloc (Nat.le_refl _) _)
 have HXB : Hid (XB x F b cap n w3) := Lib.hid (by rw [hw3, hx]; exact xb_new w2 rfl)
 have HSX : Hid (W.heap.size + 1 < x ∧ x < w3.heap.size) := Lib.hid ⟨by have := hb2.size; have := HS1.out; omega, by rw [hw3, hx]; simp⟩
 have HFA3 := Lib.hid (hfa.below HAL.out)
 have HR3 := Lib.hid ((HR1.out.below hb2).below HAL.out)
 have HC3 := Lib.hid ((HC1.out.below hb2).below HAL.out)
 have HB13 : Hid (Below W1.heap.size W1 w3) := Lib.hid (hb2.trans (HAL.out.mono hb2.size))
 have HCC : Hid (Calls Try.prog 35 #[DV q n (.slice ga m cg)] w3 fun e w' => e = .returned (.int .i64 (k5 : Nat)) ∧ Below w3.heap.size w3 w') := Lib.hid (HCO.out w3 (HNG.out.below HB13.out))
 have HBB : Hid (W.heap.size + 1 < b) := Lib.hid (by have := HS1.out; omega)
 have HBB0 : Hid (W.heap.size ≤ b) := Lib.hid (by have := HS1.out; omega)
 have HW3 := Lib.hid hw3
 have HXX := Lib.hid hx
 clear hfa hb2 hbl HA c0 c1 c2 hw3 hx
 have c0 := HC3.out.cell (i := 0) rfl
 have c1 := HC3.out.cell (i := 1) rfl
 have c2 := HC3.out.cell (i := 2) rfl
 go_upto_region 4 with fail
 rw [← HW3.out, ← HXX.out]
 go_wp2_with fail
 with_reducible refine HCC.out.mono ?_
 rintro e w6 ⟨rfl, hb6⟩
 have HR6 := Lib.hid (HR3.out.below hb6)
 have HX6 := Lib.hid (HXB.out.below hb6 HSX.out.2)
 have HFA6 := Lib.hid (HFA3.out.below hb6)
 have HB6 : Hid (Below W.heap.size W w6) := Lib.hid (HB1.out.trans ((HB13.out.trans (hb6.mono HB13.out.size)).mono HB1.out.size))
 have HS6 : Hid (W.heap.size + 1 < w6.heap.size) := Lib.hid (by have := hb6.size; have := HSX.out; omega)
 clear hb6 HCC c0 c1 c2
 have r0 := HR6.out.cell (i := 0) rfl
 have g0 := HR6.out.fz 0
 have r1 := HR6.out.cell (i := 1) rfl
 have g1 := HR6.out.fz 1
 have r2 := HR6.out.cell (i := 2) rfl
 have g2 := HR6.out.fz 2
 have r3 := HR6.out.cell (i := 3) rfl
 have g3 := HR6.out.fz 3
 have HFX : Hid (∀ w', w' = ((((w6.setCell ⟨W.heap.size + 1, 0, none⟩ (.int .i64 0)).setCell ⟨W.heap.size + 1, 1, none⟩ (.int .i64 0)).setCell ⟨W.heap.size + 1, 2, none⟩ (.slice none 0 0)).setCell ⟨W.heap.size + 1, 3, none⟩ (.int .i64 0)) → w'.cell? ⟨W.heap.size + 1, 0, none⟩ = some (.int .i64 0) ∧ w'.cell? ⟨W.heap.size + 1, 1, none⟩ = some (.int .i64 0) ∧ w'.cell? ⟨W.heap.size + 1, 2, none⟩ = some (.slice none 0 0) ∧ w'.cell? ⟨W.heap.size + 1, 3, none⟩ = some (.int .i64 0) ∧ Below W.heap.size W w') := Lib.hid (by
  intro w' hw
  have hB := HR6.out.set4 (.int .i64 0) (.int .i64 0) (.slice none 0 0) (.int .i64 0)
  have hX : Bx (fun k => k = W.heap.size + 1) w6 ((((w6.setCell ⟨W.heap.size + 1, 0, none⟩ (.int .i64 0)).setCell ⟨W.heap.size + 1, 1, none⟩ (.int .i64 0)).setCell ⟨W.heap.size + 1, 2, none⟩ (.slice none 0 0)).setCell ⟨W.heap.size + 1, 3, none⟩ (.int .i64 0)) := bx4 _ _ _ _
  rw [← hw] at hB hX
  exact ⟨hB.cell rfl, hB.cell rfl, hB.cell rfl, hB.cell rfl, HB6.out.trans (hX.below HB6.out.size fun k hk => by omega)⟩)
 go_wp2
 obtain ⟨d0, d1, d2, d3, hbz⟩ := HFX.out _ rfl
 exact bodyPost_ret (v := .tuple #[.agg #[.int .i64 0, .int .i64 0, .slice none 0 0, .int .i64 0], .int .i64 2]) (by simp [results, Try.results68, go_sem, d0, d1, d2, d3]) rfl ⟨rfl, hbz⟩
set_option maxHeartbeats 3200000 in
theorem words_big {F : Gf} {n m cg : Nat} {G : List (List Nat)} {L : List (Nat × Cf)} {ga : Option Addr} {W : World} (hC : VC F n m G L) (hk : 4096 < cnK F.q m) (ng : MM G W (.slice ga m cg)) :
  Calls Try.prog 48 #[DV F.q n (.slice ga m cg)] W fun e w' => e = .returned (.tuple #[.slice none 0 0, .int .i64 2]) ∧ Below W.heap.size W w' := by
 obtain ⟨W1, hW1⟩ : ∃ W1, W.alloc (.cells #[.int .i64 (F.q : Nat), .int .i64 (n : Nat), .slice ga m cg] 32) = W1 := ⟨_, rfl⟩
 have HB1 : Hid (Below W.heap.size W W1) := Lib.hid (by rw [← hW1]; exact (Below.refl _ _).alloc (Nat.le_refl _) _)
 have HC1 : Hid (BC W.heap.size [.int .i64 (F.q : Nat), .int .i64 (n : Nat), .slice ga m cg] 32 W1) := Lib.hid (by rw [← hW1]; exact BC.new W [.int .i64 (F.q : Nat), .int .i64 (n : Nat), .slice ga m cg] 32 rfl)
 have HS1 : Hid (W1.heap.size = W.heap.size + 1) := Lib.hid (by rw [← hW1]; simp)
 have HA : Hid (Calls Try.prog 68 #[DV F.q n (.slice ga m cg)] W1 fun e w' => e = .returned (.tuple #[.agg #[.int .i64 0, .int .i64 0, .slice none 0 0, .int .i64 0], .int .i64 2]) ∧ Below W1.heap.size W1 w') := Lib.hid (few_big hC hk (ng.below HB1.out))
 obtain ⟨q, hqq⟩ : ∃ q, Hid (F.q = q) := ⟨_, Lib.hid rfl⟩
 rw [hqq.out] at HA HC1 hW1 ⊢
 have HW1 := Lib.hid hW1
 have c0 := HC1.out.cell (i := 0) rfl
 have c1 := HC1.out.cell (i := 1) rfl
 have c2 := HC1.out.cell (i := 2) rfl
 clear hW1 hC ng hk
 go_enter Try.func48, Try.ntmps48
 go_wp2_with fail
 rw [HW1.out]
 go_wp2_with fail
 with_reducible refine HA.out.mono ?_
 rintro e w2 ⟨rfl, hb2⟩
 have HBF : Hid (Below W.heap.size W (w2.alloc (.cells #[.int .i64 0, .int .i64 0, .slice none 0 0, .int .i64 0] 73))) := Lib.hid (HB1.out.trans ((hb2.trans ((Below.refl _ _).alloc (Nat.le_refl _) _ |>.mono hb2.size)).mono HB1.out.size))
 clear hb2 HA c0 c1 c2
 go_wp2
 refine bodyPost_ret (results_tmp2 rfl _ _ _) rfl ?_
 exact ⟨rfl, HBF.out⟩
set_option maxHeartbeats 3200000 in
theorem weights_big {F : Gf} {n m cg : Nat} {G : List (List Nat)} {L : List (Nat × Cf)} {ga : Option Addr} {W : World} (hC : VC F n m G L) (hk : 4096 < cnK F.q m) (ng : MM G W (.slice ga m cg)) :
  Calls Try.prog 28 #[DV F.q n (.slice ga m cg)] W fun e w' => e = .returned (.tuple #[.slice none 0 0, .int .i64 2]) ∧ Below W.heap.size W w' := by
 obtain ⟨W1, hW1⟩ : ∃ W1, W.alloc (.cells #[.int .i64 (F.q : Nat), .int .i64 (n : Nat), .slice ga m cg] 32) = W1 := ⟨_, rfl⟩
 have HB1 : Hid (Below W.heap.size W W1) := Lib.hid (by rw [← hW1]; exact (Below.refl _ _).alloc (Nat.le_refl _) _)
 have HC1 : Hid (BC W.heap.size [.int .i64 (F.q : Nat), .int .i64 (n : Nat), .slice ga m cg] 32 W1) := Lib.hid (by rw [← hW1]; exact BC.new W [.int .i64 (F.q : Nat), .int .i64 (n : Nat), .slice ga m cg] 32 rfl)
 have HS1 : Hid (W1.heap.size = W.heap.size + 1) := Lib.hid (by rw [← hW1]; simp)
 have HA : Hid (Calls Try.prog 68 #[DV F.q n (.slice ga m cg)] W1 fun e w' => e = .returned (.tuple #[.agg #[.int .i64 0, .int .i64 0, .slice none 0 0, .int .i64 0], .int .i64 2]) ∧ Below W1.heap.size W1 w') := Lib.hid (few_big hC hk (ng.below HB1.out))
 obtain ⟨q, hqq⟩ : ∃ q, Hid (F.q = q) := ⟨_, Lib.hid rfl⟩
 rw [hqq.out] at HA HC1 hW1 ⊢
 have HW1 := Lib.hid hW1
 have c0 := HC1.out.cell (i := 0) rfl
 have c1 := HC1.out.cell (i := 1) rfl
 have c2 := HC1.out.cell (i := 2) rfl
 clear hW1 hC ng hk
 go_enter Try.func28, Try.ntmps28
 go_wp2_with fail
 rw [HW1.out]
 go_wp2_with fail
 with_reducible refine HA.out.mono ?_
 rintro e w2 ⟨rfl, hb2⟩
 have HBF : Hid (Below W.heap.size W (w2.alloc (.cells #[.int .i64 0, .int .i64 0, .slice none 0 0, .int .i64 0] 73))) := Lib.hid (HB1.out.trans ((hb2.trans ((Below.refl _ _).alloc (Nat.le_refl _) _ |>.mono hb2.size)).mono HB1.out.size))
 clear hb2 HA c0 c1 c2
 go_wp2
 refine bodyPost_ret (results_tmp2 rfl _ _ _) rfl ?_
 exact ⟨rfl, HBF.out⟩
set_option maxHeartbeats 3200000 in
theorem dist_big {F : Gf} {n m cg : Nat} {G : List (List Nat)} {L : List (Nat × Cf)} {ga : Option Addr} {W : World} (hC : VC F n m G L) (hk : 4096 < cnK F.q m) (ng : MM G W (.slice ga m cg)) :
  Calls Try.prog 31 #[DV F.q n (.slice ga m cg)] W fun e w' => e = .returned (.tuple #[.int .i64 0, .int .i64 2]) ∧ Below W.heap.size W w' := by
 obtain ⟨W1, hW1⟩ : ∃ W1, W.alloc (.cells #[.int .i64 (F.q : Nat), .int .i64 (n : Nat), .slice ga m cg] 32) = W1 := ⟨_, rfl⟩
 have HB1 : Hid (Below W.heap.size W W1) := Lib.hid (by rw [← hW1]; exact (Below.refl _ _).alloc (Nat.le_refl _) _)
 have HC1 : Hid (BC W.heap.size [.int .i64 (F.q : Nat), .int .i64 (n : Nat), .slice ga m cg] 32 W1) := Lib.hid (by rw [← hW1]; exact BC.new W [.int .i64 (F.q : Nat), .int .i64 (n : Nat), .slice ga m cg] 32 rfl)
 have HS1 : Hid (W1.heap.size = W.heap.size + 1) := Lib.hid (by rw [← hW1]; simp)
 have HA : Hid (Calls Try.prog 28 #[DV F.q n (.slice ga m cg)] W1 fun e w' => e = .returned (.tuple #[.slice none 0 0, .int .i64 2]) ∧ Below W1.heap.size W1 w') := Lib.hid (weights_big hC hk (ng.below HB1.out))
 obtain ⟨q, hqq⟩ : ∃ q, Hid (F.q = q) := ⟨_, Lib.hid rfl⟩
 rw [hqq.out] at HA HC1 hW1 ⊢
 have HW1 := Lib.hid hW1
 have c0 := HC1.out.cell (i := 0) rfl
 have c1 := HC1.out.cell (i := 1) rfl
 have c2 := HC1.out.cell (i := 2) rfl
 clear hW1 hC ng hk
 go_enter Try.func31, Try.ntmps31
 go_wp2_with fail
 rw [HW1.out]
 go_wp2_with fail
 with_reducible refine HA.out.mono ?_
 rintro e w2 ⟨rfl, hb2⟩
 have HBF : Hid (Below W.heap.size W w2) := Lib.hid (HB1.out.trans (hb2.mono HB1.out.size))
 clear hb2 HA c0 c1 c2
 go_wp2
 refine bodyPost_ret (results_tmp2 rfl _ _ _) rfl ?_
 exact ⟨rfl, HBF.out⟩
set_option maxHeartbeats 6400000 in
theorem make_big {F : Gf} {n m cs : Nat} {S0 : List (List Nat)} {sa : Option Addr} {W : World} (hC : GC F n m S0) (hm : m ≤ 64) (hk : 4096 < cnK F.q (redM F n S0).length) (ns : MM S0 W (.slice sa m cs)) :
  Calls Try.prog 12 #[.int .i64 (F.q : Nat), .int .i64 (n : Nat), .slice sa m cs] W fun e w' => e = .returned (.tuple #[.agg #[.int .i64 0, .int .i64 0, .slice none 0 0], .int .i64 2]) ∧ Below W.heap.size W w' := by
 have HFF : Hid (Ok F) := Lib.hid (ok_mem hC.mem)
 have HGC := Lib.hid hC
 have hn2 := hC.n2
 have HRL : Hid ((redM F n S0).length ≤ m) := Lib.hid (by
  rw [redM_len]
  have := (redL_ok HFF.out (Mn.vs HFF.out hC.mn)).2.2
  rw [List.length_map, hC.len] at this; exact this)
 have HVC : Hid (VC F n (redM F n S0).length (redM F n S0) (redL F n (S0.map Go.Fl.fn))) := Lib.hid ⟨⟨hC.mem, hC.q, hC.n1, hC.n2, by have := HRL.out; omega, rfl, (redM_ok HFF.out hC.mn).1⟩, RM.of HFF.out hC.mn⟩
 obtain ⟨W1, hW1⟩ : ∃ W1, W.alloc (.cells ZC 32) = W1 := ⟨_, rfl⟩
 have HB1 : Hid (Below W.heap.size W W1) := Lib.hid (by rw [← hW1]; exact (Below.refl _ _).alloc (Nat.le_refl _) _)
 have HR1 : Hid (BC W.heap.size ZC.toList 32 W1) := Lib.hid (by rw [← hW1]; exact BC.new W ZC.toList 32 rfl)
 have HO : Hid (Calls Try.prog 49 #[.int .i64 (F.q : Nat), .int .i64 (n : Nat)] W1 fun e w' => ∃ b cap, e = .returned (.tuple #[XV F b cap n, .bool true]) ∧ FldAt F b cap w' ∧ Below W1.heap.size W1 w' ∧ W1.heap.size ≤ b) := Lib.hid (over_c hC.mem hC.q hC.n1 hC.n2)
 have HNS := Lib.hid (ns.below HB1.out)
 have HCO : Hid (∀ w a c, MM (redM F n S0) w (.slice a (redM F n S0).length c) → Calls Try.prog 35 #[DV F.q n (.slice a (redM F n S0).length c)] w fun e w' => e = .returned (.int .i64 (cnK F.q (redM F n S0).length : Nat)) ∧ Below w.heap.size w w') := Lib.hid fun w a c h => count_c HVC.out h
 have HW1 := Lib.hid hW1
 obtain ⟨q, hqq⟩ : ∃ q, Hid (F.q = q) := ⟨_, Lib.hid rfl⟩
 obtain ⟨l5, hl5⟩ : ∃ l, Hid ((redM F n S0).length = l) := ⟨_, Lib.hid rfl⟩
 rw [hqq.out, hl5.out] at hk HCO
 rw [hqq.out] at HO
 rw [hqq.out]
 obtain ⟨k5, hk5⟩ : ∃ k, Hid (cnK q l5 = k) := ⟨_, Lib.hid rfl⟩
 rw [hk5.out] at hk HCO
 have hk4 : (4096 : Int) < (k5 : Int) := by omega
 have hm4 : (m : Int) ≤ 64 := by omega
 clear hW1 hC ns hk
 go_enter Try.func12, Try.ntmps12
 go_wp2_with fail
 rw [HW1.out]
 go_wp2_with fail
 with_reducible refine HO.out.mono ?_
 rintro e w2 ⟨b, cap, rfl, hfa, hb2, hbl⟩
 obtain ⟨w3, hw3⟩ : ∃ w3, w3 = w2.alloc (.cells (XC F b cap n) 73) := ⟨_, rfl⟩
 obtain ⟨x, hx⟩ : ∃ x, x = w2.heap.size := ⟨_, rfl⟩
 have HAL : Hid (Below w2.heap.size w2 w3) := Lib.hid (by rw [hw3]; exact (Below.refl _ _).alloc (Nat.le_refl _) _)
 have HXB : Hid (XB x F b cap n w3) := Lib.hid (by rw [hw3, hx]; exact xb_new w2 rfl)
 have HSX : Hid (W.heap.size < x ∧ x < w3.heap.size) := Lib.hid ⟨by have := HR1.out.lt; have := hb2.size; omega, by rw [hw3, hx]; simp⟩
 have HFA3 := Lib.hid (hfa.below HAL.out)
 have HR3 := Lib.hid ((HR1.out.below hb2).below HAL.out)
 have HB13 : Hid (Below W1.heap.size W1 w3) := Lib.hid (hb2.trans (HAL.out.mono hb2.size))
 have HN3 := Lib.hid (HNS.out.below HB13.out)
 have HHA : Hid (Calls Try.prog 50 #[XV F b cap n, .slice sa m cs] w3 fun e w' => e = .returned (.bool true) ∧ Below w3.heap.size w3 w') := Lib.hid (by
  have t := hasall_c (b := b) (cap := cap) (n := n) (R := S0.map ints) (a := sa) (c := cs) HGC.out.mem (by rw [List.length_map, HGC.out.len]; omega) (fun t ht => by rw [List.length_map] at ht; rw [ints_row ht, ints_len, (mrow HGC.out.mn ht).len]; omega) (by rw [List.length_map, HGC.out.len]; exact HN3.out.mi)
  rw [allW_mn HGC.out.mn, List.length_map, HGC.out.len] at t; exact t)
 have HW3 := Lib.hid hw3
 have HXX := Lib.hid hx
 clear hfa hb2 hbl HO hw3 hx
 obtain ⟨x0, x1, x2, x3⟩ := HXB.out
 go_upto_region 2 with fail
 rw [← HW3.out, ← HXX.out]
 go_wp2_with fail
 with_reducible refine HHA.out.mono ?_
 rintro e w4 ⟨rfl, hb4⟩
 have HRD : Hid (Calls Try.prog 51 #[XV F b cap n, .slice sa m cs] w4 (RL (redM F n S0) w4)) := Lib.hid (reduced_c (HFA3.out.below hb4) (by omega) (by omega) HGC.out.mn HGC.out.len (HN3.out.below hb4))
 have HR4 := Lib.hid (HR3.out.below hb4)
 have HB4 : Hid (Below W1.heap.size W1 w4) := Lib.hid (HB13.out.trans (hb4.mono HB13.out.size))
 have HX4 := Lib.hid (HXB.out.below hb4 HSX.out.2)
 clear hb4 HHA x0 x1 x2 x3
 obtain ⟨x0, x1, x2, x3⟩ := HX4.out
 go_wp2_with fail
 with_reducible refine HRD.out.mono ?_
 rintro e w5 ⟨us5, a5, c5, rfl, ho5, hb5⟩
 rw [hl5.out] at ho5 ⊢
 have HB5 : Hid (Below W1.heap.size W1 w5) := Lib.hid (HB4.out.trans (hb5.mono HB4.out.size))
 have HR5 := Lib.hid (HR4.out.below hb5)
 obtain ⟨w6, hw6⟩ : ∃ w6, w6 = w5.alloc (.cells #[.int .i64 (q : Nat), .int .i64 (n : Nat), .slice a5 l5 c5] 32) := ⟨_, rfl⟩
 obtain ⟨y, hy⟩ : ∃ y, y = w5.heap.size := ⟨_, rfl⟩
 have HAL6 : Hid (Below w5.heap.size w5 w6) := Lib.hid (by rw [hw6]; exact (Below.refl _ _).alloc (Nat.le_refl _) _)
 have HC6 : Hid (BC y [.int .i64 (q : Nat), .int .i64 (n : Nat), .slice a5 l5 c5] 32 w6) := Lib.hid (by rw [hw6, hy]; exact BC.new w5 [.int .i64 (q : Nat), .int .i64 (n : Nat), .slice a5 l5 c5] 32 rfl)
 have HR6 := Lib.hid (HR5.out.below HAL6.out)
 have HO6 := Lib.hid ((ho5.weak (b' := W1.heap.size) HB4.out.size).below HAL6.out)
 have HB6 : Hid (Below W1.heap.size W1 w6) := Lib.hid (HB5.out.trans (HAL6.out.mono HB5.out.size))
 have HCC : Hid (Calls Try.prog 35 #[DV q n (.slice a5 l5 c5)] w6 fun e w' => e = .returned (.int .i64 (k5 : Nat)) ∧ Below w6.heap.size w6 w') := Lib.hid (HCO.out w6 a5 c5 HO6.out.mm)
 have HW6 := Lib.hid hw6
 have HYY := Lib.hid hy
 have c0 := HC6.out.cell (i := 0) rfl
 have c1 := HC6.out.cell (i := 1) rfl
 have c2 := HC6.out.cell (i := 2) rfl
 clear ho5 hb5 HRD x0 x1 x2 x3 hw6 hy
 go_upto_region 5 with fail
 rw [← HW6.out, ← HYY.out]
 go_wp2_with fail
 with_reducible refine HCC.out.mono ?_
 rintro e w7 ⟨rfl, hb7⟩
 have HR7 := Lib.hid (HR6.out.below hb7)
 have HC7 := Lib.hid (HC6.out.below hb7)
 have HO7 := Lib.hid (HO6.out.below hb7)
 have HB7 : Hid (Below W1.heap.size W1 w7) := Lib.hid (HB6.out.trans (hb7.mono HB6.out.size))
 clear hb7 HCC c0 c1 c2
 have c0 := HC7.out.cell (i := 0) rfl
 have c1 := HC7.out.cell (i := 1) rfl
 have c2 := HC7.out.cell (i := 2) rfl
 have r0 := HR7.out.cell (i := 0) rfl
 have g0 := HR7.out.fz 0
 have r1 := HR7.out.cell (i := 1) rfl
 have g1 := HR7.out.fz 1
 have r2 := HR7.out.cell (i := 2) rfl
 have g2 := HR7.out.fz 2
 have HFX : Hid (∀ w', w' = (((w7.setCell ⟨W.heap.size, 0, none⟩ (.int .i64 0)).setCell ⟨W.heap.size, 1, none⟩ (.int .i64 0)).setCell ⟨W.heap.size, 2, none⟩ (.slice none 0 0)) → w'.cell? ⟨W.heap.size, 0, none⟩ = some (.int .i64 0) ∧ w'.cell? ⟨W.heap.size, 1, none⟩ = some (.int .i64 0) ∧ w'.cell? ⟨W.heap.size, 2, none⟩ = some (.slice none 0 0) ∧ Below W.heap.size W w') := Lib.hid (by
  intro w' hw
  have hB := HR7.out.set3 (.int .i64 0) (.int .i64 0) (.slice none 0 0)
  have hX : Bx (fun k => k = W.heap.size) w7 (((w7.setCell ⟨W.heap.size, 0, none⟩ (.int .i64 0)).setCell ⟨W.heap.size, 1, none⟩ (.int .i64 0)).setCell ⟨W.heap.size, 2, none⟩ (.slice none 0 0)) := bx3 _ _ _
  rw [← hw] at hB hX
  exact ⟨hB.cell rfl, hB.cell rfl, hB.cell rfl, HB1.out.trans ((HB7.out.mono HB1.out.size).trans (hX.below (Nat.le_trans HB1.out.size HB7.out.size) fun k hk => by omega))⟩)
 go_wp2
 obtain ⟨d0, d1, d2, hbz⟩ := HFX.out _ rfl
 exact bodyPost_ret (v := .tuple #[.agg #[.int .i64 0, .int .i64 0, .slice none 0 0], .int .i64 2]) (by simp [results, Try.results12, go_sem, d0, d1, d2]) rfl ⟨rfl, hbz⟩

end Go.Proofs.Ytdafhhojiioifaa
