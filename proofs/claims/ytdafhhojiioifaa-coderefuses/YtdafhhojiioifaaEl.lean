/- What is no word is refused. -/
import Derived.Test.YtdafhhojiioifaaEe
namespace Go.Proofs.Ytdafhhojiioifaa
open Go.RowKit Go.Fl
set_option maxRecDepth 100000
set_option linter.unusedVariables false
set_option linter.unusedSimpArgs false
set_option linter.unusedSectionVars false

theorem NI.nn {Z : List Int} {V : List Nat} {w : World} {v : Value} (hz : Z = ints V) (h : NI Z w v) : NN V w v := by
 subst hz
 rcases h with ⟨h1, h2⟩ | ⟨b, off, cap, h1, h2, h3, h4⟩
 ·refine .inl ⟨?_, h2⟩
  have := congrArg List.length h1
  rw [ints_len] at this
  exact List.eq_nil_of_length_eq_zero this
 ·rw [ints_len] at h1 h2 h4
  exact .inr ⟨b, off, cap, h1, h2, h3, fun t ht => by rw [h4 t ht, ints_get]⟩
theorem ints_of {q : Nat} {Z : List Int} (h : elI q Z = true) : ∃ V : List Nat, Z = ints V ∧ (∀ x ∈ V, x < q) ∧ V.length = Z.length := by
 refine ⟨Z.map Int.toNat, ?_, fun x hx => ?_, by simp⟩
 ·unfold ints
  rw [List.map_map]
  conv => lhs; rw [← List.map_id Z]
  refine List.map_congr_left fun z hz => ?_
  have := List.all_eq_true.1 h z hz
  simp only [decide_eq_true_eq] at this
  show z = ((z.toNat : Nat) : Int)
  omega
 ·obtain ⟨z, hz, rfl⟩ := List.mem_map.1 hx
  have := List.all_eq_true.1 h z hz
  simp only [decide_eq_true_eq] at this
  omega
set_option maxHeartbeats 3200000 in
theorem rword_any {q n l c : Nat} {Z : List Int} {a : Option Addr} {W : World} (hq : q ≤ 10000) (hn : n ≤ 10000) (hl : Z.length = l) (hlb : l ≤ 10000) (h : NI Z W (.slice a l c)) :
  Calls Try.prog 47 #[.int .i64 (q : Nat), .int .i64 (n : Nat), .slice a l c] W fun e w' => e = .returned (.bool (decide (l = n) && elI q Z)) ∧ Below W.heap.size W w' := by
 have HN : Hid (NI Z W (.slice a Z.length c)) := Lib.hid (by rw [hl]; exact h)
 have HL := Lib.hid hl
 obtain ⟨R, hR⟩ : ∃ R, Hid ((decide (l = n) && elI q Z) = R) := ⟨_, Lib.hid rfl⟩
 rw [hR.out]
 clear h hl
 by_cases hln : l = n
 ·have HR : Hid (elI q Z = R) := Lib.hid (by have := hR.out; rw [decide_eq_true hln, Bool.true_and] at this; exact this)
  subst hln
  clear hR
  go_enter Try.func47, Try.ntmps47
  go_wp2
  go_loopw [7] (fun i wr => ∃ k : Nat, k ≤ l ∧ i = .int .i64 (k : Nat) ∧ Hid (∀ j, j < k → 0 ≤ Z.getD j 0 ∧ Z.getD j 0 < (q : Int)) ∧ wr = W) (fun i _ => l - (intOf i).toNat)
  case atStart => exact ⟨0, Nat.zero_le _, rfl, Lib.hid (fun j hj => by omega), rfl⟩
  case round =>
   obtain ⟨k, hk, rfl, KA, rfl⟩ := hrel
   by_cases hlt : k < l
   ·obtain ⟨x, hx⟩ : ∃ x : Int, Hid (Z.getD k 0 = x) := ⟨_, Lib.hid rfl⟩
    obtain ⟨b1, o1, rfl, hc⟩ := HN.out.at (k := k) (by rw [HL.out]; exact hlt)
    rw [hx.out] at hc
    by_cases h0 : x < 0
    ·have HF : Hid (R = false) := Lib.hid (by rw [← HR.out]; exact elI_no (k := k) (by rw [HL.out]; exact hlt) (by rw [hx.out]; omega))
     go_wp2
     go_ret
     exact ⟨by rw [HF.out]; rfl, Below.refl _ _⟩
    ·by_cases h1 : (q : Int) ≤ x
     ·have HF : Hid (R = false) := Lib.hid (by rw [← HR.out]; exact elI_no (k := k) (by rw [HL.out]; exact hlt) (by rw [hx.out]; omega))
      go_wp2
      go_ret
      exact ⟨by rw [HF.out]; rfl, Below.refl _ _⟩
     ·have KA2 : Hid (∀ j, j < k + 1 → 0 ≤ Z.getD j 0 ∧ Z.getD j 0 < (q : Int)) := Lib.hid fun j hj => by
       by_cases e : j = k
       ·rw [e, hx.out]; omega
       ·exact KA.out j (by omega)
      go_wp2
      go_roundw
      case rel => exact ⟨k + 1, by omega, by go_num, KA2, trivial⟩
      case measure => simp [intOf]; omega
   ·have hlt1 : ¬ (k : Int) < (l : Int) := by omega
    have HT : Hid (R = true) := Lib.hid (by rw [← HR.out]; exact elI_yes fun j hj => KA.out j (by rw [HL.out] at hj; omega))
    go_wp2
    go_ret
    exact ⟨by rw [HT.out]; rfl, Below.refl _ _⟩
 ·have HF : Hid (R = false) := Lib.hid (by rw [← hR.out, decide_eq_false hln, Bool.false_and])
  have hlni : ¬ (l : Int) = (n : Int) := by omega
  have hlnb : ((l : Int) != (n : Int)) = true := by simp; omega
  clear hR
  go_enter Try.func47, Try.ntmps47
  go_wp2
  go_ret
  exact ⟨by rw [HF.out]; rfl, Below.refl _ _⟩
set_option maxHeartbeats 3200000 in
theorem message_no {F : Gf} {n m cg l cv : Nat} {G : List (List Nat)} {L : List (Nat × Cf)} {Z : List Int} {ga av : Option Addr} {W : World} (hC : VC F n m G L) (ng : MM G W (.slice ga m cg)) (hl : Z.length = l) (hlb : l ≤ 10000) (nv : NI Z W (.slice av l cv)) (hbad : (decide (l = n) && elI F.q Z) = false) :
  Calls Try.prog 21 #[DV F.q n (.slice ga m cg), .slice av l cv] W fun e w' => e = .returned (.tuple #[.slice none 0 0, .int .i64 1]) ∧ Below W.heap.size W w' := by
 obtain ⟨W1, hW1⟩ : ∃ W1, W.alloc (.cells #[.int .i64 (F.q : Nat), .int .i64 (n : Nat), .slice ga m cg] 32) = W1 := ⟨_, rfl⟩
 have HB1 : Hid (Below W.heap.size W W1) := Lib.hid (by rw [← hW1]; exact (Below.refl _ _).alloc (Nat.le_refl _) _)
 have HC1 : Hid (BC W.heap.size [.int .i64 (F.q : Nat), .int .i64 (n : Nat), .slice ga m cg] 32 W1) := Lib.hid (by rw [← hW1]; exact BC.new W [.int .i64 (F.q : Nat), .int .i64 (n : Nat), .slice ga m cg] 32 rfl)
 have HS1 : Hid (W1.heap.size = W.heap.size + 1) := Lib.hid (by rw [← hW1]; simp)
 have HA : Hid (Calls Try.prog 54 #[DV F.q n (.slice ga m cg)] W1 fun e w' => ∃ b cap, e = .returned (.tuple #[XV F b cap n, .bool true]) ∧ FldAt F b cap w' ∧ Below W1.heap.size W1 w' ∧ W1.heap.size ≤ b) := Lib.hid (by have := around_c hC.gc (ng.below HB1.out); rw [hC.ar] at this; exact this)
 have HNV := Lib.hid (nv.below HB1.out)
 have HFM : Hid (F ∈ fds) := Lib.hid hC.gc.mem
 have HHS : Hid (∀ b cap w', NI Z w' (.slice av l cv) → Calls Try.prog 60 #[XV F b cap n, .slice av l cv] w' fun e w'' => e = .returned (.bool false) ∧ Below w'.heap.size w' w'') := Lib.hid fun b cap w' h => by
  have t := has_c (F := F) (b := b) (cap := cap) (n := n) (L := Z) (a := av) (c := cv) (W := w') HFM.out (by omega) (by rw [hl]; exact h)
  rw [hl, hbad] at t
  exact t
 obtain ⟨q, hqq⟩ : ∃ q, Hid (F.q = q) := ⟨_, Lib.hid rfl⟩
 rw [hqq.out] at HA HC1 hW1 ⊢
 have HW1 := Lib.hid hW1
 have c0 := HC1.out.cell (i := 0) rfl
 have c1 := HC1.out.cell (i := 1) rfl
 have c2 := HC1.out.cell (i := 2) rfl
 clear hW1 hC ng nv hbad
 go_enter Try.func21, Try.ntmps21
 go_wp2_with fail
 rw [HW1.out]
 go_wp2_with fail
 with_reducible refine HA.out.mono ?_
 rintro e w2 ⟨b, cap, rfl, hfa, hb2, hbl⟩
 obtain ⟨w3, hw3⟩ : ∃ w3, w3 = w2.alloc (.cells (XC F b cap n) 73) := ⟨_, rfl⟩
 obtain ⟨x, hx⟩ : ∃ x, x = w2.heap.size := ⟨_, rfl⟩
 have HAL : Hid (Below w2.heap.size w2 w3) := Lib.hid (by rw [hw3]; exact (Below.refl _ _).alloc (Nat.le_refl _) _)
 have HXB : Hid (XB x F b cap n w3) := Lib.hid (by rw [hw3, hx]; exact xb_new w2 rfl)
 have HB13 : Hid (Below W1.heap.size W1 w3) := Lib.hid (hb2.trans (HAL.out.mono hb2.size))
 have HB3 : Hid (Below W.heap.size W w3) := Lib.hid (HB1.out.trans (HB13.out.mono HB1.out.size))
 have HC3 := Lib.hid (HC1.out.below HB13.out)
 have HH3 : Hid (Calls Try.prog 60 #[XV F b cap n, .slice av l cv] w3 fun e w'' => e = .returned (.bool false) ∧ Below w3.heap.size w3 w'') := Lib.hid (HHS.out b cap w3 (HNV.out.below HB13.out))
 have HW3 := Lib.hid hw3
 have HXX := Lib.hid hx
 obtain ⟨x0, x1, x2, x3⟩ := HXB.out
 have c0 := HC3.out.cell (i := 0) rfl
 have c1 := HC3.out.cell (i := 1) rfl
 have c2 := HC3.out.cell (i := 2) rfl
 rw [hx] at x0 x1 x2 x3
 rw [hw3] at x0 x1 x2 x3 c0 c1 c2
 clear hfa hb2 hbl HA hw3 hx
 go_wp2_with fail
 rw [← HW3.out]
 try rw [← HXX.out]
 with_reducible refine HH3.out.mono ?_
 rintro e w4 ⟨rfl, hb4⟩
 have HBF : Hid (Below W.heap.size W w4) := Lib.hid (HB3.out.trans (hb4.mono HB3.out.size))
 clear hb4 HH3 x0 x1 x2 x3 c0 c1 c2
 go_wp2
 refine bodyPost_ret (results_tmp2 rfl _ _ _) rfl ?_
 exact ⟨rfl, HBF.out⟩
set_option maxHeartbeats 3200000 in
theorem syndrome_no {F : Gf} {n m cg l cv : Nat} {G : List (List Nat)} {L : List (Nat × Cf)} {Z : List Int} {ga av : Option Addr} {W : World} (hC : VC F n m G L) (ng : MM G W (.slice ga m cg)) (hl : Z.length = l) (hlb : l ≤ 10000) (nv : NI Z W (.slice av l cv)) (hbad : (decide (l = n) && elI F.q Z) = false) :
  Calls Try.prog 23 #[DV F.q n (.slice ga m cg), .slice av l cv] W fun e w' => e = .returned (.tuple #[.slice none 0 0, .int .i64 1]) ∧ Below W.heap.size W w' := by
 obtain ⟨W1, hW1⟩ : ∃ W1, W.alloc (.cells #[.int .i64 (F.q : Nat), .int .i64 (n : Nat), .slice ga m cg] 32) = W1 := ⟨_, rfl⟩
 have HB1 : Hid (Below W.heap.size W W1) := Lib.hid (by rw [← hW1]; exact (Below.refl _ _).alloc (Nat.le_refl _) _)
 have HC1 : Hid (BC W.heap.size [.int .i64 (F.q : Nat), .int .i64 (n : Nat), .slice ga m cg] 32 W1) := Lib.hid (by rw [← hW1]; exact BC.new W [.int .i64 (F.q : Nat), .int .i64 (n : Nat), .slice ga m cg] 32 rfl)
 have HS1 : Hid (W1.heap.size = W.heap.size + 1) := Lib.hid (by rw [← hW1]; simp)
 have HA : Hid (Calls Try.prog 54 #[DV F.q n (.slice ga m cg)] W1 fun e w' => ∃ b cap, e = .returned (.tuple #[XV F b cap n, .bool true]) ∧ FldAt F b cap w' ∧ Below W1.heap.size W1 w' ∧ W1.heap.size ≤ b) := Lib.hid (by have := around_c hC.gc (ng.below HB1.out); rw [hC.ar] at this; exact this)
 have HNV := Lib.hid (nv.below HB1.out)
 have HFM : Hid (F ∈ fds) := Lib.hid hC.gc.mem
 have HHS : Hid (∀ b cap w', NI Z w' (.slice av l cv) → Calls Try.prog 60 #[XV F b cap n, .slice av l cv] w' fun e w'' => e = .returned (.bool false) ∧ Below w'.heap.size w' w'') := Lib.hid fun b cap w' h => by
  have t := has_c (F := F) (b := b) (cap := cap) (n := n) (L := Z) (a := av) (c := cv) (W := w') HFM.out (by omega) (by rw [hl]; exact h)
  rw [hl, hbad] at t
  exact t
 obtain ⟨q, hqq⟩ : ∃ q, Hid (F.q = q) := ⟨_, Lib.hid rfl⟩
 rw [hqq.out] at HA HC1 hW1 ⊢
 have HW1 := Lib.hid hW1
 have c0 := HC1.out.cell (i := 0) rfl
 have c1 := HC1.out.cell (i := 1) rfl
 have c2 := HC1.out.cell (i := 2) rfl
 clear hW1 hC ng nv hbad
 go_enter Try.func23, Try.ntmps23
 go_wp2_with fail
 rw [HW1.out]
 go_wp2_with fail
 with_reducible refine HA.out.mono ?_
 rintro e w2 ⟨b, cap, rfl, hfa, hb2, hbl⟩
 obtain ⟨w3, hw3⟩ : ∃ w3, w3 = w2.alloc (.cells (XC F b cap n) 73) := ⟨_, rfl⟩
 obtain ⟨x, hx⟩ : ∃ x, x = w2.heap.size := ⟨_, rfl⟩
 have HAL : Hid (Below w2.heap.size w2 w3) := Lib.hid (by rw [hw3]; exact (Below.refl _ _).alloc (Nat.le_refl _) _)
 have HXB : Hid (XB x F b cap n w3) := Lib.hid (by rw [hw3, hx]; exact xb_new w2 rfl)
 have HB13 : Hid (Below W1.heap.size W1 w3) := Lib.hid (hb2.trans (HAL.out.mono hb2.size))
 have HB3 : Hid (Below W.heap.size W w3) := Lib.hid (HB1.out.trans (HB13.out.mono HB1.out.size))
 have HC3 := Lib.hid (HC1.out.below HB13.out)
 have HH3 : Hid (Calls Try.prog 60 #[XV F b cap n, .slice av l cv] w3 fun e w'' => e = .returned (.bool false) ∧ Below w3.heap.size w3 w'') := Lib.hid (HHS.out b cap w3 (HNV.out.below HB13.out))
 have HW3 := Lib.hid hw3
 have HXX := Lib.hid hx
 obtain ⟨x0, x1, x2, x3⟩ := HXB.out
 have c0 := HC3.out.cell (i := 0) rfl
 have c1 := HC3.out.cell (i := 1) rfl
 have c2 := HC3.out.cell (i := 2) rfl
 rw [hx] at x0 x1 x2 x3
 rw [hw3] at x0 x1 x2 x3 c0 c1 c2
 clear hfa hb2 hbl HA hw3 hx
 go_wp2_with fail
 rw [← HW3.out]
 try rw [← HXX.out]
 with_reducible refine HH3.out.mono ?_
 rintro e w4 ⟨rfl, hb4⟩
 have HBF : Hid (Below W.heap.size W w4) := Lib.hid (HB3.out.trans (hb4.mono HB3.out.size))
 clear hb4 HH3 x0 x1 x2 x3 c0 c1 c2
 go_wp2
 refine bodyPost_ret (results_tmp2 rfl _ _ _) rfl ?_
 exact ⟨rfl, HBF.out⟩
set_option maxHeartbeats 3200000 in
theorem encode_no {F : Gf} {n m cg l cv : Nat} {G : List (List Nat)} {L : List (Nat × Cf)} {Z : List Int} {ga av : Option Addr} {W : World} (hC : VC F n m G L) (ng : MM G W (.slice ga m cg)) (hl : Z.length = l) (hlb : l ≤ 10000) (nv : NI Z W (.slice av l cv)) (hbad : (decide (l = m) && elI F.q Z) = false) :
  Calls Try.prog 19 #[DV F.q n (.slice ga m cg), .slice av l cv] W fun e w' => e = .returned (.tuple #[.slice none 0 0, .int .i64 1]) ∧ Below W.heap.size W w' := by
 obtain ⟨W1, hW1⟩ : ∃ W1, W.alloc (.cells #[.int .i64 (F.q : Nat), .int .i64 (n : Nat), .slice ga m cg] 32) = W1 := ⟨_, rfl⟩
 have HB1 : Hid (Below W.heap.size W W1) := Lib.hid (by rw [← hW1]; exact (Below.refl _ _).alloc (Nat.le_refl _) _)
 have HC1 : Hid (BC W.heap.size [.int .i64 (F.q : Nat), .int .i64 (n : Nat), .slice ga m cg] 32 W1) := Lib.hid (by rw [← hW1]; exact BC.new W [.int .i64 (F.q : Nat), .int .i64 (n : Nat), .slice ga m cg] 32 rfl)
 have HS1 : Hid (W1.heap.size = W.heap.size + 1) := Lib.hid (by rw [← hW1]; simp)
 have HA : Hid (Calls Try.prog 54 #[DV F.q n (.slice ga m cg)] W1 fun e w' => ∃ b cap, e = .returned (.tuple #[XV F b cap n, .bool true]) ∧ FldAt F b cap w' ∧ Below W1.heap.size W1 w' ∧ W1.heap.size ≤ b) := Lib.hid (by have := around_c hC.gc (ng.below HB1.out); rw [hC.ar] at this; exact this)
 have HNV := Lib.hid (nv.below HB1.out)
 have HFM : Hid (F ∈ fds) := Lib.hid hC.gc.mem
 by_cases hlm : l = m
 ·have HHS : Hid (∀ b cap w', NI Z w' (.slice av l cv) → Calls Try.prog 55 #[XV F b cap n, .slice av l cv] w' fun e w'' => e = .returned (.bool false) ∧ Below w'.heap.size w' w'') := Lib.hid fun b cap w' h => by
   have t := hasel_c (F := F) (b := b) (cap := cap) (n := n) (L := Z) (a := av) (c := cv) (W := w') HFM.out (by omega) (by rw [hl]; exact h)
   rw [decide_eq_true hlm, Bool.true_and] at hbad
   rw [hl, hbad] at t
   exact t
  subst hlm
  obtain ⟨q, hqq⟩ : ∃ q, Hid (F.q = q) := ⟨_, Lib.hid rfl⟩
  rw [hqq.out] at HA HC1 hW1 ⊢
  have HW1 := Lib.hid hW1
  have c0 := HC1.out.cell (i := 0) rfl
  have c1 := HC1.out.cell (i := 1) rfl
  have c2 := HC1.out.cell (i := 2) rfl
  clear hW1 hC ng nv hbad
  go_enter Try.func19, Try.ntmps19
  go_wp2_with fail
  rw [HW1.out]
  go_wp2_with fail
  with_reducible refine HA.out.mono ?_
  rintro e w2 ⟨b, cap, rfl, hfa, hb2, hbl⟩
  obtain ⟨w3, hw3⟩ : ∃ w3, w3 = w2.alloc (.cells (XC F b cap n) 73) := ⟨_, rfl⟩
  obtain ⟨x, hx⟩ : ∃ x, x = w2.heap.size := ⟨_, rfl⟩
  have HAL : Hid (Below w2.heap.size w2 w3) := Lib.hid (by rw [hw3]; exact (Below.refl _ _).alloc (Nat.le_refl _) _)
  have HXB : Hid (XB x F b cap n w3) := Lib.hid (by rw [hw3, hx]; exact xb_new w2 rfl)
  have HB13 : Hid (Below W1.heap.size W1 w3) := Lib.hid (hb2.trans (HAL.out.mono hb2.size))
  have HB3 : Hid (Below W.heap.size W w3) := Lib.hid (HB1.out.trans (HB13.out.mono HB1.out.size))
  have HC3 := Lib.hid (HC1.out.below HB13.out)
  have HH3 : Hid (Calls Try.prog 55 #[XV F b cap n, .slice av l cv] w3 fun e w'' => e = .returned (.bool false) ∧ Below w3.heap.size w3 w'') := Lib.hid (HHS.out b cap w3 (HNV.out.below HB13.out))
  have HW3 := Lib.hid hw3
  have HXX := Lib.hid hx
  obtain ⟨x0, x1, x2, x3⟩ := HXB.out
  have c0 := HC3.out.cell (i := 0) rfl
  have c1 := HC3.out.cell (i := 1) rfl
  have c2 := HC3.out.cell (i := 2) rfl
  rw [hx] at x0 x1 x2 x3
  rw [hw3] at x0 x1 x2 x3 c0 c1 c2
  clear hfa hb2 hbl HA hw3 hx
  go_wp2_with fail
  rw [← HW3.out]
  try rw [← HXX.out]
  with_reducible refine HH3.out.mono ?_
  rintro e w4 ⟨rfl, hb4⟩
  have HBF : Hid (Below W.heap.size W w4) := Lib.hid (HB3.out.trans (hb4.mono HB3.out.size))
  clear hb4 HH3 x0 x1 x2 x3 c0 c1 c2
  go_wp2
  refine bodyPost_ret (results_tmp2 rfl _ _ _) rfl ?_
  exact ⟨rfl, HBF.out⟩
 ·have hlmi : ¬ (l : Int) = (m : Int) := by omega
  have hlmb : ((l : Int) != (m : Int)) = true := by simp; omega
  obtain ⟨q, hqq⟩ : ∃ q, Hid (F.q = q) := ⟨_, Lib.hid rfl⟩
  rw [hqq.out] at HA HC1 hW1 ⊢
  have HW1 := Lib.hid hW1
  have c0 := HC1.out.cell (i := 0) rfl
  have c1 := HC1.out.cell (i := 1) rfl
  have c2 := HC1.out.cell (i := 2) rfl
  clear hW1 hC ng nv hbad
  go_enter Try.func19, Try.ntmps19
  go_wp2_with fail
  rw [HW1.out]
  go_wp2_with fail
  with_reducible refine HA.out.mono ?_
  rintro e w2 ⟨b, cap, rfl, hfa, hb2, hbl⟩
  obtain ⟨w3, hw3⟩ : ∃ w3, w3 = w2.alloc (.cells (XC F b cap n) 73) := ⟨_, rfl⟩
  have HAL : Hid (Below w2.heap.size w2 w3) := Lib.hid (by rw [hw3]; exact (Below.refl _ _).alloc (Nat.le_refl _) _)
  have HB13 : Hid (Below W1.heap.size W1 w3) := Lib.hid (hb2.trans (HAL.out.mono hb2.size))
  have HBF : Hid (Below W.heap.size W w3) := Lib.hid (HB1.out.trans (HB13.out.mono HB1.out.size))
  have HC3 := Lib.hid (HC1.out.below HB13.out)
  have HW3 := Lib.hid hw3
  have c0 := HC3.out.cell (i := 0) rfl
  have c1 := HC3.out.cell (i := 1) rfl
  have c2 := HC3.out.cell (i := 2) rfl
  rw [hw3] at c0 c1 c2
  clear hfa hb2 hbl HA hw3
  go_wp2
  try rw [← HW3.out]
  refine bodyPost_ret (results_tmp2 rfl _ _ _) rfl ?_
  exact ⟨rfl, HBF.out⟩

end Go.Proofs.Ytdafhhojiioifaa
