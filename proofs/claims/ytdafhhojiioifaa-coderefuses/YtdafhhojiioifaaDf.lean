/- The syndrome of a word. -/
import Derived.Test.YtdafhhojiioifaaDv
namespace Go.Proofs.Ytdafhhojiioifaa
open Go.RowKit Go.Fl
set_option maxRecDepth 100000
set_option linter.unusedVariables false
set_option linter.unusedSimpArgs false
set_option linter.unusedSectionVars false

open Go.RowKit
/-- the products of a word with the first k rows -/
def syK (F : Gf) (n : Nat) (D : List (List Nat)) (V : List Nat) (k : Nat) : List Nat := (D.take k).map fun r => dt F n (fn V) (fn r)
theorem syK_len {F : Gf} {n : Nat} {D : List (List Nat)} {V : List Nat} {k : Nat} (hk : k ≤ D.length) : (syK F n D V k).length = k := by unfold syK; rw [List.length_map, List.length_take]; omega
theorem syK_succ {F : Gf} {n : Nat} {D : List (List Nat)} {V : List Nat} {k : Nat} (hk : k < D.length) : syK F n D V (k + 1) = syK F n D V k ++ [dt F n (fn V) (fn (D.getD k []))] := by
 unfold syK
 rw [List.take_succ_eq_append_getElem hk, List.map_append, List.getD_eq_getElem?_getD, List.getElem?_eq_getElem hk]; rfl
/-- the syndrome -/
def syV (F : Gf) (n : Nat) (G : List (List Nat)) (V : List Nat) : List Nat := (kerM F n G).map fun r => dt F n (fn V) (fn r)
theorem field32 (x y : Int) (a : Option Addr) (l c : Nat) (w : World) : (Instr.field 32 (.agg #[.int .i64 x, .int .i64 y, .slice a l c]) 2).run Try.prog w = .ok (.slice a l c) w := by kernel_rfl
set_option maxHeartbeats 6400000 in
theorem syndrome_c {F : Gf} {n m cg cv : Nat} {G : List (List Nat)} {L : List (Nat × Cf)} {V : List Nat} {ga av : Option Addr} {W : World} (hC : VC F n m G L) (ng : MM G W (.slice ga m cg)) (mv : Vn F n V) (nv : NN V W (.slice av n cv)) :
  Calls Try.prog 23 #[DV F.q n (.slice ga m cg), .slice av n cv] W fun e w' => ∃ a c, e = .returned (.tuple #[.slice a (kerM F n G).length c, .int .i64 0]) ∧ w'.ownsRow W.heap.size 3 1 (.slice a (kerM F n G).length c) (kerM F n G).length ((syV F n G V).map N64) ∧ Below W.heap.size W w' := by
 obtain ⟨i0, hi, hz0, hz1, hz2⟩ := info_parts info3
 obtain ⟨W1, hW1⟩ : ∃ W1, W.alloc (.cells #[.int .i64 (F.q : Nat), .int .i64 (n : Nat), .slice ga m cg] 32) = W1 := ⟨_, rfl⟩
 have HB1 : Hid (Below W.heap.size W W1) := Lib.hid (by rw [← hW1]; exact (Below.refl _ _).alloc (Nat.le_refl _) _)
 have HC1 : Hid (BC W.heap.size [.int .i64 (F.q : Nat), .int .i64 (n : Nat), .slice ga m cg] 32 W1) := Lib.hid (by rw [← hW1]; exact BC.new W [.int .i64 (F.q : Nat), .int .i64 (n : Nat), .slice ga m cg] 32 rfl)
 have HS1 : Hid (W1.heap.size = W.heap.size + 1) := Lib.hid (by rw [← hW1]; simp)
 have HA : Hid (Calls Try.prog 54 #[DV F.q n (.slice ga m cg)] W1 fun e w' => ∃ b cap, e = .returned (.tuple #[XV F b cap n, .bool true]) ∧ FldAt F b cap w' ∧ Below W1.heap.size W1 w' ∧ W1.heap.size ≤ b) := Lib.hid (by have := around_c hC.gc (ng.below HB1.out); rw [hC.ar] at this; exact this)
 have HNG := Lib.hid (ng.below HB1.out)
 have HNV := Lib.hid (nv.below HB1.out)
 have HMV := Lib.hid mv
 have HFM : Hid (F ∈ fds) := Lib.hid hC.gc.mem
 have hn2 := hC.gc.n2
 obtain ⟨D, hD⟩ : ∃ D, Hid (kerM F n G = D) := ⟨_, Lib.hid rfl⟩
 obtain ⟨ld, hld⟩ : ∃ k, Hid (D.length = k) := ⟨_, Lib.hid rfl⟩
 have hdb : ld ≤ 24 := by have h := hC.dims; rw [hD.out, hld.out] at h; omega
 have HDN : Hid (Mn F n D) := Lib.hid (by have h := hC.dual.gc.mn; rw [hD.out] at h; exact h)
 have HDU : Hid (∀ w', MM G w' (.slice ga m cg) → Calls Try.prog 26 #[DV F.q n (.slice ga m cg)] w' (CP F.q n D w')) := Lib.hid fun w' h => by
  have t := dual_c hC h
  rw [hD.out] at t; exact t
 have HHS : Hid (∀ b cap w', NN V w' (.slice av n cv) → Calls Try.prog 60 #[XV F b cap n, .slice av n cv] w' fun e w'' => e = .returned (.bool true) ∧ Below w'.heap.size w' w'') := Lib.hid fun b cap w' h => by
  have hl : (ints V).length = n := by rw [ints_len, HMV.out.len]
  have t := has_c (F := F) (b := b) (cap := cap) (n := n) (L := ints V) (a := av) (c := cv) (W := w') HFM.out (by rw [hl]; omega) (by have := h.ni; rw [hl]; exact this)
  rw [hl, elI_in HMV.out.el, decide_eq_true rfl] at t
  exact t
 have HSY : Hid (syV F n G V = syK F n D V ld) := Lib.hid (by unfold syV syK; rw [hD.out, ← hld.out, List.take_length])
 rw [HSY.out, hD.out, hld.out]
 obtain ⟨q, hqq⟩ : ∃ q, Hid (F.q = q) := ⟨_, Lib.hid rfl⟩
 rw [hqq.out] at HA HC1 hW1 HDU ⊢
 have HW1 := Lib.hid hW1
 have c0 := HC1.out.cell (i := 0) rfl
 have c1 := HC1.out.cell (i := 1) rfl
 have c2 := HC1.out.cell (i := 2) rfl
 clear hW1 hC ng nv mv
 go_enter Try.func23, Try.ntmps23
 go_wp2_with fail
 rw [HW1.out]
 go_wp2_with fail
 with_reducible refine HA.out.mono ?_
 rintro e w2 ⟨b, cap, rfl, hfa, hb2, hbl⟩
 obtain ⟨w3, hw3⟩ : ∃ w3, w3 = w2.alloc (.cells (XC F b cap n) 73) := ⟨_, rfl⟩
 obtain ⟨x, hx⟩ : ∃ x, x = w2.heap.size := ⟨_, rfl⟩
 have HAL : Hid (Below w2.heap.size w2 w3) := Lib.hid (by rw [hw3]; exact (Below.refl _ _).alloc (Nat.le_refl _) _)
 have HXB : Hid (XB x F b cap n w3) := Lib.hid (by rw [hw3, hx]; exact xb_new w2 rfl)
 have HXL : Hid (x < w3.heap.size) := Lib.hid (by rw [hw3, hx]; simp)
 have HFA3 := Lib.hid (hfa.below HAL.out)
 have HB13 : Hid (Below W1.heap.size W1 w3) := Lib.hid (hb2.trans (HAL.out.mono hb2.size))
 have HB3 : Hid (Below W.heap.size W w3) := Lib.hid (HB1.out.trans (HB13.out.mono HB1.out.size))
 have HC3 := Lib.hid (HC1.out.below HB13.out)
 have HH3 : Hid (Calls Try.prog 60 #[XV F b cap n, .slice av n cv] w3 fun e w'' => e = .returned (.bool true) ∧ Below w3.heap.size w3 w'') := Lib.hid (HHS.out b cap w3 (HNV.out.below HB13.out))
 have HW3 := Lib.hid hw3
 have HXX := Lib.hid hx
 obtain ⟨x0, x1, x2, x3⟩ := HXB.out
 have c0 := HC3.out.cell (i := 0) rfl
 have c1 := HC3.out.cell (i := 1) rfl
 have c2 := HC3.out.cell (i := 2) rfl
 rw [hx] at x0 x1 x2 x3
 rw [hw3] at x0 x1 x2 x3 c0 c1 c2
 clear hfa hb2 hbl HA hw3 hx
 go_wp2_with fail
 rw [← HW3.out]
 try rw [← HXX.out]
 with_reducible refine HH3.out.mono ?_
 rintro e w4 ⟨rfl, hb4⟩
 have HB34 := Lib.hid hb4
 have HC4 := Lib.hid (HC3.out.below hb4)
 have HD4 : Hid (Calls Try.prog 26 #[DV q n (.slice ga m cg)] w4 (CP q n D w4)) := Lib.hid (HDU.out w4 (HNG.out.below (HB13.out.trans (hb4.mono HB13.out.size))))
 clear x0 x1 x2 x3 c0 c1 c2 hb4 HH3
 have c0 := HC4.out.cell (i := 0) rfl
 have c1 := HC4.out.cell (i := 1) rfl
 have c2 := HC4.out.cell (i := 2) rfl
 go_wp2_with fail
 try rw [← HXX.out]
 with_reducible refine HD4.out.mono ?_
 rintro e w5 ⟨us, ad, cd, rfl, ho, hb5⟩
 rw [hld.out] at ho ⊢
 have HO := Lib.hid ho
 have HB35 : Hid (Below w3.heap.size w3 w5) := Lib.hid (HB34.out.trans (hb5.mono HB34.out.size))
 have HB5 : Hid (Below W.heap.size W w5) := Lib.hid (HB3.out.trans (HB35.out.mono HB3.out.size))
 have hf32 : ∀ w : World, (Instr.field 32 (DV q n (.slice ad ld cd)) 2).run Try.prog w = .ok (.slice ad ld cd) w := fun w => field32 _ _ _ _ _ w
 clear ho hb5 HD4 c0 c1 c2
 go_wp2
 go_loopw [8, 28] (fun s i wr => ∃ (k : Nat) (a : Option Addr) (c : Nat), k ≤ ld ∧ s = .slice a k c ∧ i = .int .i64 (k : Nat) ∧ Hid (wr.ownsRow w5.heap.size 3 1 (.slice a k c) k ((syK F n D V k).map N64)) ∧ Hid (Below w5.heap.size w5 wr)) (fun _ i _ => ld - (intOf i).toNat)
 case atStart => exact ⟨0, none, 0, Nat.zero_le _, rfl, rfl, Lib.hid ⟨rfl, .inl ⟨rfl, rfl⟩⟩, Below.refl _ _⟩
 case round =>
  obtain ⟨k, a, c, hk, rfl, rfl, HOW, KB⟩ := hrel
  have HK35 : Hid (Below w3.heap.size w3 wr) := Lib.hid (HB35.out.trans (KB.out.mono HB35.out.size))
  have HBF : Hid (Below W.heap.size W wr) := Lib.hid (HB5.out.trans (KB.out.mono HB5.out.size))
  by_cases hlt : k < ld
  ·obtain ⟨bd, od, had, a2, c2, hcd, hn2'⟩ := (show MM D wr (.slice ad ld cd) from by have := (HO.out.below KB.out).mm; exact this).at' (fun t ht => (mrow HDN.out ht).len) hlt
   subst had
   have HKD : Hid (k < D.length) := Lib.hid (by rw [hld.out]; exact hlt)
   obtain ⟨p, hp⟩ : ∃ p, Hid (dt F n (fn V) (fn (D.getD k [])) = p) := ⟨_, Lib.hid rfl⟩
   have HSN : Hid (syK F n D V (k + 1) = syK F n D V k ++ [p]) := Lib.hid (by rw [syK_succ HKD.out, hp.out])
   have HPR : Hid (Calls Try.prog 65 #[XV F b cap n, .slice av n cv, .slice a2 n c2] wr fun e w' => e = .returned (.int .i64 (p : Nat)) ∧ Below wr.heap.size wr w') := Lib.hid (by
    rw [← hp.out]
    exact product_c (HFA3.out.below HK35.out) (by omega) HMV.out (mrow HDN.out HKD.out) (HNV.out.below (HB13.out.trans (HK35.out.mono HB13.out.size))) hn2')
   obtain ⟨x0, x1, x2, x3⟩ := HXB.out.below HK35.out HXL.out
   have hlti : (k : Int) < (ld : Int) := by omega
   clear hn2'
   go_wp2_with fail
   with_reducible refine HPR.out.mono ?_
   rintro e w7 ⟨rfl, hb7⟩
   have HB7 : Hid (Below w5.heap.size w5 w7) := Lib.hid (KB.out.trans (hb7.mono KB.out.size))
   have HO7 := Lib.hid (own_belowK HOW.out hb7)
   clear hb7 HPR x0 x1 x2 x3 hcd
   go_wp2_with (at_builtin; refine wpList_append_own _ rfl _ _ 39 rfl w5.heap.size 3 i0 (.int .i64 0) 1 8 Try.underlying39 hi hz0 hz1 hz2 rfl (by decide) (.slice a k c) k ((syK F n D V k).map N64) rfl (HO7.out.alloc (.cells #[.int .i64 (p : Nat)] 3)) ⟨w7.heap.size, 0, none⟩ 1 1 [.int .i64 (p : Nat)] rfl rfl (cell_one_new _ _ _) (fun u hu => by simp at hu; subst hu; rfl) ?d3 ?d4 ?d5 ?_)
   case d3 => unfold maxLen; omega
   case d4 => omega
   case d5 => have := HB7.out.size; simp; omega
   intro v' w9 hown' hgrow hnil
   have hal2 : Below w7.heap.size w7 (w7.alloc (.cells #[.int .i64 (p : Nat)] 3)) := (Below.refl _ _).alloc (Nat.le_refl _) _
   have HB9 : Hid (Below w5.heap.size w5 w9) := Lib.hid ((HB7.out.trans (hal2.mono HB7.out.size)).grown hgrow (Nat.le_trans HB7.out.size hal2.size) (fun k hk => (HO7.out.lt k hk).1))
   obtain ⟨a9, c9, hv9⟩ := own_slice hown'
   subst hv9
   have HO9 : Hid (w9.ownsRow w5.heap.size 3 1 (.slice a9 (k + 1) c9) (k + 1) ((syK F n D V (k + 1)).map N64)) := Lib.hid (by rw [HSN.out, List.map_append]; exact hown')
   clear hown' hgrow hnil hal2
   go_wp2
   go_roundw
   case rel => exact ⟨k + 1, a9, c9, by omega, rfl, by go_num, HO9, HB9⟩
   case measure => simp [intOf]; omega
  ·have hke : k = ld := by omega
   have HOF : Hid (wr.ownsRow W.heap.size 3 1 (.slice a ld c) ld ((syK F n D V ld).map N64)) := Lib.hid (by have h := own_weak HOW.out HB5.out.size; rw [hke] at h; exact h)
   have hlti : ¬ (k : Int) < (ld : Int) := by omega
   subst hke
   go_wp2
   refine bodyPost_ret (results_tmp2 rfl _ _ _) rfl ?_
   exact ⟨a, c, rfl, HOF.out, HBF.out⟩

end Go.Proofs.Ytdafhhojiioifaa
