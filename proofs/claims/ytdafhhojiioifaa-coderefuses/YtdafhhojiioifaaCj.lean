/- Boxes; the space of a field and a length. -/
import Derived.Test.YtdafhhojiioifaaCg
import Derived.Test.YtdafhhojiioifaaNy
namespace Go.Proofs.Ytdafhhojiioifaa
open Go.RowKit Go.Fl
set_option maxRecDepth 100000
set_option linter.unusedVariables false
set_option linter.unusedSimpArgs false
set_option linter.unusedSectionVars false

/-- a block of cells that may be written -/
def BC (g : Nat) (vs : List Value) (ty : TypeId) (w : World) : Prop := w.heap[g]? = some (.cells vs.toArray ty (0, 0))
theorem BC.new (w : World) (vs : List Value) (ty : TypeId) {g : Nat} (hg : w.heap.size = g) : BC g vs ty (w.alloc (.cells vs.toArray ty)) := by subst hg; exact World.alloc_heap_new w _
section
variable {g : Nat} {vs : List Value} {ty : TypeId} {w w' : World}
theorem BC.lt (h : BC g vs ty w) : g < w.heap.size := (Array.getElem?_eq_some_iff.1 h).1
theorem BC.cell (h : BC g vs ty w) {i : Nat} {v : Value} (hi : vs[i]? = some v) : w.cell? ⟨g, i, none⟩ = some v := by
 unfold BC at h
 simp only [World.cell?, h]
 simpa using hi
theorem BC.fz (h : BC g vs ty w) (i : Nat) : w.frozen? ⟨g, i, none⟩ = false := frozen_of_row w g i _ ty h
theorem BC.set (h : BC g vs ty w) (i : Nat) (u : Value) : BC g (vs.set i u) ty (w.setCell ⟨g, i, none⟩ u) := by
 have := heap_setCell_same w g i _ ty u h
 unfold BC
 rw [this, List.setIfInBounds_toArray]
theorem BC.bx (h : BC g vs ty w) {S : Nat → Prop} (hb : Bx S w w') (hs : ¬ S g) : BC g vs ty w' := (hb.block g h.lt hs).trans h
theorem BC.below (h : BC g vs ty w) (hb : Below w.heap.size w w') : BC g vs ty w' := (hb.block g h.lt).trans h
theorem BC.belowB (h : BC g vs ty w) {B : Nat} (hb : Below B w w') (hg : g < B) : BC g vs ty w' := (hb.block g hg).trans h
theorem BC.other (h : BC g vs ty w) {g' i : Nat} (hne : g ≠ g') (u : Value) : BC g vs ty (w.setCell ⟨g', i, none⟩ u) := (Below.heap_setCell _ _ _ _ (by exact hne)).trans h
theorem BC.alloc (h : BC g vs ty w) (o : Obj) : BC g vs ty (w.alloc o) := (Below.heap_alloc _ _ _ h.lt).trans h
theorem BC.drew (h : BC g vs ty w) : BC g vs ty w.drew := h
end
theorem BC.set4 {g : Nat} {ty : TypeId} {w : World} {x0 x1 x2 x3 : Value} (h : BC g [x0, x1, x2, x3] ty w) (a b c d : Value) : BC g [a, b, c, d] ty ((((w.setCell ⟨g, 0, none⟩ a).setCell ⟨g, 1, none⟩ b).setCell ⟨g, 2, none⟩ c).setCell ⟨g, 3, none⟩ d) := (((h.set 0 a).set 1 b).set 2 c).set 3 d
theorem BC.set3 {g : Nat} {ty : TypeId} {w : World} {x0 x1 x2 : Value} (h : BC g [x0, x1, x2] ty w) (a b c : Value) : BC g [a, b, c] ty (((w.setCell ⟨g, 0, none⟩ a).setCell ⟨g, 1, none⟩ b).setCell ⟨g, 2, none⟩ c) := ((h.set 0 a).set 1 b).set 2 c
theorem bx4 {g : Nat} {w : World} (a b c d : Value) : Bx (fun k => k = g) w ((((w.setCell ⟨g, 0, none⟩ a).setCell ⟨g, 1, none⟩ b).setCell ⟨g, 2, none⟩ c).setCell ⟨g, 3, none⟩ d) := (((Bx.set (S := fun k => k = g) rfl a).trans (Bx.set (S := fun k => k = g) rfl b)).trans (Bx.set (S := fun k => k = g) rfl c)).trans (Bx.set (S := fun k => k = g) rfl d)
theorem bx3 {g : Nat} {w : World} (a b c : Value) : Bx (fun k => k = g) w (((w.setCell ⟨g, 0, none⟩ a).setCell ⟨g, 1, none⟩ b).setCell ⟨g, 2, none⟩ c) := ((Bx.set (S := fun k => k = g) rfl a).trans (Bx.set (S := fun k => k = g) rfl b)).trans (Bx.set (S := fun k => k = g) rfl c)
theorem FldAt.bx {F : Gf} {b cap : Nat} {W w : World} (h : FldAt F b cap W) {S : Nat → Prop} (hb : Bx S W w) (hs : ¬ S b) : FldAt F b cap w := by
 obtain ⟨c, e, fz, h1, h2, h3⟩ := h.blk
 exact ⟨h.mem, h.le, c, e, fz, (hb.block b (Array.getElem?_eq_some_iff.1 h1).1 hs).trans h1, h2, h3⟩
abbrev ZX : Array Value := #[.int .i64 0, .int .i64 0, .slice none 0 0, .int .i64 0]
set_option maxHeartbeats 3200000 in
theorem over_c {F : Gf} {n : Nat} {W : World} (hF : F ∈ fds) (hq : F.q ≤ 16) (h1 : 1 ≤ n) (hn : n ≤ 24) :
  Calls Try.prog 49 #[.int .i64 (F.q : Nat), .int .i64 (n : Nat)] W fun e w' => ∃ b cap, e = .returned (.tuple #[XV F b cap n, .bool true]) ∧ FldAt F b cap w' ∧ Below W.heap.size W w' ∧ W.heap.size ≤ b := by
 obtain ⟨W0, hW0⟩ : ∃ W0, W.alloc (.cells ZX 73) = W0 := ⟨_, rfl⟩
 have HB0 : Hid (Below W.heap.size W W0) := Lib.hid (by rw [← hW0]; exact (Below.refl _ _).alloc (Nat.le_refl _) _)
 have HR0 : Hid (BC W.heap.size ZX.toList 73 W0) := Lib.hid (by rw [← hW0]; exact BC.new W ZX.toList 73 rfl)
 have HM : Hid (Calls Try.prog 74 #[.int .i64 (F.q : Nat)] W0 (FPost F W0)) := Lib.hid (fmake_c hF)
 have HS0 : Hid (W.heap.size < W0.heap.size) := Lib.hid (by rw [← hW0]; simp)
 have HW0 := Lib.hid hW0
 obtain ⟨q, hqq⟩ : ∃ q, Hid (F.q = q) := ⟨_, Lib.hid rfl⟩
 rw [hqq.out] at hq HM ⊢
 clear hW0 hF
 go_enter Try.func49, Try.ntmps49
 go_wp2_with fail
 rw [HW0.out]
 go_wp2_with fail
 with_reducible refine HM.out.mono ?_
 rintro e w1 ⟨b, cap, rfl, hfa, hb1, hbl⟩
 have HR1 := Lib.hid (HR0.out.below hb1)
 have HR2 := Lib.hid (HR1.out.alloc (.cells #[.int .i64 F.p, .int .i64 F.e, FM F b cap] 53))
 have r0 := HR2.out.cell (i := 0) rfl
 have g0 := HR2.out.fz 0
 have r1 := HR2.out.cell (i := 1) rfl
 have g1 := HR2.out.fz 1
 have r2 := HR2.out.cell (i := 2) rfl
 have g2 := HR2.out.fz 2
 have r3 := HR2.out.cell (i := 3) rfl
 have g3 := HR2.out.fz 3
 have HS1 : Hid (W.heap.size < w1.heap.size) := Lib.hid HR1.out.lt
 have HAL : Hid (Below w1.heap.size w1 (w1.alloc (.cells #[.int .i64 F.p, .int .i64 F.e, FM F b cap] 53))) := Lib.hid ((Below.refl _ _).alloc (Nat.le_refl _) _)
 have HFX : Hid (∀ w', w' = (((((w1.alloc (.cells #[.int .i64 F.p, .int .i64 F.e, FM F b cap] 53)).setCell ⟨W.heap.size, 0, none⟩ (.int .i64 F.p)).setCell ⟨W.heap.size, 1, none⟩ (.int .i64 F.e)).setCell ⟨W.heap.size, 2, none⟩ (FM F b cap)).setCell ⟨W.heap.size, 3, none⟩ (.int .i64 (n : Nat))) →
   w'.cell? ⟨W.heap.size, 0, none⟩ = some (.int .i64 F.p) ∧ w'.cell? ⟨W.heap.size, 1, none⟩ = some (.int .i64 F.e) ∧ w'.cell? ⟨W.heap.size, 2, none⟩ = some (FM F b cap) ∧ w'.cell? ⟨W.heap.size, 3, none⟩ = some (.int .i64 (n : Nat)) ∧ FldAt F b cap w' ∧ Below W.heap.size W w') := Lib.hid (by
  intro w' hw
  have hB := (HR1.out.below HAL.out).set4 (.int .i64 F.p) (.int .i64 F.e) (FM F b cap) (.int .i64 (n : Nat))
  have hX : Bx (fun k => k = W.heap.size) (w1.alloc (.cells #[.int .i64 F.p, .int .i64 F.e, FM F b cap] 53)) (((((w1.alloc (.cells #[.int .i64 F.p, .int .i64 F.e, FM F b cap] 53)).setCell ⟨W.heap.size, 0, none⟩ (.int .i64 F.p)).setCell ⟨W.heap.size, 1, none⟩ (.int .i64 F.e)).setCell ⟨W.heap.size, 2, none⟩ (FM F b cap)).setCell ⟨W.heap.size, 3, none⟩ (.int .i64 (n : Nat))) := bx4 _ _ _ _
  rw [← hw] at hB hX
  refine ⟨hB.cell rfl, hB.cell rfl, hB.cell rfl, hB.cell rfl, (hfa.below HAL.out).bx hX (fun e => by have := HB0.out.size; have := hbl; have := HS0.out; omega), ?_⟩
  exact (HB0.out.trans ((hb1.trans (HAL.out.mono hb1.size)).mono HB0.out.size)).trans (hX.below (by have := hb1.size; have := HB0.out.size; simp; omega) fun k hk => by omega))
 have HBL : Hid (W.heap.size ≤ b) := Lib.hid (Nat.le_trans HB0.out.size hbl)
 have hq1 : (q : Int) ≤ 16 := by omega
 have hn1 : (1 : Int) ≤ (n : Int) := by omega
 have hn2 : (n : Int) ≤ 24 := by omega
 clear hfa hb1 hbl HM HAL HR1 HR0 HR2
 go_wp2
 obtain ⟨d0, d1, d2, d3, hfa, hbw⟩ := HFX.out _ rfl
 exact bodyPost_ret (v := .tuple #[XV F b cap n, .bool true]) (by simp [results, Try.results49, go_sem, d0, d1, d2, d3]) rfl ⟨b, cap, rfl, hfa, hbw, HBL.out⟩

end Go.Proofs.Ytdafhhojiioifaa

/- Whether rows are in reduced echelon form. -/
namespace Go.Proofs.Ytdafhhojiioifaa
open Go.RowKit Go.Fl
set_option maxRecDepth 100000
set_option linter.unusedVariables false
set_option linter.unusedSimpArgs false
set_option linter.unusedSectionVars false

theorem MM.take {R : List (List Nat)} {w : World} {b o m c : Nat} (h : MM R w (.slice (some ⟨b, o, none⟩) m c)) (hm : R.length = m) {k : Nat} (hk : k ≤ m) : MM (R.take k) w (.slice (some ⟨b, o, none⟩) k c) := by
 rcases h with ⟨_, h⟩ | ⟨b', off', cap', h, g1, g2, g3⟩
 ·cases h
 ·cases h
  have e : (R.take k).length = k := by rw [List.length_take]; omega
  refine .inr ⟨b, o, c, by rw [e], by omega, g2, fun t ht => ?_⟩
  rw [e] at ht
  have e2 : (R.take k).getD t [] = R.getD t [] := by simp [List.getD_eq_getElem?_getD, List.getElem?_take, ht]
  rw [e2]
  exact g3 t (by omega)
/-- all rows are 0 at p -/
def zeroB (p : Nat) (R : List (List Nat)) : Bool := R.all fun r => r.getD p 0 == 0
theorem zeroB_no {p : Nat} {R : List (List Nat)} {k : Nat} (hk : k < R.length) (h : (R.getD k []).getD p 0 ≠ 0) : zeroB p R = false := by
 unfold zeroB
 rw [List.all_eq_false]
 refine ⟨R[k], List.getElem_mem hk, ?_⟩
 have e : R.getD k [] = R[k] := by rw [List.getD_eq_getElem?_getD, List.getElem?_eq_getElem hk]; rfl
 rw [e] at h
 simpa using h
theorem zeroB_yes {p : Nat} {R : List (List Nat)} (h : ∀ j, j < R.length → (R.getD j []).getD p 0 = 0) : zeroB p R = true := by
 unfold zeroB
 rw [List.all_eq_true]
 intro x hx
 obtain ⟨i, hi, rfl⟩ := List.getElem_of_mem hx
 have := h i hi
 have e : R.getD i [] = R[i] := by rw [List.getD_eq_getElem?_getD, List.getElem?_eq_getElem hi]; rfl
 rw [e] at this
 simpa using this
theorem arezero_c {n m p c : Nat} {R : List (List Nat)} {a : Option Addr} {W : World} (hn : n ≤ 1000) (hm : m ≤ 1000) (hl : R.length = m) (hw : ∀ t, t < R.length → (R.getD t []).length = n) (hp : p < n) (h : MM R W (.slice a m c)) :
  Calls Try.prog 97 #[.slice a m c, .int .i64 (p : Nat)] W fun e w' => e = .returned (.bool (zeroB p R)) ∧ Below W.heap.size W w' := by
 have HN := Lib.hid h
 have HL := Lib.hid hl
 have HWW := Lib.hid hw
 obtain ⟨B, hB⟩ : ∃ B, Hid (zeroB p R = B) := ⟨_, Lib.hid rfl⟩
 rw [hB.out]
 clear h hl hw
 go_enter Try.func97, Try.ntmps97
 go_wp2
 go_loopw [9] (fun i wr => ∃ k : Nat, k ≤ m ∧ i = .int .i64 k ∧ Hid (∀ j, j < k → (R.getD j []).getD p 0 = 0) ∧ Hid (Below W.heap.size W wr)) (fun i _ => m - (intOf i).toNat)
 case atStart => exact ⟨0, Nat.zero_le _, rfl, Lib.hid (fun j hj => by omega), Below.refl _ _⟩
 case round =>
  obtain ⟨k, hk, rfl, KZ, KB⟩ := hrel
  have HBF := Lib.hid KB.out
  by_cases hlt : k < m
  ·obtain ⟨bg, og, hga, ar, cr, hcr, hnr⟩ := (HN.out.below KB.out).at' HWW.out hlt
   subst hga
   obtain ⟨b2, o2, har, _, hcx⟩ := hnr.at' hp
   subst har
   obtain ⟨x, hx⟩ : ∃ x, Hid ((R.getD k []).getD p 0 = x) := ⟨_, Lib.hid rfl⟩
   rw [hx.out] at hcx
   have HKL : Hid (k < R.length) := Lib.hid (by rw [HL.out]; exact hlt)
   clear hnr
   by_cases h0 : x = 0
   ·subst h0
    go_wp2
    go_roundw
    case rel => exact ⟨k + 1, by omega, by go_num, Lib.hid (fun j hj => by
     by_cases e : j = k
     ·rw [e]; exact hx.out
     ·exact KZ.out j (by omega)), HBF⟩
    case measure => simp [intOf]; omega
   ·have hx0 : ((x : Int) != 0) = true := by simpa using h0
    have HR : Hid (B = false) := Lib.hid (by rw [← hB.out]; exact zeroB_no HKL.out (by rw [hx.out]; exact h0))
    go_wp2
    go_ret
    exact ⟨by rw [HR.out]; rfl, HBF.out⟩
  ·have HR : Hid (B = true) := Lib.hid (by rw [← hB.out]; exact zeroB_yes fun j hj => KZ.out j (by rw [HL.out] at hj; omega))
   have hlt1 : ¬ (k : Int) < (m : Int) := by omega
   go_wp2
   go_ret
   exact ⟨by rw [HR.out]; rfl, HBF.out⟩
/-- row i is as it is in a reduced matrix, as far as the rows before it say -/
def pvA (n : Nat) (R : List (List Nat)) (i : Nat) : Nat := pvt (fn (R.getD i [])) n
def arT (n : Nat) (R : List (List Nat)) (i : Nat) : Bool :=
 (i == 0 || decide (pvA n R (i - 1) < pvA n R i)) && (decide (pvA n R i ≠ n) && (decide ((R.getD i []).getD (pvA n R i) 0 = 1) && zeroB (pvA n R i) (R.take i)))
def arB (n : Nat) (R : List (List Nat)) : Bool := (List.range R.length).all (arT n R)
theorem arB_no {n : Nat} {R : List (List Nat)} {k : Nat} (hk : k < R.length) (h : arT n R k = false) : arB n R = false := by
 unfold arB; rw [List.all_eq_false]; exact ⟨k, List.mem_range.2 hk, by rw [h]; simp⟩
theorem arB_yes {n : Nat} {R : List (List Nat)} (h : ∀ j, j < R.length → arT n R j = true) : arB n R = true := by
 unfold arB; rw [List.all_eq_true]; exact fun k hk => h k (List.mem_range.1 hk)
def lastZ (n : Nat) (R : List (List Nat)) (k : Nat) : Int := if k = 0 then -1 else (pvA n R (k - 1) : Int)
set_option maxHeartbeats 3200000 in
theorem arered_c {n m c : Nat} {R : List (List Nat)} {a : Option Addr} {W : World} (hn : n ≤ 1000) (hm : m ≤ 1000) (hl : R.length = m) (hw : ∀ t, t < R.length → (R.getD t []).length = n) (h : MM R W (.slice a m c)) :
  Calls Try.prog 79 #[.slice a m c] W fun e w' => e = .returned (.bool (arB n R)) ∧ Below W.heap.size W w' := by
 have HN := Lib.hid h
 have HL := Lib.hid hl
 have HWW := Lib.hid hw
 obtain ⟨B, hB⟩ : ∃ B, Hid (arB n R = B) := ⟨_, Lib.hid rfl⟩
 rw [hB.out]
 clear h hl hw
 go_enter Try.func79, Try.ntmps79
 go_wp2
 go_loopw [3, 9] (fun s i wr => ∃ (k : Nat) (z : Int), k ≤ m ∧ i = .int .i64 k ∧ s = .int .i64 z ∧ z ≤ 1000 ∧ -1 ≤ z ∧ Hid (lastZ n R k = z) ∧ Hid (∀ j, j < k → arT n R j = true) ∧ Hid (Below W.heap.size W wr)) (fun _ i _ => m - (intOf i).toNat)
 case atStart => exact ⟨0, -1, Nat.zero_le _, rfl, rfl, by omega, by omega, Lib.hid rfl, Lib.hid (fun j hj => by omega), Below.refl _ _⟩
 case round =>
  obtain ⟨k, z, hk, rfl, rfl, hz1, hz2, KL, KZ, KB⟩ := hrel
  have HBF := Lib.hid KB.out
  by_cases hlt : k < m
  ·obtain ⟨bg, og, hga, ar, cr, hcr, hnr⟩ := (HN.out.below KB.out).at' HWW.out hlt
   subst hga
   have HKL : Hid (k < R.length) := Lib.hid (by rw [HL.out]; exact hlt)
   have HP : Hid (Calls Try.prog 63 #[.slice ar n cr] wr fun e w' => e = .returned (.int .i64 (pvA n R k : Nat)) ∧ Below wr.heap.size wr w') := Lib.hid (pivot_n (HWW.out k HKL.out) (by omega) hnr)
   obtain ⟨p, hp⟩ : ∃ p, Hid (pvA n R k = p) := ⟨_, Lib.hid rfl⟩
   have hpn : p ≤ n := by rw [← hp.out]; exact (pvt_spec _ _).1
   rw [hp.out] at HP
   have HNR := Lib.hid hnr
   have HNO : Hid (arT n R k = false → B = false) := Lib.hid fun e => by rw [← hB.out]; exact arB_no HKL.out e
   have hkk : k < 1000 := by omega
   clear hnr
   go_wp2_with fail
   with_reducible refine HP.out.mono ?_
   rintro e w3 ⟨rfl, hb3⟩
   have HB3 := Lib.hid (KB.out.trans (hb3.mono KB.out.size))
   have HN3 := Lib.hid (HNR.out.below hb3)
   have HLE : Hid ((p : Int) ≤ z → arT n R k = false) := Lib.hid fun e => by
    have h1 := KL.out
    unfold lastZ at h1
    by_cases h0 : k = 0
    ·rw [if_pos h0] at h1; omega
    ·rw [if_neg h0] at h1
     unfold arT
     rw [hp.out, show (k == 0) = false from beq_eq_false_iff_ne.2 h0, decide_eq_false (by omega)]; rfl
   clear hb3 HP hcr
   by_cases hz : (p : Int) ≤ z
   ·have HR := Lib.hid (HNO.out (HLE.out hz))
    go_wp2
    go_ret
    exact ⟨by rw [HR.out]; rfl, HB3.out⟩
   ·by_cases hpe : p = n
    ·subst hpe
     have HR := Lib.hid (HNO.out (by unfold arT; rw [hp.out]; simp))
     have hpe1 : ((p : Int) == (p : Int)) = true := by simp
     go_wp2
     go_ret
     exact ⟨by rw [HR.out]; rfl, HB3.out⟩
    ·have hpe1 : ((p : Int) == (n : Int)) = false := beq_eq_false_iff_ne.2 (by omega)
     have hpl : p < n := by omega
     obtain ⟨b2, o2, har, _, hcx⟩ := HN3.out.at' hpl
     subst har
     obtain ⟨x, hx⟩ : ∃ x, Hid ((R.getD k []).getD p 0 = x) := ⟨_, Lib.hid rfl⟩
     rw [hx.out] at hcx
     by_cases h1 : x = 1
     ·subst h1
      have hx1 : (((1 : Nat) : Int) != 1) = false := rfl
      have HZ : Hid (Calls Try.prog 97 #[.slice (some ⟨bg, og, none⟩) k c, .int .i64 (p : Nat)] w3 fun e w' => e = .returned (.bool (zeroB p (R.take k))) ∧ Below w3.heap.size w3 w') := Lib.hid (arezero_c hn (by omega) (by rw [List.length_take, HL.out]; omega) (fun t ht => by
       rw [List.length_take] at ht
       have e2 : (R.take k).getD t [] = R.getD t [] := by simp [List.getD_eq_getElem?_getD, List.getElem?_take, show t < k by omega]
       rw [e2]; exact HWW.out t (by omega)) hpl ((HN.out.below HB3.out).take HL.out (by omega)))
      obtain ⟨T, hT⟩ : ∃ T, Hid (zeroB p (R.take k) = T) := ⟨_, Lib.hid rfl⟩
      rw [hT.out] at HZ
      have HTT : Hid (arT n R k = T) := Lib.hid (by
       have h1 := KL.out
       unfold lastZ at h1
       unfold arT
       rw [hp.out, hx.out, hT.out, decide_eq_true (show p ≠ n from hpe), decide_eq_true rfl]
       by_cases h0 : k = 0
       ·rw [h0]; rfl
       ·rw [if_neg h0] at h1
        rw [decide_eq_true (show pvA n R (k - 1) < p by omega)]; simp)
      clear hpe
      have hk0 : (0 : Int) ≤ (k : Int) := by omega
      have hkm : (k : Int) ≤ (m : Int) := by omega
      have hmc : k ≤ c := by
       rcases HN.out with ⟨_, h⟩ | ⟨_, _, _, h, g1, _⟩
       ·cases h
       ·injection h with _ e2 e3; omega
      go_wp2_with fail
      with_reducible refine HZ.out.mono ?_
      rintro e w4 ⟨rfl, hb4⟩
      have HB4 := Lib.hid (HB3.out.trans (hb4.mono HB3.out.size))
      clear hb4 HZ hcx
      cases T with
      | true =>
       have HLZ : Hid (lastZ n R (k + 1) = (p : Int)) := Lib.hid (by unfold lastZ; rw [if_neg (by omega), Nat.add_sub_cancel, hp.out])
       go_wp2
       go_roundw
       case rel => exact ⟨k + 1, (p : Int), by omega, by go_num, rfl, by omega, by omega, HLZ, Lib.hid (fun j hj => by
        by_cases e : j = k
        ·rw [e]; exact HTT.out
        ·exact KZ.out j (by omega)), HB4⟩
       case measure => simp [intOf]; omega
      | false =>
       have HR := Lib.hid (HNO.out HTT.out)
       go_wp2
       go_ret
       exact ⟨by rw [HR.out]; rfl, HB4.out⟩
     ·have hx1 : ((x : Int) != 1) = true := by simp; omega
      have HR := Lib.hid (HNO.out (by unfold arT; rw [hp.out, hx.out, decide_eq_false h1]; simp))
      go_wp2
      go_ret
      exact ⟨by rw [HR.out]; rfl, HB3.out⟩
  ·have HR : Hid (B = true) := Lib.hid (by rw [← hB.out]; exact arB_yes fun j hj => KZ.out j (by rw [HL.out] at hj; omega))
   have hlt1 : ¬ (k : Int) < (m : Int) := by omega
   go_wp2
   go_ret
   exact ⟨by rw [HR.out]; rfl, HBF.out⟩
/-- reduced matrices pass -/
theorem RM.ar {F : Gf} (hF : Ok F) {n : Nat} {G : List (List Nat)} {L : List (Nat × Cf)} (h : RM F n G L) : arB n G = true := arB_yes fun j hj => by
 have hjL : j < L.length := by rw [← h.len]; exact hj
 have hpw := List.pairwise_iff_getElem.1 h.red.pw
 obtain ⟨e1, e2⟩ := h.pv hF hjL
 unfold arT pvA
 rw [e1]
 have h1 : (j == 0 || decide (pvt (Go.Fl.fn (G.getD (j - 1) [])) n < (L[j]).1)) = true := by
  by_cases h0 : j = 0
  ·subst h0; rfl
  ·have hj1 : j - 1 < L.length := by omega
   rw [(h.pv hF hj1).1, decide_eq_true (hpw (j - 1) j hj1 hjL (by omega)).1]; simp
 rw [h1, decide_eq_true (show (L[j]).1 ≠ n by omega)]
 have h2 : (G.getD j []).getD (L[j]).1 0 = 1 := by
  have := (h.red.ro _ (List.getElem_mem hjL)).one
  rw [← h.fnr hjL] at this
  exact this
 rw [decide_eq_true h2]
 have h3 : zeroB (L[j]).1 (G.take j) = true := zeroB_yes fun t ht => by
  rw [List.length_take] at ht
  have htL : t < L.length := by omega
  have e3 : (G.take j).getD t [] = G.getD t [] := by simp [List.getD_eq_getElem?_getD, List.getElem?_take, show t < j by omega]
  rw [e3]
  have := (hpw t j htL hjL (by omega)).2.1
  rw [← h.fnr htL] at this
  exact this
 rw [h3]; rfl

end Go.Proofs.Ytdafhhojiioifaa

/- The space around a code. -/
namespace Go.Proofs.Ytdafhhojiioifaa
open Go.RowKit Go.Fl
set_option maxRecDepth 100000
set_option linter.unusedVariables false
set_option linter.unusedSimpArgs false
set_option linter.unusedSectionVars false

abbrev DV (q n : Nat) (g : Value) : Value := .agg #[.int .i64 (q : Nat), .int .i64 (n : Nat), g]
theorem ints_row {R : List (List Nat)} {t : Nat} (ht : t < R.length) : (R.map ints).getD t [] = ints (R.getD t []) := by
 simp only [List.getD_eq_getElem?_getD, List.getElem?_map, List.getElem?_eq_getElem ht]; rfl
/-- the third cell of a code's box, a space's box; only block B + 1 has changed -/
abbrev AS (B x : Nat) (F : Gf) (b cap n : Nat) (g : Value) (w3 w : World) : Prop := w.cell? ⟨B, 2, none⟩ = some g ∧ XB x F b cap n w ∧ Hid (Bx (fun k => k = B + 1) w3 w ∧ B + 1 < x ∧ x < w3.heap.size)
theorem AS.bx {B x : Nat} {F : Gf} {b cap n : Nat} {g : Value} {w3 w w' : World} (h : AS B x F b cap n g w3 w) (hb : Bx (fun k => k = B + 1) w w') : AS B x F b cap n g w3 w' := by
 obtain ⟨h1, h2, h3⟩ := h
 obtain ⟨h4, h5, h6⟩ := h3.out
 have hs := h4.size
 have hx : ∀ i, w'.cell? ⟨x, i, none⟩ = w.cell? ⟨x, i, none⟩ := fun i => hb.cell (p := ⟨x, i, none⟩) (show x < w.heap.size by omega) (show ¬ x = B + 1 by omega)
 exact ⟨(hb.cell (p := ⟨B, 2, none⟩) (show B < w.heap.size by omega) (show ¬ B = B + 1 by omega)).trans h1, ⟨(hx 0).trans h2.1, (hx 1).trans h2.2.1, (hx 2).trans h2.2.2.1, (hx 3).trans h2.2.2.2⟩, Lib.hid ⟨h4.trans hb, h5, h6⟩⟩
theorem AS.keep {B x : Nat} {F : Gf} {b cap n : Nat} {g : Value} {w3 w w' : World} (h : AS B x F b cap n g w3 w) (hb : Below w.heap.size w w') : AS B x F b cap n g w3 w' := AS.bx h ((Bx.of (S := fun k => k = B + 1) hb))
/-- a code as it comes in: over a field with at most 16 elements, with rows that are words -/
structure GC (F : Gf) (n m : Nat) (G : List (List Nat)) : Prop where
 mem : F ∈ fds
 q : F.q ≤ 16
 n1 : 1 ≤ n
 n2 : n ≤ 24
 hm : m ≤ 1000
 len : G.length = m
 mn : Mn F n G
set_option maxHeartbeats 6400000 in
theorem around_c {F : Gf} {n m cg : Nat} {G : List (List Nat)} {ga : Option Addr} {W : World} (hC : GC F n m G) (ng : MM G W (.slice ga m cg)) :
  Calls Try.prog 54 #[DV F.q n (.slice ga m cg)] W fun e w' => ∃ b cap, e = .returned (.tuple #[XV F b cap n, .bool (arB n G)]) ∧ FldAt F b cap w' ∧ Below W.heap.size W w' ∧ W.heap.size ≤ b := by
 obtain ⟨hF, hq, h1, h2, hm, hl, hmn⟩ := hC
 obtain ⟨W1, hW1⟩ : ∃ W1, (W.alloc (.cells #[.int .i64 (F.q : Nat), .int .i64 (n : Nat), .slice ga m cg] 32)).alloc (.cells ZX 73) = W1 := ⟨_, rfl⟩
 have HB1 : Hid (Below W.heap.size W W1) := Lib.hid (by rw [← hW1]; exact ((Below.refl _ _).alloc (Nat.le_refl _) _).alloc (by simp) _)
 have HR1 : Hid (BC (W.heap.size + 1) ZX.toList 73 W1) := Lib.hid (by rw [← hW1]; exact BC.new _ ZX.toList 73 (by simp))
 have HC1 : Hid (BC W.heap.size [.int .i64 (F.q : Nat), .int .i64 (n : Nat), .slice ga m cg] 32 W1) := Lib.hid (by rw [← hW1]; exact (BC.new W [.int .i64 (F.q : Nat), .int .i64 (n : Nat), .slice ga m cg] 32 rfl).alloc _)
 have HS1 : Hid (W1.heap.size = W.heap.size + 2) := Lib.hid (by rw [← hW1]; simp)
 have HO : Hid (Calls Try.prog 49 #[.int .i64 (F.q : Nat), .int .i64 (n : Nat)] W1 fun e w' => ∃ b cap, e = .returned (.tuple #[XV F b cap n, .bool true]) ∧ FldAt F b cap w' ∧ Below W1.heap.size W1 w' ∧ W1.heap.size ≤ b) := Lib.hid (over_c hF hq h1 h2)
 have HNG := Lib.hid ng
 have HF := Lib.hid hF
 have HLG := Lib.hid hl
 have HMG := Lib.hid hmn
 have HW1 := Lib.hid hW1
 obtain ⟨T, hT⟩ : ∃ T, Hid (arB n G = T) := ⟨_, Lib.hid rfl⟩
 rw [hT.out]
 obtain ⟨q, hqq⟩ : ∃ q, Hid (F.q = q) := ⟨_, Lib.hid rfl⟩
 rw [hqq.out] at HO HC1 HW1 ⊢
 have c0 := HC1.out.cell (i := 0) rfl
 have c1 := HC1.out.cell (i := 1) rfl
 have c2 := HC1.out.cell (i := 2) rfl
 clear hW1 ng hF hl hmn hq
 go_enter Try.func54, Try.ntmps54
 go_upto_region 1 with fail
 rw [HW1.out]
 go_wp2_with fail
 with_reducible refine HO.out.mono ?_
 rintro e w2 ⟨b, cap, rfl, hfa, hb2, hbl⟩
 obtain ⟨w3, hw3⟩ : ∃ w3, w3 = w2.alloc (.cells (XC F b cap n) 73) := ⟨_, rfl⟩
 obtain ⟨x, hx⟩ : ∃ x, x = w2.heap.size := ⟨_, rfl⟩
 have HAL : Hid (Below w2.heap.size w2 w3) := Lib.hid (by rw [hw3]; exact (Below.refl _ _).alloc (Nat.le_refl _) _)
 have HXB : Hid (XB x F b cap n w3) := Lib.hid (by rw [hw3, hx]; exact xb_new w2 rfl)
 have HSX : Hid (W.heap.size + 1 < x ∧ x < w3.heap.size) := Lib.hid ⟨by have := hb2.size; have := HS1.out; omega, by rw [hw3, hx]; simp⟩
 have HFA3 := Lib.hid (hfa.below HAL.out)
 have HR3 := Lib.hid ((HR1.out.below hb2).below HAL.out)
 have HC3 := Lib.hid ((HC1.out.below hb2).below HAL.out)
 have HB3 : Hid (Below W.heap.size W w3) := Lib.hid (HB1.out.trans ((hb2.trans (HAL.out.mono hb2.size)).mono HB1.out.size))
 have HBW : Hid (∀ w, Bx (fun k => k = W.heap.size + 1) w3 w → Below W.heap.size W w) := Lib.hid fun w hw => HB3.out.trans (hw.below HB3.out.size fun k hk => by omega)
 have HNW : Hid (∀ w, Bx (fun k => k = W.heap.size + 1) w3 w → MM G w (.slice ga m cg)) := Lib.hid fun w hw => HNG.out.below (HBW.out w hw)
 have HBB : Hid (W.heap.size + 1 < b) := Lib.hid (by have := HS1.out; omega)
 have HBB0 : Hid (W.heap.size ≤ b) := Lib.hid (by have := HS1.out; omega)
 have hS0 : AS W.heap.size x F b cap n (.slice ga m cg) w3 w3.drew := ⟨HC3.out.cell (i := 2) rfl, HXB.out, Lib.hid ⟨(Bx.refl _ _).drew, HSX.out⟩⟩
 have HW3 := Lib.hid hw3
 have HXX := Lib.hid hx
 clear hfa hb2 hbl HO c0 c1 c2 hw3 hx
 go_upto_region 2 with fail
 rw [← HW3.out, ← HXX.out]
 go_wp2_with fail
 refine wp_region_held_drew (S := fun w' => AS W.heap.size x F b cap n (.slice ga m cg) w3 w') (by kernel_rfl) (by with_reducible exact hS0) (fun hHeld => ?_)
 refine Rg.tk 0 ⟨some 14,.load 73 (.tmp 4),73,"code.go:151",#[],none⟩ ?_
 try simp only [Rg.gp]
 refine Rg.tk 1 ⟨some 15,.move (.tmp 5),4,"code.go:151",#[],none⟩ ?_
 try simp only [Rg.gp]
 refine Rg.tk 2 ⟨some 16,.move (.tmp 15),4,"code.go:151",#[⟨1,.data⟩],none⟩ ?_
 try simp only [Rg.gp]
 refine Rg.tk 3 ⟨some 17,.load 73 (.tmp 4),73,"code.go:151",#[⟨2,.guard⟩],some (2, true)⟩ ?_
 try simp only [Rg.gp]
 refine Rg.tk 4 ⟨some 18,.fieldAddr 32 (.tmp 1) 2,0,"code.go:151",#[⟨2,.guard⟩],some (2, true)⟩ ?_
 try simp only [Rg.gp]
 refine Rg.tk 5 ⟨some 19,.load 22 (.tmp 18),22,"code.go:151",#[⟨4,.data⟩,⟨2,.guard⟩],some (2, true)⟩ ?_
 try simp only [Rg.gp]
 refine Rg.rd1 6 ⟨some 20,.call ⟨.value (.func 50),#[.tmp 17,.tmp 19],#[73,22]⟩,4,"code.go:151",#[⟨3,.data⟩,⟨5,.data⟩,⟨2,.chain⟩,⟨2,.guard⟩],some (2, true)⟩ fun K hK => ?_
 go_simp
 go_at_call 50
 with_reducible refine (show Calls Try.prog 50 #[XV F b cap n, .slice ga m cg] _ (fun e w' => e = .returned (.bool true) ∧ Below _ _ w') from by have t := hasall_c (b := b) (cap := cap) (n := n) (R := G.map ints) (a := ga) (c := cg) HF.out (by rw [List.length_map, HLG.out]; exact hm) (fun t ht => by rw [List.length_map] at ht; rw [ints_row ht, ints_len, (mrow HMG.out ht).len]; omega) (by rw [List.length_map, HLG.out]; exact (HNW.out _ hHeld.2.2.out.1).mi); rw [allW_mn HMG.out, List.length_map, HLG.out] at t; exact t).mono ?_
 rintro z v1 ⟨rfl, hb3⟩
 have HR4 := Lib.hid (HR3.out.drew.below hb3)
 refine hK.out _ _ ?_ (fun hHeld => ?_)
 ·(try dsimp only)
  exact AS.keep hHeld hb3
 clear hK K
 try simp only [Rg.gp]
 refine Rg.tk 7 ⟨some 21,.pick (.tmp 16) (.tmp 20) (.const (Value.bool false)),4,"code.go:151",#[⟨2,.data⟩,⟨6,.data⟩],none⟩ ?_
 try simp only [Rg.gp]
 refine Rg.tk 8 ⟨some 22,.move (.tmp 21),4,"code.go:151",#[⟨7,.data⟩,⟨6,.chain⟩],none⟩ ?_
 try simp only [Rg.gp]
 refine Rg.tk 9 ⟨some 23,.fieldAddr 32 (.tmp 1) 2,0,"code.go:151",#[⟨8,.guard⟩],some (8, true)⟩ ?_
 try simp only [Rg.gp]
 refine Rg.tk 10 ⟨some 24,.load 22 (.tmp 23),22,"code.go:151",#[⟨9,.data⟩,⟨8,.guard⟩],some (8, true)⟩ ?_
 try simp only [Rg.gp]
 refine Rg.rd1 11 ⟨some 25,.call ⟨.value (.func 79),#[.tmp 24],#[22]⟩,4,"code.go:151",#[⟨10,.data⟩,⟨8,.chain⟩,⟨8,.guard⟩],some (8, true)⟩ fun K hK => ?_
 go_simp
 go_at_call 79
 with_reducible refine (show Calls Try.prog 79 #[.slice ga m cg] _ (fun e w' => e = .returned (.bool T) ∧ Below _ _ w') from by have t := arered_c (n := n) (m := m) (by omega) hm HLG.out (fun t ht => (mrow HMG.out ht).len) (HNW.out _ hHeld.2.2.out.1); rw [hT.out] at t; exact t).mono ?_
 rintro z v2 ⟨rfl, hb4⟩
 have HR5 := Lib.hid (HR4.out.below hb4)
 refine hK.out _ _ ?_ (fun hHeld => ?_)
 ·(try dsimp only)
  exact AS.keep hHeld hb4
 clear hK K
 try simp only [Rg.gp]
 refine Rg.tk 12 ⟨some 26,.pick (.tmp 22) (.tmp 25) (.const (Value.bool false)),4,"code.go:151",#[⟨8,.data⟩,⟨11,.data⟩,⟨13,.gcOnly Go.Departure.lateStores⟩],none⟩ ?_
 try simp only [Rg.gp]
 refine Rg.rd1 13 ⟨none,.store 73 (.tmp 2) (.tmp 14),0,"code.go:151",#[⟨0,.data⟩,⟨11,.chain⟩,⟨0,.phase⟩,⟨1,.textOnly Go.Departure.lateStores⟩,⟨2,.textOnly Go.Departure.lateStores⟩,⟨3,.textOnly Go.Departure.lateStores⟩,⟨4,.textOnly Go.Departure.lateStores⟩,⟨5,.textOnly Go.Departure.lateStores⟩,⟨6,.textOnly Go.Departure.lateStoresUnsure⟩,⟨7,.textOnly Go.Departure.lateStores⟩,⟨8,.textOnly Go.Departure.lateStores⟩,⟨9,.textOnly Go.Departure.lateStores⟩,⟨10,.textOnly Go.Departure.lateStores⟩,⟨11,.textOnly Go.Departure.lateStoresUnsure⟩,⟨12,.textOnly Go.Departure.lateStores⟩],none⟩ fun K hK => ?_
 have r0 := HR5.out.cell (i := 0) rfl
 have g0 := HR5.out.fz 0
 have r1 := HR5.out.cell (i := 1) rfl
 have g1 := HR5.out.fz 1
 have r2 := HR5.out.cell (i := 2) rfl
 have g2 := HR5.out.fz 2
 have r3 := HR5.out.cell (i := 3) rfl
 have g3 := HR5.out.fz 3
 go_simp
 refine hK.out _ _ ?_ (fun hHeld => ?_)
 ·(try dsimp only)
  exact AS.bx hHeld (bx4 _ _ _ _)
 clear hK K
 try simp only [Rg.gp]
 refine Rg.tk 14 ⟨some 3,.assign (.tmp 26),4,"code.go:151",#[⟨12,.data⟩,⟨13,.chain⟩,⟨0,.phase⟩,⟨1,.phase⟩,⟨2,.phase⟩,⟨3,.phase⟩,⟨4,.phase⟩,⟨5,.phase⟩,⟨6,.phase⟩,⟨7,.phase⟩,⟨8,.phase⟩,⟨9,.phase⟩,⟨10,.phase⟩,⟨11,.phase⟩,⟨12,.phase⟩,⟨13,.phase⟩],none⟩ ?_
 try simp only [Rg.gp]
 refine wpAnyH_done (by kernel_rfl) ?_ _
 have hX := hHeld.2.2.out.1
 have HR6 := Lib.hid (HR5.out.set4 (.int .i64 F.p) (.int .i64 F.e) (FM F b cap) (.int .i64 (n : Nat)))
 have d0 := HR6.out.cell (i := 0) rfl
 have d1 := HR6.out.cell (i := 1) rfl
 have d2 := HR6.out.cell (i := 2) rfl
 have d3 := HR6.out.cell (i := 3) rfl
 have HFZ := Lib.hid (HFA3.out.bx hX (fun e => by have := HBB.out; omega))
 have HBZ := Lib.hid (HBW.out _ hX)
 clear hHeld hX hS0 r0 r1 r2 r3 g0 g1 g2 g3 hb3 hb4
 go_wp2
 exact bodyPost_ret (v := .tuple #[XV F b cap n, .bool T]) (by simp [results, Try.results54, go_sem, d0, d1, d2, d3]) rfl ⟨b, cap, rfl, HFZ.out, HBZ.out, HBB0.out⟩

end Go.Proofs.Ytdafhhojiioifaa
