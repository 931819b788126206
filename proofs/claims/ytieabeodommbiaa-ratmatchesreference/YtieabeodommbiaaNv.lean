/- What the law RatMatchesReference calls answers twice the same: one walk. -/
import Derived.Test.YtieabeodommbiaaNu
import Derived.Test.YtieabeodommbiaaNt
import Derived.Deep.DeepCutAuto
namespace Go.Proofs.Ytieabeodommbiaa
open Go.RowKit
set_option maxRecDepth 100000
set_option linter.unusedVariables false

/-- what the law calls -/
structure LH (x0 x1 y0 y1 an ad bn bd c0 c1 c2 e0 e1 e2 s0 s1 s2 d0 d1 d2 m0 m1 m2 q0 q1 q2 cm fl ce : Int) (v : Bool) (t : List UInt8) : Prop where
  ex : ∀ w : World, Calls Try.prog 10 #[] w fun z w' => z = .returned (.bool true) ∧ Below w.heap.size w w'
  cr1 : ∀ w : World, Calls Try.prog 11 #[.int .i64 x0, .int .i64 x1] w fun z w' => z = .returned (.agg #[.int .i64 c0, .int .i64 c1, .int .i64 c2]) ∧ Below w.heap.size w w'
  mk1 : ∀ w : World, Calls Try.prog 12 #[.int .i64 x0, .int .i64 x1] w fun z w' => z = .returned (.agg #[.int .i64 c0, .int .i64 c1, .int .i64 c2]) ∧ Below w.heap.size w w'
  cr2 : ∀ w : World, Calls Try.prog 11 #[.int .i64 x0, .int .i64 y0] w fun z w' => z = .returned (.agg #[.int .i64 e0, .int .i64 e1, .int .i64 e2]) ∧ Below w.heap.size w w'
  mk2 : ∀ w : World, Calls Try.prog 12 #[.int .i64 x0, .int .i64 y0] w fun z w' => z = .returned (.agg #[.int .i64 e0, .int .i64 e1, .int .i64 e2]) ∧ Below w.heap.size w w'
  vl : ∀ w : World, Calls Try.prog 13 #[.agg #[.int .i64 x0, .int .i64 x1]] w fun z w' => z = .returned (.bool v) ∧ Below w.heap.size w w'
  rvl : ∀ w : World, Calls Try.prog 14 #[.agg #[.int .i64 x0, .int .i64 x1]] w fun z w' => z = .returned (.bool v) ∧ Below w.heap.size w w'
  ma : ∀ w : World, Calls Try.prog 15 #[.int .i64 x0, .int .i64 x1] w fun z w' => z = .returned (.agg #[.int .i64 an, .int .i64 ad]) ∧ Below w.heap.size w w'
  mb : ∀ w : World, Calls Try.prog 15 #[.int .i64 y0, .int .i64 y1] w fun z w' => z = .returned (.agg #[.int .i64 bn, .int .i64 bd]) ∧ Below w.heap.size w w'
  ad1 : ∀ w : World, Calls Try.prog 16 #[.agg #[.int .i64 an, .int .i64 ad], .agg #[.int .i64 bn, .int .i64 bd]] w fun z w' => z = .returned (.agg #[.int .i64 s0, .int .i64 s1, .int .i64 s2]) ∧ Below w.heap.size w w'
  ad2 : ∀ w : World, Calls Try.prog 17 #[.agg #[.int .i64 an, .int .i64 ad], .agg #[.int .i64 bn, .int .i64 bd]] w fun z w' => z = .returned (.agg #[.int .i64 s0, .int .i64 s1, .int .i64 s2]) ∧ Below w.heap.size w w'
  su1 : ∀ w : World, Calls Try.prog 18 #[.agg #[.int .i64 an, .int .i64 ad], .agg #[.int .i64 bn, .int .i64 bd]] w fun z w' => z = .returned (.agg #[.int .i64 d0, .int .i64 d1, .int .i64 d2]) ∧ Below w.heap.size w w'
  su2 : ∀ w : World, Calls Try.prog 19 #[.agg #[.int .i64 an, .int .i64 ad], .agg #[.int .i64 bn, .int .i64 bd]] w fun z w' => z = .returned (.agg #[.int .i64 d0, .int .i64 d1, .int .i64 d2]) ∧ Below w.heap.size w w'
  mu1 : ∀ w : World, Calls Try.prog 20 #[.agg #[.int .i64 an, .int .i64 ad], .agg #[.int .i64 bn, .int .i64 bd]] w fun z w' => z = .returned (.agg #[.int .i64 m0, .int .i64 m1, .int .i64 m2]) ∧ Below w.heap.size w w'
  mu2 : ∀ w : World, Calls Try.prog 21 #[.agg #[.int .i64 an, .int .i64 ad], .agg #[.int .i64 bn, .int .i64 bd]] w fun z w' => z = .returned (.agg #[.int .i64 m0, .int .i64 m1, .int .i64 m2]) ∧ Below w.heap.size w w'
  dv1 : ∀ w : World, Calls Try.prog 22 #[.agg #[.int .i64 an, .int .i64 ad], .agg #[.int .i64 bn, .int .i64 bd]] w fun z w' => z = .returned (.agg #[.int .i64 q0, .int .i64 q1, .int .i64 q2]) ∧ Below w.heap.size w w'
  dv2 : ∀ w : World, Calls Try.prog 23 #[.agg #[.int .i64 an, .int .i64 ad], .agg #[.int .i64 bn, .int .i64 bd]] w fun z w' => z = .returned (.agg #[.int .i64 q0, .int .i64 q1, .int .i64 q2]) ∧ Below w.heap.size w w'
  cm1 : ∀ w : World, Calls Try.prog 24 #[.agg #[.int .i64 an, .int .i64 ad], .agg #[.int .i64 bn, .int .i64 bd]] w fun z w' => z = .returned (.int .i64 cm) ∧ Below w.heap.size w w'
  cm2 : ∀ w : World, Calls Try.prog 25 #[.agg #[.int .i64 an, .int .i64 ad], .agg #[.int .i64 bn, .int .i64 bd]] w fun z w' => z = .returned (.int .i64 cm) ∧ Below w.heap.size w w'
  fl1 : ∀ w : World, Calls Try.prog 26 #[.agg #[.int .i64 an, .int .i64 ad]] w fun z w' => z = .returned (.int .i64 fl) ∧ Below w.heap.size w w'
  fl2 : ∀ w : World, Calls Try.prog 27 #[.agg #[.int .i64 an, .int .i64 ad]] w fun z w' => z = .returned (.int .i64 fl) ∧ Below w.heap.size w w'
  ce1 : ∀ w : World, Calls Try.prog 28 #[.agg #[.int .i64 bn, .int .i64 bd]] w fun z w' => z = .returned (.int .i64 ce) ∧ Below w.heap.size w w'
  ce2 : ∀ w : World, Calls Try.prog 29 #[.agg #[.int .i64 bn, .int .i64 bd]] w fun z w' => z = .returned (.int .i64 ce) ∧ Below w.heap.size w w'
  va : ∀ w : World, Calls Try.prog 13 #[.agg #[.int .i64 an, .int .i64 ad]] w fun z w' => z = .returned (.bool true) ∧ Below w.heap.size w w'
  t1 : ∀ w : World, Calls Try.prog 30 #[.agg #[.int .i64 an, .int .i64 ad]] w fun z w' => z = .returned (strV t) ∧ Below w.heap.size w w'
  t2 : ∀ w : World, Calls Try.prog 31 #[.agg #[.int .i64 an, .int .i64 ad]] w fun z w' => z = .returned (strV t) ∧ Below w.heap.size w w'
/-- two boxes with two cells each, from block B on -/
abbrev BB (B : Nat) (x0 x1 y0 y1 : Int) (w : World) : Prop := w.cell? ⟨B, 0, none⟩ = some (.int .i64 x0) ∧ w.cell? ⟨B, 1, none⟩ = some (.int .i64 x1) ∧ w.cell? ⟨B + 1, 0, none⟩ = some (.int .i64 y0) ∧ w.cell? ⟨B + 1, 1, none⟩ = some (.int .i64 y1) ∧ B + 1 < w.heap.size
theorem keepBB {B : Nat} {x0 x1 y0 y1 : Int} {w w' : World} (h : BB B x0 x1 y0 y1 w) (hb : Below w.heap.size w w') : BB B x0 x1 y0 y1 w' := by
  obtain ⟨h1, h2, h3, h4, h5⟩ := h
  refine ⟨(hb.cell (by show B < _; omega)).trans h1, (hb.cell (by show B < _; omega)).trans h2, (hb.cell h5).trans h3, (hb.cell h5).trans h4, Nat.lt_of_lt_of_le h5 hb.size⟩
abbrev SB (W : World) (B : Nat) (x0 x1 y0 y1 : Int) (w : World) : Prop := Below W.heap.size W w ∧ W.heap.size ≤ B ∧ BB B x0 x1 y0 y1 w
theorem keepSB {W w w' : World} {B : Nat} {x0 x1 y0 y1 : Int} (h : SB W B x0 x1 y0 y1 w) (hb : Below w.heap.size w w') : SB W B x0 x1 y0 y1 w' := ⟨h.1.trans (hb.mono h.1.size), h.2.1, keepBB h.2.2 hb⟩
theorem drewSB {W w : World} {B : Nat} {x0 x1 y0 y1 : Int} (h : SB W B x0 x1 y0 y1 w) : SB W B x0 x1 y0 y1 w.drew := ⟨h.1.drew, h.2.1, h.2.2⟩
abbrev ST (W : World) (A B : Nat) (an ad bn bd : Int) (w : World) : Prop := Below W.heap.size W w ∧ w.cell? ⟨A, 0, none⟩ = some (.int .i64 an) ∧ w.cell? ⟨A, 1, none⟩ = some (.int .i64 ad) ∧ w.cell? ⟨B, 0, none⟩ = some (.int .i64 bn) ∧ w.cell? ⟨B, 1, none⟩ = some (.int .i64 bd) ∧ A < w.heap.size ∧ B < w.heap.size
theorem keepST {W w w' : World} {A B : Nat} {an ad bn bd : Int} (h : ST W A B an ad bn bd w) (hb : Below w.heap.size w w') : ST W A B an ad bn bd w' := by
  obtain ⟨h1, h2, h3, h4, h5, h6, h7⟩ := h
  exact ⟨h1.trans (hb.mono h1.size), (hb.cell h6).trans h2, (hb.cell h6).trans h3, (hb.cell h7).trans h4, (hb.cell h7).trans h5, Nat.lt_of_lt_of_le h6 hb.size, Nat.lt_of_lt_of_le h7 hb.size⟩
theorem drewST {W w : World} {A B : Nat} {an ad bn bd : Int} (h : ST W A B an ad bn bd w) : ST W A B an ad bn bd w.drew := ⟨h.1.drew, h.2⟩
set_option maxHeartbeats 12800000 in
theorem match_w {x0 x1 y0 y1 an ad bn bd c0 c1 c2 e0 e1 e2 s0 s1 s2 d0 d1 d2 m0 m1 m2 q0 q1 q2 cm fl ce : Int} {v : Bool} {t : List UInt8} (H : LH x0 x1 y0 y1 an ad bn bd c0 c1 c2 e0 e1 e2 s0 s1 s2 d0 d1 d2 m0 m1 m2 q0 q1 q2 cm fl ce v t) (W : World) :
    Calls Try.prog 3 #[.agg #[.int .i64 x0, .int .i64 x1], .agg #[.int .i64 y0, .int .i64 y1]] W fun z W' => z = .returned (.bool true) ∧ Below W.heap.size W W' := by
  have HH := Lib.hid H
  clear H
  go_enter Try.func3, Try.ntmps3
  go_wp2_with fail
  refine (HH.out.ex _).mono ?_
  rintro z w1 ⟨rfl, hb1⟩
  have hs1 : SB W W.heap.size x0 x1 y0 y1 w1 := keepSB (w := (W.alloc (.cells #[.int .i64 x0, .int .i64 x1] 22)).alloc (.cells #[.int .i64 y0, .int .i64 y1] 22)) ⟨((Below.refl _ _).alloc (Nat.le_refl _) _).alloc (by simp) _, Nat.le_refl _, by
    refine ⟨?_, ?_, ?_, ?_, by simp⟩
    · rw [World.cell?_alloc_past _ _ _ (by simp)]; exact World.cell?_alloc_at _ _ _ _ rfl
    · rw [World.cell?_alloc_past _ _ _ (by simp)]; exact World.cell?_alloc_at _ _ _ _ rfl
    · exact World.cell?_alloc_at _ _ _ _ (by simp)
    · exact World.cell?_alloc_at _ _ _ _ (by simp)⟩ hb1
  have hS0 := drewSB hs1
  clear hb1 hs1
  go_wp2_with fail
  go_region_held3 (fun w' => SB W W.heap.size x0 x1 y0 y1 w') (first | (with_reducible exact hS0) | (refine keepSB ?_ hb3; assumption)) (first | (go_at_call 11; with_reducible refine (HH.out.cr1 _).mono ?_; rintro z v' ⟨rfl, hb3⟩) | (go_at_call 12; with_reducible refine (HH.out.mk1 _).mono ?_; rintro z v' ⟨rfl, hb3⟩) | (go_at_call 11; with_reducible refine (HH.out.cr2 _).mono ?_; rintro z v' ⟨rfl, hb3⟩) | (go_at_call 12; with_reducible refine (HH.out.mk2 _).mono ?_; rintro z v' ⟨rfl, hb3⟩) | (go_at_call 13; with_reducible refine (HH.out.vl _).mono ?_; rintro z v' ⟨rfl, hb3⟩) | (go_at_call 14; with_reducible refine (HH.out.rvl _).mono ?_; rintro z v' ⟨rfl, hb3⟩))
  rename_i hHeld
  obtain ⟨hb1, hz1, b0, b1, b2, b3, hz2⟩ := hHeld
  have HB1 := Lib.hid hb1
  clear hb1 hb3 hS0
  go_wp2_with fail
  refine (HH.out.ma _).mono ?_
  rintro z w2 ⟨rfl, hb3⟩
  have HB2 : Hid (Below W.heap.size W w2) := Lib.hid (HB1.out.trans (hb3.mono HB1.out.size))
  obtain ⟨e0', e1', e2', e3', hz3⟩ := keepBB ⟨b0, b1, b2, b3, hz2⟩ hb3
  have hc : BB W.heap.size x0 x1 y0 y1 (w2.alloc (.cells #[.int .i64 an, .int .i64 ad] 25)) := keepBB ⟨e0', e1', e2', e3', hz3⟩ ((Below.refl _ _).alloc (Nat.le_refl _) _)
  obtain ⟨k0, k1, k2, k3, _⟩ := hc
  clear hb3 b0 b1 b2 b3 hz2 HB1 e0' e1' e2' e3'
  go_wp2_with fail
  refine (HH.out.mb _).mono ?_
  rintro z w3 ⟨rfl, hb3⟩
  have hal : Below w2.heap.size w2 (w2.alloc (.cells #[.int .i64 an, .int .i64 ad] 25)) := (Below.refl _ _).alloc (Nat.le_refl _) _
  have hz4 : w2.heap.size + 1 ≤ w3.heap.size := by have := hb3.size; simpa using this
  have HB3 : Hid (Below W.heap.size W w3) := Lib.hid (HB2.out.trans ((hal.trans (hb3.mono hal.size)).mono HB2.out.size))
  have a0 : w3.cell? ⟨w2.heap.size, 0, none⟩ = some (.int .i64 an) := (hb3.cell (by simp)).trans (World.cell?_alloc_at _ _ _ _ rfl)
  have a1 : w3.cell? ⟨w2.heap.size, 1, none⟩ = some (.int .i64 ad) := (hb3.cell (by simp)).trans (World.cell?_alloc_at _ _ _ _ rfl)
  have hS : ST W w2.heap.size w3.heap.size an ad bn bd (w3.alloc (.cells #[.int .i64 bn, .int .i64 bd] 25)) := by
    refine ⟨HB3.out.alloc HB3.out.size _, ?_, ?_, World.cell?_alloc_at _ _ _ _ rfl, World.cell?_alloc_at _ _ _ _ rfl, by simp; omega, by simp⟩
    · rw [World.cell?_alloc_past _ _ _ (by show w2.heap.size < _; omega)]; exact a0
    · rw [World.cell?_alloc_past _ _ _ (by show w2.heap.size < _; omega)]; exact a1
  have hS0 := drewST hS
  clear hb3 hal a0 a1 hS k0 k1 k2 k3
  go_wp2_with fail
  go_region_held3 (fun w' => ST W w2.heap.size w3.heap.size an ad bn bd w') (first | (with_reducible exact hS0) | (refine keepST ?_ hb3; assumption)) (first | (go_at_call 16; with_reducible refine (HH.out.ad1 _).mono ?_; rintro z v' ⟨rfl, hb3⟩) | (go_at_call 17; with_reducible refine (HH.out.ad2 _).mono ?_; rintro z v' ⟨rfl, hb3⟩) | (go_at_call 18; with_reducible refine (HH.out.su1 _).mono ?_; rintro z v' ⟨rfl, hb3⟩) | (go_at_call 19; with_reducible refine (HH.out.su2 _).mono ?_; rintro z v' ⟨rfl, hb3⟩) | (go_at_call 20; with_reducible refine (HH.out.mu1 _).mono ?_; rintro z v' ⟨rfl, hb3⟩) | (go_at_call 21; with_reducible refine (HH.out.mu2 _).mono ?_; rintro z v' ⟨rfl, hb3⟩) | (go_at_call 22; with_reducible refine (HH.out.dv1 _).mono ?_; rintro z v' ⟨rfl, hb3⟩) | (go_at_call 23; with_reducible refine (HH.out.dv2 _).mono ?_; rintro z v' ⟨rfl, hb3⟩) | (go_at_call 24; with_reducible refine (HH.out.cm1 _).mono ?_; rintro z v' ⟨rfl, hb3⟩) | (go_at_call 25; with_reducible refine (HH.out.cm2 _).mono ?_; rintro z v' ⟨rfl, hb3⟩) | (go_at_call 26; with_reducible refine (HH.out.fl1 _).mono ?_; rintro z v' ⟨rfl, hb3⟩) | (go_at_call 27; with_reducible refine (HH.out.fl2 _).mono ?_; rintro z v' ⟨rfl, hb3⟩) | (go_at_call 28; with_reducible refine (HH.out.ce1 _).mono ?_; rintro z v' ⟨rfl, hb3⟩) | (go_at_call 29; with_reducible refine (HH.out.ce2 _).mono ?_; rintro z v' ⟨rfl, hb3⟩))
  rename_i hHeld
  have hS1 := drewST hHeld
  clear hHeld hb3 hS0
  go_wp2_with fail
  go_region_held3 (fun w' => ST W w2.heap.size w3.heap.size an ad bn bd w') (first | (with_reducible exact hS1) | (refine keepST ?_ hb3; assumption)) (first | (go_at_call 13; with_reducible refine (HH.out.va _).mono ?_; rintro z v' ⟨rfl, hb3⟩) | (go_at_call 30; with_reducible refine (HH.out.t1 _).mono ?_; rintro z v' ⟨rfl, hb3⟩) | (go_at_call 31; with_reducible refine (HH.out.t2 _).mono ?_; rintro z v' ⟨rfl, hb3⟩))
  rename_i hHeld
  have HF := Lib.hid hHeld.1
  clear hHeld
  go_wp2
  go_ret
  exact ⟨rfl, HF.out⟩
end Go.Proofs.Ytieabeodommbiaa
