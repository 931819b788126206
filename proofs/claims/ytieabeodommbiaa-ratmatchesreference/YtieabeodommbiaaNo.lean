/- The reference's product of fractions. -/
import Derived.Test.YtieabeodommbiaaNn
namespace Go.Proofs.Ytieabeodommbiaa
open Go.RowKit
set_option maxRecDepth 100000
set_option linter.unusedVariables false

/-- the two arguments lie in their boxes -/
abbrev Boxes (W : World) (x0 x1 y0 y1 : Value) (w : World) : Prop := Below W.heap.size W w ∧ W.heap.size + 3 ≤ w.heap.size ∧ w.cell? ⟨W.heap.size, 0, none⟩ = some x0 ∧ w.cell? ⟨W.heap.size, 1, none⟩ = some x1 ∧ w.cell? ⟨W.heap.size + 1, 0, none⟩ = some y0 ∧ w.cell? ⟨W.heap.size + 1, 1, none⟩ = some y1
theorem keepB {W w w' : World} {x0 x1 y0 y1 : Value} (h : Boxes W x0 x1 y0 y1 w) (hb : Below w.heap.size w w') : Boxes W x0 x1 y0 y1 w' := by
  obtain ⟨h1, h2, h3, h4, h5, h6⟩ := h
  have hs := hb.size
  refine ⟨h1.trans (hb.mono (by omega)), by omega, ?_⟩
  rw [hb.cell (p := ⟨W.heap.size, 0, none⟩) (by simp; omega), hb.cell (p := ⟨W.heap.size, 1, none⟩) (by simp; omega), hb.cell (p := ⟨W.heap.size + 1, 0, none⟩) (by simp; omega), hb.cell (p := ⟨W.heap.size + 1, 1, none⟩) (by simp; omega)]
  exact ⟨h3, h4, h5, h6⟩
theorem setB {W w : World} {x0 x1 y0 y1 : Value} (h : Boxes W x0 x1 y0 y1 w) (k : Nat) (v : Value) : Boxes W x0 x1 y0 y1 (w.setCell ⟨W.heap.size + 1 + 1, k, none⟩ v) := by
  obtain ⟨h1, h2, h3, h4, h5, h6⟩ := h
  refine ⟨h1.setCell (by simp; omega) _, by simpa using h2, ?_⟩
  have e : ∀ b k', b ≠ W.heap.size + 1 + 1 → (w.setCell ⟨W.heap.size + 1 + 1, k, none⟩ v).cell? ⟨b, k', none⟩ = w.cell? ⟨b, k', none⟩ := fun b k' hb => World.cell?_of_block (Below.heap_setCell _ _ _ _ (by exact hb))
  rw [e _ _ (by omega), e _ _ (by omega), e _ _ (by omega), e _ _ (by omega)]
  exact ⟨h3, h4, h5, h6⟩
/-- the result's cells as they were made -/
def Res0 (B : Nat) (w : World) : Prop := w.cell? ⟨B + 1 + 1, 0, none⟩ = some (.int .i64 0) ∧ w.cell? ⟨B + 1 + 1, 1, none⟩ = some (.int .i64 0) ∧ w.cell? ⟨B + 1 + 1, 2, none⟩ = some (.int .i64 0) ∧ w.frozen? ⟨B + 1 + 1, 0, none⟩ = false ∧ w.frozen? ⟨B + 1 + 1, 1, none⟩ = false ∧ w.frozen? ⟨B + 1 + 1, 2, none⟩ = false
theorem Res0.keep {B : Nat} {w w' : World} (h : Res0 B w) (hb : Below w.heap.size w w') (hB : B + 3 ≤ w.heap.size) : Res0 B w' := by
  obtain ⟨h1, h2, h3, h4, h5, h6⟩ := h
  refine ⟨?_, ?_, ?_, ?_, ?_, ?_⟩
  · rw [hb.cell (by simp; omega)]; exact h1
  · rw [hb.cell (by simp; omega)]; exact h2
  · rw [hb.cell (by simp; omega)]; exact h3
  · rw [hb.frozen (by simp; omega)]; exact h4
  · rw [hb.frozen (by simp; omega)]; exact h5
  · rw [hb.frozen (by simp; omega)]; exact h6
/-- the world in which the two arguments and the result have their boxes -/
abbrev W3 (W : World) (x0 x1 y0 y1 : Value) : World := ((W.alloc (.cells #[x0, x1] 25)).alloc (.cells #[y0, y1] 25)).alloc (.cells #[.int .i64 0, .int .i64 0, .int .i64 0] 28)
theorem boxes0 (W : World) (x0 x1 y0 y1 : Value) : Boxes W x0 x1 y0 y1 (W3 W x0 x1 y0 y1) := by
  refine ⟨(((Below.refl _ _).alloc (Nat.le_refl _) _).alloc (by simp) _).alloc (by simp; omega) _, by simp, ?_, ?_, ?_, ?_⟩
  · rw [World.cell?_alloc_past _ _ _ (by simp; omega), World.cell?_alloc_past _ _ _ (by simp)]; exact World.cell?_alloc_at _ _ _ _ rfl
  · rw [World.cell?_alloc_past _ _ _ (by simp; omega), World.cell?_alloc_past _ _ _ (by simp)]; exact World.cell?_alloc_at _ _ _ _ rfl
  · rw [World.cell?_alloc_past _ _ _ (by simp)]; exact World.cell?_alloc_at _ _ _ _ (by simp)
  · rw [World.cell?_alloc_past _ _ _ (by simp)]; exact World.cell?_alloc_at _ _ _ _ (by simp)
theorem res0 (W : World) (x0 x1 y0 y1 : Value) : Res0 W.heap.size (W3 W x0 x1 y0 y1) := by
  refine ⟨?_, ?_, ?_, ?_, ?_, ?_⟩
  · exact World.cell?_alloc_at _ _ _ _ (by simp)
  · exact World.cell?_alloc_at _ _ _ _ (by simp)
  · exact World.cell?_alloc_at _ _ _ _ (by simp)
  all_goals exact World.frozen?_alloc_at _ _ _ _ (by simp)

theorem gI_pos {a b : Int} (ha : 0 ≤ a) (hb : 1 ≤ b) : 1 ≤ gI a b ∧ gI a b ≤ b := by
  unfold gI
  have h : 0 < Int.gcd a b := Int.gcd_pos_of_ne_zero_right _ (by omega)
  have h2 : (Int.gcd a b : Int) ∣ b := Int.gcd_dvd_right ..
  have h3 := Int.le_of_dvd (by omega) h2
  omega

/-- a numerator and a denominator fit -/
def fitI (n d : Int) : Prop := n.natAbs ≤ 4611686018427387904 ∧ d ≤ 4611686018427387904
instance (n d : Int) : Decidable (fitI n d) := inferInstanceAs (Decidable (_ ∧ _))
def rsN (n d : Int) : Int := if fitI n d then n else 0
def rsD (n d : Int) : Int := if fitI n d then d else 0
def rsE (n d : Int) : Int := if fitI n d then 0 else 2
abbrev RsPost (n d : Int) (w : World) (e : Ending) (w' : World) : Prop := e = .returned (.agg #[.int .i64 (rsN n d), .int .i64 (rsD n d), .int .i64 (rsE n d)]) ∧ Below w.heap.size w w'
theorem made_r {n : Bool} {A B : List Int} {va vb : Value} {W : World} (hA : Bits A) (hB : Bits B) (ha : A.length ≤ 1000) (hb : B.length ≤ 1000) (na : Num A W va) (nb : Num B W vb) :
    Calls Try.prog 46 #[.agg #[.bool n, va], vb] W (RsPost (sv n A) (vl B) W) := by
  refine (made_c' hA hB ha hb na nb).mono ?_
  rintro e w ⟨h, h2⟩
  refine ⟨h.trans ?_, h2⟩
  have h0 := (vl_bd hA).1
  have e : (vl A ≤ 4611686018427387904 ∧ vl B ≤ 4611686018427387904) ↔ fitI (sv n A) (vl B) := by
    unfold fitI sv
    cases n <;> simp <;> omega
  unfold rsN rsD rsE
  by_cases hc : fitI (sv n A) (vl B)
  · rw [if_pos (e.2 hc), if_pos hc, if_pos hc, if_pos hc]
  · rw [if_neg (fun h => hc (e.1 h)), if_neg hc, if_neg hc, if_neg hc]

theorem le127 : 127 ≤ 1000 := by decide
theorem drewB {W w : World} {x0 x1 y0 y1 : Value} (h : Boxes W x0 x1 y0 y1 w) : Boxes W x0 x1 y0 y1 w.drew := ⟨h.1.drew, by simpa using h.2.1, by simpa using h.2.2⟩
theorem BPost.open {n : Int} {w w' : World} {e : Ending} (h : BPost n w e w') : ∃ K a c, e = .returned (.slice a (List.length K) c) ∧ Hid (vl K = n ∧ Bits K ∧ Can K ∧ K.length ≤ 63 ∧ Num K w' (.slice a K.length c)) ∧ Below w.heap.size w w' := by
  obtain ⟨K, h1, h2, h3, h4, v, h5, h6, h7⟩ := h
  obtain ⟨a, c, rfl⟩ := h6.shape
  exact ⟨K, a, c, h5, ⟨h1, h2, h3, h4, h6⟩, h7⟩
/-- what the product of fractions calls -/
structure MH (an ad bn bd x y g h : Int) : Prop where
  s1 : ∀ w : World, Calls Try.prog 40 #[.int .i64 an] w fun e w' => e = .returned (.int .i64 x) ∧ Below w.heap.size w w'
  g1 : ∀ w : World, Calls Try.prog 39 #[.int .i64 x, .int .i64 bd] w fun e w' => e = .returned (.int .i64 g) ∧ Below w.heap.size w w'
  s2 : ∀ w : World, Calls Try.prog 40 #[.int .i64 bn] w fun e w' => e = .returned (.int .i64 y) ∧ Below w.heap.size w w'
  g2 : ∀ w : World, Calls Try.prog 39 #[.int .i64 y, .int .i64 ad] w fun e w' => e = .returned (.int .i64 h) ∧ Below w.heap.size w w'
  p : ∀ w : World, Calls Try.prog 44 #[.int .i64 (an.tdiv g), .int .i64 (bn.tdiv h)] w (SgPost (an.tdiv g * bn.tdiv h) 127 w)
  b1 : ∀ w : World, Calls Try.prog 48 #[.int .i64 (ad.tdiv h)] w (BPost (ad.tdiv h) w)
  b2 : ∀ w : World, Calls Try.prog 48 #[.int .i64 (bd.tdiv g)] w (BPost (bd.tdiv g) w)
set_option maxHeartbeats 6400000 in
theorem mulin_w {W : World} {an ad bn bd x y g h : Int} (H : MH an ad bn bd x y g h) (hg : 1 ≤ g ∧ g ≤ 4611686018427387904) (hh : 1 ≤ h ∧ h ≤ 4611686018427387904)
   (ha : -4611686018427387904 ≤ an ∧ an ≤ 4611686018427387904) (hb : -4611686018427387904 ≤ bn ∧ bn ≤ 4611686018427387904) (hd : 1 ≤ ad ∧ ad ≤ 4611686018427387904) (he : 1 ≤ bd ∧ bd ≤ 4611686018427387904)
   (ea : (an == 0) = false) (eb : (bn == 0) = false) (w1q : IntKind.i64.wrap (an.tdiv g) = an.tdiv g) (w2q : IntKind.i64.wrap (bn.tdiv h) = bn.tdiv h) (w3q : IntKind.i64.wrap (ad.tdiv h) = ad.tdiv h) (w4q : IntKind.i64.wrap (bd.tdiv g) = bd.tdiv g) (g0 : ¬ g = 0) (h0 : ¬ h = 0) :
   Calls Try.prog 21 #[.agg #[.int .i64 an, .int .i64 ad], .agg #[.int .i64 bn, .int .i64 bd]] W (RsPost (an.tdiv g * bn.tdiv h) (ad.tdiv h * bd.tdiv g) W) := by
  have HH := Lib.hid H
  have W1 := Lib.hid w1q
  have W2 := Lib.hid w2q
  have W3 := Lib.hid w3q
  have W4 := Lib.hid w4q
  clear H w1q w2q w3q w4q
  go_enter Try.func21, Try.ntmps21
  go_wp2_with fail
  have hb0 : Boxes W (.int .i64 an) (.int .i64 ad) (.int .i64 bn) (.int .i64 bd) (((W.alloc (.cells #[.int .i64 an, .int .i64 ad] 25)).alloc (.cells #[.int .i64 bn, .int .i64 bd] 25)).alloc (.cells #[.int .i64 0, .int .i64 0, .int .i64 0] 28)) := boxes0 W (.int .i64 an) (.int .i64 ad) (.int .i64 bn) (.int .i64 bd)
  have HR : Hid (Res0 W.heap.size (((W.alloc (.cells #[.int .i64 an, .int .i64 ad] 25)).alloc (.cells #[.int .i64 bn, .int .i64 bd] 25)).alloc (.cells #[.int .i64 0, .int .i64 0, .int .i64 0] 28))) := Lib.hid (res0 W (.int .i64 an) (.int .i64 ad) (.int .i64 bn) (.int .i64 bd))
  have hB0 : Below (((W.alloc (.cells #[.int .i64 an, .int .i64 ad] 25)).alloc (.cells #[.int .i64 bn, .int .i64 bd] 25)).alloc (.cells #[.int .i64 0, .int .i64 0, .int .i64 0] 28)).heap.size (((W.alloc (.cells #[.int .i64 an, .int .i64 ad] 25)).alloc (.cells #[.int .i64 bn, .int .i64 bd] 25)).alloc (.cells #[.int .i64 0, .int .i64 0, .int .i64 0] 28)) (((W.alloc (.cells #[.int .i64 an, .int .i64 ad] 25)).alloc (.cells #[.int .i64 bn, .int .i64 bd] 25)).alloc (.cells #[.int .i64 0, .int .i64 0, .int .i64 0] 28)) := Below.refl _ _
  generalize (((W.alloc (.cells #[.int .i64 an, .int .i64 ad] 25)).alloc (.cells #[.int .i64 bn, .int .i64 bd] 25)).alloc (.cells #[.int .i64 0, .int .i64 0, .int .i64 0] 28)) = w1 at *
  have hz1 : W.heap.size + 3 ≤ w1.heap.size := hb0.2.1
  have hS0 := drewB hb0
  have hB1 : Below w1.heap.size w1 w1.drew := hB0.drew
  clear hb0 hB0
  go_region_held3 (fun w' => Boxes W (.int .i64 an) (.int .i64 ad) (.int .i64 bn) (.int .i64 bd) w') (first | (with_reducible exact hS0) | (refine keepB ?_ hb3; assumption))
      (first | (go_at_call 40; with_reducible refine (HH.out.s1 _).mono ?_; rintro e v ⟨rfl, hb3⟩; have hB2 := (by assumption : Below w1.heap.size w1 _).trans (hb3.mono (by assumption : Below w1.heap.size w1 _).size)) | (go_at_call 39; with_reducible refine (HH.out.g1 _).mono ?_; rintro e v ⟨rfl, hb3⟩; have hB2 := (by assumption : Below w1.heap.size w1 _).trans (hb3.mono (by assumption : Below w1.heap.size w1 _).size)))
  clear hS0 hB1 hb3
  rename_i hHeld
  have hS0 := drewB hHeld
  have hB1 := hB2.drew
  clear hHeld hB2
  clear hb3 hB2
  go_wp2_with fail
  go_region_held3 (fun w' => Boxes W (.int .i64 an) (.int .i64 ad) (.int .i64 bn) (.int .i64 bd) w') (first | (with_reducible exact hS0) | (refine keepB ?_ hb3; assumption))
      (first | (go_at_call 40; with_reducible refine (HH.out.s2 _).mono ?_; rintro e v ⟨rfl, hb3⟩; have hB2 := (by assumption : Below w1.heap.size w1 _).trans (hb3.mono (by assumption : Below w1.heap.size w1 _).size)) | (go_at_call 39; with_reducible refine (HH.out.g2 _).mono ?_; rintro e v ⟨rfl, hb3⟩; have hB2 := (by assumption : Below w1.heap.size w1 _).trans (hb3.mono (by assumption : Below w1.heap.size w1 _).size)))
  clear hS0 hB1 hb3
  rename_i hHeld
  obtain ⟨h1, h2, c1, c2, c3, c4⟩ := hHeld
  have hS0 : Boxes W (.int .i64 an) (.int .i64 ad) (.int .i64 bn) (.int .i64 bd) v.drew := drewB ⟨h1, h2, c1, c2, c3, c4⟩
  have hB1 := hB2.drew
  clear hB2 h1 h2
  go_wp2_with fail
  clear c1 c2 c3 c4
  have w1q := W1.out
  have w2q := W2.out
  have w3q := W3.out
  have w4q := W4.out
  go_region_held3 (fun w' => Boxes W (.int .i64 an) (.int .i64 ad) (.int .i64 bn) (.int .i64 bd) w') (first | (with_reducible exact hS0) | (refine keepB ?_ hbM; assumption) | (refine keepB ?_ hbT; assumption) | (refine keepB ?_ hbE; assumption) | (refine keepB ?_ hbD; assumption) | (refine keepB ?_ hbP; assumption) | (refine setB (setB (setB ?_ _ _) _ _) _ _; assumption))
      (first | (go_at_call 44; with_reducible refine (HH.out.p _).mono ?_; intro e v hh; obtain ⟨neg, K, ka, kc, rfl, EK, hbP⟩ := SgPost.open hh; have hBP := hB1.trans (hbP.mono hB1.size); clear hh) | (go_at_call 48; with_reducible refine (HH.out.b1 _).mono ?_; intro e v hh; obtain ⟨D, da, dc, rfl, ED, hbD⟩ := BPost.open hh; have hBD := hBP.trans (hbD.mono hBP.size); clear hh) | (go_at_call 48; with_reducible refine (HH.out.b2 _).mono ?_; intro e v hh; obtain ⟨E, ea, ec, rfl, EE, hbE⟩ := BPost.open hh; have hBE := hBD.trans (hbE.mono hBD.size); clear hh) | (go_at_call 47; with_reducible refine (times_any ED.out.2.1 EE.out.2.1 ED.out.2.2.2.1 EE.out.2.2.2.1 (ED.out.2.2.2.2.below hbE) EE.out.2.2.2.2).mono ?_; intro e v hh; obtain ⟨T, ta, tc, rfl, ET, hbT⟩ := CPost.open hh; have hBT := hBE.trans (hbT.mono hBE.size); clear hh) | (go_at_call 46; have hX := made_r (n := neg) EK.out.2.1 ET.out.2.1 (Nat.le_trans EK.out.2.2.2.1 le127) (Nat.le_trans ET.out.2.2.2.1 le127) (((EK.out.2.2.2.2.below hbD).below hbE).below hbT) ET.out.2.2.2.2; rw [EK.out.1, ET.out.1, ED.out.1, EE.out.1] at hX; refine hX.mono ?_; intro e v hh; have he := hh.1; have hbM := hh.2; clear hh hX; subst he; have hBM := hBT.trans (hbM.mono hBT.size); have r0 := (HR.out.keep hBM hz1).1; have r1 := (HR.out.keep hBM hz1).2.1; have r2 := (HR.out.keep hBM hz1).2.2.1; have r3 := (HR.out.keep hBM hz1).2.2.2.1; have r4 := (HR.out.keep hBM hz1).2.2.2.2.1; have r5 := (HR.out.keep hBM hz1).2.2.2.2.2))
  rename_i hHeld
  have HF := Lib.hid hHeld.1
  clear hHeld
  go_wp2
  exact bodyPost_ret (v := .agg #[.int .i64 (rsN (an.tdiv g * bn.tdiv h) (ad.tdiv h * bd.tdiv g)), .int .i64 (rsD (an.tdiv g * bn.tdiv h) (ad.tdiv h * bd.tdiv g)), .int .i64 (rsE (an.tdiv g * bn.tdiv h) (ad.tdiv h * bd.tdiv g))]) (by simp [results, Try.results21, go_sem, r0, r1, r2]) rfl ⟨rfl, HF.out⟩
end Go.Proofs.Ytieabeodommbiaa
