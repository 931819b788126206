/- The reference's sum of fractions. -/
import Derived.Test.YtieabeodommbiaaNo
import Derived.Deep.DeepCutAuto
namespace Go.Proofs.Ytieabeodommbiaa
open Go.RowKit
set_option maxRecDepth 100000
set_option linter.unusedVariables false

theorem le_alloc {n : Nat} {X : World} {o : Obj} (h : n ≤ X.heap.size) : n ≤ (X.alloc o).heap.size := by simp; omega
theorem le_allocD {n : Nat} {X : World} {o : Obj} (h : n ≤ X.heap.size) : n ≤ (X.alloc o).drew.heap.size := by simp; omega
theorem allocB {W w : World} {x0 x1 y0 y1 : Value} (h : Boxes W x0 x1 y0 y1 w) (o : Obj) : Boxes W x0 x1 y0 y1 (w.alloc o) := keepB h ((Below.refl _ _).alloc (Nat.le_refl _) _)
theorem setT {W w : World} {x0 x1 y0 y1 : Value} {tb : Nat} (ht : W.heap.size + 3 ≤ tb) (h : Boxes W x0 x1 y0 y1 w) (k : Nat) (v : Value) : Boxes W x0 x1 y0 y1 (w.setCell ⟨tb, k, none⟩ v) := by
  obtain ⟨h1, h2, h3, h4, h5, h6⟩ := h
  refine ⟨h1.setCell (by simp; omega) _, by simpa using h2, ?_⟩
  have e : ∀ b k', b ≠ tb → (w.setCell ⟨tb, k, none⟩ v).cell? ⟨b, k', none⟩ = w.cell? ⟨b, k', none⟩ := fun b k' hb => World.cell?_of_block (Below.heap_setCell _ _ _ _ (by exact hb))
  rw [e _ _ (by omega), e _ _ (by omega), e _ _ (by omega), e _ _ (by omega)]
  exact ⟨h3, h4, h5, h6⟩
/-- the sum of two products lies in a box of its own -/
def TBox (W w1 : World) (an ad bn bd t : Int) (v : Value) (wx : World) : Prop :=
  ∃ tb neg K ka kc, v = .pointer (some ⟨tb, 0, none⟩) ∧ W.heap.size + 3 ≤ tb ∧ tb < wx.heap.size ∧ wx.cell? ⟨tb, 0, none⟩ = some (.bool neg) ∧ wx.cell? ⟨tb, 1, none⟩ = some (.slice ka (List.length K) kc) ∧ Hid (sv neg K = t ∧ Bits K ∧ Can K ∧ K.length ≤ 128 ∧ Num K wx (.slice ka K.length kc)) ∧ Boxes W (.int .i64 an) (.int .i64 ad) (.int .i64 bn) (.int .i64 bd) wx ∧ Below w1.heap.size w1 wx
/-- that box as it was made -/
def TB0 (W : World) (tb : Nat) (w : World) : Prop := W.heap.size + 3 ≤ tb ∧ tb < w.heap.size ∧ w.heap[tb]? = some (.cells #[.bool false, .slice none 0 0] 56 (0, 0))
theorem tb_keep {W u v : World} {tb : Nat} (h : TB0 W tb u) (hb : Below u.heap.size u v) : TB0 W tb v := ⟨h.1, by have := hb.size; have := h.2.1; omega, (hb.block _ h.2.1).trans h.2.2⟩
theorem tb_alloc {W X v : World} (hb : Below (X.alloc (.cells #[.bool false, .slice none 0 0] 56)).heap.size (X.alloc (.cells #[.bool false, .slice none 0 0] 56)) v) (hX : W.heap.size + 3 ≤ X.heap.size) : TB0 W X.heap.size v :=
  tb_keep (u := X.alloc (.cells #[.bool false, .slice none 0 0] 56)) ⟨hX, by simp, Array.getElem?_push_size⟩ hb
theorem tb_allocD {W X v : World} (hb : Below (X.alloc (.cells #[.bool false, .slice none 0 0] 56)).drew.heap.size (X.alloc (.cells #[.bool false, .slice none 0 0] 56)).drew v) (hX : W.heap.size + 3 ≤ X.heap.size) : TB0 W X.heap.size v :=
  tb_keep (u := (X.alloc (.cells #[.bool false, .slice none 0 0] 56)).drew) ⟨hX, by simp, Array.getElem?_push_size⟩ hb
theorem TB0.cells {W w : World} {tb : Nat} (h : TB0 W tb w) : w.cell? ⟨tb, 0, none⟩ = some (.bool false) ∧ w.cell? ⟨tb, 1, none⟩ = some (.slice none 0 0) ∧ w.frozen? ⟨tb, 0, none⟩ = false ∧ w.frozen? ⟨tb, 1, none⟩ = false := by
  obtain ⟨h1, h2, h3⟩ := h
  simp [World.cell?, World.frozen?, h3]
theorem tbox_set {W w1 v : World} {an ad bn bd t : Int} {tb kc : Nat} {neg : Bool} {K : List Int} {ka : Option Addr} (hz : w1.heap.size ≤ tb) (hT : TB0 W tb v) (hS : Boxes W (.int .i64 an) (.int .i64 ad) (.int .i64 bn) (.int .i64 bd) v) (hB : Below w1.heap.size w1 v) (E : Hid (sv neg K = t ∧ Bits K ∧ Can K ∧ K.length ≤ 128 ∧ Num K v (.slice ka K.length kc))) :
    TBox W w1 an ad bn bd t (.pointer (some ⟨tb, 0, none⟩)) ((v.setCell ⟨tb, 0, none⟩ (.bool neg)).setCell ⟨tb, 1, none⟩ (.slice ka K.length kc)) := by
  obtain ⟨c0, c1, f0, f1⟩ := hT.cells
  obtain ⟨h1, h2, h3⟩ := hT
  refine ⟨tb, neg, K, ka, kc, rfl, h1, by simpa using h2, ?_, ?_, ⟨E.out.1, E.out.2.1, E.out.2.2.1, E.out.2.2.2.1, E.out.2.2.2.2.store (fun _ _ => by simp) h3⟩, setT h1 (setT h1 hS _ _) _ _, (hB.setCell hz _).setCell hz _⟩
  all_goals
    have h4 : v.heap[tb] = .cells #[.bool false, .slice none 0 0] 56 (0, 0) := by rw [Array.getElem?_eq_getElem h2] at h3; exact Option.some.inj h3
    simp [World.cell?, World.setCell, h2, Array.getElem_modify, h4]
theorem tbox_alloc {W w1 v : World} {an ad bn bd t : Int} {kc : Nat} {neg : Bool} {K : List Int} {ka : Option Addr} (hS : Boxes W (.int .i64 an) (.int .i64 ad) (.int .i64 bn) (.int .i64 bd) v) (hB : Below w1.heap.size w1 v) (E : Hid (sv neg K = t ∧ Bits K ∧ Can K ∧ K.length ≤ 128 ∧ Num K v (.slice ka K.length kc))) :
    TBox W w1 an ad bn bd t (.pointer (some ⟨v.heap.size, 0, none⟩)) (v.alloc (.cells #[.bool neg, .slice ka K.length kc] 56)) :=
  ⟨v.heap.size, neg, K, ka, kc, rfl, hS.2.1, by simp, World.cell?_alloc_at _ _ _ _ (by simp), World.cell?_alloc_at _ _ _ _ (by simp), ⟨E.out.1, E.out.2.1, E.out.2.2.1, E.out.2.2.2.1, E.out.2.2.2.2.below ((Below.refl _ _).alloc (Nat.le_refl _) _)⟩, allocB hS _, hB.alloc hB.size _⟩
theorem sum_any {n m : Bool} {A B : List Int} {va vb : Value} {W : World} (hA : Bits A) (hB : Bits B) (cA : Can A) (cB : Can B) (ha : A.length ≤ 127) (hb : B.length ≤ 127) (na : Num A W va) (nb : Num B W vb) (w : World) (hw : Below W.heap.size W w) :
    Calls Try.prog 43 #[.agg #[.bool n, va], .agg #[.bool m, vb]] w (SgPost (sv n A + sv m B) 128 w) :=
  (sum_c hA hB cA cB (Nat.le_trans ha le127) (Nat.le_trans hb le127) (na.below hw) (nb.below hw)).mono fun e w => SgPost.le (by omega)
theorem le128 : 128 ≤ 1000 := by decide
theorem divide_any {A : List Int} {va : Value} {W : World} {m : Int} (hm : 1 ≤ m) (hm2 : m ≤ 4611686018427387904) (hA : Bits A) (ha : A.length ≤ 1000) (na : Num A W va) (w : World) (hw : Below W.heap.size W w) :
    Calls Try.prog 45 #[va, .int .i64 m] w (DPost A m w) := by
  have na' := na.below hw
  obtain ⟨aa, ca, rfl⟩ := na.shape
  exact ndivide_c hm hm2 hA ha rfl na'
theorem DPost.open {A : List Int} {m : Int} {w w' : World} {e : Ending} (h : DPost A m w e w') : ∃ K a c, e = .returned (.agg #[.slice a (List.length K) c, .int .i64 (vl A % m)]) ∧ Hid (vl K = vl A / m ∧ Bits K ∧ Can K ∧ K.length ≤ A.length ∧ Num K w' (.slice a K.length c)) ∧ Below w.heap.size w w' := by
  obtain ⟨K, v, h1, h2, h3, h4, h5, h6, h7⟩ := h
  obtain ⟨a, c, rfl⟩ := h6.shape
  exact ⟨K, a, c, h1, ⟨h2, h3, h4, h5, h6⟩, h7⟩
theorem fld1 (aa : Option Addr) (l c : Nat) (x : Int) (w : World) : (Instr.field 60 (.agg #[.slice aa l c, .int .i64 x]) 1).run Try.prog w = .ok (.int .i64 x) w := by kernel_rfl
theorem fld0 (aa : Option Addr) (l c : Nat) (x : Int) (w : World) : (Instr.field 60 (.agg #[.slice aa l c, .int .i64 x]) 0).run Try.prog w = .ok (.slice aa l c) w := by kernel_rfl
abbrev BoxT (W : World) (x0 x1 y0 y1 : Value) (tb : Nat) (p q : Value) (w : World) : Prop := Boxes W x0 x1 y0 y1 w ∧ tb < w.heap.size ∧ W.heap.size + 3 ≤ tb ∧ w.cell? ⟨tb, 0, none⟩ = some p ∧ w.cell? ⟨tb, 1, none⟩ = some q
theorem keepBT {W w w' : World} {x0 x1 y0 y1 p q : Value} {tb : Nat} (h : BoxT W x0 x1 y0 y1 tb p q w) (hb : Below w.heap.size w w') : BoxT W x0 x1 y0 y1 tb p q w' := by
  obtain ⟨h1, h2, h3, h4, h5⟩ := h
  refine ⟨keepB h1 hb, Nat.lt_of_lt_of_le h2 hb.size, h3, ?_, ?_⟩
  · rw [hb.cell (by exact h2)]; exact h4
  · rw [hb.cell (by exact h2)]; exact h5
theorem setBT {W w : World} {x0 x1 y0 y1 p q : Value} {tb : Nat} (h : BoxT W x0 x1 y0 y1 tb p q w) (k : Nat) (v : Value) : BoxT W x0 x1 y0 y1 tb p q (w.setCell ⟨W.heap.size + 1 + 1, k, none⟩ v) := by
  obtain ⟨h1, h2, h3, h4, h5⟩ := h
  have e : ∀ k', (w.setCell ⟨W.heap.size + 1 + 1, k, none⟩ v).cell? ⟨tb, k', none⟩ = w.cell? ⟨tb, k', none⟩ := fun k' => World.cell?_of_block (Below.heap_setCell _ _ _ _ (by show tb ≠ W.heap.size + 1 + 1; omega))
  exact ⟨setB h1 k v, by simpa using h2, h3, (e 0).trans h4, (e 1).trans h5⟩
theorem drewBT {W w : World} {x0 x1 y0 y1 p q : Value} {tb : Nat} (h : BoxT W x0 x1 y0 y1 tb p q w) : BoxT W x0 x1 y0 y1 tb p q w.drew := ⟨drewB h.1, h.2.1, h.2.2.1, by simpa using h.2.2.2⟩
theorem sv_div {t h : Int} {neg : Bool} {K D : List Int} (h1 : sv neg K = t) (h2 : vl K = (t.natAbs : Int)) (h3 : vl D = vl K / h) (h0 : t ≠ 0) : sv neg D = t.sign * ((t.natAbs : Int) / h) := by
  rw [h2] at h3
  unfold sv at *
  rw [h3]
  cases neg
  · simp at *; have : t.sign = 1 := Int.sign_eq_one_of_pos (by omega); rw [this]; simp
  · simp at *; have : t.sign = -1 := Int.sign_eq_neg_one_of_neg (by omega); rw [this]; simp
/-- what the sum of fractions calls -/
structure AH (an ad bn bd g h t : Int) : Prop where
  g1 : ∀ w : World, Calls Try.prog 39 #[.int .i64 ad, .int .i64 bd] w fun e w' => e = .returned (.int .i64 g) ∧ Below w.heap.size w w'
  p1 : ∀ w : World, Calls Try.prog 44 #[.int .i64 an, .int .i64 (bd.tdiv g)] w (SgPost (an * bd.tdiv g) 127 w)
  p2 : ∀ w : World, Calls Try.prog 44 #[.int .i64 bn, .int .i64 (ad.tdiv g)] w (SgPost (bn * ad.tdiv g) 127 w)
  g2 : ∀ w : World, Calls Try.prog 39 #[.int .i64 ((t.natAbs : Int) % g), .int .i64 g] w fun e w' => e = .returned (.int .i64 h) ∧ Below w.heap.size w w'
  b1 : ∀ w : World, Calls Try.prog 48 #[.int .i64 (ad.tdiv g)] w (BPost (ad.tdiv g) w)
  b2 : ∀ w : World, Calls Try.prog 48 #[.int .i64 (bd.tdiv h)] w (BPost (bd.tdiv h) w)
set_option maxHeartbeats 6400000 in
theorem addin_w {W : World} {an ad bn bd g h t rn rd : Int} (H : AH an ad bn bd g h t) (hg : 1 ≤ g ∧ g ≤ 4611686018427387904) (hh : 1 ≤ h ∧ h ≤ 4611686018427387904) (ht : an * bd.tdiv g + bn * ad.tdiv g = t)
   (ha : -4611686018427387904 ≤ an ∧ an ≤ 4611686018427387904) (hb : -4611686018427387904 ≤ bn ∧ bn ≤ 4611686018427387904) (hd : 1 ≤ ad ∧ ad ≤ 4611686018427387904) (he : 1 ≤ bd ∧ bd ≤ 4611686018427387904)
   (w1q : IntKind.i64.wrap (bd.tdiv g) = bd.tdiv g) (w2q : IntKind.i64.wrap (ad.tdiv g) = ad.tdiv g) (w3q : IntKind.i64.wrap (bd.tdiv h) = bd.tdiv h) (g0 : ¬ g = 0) (h0 : ¬ h = 0) (hrz : t = 0 → rn = 0 ∧ rd = 1) (hrn : t ≠ 0 → rn = t.sign * (t.natAbs / h) ∧ rd = ad.tdiv g * bd.tdiv h) :
   Calls Try.prog 17 #[.agg #[.int .i64 an, .int .i64 ad], .agg #[.int .i64 bn, .int .i64 bd]] W (RsPost rn rd W) := by
  have HH := Lib.hid H
  have W1 := Lib.hid w1q
  have W2 := Lib.hid w2q
  have W3q := Lib.hid w3q
  have HT := Lib.hid ht
  have HRZ := Lib.hid hrz
  have HRN := Lib.hid hrn
  clear H w1q w2q w3q ht hrz hrn
  go_enter Try.func17, Try.ntmps17
  go_wp2_with fail
  have hb0 : Boxes W (.int .i64 an) (.int .i64 ad) (.int .i64 bn) (.int .i64 bd) (((W.alloc (.cells #[.int .i64 an, .int .i64 ad] 25)).alloc (.cells #[.int .i64 bn, .int .i64 bd] 25)).alloc (.cells #[.int .i64 0, .int .i64 0, .int .i64 0] 28)) := boxes0 W (.int .i64 an) (.int .i64 ad) (.int .i64 bn) (.int .i64 bd)
  have HR : Hid (Res0 W.heap.size (((W.alloc (.cells #[.int .i64 an, .int .i64 ad] 25)).alloc (.cells #[.int .i64 bn, .int .i64 bd] 25)).alloc (.cells #[.int .i64 0, .int .i64 0, .int .i64 0] 28))) := Lib.hid (res0 W (.int .i64 an) (.int .i64 ad) (.int .i64 bn) (.int .i64 bd))
  have hB0 : Below (((W.alloc (.cells #[.int .i64 an, .int .i64 ad] 25)).alloc (.cells #[.int .i64 bn, .int .i64 bd] 25)).alloc (.cells #[.int .i64 0, .int .i64 0, .int .i64 0] 28)).heap.size (((W.alloc (.cells #[.int .i64 an, .int .i64 ad] 25)).alloc (.cells #[.int .i64 bn, .int .i64 bd] 25)).alloc (.cells #[.int .i64 0, .int .i64 0, .int .i64 0] 28)) (((W.alloc (.cells #[.int .i64 an, .int .i64 ad] 25)).alloc (.cells #[.int .i64 bn, .int .i64 bd] 25)).alloc (.cells #[.int .i64 0, .int .i64 0, .int .i64 0] 28)) := Below.refl _ _
  generalize (((W.alloc (.cells #[.int .i64 an, .int .i64 ad] 25)).alloc (.cells #[.int .i64 bn, .int .i64 bd] 25)).alloc (.cells #[.int .i64 0, .int .i64 0, .int .i64 0] 28)) = w1 at *
  have hz1 : W.heap.size + 3 ≤ w1.heap.size := hb0.2.1
  refine (HH.out.g1 _).mono ?_
  rintro e w2 ⟨rfl, hb2⟩
  have hSa := keepB hb0 hb2
  have hS0 := drewB hSa
  have hB2 : Below w1.heap.size w1 w2 := hB0.trans hb2
  have hB1 : Below w1.heap.size w1 w2.drew := hB2.drew
  have hX2 := hSa.2.1
  clear hb0 hB0 hb2
  go_wp2_with fail
  have w1q := W1.out
  have w2q := W2.out
  have hX0 := hS0.2.1
  go_cut [6] (fun v wx => TBox W w1 an ad bn bd t v wx)
  case first =>
    go_region_held3 (fun w' => Boxes W (.int .i64 an) (.int .i64 ad) (.int .i64 bn) (.int .i64 bd) w') (first | (with_reducible exact hS0) | (with_reducible exact drewB (allocB hSa _)) | (refine allocB ?_ _; assumption) | (refine allocB hKS _) | (refine keepB ?_ hbS; assumption) | (refine keepB ?_ hbQ; assumption) | (refine keepB ?_ hbP; assumption) | (refine setT ?_ (setT ?_ ?_ _ _) _ _ <;> first | assumption | omega)) (first | (go_at_call 44; with_reducible refine (HH.out.p1 _).mono ?_; intro e v hh; obtain ⟨nP, P, pa, pc, rfl, EP, hbP⟩ := SgPost.open hh; clear hh; (first | ((with_reducible have hT := tb_alloc hbP hX0); have hBP := (hB1.alloc hB1.size _).trans (hbP.mono (le_alloc hB1.size))) | ((with_reducible have hT := tb_allocD hbP hX2); have hBP := (hB2.alloc hB2.size _).drew.trans (hbP.mono (le_allocD hB2.size))) | (have hBP := hB1.trans (hbP.mono hB1.size))); have hXP : W.heap.size + 3 ≤ v.heap.size := Nat.le_trans hz1 hBP.size) | (go_at_call 44; with_reducible refine (HH.out.p2 _).mono ?_; intro e v hh; obtain ⟨nQ, Q, qa, qc, rfl, EQ, hbQ⟩ := SgPost.open hh; clear hh; (first | ((with_reducible have hT2 := tb_alloc hbQ hXP); have hBQ := (hBP.alloc hBP.size _).trans (hbQ.mono (le_alloc hBP.size))) | (have hT2 := tb_keep hT hbQ; have hBQ := hBP.trans (hbQ.mono hBP.size)) | (have hBQ := hBP.trans (hbQ.mono hBP.size))); have hXQ : W.heap.size + 3 ≤ v.heap.size := Nat.le_trans hz1 hBQ.size; (first | (have NP2 := (EP.out.2.2.2.2.below ((Below.refl _ _).alloc (Nat.le_refl _) _)).below hbQ) | (have NP2 := EP.out.2.2.2.2.below hbQ)); have HS := sum_any (n := nP) (m := nQ) EP.out.2.1 EQ.out.2.1 EP.out.2.2.1 EQ.out.2.2.1 EP.out.2.2.2.1 EQ.out.2.2.2.1 NP2 EQ.out.2.2.2.2) | (go_at_call 43; (first | (with_reducible refine (HS _ (Below.refl _ _)).mono ?_) | (with_reducible refine (HS _ ((Below.refl _ _).alloc (Nat.le_refl _) _)).mono ?_)); intro e v hh; obtain ⟨nS, S, sa, sc, rfl, ES, hbS⟩ := SgPost.open hh; clear hh; have hKS : Boxes W (.int .i64 an) (.int .i64 ad) (.int .i64 bn) (.int .i64 bd) v := keepB (by assumption) hbS; (first | ((with_reducible have hT3 := tb_alloc hbS hXQ); have hBS := (hBQ.alloc hBQ.size _).trans (hbS.mono (le_alloc hBQ.size)); obtain ⟨k0, k1, k2, k3⟩ := hT3.cells) | (have hT3 := tb_keep hT2 hbS; have hBS := hBQ.trans (hbS.mono hBQ.size); obtain ⟨k0, k1, k2, k3⟩ := hT3.cells) | (have hBS := hBQ.trans (hbS.mono hBQ.size)))))
    all_goals
      have E2 : Hid (sv nS S = t ∧ Bits S ∧ Can S ∧ S.length ≤ 128 ∧ Num S v (.slice sa S.length sc)) := Lib.hid ⟨by rw [ES.out.1, EP.out.1, EQ.out.1]; exact HT.out, ES.out.2⟩
      try clear k0 k1 k2 k3
      go_wp2_with fail
      go_meet
      first
        | exact tbox_alloc hKS hBS E2
        | exact tbox_set (by first | exact hBQ.size | exact hBP.size | exact hB2.size) hT3 hKS hBS E2
  case rest =>
    obtain ⟨tb, neg, K, ka, kc, rfl, ht1, ht2, c5, c6, EK, hS1, hB1'⟩ := hcut
    have hS1c : Hid (BoxT W (.int .i64 an) (.int .i64 ad) (.int .i64 bn) (.int .i64 bd) tb (.bool neg) (.slice ka K.length kc) wc) := Lib.hid ⟨hS1, ht2, ht1, c5, c6⟩
    obtain ⟨hS2, hz2, c1, c2, c3, c4⟩ := hS1
    clear hS0 hB1 hX0
    have h0 := (vl_bd EK.out.2.1).1
    have hz := can_zero EK.out.2.1 EK.out.2.2.1
    have HV : Hid (vl K = t.natAbs) := Lib.hid (by
      have := EK.out.1
      unfold sv at this
      split at this <;> omega)
    have HZ : Hid (t = 0 ↔ K.length = 0) := Lib.hid (by
      have := HV.out
      rw [List.length_eq_zero_iff, ← hz]
      omega)
    clear h0 hz
    obtain ⟨r0, r1, r2, r3, r4, r5⟩ := HR.out.keep hB1' hz1
    have HF := Lib.hid hS2
    clear hS2
    by_cases hk : K.length = 0
    · obtain ⟨z1, z2⟩ := HRZ.out (HZ.out.2 hk)
      generalize K.length = l at *
      subst hk
      subst z1
      subst z2
      go_wp2
      exact bodyPost_ret (v := .agg #[.int .i64 0, .int .i64 1, .int .i64 0]) (by simp [results, Try.results17, go_sem, r0, r1, r2]) rfl ⟨rfl, ((HF.out.setCell (by simp; omega) _).setCell (by simp; omega) _).setCell (by simp; omega) _⟩
    · have HN0 := Lib.hid (fun h => hk (HZ.out.1 h))
      have HN := Lib.hid (HRN.out HN0.out)
      have hk' : ((K.length : Int) == 0) = false := by simpa using hk
      have HD := Lib.hid (fun w (hw : Below wc.heap.size wc w) => divide_any (A := K) (m := g) hg.1 hg.2 EK.out.2.1 (Nat.le_trans EK.out.2.2.2.1 le128) EK.out.2.2.2.2 w hw)
      have HD2 := Lib.hid (fun w (hw : Below wc.heap.size wc w) => divide_any (A := K) (m := h) hh.1 hh.2 EK.out.2.1 (Nat.le_trans EK.out.2.2.2.1 le128) EK.out.2.2.2.2 w hw)
      have HE : Hid (vl K % g = (t.natAbs : Int) % g) := Lib.hid (by rw [HV.out])
      clear hk
      go_wp2_with fail
      refine (HD.out _ (Below.refl _ _)).mono ?_
      intro e w3 hh
      obtain ⟨D, da, dc, rfl, ED, hbD⟩ := DPost.open hh
      rw [HE.out]
      clear hh
      have hBc : Below wc.heap.size wc w3 := hbD
      have hB3 := hB1'.trans (hbD.mono hB1'.size)
      have f1 := fld1 da D.length dc ((t.natAbs : Int) % g)
      go_wp2_with fail
      refine (HH.out.g2 _).mono ?_
      rintro e w4 ⟨rfl, hb4⟩
      have hBc4 : Below wc.heap.size wc w4.drew := (hBc.trans (hb4.mono hBc.size)).drew
      have hB4 := (hB3.trans (hb4.mono hB3.size)).drew
      have hS4 := drewBT (keepBT (keepBT hS1c.out hbD) hb4)
      clear hb4 hbD hBc hB3 f1 c1 c2 c3 c4 c5 c6 r0 r1 r2 r3 r4 r5
      have f0 := fld0
      go_wp2_with fail
      have w2q := W2.out
      have w3q := W3q.out
      go_region_held3 (fun w' => BoxT W (.int .i64 an) (.int .i64 ad) (.int .i64 bn) (.int .i64 bd) tb (.bool neg) (.slice ka K.length kc) w') (first | (with_reducible exact hS4) | (refine keepBT ?_ hbM; assumption) | (refine keepBT ?_ hbT; assumption) | (refine keepBT ?_ hbY; assumption) | (refine keepBT ?_ hbX; assumption) | (refine keepBT ?_ hbQ; assumption) | (refine setBT (setBT (setBT ?_ _ _) _ _) _ _; assumption)) (first | (go_at_call 45; with_reducible refine (HD2.out _ hBc4).mono ?_; intro e v hh; obtain ⟨Q, qa, qc, rfl, EQ, hbQ⟩ := DPost.open hh; have hBQ := hB4.trans (hbQ.mono hB4.size); clear hh) | (go_at_call 48; with_reducible refine (HH.out.b1 _).mono ?_; intro e v hh; obtain ⟨X, xa, xc, rfl, EX, hbX⟩ := BPost.open hh; have hBX := hBQ.trans (hbX.mono hBQ.size); clear hh) | (go_at_call 48; with_reducible refine (HH.out.b2 _).mono ?_; intro e v hh; obtain ⟨Y, ya, yc, rfl, EY, hbY⟩ := BPost.open hh; have hBY := hBX.trans (hbY.mono hBX.size); clear hh) | (go_at_call 47; with_reducible refine (times_any EX.out.2.1 EY.out.2.1 EX.out.2.2.2.1 EY.out.2.2.2.1 (EX.out.2.2.2.2.below hbY) EY.out.2.2.2.2).mono ?_; intro e v hh; obtain ⟨T, ta, tc, rfl, ET, hbT⟩ := CPost.open hh; have hBT := hBY.trans (hbT.mono hBY.size); clear hh) | (go_at_call 46; have hX := made_r (n := neg) EQ.out.2.1 ET.out.2.1 (Nat.le_trans EQ.out.2.2.2.1 (Nat.le_trans EK.out.2.2.2.1 le128)) (Nat.le_trans ET.out.2.2.2.1 le127) (((EQ.out.2.2.2.2.below hbX).below hbY).below hbT) ET.out.2.2.2.2; rw [sv_div EK.out.1 HV.out EQ.out.1 HN0.out, ET.out.1, EX.out.1, EY.out.1, ← HN.out.1, ← HN.out.2] at hX; refine hX.mono ?_; intro e v hh; have he := hh.1; have hbM := hh.2; clear hh hX; subst he; have hBM := hBT.trans (hbM.mono hBT.size); have r0 := (HR.out.keep hBM hz1).1; have r1 := (HR.out.keep hBM hz1).2.1; have r2 := (HR.out.keep hBM hz1).2.2.1; have r3 := (HR.out.keep hBM hz1).2.2.2.1; have r4 := (HR.out.keep hBM hz1).2.2.2.2.1; have r5 := (HR.out.keep hBM hz1).2.2.2.2.2))
      rename_i hHeld
      have HFF := Lib.hid hHeld.1.1
      clear hHeld
      go_wp2
      exact bodyPost_ret (v := .agg #[.int .i64 (rsN rn rd), .int .i64 (rsD rn rd), .int .i64 (rsE rn rd)]) (by simp [results, Try.results17, go_sem, r0, r1, r2]) rfl ⟨rfl, HFF.out⟩
end Go.Proofs.Ytieabeodommbiaa
