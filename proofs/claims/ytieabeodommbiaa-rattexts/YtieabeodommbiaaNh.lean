/- Numbers as lists of bits: products with signs. -/
import Derived.Test.YtieabeodommbiaaNf
import Derived.Deep.RegionWith
import Derived.Deep.RegionHeld3
namespace Go.Proofs.Ytieabeodommbiaa
open Go.RowKit
set_option maxRecDepth 100000
set_option linter.unusedVariables false

def ab (n : Int) : Int := if n < 0 then -n else n
theorem ab_bd {n : Int} (h0 : -4611686018427387904 ≤ n) (h1 : n ≤ 4611686018427387904) : 0 ≤ ab n ∧ ab n ≤ 4611686018427387904 := by unfold ab; split <;> omega
theorem nsize_c (n : Int) (h0 : -4611686018427387904 ≤ n) (h1 : n ≤ 4611686018427387904) (W : World) : Calls Try.prog 40 #[.int .i64 n] W fun e W' => e = .returned (.int .i64 (ab n)) ∧ Below W.heap.size W W' := by
  by_cases h : n < 0
  · rw [show ab n = -n from if_pos h]
    go_enter Try.func40, Try.ntmps40
    go_wp2
    go_ret
    exact ⟨rfl, Below.refl _ _⟩
  · rw [show ab n = n from if_neg h]
    go_enter Try.func40, Try.ntmps40
    go_wp2
    go_ret
    exact ⟨rfl, Below.refl _ _⟩
/-- a list's value with a sign -/
def sv (neg : Bool) (L : List Int) : Int := if neg then -vl L else vl L
theorem sv_mul {a b : Int} {K : List Int} (h : vl K = ab a * ab b) : sv (!(decide (a < 0) == decide (b < 0))) K = a * b := by
  unfold sv
  rw [h]
  unfold ab
  by_cases ha : a < 0 <;> by_cases hb : b < 0 <;> simp [ha, hb, Int.neg_mul, Int.mul_neg]
/-- a store into a block in which no numbers stand -/
theorem Num.store {L : List Int} {w : World} {v x y : Value} {c : Nat} {p : Bool} {s : Value} {ty : TypeId} {fz : Nat × Nat} (h : Num L w v) (hs : ∀ k n, s ≠ .int k n) (hc : w.heap[c]? = some (.cells #[.bool p, s] ty fz)) : Num L ((w.setCell ⟨c, 0, none⟩ x).setCell ⟨c, 1, none⟩ y) v := by
  rcases h with h | ⟨b, off, cap, h0, h1, h2, h3⟩
  · exact .inl h
  · refine .inr ⟨b, off, cap, h0, h1, by simpa using h2, fun t ht => ?_⟩
    have hne : b ≠ c := by
      rintro rfl
      have := h3 t ht
      simp only [World.cell?, hc] at this
      match hk : off + t, this with
      | 0, this => simp at this
      | 1, this => simp at this; exact hs _ _ this
      | n + 2, this => simp at this
    rw [World.cell?_of_block (w := w) (by rw [Below.heap_setCell _ _ _ _ (by exact hne), Below.heap_setCell _ _ _ _ (by exact hne)])]
    exact h3 t ht
def SgPost (n : Int) (l : Nat) (w : World) (e : Ending) (w' : World) : Prop := ∃ neg K v, e = .returned (.agg #[.bool neg, v]) ∧ sv neg K = n ∧ Bits K ∧ Can K ∧ K.length ≤ l ∧ Num K w' v ∧ Below w.heap.size w w'
theorem times_any {A B : List Int} {va vb : Value} {W : World} (hA : Bits A) (hB : Bits B) (ha : A.length ≤ 63) (hb : B.length ≤ 63) (na : Num A W va) (nb : Num B W vb) :
    Calls Try.prog 47 #[va, vb] W (CPost (vl A * vl B) 127 W) := by
  obtain ⟨aa, ca, rfl⟩ := na.shape
  obtain ⟨ab, cb, rfl⟩ := nb.shape
  refine (times_c hA hB (by omega) (by omega) rfl rfl na nb).mono ?_
  rintro e w ⟨K, h1, h2, h3, h4, h5⟩
  exact ⟨K, h1, h2, h3, by omega, h5⟩
set_option maxHeartbeats 3200000 in
theorem nproduct_c (a b : Int) (a0 : -4611686018427387904 ≤ a) (a1 : a ≤ 4611686018427387904) (b0 : -4611686018427387904 ≤ b) (b1 : b ≤ 4611686018427387904) (W : World) : Calls Try.prog 44 #[.int .i64 a, .int .i64 b] W (SgPost (a * b) 127 W) := by
  have SA := Lib.hid (nsize_c a a0 a1)
  have SB := Lib.hid (nsize_c b b0 b1)
  have BA := Lib.hid (bits_c (ab a) (ab_bd a0 a1).1 (by have := (ab_bd a0 a1).2; omega))
  have BB := Lib.hid (bits_c (ab b) (ab_bd b0 b1).1 (by have := (ab_bd b0 b1).2; omega))
  have HM := Lib.hid (fun K => sv_mul (a := a) (b := b) (K := K))
  generalize ab a = x at *
  generalize ab b = y at *
  go_enter Try.func44, Try.ntmps44
  go_wp2_with fail
  refine (SA.out _).mono ?_
  rintro e w1 ⟨rfl, hb1⟩
  have h1 : Below (W.heap.size + 1) (W.alloc (.cells #[.bool false, .slice none 0 0] 56)) w1 := by simpa using hb1
  clear hb1
  go_wp2_with fail
  refine (BA.out _).mono ?_
  rintro e w2 ⟨A, m1, m2, m3, m4, v, rfl, m5, m6⟩
  have h2 := h1.trans (m6.mono (by have := h1.size; simp at this; omega))
  have M1 := Lib.hid m1
  have M2 := Lib.hid m2
  have M5 := Lib.hid m5
  clear m1 m2 m3 m5 m6 h1
  go_wp2_with fail
  refine (SB.out _).mono ?_
  rintro e w3 ⟨rfl, hb3⟩
  have h3 := h2.trans (hb3.mono (by have := h2.size; simp at this; omega))
  have M6 := Lib.hid (M5.out.below hb3)
  clear hb3 h2 M5
  go_wp2_with fail
  refine (BB.out _).mono ?_
  rintro e w4 ⟨B, m1, m2, m3, m4', v', rfl, m5, m6⟩
  have h4 := h3.trans (m6.mono (by have := h3.size; simp at this; omega))
  have N1 := Lib.hid m1
  have N2 := Lib.hid m2
  have N5 := Lib.hid m5
  have M7 := Lib.hid (M6.out.below m6)
  clear m1 m2 m3 m5 m6 h3 M6
  go_wp2_with fail
  refine (times_any M2.out N2.out m4 m4' M7.out N5.out).mono ?_
  rintro e w5 ⟨K, e1, e2, e3, e4, v5, rfl, e6, e7⟩
  have h5 := h4.trans (e7.mono (by have := h4.size; simp at this; omega))
  have q0 : w5.cell? ⟨W.heap.size, 0, none⟩ = some (.bool false) := by rw [h5.cell (by simp)]; simp
  have q1 : w5.cell? ⟨W.heap.size, 1, none⟩ = some (.slice none 0 0) := by rw [h5.cell (by simp)]; simp
  have p0 : w5.frozen? ⟨W.heap.size, 0, none⟩ = false := by rw [h5.frozen (by simp)]; exact World.frozen?_alloc_at _ _ _ _ (by simp)
  have p1 : w5.frozen? ⟨W.heap.size, 1, none⟩ = false := by rw [h5.frozen (by simp)]; exact World.frozen?_alloc_at _ _ _ _ (by simp)
  have hblk : w5.heap[W.heap.size]? = some (.cells #[.bool false, .slice none 0 0] 56 (0, 0)) := by rw [h5.block _ (Nat.lt_succ_self _)]; exact Array.getElem?_push_size
  have E1 := Lib.hid (HM.out K (by rw [e1, M1.out, N1.out]))
  have E2 := Lib.hid e2
  have E3 := Lib.hid e3
  have E6 := Lib.hid (fun x y => e6.store (x := x) (y := y) (fun _ _ => by simp) hblk)
  have HBE : Hid (Below W.heap.size W w5) := Lib.hid (((Below.refl _ _).alloc (Nat.le_refl _) _).trans (h5.mono (by omega)))
  obtain ⟨a5, c5, rfl⟩ := e6.shape
  clear e1 e2 e3 e6 e7 h4 h5 hblk
  go_wp2
  exact bodyPost_ret (v := .agg #[.bool (!(decide (a < 0) == decide (b < 0))), .slice a5 K.length c5]) (by simp [results, Try.results44, go_sem, q0, q1]) rfl
    ⟨_, K, _, rfl, E1.out, E2.out, E3.out, e4, E6.out _ _, (HBE.out.setCell (Nat.le_refl _) _).setCell (Nat.le_refl _) _⟩
end Go.Proofs.Ytieabeodommbiaa

/- Numbers as lists of bits: sums with signs. -/
namespace Go.Proofs.Ytieabeodommbiaa
open Go.RowKit
set_option maxRecDepth 100000
set_option linter.unusedVariables false

theorem sv_add {n : Bool} {A B K : List Int} (h : vl K = vl A + vl B) : sv n K = sv n A + sv n B := by
  unfold sv
  cases n <;> simp <;> omega
theorem CPost.open {n : Int} {l : Nat} {w w' : World} {e : Ending} (h : CPost n l w e w') : ∃ K a c, e = .returned (.slice a (List.length K) c) ∧ Hid (vl K = n ∧ Bits K ∧ Can K ∧ K.length ≤ l ∧ Num K w' (.slice a K.length c)) ∧ Below w.heap.size w w' := by
  obtain ⟨K, h1, h2, h3, h4, v, h5, h6, h7⟩ := h
  obtain ⟨a, c, rfl⟩ := h6.shape
  exact ⟨K, a, c, h5, ⟨h1, h2, h3, h4, h6⟩, h7⟩
abbrev Box3 (w1 : World) (B : Nat) (x0 x1 x2 y0 y1 : Value) (w : World) : Prop := Below w1.heap.size w1 w ∧ w.cell? ⟨B, 0, none⟩ = some x0 ∧ w.cell? ⟨B, 1, none⟩ = some x1 ∧ w.cell? ⟨B + 1, 1, none⟩ = some x2 ∧ w.cell? ⟨B + 1 + 1, 0, none⟩ = some y0 ∧ w.cell? ⟨B + 1 + 1, 1, none⟩ = some y1 ∧ w.frozen? ⟨B + 1 + 1, 0, none⟩ = false ∧ w.frozen? ⟨B + 1 + 1, 1, none⟩ = false
theorem keepBox {w1 w w' : World} {B : Nat} {x0 x1 x2 y0 y1 : Value} (h : Box3 w1 B x0 x1 x2 y0 y1 w) (hb : Below w.heap.size w w') (hB : B + 2 < w1.heap.size) : Box3 w1 B x0 x1 x2 y0 y1 w' := by
  obtain ⟨h1, h2, h3, h4, h5, h6, h7, h8⟩ := h
  have hs := h1.size
  refine ⟨h1.trans (hb.mono hs), ?_⟩
  rw [hb.cell (p := ⟨B, 0, none⟩) (by simp; omega), hb.cell (p := ⟨B, 1, none⟩) (by simp; omega), hb.cell (p := ⟨B + 1, 1, none⟩) (by simp; omega), hb.cell (p := ⟨B + 1 + 1, 0, none⟩) (by simp; omega), hb.cell (p := ⟨B + 1 + 1, 1, none⟩) (by simp; omega), hb.frozen (p := ⟨B + 1 + 1, 0, none⟩) (by simp; omega), hb.frozen (p := ⟨B + 1 + 1, 1, none⟩) (by simp; omega)]
  exact ⟨h2, h3, h4, h5, h6, h7, h8⟩
set_option maxHeartbeats 3200000 in
theorem sum_same (n : Bool) {A B : List Int} {la lb ca cb : Nat} {aa ab : Option Addr} {W : World}
    (hP : ∀ w : World, Below W.heap.size W w → Calls Try.prog 67 #[.slice aa la ca, .slice ab lb cb] w (CPost (vl A + vl B) (max A.length B.length + 1) w)) :
    Calls Try.prog 43 #[.agg #[.bool n, .slice aa la ca], .agg #[.bool n, .slice ab lb cb]] W (SgPost (sv n A + sv n B) (max A.length B.length + 1) W) := by
  have HP := Lib.hid hP
  clear hP
  go_enter Try.func43, Try.ntmps43
  go_wp2_with fail
  have hbox : Box3 (((W.alloc (.cells #[.bool n, .slice aa la ca] 56)).alloc (.cells #[.bool n, .slice ab lb cb] 56)).alloc (.cells #[.bool false, .slice none 0 0] 56)) W.heap.size (.bool n) (.slice aa la ca) (.slice ab lb cb) (.bool false) (.slice none 0 0) (((W.alloc (.cells #[.bool n, .slice aa la ca] 56)).alloc (.cells #[.bool n, .slice ab lb cb] 56)).alloc (.cells #[.bool false, .slice none 0 0] 56)) := by
    refine ⟨Below.refl _ _, ?_, ?_, ?_, ?_, ?_, ?_, ?_⟩
    · rw [World.cell?_alloc_past _ _ _ (by simp; omega), World.cell?_alloc_past _ _ _ (by simp)]; exact World.cell?_alloc_at _ _ _ _ rfl
    · rw [World.cell?_alloc_past _ _ _ (by simp; omega), World.cell?_alloc_past _ _ _ (by simp)]; exact World.cell?_alloc_at _ _ _ _ rfl
    · rw [World.cell?_alloc_past _ _ _ (by simp)]; exact World.cell?_alloc_at _ _ _ _ (by simp)
    · exact World.cell?_alloc_at _ _ _ _ (by simp)
    · exact World.cell?_alloc_at _ _ _ _ (by simp)
    all_goals exact World.frozen?_alloc_at _ _ _ _ (by simp)
  have hblk : (((W.alloc (.cells #[.bool n, .slice aa la ca] 56)).alloc (.cells #[.bool n, .slice ab lb cb] 56)).alloc (.cells #[.bool false, .slice none 0 0] 56)).heap[W.heap.size + 1 + 1]? = some (.cells #[.bool false, .slice none 0 0] 56 (0, 0)) := by
    have := Array.getElem?_push_size (xs := ((W.alloc (.cells #[.bool n, .slice aa la ca] 56)).alloc (.cells #[.bool n, .slice ab lb cb] 56)).heap) (x := Obj.cells #[.bool false, .slice none 0 0] 56 (0, 0))
    have e : ((W.alloc (.cells #[.bool n, .slice aa la ca] 56)).alloc (.cells #[.bool n, .slice ab lb cb] 56)).heap.size = W.heap.size + 1 + 1 := by simp
    rw [e] at this
    exact this
  have hbw : Below W.heap.size W (((W.alloc (.cells #[.bool n, .slice aa la ca] 56)).alloc (.cells #[.bool n, .slice ab lb cb] 56)).alloc (.cells #[.bool false, .slice none 0 0] 56)) := (((Below.refl _ _).alloc (Nat.le_refl _) _).alloc (by simp) _).alloc (by simp; omega) _
  have hz : W.heap.size + 2 < (((W.alloc (.cells #[.bool n, .slice aa la ca] 56)).alloc (.cells #[.bool n, .slice ab lb cb] 56)).alloc (.cells #[.bool false, .slice none 0 0] 56)).heap.size := by simp
  generalize (((W.alloc (.cells #[.bool n, .slice aa la ca] 56)).alloc (.cells #[.bool n, .slice ab lb cb] 56)).alloc (.cells #[.bool false, .slice none 0 0] 56)) = w1 at *
  have HBK := Lib.hid hblk
  have HBW := Lib.hid hbw
  have hS0 : Box3 w1 W.heap.size (.bool n) (.slice aa la ca) (.slice ab lb cb) (.bool false) (.slice none 0 0) w1.drew := ⟨hbox.1.drew, hbox.2⟩
  have HBS : Hid (∀ w, Box3 w1 W.heap.size (.bool n) (.slice aa la ca) (.slice ab lb cb) (.bool false) (.slice none 0 0) w → Below W.heap.size W w) := Lib.hid fun w h => HBW.out.trans (h.1.mono HBW.out.size)
  have hbox0 := hbox
  have HBD : Hid (∀ w, Below w1.heap.size w1 w → Below W.heap.size W w) := Lib.hid fun w h => HBW.out.trans (h.mono HBW.out.size)
  have HKB : Hid (∀ w w', Below w1.heap.size w1 w → Below w.heap.size w w' → Box3 w1 W.heap.size (.bool n) (.slice aa la ca) (.slice ab lb cb) (.bool false) (.slice none 0 0) w') := Lib.hid fun w w' h h' => keepBox (w := w) (by
    obtain ⟨h1, h2, h3, h4, h5, h6, h7, h8⟩ := hbox
    refine ⟨h, ?_⟩
    rw [h.cell (p := ⟨W.heap.size, 0, none⟩) (by simp; omega), h.cell (p := ⟨W.heap.size, 1, none⟩) (by simp; omega), h.cell (p := ⟨W.heap.size + 1, 1, none⟩) (by simp; omega), h.cell (p := ⟨W.heap.size + 1 + 1, 0, none⟩) (by simp; omega), h.cell (p := ⟨W.heap.size + 1 + 1, 1, none⟩) (by simp; omega), h.frozen (p := ⟨W.heap.size + 1 + 1, 0, none⟩) (by simp; omega), h.frozen (p := ⟨W.heap.size + 1 + 1, 1, none⟩) (by simp; omega)]
    exact ⟨h2, h3, h4, h5, h6, h7, h8⟩) h' hz
  have hb0 : Below w1.heap.size w1 w1.drew := (Below.refl _ _).drew
  clear hblk hbw hbox hS0 HBS
  obtain ⟨_, x0, x1, x2, x3, x4, x5, x6⟩ := hbox0
  go_region_with (go_at_call 67; refine (HP.out _ (HBD.out _ (by assumption))).mono ?_; intro e w2 hh; obtain ⟨K, a, c, rfl, e1, hb3⟩ := CPost.open hh; obtain ⟨HB2, y0, y1, y2, y3, y4, y5, y6⟩ := HKB.out _ _ (by assumption) hb3)
  all_goals
    have HNS := Lib.hid (fun x y => e1.out.2.2.2.2.store (x := x) (y := y) (fun _ _ => by simp) ((HB2.block _ (by omega)).trans HBK.out))
    have HBF : Hid (Below W.heap.size W w2) := Lib.hid (HBD.out _ HB2)
    clear hh hb3
    go_wp2
    exact bodyPost_ret (v := .agg #[.bool n, .slice a K.length c]) (by simp [results, Try.results43, go_sem, y3, y4]) rfl
      ⟨n, K, _, rfl, sv_add e1.out.1, e1.out.2.1, e1.out.2.2.1, e1.out.2.2.2.1, HNS.out _ _, (HBF.out.setCell (by simp; omega) _).setCell (by simp; omega) _⟩
end Go.Proofs.Ytieabeodommbiaa
