/- Numbers as lists of bits: sums with signs. -/
import Derived.Test.YtieabeodommbiaaNg
import Derived.Deep.RegionWith
import Derived.Deep.RegionHeld3
namespace Go.Proofs.Ytieabeodommbiaa
open Go.RowKit
set_option maxRecDepth 100000
set_option linter.unusedVariables false

theorem sv_add {n : Bool} {A B K : List Int} (h : vl K = vl A + vl B) : sv n K = sv n A + sv n B := by
  unfold sv
  cases n <;> simp <;> omega
theorem CPost.open {n : Int} {l : Nat} {w w' : World} {e : Ending} (h : CPost n l w e w') : ∃ K a c, e = .returned (.slice a (List.length K) c) ∧ Hid (vl K = n ∧ Bits K ∧ Can K ∧ K.length ≤ l ∧ Num K w' (.slice a K.length c)) ∧ Below w.heap.size w w' := by
  obtain ⟨K, h1, h2, h3, h4, v, h5, h6, h7⟩ := h
  obtain ⟨a, c, rfl⟩ := h6.shape
  exact ⟨K, a, c, h5, ⟨h1, h2, h3, h4, h6⟩, h7⟩
abbrev Box3 (w1 : World) (B : Nat) (x0 x1 x2 y0 y1 : Value) (w : World) : Prop := Below w1.heap.size w1 w ∧ w.cell? ⟨B, 0, none⟩ = some x0 ∧ w.cell? ⟨B, 1, none⟩ = some x1 ∧ w.cell? ⟨B + 1, 1, none⟩ = some x2 ∧ w.cell? ⟨B + 1 + 1, 0, none⟩ = some y0 ∧ w.cell? ⟨B + 1 + 1, 1, none⟩ = some y1 ∧ w.frozen? ⟨B + 1 + 1, 0, none⟩ = false ∧ w.frozen? ⟨B + 1 + 1, 1, none⟩ = false
theorem keepBox {w1 w w' : World} {B : Nat} {x0 x1 x2 y0 y1 : Value} (h : Box3 w1 B x0 x1 x2 y0 y1 w) (hb : Below w.heap.size w w') (hB : B + 2 < w1.heap.size) : Box3 w1 B x0 x1 x2 y0 y1 w' := by
  obtain ⟨h1, h2, h3, h4, h5, h6, h7, h8⟩ := h
  have hs := h1.size
  refine ⟨h1.trans (hb.mono hs), ?_⟩
  rw [hb.cell (p := ⟨B, 0, none⟩) (by simp; omega), hb.cell (p := ⟨B, 1, none⟩) (by simp; omega), hb.cell (p := ⟨B + 1, 1, none⟩) (by simp; omega), hb.cell (p := ⟨B + 1 + 1, 0, none⟩) (by simp; omega), hb.cell (p := ⟨B + 1 + 1, 1, none⟩) (by simp; omega), hb.frozen (p := ⟨B + 1 + 1, 0, none⟩) (by simp; omega), hb.frozen (p := ⟨B + 1 + 1, 1, none⟩) (by simp; omega)]
  exact ⟨h2, h3, h4, h5, h6, h7, h8⟩
set_option maxHeartbeats 3200000 in
theorem sum_same (n : Bool) {A B : List Int} {la lb ca cb : Nat} {aa ab : Option Addr} {W : World}
    (hP : ∀ w : World, Below W.heap.size W w → Calls Try.prog 67 #[.slice aa la ca, .slice ab lb cb] w (CPost (vl A + vl B) (max A.length B.length + 1) w)) :
    Calls Try.prog 43 #[.agg #[.bool n, .slice aa la ca], .agg #[.bool n, .slice ab lb cb]] W (SgPost (sv n A + sv n B) (max A.length B.length + 1) W) := by
  have HP := Lib.hid hP
  clear hP
  go_enter Try.func43, Try.ntmps43
  go_wp2_with fail
  have hbox : Box3 (((W.alloc (.cells #[.bool n, .slice aa la ca] 56)).alloc (.cells #[.bool n, .slice ab lb cb] 56)).alloc (.cells #[.bool false, .slice none 0 0] 56)) W.heap.size (.bool n) (.slice aa la ca) (.slice ab lb cb) (.bool false) (.slice none 0 0) (((W.alloc (.cells #[.bool n, .slice aa la ca] 56)).alloc (.cells #[.bool n, .slice ab lb cb] 56)).alloc (.cells #[.bool false, .slice none 0 0] 56)) := by
    refine ⟨Below.refl _ _, ?_, ?_, ?_, ?_, ?_, ?_, ?_⟩
    · rw [World.cell?_alloc_past _ _ _ (by simp; omega), World.cell?_alloc_past _ _ _ (by simp)]; exact World.cell?_alloc_at _ _ _ _ rfl
    · rw [World.cell?_alloc_past _ _ _ (by simp; omega), World.cell?_alloc_past _ _ _ (by simp)]; exact World.cell?_alloc_at _ _ _ _ rfl
    · rw [World.cell?_alloc_past _ _ _ (by simp)]; exact World.cell?_alloc_at _ _ _ _ (by simp)
    · exact World.cell?_alloc_at _ _ _ _ (by simp)
    · exact World.cell?_alloc_at _ _ _ _ (by simp)
    all_goals exact World.frozen?_alloc_at _ _ _ _ (by simp)
  have hblk : (((W.alloc (.cells #[.bool n, .slice aa la ca] 56)).alloc (.cells #[.bool n, .slice ab lb cb] 56)).alloc (.cells #[.bool false, .slice none 0 0] 56)).heap[W.heap.size + 1 + 1]? = some (.cells #[.bool false, .slice none 0 0] 56 (0, 0)) := by
    have := Array.getElem?_push_size (xs := ((W.alloc (.cells #[.bool n, .slice aa la ca] 56)).alloc (.cells #[.bool n, .slice ab lb cb] 56)).heap) (x := Obj.cells #[.bool false, .slice none 0 0] 56 (0, 0))
    have e : ((W.alloc (.cells #[.bool n, .slice aa la ca] 56)).alloc (.cells #[.bool n, .slice ab lb cb] 56)).heap.size = W.heap.size + 1 + 1 := by simp
    rw [e] at this
    exact this
  have hbw : Below W.heap.size W (((W.alloc (.cells #[.bool n, .slice aa la ca] 56)).alloc (.cells #[.bool n, .slice ab lb cb] 56)).alloc (.cells #[.bool false, .slice none 0 0] 56)) := (((Below.refl _ _).alloc (Nat.le_refl _) _).alloc (by simp) _).alloc (by simp; omega) _
  have hz : W.heap.size + 2 < (((W.alloc (.cells #[.bool n, .slice aa la ca] 56)).alloc (.cells #[.bool n, .slice ab lb cb] 56)).alloc (.cells #[.bool false, .slice none 0 0] 56)).heap.size := by simp
  generalize (((W.alloc (.cells #[.bool n, .slice aa la ca] 56)).alloc (.cells #[.bool n, .slice ab lb cb] 56)).alloc (.cells #[.bool false, .slice none 0 0] 56)) = w1 at *
  have HBK := Lib.hid hblk
  have HBW := Lib.hid hbw
  have hS0 : Box3 w1 W.heap.size (.bool n) (.slice aa la ca) (.slice ab lb cb) (.bool false) (.slice none 0 0) w1.drew := ⟨hbox.1.drew, hbox.2⟩
  have HBS : Hid (∀ w, Box3 w1 W.heap.size (.bool n) (.slice aa la ca) (.slice ab lb cb) (.bool false) (.slice none 0 0) w → Below W.heap.size W w) := Lib.hid fun w h => HBW.out.trans (h.1.mono HBW.out.size)
  have hbox0 := hbox
  have HBD : Hid (∀ w, Below w1.heap.size w1 w → Below W.heap.size W w) := Lib.hid fun w h => HBW.out.trans (h.mono HBW.out.size)
  have HKB : Hid (∀ w w', Below w1.heap.size w1 w → Below w.heap.size w w' → Box3 w1 W.heap.size (.bool n) (.slice aa la ca) (.slice ab lb cb) (.bool false) (.slice none 0 0) w') := Lib.hid fun w w' h h' => keepBox (w := w) (by
    obtain ⟨h1, h2, h3, h4, h5, h6, h7, h8⟩ := hbox
    refine ⟨h, ?_⟩
    rw [h.cell (p := ⟨W.heap.size, 0, none⟩) (by simp; omega), h.cell (p := ⟨W.heap.size, 1, none⟩) (by simp; omega), h.cell (p := ⟨W.heap.size + 1, 1, none⟩) (by simp; omega), h.cell (p := ⟨W.heap.size + 1 + 1, 0, none⟩) (by simp; omega), h.cell (p := ⟨W.heap.size + 1 + 1, 1, none⟩) (by simp; omega), h.frozen (p := ⟨W.heap.size + 1 + 1, 0, none⟩) (by simp; omega), h.frozen (p := ⟨W.heap.size + 1 + 1, 1, none⟩) (by simp; omega)]
    exact ⟨h2, h3, h4, h5, h6, h7, h8⟩) h' hz
  have hb0 : Below w1.heap.size w1 w1.drew := (Below.refl _ _).drew
  clear hblk hbw hbox hS0 HBS
  obtain ⟨_, x0, x1, x2, x3, x4, x5, x6⟩ := hbox0
  go_region_with (go_at_call 67; refine (HP.out _ (HBD.out _ (by assumption))).mono ?_; intro e w2 hh; obtain ⟨K, a, c, rfl, e1, hb3⟩ := CPost.open hh; obtain ⟨HB2, y0, y1, y2, y3, y4, y5, y6⟩ := HKB.out _ _ (by assumption) hb3)
  all_goals
    have HNS := Lib.hid (fun x y => e1.out.2.2.2.2.store (x := x) (y := y) (fun _ _ => by simp) ((HB2.block _ (by omega)).trans HBK.out))
    have HBF : Hid (Below W.heap.size W w2) := Lib.hid (HBD.out _ HB2)
    clear hh hb3
    go_wp2
    exact bodyPost_ret (v := .agg #[.bool n, .slice a K.length c]) (by simp [results, Try.results43, go_sem, y3, y4]) rfl
      ⟨n, K, _, rfl, sv_add e1.out.1, e1.out.2.1, e1.out.2.2.1, e1.out.2.2.2.1, HNS.out _ _, (HBF.out.setCell (by simp; omega) _).setCell (by simp; omega) _⟩
end Go.Proofs.Ytieabeodommbiaa
