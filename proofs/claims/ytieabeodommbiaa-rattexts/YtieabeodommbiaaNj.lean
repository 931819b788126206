/- Numbers as lists of bits: sums of two of different signs. -/
import Derived.Test.YtieabeodommbiaaNh
namespace Go.Proofs.Ytieabeodommbiaa
open Go.RowKit
set_option maxRecDepth 100000
set_option linter.unusedVariables false

theorem sv_ge {n : Bool} {A B K : List Int} (h : vl K = vl A - vl B) : sv n K = sv n A + sv (!n) B := by
  unfold sv
  cases n <;> simp <;> omega
theorem sv_lt {n : Bool} {A B K : List Int} (h : vl K = vl B - vl A) : sv (!n) K = sv n A + sv (!n) B := by
  unfold sv
  cases n <;> simp <;> omega
theorem OrdPost.open {a b : Int} {w w' : World} {e : Ending} (h : OrdPost a b w e w') : ∃ d : Int, e = .returned (.int .i64 d) ∧ Hid ((0 < d ↔ b < a) ∧ (d < 0 ↔ a < b)) ∧ Below w.heap.size w w' := by
  obtain ⟨d, h1, h2, h3, h4⟩ := h
  exact ⟨d, h1, ⟨h2, h3⟩, h4⟩
set_option maxHeartbeats 6400000 in
theorem sum_lt (n : Bool) {A B : List Int} {la lb ca cb : Nat} {aa ab : Option Addr} {W : World} (hle : vl A < vl B)
    (hC : ∀ w : World, Below W.heap.size W w → Calls Try.prog 68 #[.slice aa la ca, .slice ab lb cb] w (OrdPost (vl A) (vl B) w))
    (hP : ∀ w : World, Below W.heap.size W w → Calls Try.prog 69 #[.slice ab lb cb, .slice aa la ca] w (CPost (vl B - vl A) B.length w)) :
    Calls Try.prog 43 #[.agg #[.bool n, .slice aa la ca], .agg #[.bool (!n), .slice ab lb cb]] W (SgPost (sv n A + sv (!n) B) B.length W) := by
  have HP := Lib.hid hP
  have HC := Lib.hid hC
  have HLE := Lib.hid hle
  have HSV := Lib.hid (fun K h => sv_lt (n := n) (A := A) (B := B) (K := K) h)
  clear hP hC hle
  generalize hm : (!n) = m at *
  have hnm : (n == m) = false := by subst hm; cases n <;> rfl
  have hnm2 : decide (n = m) = false := by subst hm; cases n <;> rfl
  clear hm
  go_enter Try.func43, Try.ntmps43
  go_wp2_with fail
  have hbox : Box3 (((W.alloc (.cells #[.bool n, .slice aa la ca] 56)).alloc (.cells #[.bool m, .slice ab lb cb] 56)).alloc (.cells #[.bool false, .slice none 0 0] 56)) W.heap.size (.bool n) (.slice aa la ca) (.slice ab lb cb) (.bool false) (.slice none 0 0) (((W.alloc (.cells #[.bool n, .slice aa la ca] 56)).alloc (.cells #[.bool m, .slice ab lb cb] 56)).alloc (.cells #[.bool false, .slice none 0 0] 56)) := by
    refine ⟨Below.refl _ _, ?_, ?_, ?_, ?_, ?_, ?_, ?_⟩
    · rw [World.cell?_alloc_past _ _ _ (by simp; omega), World.cell?_alloc_past _ _ _ (by simp)]; exact World.cell?_alloc_at _ _ _ _ rfl
    · rw [World.cell?_alloc_past _ _ _ (by simp; omega), World.cell?_alloc_past _ _ _ (by simp)]; exact World.cell?_alloc_at _ _ _ _ rfl
    · rw [World.cell?_alloc_past _ _ _ (by simp)]; exact World.cell?_alloc_at _ _ _ _ (by simp)
    · exact World.cell?_alloc_at _ _ _ _ (by simp)
    · exact World.cell?_alloc_at _ _ _ _ (by simp)
    all_goals exact World.frozen?_alloc_at _ _ _ _ (by simp)
  have hblk : (((W.alloc (.cells #[.bool n, .slice aa la ca] 56)).alloc (.cells #[.bool m, .slice ab lb cb] 56)).alloc (.cells #[.bool false, .slice none 0 0] 56)).heap[W.heap.size + 1 + 1]? = some (.cells #[.bool false, .slice none 0 0] 56 (0, 0)) := by
    have := Array.getElem?_push_size (xs := ((W.alloc (.cells #[.bool n, .slice aa la ca] 56)).alloc (.cells #[.bool m, .slice ab lb cb] 56)).heap) (x := Obj.cells #[.bool false, .slice none 0 0] 56 (0, 0))
    have e : ((W.alloc (.cells #[.bool n, .slice aa la ca] 56)).alloc (.cells #[.bool m, .slice ab lb cb] 56)).heap.size = W.heap.size + 1 + 1 := by simp
    rw [e] at this
    exact this
  have hbw : Below W.heap.size W (((W.alloc (.cells #[.bool n, .slice aa la ca] 56)).alloc (.cells #[.bool m, .slice ab lb cb] 56)).alloc (.cells #[.bool false, .slice none 0 0] 56)) := (((Below.refl _ _).alloc (Nat.le_refl _) _).alloc (by simp) _).alloc (by simp; omega) _
  have hz : W.heap.size + 2 < (((W.alloc (.cells #[.bool n, .slice aa la ca] 56)).alloc (.cells #[.bool m, .slice ab lb cb] 56)).alloc (.cells #[.bool false, .slice none 0 0] 56)).heap.size := by simp
  have hm0 : (((W.alloc (.cells #[.bool n, .slice aa la ca] 56)).alloc (.cells #[.bool m, .slice ab lb cb] 56)).alloc (.cells #[.bool false, .slice none 0 0] 56)).cell? ⟨W.heap.size + 1, 0, none⟩ = some (.bool m) := by rw [World.cell?_alloc_past _ _ _ (by simp)]; exact World.cell?_alloc_at _ _ _ _ (by simp)
  generalize (((W.alloc (.cells #[.bool n, .slice aa la ca] 56)).alloc (.cells #[.bool m, .slice ab lb cb] 56)).alloc (.cells #[.bool false, .slice none 0 0] 56)) = w0 at *
  have HBK := Lib.hid hblk
  have HBW := Lib.hid hbw
  have HX := Lib.hid hbox
  have HM0 := Lib.hid hm0
  clear hm0
  clear hblk hbw hbox
  refine (HC.out _ HBW.out).mono ?_
  intro e w1 hh
  obtain ⟨d, rfl, hd, hb1⟩ := OrdPost.open hh
  clear hh
  have hbox := keepBox HX.out hb1 hz
  have HM1 : Hid (w1.cell? ⟨W.heap.size + 1, 0, none⟩ = some (.bool m)) := Lib.hid ((hb1.cell (by simp; omega)).trans HM0.out)
  have HBK1 : Hid (w1.heap[W.heap.size + 1 + 1]? = some (.cells #[.bool false, .slice none 0 0] 56 (0, 0))) := Lib.hid ((hb1.block _ (by omega)).trans HBK.out)
  have HBW1 : Hid (Below W.heap.size W w1) := Lib.hid (HBW.out.trans (hb1.mono HBW.out.size))
  have hz1 : W.heap.size + 2 < w1.heap.size := by have := hb1.size; omega
  have hdd : d < 0 := by have := hd.out; have := HLE.out; omega
  clear hb1 hd HX HBK HBW hz
  have hbox0 : Box3 w1 W.heap.size (.bool n) (.slice aa la ca) (.slice ab lb cb) (.bool false) (.slice none 0 0) w1 := ⟨Below.refl _ _, hbox.2⟩
  have HB0 := Lib.hid hbox0
  have HBD : Hid (∀ w, Below w1.heap.size w1 w → Below W.heap.size W w) := Lib.hid fun w h => HBW1.out.trans (h.mono HBW1.out.size)
  have HKB : Hid (∀ w w', Below w1.heap.size w1 w → Below w.heap.size w w' → Box3 w1 W.heap.size (.bool n) (.slice aa la ca) (.slice ab lb cb) (.bool false) (.slice none 0 0) w') := Lib.hid fun w w' h h' => keepBox (w := w) (by
    obtain ⟨h1, h2, h3, h4, h5, h6, h7, h8⟩ := HB0.out
    refine ⟨h, ?_⟩
    rw [h.cell (p := ⟨W.heap.size, 0, none⟩) (by simp; omega), h.cell (p := ⟨W.heap.size, 1, none⟩) (by simp; omega), h.cell (p := ⟨W.heap.size + 1, 1, none⟩) (by simp; omega), h.cell (p := ⟨W.heap.size + 1 + 1, 0, none⟩) (by simp; omega), h.cell (p := ⟨W.heap.size + 1 + 1, 1, none⟩) (by simp; omega), h.frozen (p := ⟨W.heap.size + 1 + 1, 0, none⟩) (by simp; omega), h.frozen (p := ⟨W.heap.size + 1 + 1, 1, none⟩) (by simp; omega)]
    exact ⟨h2, h3, h4, h5, h6, h7, h8⟩) h' hz1
  have hb0 : Below w1.heap.size w1 w1.drew := (Below.refl _ _).drew
  clear hbox
  obtain ⟨_, x0, x1, x2, x3, x4, x5, x6⟩ := hbox0
  clear HB0
  have x7 : w1.cell? ⟨W.heap.size + 1, 0, none⟩ = some (.bool m) := HM1.out
  have HM : Hid (∀ w w', Below w1.heap.size w1 w → Below w.heap.size w w' → w'.cell? ⟨W.heap.size + 1, 0, none⟩ = some (.bool m)) := Lib.hid fun w w' h h' => by
    have := h.size
    rw [h'.cell (p := ⟨W.heap.size + 1, 0, none⟩) (by simp; omega), h.cell (p := ⟨W.heap.size + 1, 0, none⟩) (by simp; omega)]; exact HM1.out
  go_wp2_with fail
  go_region_with (go_at_call 69; refine (HP.out _ (HBD.out _ (by assumption))).mono ?_; intro e w2 hh; obtain ⟨K, a, c, rfl, e1, hb3⟩ := CPost.open hh; obtain ⟨HB2, y0, y1, y2, y3, y4, y5, y6⟩ := HKB.out _ _ (by assumption) hb3; have y7 := HM.out _ _ (by assumption) hb3)
  all_goals
    have HNS := Lib.hid (fun x y => e1.out.2.2.2.2.store (x := x) (y := y) (fun _ _ => by simp) ((HB2.block _ (by omega)).trans HBK1.out))
    have HBF : Hid (Below W.heap.size W w2) := Lib.hid (HBD.out _ HB2)
    clear hh hb3
    go_wp2
    exact bodyPost_ret (v := .agg #[.bool m, .slice a K.length c]) (by simp [results, Try.results43, go_sem, y3, y4]) rfl
      ⟨m, K, _, rfl, HSV.out K e1.out.1, e1.out.2.1, e1.out.2.2.1, e1.out.2.2.2.1, HNS.out _ _, (HBF.out.setCell (by simp; omega) _).setCell (by simp; omega) _⟩
end Go.Proofs.Ytieabeodommbiaa
