/- Lists and rows of ints; a field as a value and what its operations answer. -/
import Derived.Test.YtdafhhojiioifaaProg
import Derived.Test.YtdafhhojiioifaaEvYq
import Derived.WalkKit
import Derived.Deep.QuietTactic
import Derived.BigQuiet
import Derived.Lib.Hide
import Derived.OwnWalk
import Derived.IntWalk
import Derived.Deep.RegionHeld3
import Derived.Deep.DeepCutAuto
import Derived.Laws.CopyOwn
namespace Go.Proofs.Ytdafhhojiioifaa
open Go.RowKit Go.Fl
set_option maxRecDepth 100000
set_option linter.unusedVariables false
set_option linter.unusedSimpArgs false
set_option linter.unusedSectionVars false

abbrev N64 (n : Nat) : Value := .int .i64 (n : Int)
/-- the slice v reads as L -/
def NN (L : List Nat) (w : World) (v : Value) : Prop := (L = [] ∧ v = .slice none 0 0) ∨ ∃ b off cap, v = .slice (some ⟨b, off, none⟩) L.length cap ∧ L.length ≤ cap ∧ b < w.heap.size ∧ ∀ t, t < L.length → w.cell? ⟨b, off + t, none⟩ = some (.int .i64 (L.getD t 0 : Nat))
theorem NN.below {L : List Nat} {w w' : World} {v : Value} (h : NN L w v) (hb : Below w.heap.size w w') : NN L w' v := by
 rcases h with h | ⟨b, off, cap, h4, h2, h5, h6⟩
 ·exact .inl h
 ·exact .inr ⟨b, off, cap, h4, h2, Nat.lt_of_lt_of_le h5 hb.size, fun t ht => (hb.cell h5).trans (h6 t ht)⟩
theorem NN.shape {L : List Nat} {w : World} {v : Value} (h : NN L w v) : ∃ a c, v = .slice a L.length c := by
 rcases h with ⟨rfl, rfl⟩ | ⟨b, off, cap, rfl, _⟩
 ·exact ⟨none, 0, rfl⟩
 ·exact ⟨_, _, rfl⟩
theorem NN.take {L : List Nat} {w : World} {b off cap : Nat} (h : NN L w (.slice (some ⟨b, off, none⟩) L.length cap)) {k : Nat} (hk : k ≤ L.length) : NN (L.take k) w (.slice (some ⟨b, off, none⟩) k cap) := by
 rcases h with ⟨_, h⟩ | ⟨b', off', cap', h, h1, h2, h3⟩
 ·cases h
 ·cases h
  have e : (L.take k).length = k := by rw [List.length_take]; omega
  refine .inr ⟨b, off, cap, by rw [e], by omega, h2, fun t ht => ?_⟩
  rw [e] at ht
  rw [h3 t (by omega)]
  simp [List.getD, List.getElem?_take_of_lt ht]
theorem NN.of_owns {L : List Nat} {w : World} {v : Value} {base : Nat} (h : w.ownsRow base 3 1 v L.length (L.map N64)) : NN L w v := by
 obtain ⟨h1, h2⟩ := h
 rcases h2 with ⟨rfl, h2⟩ | ⟨g, cap, cur, rfl, h3, h4, h5, h6, h7, h8⟩
 ·exact .inl ⟨List.length_eq_zero_iff.1 h2, rfl⟩
 ·refine .inr ⟨g, 0, cap, rfl, h5, ?_, fun t ht => ?_⟩
  ·rcases Nat.lt_or_ge g w.heap.size with h | h
   ·exact h
   ·rw [Array.getElem?_eq_none h] at h4; cases h4
  ·have e : (L.map N64)[t]? = some (.int .i64 (L.getD t 0 : Nat)) := by rw [List.getElem?_map, List.getElem?_eq_getElem ht]; simp [List.getD, ht]
   rw [← h8] at e
   rw [Nat.mul_one, List.getElem?_take_of_lt ht] at e
   rw [Array.getElem?_toList] at e
   simp only [World.cell?, h4]
   simpa using e
/-- the end of a list's zeros -/
theorem ret_sl {a : Option Addr} {n m c : Nat} (h : n = m) : Ending.returned (.slice a n c) = .returned (.slice a m c) := by rw [h]
set_option maxHeartbeats 1600000 in
def Row (R : List Nat) (g : Nat) (w : World) : Prop := w.ownsRow 0 3 1 (.slice (some ⟨g, 0, none⟩) R.length R.length) R.length (R.map N64)
theorem own_belowK {w w' : World} {base : Nat} {e : TypeId} {size : Nat} {v : Value} {n : Nat} {xs : List Value} (h : w.ownsRow base e size v n xs) (hb : Below w.heap.size w w') : w'.ownsRow base e size v n xs := by
 obtain ⟨h1, h2⟩ := h
 refine ⟨h1, h2.imp_right ?_⟩
 rintro ⟨g, cap, cur, a1, a2, a3, a4⟩
 have hg : g < w.heap.size := by
  rcases Nat.lt_or_ge g w.heap.size with h | h
  ·exact h
  ·rw [Array.getElem?_eq_none h] at a3; cases a3
 exact ⟨g, cap, cur, a1, a2, (hb.block g hg).trans a3, a4⟩
section
variable {R : List Nat} {g : Nat} {w : World}
theorem Row.lt (h : Row R g w) : g < w.heap.size := (World.ownsRow.lt h g rfl).2
theorem Row.below (h : Row R g w) {w' : World} (hb : Below w.heap.size w w') : Row R g w' := own_belowK h hb
theorem Row.drew (h : Row R g w) : Row R g w.drew := h
theorem Row.nn (h : Row R g w) : NN R w (.slice (some ⟨g, 0, none⟩) R.length R.length) := NN.of_owns h
theorem Row.cell (h : Row R g w) {t : Nat} (ht : t < R.length) : w.cell? ⟨g, t, none⟩ = some (.int .i64 (R.getD t 0 : Nat)) := by
 rw [World.ownsRow.cellAt h t (by omega), List.getElem?_map, List.getElem?_eq_getElem ht]
 simp [List.getD, ht]
theorem Row.frozen (h : Row R g w) (t : Nat) : w.frozen? ⟨g, t, none⟩ = false := World.ownsRow.frozenAt h t
theorem Row.set (h : Row R g w) (t x : Nat) : Row (R.set t x) g (w.setCell ⟨g, t, none⟩ (.int .i64 x)) := by
 unfold Row
 rw [List.length_set, List.map_set]
 exact (World.ownsRow.stored h t (.int .i64 x)).1
theorem Row.of_own {base n : Nat} (h : w.ownsRow base 3 1 (.slice (some ⟨g, 0, none⟩) n n) n (R.map N64)) (hn : R.length = n) : Row R g w := by
 subst hn
 refine ⟨h.1, ?_⟩
 rcases h.2 with h | ⟨g', cap, cur, h1, h2, h3⟩
 ·exact .inl h
 ·exact .inr ⟨g', cap, cur, h1, Nat.zero_le _, h3⟩
theorem Row.heap (h : Row R g w) : w.heap[g]? = some (.cells (R.map N64).toArray 3 (0, 0)) := by
 rcases h.2 with ⟨h, _⟩ | ⟨g', cap, cur, h1, h2, h3, h4, h5, h6, h7⟩
 ·cases h
 ·simp only [Value.slice.injEq, Option.some.injEq, Addr.mk.injEq] at h1
  obtain ⟨⟨rfl, _⟩, _, rfl⟩ := h1
  rw [h3, ← h7]
  rw [List.take_of_length_le (by simp [h6])]
theorem Row.of_heap {base : Nat} (hm : R.length ≤ maxLen) (h : w.heap[g]? = some (.cells (R.map N64).toArray 3 (0, 0))) : Row R g w :=
 ⟨by simp, .inr ⟨g, R.length, (R.map N64).toArray, rfl, Nat.zero_le _, h, Nat.le_refl _, hm, by simp, by rw [List.take_of_length_le (by simp)]⟩⟩
end
theorem fn_set {R : List Nat} {k x : Nat} (hk : k < R.length) : fn (R.set k x) = fun i => if i = k then x else fn R i := by
 funext i
 show (R.set k x).getD i 0 = _
 simp only [List.getD_eq_getElem?_getD]
 by_cases h : i = k
 ·subst h; rw [if_pos rfl]; simp [hk]
 ·rw [if_neg h, List.getElem?_set_ne (by omega)]; simp [fn]
theorem in_set {F : Gf} {R : List Nat} {k x : Nat} (h : In F R) (hx : x < F.q) : In F (R.set k x) := fun y hy => by
 rcases List.mem_or_eq_of_mem_set hy with hy | rfl
 ·exact h y hy
 ·exact hx

/-! ### fields, and what their operations answer -/
abbrev FV (F : Gf) (b cap : Nat) : Value := .agg #[.int .i64 F.p, .int .i64 F.e, .slice (some ⟨b, 0, none⟩) F.e cap]
abbrev FM (F : Gf) (b cap : Nat) : Value := .slice (some ⟨b, 0, none⟩) F.e cap

structure Ops (F : Gf) (b cap : Nat) (W : World) : Prop where
 ok : Ok F
 add : ∀ w, Below W.heap.size W w → ∀ x y, x < F.q → y < F.q → Calls Try.prog 81 #[FV F b cap, .int .i64 (x : Nat), .int .i64 (y : Nat)] w fun e w' => e = .returned (.int .i64 (F.add x y : Nat)) ∧ Below w.heap.size w w'
 mul : ∀ w, Below W.heap.size W w → ∀ x y, x < F.q → y < F.q → Calls Try.prog 82 #[FV F b cap, .int .i64 (x : Nat), .int .i64 (y : Nat)] w fun e w' => e = .returned (.int .i64 (F.mul x y : Nat)) ∧ Below w.heap.size w w'
 neg : ∀ w, Below W.heap.size W w → ∀ x, x < F.q → Calls Try.prog 83 #[FV F b cap, .int .i64 (x : Nat)] w fun e w' => e = .returned (.int .i64 (F.neg x : Nat)) ∧ Below w.heap.size w w'
 inv : ∀ w, Below W.heap.size W w → ∀ x, x < F.q → x ≠ 0 → Calls Try.prog 75 #[FV F b cap, .int .i64 (x : Nat)] w fun e w' => e = .returned (.tuple #[.int .i64 (F.inv x : Nat), .int .i64 0]) ∧ Below w.heap.size w w'
theorem Ops.below {F : Gf} {b cap : Nat} {W w : World} (h : Ops F b cap W) (hb : Below W.heap.size W w) : Ops F b cap w :=
 ⟨h.ok, fun v hv => h.add v (hb.trans (hv.mono hb.size)), fun v hv => h.mul v (hb.trans (hv.mono hb.size)), fun v hv => h.neg v (hb.trans (hv.mono hb.size)), fun v hv => h.inv v (hb.trans (hv.mono hb.size))⟩
/-- a polynomial as a result; Fr: nothing that was there before -/
def Fr (w : World) (a : Option Addr) : Prop := ∀ h o, a = some ⟨h, o, none⟩ → w.heap.size ≤ h
theorem NN.setc {L : List Nat} {w : World} {g B j n c : Nat} {x : Value} (h : NN L w (.slice (some ⟨g, 0, none⟩) n c)) (hg : g ≠ B) : NN L (w.setCell ⟨B, j, none⟩ x) (.slice (some ⟨g, 0, none⟩) n c) := by
 rcases h with ⟨_, h⟩ | ⟨b, off, cap, h, h1, h2, h3⟩
 ·cases h
 ·cases h
  refine .inr ⟨g, 0, c, rfl, h1, by simpa using h2, fun t ht => ?_⟩
  rw [World.cell?_of_block (w := w) (by rw [Below.heap_setCell _ _ _ _ (by exact hg)])]
  exact h3 t ht
theorem num_cellsK {L : List Nat} {w : World} {b off : Nat} (hc : ∀ t, t < L.length → w.cell? ⟨b, off + t, none⟩ = some (.int .i64 (L.getD t 0 : Nat))) : ∀ (j : Nat) (u : Value), (L.map N64)[j]? = some u → w.cell? ((⟨b, off, none⟩ : Addr).add j) = some u := by
 intro j u hj
 rw [List.getElem?_map, Option.map_eq_some_iff] at hj
 obtain ⟨x, hx, rfl⟩ := hj
 have hl : j < L.length := by
  rcases Nat.lt_or_ge j L.length with h | h
  ·exact h
  ·rw [List.getElem?_eq_none h] at hx; cases hx
 have := hc j hl
 rw [List.getD_eq_getElem?_getD, hx] at this
 simp only [Option.getD_some] at this
 unfold Addr.add
 split
 ·rename_i h0; have h0 : j = 0 := by simpa using h0
  subst h0; simpa using this
 ·exact this
theorem info3 : (Try.prog.info? 3).map (fun i => (i.zero, i.size, i.bytes)) = some (some (.int .i64 0), 1, 8) := by kernel_rfl
theorem size3 : (Try.prog.info? 3).map (·.size) = some 1 := by kernel_rfl

/-! ### plus -/
end Go.Proofs.Ytdafhhojiioifaa
