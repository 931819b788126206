/- The digits of a number: the iterator's contract. -/
import Derived.Test.YtdafhhojiioifaaBa
import Derived.RangeFuncNested
import Derived.RangeFuncBound
import Derived.RangeFuncCalls
import Derived.RangeFuncLeaves
import Derived.RangeFuncFrom
import Derived.Shelf.Abstract
import Derived.Shelf.RegionOpen
import Derived.OwnWalkIn
import Derived.TacticsInMore
import Derived.LoopNIn
import Derived.LoopIn
namespace Go.Proofs.Ytdafhhojiioifaa
open Go.RowKit Go.Fl Go.Shelf
attribute [local go_sem] Oper.semAt_some
set_option maxRecDepth 100000
set_option linter.unusedVariables false
set_option linter.unusedSimpArgs false
set_option linter.unusedSectionVars false

theorem w64 {n : Nat} (h : n < 4611686018427387904) : IntKind.i64.wrap (n : Int) = (n : Int) := Go.IntWalk.i64_in _ (by omega)
/-- a place and a digit -/
abbrev Dg (p : Nat) : Type := {x : Nat × Nat // x.1 < 7 ∧ x.2 < p}
def mkD {p : Nat} (hp : 0 < p) (i r : Nat) : Dg p := ⟨(i % 7, r % p), Nat.mod_lt _ (by decide), Nat.mod_lt _ hp⟩
def dlD {p : Nat} (hp : 0 < p) : Nat → Nat → Nat → List (Dg p)
 | 0, _, _ => []
 | k + 1, i, r => bif Nat.beq r 0 then [] else mkD hp i r :: dlD hp k (i + 1) (r / p)
theorem dlD_pos {p : Nat} (hp : 0 < p) (k i r : Nat) (hr : r ≠ 0) : dlD hp (k + 1) i r = mkD hp i r :: dlD hp k (i + 1) (r / p) := by
 show (bif Nat.beq r 0 then [] else mkD hp i r :: dlD hp k (i + 1) (r / p)) = _
 cases hb : Nat.beq r 0 with
 | true => exact (hr (Nat.eq_of_beq_eq_true hb)).elim
 | false => rfl
theorem dlD_zero {p : Nat} (hp : 0 < p) (k i : Nat) : dlD hp k i 0 = [] := by cases k <;> rfl
/-- the box with the base -/
abbrev Pb (p gp : Nat) (w : World) : Prop := w.cell? ⟨gp, 0, none⟩ = some (.int .i64 (p : Nat))
theorem below_grownK {w w' : World} (h : Below w.heap.size w w') : w.grownBy w' none := ⟨h.os, h.tape, h.output, h.size, fun k hk _ => h.block k hk⟩
set_option maxHeartbeats 6400000 in
theorem dig_in {p n0 gn gp B0 : Nat} (n l : Nat) (hn : 1 ≤ n) (hp : 0 < p) (hp6 : p ≤ 64) (hn0 : n0 ≤ 100000) (J Jx : List (Dg p) → World → Prop) (hJ : AbidesFrom B0 J)
  (hY : ∀ pre x W1, J pre W1 → pre.length < (dlD hp 7 0 n0).length → YieldAt Fence.wide (n - 1) Try.prog l #[.int .i64 (x.1.1 : Nat), .int .i64 (x.1.2 : Nat)] W1 fun e W' =>
   (e = .returned (.bool true) ∧ J (pre ++ [x]) W' ∧ (Pb p gp W1 → Pb p gp W')) ∨ (e = .returned (.bool false) ∧ Jx (pre ++ [x]) W'))
  (W : World) (hI : Pb p gp W) (hnb : Pb n0 gn W) (h0 : J [] W) :
  CallsIn Fence.wide n Try.prog 108 #[.func (.yield l) #[] #[], .pointer (some ⟨gn, 0, none⟩), .pointer (some ⟨gp, 0, none⟩)] W fun e W' => (∃ v, e = .returned v) ∧
   ((∃ ys, ys = dlD hp 7 0 n0 ∧ J ys W') ∨ (∃ pre, pre <+: dlD hp 7 0 n0 ∧ Jx pre W')) := by
 refine callsIn_of_wp Try.func108 rfl trivial ?_ rfl
 simp only [Try.ntmps108, List.size_toArray, List.length_cons, List.length_nil, Nat.reduceAdd, Nat.reduceSub, Array.replicate_succ, Array.replicate_zero, List.push_toArray, List.append_toArray, List.nil_append, List.cons_append]
 gi_wp2
 gi_loopw [4, 5] (fun c i wr => ∃ (pre : List (Dg p)) (k r : Nat), k ≤ 7 ∧ r ≤ n0 ∧ c = .int .i64 (r : Nat) ∧ i = .int .i64 (k : Nat) ∧ Hid (dlD hp 7 0 n0 = pre ++ dlD hp (7 - k) k r) ∧ Hid (J pre wr) ∧ Hid (Pb p gp wr)) (fun _ i _ => 7 - (intOf i).toNat)
 case atStart => exact ⟨[], 0, n0, Nat.zero_le _, Nat.le_refl _, rfl, rfl, Lib.hid rfl, Lib.hid h0, Lib.hid hI⟩
 case round =>
  obtain ⟨pre, k, r, hk, hr, rfl, rfl, HX, HJs, HI⟩ := hrel
  clear hI hnb h0
  by_cases hlt : k < 7
  ·have hlti : (k : Int) ≤ 6 := by omega
   by_cases hr0 : r = 0
   ·subst hr0
    have HE : Hid (dlD hp 7 0 n0 = pre) := Lib.hid (by rw [HX.out, dlD_zero]; simp)
    gi_wp2
    go_end0
    exact ⟨⟨_, rfl⟩, .inl (by rw [HE.out]; exact ⟨_, rfl, HJs.out⟩)⟩
   ·have hrp : (0 : Int) < (r : Int) := by omega
    obtain ⟨m, hm⟩ : ∃ m, 7 - k = m + 1 := ⟨7 - k - 1, by omega⟩
    have HM := Lib.hid hm
    have HX2 : Hid (dlD hp 7 0 n0 = (pre ++ [mkD hp k r]) ++ dlD hp (7 - (k + 1)) (k + 1) (r / p)) := Lib.hid (by
     rw [HX.out, hm, dlD_pos hp m k r hr0, show 7 - (k + 1) = m by omega, List.append_assoc]; rfl)
    obtain ⟨x, hx⟩ : ∃ x, mkD hp k r = x := ⟨_, rfl⟩
    obtain ⟨fn, tmps, assign, body, hy, hR⟩ := hY pre x wr HJs.out (by rw [HX2.out]; simp)
    obtain ⟨d, hd⟩ : ∃ d, r % p = d := ⟨_, rfl⟩
    obtain ⟨s, hs⟩ : ∃ s, r / p = s := ⟨_, rfl⟩
    have e1 : x.1.1 = k := by rw [← hx]; exact Nat.mod_eq_of_lt hlt
    have e2 : x.1.2 = d := by rw [← hx]; exact hd
    have hsr : s ≤ r := by rw [← hs]; exact Nat.div_le_self _ _
    have hdp : d < p := by rw [← hd]; exact Nat.mod_lt _ hp
    rw [e1, e2] at hy
    rw [hx, hs] at HX2
    have hdi : (r : Int) % (p : Int) = (d : Int) := by rw [← hd]; exact (Int.natCast_emod _ _).symm
    have hsi : (r : Int) / (p : Int) = (s : Int) := by rw [← hs]; exact (Int.natCast_ediv _ _).symm
    have hti : (r : Int).tmod (p : Int) = (d : Int) := by rw [Int.tmod_eq_emod_of_nonneg (by omega)]; exact hdi
    have hqi : (r : Int).tdiv (p : Int) = (s : Int) := by rw [Int.tdiv_eq_ediv_of_nonneg (by omega)]; exact hsi
    have hpz : ((p : Int) == 0) = false := by simp; omega
    have hpb := HI.out
    have HYY := Lib.hid hY
    have HJ := Lib.hid hJ
    have HSR := Lib.hid hsr
    have hws : IntKind.i64.wrap (s : Int) = (s : Int) := w64 (by omega)
    clear hY hJ hx hd hs e1 e2 hm hsr
    gi_wp2
    refine hR.mono ?_
    rintro e W3 (⟨rfl, hJ3, hk3⟩ | ⟨rfl, hJx3⟩)
    ·have hpb3 := hk3 HI.out
     have HI3 := Lib.hid hpb3
     have HJ3 := Lib.hid hJ3
     clear hk3 hJ3 hR hy hpb HI HJs
     gi_wp2
     go_roundw
     case rel => exact ⟨pre ++ [x], k + 1, s, by omega, Nat.le_trans HSR.out hr, rfl, by go_num, HX2, HJ3, HI3⟩
     case measure => simp [intOf]; omega
    ·have HJx3 := Lib.hid hJx3
     clear hJx3 hR hy
     gi_wp2
     refine bodyPost_ret (results_none rfl _ _ _) rfl ?_
     exact ⟨⟨_, rfl⟩, .inr ⟨pre ++ [x], ⟨_, HX2.out.symm⟩, HJx3.out⟩⟩
  ·have hlt1 : ¬ (k : Int) ≤ 6 := by omega
   have HE : Hid (dlD hp 7 0 n0 = pre) := Lib.hid (by rw [HX.out, show 7 - k = 0 by omega]; unfold dlD; simp)
   clear hY hJ
   gi_wp2
   go_end0
   exact ⟨⟨_, rfl⟩, .inl (by rw [HE.out]; first | exact HJs.out | exact ⟨_, rfl, HJs.out⟩)⟩
/-- the iterator keeps its word -/
theorem dig_stops {p n0 gn gp : Nat} (n : Nat) (hn : 1 ≤ n) (hp : 0 < p) (hp6 : p ≤ 64) (hn0 : n0 ≤ 100000) (w : World) (hI : Pb p gp w) (hnb : Pb n0 gn w) :
  SeqStopsK Fence.wide n Try.prog 108 #[.pointer (some ⟨gn, 0, none⟩), .pointer (some ⟨gp, 0, none⟩)] (fun x : Dg p => #[.int .i64 (x.1.1 : Nat), .int .i64 (x.1.2 : Nat)]) (fun A B => Pb p gp A → Pb p gp B) (fun ys => ys = dlD hp 7 0 n0) (fun pre => pre <+: dlD hp 7 0 n0) (dlD hp 7 0 n0).length w := fun l J Jx W hW hJ _ hY h0 =>
 dig_in n l hn hp hp6 hn0 J Jx hJ hY W ((hW.cell (p := ⟨gp, 0, none⟩) (World.block_lt_of_cell? w _ hI)).trans hI) ((hW.cell (p := ⟨gn, 0, none⟩) (World.block_lt_of_cell? w _ hnb)).trans hnb) h0
/-- digits: its boxes -/
theorem digits_c {p n0 : Nat} {W : World} : Calls Try.prog 100 #[.int .i64 (p : Nat), .int .i64 (n0 : Nat)] W fun e w' => e = .returned (.func (.func 108) #[] #[.pointer (some ⟨W.heap.size + 1, 0, none⟩), .pointer (some ⟨W.heap.size, 0, none⟩)]) ∧ Pb p W.heap.size w' ∧ Pb n0 (W.heap.size + 1) w' ∧ W.heap.size + 1 < w'.heap.size ∧ Below W.heap.size W w' := by
 go_enter Try.func100, Try.ntmps100
 go_wp2
 refine bodyPost_ret (v := .func (.func 108) #[] #[.pointer (some ⟨W.heap.size + 1, 0, none⟩), .pointer (some ⟨W.heap.size, 0, none⟩)]) (by simp [results, Try.results100, go_sem]) rfl ⟨rfl, ?_, ?_, ?_, ?_⟩
 ·exact (((Below.refl (W.heap.size + 1) _).alloc (by simp) _).cell (p := ⟨W.heap.size, 0, none⟩) (by simp)).trans (World.cell?_alloc_at _ _ _ _ rfl)
 ·exact World.cell?_alloc_at _ _ _ _ (by simp)
 ·simp
 ·exact ((Below.refl _ _).alloc (Nat.le_refl _) _).alloc (by simp) _
end Go.Proofs.Ytdafhhojiioifaa

/- Seven numbers in a block; expand, number. -/
namespace Go.Proofs.Ytdafhhojiioifaa
open Go.RowKit Go.Fl Go.Shelf
attribute [local go_sem] Oper.semAt_some
set_option maxRecDepth 100000
set_option linter.unusedVariables false
set_option linter.unusedSimpArgs false
set_option linter.unusedSectionVars false

abbrev AV (V : Nat → Nat) : Value := .agg #[.int .i64 (V 0 : Nat), .int .i64 (V 1 : Nat), .int .i64 (V 2 : Nat), .int .i64 (V 3 : Nat), .int .i64 (V 4 : Nat), .int .i64 (V 5 : Nat), .int .i64 (V 6 : Nat)]
def upd (V : Nat → Nat) (i d : Nat) : Nat → Nat := fun j => bif Nat.beq j i then d else V j
theorem upd_at (V : Nat → Nat) (i d : Nat) : upd V i d i = d := by unfold upd; rw [Nat.beq_refl]; rfl
theorem upd_ne (V : Nat → Nat) {i j : Nat} (d : Nat) (h : j ≠ i) : upd V i d j = V j := by
 unfold upd
 cases hb : Nat.beq j i with
 | true => exact (h (Nat.eq_of_beq_eq_true hb)).elim
 | false => rfl
/-- seven numbers in a block that may be written -/
structure C7 (V : Nat → Nat) (B : Nat) (w : World) : Prop where
 cell : ∀ i, i < 7 → w.cell? ⟨B, i, none⟩ = some (.int .i64 (V i : Nat))
 fz : ∀ i, w.frozen? ⟨B, i, none⟩ = false
section
variable {V : Nat → Nat} {B : Nat} {w w' : World}
theorem C7.lt (h : C7 V B w) : B < w.heap.size := World.block_lt_of_cell? w _ (h.cell 0 (by decide))
theorem C7.of (h : C7 V B w) (hb : w'.heap[B]? = w.heap[B]?) : C7 V B w' := ⟨fun i hi => (World.cell?_of_block (w := w) hb).trans (h.cell i hi), fun i => (World.frozen?_of_block (w := w) hb).trans (h.fz i)⟩
theorem C7.below (h : C7 V B w) (hb : Below w.heap.size w w') : C7 V B w' := h.of (hb.block B h.lt)
theorem C7.kept (h : C7 V B w) {row : Option Nat} (hg : w.grownBy w' row) (hr : ∀ r, row = some r → ∃ o : Obj, w.heap[r]? = some o ∧ o.isCells = false) : C7 V B w' := by
 obtain ⟨o, ho, hc⟩ := cells_of_cell (h.cell 0 (by decide))
 exact h.of (grownBy_keeps_cells hg hr ho hc)
theorem C7.set (h : C7 V B w) {i : Nat} (hi : i < 7) (d : Nat) : C7 (upd V i d) B (w.setCell ⟨B, i, none⟩ (.int .i64 (d : Nat))) :=
 ⟨fun j hj => by
  by_cases e : j = i
  ·subst e
   rw [World.cell?_setCell_same _ _ _ (h.cell j hj), upd_at]
  ·rw [World.cell?_setCell_other _ _ _ _ (fun e' => e (by injection e' with _ e' _; exact e'.symm)), h.cell j hj, upd_ne _ _ e], fun j => by rw [World.frozen?_setCell]; exact h.fz j⟩
end
theorem setCell_above {w0 w : World} {k B i : Nat} {v : Value} (h : Below k w0 w) (hk : k ≤ B) : Below k w0 (w.setCell ⟨B, i, none⟩ v) := h.trans ((Below.refl _ _).setCell (p := ⟨B, i, none⟩) hk _)
/-- a store of seven numbers -/
abbrev st7 (w : World) (B : Nat) (V : Nat → Nat) : World := (((((((w.setCell ⟨B, 0, none⟩ (.int .i64 (V 0 : Nat))).setCell ⟨B, 1, none⟩ (.int .i64 (V 1 : Nat))).setCell ⟨B, 2, none⟩ (.int .i64 (V 2 : Nat))).setCell ⟨B, 3, none⟩ (.int .i64 (V 3 : Nat))).setCell ⟨B, 4, none⟩ (.int .i64 (V 4 : Nat))).setCell ⟨B, 5, none⟩ (.int .i64 (V 5 : Nat))).setCell ⟨B, 6, none⟩ (.int .i64 (V 6 : Nat)))
theorem C7.put {U : Nat → Nat} {B : Nat} {w : World} (h : C7 U B w) (V : Nat → Nat) : C7 V B (st7 w B V) := by
 have k := ((((((h.set (i := 0) (by decide) (V 0)).set (i := 1) (by decide) (V 1)).set (i := 2) (by decide) (V 2)).set (i := 3) (by decide) (V 3)).set (i := 4) (by decide) (V 4)).set (i := 5) (by decide) (V 5)).set (i := 6) (by decide) (V 6)
 refine ⟨fun i hi => ?_, k.fz⟩
 rw [k.cell i hi]
 rcases (by omega : i = 0 ∨ i = 1 ∨ i = 2 ∨ i = 3 ∨ i = 4 ∨ i = 5 ∨ i = 6) with rfl | rfl | rfl | rfl | rfl | rfl | rfl <;> rfl
theorem st7_others (w : World) (B : Nat) (V : Nat → Nat) : KeepsOthers w (st7 w B V) :=
 ((((((KeepsOthers.setCell _ _ _).trans (KeepsOthers.setCell _ _ _)).trans (KeepsOthers.setCell _ _ _)).trans (KeepsOthers.setCell _ _ _)).trans (KeepsOthers.setCell _ _ _)).trans (KeepsOthers.setCell _ _ _)).trans (KeepsOthers.setCell _ _ _)
theorem st7_heap (w : World) (B : Nat) (V : Nat → Nat) {k : Nat} (h : k ≠ B) : (st7 w B V).heap[k]? = w.heap[k]? := by
 unfold st7
 rw [Below.heap_setCell _ _ _ _ (by exact h), Below.heap_setCell _ _ _ _ (by exact h), Below.heap_setCell _ _ _ _ (by exact h), Below.heap_setCell _ _ _ _ (by exact h), Below.heap_setCell _ _ _ _ (by exact h), Below.heap_setCell _ _ _ _ (by exact h), Below.heap_setCell _ _ _ _ (by exact h)]
theorem st7_size (w : World) (B : Nat) (V : Nat → Nat) : (st7 w B V).heap.size = w.heap.size := by simp [st7, World.setCell]
theorem st7_below {w0 w : World} {k B : Nat} (V : Nat → Nat) (h : Below k w0 w) (hk : k ≤ B) : Below k w0 (st7 w B V) :=
 setCell_above (setCell_above (setCell_above (setCell_above (setCell_above (setCell_above (setCell_above h hk) hk) hk) hk) hk) hk) hk
def z7 : Nat → Nat := fun _ => 0
theorem c7_new {g : Nat} (w : World) (ty : Nat) (hg : w.heap.size = g) : C7 z7 g (w.alloc (.cells #[.int .i64 0, .int .i64 0, .int .i64 0, .int .i64 0, .int .i64 0, .int .i64 0, .int .i64 0] ty)) := by
 subst hg
 refine ⟨fun i hi => ?_, fun i => World.frozen?_alloc_at _ _ _ _ rfl⟩
 rcases (by omega : i = 0 ∨ i = 1 ∨ i = 2 ∨ i = 3 ∨ i = 4 ∨ i = 5 ∨ i = 6) with rfl | rfl | rfl | rfl | rfl | rfl | rfl <;> exact World.cell?_alloc_at _ _ _ _ rfl
theorem c7_put {g : Nat} {V : Nat → Nat} (w : World) (ty : Nat) (hg : w.heap.size = g) : C7 V g (w.alloc (.cells #[.int .i64 (V 0 : Nat), .int .i64 (V 1 : Nat), .int .i64 (V 2 : Nat), .int .i64 (V 3 : Nat), .int .i64 (V 4 : Nat), .int .i64 (V 5 : Nat), .int .i64 (V 6 : Nat)] ty)) := by
 subst hg
 refine ⟨fun i hi => ?_, fun i => World.frozen?_alloc_at _ _ _ _ rfl⟩
 rcases (by omega : i = 0 ∨ i = 1 ∨ i = 2 ∨ i = 3 ∨ i = 4 ∨ i = 5 ∨ i = 6) with rfl | rfl | rfl | rfl | rfl | rfl | rfl <;> exact World.cell?_alloc_at _ _ _ _ rfl
/-- the digits of a number, in seven places -/
def expV {p : Nat} (hp : 0 < p) (n : Nat) : Nat → Nat := (dlD hp 7 0 n).foldl (fun V x => upd V x.1.1 x.1.2) z7
abbrev A7 : Value := .agg #[.int .i64 0, .int .i64 0, .int .i64 0, .int .i64 0, .int .i64 0, .int .i64 0, .int .i64 0]
set_option maxHeartbeats 6400000 in
theorem expand_c {p n0 : Nat} (hp : 0 < p) (hp6 : p ≤ 64) (hn0 : n0 ≤ 100000) {W : World} : Calls Try.prog 99 #[.int .i64 (p : Nat), .int .i64 (n0 : Nat)] W fun e w' => e = .returned (AV (expV hp n0)) ∧ Below W.heap.size W w' := by
 refine (callsIn_wide (n := 3)).1 ?_
 refine callsIn_of_wp_marks Try.func99 rfl trivial ?_ rfl
 simp only [Try.ntmps99, List.size_toArray, List.length_cons, List.length_nil, Nat.reduceAdd, Nat.reduceSub, Array.replicate_succ, Array.replicate_zero, List.push_toArray, List.append_toArray, List.nil_append, List.cons_append]
 gi_wp2_with fail
 obtain ⟨B, hB⟩ : ∃ B, W.heap.size + 1 = B := ⟨_, rfl⟩
 obtain ⟨W0, hW0⟩ : ∃ W0, (W.alloc (.cells #[.int .i64 0, .int .i64 0, .int .i64 0, .int .i64 0, .int .i64 0, .int .i64 0, .int .i64 0] 114)).alloc (.cells #[.int .i64 0, .int .i64 0, .int .i64 0, .int .i64 0, .int .i64 0, .int .i64 0, .int .i64 0] 114) = W0 := ⟨_, rfl⟩
 have HC0 : Hid (C7 z7 B W0) := Lib.hid (by rw [← hW0, ← hB]; exact c7_new _ _ (by simp))
 have HR0 : Hid (C7 z7 W.heap.size W0) := Lib.hid (by rw [← hW0]; exact (c7_new _ _ rfl).of (Below.heap_alloc _ _ _ (by simp)))
 have HB0 : Hid (Below W.heap.size W W0) := Lib.hid (by rw [← hW0]; exact ((Below.refl _ _).alloc (Nat.le_refl _) _).alloc (by simp) _)
 have HZ0 : Hid (W0.heap.size = B + 1) := Lib.hid (by rw [← hW0, ← hB]; simp)
 rw [hW0]
 have HBB := Lib.hid hB
 clear hW0
 refine ⟨trivial, ?_⟩
 refine CallsIn.mono (callsIn_wide.2 digits_c) ?_
 rintro z w1 ⟨rfl, hpb, hnb, hsz, hb⟩
 have HC1 := Lib.hid (HC0.out.below hb)
 have HR1 := Lib.hid (HR0.out.below hb)
 have HB1 := Lib.hid (HB0.out.trans (hb.mono HB0.out.size))
 obtain ⟨g, hg⟩ : ∃ g, W0.heap.size = g := ⟨_, rfl⟩
 rw [hg] at hpb hnb hsz
 have HG : Hid (g = B + 1) := Lib.hid (by rw [← hg]; exact HZ0.out)
 clear hb HC0 HR0 HB0 HZ0
 gi_wp2_with fail
 try rw [hg]
 clear hg
 have HZ1 := Lib.hid hsz
 refine wpIn_rangeFunc_ownF (n := 3) rfl (by decide) (gf := 108) (lb := #[.pointer (some ⟨g + 1, 0, none⟩), .pointer (some ⟨g, 0, none⟩)]) rfl trivial (enters_of Try.func108 (by kernel_rfl) rfl)
  (dig_stops (n0 := n0) 2 (by decide) hp hp6 hn0 _ hpb hnb) (fun h k x => k (h x)) ?kb (Below.refl _ _) (fun _ => rfl)
  (fun pre W' => (C7 (pre.foldl (fun V x => upd V x.1.1 x.1.2) z7) B W' ∧ C7 z7 W.heap.size W') ∧ Below W.heap.size W W')
  (fun _ _ _ => False)
  (OwnFrom.and (Own.from (fun s A B' row hs hg hr => ⟨hs.1.kept hg hr, hs.2.kept hg hr⟩) _) (ownFrom_below (Nat.le_refl _) HB1.out.size))
  (fun _ _ _ _ _ hs _ _ => hs)
  ⟨⟨HC1.out, HR1.out⟩, HB1.out⟩ ?a1 ?assign ?body ?done ?stop
 case kb =>
  intro A l o o' hl ho h1 h2 hA
  exact (World.cell?_of_block (w := A) (a := ⟨g, 0, none⟩) (World.putObj_heap_other (by have h9 := HZ1.out; dsimp only; omega))).trans hA
 case assign =>
  intro l x A K hK
  gi_wp2
  exact hK
 case stop =>
  rintro D c pre A _ _ h _
  exact h.elim
 case done =>
  rintro D ys A hD rfl ⟨⟨hc, hr⟩, hbl⟩ hK
  obtain ⟨V, hV⟩ : ∃ V, expV hp n0 = V := ⟨_, rfl⟩
  rw [show List.foldl (fun V x => upd V x.1.1 x.1.2) z7 (dlD hp 7 0 n0) = V from hV] at hc
  have c0 := hc.cell 0 (by decide)
  have c1 := hc.cell 1 (by decide)
  have c2 := hc.cell 2 (by decide)
  have c3 := hc.cell 3 (by decide)
  have c4 := hc.cell 4 (by decide)
  have c5 := hc.cell 5 (by decide)
  have c6 := hc.cell 6 (by decide)
  have r0 := hr.cell 0 (by decide)
  have r1 := hr.cell 1 (by decide)
  have r2 := hr.cell 2 (by decide)
  have r3 := hr.cell 3 (by decide)
  have r4 := hr.cell 4 (by decide)
  have r5 := hr.cell 5 (by decide)
  have r6 := hr.cell 6 (by decide)
  have u0 := hr.fz 0
  have u1 := hr.fz 1
  have u2 := hr.fz 2
  have u3 := hr.fz 3
  have u4 := hr.fz 4
  have u5 := hr.fz 5
  have u6 := hr.fz 6
  have HBL := Lib.hid hbl
  have HHD := Lib.hid hD
  have HHR := Lib.hid hr
  have HVV := Lib.hid hV
  clear hbl hc hr hV hpb hnb hsz hD
  gi_wp2
  have HK : Hid (A.heap[D]? = some (.deferred (some []))) := Lib.hid hK
  obtain ⟨A2, hA2⟩ : ∃ A2, st7 A W.heap.size V = A2 := ⟨_, rfl⟩
  have HC2 : Hid (C7 V W.heap.size A2) := Lib.hid (by rw [← hA2]; exact HHR.out.put V)
  have hK2 : A2.heap[D]? = some (.deferred (some [])) := by rw [← hA2]; exact (st7_others _ _ _).same D _ HK.out rfl
  have HB2 : Hid (Below W.heap.size W A2) := Lib.hid (by rw [← hA2]; exact st7_below V HBL.out (Nat.le_refl _))
  have HDD : Hid (W.heap.size ≤ D) := Lib.hid (by have := HHD.out; have := HB1.out.size; omega)
  rw [show (((((((A.setCell ⟨W.heap.size, 0, none⟩ (.int .i64 (V 0 : Nat))).setCell ⟨W.heap.size, 1, none⟩ (.int .i64 (V 1 : Nat))).setCell ⟨W.heap.size, 2, none⟩ (.int .i64 (V 2 : Nat))).setCell ⟨W.heap.size, 3, none⟩ (.int .i64 (V 3 : Nat))).setCell ⟨W.heap.size, 4, none⟩ (.int .i64 (V 4 : Nat))).setCell ⟨W.heap.size, 5, none⟩ (.int .i64 (V 5 : Nat))).setCell ⟨W.heap.size, 6, none⟩ (.int .i64 (V 6 : Nat))) = A2 from hA2]
  refine ⟨by simp, .inl ⟨_, _, rfl, run_takeDeferred hK2, ?_⟩⟩
  have hC3 := HC2.out.kept (grownBy_putObj' A2 D (.deferred none)) (fun r e => by cases e; exact ⟨_, hK2, rfl⟩)
  have d0 := hC3.cell 0 (by decide)
  have d1 := hC3.cell 1 (by decide)
  have d2 := hC3.cell 2 (by decide)
  have d3 := hC3.cell 3 (by decide)
  have d4 := hC3.cell 4 (by decide)
  have d5 := hC3.cell 5 (by decide)
  have d6 := hC3.cell 6 (by decide)
  refine ⟨AV V, by simp [results, Try.results99, go_sem, d0, d1, d2, d3, d4, d5, d6], by rw [← HVV.out], ?_⟩
  exact HB2.out.grown (grownBy_putObj' A2 D (.deferred none)) HB2.out.size (fun k e => by cases e; exact HDD.out)
 case body =>
  rintro l pre x A ⟨⟨hc, hr⟩, hbl⟩ hlen
  have x7 : x.1.1 < 7 := x.2.1
  have x8 : (x.1.2 : Int) < 64 := by have := x.2.2; omega
  have HC := Lib.hid hc
  have HR := Lib.hid hr
  have HBL := Lib.hid hbl
  have hci := hc.cell x.1.1 x7
  have hfi := hc.fz x.1.1
  have HXX := Lib.hid hlen
  have x7i : (x.1.1 : Int) < 7 := by omega
  clear hc hr hbl hlen
  gi_wp2
  refine ⟨KeepsOthers.setCell _ _ _, fun hA => ?_, ⟨⟨?_, ?_⟩, ?_⟩⟩
  ·have h := HG.out
   exact (World.cell?_of_block (w := A) (a := ⟨g, 0, none⟩) (Below.heap_setCell _ _ _ _ (by show g ≠ B; omega))).trans hA
  ·rw [List.foldl_append]
   exact HC.out.set x7 _
  ·have h := HBB.out
   exact HR.out.of (Below.heap_setCell _ _ _ _ (by show W.heap.size ≠ B; omega))
  ·have h := HBB.out
   exact setCell_above HBL.out (by omega)
end Go.Proofs.Ytdafhhojiioifaa

/- number, Size, subTimes. -/
namespace Go.Proofs.Ytdafhhojiioifaa
open Go.RowKit Go.Fl Go.Shelf
set_option maxRecDepth 100000
set_option linter.unusedVariables false
set_option linter.unusedSimpArgs false
set_option linter.unusedSectionVars false

/-- the number of seven digits, from the greatest place on -/
def horF (p : Nat) (V : Nat → Nat) : Nat → Nat
 | 0 => 0
 | j + 1 => horF p V j * p + V (6 - j)
theorem horF_lt {p : Nat} (hp : p ≤ 64) {V : Nat → Nat} (hV : ∀ i, V i < 64) : ∀ j, horF p V j < 64 ^ j
 | 0 => by simp [horF]
 | j + 1 => by
  have h1 := horF_lt hp hV j
  have h2 := hV (6 - j)
  have h3 : horF p V j * p ≤ (64 ^ j - 1) * 64 := Nat.mul_le_mul (by omega) hp
  show horF p V j * p + V (6 - j) < 64 ^ (j + 1)
  rw [Nat.pow_succ]
  have h4 : 0 < 64 ^ j := Nat.pow_pos (by decide)
  rw [Nat.sub_mul] at h3
  omega
theorem horF_le {p : Nat} (hp : p ≤ 64) {V : Nat → Nat} (hV : ∀ i, V i < 64) {j : Nat} (hj : j ≤ 7) : horF p V j < 4398046511104 :=
 Nat.lt_of_lt_of_le (horF_lt hp hV j) (Nat.le_trans (Nat.pow_le_pow_right (by decide) hj) (by decide))
set_option maxHeartbeats 3200000 in
theorem number_c {p : Nat} {V : Nat → Nat} (hp : p ≤ 64) (hV : ∀ i, V i < 64) {W : World} : Calls Try.prog 102 #[.int .i64 (p : Nat), AV V] W fun e w' => e = .returned (.int .i64 (horF p V 7 : Nat)) ∧ Below W.heap.size W w' := by
 have HV := Lib.hid hV
 clear hV
 go_enter Try.func102, Try.ntmps102
 obtain ⟨W0, hW0⟩ : ∃ W0, W.alloc (.cells #[.int .i64 (V 0 : Nat), .int .i64 (V 1 : Nat), .int .i64 (V 2 : Nat), .int .i64 (V 3 : Nat), .int .i64 (V 4 : Nat), .int .i64 (V 5 : Nat), .int .i64 (V 6 : Nat)] 114) = W0 := ⟨_, rfl⟩
 have HC0 : Hid (C7 V W.heap.size W0) := Lib.hid (by rw [← hW0]; exact c7_put _ _ rfl)
 have HB0 : Hid (Below W.heap.size W W0) := Lib.hid (by rw [← hW0]; exact (Below.refl _ _).alloc (Nat.le_refl _) _)
 go_wp2
 clear hW0
 go_loopw [5, 6] (fun n i wr => ∃ j : Nat, j ≤ 7 ∧ n = .int .i64 (horF p V j : Nat) ∧ i = .int .i64 ((6 : Int) - (j : Nat)) ∧ wr = W0) (fun _ i _ => (intOf i + 1).toNat)
 case atStart => exact ⟨0, by decide, rfl, rfl, rfl⟩
 case round =>
  obtain ⟨j, hj, rfl, rfl, rfl⟩ := hrel
  by_cases hlt : j < 7
  ·have h1 : (0 : Int) ≤ 6 - (j : Int) := by omega
   obtain ⟨k, hk⟩ : ∃ k, 6 - j = k := ⟨_, rfl⟩
   have hki : (6 : Int) - (j : Int) = (k : Int) := by omega
   have hk7 : k < 7 := by omega
   obtain ⟨x, hx⟩ : ∃ x, V k = x := ⟨_, rfl⟩
   have hc := HC0.out.cell k hk7
   have hx6 : x < 64 := by rw [← hx]; exact HV.out k
   obtain ⟨n, hn⟩ : ∃ n, horF p V j = n := ⟨_, rfl⟩
   have hn2 : n < 4398046511104 := by rw [← hn]; exact horF_le hp HV.out hj
   obtain ⟨m, hm⟩ : ∃ m, n * p + x = m := ⟨_, rfl⟩
   have hnp : n * p ≤ 4398046511104 * 64 := Nat.mul_le_mul (by omega) hp
   have HM : Hid (horF p V (j + 1) = m) := Lib.hid (by show horF p V j * p + V (6 - j) = m; rw [hn, hk, hx, hm])
   obtain ⟨y, hy⟩ : ∃ y, n * p = y := ⟨_, rfl⟩
   have hyi : (n : Int) * (p : Int) = (y : Int) := by rw [← hy]; exact (Int.natCast_mul _ _).symm
   rw [hy] at hm hnp
   have hmi : (y : Int) + (x : Int) = (m : Int) := by rw [← hm]; exact (Int.natCast_add _ _).symm
   have hy2 : (y : Int) ≤ 281474976710656 := by omega
   have hm2 : (m : Int) ≤ 281474976710720 := by omega
   have hkz : ¬ (k : Int) < 0 := by omega
   have hws := w64 (n := y) (by omega)
   have hwm := w64 (n := m) (Nat.lt_of_le_of_lt (Int.ofNat_le.1 hm2) (by decide))
   rw [hx] at hc
   have HJ := Lib.hid hk
   rw [hn]
   rw [hki]
   clear hx hn hy hm hk hki h1
   go_wp2
   go_roundw
   case rel => exact ⟨j + 1, hlt, by rw [HM.out], by have h := HJ.out; clear hws hwm; go_num, trivial⟩
   case measure => have h := HJ.out; clear hws hwm; (try simp [intOf]); (try omega)
  ·have h1 : ¬ (0 : Int) ≤ 6 - (j : Int) := by omega
   obtain rfl : j = 7 := by omega
   go_wp2
   go_ret
   exact ⟨rfl, HB0.out⟩
theorem subTimes_c {p a b c : Nat} (hp : 0 < p) (hp6 : p ≤ 64) (ha : a < 64) (hb : b < 64) (hc : c ≤ p) {W : World} : Calls Try.prog 109 #[.int .i64 (p : Nat), .int .i64 (a : Nat), .int .i64 (b : Nat), .int .i64 (c : Nat)] W fun e w' => e = .returned (.int .i64 ((a + b * (p - c)) % p : Nat)) ∧ w' = W := by
 obtain ⟨d, hd⟩ : ∃ d, p - c = d := ⟨_, rfl⟩
 have hdi : (p : Int) - (c : Int) = (d : Int) := by omega
 have hd6 : d ≤ 64 := by omega
 obtain ⟨y, hy⟩ : ∃ y, b * d = y := ⟨_, rfl⟩
 have hy2 : y ≤ 64 * 64 := by rw [← hy]; exact Nat.mul_le_mul (by omega) hd6
 have hyi : (b : Int) * (d : Int) = (y : Int) := by rw [← hy]; exact (Int.natCast_mul _ _).symm
 obtain ⟨m, hm⟩ : ∃ m, a + y = m := ⟨_, rfl⟩
 have hmi : (a : Int) + (y : Int) = (m : Int) := by rw [← hm]; exact (Int.natCast_add _ _).symm
 have hm2 : m ≤ 5000 := by omega
 obtain ⟨r, hr⟩ : ∃ r, m % p = r := ⟨_, rfl⟩
 have hri : (m : Int) % (p : Int) = (r : Int) := by rw [← hr]; exact (Int.natCast_emod _ _).symm
 have hrt : (m : Int).tmod (p : Int) = (r : Int) := by rw [Int.tmod_eq_emod_of_nonneg (by omega)]; exact hri
 have hrp : r < p := by rw [← hr]; exact Nat.mod_lt _ hp
 have hpz : ((p : Int) == 0) = false := by simp; omega
 have hwr := w64 (n := r) (Nat.lt_trans hrp (Nat.lt_of_le_of_lt hp6 (by decide)))
 have hwy := w64 (n := y) (Nat.lt_of_le_of_lt hy2 (by decide))
 have hwm := w64 (n := m) (Nat.lt_of_le_of_lt hm2 (by decide))
 have hwd := w64 (n := d) (Nat.lt_of_le_of_lt hd6 (by decide))
 rw [hd, hy, hm, hr]
 clear hd hy hm hr
 go_enter Try.func109, Try.ntmps109
 go_wp2
 go_ret
 exact ⟨rfl, rfl⟩
end Go.Proofs.Ytdafhhojiioifaa

/- A field where it lies; Size; timesX. -/
namespace Go.Proofs.Ytdafhhojiioifaa
open Go.RowKit Go.Fl Go.Shelf
set_option maxRecDepth 100000
set_option linter.unusedVariables false
set_option linter.unusedSimpArgs false
set_option linter.unusedSectionVars false

structure FldAt (F : Gf) (b cap : Nat) (W : World) : Prop where
 mem : F ∈ fds
 le : F.e ≤ cap
 blk : ∃ c e fz, W.heap[b]? = some (Obj.cells c e fz) ∧ c.size = cap ∧ c.toList.take F.e = F.mod.map fun (n : Nat) => Value.int .i64 (n : Int)
section
variable {F : Gf} {b cap : Nat} {W : World}
theorem FldAt.lt (h : FldAt F b cap W) : b < W.heap.size := by
 obtain ⟨c, e, fz, h1, _⟩ := h.blk
 rcases Nat.lt_or_ge b W.heap.size with h | h
 ·exact h
 ·rw [Array.getElem?_eq_none h] at h1; cases h1
theorem FldAt.of (h : FldAt F b cap W) {w : World} (hb : w.heap[b]? = W.heap[b]?) : FldAt F b cap w := by
 obtain ⟨c, e, fz, h1, h2, h3⟩ := h.blk
 exact ⟨h.mem, h.le, c, e, fz, hb.trans h1, h2, h3⟩
theorem FldAt.below (h : FldAt F b cap W) {w : World} (hb : Below W.heap.size W w) : FldAt F b cap w := h.of (hb.block b h.lt)
theorem mod_len : ∀ F ∈ fds, F.mod.length = F.e := by decide +kernel
/-- what holds of the sizes of a field -/
theorem fd_small : ∀ F ∈ fds, 2 ≤ F.p ∧ F.p ≤ 64 ∧ 1 ≤ F.e ∧ F.e ≤ 6 ∧ F.p ^ F.e = F.q ∧ F.q ≤ 64 ∧ ∀ x ∈ F.mod, x < F.p := by decide +kernel
theorem FldAt.mod (h : FldAt F b cap W) {i : Nat} (hi : i < F.e) : W.cell? ⟨b, i, none⟩ = some (.int .i64 (F.mod.getD i 0 : Nat)) := by
 obtain ⟨c, e, fz, h1, h2, h3⟩ := h.blk
 have hl := mod_len F h.mem
 have e1 : (c.toList.take F.e)[i]? = some (.int .i64 (F.mod.getD i 0 : Nat)) := by
  rw [h3, List.getElem?_map, List.getElem?_eq_getElem (by omega)]
  simp [List.getD_eq_getElem?_getD, List.getElem?_eq_getElem (show i < F.mod.length by omega)]
 rw [List.getElem?_take_of_lt hi, Array.getElem?_toList] at e1
 simp only [World.cell?, h1]
 simpa using e1
end
/-- a field in a box -/
abbrev FB3 (g : Nat) (F : Gf) (b cap : Nat) (w : World) : Prop := w.cell? ⟨g, 0, none⟩ = some (.int .i64 F.p) ∧ w.cell? ⟨g, 1, none⟩ = some (.int .i64 F.e) ∧ w.cell? ⟨g, 2, none⟩ = some (FM F b cap)
theorem fb3_new {F : Gf} {b cap g ty : Nat} (w : World) (hg : w.heap.size = g) : FB3 g F b cap (w.alloc (.cells #[.int .i64 F.p, .int .i64 F.e, FM F b cap] ty)) := by
 subst hg
 exact ⟨World.cell?_alloc_at _ _ _ _ rfl, World.cell?_alloc_at _ _ _ _ rfl, World.cell?_alloc_at _ _ _ _ rfl⟩
theorem FB3.of {g : Nat} {F : Gf} {b cap : Nat} {w w' : World} (h : FB3 g F b cap w) (hb : w'.heap[g]? = w.heap[g]?) : FB3 g F b cap w' :=
 ⟨(World.cell?_of_block (w := w) hb).trans h.1, (World.cell?_of_block (w := w) hb).trans h.2.1, (World.cell?_of_block (w := w) hb).trans h.2.2⟩
theorem FB3.lt {g : Nat} {F : Gf} {b cap : Nat} {w : World} (h : FB3 g F b cap w) : g < w.heap.size := World.block_lt_of_cell? w _ h.1
theorem FB3.below {g : Nat} {F : Gf} {b cap : Nat} {w w' : World} (h : FB3 g F b cap w) (hb : Below w.heap.size w w') : FB3 g F b cap w' := h.of (hb.block g h.lt)
theorem FB3.kept {g : Nat} {F : Gf} {b cap : Nat} {w w' : World} (h : FB3 g F b cap w) {row : Option Nat} (hg : w.grownBy w' row) (hr : ∀ r, row = some r → ∃ o : Obj, w.heap[r]? = some o ∧ o.isCells = false) : FB3 g F b cap w' :=
 ⟨cell_kept h.1 hg hr, cell_kept h.2.1 hg hr, cell_kept h.2.2 hg hr⟩
set_option maxHeartbeats 3200000 in
theorem size_c {F : Gf} (hF : F ∈ fds) {b cap : Nat} {W : World} : Calls Try.prog 80 #[FV F b cap] W fun e w' => e = .returned (.int .i64 (F.q : Nat)) ∧ Below W.heap.size W w' := by
 obtain ⟨h1, h2, h3, h4, h5, h6, -⟩ := fd_small F hF
 obtain ⟨p, hp⟩ : ∃ p, F.p = p := ⟨_, rfl⟩
 obtain ⟨n, hn⟩ : ∃ n, F.e = n := ⟨_, rfl⟩
 obtain ⟨q, hq⟩ : ∃ q, F.q = q := ⟨_, rfl⟩
 obtain ⟨W0, hW0⟩ : ∃ W0, W.alloc (.cells #[.int .i64 p, .int .i64 n, .slice (some ⟨b, 0, none⟩) n cap] 53) = W0 := ⟨_, rfl⟩
 obtain ⟨c0, c1, c2⟩ : FB3 W.heap.size F b cap W0 := by rw [← hW0, ← hp, ← hn]; exact fb3_new W rfl
 have HB0 : Hid (Below W.heap.size W W0) := Lib.hid (by rw [← hW0]; exact (Below.refl _ _).alloc (Nat.le_refl _) _)
 rw [hp] at h1 h2 h5 c0
 rw [hn] at h3 h4 h5 c1
 replace c2 : W0.cell? ⟨W.heap.size, 2, none⟩ = some (.slice (some ⟨b, 0, none⟩) n cap) := by rw [← hn]; exact c2
 show Calls Try.prog 80 #[.agg #[.int .i64 F.p, .int .i64 F.e, .slice (some ⟨b, 0, none⟩) F.e cap]] W fun e w' => e = .returned (.int .i64 (F.q : Nat)) ∧ Below W.heap.size W w'
 rw [hq] at h5 h6 ⊢
 rw [hp, hn]
 clear hp hn hq
 have H5 := Lib.hid h5
 have hpow : Hid (∀ k, k ≤ n → p ^ k ≤ 64) := Lib.hid fun k hk => Nat.le_trans (Nat.pow_le_pow_right (by omega) hk) (by omega)
 have p2 : ¬ (p : Int) < 2 := by omega
 have p3 : ¬ (64 : Int) < (p : Int) := by omega
 have n2 : ¬ (n : Int) < 1 := by omega
 have n3 : ¬ (6 : Int) < (n : Int) := by omega
 clear h5
 go_enter Try.func80, Try.ntmps80
 go_wp2
 go_loopw [3, 32] (fun x i wr => ∃ k : Nat, k ≤ n ∧ x = .int .i64 (p ^ k : Nat) ∧ i = .int .i64 (k : Nat) ∧ wr = W0) (fun _ i _ => n - (intOf i).toNat)
 case atStart => exact ⟨0, Nat.zero_le _, by simp, rfl, by first | exact hW0 | trivial⟩
 case round =>
  obtain ⟨k, hk, rfl, rfl, rfl⟩ := hrel
  clear hW0
  by_cases hlt : k < n
  ·have hli : (k : Int) < (n : Int) := by omega
   obtain ⟨x, hx⟩ : ∃ x, p ^ k = x := ⟨_, rfl⟩
   obtain ⟨y, hy⟩ : ∃ y, x * p = y := ⟨_, rfl⟩
   have hyk : Hid (p ^ (k + 1) = y) := Lib.hid (by rw [Nat.pow_succ, hx, hy])
   have hy6 : y ≤ 64 := by rw [← hyk.out]; exact hpow.out _ (by omega)
   have hyi : (x : Int) * (p : Int) = (y : Int) := by rw [← hy]; exact (Int.natCast_mul _ _).symm
   have hwy := w64 (n := y) (by omega)
   rw [hx]
   clear hx hy
   go_wp2
   go_roundw
   case rel => exact ⟨k + 1, hlt, by rw [hyk.out], by go_num, trivial⟩
   case measure => (try simp [intOf]); (try omega)
  ·have hli : ¬ (k : Int) < (n : Int) := by omega
   obtain rfl : k = n := by omega
   have e5 := H5.out
   have hq6 : ¬ (64 : Int) < (q : Int) := by omega
   rw [e5]
   clear e5
   go_wp2
   go_ret
   exact ⟨rfl, HB0.out⟩
end Go.Proofs.Ytdafhhojiioifaa
