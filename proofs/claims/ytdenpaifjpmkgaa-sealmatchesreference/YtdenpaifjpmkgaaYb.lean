/- SealMatchesReference: the law, walked over what its calls answer. -/
import Derived.Test.YtdenpaifjpmkgaaProg
import Derived.WalkKit
import Derived.Deep.QuietTactic
import Derived.Deep.RegionWith
import Derived.Deep.RegionHeld3
import Derived.BigQuiet
import Derived.Lib.Hide
import Derived.Deep.DeepCutAuto
namespace Go.Proofs.Ytdenpaifjpmkgaa
open Go.RowKit
/-- a call that answers this, in every world that comes of W -/
abbrev Ans (f : FuncId) (args : Array Value) (v : Value) (W : World) : Prop := ∀ w : World, Below W.heap.size W w → Calls Try.prog f args w fun e w' => e = .returned v ∧ Below w.heap.size w w'
def GPost (D : World → Nat → Nat → Prop) (n : Nat) (w : World) (e : Ending) (w' : World) : Prop := ∃ db dc, e = .returned (.slice (some ⟨db, 0, none⟩) n dc) ∧ D w' db dc ∧ Below w.heap.size w w'
def OPost (V : World → Value → Prop) (er : Int) (w : World) (e : Ending) (w' : World) : Prop := ∃ a len cap, e = .returned (.agg #[.slice a len cap, .int .i64 er]) ∧ V w' (.slice a len cap) ∧ Below w.heap.size w w'
theorem keep2 {w1 w w' : World} {p q : Addr} {x y : Value} (h : Below w1.heap.size w1 w ∧ w.cell? p = some x ∧ w.cell? q = some y) (hb : Below w.heap.size w w') (hp : p.block < w1.heap.size) (hq : q.block < w1.heap.size) :
    Below w1.heap.size w1 w' ∧ w'.cell? p = some x ∧ w'.cell? q = some y := by
  obtain ⟨h1, h2, h3⟩ := h
  have hs := h1.size
  exact ⟨h1.trans (hb.mono hs), by rw [hb.cell (by omega)]; exact h2, by rw [hb.cell (by omega)]; exact h3⟩
theorem keep7 {w1 w w' : World} {p0 p1 p2 p3 p4 p5 p6 : Addr} {x0 x1 x2 x3 x4 x5 x6 : Value} (h : Below w1.heap.size w1 w ∧ w.cell? p0 = some x0 ∧ w.cell? p1 = some x1 ∧ w.cell? p2 = some x2 ∧ w.cell? p3 = some x3 ∧ w.cell? p4 = some x4 ∧ w.cell? p5 = some x5 ∧ w.cell? p6 = some x6) (hb : Below w.heap.size w w')
    (b0 : p0.block < w1.heap.size) (b1 : p1.block < w1.heap.size) (b2 : p2.block < w1.heap.size) (b3 : p3.block < w1.heap.size) (b4 : p4.block < w1.heap.size) (b5 : p5.block < w1.heap.size) (b6 : p6.block < w1.heap.size) :
    Below w1.heap.size w1 w' ∧ w'.cell? p0 = some x0 ∧ w'.cell? p1 = some x1 ∧ w'.cell? p2 = some x2 ∧ w'.cell? p3 = some x3 ∧ w'.cell? p4 = some x4 ∧ w'.cell? p5 = some x5 ∧ w'.cell? p6 = some x6 := by
  obtain ⟨h1, h⟩ := h
  have hs := h1.size
  refine ⟨h1.trans (hb.mono hs), ?_⟩
  rw [hb.cell (p := p0) (by omega), hb.cell (p := p1) (by omega), hb.cell (p := p2) (by omega), hb.cell (p := p3) (by omega), hb.cell (p := p4) (by omega), hb.cell (p := p5) (by omega), hb.cell (p := p6) (by omega)]
  exact h
structure Hy (D : World → Nat → Nat → Prop) (V : Nat → World → Value → Prop) (er : Nat → Int) (n : Nat) (lv bv pv : Value) (h wd N pI lf x1 x2 x3 x4 x5 x6 x7 c1 c2 : Int) (W : World) : Prop where
  h9 : Ans 9 #[] (.bool true) W
  h10 : ∀ w : World, Below W.heap.size W w → Calls Try.prog 10 #[pv, .int .i64 n] w (GPost D n w)
  h11 : Ans 11 #[.int .u64 h, .int .u64 wd] (.int .u64 x1) W
  h12 : Ans 12 #[.int .u64 h, .int .u64 wd] (.int .u64 x1) W
  h13 : Ans 13 #[.int .u64 h, .int .u64 wd] (.int .u64 x2) W
  h14 : Ans 14 #[.int .u64 h, .int .u64 wd] (.int .u64 x2) W
  h15 : Ans 15 #[lv] (.int .u64 x3) W
  h16 : Ans 16 #[lv] (.int .u64 x3) W
  h17 : Ans 17 #[bv] (.int .u64 x4) W
  h18 : Ans 18 #[bv] (.int .u64 x4) W
  h19 : Ans 19 #[.int .u64 h, .int .u64 wd] (.int .u64 x5) W
  h20 : Ans 20 #[.int .u64 h, .int .u64 wd] (.int .u64 x5) W
  h21 : Ans 21 #[.int .u64 h, lv] (.int .u64 x6) W
  h22 : Ans 22 #[.int .u64 h, lv] (.int .u64 x6) W
  h23 : ∀ db dc w1 w, D w1 db dc → Below w1.heap.size w1 w → Calls Try.prog 23 #[.slice (some ⟨db, 0, none⟩) n dc] w fun e w' => e = .returned (.int .u64 x7) ∧ Below w.heap.size w w'
  h24 : ∀ db dc w1 w, D w1 db dc → Below w1.heap.size w1 w → Calls Try.prog 24 #[.slice (some ⟨db, 0, none⟩) n dc] w fun e w' => e = .returned (.int .u64 x7) ∧ Below w.heap.size w w'
  h25 : ∀ db dc w1 w (k : Nat), D w1 db dc → Below w1.heap.size w1 w → k ≤ n + 1 → k ≤ 20 → Calls Try.prog 25 #[.slice (some ⟨db, 0, none⟩) n dc, .int .i64 ((k : Int) - 1)] w (OPost (V k) (er k) w)
  h26 : ∀ db dc w1 w (k : Nat), D w1 db dc → Below w1.heap.size w1 w → k ≤ n + 1 → k ≤ 20 → Calls Try.prog 26 #[.slice (some ⟨db, 0, none⟩) n dc, .int .i64 ((k : Int) - 1)] w (OPost (V k) (er k) w)
  h27 : ∀ k a len cap a' len' cap' w, V k w (.slice a len cap) → V k w (.slice a' len' cap') → Calls Try.prog 27 #[.slice a len cap, .slice a' len' cap'] w fun e w' => e = .returned (.bool true) ∧ Below w.heap.size w w'
  mono : ∀ k w w' v, V k w v → Below w.heap.size w w' → V k w' v
  h28 : Ans 28 #[.int .u64 h, .agg #[.int .i64 N, pv], .agg #[.int .i64 pI, .int .u64 lf]] (.int .i64 c1) W
  h29 : Ans 29 #[.int .u64 h, .agg #[.int .i64 N, pv], .agg #[.int .i64 pI, .int .u64 lf]] (.int .i64 c1) W
  h28b : Ans 28 #[.int .u64 h, .agg #[.int .i64 n, pv], .agg #[.int .i64 pI, .int .u64 lf]] (.int .i64 c2) W
  h29b : Ans 29 #[.int .u64 h, .agg #[.int .i64 n, pv], .agg #[.int .i64 pI, .int .u64 lf]] (.int .i64 c2) W
set_option maxHeartbeats 12800000 in
set_option maxRecDepth 100000 in
theorem law3 {D : World → Nat → Nat → Prop} {V : Nat → World → Value → Prop} {er : Nat → Int} {n : Nat} {la ba pa : Option Addr} {ll lc bl bc pl pc : Nat} {h wd N pI lf x1 x2 x3 x4 x5 x6 x7 c1 c2 : Int} {W : World}
    (hy : Hy D V er n (.slice la ll lc) (.slice ba bl bc) (.slice pa pl pc) h wd N pI lf x1 x2 x3 x4 x5 x6 x7 c1 c2 W) (k1 : ll ≤ 200) (k2 : bl ≤ 200) (k3 : pl ≤ 100) (hn : n < 300) (hconv : wrap64 ((IntKind.u64.wrap pI).tmod 300) = n) :
    Calls Try.prog 3 #[.slice la ll lc, .slice ba bl bc, .agg #[.int .u64 h, .int .u64 wd, .int .i64 N, .slice pa pl pc, .int .i64 pI, .int .u64 lf]] W fun e W' => e = .returned (.bool true) ∧ Below W.heap.size W W' := by
  have HY := Lib.hid hy
  clear hy
  have HC := Lib.hid hconv
  clear hconv
  go_enter Try.func3, Try.ntmps3
  go_wp2_with fail
  refine (HY.out.h9 _ ((Below.refl _ _).alloc (Nat.le_refl _) _)).mono ?_
  rintro e w0 ⟨rfl, hb⟩
  have HB : Hid (Below W.heap.size W w0) := Lib.hid (((Below.refl _ _).alloc (Nat.le_refl _) _).trans (hb.mono (by simp)))
  have z0 : w0.cell? ⟨W.heap.size, 0, none⟩ = some (.int .u64 h) := by rw [hb.cell (by simp)]; simp
  have z1 : w0.cell? ⟨W.heap.size, 1, none⟩ = some (.int .u64 wd) := by rw [hb.cell (by simp)]; simp
  have z2 : w0.cell? ⟨W.heap.size, 2, none⟩ = some (.int .i64 N) := by rw [hb.cell (by simp)]; simp
  have z3 : w0.cell? ⟨W.heap.size, 3, none⟩ = some (.slice pa pl pc) := by rw [hb.cell (by simp)]; simp
  have z4 : w0.cell? ⟨W.heap.size, 4, none⟩ = some (.int .i64 pI) := by rw [hb.cell (by simp)]; simp
  have z5 : w0.cell? ⟨W.heap.size, 5, none⟩ = some (.int .u64 lf) := by rw [hb.cell (by simp)]; simp
  have hz : W.heap.size < w0.heap.size := by have := hb.size; simp at this; omega
  clear hb
  go_wp2_with fail
  rw [HC.out]
  refine (HY.out.h10 _ HB.out).mono ?_
  rintro e w1 ⟨db, dc, rfl, hD, hb⟩
  have HD := Lib.hid hD
  clear hD
  have HB1 : Hid (Below W.heap.size W w1) := Lib.hid (HB.out.trans (hb.mono HB.out.size))
  have e0 : w1.cell? ⟨W.heap.size, 0, none⟩ = some (.int .u64 h) := by rw [hb.cell hz]; exact z0
  have e1 : w1.cell? ⟨W.heap.size, 1, none⟩ = some (.int .u64 wd) := by rw [hb.cell hz]; exact z1
  have e2 : w1.cell? ⟨W.heap.size, 2, none⟩ = some (.int .i64 N) := by rw [hb.cell hz]; exact z2
  have e3 : w1.cell? ⟨W.heap.size, 3, none⟩ = some (.slice pa pl pc) := by rw [hb.cell hz]; exact z3
  have e4 : w1.cell? ⟨W.heap.size, 4, none⟩ = some (.int .i64 pI) := by rw [hb.cell hz]; exact z4
  have e5 : w1.cell? ⟨W.heap.size, 5, none⟩ = some (.int .u64 lf) := by rw [hb.cell hz]; exact z5
  have hz1 : W.heap.size < w1.heap.size := by have := hb.size; omega
  have HZ : Hid (∀ w : World, Below w1.heap.size w1 w → ∀ o, w.cell? ⟨W.heap.size, o, none⟩ = w1.cell? ⟨W.heap.size, o, none⟩) := Lib.hid fun w hw o => hw.cell hz1
  clear hb z0 z1 z2 z3 z4 z5
  have HBS : Hid (∀ w : World, (Below w1.heap.size w1 w ∧ w.cell? ⟨W.heap.size, 0, none⟩ = some (.int .u64 h) ∧ w.cell? ⟨W.heap.size, 1, none⟩ = some (.int .u64 wd)) → Below W.heap.size W w) := Lib.hid fun w hw => HB1.out.trans (hw.1.mono HB1.out.size)
  have HBT : Hid (∀ w : World, (Below w1.heap.size w1 w ∧ w.cell? ⟨W.heap.size, 0, none⟩ = some (.int .u64 h) ∧ w.cell? ⟨W.heap.size, 1, none⟩ = some (.int .u64 wd)) → Below w1.heap.size w1 w) := Lib.hid fun w hw => hw.1
  have hS0 : Below w1.heap.size w1 w1.drew ∧ w1.drew.cell? ⟨W.heap.size, 0, none⟩ = some (.int .u64 h) ∧ w1.drew.cell? ⟨W.heap.size, 1, none⟩ = some (.int .u64 wd) := ⟨(Below.refl _ _).drew, e0, e1⟩
  go_wp2_with fail
  simp only [List.append_eq, List.cons_append, List.nil_append]
  go_cut [110] (fun v wx => v = .bool false ∧ Below w1.heap.size w1 wx)
  case first =>
    go_region_held3 (fun w' => Below w1.heap.size w1 w' ∧ w'.cell? ⟨W.heap.size, 0, none⟩ = some (.int .u64 h) ∧ w'.cell? ⟨W.heap.size, 1, none⟩ = some (.int .u64 wd)) (first | (with_reducible exact hS0) | (refine keep2 ?_ hb3 hz1 hz1; assumption))
      (first | (go_at_call 11; with_reducible refine (HY.out.h11 _ (HBS.out _ (by assumption))).mono ?_; rintro e v ⟨rfl, hb3⟩) | (go_at_call 12; with_reducible refine (HY.out.h12 _ (HBS.out _ (by assumption))).mono ?_; rintro e v ⟨rfl, hb3⟩) | (go_at_call 13; with_reducible refine (HY.out.h13 _ (HBS.out _ (by assumption))).mono ?_; rintro e v ⟨rfl, hb3⟩) | (go_at_call 14; with_reducible refine (HY.out.h14 _ (HBS.out _ (by assumption))).mono ?_; rintro e v ⟨rfl, hb3⟩) | (go_at_call 15; with_reducible refine (HY.out.h15 _ (HBS.out _ (by assumption))).mono ?_; rintro e v ⟨rfl, hb3⟩) | (go_at_call 16; with_reducible refine (HY.out.h16 _ (HBS.out _ (by assumption))).mono ?_; rintro e v ⟨rfl, hb3⟩) | (go_at_call 17; with_reducible refine (HY.out.h17 _ (HBS.out _ (by assumption))).mono ?_; rintro e v ⟨rfl, hb3⟩) | (go_at_call 18; with_reducible refine (HY.out.h18 _ (HBS.out _ (by assumption))).mono ?_; rintro e v ⟨rfl, hb3⟩) | (go_at_call 19; with_reducible refine (HY.out.h19 _ (HBS.out _ (by assumption))).mono ?_; rintro e v ⟨rfl, hb3⟩) | (go_at_call 20; with_reducible refine (HY.out.h20 _ (HBS.out _ (by assumption))).mono ?_; rintro e v ⟨rfl, hb3⟩) | (go_at_call 21; with_reducible refine (HY.out.h21 _ (HBS.out _ (by assumption))).mono ?_; rintro e v ⟨rfl, hb3⟩) | (go_at_call 22; with_reducible refine (HY.out.h22 _ (HBS.out _ (by assumption))).mono ?_; rintro e v ⟨rfl, hb3⟩) | (go_at_call 23; with_reducible refine (HY.out.h23 db dc w1 _ HD.out (HBT.out _ (by assumption))).mono ?_; rintro e v ⟨rfl, hb3⟩) | (go_at_call 24; with_reducible refine (HY.out.h24 db dc w1 _ HD.out (HBT.out _ (by assumption))).mono ?_; rintro e v ⟨rfl, hb3⟩))
    all_goals (go_wp2_with fail; go_meet)
    all_goals (exact ⟨rfl, (by assumption : Below w1.heap.size w1 v ∧ v.cell? ⟨W.heap.size, 0, none⟩ = some (.int .u64 h) ∧ v.cell? ⟨W.heap.size, 1, none⟩ = some (.int .u64 wd)).1⟩)
  case rest =>
    obtain ⟨rfl, hv⟩ := hcut
    go_wp2
    go_loopw [9] (fun i wr => ∃ k : Nat, k ≤ n + 2 ∧ k ≤ 21 ∧ i = .int .i64 ((k : Int) - 1) ∧ Below w1.heap.size w1 wr) (fun i _ => (20 - intOf i).toNat)
    case atStart => exact ⟨0, by omega, by omega, by simp, hv⟩
    case round =>
      obtain ⟨k, hk1, hk2, rfl, hbl⟩ := hrel
      by_cases hc1 : k ≤ n + 1
      · by_cases hc2 : k ≤ 20
        · have ha1 : (k : Int) - 1 ≤ n := by omega
          have ha2 : (k : Int) - 1 < 20 := by omega
          go_wp2_with fail
          refine (HY.out.h25 db dc w1 _ k HD.out hbl hc1 hc2).mono ?_
          rintro e v1 ⟨a1, l1, p1, rfl, hV1, hb1⟩
          have HV1 := Lib.hid hV1
          clear hV1
          go_wp2_with fail
          refine (HY.out.h26 db dc w1 _ k HD.out (hbl.trans (hb1.mono hbl.size)) hc1 hc2).mono ?_
          rintro e v2 ⟨a2, l2, p2, rfl, hV2, hb2⟩
          have HV2 := Lib.hid hV2
          clear hV2
          have hX : Below v2.heap.size v2 ((v2.alloc (Obj.cells #[Value.slice a1 l1 p1, Value.int IntKind.i64 (er k)] 42)).alloc (Obj.cells #[Value.slice a2 l2 p2, Value.int IntKind.i64 (er k)] 42)) := ((Below.refl _ _).alloc (Nat.le_refl _) _).alloc (by simp) _
          have HX := Lib.hid hX
          have HB2 : Hid (Below w1.heap.size w1 v2) := Lib.hid ((hbl.trans (hb1.mono hbl.size)).trans (hb2.mono (Nat.le_trans hbl.size hb1.size)))
          have HV3 : Hid (V k v2 (.slice a1 l1 p1)) := Lib.hid (HY.out.mono k _ _ _ HV1.out hb2)
          clear hX hb1 hb2
          go_wp2_with fail
          refine (HY.out.h27 k _ _ _ _ _ _ _ (HY.out.mono k _ _ _ HV3.out HX.out) (HY.out.mono k _ _ _ HV2.out HX.out)).mono ?_
          rintro e v3 ⟨rfl, hb3⟩
          have HB3 : Hid (Below w1.heap.size w1 v3) := Lib.hid (HB2.out.trans ((HX.out.trans (hb3.mono HX.out.size)).mono HB2.out.size))
          clear hb3
          go_wp2
          go_roundw
          case rel => exact ⟨k + 1, by omega, by omega, by first | go_num | (congr 1; omega), HB3.out⟩
          case measure => simp [intOf]; omega
        · have ha2 : ¬ (k : Int) - 1 < 20 := by omega
          have ha1 : (k : Int) - 1 ≤ n := by omega
          have f0 := (HZ.out wr hbl 0).trans e0
          have f2 := (HZ.out wr hbl 2).trans e2
          have f3 := (HZ.out wr hbl 3).trans e3
          have f4 := (HZ.out wr hbl 4).trans e4
          have f5 := (HZ.out wr hbl 5).trans e5
          clear e0 e1 e2 e3 e4 e5
          have hzr : W.heap.size < wr.heap.size := by have := hbl.size; omega
          go_wp2_with fail
          go_cut [175] (fun v wx => v = .bool false ∧ Below wr.heap.size wr wx)
          case first =>
            have g0 : (wr.alloc (.cells #[.int .i64 n, .slice pa pl pc] 27)).cell? ⟨W.heap.size, 0, none⟩ = some (.int .u64 h) := by rw [World.cell?_alloc_past _ _ _ hzr]; exact f0
            have g2 : (wr.alloc (.cells #[.int .i64 n, .slice pa pl pc] 27)).cell? ⟨W.heap.size, 2, none⟩ = some (.int .i64 N) := by rw [World.cell?_alloc_past _ _ _ hzr]; exact f2
            have g3 : (wr.alloc (.cells #[.int .i64 n, .slice pa pl pc] 27)).cell? ⟨W.heap.size, 3, none⟩ = some (.slice pa pl pc) := by rw [World.cell?_alloc_past _ _ _ hzr]; exact f3
            have g4 : (wr.alloc (.cells #[.int .i64 n, .slice pa pl pc] 27)).cell? ⟨W.heap.size, 4, none⟩ = some (.int .i64 pI) := by rw [World.cell?_alloc_past _ _ _ hzr]; exact f4
            have g5 : (wr.alloc (.cells #[.int .i64 n, .slice pa pl pc] 27)).cell? ⟨W.heap.size, 5, none⟩ = some (.int .u64 lf) := by rw [World.cell?_alloc_past _ _ _ hzr]; exact f5
            have g6 : (wr.alloc (.cells #[.int .i64 n, .slice pa pl pc] 27)).cell? ⟨wr.heap.size, 0, none⟩ = some (.int .i64 n) := by rw [World.cell?_alloc_at _ _ _ _ rfl]; rfl
            have g7 : (wr.alloc (.cells #[.int .i64 n, .slice pa pl pc] 27)).cell? ⟨wr.heap.size, 1, none⟩ = some (.slice pa pl pc) := by rw [World.cell?_alloc_at _ _ _ _ rfl]; rfl
            have hT : Below wr.heap.size wr (wr.alloc (.cells #[.int .i64 n, .slice pa pl pc] 27)) := (Below.refl _ _).alloc (Nat.le_refl _) _
            have hTz : wr.heap.size < (wr.alloc (.cells #[.int .i64 n, .slice pa pl pc] 27)).heap.size := by simp
            generalize (wr.alloc (.cells #[.int .i64 n, .slice pa pl pc] 27)) = wt at *
            have hWz : W.heap.size < wt.heap.size := by omega
            have hS0 : Below wt.heap.size wt wt.drew ∧ wt.drew.cell? ⟨W.heap.size, 0, none⟩ = some (.int .u64 h) ∧ wt.drew.cell? ⟨W.heap.size, 2, none⟩ = some (.int .i64 N) ∧ wt.drew.cell? ⟨W.heap.size, 3, none⟩ = some (.slice pa pl pc) ∧ wt.drew.cell? ⟨W.heap.size, 4, none⟩ = some (.int .i64 pI) ∧ wt.drew.cell? ⟨W.heap.size, 5, none⟩ = some (.int .u64 lf) ∧ wt.drew.cell? ⟨wr.heap.size, 0, none⟩ = some (.int .i64 n) ∧ wt.drew.cell? ⟨wr.heap.size, 1, none⟩ = some (.slice pa pl pc) := ⟨(Below.refl _ _).drew, g0, g2, g3, g4, g5, g6, g7⟩
            have HBW : Hid (∀ w : World, (Below wt.heap.size wt w ∧ w.cell? ⟨W.heap.size, 0, none⟩ = some (.int .u64 h) ∧ w.cell? ⟨W.heap.size, 2, none⟩ = some (.int .i64 N) ∧ w.cell? ⟨W.heap.size, 3, none⟩ = some (.slice pa pl pc) ∧ w.cell? ⟨W.heap.size, 4, none⟩ = some (.int .i64 pI) ∧ w.cell? ⟨W.heap.size, 5, none⟩ = some (.int .u64 lf) ∧ w.cell? ⟨wr.heap.size, 0, none⟩ = some (.int .i64 n) ∧ w.cell? ⟨wr.heap.size, 1, none⟩ = some (.slice pa pl pc)) → Below W.heap.size W w) := Lib.hid fun w hw => HB1.out.trans ((hbl.trans ((hT.trans (hw.1.mono hT.size)).mono hbl.size)).mono HB1.out.size)
            clear g0 g2 g3 g4 g5 g6 g7 f0 f2 f3 f4 f5
            go_region_held3 (fun w' => Below wt.heap.size wt w' ∧ w'.cell? ⟨W.heap.size, 0, none⟩ = some (.int .u64 h) ∧ w'.cell? ⟨W.heap.size, 2, none⟩ = some (.int .i64 N) ∧ w'.cell? ⟨W.heap.size, 3, none⟩ = some (.slice pa pl pc) ∧ w'.cell? ⟨W.heap.size, 4, none⟩ = some (.int .i64 pI) ∧ w'.cell? ⟨W.heap.size, 5, none⟩ = some (.int .u64 lf) ∧ w'.cell? ⟨wr.heap.size, 0, none⟩ = some (.int .i64 n) ∧ w'.cell? ⟨wr.heap.size, 1, none⟩ = some (.slice pa pl pc)) (first | (with_reducible exact hS0) | (refine keep7 ?_ hb3 hWz hWz hWz hWz hWz hTz hTz; assumption)) (first | (go_at_call 28; with_reducible refine (HY.out.h28 _ (HBW.out _ (by assumption))).mono ?_; rintro e v ⟨rfl, hb3⟩) | (go_at_call 28; with_reducible refine (HY.out.h28b _ (HBW.out _ (by assumption))).mono ?_; rintro e v ⟨rfl, hb3⟩) | (go_at_call 29; with_reducible refine (HY.out.h29 _ (HBW.out _ (by assumption))).mono ?_; rintro e v ⟨rfl, hb3⟩) | (go_at_call 29; with_reducible refine (HY.out.h29b _ (HBW.out _ (by assumption))).mono ?_; rintro e v ⟨rfl, hb3⟩))
            all_goals (go_wp2_with fail; go_meet)
            all_goals (exact ⟨rfl, hT.trans ((by assumption : Below wt.heap.size wt v ∧ v.cell? ⟨W.heap.size, 0, none⟩ = some (.int .u64 h) ∧ v.cell? ⟨W.heap.size, 2, none⟩ = some (.int .i64 N) ∧ v.cell? ⟨W.heap.size, 3, none⟩ = some (.slice pa pl pc) ∧ v.cell? ⟨W.heap.size, 4, none⟩ = some (.int .i64 pI) ∧ v.cell? ⟨W.heap.size, 5, none⟩ = some (.int .u64 lf) ∧ v.cell? ⟨wr.heap.size, 0, none⟩ = some (.int .i64 n) ∧ v.cell? ⟨wr.heap.size, 1, none⟩ = some (.slice pa pl pc)).1.mono hT.size)⟩)
          case rest =>
            obtain ⟨rfl, hv2⟩ := hcut
            go_wp2
            go_ret
            exact ⟨rfl, HB1.out.trans ((hbl.trans (hv2.mono hbl.size)).mono HB1.out.size)⟩
      · have ha1 : ¬ (k : Int) - 1 ≤ n := by omega
        have f0 := (HZ.out wr hbl 0).trans e0
        have f2 := (HZ.out wr hbl 2).trans e2
        have f3 := (HZ.out wr hbl 3).trans e3
        have f4 := (HZ.out wr hbl 4).trans e4
        have f5 := (HZ.out wr hbl 5).trans e5
        clear e0 e1 e2 e3 e4 e5
        have hzr : W.heap.size < wr.heap.size := by have := hbl.size; omega
        go_wp2_with fail
        go_cut [175] (fun v wx => v = .bool false ∧ Below wr.heap.size wr wx)
        case first =>
          have g0 : (wr.alloc (.cells #[.int .i64 n, .slice pa pl pc] 27)).cell? ⟨W.heap.size, 0, none⟩ = some (.int .u64 h) := by rw [World.cell?_alloc_past _ _ _ hzr]; exact f0
          have g2 : (wr.alloc (.cells #[.int .i64 n, .slice pa pl pc] 27)).cell? ⟨W.heap.size, 2, none⟩ = some (.int .i64 N) := by rw [World.cell?_alloc_past _ _ _ hzr]; exact f2
          have g3 : (wr.alloc (.cells #[.int .i64 n, .slice pa pl pc] 27)).cell? ⟨W.heap.size, 3, none⟩ = some (.slice pa pl pc) := by rw [World.cell?_alloc_past _ _ _ hzr]; exact f3
          have g4 : (wr.alloc (.cells #[.int .i64 n, .slice pa pl pc] 27)).cell? ⟨W.heap.size, 4, none⟩ = some (.int .i64 pI) := by rw [World.cell?_alloc_past _ _ _ hzr]; exact f4
          have g5 : (wr.alloc (.cells #[.int .i64 n, .slice pa pl pc] 27)).cell? ⟨W.heap.size, 5, none⟩ = some (.int .u64 lf) := by rw [World.cell?_alloc_past _ _ _ hzr]; exact f5
          have g6 : (wr.alloc (.cells #[.int .i64 n, .slice pa pl pc] 27)).cell? ⟨wr.heap.size, 0, none⟩ = some (.int .i64 n) := by rw [World.cell?_alloc_at _ _ _ _ rfl]; rfl
          have g7 : (wr.alloc (.cells #[.int .i64 n, .slice pa pl pc] 27)).cell? ⟨wr.heap.size, 1, none⟩ = some (.slice pa pl pc) := by rw [World.cell?_alloc_at _ _ _ _ rfl]; rfl
          have hT : Below wr.heap.size wr (wr.alloc (.cells #[.int .i64 n, .slice pa pl pc] 27)) := (Below.refl _ _).alloc (Nat.le_refl _) _
          have hTz : wr.heap.size < (wr.alloc (.cells #[.int .i64 n, .slice pa pl pc] 27)).heap.size := by simp
          generalize (wr.alloc (.cells #[.int .i64 n, .slice pa pl pc] 27)) = wt at *
          have hWz : W.heap.size < wt.heap.size := by omega
          have hS0 : Below wt.heap.size wt wt.drew ∧ wt.drew.cell? ⟨W.heap.size, 0, none⟩ = some (.int .u64 h) ∧ wt.drew.cell? ⟨W.heap.size, 2, none⟩ = some (.int .i64 N) ∧ wt.drew.cell? ⟨W.heap.size, 3, none⟩ = some (.slice pa pl pc) ∧ wt.drew.cell? ⟨W.heap.size, 4, none⟩ = some (.int .i64 pI) ∧ wt.drew.cell? ⟨W.heap.size, 5, none⟩ = some (.int .u64 lf) ∧ wt.drew.cell? ⟨wr.heap.size, 0, none⟩ = some (.int .i64 n) ∧ wt.drew.cell? ⟨wr.heap.size, 1, none⟩ = some (.slice pa pl pc) := ⟨(Below.refl _ _).drew, g0, g2, g3, g4, g5, g6, g7⟩
          have HBW : Hid (∀ w : World, (Below wt.heap.size wt w ∧ w.cell? ⟨W.heap.size, 0, none⟩ = some (.int .u64 h) ∧ w.cell? ⟨W.heap.size, 2, none⟩ = some (.int .i64 N) ∧ w.cell? ⟨W.heap.size, 3, none⟩ = some (.slice pa pl pc) ∧ w.cell? ⟨W.heap.size, 4, none⟩ = some (.int .i64 pI) ∧ w.cell? ⟨W.heap.size, 5, none⟩ = some (.int .u64 lf) ∧ w.cell? ⟨wr.heap.size, 0, none⟩ = some (.int .i64 n) ∧ w.cell? ⟨wr.heap.size, 1, none⟩ = some (.slice pa pl pc)) → Below W.heap.size W w) := Lib.hid fun w hw => HB1.out.trans ((hbl.trans ((hT.trans (hw.1.mono hT.size)).mono hbl.size)).mono HB1.out.size)
          clear g0 g2 g3 g4 g5 g6 g7 f0 f2 f3 f4 f5
          go_region_held3 (fun w' => Below wt.heap.size wt w' ∧ w'.cell? ⟨W.heap.size, 0, none⟩ = some (.int .u64 h) ∧ w'.cell? ⟨W.heap.size, 2, none⟩ = some (.int .i64 N) ∧ w'.cell? ⟨W.heap.size, 3, none⟩ = some (.slice pa pl pc) ∧ w'.cell? ⟨W.heap.size, 4, none⟩ = some (.int .i64 pI) ∧ w'.cell? ⟨W.heap.size, 5, none⟩ = some (.int .u64 lf) ∧ w'.cell? ⟨wr.heap.size, 0, none⟩ = some (.int .i64 n) ∧ w'.cell? ⟨wr.heap.size, 1, none⟩ = some (.slice pa pl pc)) (first | (with_reducible exact hS0) | (refine keep7 ?_ hb3 hWz hWz hWz hWz hWz hTz hTz; assumption)) (first | (go_at_call 28; with_reducible refine (HY.out.h28 _ (HBW.out _ (by assumption))).mono ?_; rintro e v ⟨rfl, hb3⟩) | (go_at_call 28; with_reducible refine (HY.out.h28b _ (HBW.out _ (by assumption))).mono ?_; rintro e v ⟨rfl, hb3⟩) | (go_at_call 29; with_reducible refine (HY.out.h29 _ (HBW.out _ (by assumption))).mono ?_; rintro e v ⟨rfl, hb3⟩) | (go_at_call 29; with_reducible refine (HY.out.h29b _ (HBW.out _ (by assumption))).mono ?_; rintro e v ⟨rfl, hb3⟩))
          all_goals (go_wp2_with fail; go_meet)
          all_goals (exact ⟨rfl, hT.trans ((by assumption : Below wt.heap.size wt v ∧ v.cell? ⟨W.heap.size, 0, none⟩ = some (.int .u64 h) ∧ v.cell? ⟨W.heap.size, 2, none⟩ = some (.int .i64 N) ∧ v.cell? ⟨W.heap.size, 3, none⟩ = some (.slice pa pl pc) ∧ v.cell? ⟨W.heap.size, 4, none⟩ = some (.int .i64 pI) ∧ v.cell? ⟨W.heap.size, 5, none⟩ = some (.int .u64 lf) ∧ v.cell? ⟨wr.heap.size, 0, none⟩ = some (.int .i64 n) ∧ v.cell? ⟨wr.heap.size, 1, none⟩ = some (.slice pa pl pc)).1.mono hT.size)⟩)
        case rest =>
          obtain ⟨rfl, hv2⟩ := hcut
          go_wp2
          go_ret
          exact ⟨rfl, HB1.out.trans ((hbl.trans (hv2.mono hbl.size)).mono HB1.out.size)⟩
end Go.Proofs.Ytdenpaifjpmkgaa
