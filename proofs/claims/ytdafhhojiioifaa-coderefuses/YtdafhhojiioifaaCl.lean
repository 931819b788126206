/- Valid, Dim, Count, Dual. -/
import Derived.Test.YtdafhhojiioifaaCj
import Derived.Test.YtdafhhojiioifaaEvWn
namespace Go.Proofs.Ytdafhhojiioifaa
open Go.RowKit Go.Fl
set_option maxRecDepth 100000
set_option linter.unusedVariables false
set_option linter.unusedSimpArgs false
set_option linter.unusedSectionVars false

theorem own_bc {w : World} {b e s m g : Nat} {v : Value} {xs vs : List Value} {ty : TypeId} (h : w.ownsRow b e s v m xs) (hb : BC g vs ty w) (hne : e ≠ ty) : ∀ k, v.ownBlock = some k → ¬ k = g := by
 intro k hk he
 rcases h.2 with ⟨rfl, _⟩ | ⟨g', cap, cur, rfl, _, g3, _⟩
 ·cases hk
 ·injection hk with hk
  have e1 : g' = g := hk.trans he
  rw [e1] at g3
  unfold BC at hb
  rw [hb] at g3
  injection g3 with g3
  injection g3 with _ g3 _
  exact hne g3.symm
theorem OL.bc {D : List (List Nat)} {us : List Value} {base g : Nat} {w w' : World} {v : Value} {vs : List Value} {ty : TypeId} (h : OL D us base w v) (hb : BC g vs ty w) (h1 : 39 ≠ ty) (h2 : 3 ≠ ty) (hx : Bx (fun k => k = g) w w') : OL D us base w' v :=
 OL.bx h hx (own_bc h.own hb h1) fun i hi => own_bc (h.row i hi) hb h2
/-- valid codes -/
structure VC (F : Gf) (n m : Nat) (G : List (List Nat)) (L : List (Nat × Cf)) : Prop where
 gc : GC F n m G
 rm : RM F n G L
theorem VC.ok {F : Gf} {n m : Nat} {G : List (List Nat)} {L : List (Nat × Cf)} (h : VC F n m G L) : Ok F := ok_mem h.gc.mem
theorem VC.ar {F : Gf} {n m : Nat} {G : List (List Nat)} {L : List (Nat × Cf)} (h : VC F n m G L) : arB n G = true := h.rm.ar h.ok
set_option maxHeartbeats 3200000 in
theorem valid_c {F : Gf} {n m cg : Nat} {G : List (List Nat)} {ga : Option Addr} {W : World} (hC : GC F n m G) (ng : MM G W (.slice ga m cg)) :
  Calls Try.prog 15 #[DV F.q n (.slice ga m cg)] W fun e w' => e = .returned (.bool (arB n G)) ∧ Below W.heap.size W w' := by
 obtain ⟨W1, hW1⟩ : ∃ W1, W.alloc (.cells #[.int .i64 (F.q : Nat), .int .i64 (n : Nat), .slice ga m cg] 32) = W1 := ⟨_, rfl⟩
 have HB1 : Hid (Below W.heap.size W W1) := Lib.hid (by rw [← hW1]; exact (Below.refl _ _).alloc (Nat.le_refl _) _)
 have HC1 : Hid (BC W.heap.size [.int .i64 (F.q : Nat), .int .i64 (n : Nat), .slice ga m cg] 32 W1) := Lib.hid (by rw [← hW1]; exact BC.new W [.int .i64 (F.q : Nat), .int .i64 (n : Nat), .slice ga m cg] 32 rfl)
 have HS1 : Hid (W1.heap.size = W.heap.size + 1) := Lib.hid (by rw [← hW1]; simp)
 have HA : Hid (Calls Try.prog 54 #[DV F.q n (.slice ga m cg)] W1 fun e w' => ∃ b cap, e = .returned (.tuple #[XV F b cap n, .bool (arB n G)]) ∧ FldAt F b cap w' ∧ Below W1.heap.size W1 w' ∧ W1.heap.size ≤ b) := Lib.hid (around_c hC (ng.below HB1.out))
 obtain ⟨T, hT⟩ : ∃ T, Hid (arB n G = T) := ⟨_, Lib.hid rfl⟩
 rw [hT.out] at HA ⊢
 obtain ⟨q, hqq⟩ : ∃ q, Hid (F.q = q) := ⟨_, Lib.hid rfl⟩
 rw [hqq.out] at HA HC1 hW1 ⊢
 have HW1 := Lib.hid hW1
 have c0 := HC1.out.cell (i := 0) rfl
 have c1 := HC1.out.cell (i := 1) rfl
 have c2 := HC1.out.cell (i := 2) rfl
 clear hW1 hC ng
 go_enter Try.func15, Try.ntmps15
 go_wp2_with fail
 rw [HW1.out]
 go_wp2_with fail
 with_reducible refine HA.out.mono ?_
 rintro e w2 ⟨b, cap, rfl, -, hb2, -⟩
 have HBF : Hid (Below W.heap.size W (w2.alloc (.cells (XC F b cap n) 73))) := Lib.hid (HB1.out.trans ((hb2.trans ((Below.refl _ _).alloc hb2.size _)).mono HB1.out.size))
 clear hb2 HA c0 c1 c2
 go_wp2
 go_ret
 exact ⟨rfl, HBF.out⟩
set_option maxHeartbeats 3200000 in
theorem dim_c {F : Gf} {n m cg : Nat} {G : List (List Nat)} {L : List (Nat × Cf)} {ga : Option Addr} {W : World} (hC : VC F n m G L) (ng : MM G W (.slice ga m cg)) :
  Calls Try.prog 37 #[DV F.q n (.slice ga m cg)] W fun e w' => e = .returned (.int .i64 (m : Nat)) ∧ Below W.heap.size W w' := by
 obtain ⟨W1, hW1⟩ : ∃ W1, W.alloc (.cells #[.int .i64 (F.q : Nat), .int .i64 (n : Nat), .slice ga m cg] 32) = W1 := ⟨_, rfl⟩
 have HB1 : Hid (Below W.heap.size W W1) := Lib.hid (by rw [← hW1]; exact (Below.refl _ _).alloc (Nat.le_refl _) _)
 have HC1 : Hid (BC W.heap.size [.int .i64 (F.q : Nat), .int .i64 (n : Nat), .slice ga m cg] 32 W1) := Lib.hid (by rw [← hW1]; exact BC.new W [.int .i64 (F.q : Nat), .int .i64 (n : Nat), .slice ga m cg] 32 rfl)
 have HS1 : Hid (W1.heap.size = W.heap.size + 1) := Lib.hid (by rw [← hW1]; simp)
 have HA : Hid (Calls Try.prog 15 #[DV F.q n (.slice ga m cg)] W1 fun e w' => e = .returned (.bool true) ∧ Below W1.heap.size W1 w') := Lib.hid (by have := valid_c hC.gc (ng.below HB1.out); rw [hC.ar] at this; exact this)
 obtain ⟨q, hqq⟩ : ∃ q, Hid (F.q = q) := ⟨_, Lib.hid rfl⟩
 rw [hqq.out] at HA HC1 hW1 ⊢
 have HW1 := Lib.hid hW1
 have c0 := HC1.out.cell (i := 0) rfl
 have c1 := HC1.out.cell (i := 1) rfl
 have c2 := HC1.out.cell (i := 2) rfl
 clear hW1 hC ng
 go_enter Try.func37, Try.ntmps37
 go_wp2_with fail
 rw [HW1.out]
 go_wp2_with fail
 with_reducible refine HA.out.mono ?_
 rintro e w2 ⟨rfl, hb2⟩
 have HBF : Hid (Below W.heap.size W w2) := Lib.hid (HB1.out.trans (hb2.mono HB1.out.size))
 have HC2 := Lib.hid (HC1.out.below hb2)
 clear hb2 HA c0 c1 c2
 have c2 := HC2.out.cell (i := 2) rfl
 go_wp2
 go_ret
 exact ⟨rfl, HBF.out⟩
/-- the number of words, 4097 for more than 4096 -/
def cnK (q : Nat) : Nat → Nat
 | 0 => 1
 | k + 1 => if cnK q k * q < 4097 then cnK q k * q else 4097
theorem cnK_le (q : Nat) : ∀ k, cnK q k ≤ 4097
 | 0 => by show 1 ≤ 4097; omega
 | k + 1 => by unfold cnK; split <;> omega
set_option maxHeartbeats 3200000 in
theorem count_c {F : Gf} {n m cg : Nat} {G : List (List Nat)} {L : List (Nat × Cf)} {ga : Option Addr} {W : World} (hC : VC F n m G L) (ng : MM G W (.slice ga m cg)) :
  Calls Try.prog 35 #[DV F.q n (.slice ga m cg)] W fun e w' => e = .returned (.int .i64 (cnK F.q m : Nat)) ∧ Below W.heap.size W w' := by
 obtain ⟨W1, hW1⟩ : ∃ W1, W.alloc (.cells #[.int .i64 (F.q : Nat), .int .i64 (n : Nat), .slice ga m cg] 32) = W1 := ⟨_, rfl⟩
 have HB1 : Hid (Below W.heap.size W W1) := Lib.hid (by rw [← hW1]; exact (Below.refl _ _).alloc (Nat.le_refl _) _)
 have HC1 : Hid (BC W.heap.size [.int .i64 (F.q : Nat), .int .i64 (n : Nat), .slice ga m cg] 32 W1) := Lib.hid (by rw [← hW1]; exact BC.new W [.int .i64 (F.q : Nat), .int .i64 (n : Nat), .slice ga m cg] 32 rfl)
 have HS1 : Hid (W1.heap.size = W.heap.size + 1) := Lib.hid (by rw [← hW1]; simp)
 have HA : Hid (Calls Try.prog 15 #[DV F.q n (.slice ga m cg)] W1 fun e w' => e = .returned (.bool true) ∧ Below W1.heap.size W1 w') := Lib.hid (by have := valid_c hC.gc (ng.below HB1.out); rw [hC.ar] at this; exact this)
 have hq := hC.gc.q
 have hmm := hC.gc.hm
 obtain ⟨q, hqq⟩ : ∃ q, Hid (F.q = q) := ⟨_, Lib.hid rfl⟩
 rw [hqq.out] at HA HC1 hW1 hq ⊢
 have HW1 := Lib.hid hW1
 have c0 := HC1.out.cell (i := 0) rfl
 have c1 := HC1.out.cell (i := 1) rfl
 have c2 := HC1.out.cell (i := 2) rfl
 clear hW1 hC ng
 go_enter Try.func35, Try.ntmps35
 go_wp2_with fail
 rw [HW1.out]
 go_wp2_with fail
 with_reducible refine HA.out.mono ?_
 rintro e w2 ⟨rfl, hb2⟩
 have HBF : Hid (Below W.heap.size W w2) := Lib.hid (HB1.out.trans (hb2.mono HB1.out.size))
 have HC2 := Lib.hid (HC1.out.below hb2)
 clear hb2 HA c0 c1 c2
 have c0 := HC2.out.cell (i := 0) rfl
 have c2 := HC2.out.cell (i := 2) rfl
 go_wp2
 go_loopw [3, 10] (fun s i wr => ∃ k c : Nat, k ≤ m ∧ c ≤ 4097 ∧ s = .int .i64 (c : Nat) ∧ i = .int .i64 k ∧ Hid (cnK q k = c) ∧ wr = w2) (fun _ i _ => m - (intOf i).toNat)
 case atStart => exact ⟨0, 1, Nat.zero_le _, by omega, rfl, rfl, Lib.hid rfl, rfl⟩
 case round =>
  obtain ⟨k, c, hk, hc, rfl, rfl, KC, rfl⟩ := hrel
  by_cases hlt : k < m
  ·obtain ⟨d, hd⟩ : ∃ d, c * q = d := ⟨_, rfl⟩
   have hdi : (c : Int) * (q : Int) = (d : Int) := by rw [← hd]; exact (Int.natCast_mul _ _).symm
   have hdb : d ≤ 4097 * 16 := by rw [← hd]; exact Nat.mul_le_mul hc hq
   have hdw : IntKind.i64.wrap (d : Int) = (d : Int) := w64 (by omega)
   have HST : Hid (cnK q (k + 1) = if d < 4097 then d else 4097) := Lib.hid (by show (if cnK q k * q < 4097 then cnK q k * q else 4097) = _; rw [KC.out, hd])
   have hkk : k < 1000 := by omega
   clear hd
   by_cases h4 : d < 4097
   ·have HS2 : Hid (cnK q (k + 1) = d) := Lib.hid (by rw [HST.out, if_pos h4])
    have h4i : (d : Int) < 4097 := by omega
    go_wp2
    go_roundw
    case rel => exact ⟨k + 1, d, by omega, by omega, by go_num, by go_num, HS2, trivial⟩
    case measure => simp [intOf]; omega
   ·have HS2 : Hid (cnK q (k + 1) = 4097) := Lib.hid (by rw [HST.out, if_neg h4])
    have h4i : ¬ (d : Int) < 4097 := by omega
    go_wp2
    go_roundw
    case rel => exact ⟨k + 1, 4097, by omega, by omega, by go_num, by go_num, HS2, trivial⟩
    case measure => simp [intOf]; omega
  ·obtain rfl : k = m := by omega
   have hlt1 : ¬ (k : Int) < (k : Int) := by omega
   go_wp2
   go_ret
   exact ⟨by rw [KC.out]; rfl, HBF.out⟩
/-- a code is answered, whose rows are of the call's own -/
def CP (q n : Nat) (R : List (List Nat)) (W : World) (e : Ending) (w' : World) : Prop := ∃ us a c, e = .returned (DV q n (.slice a R.length c)) ∧ OL R us W.heap.size w' (.slice a R.length c) ∧ Below W.heap.size W w'
abbrev AT (B x : Nat) (F : Gf) (b cap n q : Nat) (g : Value) (w3 w : World) : Prop := (w.cell? ⟨B, 0, none⟩ = some (.int .i64 (q : Nat)) ∧ w.cell? ⟨B, 1, none⟩ = some (.int .i64 (n : Nat)) ∧ w.cell? ⟨B, 2, none⟩ = some g) ∧ XB x F b cap n w ∧ Hid (Bx (fun k => k = B + 1) w3 w ∧ B + 1 < x ∧ x < w3.heap.size)
theorem AT.bx {B x : Nat} {F : Gf} {b cap n q : Nat} {g : Value} {w3 w w' : World} (h : AT B x F b cap n q g w3 w) (hb : Bx (fun k => k = B + 1) w w') : AT B x F b cap n q g w3 w' := by
 obtain ⟨⟨h0, h0', h1⟩, h2, h3⟩ := h
 obtain ⟨h4, h5, h6⟩ := h3.out
 have hs := h4.size
 have hx : ∀ i, w'.cell? ⟨x, i, none⟩ = w.cell? ⟨x, i, none⟩ := fun i => hb.cell (p := ⟨x, i, none⟩) (show x < w.heap.size by omega) (show ¬ x = B + 1 by omega)
 have hy : ∀ i, w'.cell? ⟨B, i, none⟩ = w.cell? ⟨B, i, none⟩ := fun i => hb.cell (p := ⟨B, i, none⟩) (show B < w.heap.size by omega) (show ¬ B = B + 1 by omega)
 exact ⟨⟨(hy 0).trans h0, (hy 1).trans h0', (hy 2).trans h1⟩, ⟨(hx 0).trans h2.1, (hx 1).trans h2.2.1, (hx 2).trans h2.2.2.1, (hx 3).trans h2.2.2.2⟩, Lib.hid ⟨h4.trans hb, h5, h6⟩⟩
theorem AT.keep {B x : Nat} {F : Gf} {b cap n q : Nat} {g : Value} {w3 w w' : World} (h : AT B x F b cap n q g w3 w) (hb : Below w.heap.size w w') : AT B x F b cap n q g w3 w' := AT.bx h ((Bx.of (S := fun k => k = B + 1) hb))
theorem RM.self {F : Gf} (hF : Ok F) {n : Nat} {G : List (List Nat)} {L : List (Nat × Cf)} (h : RM F n G L) : redL F n (G.map Go.Fl.fn) = L := by
 rw [h.eq, rows_map hF h.red]
 obtain ⟨h1, h2, -⟩ := redL_ok hF (fun v hv => by obtain ⟨a, ha, rfl⟩ := List.mem_map.1 hv; exact ⟨(h.red.ro a ha).el, (h.red.ro a ha).hi⟩ : Vs F n (L.map Prod.snd))
 exact RedL.ext hF h1 h.red h2
abbrev ZC : Array Value := #[.int .i64 0, .int .i64 0, .slice none 0 0]
set_option maxHeartbeats 6400000 in
theorem dual_c {F : Gf} {n m cg : Nat} {G : List (List Nat)} {L : List (Nat × Cf)} {ga : Option Addr} {W : World} (hC : VC F n m G L) (ng : MM G W (.slice ga m cg)) :
  Calls Try.prog 26 #[DV F.q n (.slice ga m cg)] W (CP F.q n (kerM F n G) W) := by
 have HFF : Hid (Ok F) := Lib.hid hC.ok
 have HGL := Lib.hid hC.rm
 have HLL : Hid (L.length = m) := Lib.hid (by rw [← hC.rm.len, hC.gc.len])
 have HKE : Hid (redM F n (Dk F L n n) = kerM F n G) := Lib.hid (by
  have := Dk_ker hC.ok (hC.rm.mn hC.ok)
  rw [hC.rm.self hC.ok] at this; exact this)
 have hm := hC.gc.hm
 have hn2 := hC.gc.n2
 obtain ⟨W1, hW1⟩ : ∃ W1, (W.alloc (.cells #[.int .i64 (F.q : Nat), .int .i64 (n : Nat), .slice ga m cg] 32)).alloc (.cells ZC 32) = W1 := ⟨_, rfl⟩
 have HB1 : Hid (Below W.heap.size W W1) := Lib.hid (by rw [← hW1]; exact ((Below.refl _ _).alloc (Nat.le_refl _) _).alloc (by simp) _)
 have HR1 : Hid (BC (W.heap.size + 1) ZC.toList 32 W1) := Lib.hid (by rw [← hW1]; exact BC.new _ ZC.toList 32 (by simp))
 have HC1 : Hid (BC W.heap.size [.int .i64 (F.q : Nat), .int .i64 (n : Nat), .slice ga m cg] 32 W1) := Lib.hid (by rw [← hW1]; exact (BC.new W [.int .i64 (F.q : Nat), .int .i64 (n : Nat), .slice ga m cg] 32 rfl).alloc _)
 have HS1 : Hid (W1.heap.size = W.heap.size + 2) := Lib.hid (by rw [← hW1]; simp)
 have HNG := Lib.hid ng
 have HA : Hid (Calls Try.prog 54 #[DV F.q n (.slice ga m cg)] W1 fun e w' => ∃ b cap, e = .returned (.tuple #[XV F b cap n, .bool true]) ∧ FldAt F b cap w' ∧ Below W1.heap.size W1 w' ∧ W1.heap.size ≤ b) := Lib.hid (by have := around_c hC.gc (ng.below HB1.out); rw [hC.ar] at this; exact this)
 obtain ⟨q, hqq⟩ : ∃ q, Hid (F.q = q) := ⟨_, Lib.hid rfl⟩
 rw [hqq.out] at HA HC1 hW1 ⊢
 obtain ⟨l1, HDL⟩ : ∃ l, Hid ((Dk F L n n).length = l) := ⟨_, Lib.hid rfl⟩
 obtain ⟨l2, HKL⟩ : ∃ l, Hid ((kerM F n G).length = l) := ⟨_, Lib.hid rfl⟩
 have HW1 := Lib.hid hW1
 have c0 := HC1.out.cell (i := 0) rfl
 have c1 := HC1.out.cell (i := 1) rfl
 have c2 := HC1.out.cell (i := 2) rfl
 clear hW1 hC ng
 go_enter Try.func26, Try.ntmps26
 go_upto_region 1 with fail
 rw [HW1.out]
 go_wp2_with fail
 with_reducible refine HA.out.mono ?_
 rintro e w2 ⟨b, cap, rfl, hfa, hb2, hbl⟩
 obtain ⟨w3, hw3⟩ : ∃ w3, w3 = w2.alloc (.cells (XC F b cap n) 73) := ⟨_, rfl⟩
 obtain ⟨x, hx⟩ : ∃ x, x = w2.heap.size := ⟨_, rfl⟩
 have HAL : Hid (Below w2.heap.size w2 w3) := Lib.hid (by rw [hw3]; exact (Below.refl _ _).alloc (Nat.le_refl _) _)
 have HXB : Hid (XB x F b cap n w3) := Lib.hid (by rw [hw3, hx]; exact xb_new w2 rfl)
 have HSX : Hid (W.heap.size + 1 < x ∧ x < w3.heap.size) := Lib.hid ⟨by have := hb2.size; have := HS1.out; omega, by rw [hw3, hx]; simp⟩
 have HFA3 := Lib.hid (hfa.below HAL.out)
 have HR3 := Lib.hid ((HR1.out.below hb2).below HAL.out)
 have HC3 := Lib.hid ((HC1.out.below hb2).below HAL.out)
 have HB3 : Hid (Below W.heap.size W w3) := Lib.hid (HB1.out.trans ((hb2.trans (HAL.out.mono hb2.size)).mono HB1.out.size))
 have HBW : Hid (∀ w, Bx (fun k => k = W.heap.size + 1) w3 w → Below W.heap.size W w) := Lib.hid fun w hw => HB3.out.trans (hw.below HB3.out.size fun k hk => by omega)
 have HNW : Hid (∀ w, Bx (fun k => k = W.heap.size + 1) w3 w → MM G w (.slice ga m cg)) := Lib.hid fun w hw => HNG.out.below (HBW.out w hw)
 have HBB : Hid (W.heap.size + 1 < b) := Lib.hid (by have := HS1.out; omega)
 have hS0 : AT W.heap.size x F b cap n q (.slice ga m cg) w3 w3.drew := ⟨⟨HC3.out.cell (i := 0) rfl, HC3.out.cell (i := 1) rfl, HC3.out.cell (i := 2) rfl⟩, HXB.out, Lib.hid ⟨(Bx.refl _ _).drew, HSX.out⟩⟩
 have HW3 := Lib.hid hw3
 have HXX := Lib.hid hx
 clear hfa hb2 hbl HA c0 c1 c2 hw3 hx
 go_upto_region 4 with fail
 rw [← HW3.out, ← HXX.out]
 go_wp2_with fail
 refine wp_region_held_drew (S := fun w' => AT W.heap.size x F b cap n q (.slice ga m cg) w3 w') (by kernel_rfl) (by with_reducible exact hS0) (fun hHeld => ?_)
 refine Rg.tk 0 ⟨some 13,.fieldAddr 32 (.tmp 1) 0,0,"code.go:60",#[],none⟩ ?_
 try simp only [Rg.gp]
 refine Rg.tk 1 ⟨some 14,.load 3 (.tmp 13),3,"code.go:60",#[⟨0,.data⟩],none⟩ ?_
 try simp only [Rg.gp]
 refine Rg.tk 2 ⟨some 15,.fieldAddr 32 (.tmp 1) 1,0,"code.go:60",#[],none⟩ ?_
 try simp only [Rg.gp]
 refine Rg.tk 3 ⟨some 16,.load 3 (.tmp 15),3,"code.go:60",#[⟨2,.data⟩],none⟩ ?_
 try simp only [Rg.gp]
 refine Rg.tk 4 ⟨some 17,.load 73 (.tmp 3),73,"code.go:60",#[],none⟩ ?_
 try simp only [Rg.gp]
 refine Rg.tk 5 ⟨some 18,.load 73 (.tmp 3),73,"code.go:60",#[],none⟩ ?_
 try simp only [Rg.gp]
 refine Rg.tk 6 ⟨some 19,.fieldAddr 32 (.tmp 1) 2,0,"code.go:60",#[],none⟩ ?_
 try simp only [Rg.gp]
 refine Rg.tk 7 ⟨some 20,.load 22 (.tmp 19),22,"code.go:60",#[⟨6,.data⟩],none⟩ ?_
 try simp only [Rg.gp]
 refine Rg.rd1 8 ⟨some 21,.call ⟨.value (.func 66),#[.tmp 18,.tmp 20],#[73,22]⟩,22,"code.go:60",#[⟨5,.data⟩,⟨7,.data⟩],none⟩ fun K hK => ?_
 go_simp
 go_at_call 66
 with_reducible refine (show Calls Try.prog 66 #[XV F b cap n, .slice ga m cg] _ (RL (Dk F L n n) _) from orthogonal_c (HFA3.out.bx hHeld.2.2.out.1 (fun e => by have := HBB.out; omega)) (by omega) hm HGL.out HLL.out (HNW.out _ hHeld.2.2.out.1)).mono ?_
 rintro z v1 ⟨us1, a1, c1, rfl, ho1, hb3⟩
 have HR4 := Lib.hid (HR3.out.drew.below hb3)
 have HO1 := Lib.hid ho1
 rw [HDL.out] at HO1 ⊢
 refine hK.out _ _ ?_ (fun hHeld => ?_)
 ·(try dsimp only)
  exact AT.keep hHeld hb3
 clear hK K
 try simp only [Rg.gp]
 refine Rg.rd1 9 ⟨some 22,.call ⟨.value (.func 51),#[.tmp 17,.tmp 21],#[73,22]⟩,22,"code.go:60",#[⟨4,.data⟩,⟨8,.data⟩,⟨8,.chain⟩],none⟩ fun K hK => ?_
 go_simp
 go_at_call 51
 with_reducible refine (show Calls Try.prog 51 #[XV F b cap n, .slice a1 l1 c1] _ (RL (redM F n (Dk F L n n)) _) from reduced_c (HFA3.out.bx hHeld.2.2.out.1 (fun e => by have := HBB.out; omega)) (by omega) (by have := Dk_len (F := F) L n n; rw [HDL.out] at this; omega) (Dk_mn HFF.out n) HDL.out (by have := HO1.out.mm; exact this)).mono ?_
 rw [HKE.out]
 rintro z v2 ⟨us2, a2, c2, rfl, ho2, hb4⟩
 have HR5 := Lib.hid (HR4.out.below hb4)
 have HO2 := Lib.hid ho2
 rw [HKL.out] at HO2 ⊢
 refine hK.out _ _ ?_ (fun hHeld => ?_)
 ·(try dsimp only)
  exact AT.keep hHeld hb4
 clear hK K
 try simp only [Rg.gp]
 refine Rg.tk 10 ⟨some 23,.build 32 #[(0, .tmp 14), (1, .tmp 16), (2, .tmp 22)],32,"code.go:60",#[⟨1,.data⟩,⟨3,.data⟩,⟨9,.data⟩],none⟩ ?_
 try simp only [Rg.gp]
 refine Rg.rd1 11 ⟨none,.store 32 (.tmp 2) (.tmp 23),0,"code.go:60",#[⟨10,.data⟩,⟨9,.chain⟩,⟨0,.phase⟩,⟨1,.phase⟩,⟨2,.phase⟩,⟨3,.phase⟩,⟨4,.phase⟩,⟨5,.phase⟩,⟨6,.phase⟩,⟨7,.phase⟩,⟨8,.phase⟩,⟨9,.phase⟩,⟨10,.phase⟩],none⟩ fun K hK => ?_
 have r0 := HR5.out.cell (i := 0) rfl
 have g0 := HR5.out.fz 0
 have r1 := HR5.out.cell (i := 1) rfl
 have g1 := HR5.out.fz 1
 have r2 := HR5.out.cell (i := 2) rfl
 have g2 := HR5.out.fz 2
 go_simp
 refine hK.out _ _ ?_ (fun hHeld => ?_)
 ·(try dsimp only)
  exact AT.bx hHeld (bx3 _ _ _)
 clear hK K
 try simp only [Rg.gp]
 refine wpAnyH_done (by kernel_rfl) ?_ _
 have hX := hHeld.2.2.out.1
 have HR6 := Lib.hid (HR5.out.set3 (.int .i64 (q : Nat)) (.int .i64 (n : Nat)) (.slice a2 l2 c2))
 have d0 := HR6.out.cell (i := 0) rfl
 have d1 := HR6.out.cell (i := 1) rfl
 have d2 := HR6.out.cell (i := 2) rfl
 have HOZ := Lib.hid ((OL.bc HO2.out HR5.out (by decide) (by decide) (bx3 (.int .i64 (q : Nat)) (.int .i64 (n : Nat)) (.slice a2 l2 c2))).weak (b' := W.heap.size) (by have := hX.size; have := HB3.out.size; have := hb3.size; show W.heap.size ≤ v1.heap.size; exact Nat.le_trans HB3.out.size hb3.size))
 have HBZ := Lib.hid (HBW.out _ hX)
 clear hHeld hX hS0 r0 r1 r2 g0 g1 g2 hb3 hb4 ho1 ho2
 go_wp2
 exact bodyPost_ret (v := DV q n (.slice a2 l2 c2)) (by simp [results, Try.results26, go_sem, d0, d1, d2]) rfl ⟨us2, a2, c2, by rw [← HKL.out], by rw [HKL.out]; exact HOZ.out, HBZ.out⟩

end Go.Proofs.Ytdafhhojiioifaa

/- Make. -/
namespace Go.Proofs.Ytdafhhojiioifaa
open Go.RowKit Go.Fl
set_option maxRecDepth 100000
set_option linter.unusedVariables false
set_option linter.unusedSimpArgs false
set_option linter.unusedSectionVars false

set_option maxHeartbeats 6400000 in
theorem make_c {F : Gf} {n m cs : Nat} {S0 : List (List Nat)} {sa : Option Addr} {W : World} (hC : GC F n m S0) (hm : m ≤ 64) (hk : cnK F.q (redM F n S0).length ≤ 4096) (ns : MM S0 W (.slice sa m cs)) :
  Calls Try.prog 12 #[.int .i64 (F.q : Nat), .int .i64 (n : Nat), .slice sa m cs] W fun e w' => ∃ us a c, e = .returned (.tuple #[DV F.q n (.slice a (redM F n S0).length c), .int .i64 0]) ∧ OL (redM F n S0) us W.heap.size w' (.slice a (redM F n S0).length c) ∧ Below W.heap.size W w' := by
 have HFF : Hid (Ok F) := Lib.hid (ok_mem hC.mem)
 have HGC := Lib.hid hC
 have hn2 := hC.n2
 have HRL : Hid ((redM F n S0).length ≤ m) := Lib.hid (by
  rw [redM_len]
  have := (redL_ok HFF.out (Mn.vs HFF.out hC.mn)).2.2
  rw [List.length_map, hC.len] at this; exact this)
 have HVC : Hid (VC F n (redM F n S0).length (redM F n S0) (redL F n (S0.map Go.Fl.fn))) := Lib.hid ⟨⟨hC.mem, hC.q, hC.n1, hC.n2, by have := HRL.out; omega, rfl, (redM_ok HFF.out hC.mn).1⟩, RM.of HFF.out hC.mn⟩
 obtain ⟨W1, hW1⟩ : ∃ W1, W.alloc (.cells ZC 32) = W1 := ⟨_, rfl⟩
 have HB1 : Hid (Below W.heap.size W W1) := Lib.hid (by rw [← hW1]; exact (Below.refl _ _).alloc (Nat.le_refl _) _)
 have HR1 : Hid (BC W.heap.size ZC.toList 32 W1) := Lib.hid (by rw [← hW1]; exact BC.new W ZC.toList 32 rfl)
 have HO : Hid (Calls Try.prog 49 #[.int .i64 (F.q : Nat), .int .i64 (n : Nat)] W1 fun e w' => ∃ b cap, e = .returned (.tuple #[XV F b cap n, .bool true]) ∧ FldAt F b cap w' ∧ Below W1.heap.size W1 w' ∧ W1.heap.size ≤ b) := Lib.hid (over_c hC.mem hC.q hC.n1 hC.n2)
 have HNS := Lib.hid (ns.below HB1.out)
 have HCO : Hid (∀ w a c, MM (redM F n S0) w (.slice a (redM F n S0).length c) → Calls Try.prog 35 #[DV F.q n (.slice a (redM F n S0).length c)] w fun e w' => e = .returned (.int .i64 (cnK F.q (redM F n S0).length : Nat)) ∧ Below w.heap.size w w') := Lib.hid fun w a c h => count_c HVC.out h
 have HW1 := Lib.hid hW1
 obtain ⟨q, hqq⟩ : ∃ q, Hid (F.q = q) := ⟨_, Lib.hid rfl⟩
 obtain ⟨l5, hl5⟩ : ∃ l, Hid ((redM F n S0).length = l) := ⟨_, Lib.hid rfl⟩
 rw [hqq.out, hl5.out] at hk HCO
 rw [hqq.out] at HO
 rw [hqq.out, hl5.out]
 obtain ⟨k5, hk5⟩ : ∃ k, Hid (cnK q l5 = k) := ⟨_, Lib.hid rfl⟩
 rw [hk5.out] at hk HCO
 have hk4 : (k5 : Int) ≤ 4096 := by omega
 have hm4 : (m : Int) ≤ 64 := by omega
 clear hW1 hC ns hk
 go_enter Try.func12, Try.ntmps12
 go_wp2_with fail
 rw [HW1.out]
 go_wp2_with fail
 with_reducible refine HO.out.mono ?_
 rintro e w2 ⟨b, cap, rfl, hfa, hb2, hbl⟩
 obtain ⟨w3, hw3⟩ : ∃ w3, w3 = w2.alloc (.cells (XC F b cap n) 73) := ⟨_, rfl⟩
 obtain ⟨x, hx⟩ : ∃ x, x = w2.heap.size := ⟨_, rfl⟩
 have HAL : Hid (Below w2.heap.size w2 w3) := Lib.hid (by rw [hw3]; exact (Below.refl _ _).alloc (Nat.le_refl _) _)
 have HXB : Hid (XB x F b cap n w3) := Lib.hid (by rw [hw3, hx]; exact xb_new w2 rfl)
 have HSX : Hid (W.heap.size < x ∧ x < w3.heap.size) := Lib.hid ⟨by have := HR1.out.lt; have := hb2.size; omega, by rw [hw3, hx]; simp⟩
 have HFA3 := Lib.hid (hfa.below HAL.out)
 have HR3 := Lib.hid ((HR1.out.below hb2).below HAL.out)
 have HB13 : Hid (Below W1.heap.size W1 w3) := Lib.hid (hb2.trans (HAL.out.mono hb2.size))
 have HN3 := Lib.hid (HNS.out.below HB13.out)
 have HHA : Hid (Calls Try.prog 50 #[XV F b cap n, .slice sa m cs] w3 fun e w' => e = .returned (.bool true) ∧ Below w3.heap.size w3 w') := Lib.hid (by
  have t := hasall_c (b := b) (cap := cap) (n := n) (R := S0.map ints) (a := sa) (c := cs) HGC.out.mem (by rw [List.length_map, HGC.out.len]; omega) (fun t ht => by rw [List.length_map] at ht; rw [ints_row ht, ints_len, (mrow HGC.out.mn ht).len]; omega) (by rw [List.length_map, HGC.out.len]; exact HN3.out.mi)
  rw [allW_mn HGC.out.mn, List.length_map, HGC.out.len] at t; exact t)
 have HW3 := Lib.hid hw3
 have HXX := Lib.hid hx
 clear hfa hb2 hbl HO hw3 hx
 obtain ⟨x0, x1, x2, x3⟩ := HXB.out
 go_upto_region 2 with fail
 rw [← HW3.out, ← HXX.out]
 go_wp2_with fail
 with_reducible refine HHA.out.mono ?_
 rintro e w4 ⟨rfl, hb4⟩
 have HRD : Hid (Calls Try.prog 51 #[XV F b cap n, .slice sa m cs] w4 (RL (redM F n S0) w4)) := Lib.hid (reduced_c (HFA3.out.below hb4) (by omega) (by omega) HGC.out.mn HGC.out.len (HN3.out.below hb4))
 have HR4 := Lib.hid (HR3.out.below hb4)
 have HB4 : Hid (Below W1.heap.size W1 w4) := Lib.hid (HB13.out.trans (hb4.mono HB13.out.size))
 have HX4 := Lib.hid (HXB.out.below hb4 HSX.out.2)
 clear hb4 HHA x0 x1 x2 x3
 obtain ⟨x0, x1, x2, x3⟩ := HX4.out
 go_wp2_with fail
 with_reducible refine HRD.out.mono ?_
 rintro e w5 ⟨us5, a5, c5, rfl, ho5, hb5⟩
 rw [hl5.out] at ho5 ⊢
 have HB5 : Hid (Below W1.heap.size W1 w5) := Lib.hid (HB4.out.trans (hb5.mono HB4.out.size))
 have HR5 := Lib.hid (HR4.out.below hb5)
 obtain ⟨w6, hw6⟩ : ∃ w6, w6 = w5.alloc (.cells #[.int .i64 (q : Nat), .int .i64 (n : Nat), .slice a5 l5 c5] 32) := ⟨_, rfl⟩
 obtain ⟨y, hy⟩ : ∃ y, y = w5.heap.size := ⟨_, rfl⟩
 have HAL6 : Hid (Below w5.heap.size w5 w6) := Lib.hid (by rw [hw6]; exact (Below.refl _ _).alloc (Nat.le_refl _) _)
 have HC6 : Hid (BC y [.int .i64 (q : Nat), .int .i64 (n : Nat), .slice a5 l5 c5] 32 w6) := Lib.hid (by rw [hw6, hy]; exact BC.new w5 [.int .i64 (q : Nat), .int .i64 (n : Nat), .slice a5 l5 c5] 32 rfl)
 have HR6 := Lib.hid (HR5.out.below HAL6.out)
 have HO6 := Lib.hid ((ho5.weak (b' := W1.heap.size) HB4.out.size).below HAL6.out)
 have HB6 : Hid (Below W1.heap.size W1 w6) := Lib.hid (HB5.out.trans (HAL6.out.mono HB5.out.size))
 have HCC : Hid (Calls Try.prog 35 #[DV q n (.slice a5 l5 c5)] w6 fun e w' => e = .returned (.int .i64 (k5 : Nat)) ∧ Below w6.heap.size w6 w') := Lib.hid (HCO.out w6 a5 c5 HO6.out.mm)
 have HW6 := Lib.hid hw6
 have HYY := Lib.hid hy
 have c0 := HC6.out.cell (i := 0) rfl
 have c1 := HC6.out.cell (i := 1) rfl
 have c2 := HC6.out.cell (i := 2) rfl
 clear ho5 hb5 HRD x0 x1 x2 x3 hw6 hy
 go_upto_region 5 with fail
 rw [← HW6.out, ← HYY.out]
 go_wp2_with fail
 with_reducible refine HCC.out.mono ?_
 rintro e w7 ⟨rfl, hb7⟩
 have HR7 := Lib.hid (HR6.out.below hb7)
 have HC7 := Lib.hid (HC6.out.below hb7)
 have HO7 := Lib.hid (HO6.out.below hb7)
 have HB7 : Hid (Below W1.heap.size W1 w7) := Lib.hid (HB6.out.trans (hb7.mono HB6.out.size))
 clear hb7 HCC c0 c1 c2
 have c0 := HC7.out.cell (i := 0) rfl
 have c1 := HC7.out.cell (i := 1) rfl
 have c2 := HC7.out.cell (i := 2) rfl
 have r0 := HR7.out.cell (i := 0) rfl
 have g0 := HR7.out.fz 0
 have r1 := HR7.out.cell (i := 1) rfl
 have g1 := HR7.out.fz 1
 have r2 := HR7.out.cell (i := 2) rfl
 have g2 := HR7.out.fz 2
 have HFX : Hid (∀ w', w' = (((w7.setCell ⟨W.heap.size, 0, none⟩ (.int .i64 (q : Nat))).setCell ⟨W.heap.size, 1, none⟩ (.int .i64 (n : Nat))).setCell ⟨W.heap.size, 2, none⟩ (.slice a5 l5 c5)) → w'.cell? ⟨W.heap.size, 0, none⟩ = some (.int .i64 (q : Nat)) ∧ w'.cell? ⟨W.heap.size, 1, none⟩ = some (.int .i64 (n : Nat)) ∧ w'.cell? ⟨W.heap.size, 2, none⟩ = some (.slice a5 l5 c5) ∧ OL (redM F n S0) us5 W.heap.size w' (.slice a5 l5 c5) ∧ Below W.heap.size W w') := Lib.hid (by
  intro w' hw
  have hB := HR7.out.set3 (.int .i64 (q : Nat)) (.int .i64 (n : Nat)) (.slice a5 l5 c5)
  have hX : Bx (fun k => k = W.heap.size) w7 (((w7.setCell ⟨W.heap.size, 0, none⟩ (.int .i64 (q : Nat))).setCell ⟨W.heap.size, 1, none⟩ (.int .i64 (n : Nat))).setCell ⟨W.heap.size, 2, none⟩ (.slice a5 l5 c5)) := bx3 _ _ _
  rw [← hw] at hB hX
  exact ⟨hB.cell rfl, hB.cell rfl, hB.cell rfl, (OL.bc HO7.out HR7.out (by decide) (by decide) hX).weak HB1.out.size, HB1.out.trans ((HB7.out.mono HB1.out.size).trans (hX.below (Nat.le_trans HB1.out.size HB7.out.size) fun k hk => by omega))⟩)
 go_wp2
 obtain ⟨d0, d1, d2, hoz, hbz⟩ := HFX.out _ rfl
 exact bodyPost_ret (v := .tuple #[DV q n (.slice a5 l5 c5), .int .i64 0]) (by simp [results, Try.results12, go_sem, d0, d1, d2]) rfl ⟨us5, a5, c5, rfl, hoz, hbz⟩
set_option maxHeartbeats 3200000 in
theorem fmake_no {q r a b : Nat} {W : World} (hq2 : 2 ≤ q) (hq6 : q ≤ 64) (hlf : lfN q 64 2 = r) (hr2 : 2 ≤ r) (hr6 : r ≤ 64) (hdv : doF r 10 q 0 = (a, b)) (hb6 : b ≤ 6) (ha : a ≠ 1) :
  Calls Try.prog 74 #[.int .i64 (q : Nat)] W fun e w' => e = .returned (.tuple #[.agg #[.int .i64 0, .int .i64 0, .slice none 0 0], .int .i64 1]) ∧ Below W.heap.size W w' := by
 have HLF : Hid (∀ w, Calls Try.prog 92 #[.int .i64 (q : Nat)] w fun e w' => e = .returned (.int .i64 (r : Nat)) ∧ w' = w) := Lib.hid fun w => leastF_c hq6 hlf hr6
 have HDV : Hid (∀ w, Calls Try.prog 93 #[.int .i64 (q : Nat), .int .i64 (r : Nat)] w fun e w' => e = .returned (.tuple #[.int .i64 (a : Nat), .int .i64 (b : Nat)]) ∧ w' = w) := Lib.hid fun w => divOut_c hq6 hr2 hr6 hdv hb6
 obtain ⟨w1, hw1⟩ : ∃ W1, W.alloc (.cells #[.int .i64 0, .int .i64 0, .slice none 0 0] 53) = W1 := ⟨_, rfl⟩
 have HB1 : Hid (Below W.heap.size W w1) := Lib.hid (by rw [← hw1]; exact (Below.refl _ _).alloc (Nat.le_refl _) _)
 have HR1 : Hid (BC W.heap.size [.int .i64 0, .int .i64 0, .slice none 0 0] 53 w1) := Lib.hid (by rw [← hw1]; exact BC.new W [.int .i64 0, .int .i64 0, .slice none 0 0] 53 rfl)
 have q2 : ¬ (q : Int) < 2 := by omega
 have q6 : ¬ (64 : Int) < (q : Int) := by omega
 have ha1 : ((a : Int) != 1) = true := by simp; omega
 have HW1 := Lib.hid hw1
 clear hw1
 go_enter Try.func74, Try.ntmps74
 go_wp2_with fail
 refine (HLF.out _).mono ?_
 rintro z w3 ⟨rfl, rfl⟩
 go_wp2_with fail
 refine (HDV.out _).mono ?_
 rintro z w3 ⟨rfl, rfl⟩
 rw [HW1.out]
 have r0 := HR1.out.cell (i := 0) rfl
 have g0 := HR1.out.fz 0
 have r1 := HR1.out.cell (i := 1) rfl
 have g1 := HR1.out.fz 1
 have r2 := HR1.out.cell (i := 2) rfl
 have g2 := HR1.out.fz 2
 have HFX : Hid (∀ w', w' = (((w1.setCell ⟨W.heap.size, 0, none⟩ (.int .i64 0)).setCell ⟨W.heap.size, 1, none⟩ (.int .i64 0)).setCell ⟨W.heap.size, 2, none⟩ (.slice none 0 0)) → w'.cell? ⟨W.heap.size, 0, none⟩ = some (.int .i64 0) ∧ w'.cell? ⟨W.heap.size, 1, none⟩ = some (.int .i64 0) ∧ w'.cell? ⟨W.heap.size, 2, none⟩ = some (.slice none 0 0) ∧ Below W.heap.size W w') := Lib.hid (by
  intro w' hw
  have hB := HR1.out.set3 (.int .i64 0) (.int .i64 0) (.slice none 0 0)
  have hX : Bx (fun k => k = W.heap.size) w1 (((w1.setCell ⟨W.heap.size, 0, none⟩ (.int .i64 0)).setCell ⟨W.heap.size, 1, none⟩ (.int .i64 0)).setCell ⟨W.heap.size, 2, none⟩ (.slice none 0 0)) := bx3 _ _ _
  rw [← hw] at hB hX
  exact ⟨hB.cell rfl, hB.cell rfl, hB.cell rfl, HB1.out.trans (hX.below HB1.out.size fun k hk => by omega)⟩)
 go_wp2
 obtain ⟨d0, d1, d2, hbz⟩ := HFX.out _ rfl
 exact bodyPost_ret (v := .tuple #[.agg #[.int .i64 0, .int .i64 0, .slice none 0 0], .int .i64 1]) (by simp [results, Try.results74, go_sem, d0, d1, d2]) rfl ⟨rfl, hbz⟩
set_option maxHeartbeats 3200000 in
theorem over_no {q n : Nat} {W : World} (hM : ∀ w, Calls Try.prog 74 #[.int .i64 (q : Nat)] w fun e w' => e = .returned (.tuple #[.agg #[.int .i64 0, .int .i64 0, .slice none 0 0], .int .i64 1]) ∧ Below w.heap.size w w') :
  Calls Try.prog 49 #[.int .i64 (q : Nat), .int .i64 (n : Nat)] W fun e w' => e = .returned (.tuple #[.agg #[.int .i64 0, .int .i64 0, .slice none 0 0, .int .i64 (n : Nat)], .bool false]) ∧ Below W.heap.size W w' := by
 have HM := Lib.hid hM
 obtain ⟨W0, hW0⟩ : ∃ W0, W.alloc (.cells ZX 73) = W0 := ⟨_, rfl⟩
 have HB0 : Hid (Below W.heap.size W W0) := Lib.hid (by rw [← hW0]; exact (Below.refl _ _).alloc (Nat.le_refl _) _)
 have HR0 : Hid (BC W.heap.size ZX.toList 73 W0) := Lib.hid (by rw [← hW0]; exact BC.new W ZX.toList 73 rfl)
 have HW0 := Lib.hid hW0
 clear hW0 hM
 go_enter Try.func49, Try.ntmps49
 go_wp2_with fail
 rw [HW0.out]
 refine (HM.out _).mono ?_
 rintro e w1 ⟨rfl, hb1⟩
 have HB1 := Lib.hid hb1
 have HR1 := Lib.hid (HR0.out.below hb1)
 have HR2 := Lib.hid (HR1.out.alloc (.cells #[.int .i64 0, .int .i64 0, .slice none 0 0] 53))
 have r0 := HR2.out.cell (i := 0) rfl
 have g0 := HR2.out.fz 0
 have r1 := HR2.out.cell (i := 1) rfl
 have g1 := HR2.out.fz 1
 have r2 := HR2.out.cell (i := 2) rfl
 have g2 := HR2.out.fz 2
 have r3 := HR2.out.cell (i := 3) rfl
 have g3 := HR2.out.fz 3
 have HFX : Hid (∀ w', w' = (((((w1.alloc (.cells #[.int .i64 0, .int .i64 0, .slice none 0 0] 53)).setCell ⟨W.heap.size, 0, none⟩ (.int .i64 0)).setCell ⟨W.heap.size, 1, none⟩ (.int .i64 0)).setCell ⟨W.heap.size, 2, none⟩ (.slice none 0 0)).setCell ⟨W.heap.size, 3, none⟩ (.int .i64 (n : Nat))) →
   w'.cell? ⟨W.heap.size, 0, none⟩ = some (.int .i64 0) ∧ w'.cell? ⟨W.heap.size, 1, none⟩ = some (.int .i64 0) ∧ w'.cell? ⟨W.heap.size, 2, none⟩ = some (.slice none 0 0) ∧ w'.cell? ⟨W.heap.size, 3, none⟩ = some (.int .i64 (n : Nat)) ∧ Below W.heap.size W w') := Lib.hid (by
  intro w' hw
  have hB := HR2.out.set4 (.int .i64 0) (.int .i64 0) (.slice none 0 0) (.int .i64 (n : Nat))
  have hX : Bx (fun k => k = W.heap.size) (w1.alloc (.cells #[.int .i64 0, .int .i64 0, .slice none 0 0] 53)) (((((w1.alloc (.cells #[.int .i64 0, .int .i64 0, .slice none 0 0] 53)).setCell ⟨W.heap.size, 0, none⟩ (.int .i64 0)).setCell ⟨W.heap.size, 1, none⟩ (.int .i64 0)).setCell ⟨W.heap.size, 2, none⟩ (.slice none 0 0)).setCell ⟨W.heap.size, 3, none⟩ (.int .i64 (n : Nat))) := bx4 _ _ _ _
  rw [← hw] at hB hX
  refine ⟨hB.cell rfl, hB.cell rfl, hB.cell rfl, hB.cell rfl, ?_⟩
  exact (HB0.out.trans ((HB1.out.trans ((Below.refl _ _).alloc HB1.out.size _)).mono HB0.out.size)).trans (hX.below (by have := HB1.out.size; have := HB0.out.size; simp; omega) fun k hk => by omega))
 clear hb1 HM HR1 HR0 HR2
 go_wp2
 obtain ⟨d0, d1, d2, d3, hbw⟩ := HFX.out _ rfl
 exact bodyPost_ret (v := .tuple #[.agg #[.int .i64 0, .int .i64 0, .slice none 0 0, .int .i64 (n : Nat)], .bool false]) (by simp [results, Try.results49, go_sem, d0, d1, d2, d3]) rfl ⟨rfl, hbw⟩
set_option maxHeartbeats 3200000 in
theorem make_no {q n : Nat} {v : Value} {W : World} (hv : ∃ a l c, v = .slice a l c) (hM : ∀ w, Calls Try.prog 74 #[.int .i64 (q : Nat)] w fun e w' => e = .returned (.tuple #[.agg #[.int .i64 0, .int .i64 0, .slice none 0 0], .int .i64 1]) ∧ Below w.heap.size w w') :
  Calls Try.prog 12 #[.int .i64 (q : Nat), .int .i64 (n : Nat), v] W fun e w' => e = .returned (.tuple #[.agg #[.int .i64 0, .int .i64 0, .slice none 0 0], .int .i64 1]) ∧ Below W.heap.size W w' := by
 obtain ⟨sa, l, c, rfl⟩ := hv
 have HM : Hid (∀ w, Calls Try.prog 49 #[.int .i64 (q : Nat), .int .i64 (n : Nat)] w fun e w' => e = .returned (.tuple #[.agg #[.int .i64 0, .int .i64 0, .slice none 0 0, .int .i64 (n : Nat)], .bool false]) ∧ Below w.heap.size w w') := Lib.hid fun w => over_no hM
 obtain ⟨W0, hW0⟩ : ∃ W0, W.alloc (.cells ZC 32) = W0 := ⟨_, rfl⟩
 have HB0 : Hid (Below W.heap.size W W0) := Lib.hid (by rw [← hW0]; exact (Below.refl _ _).alloc (Nat.le_refl _) _)
 have HR0 : Hid (BC W.heap.size ZC.toList 32 W0) := Lib.hid (by rw [← hW0]; exact BC.new W ZC.toList 32 rfl)
 have HW0 := Lib.hid hW0
 clear hW0 hM
 go_enter Try.func12, Try.ntmps12
 go_wp2_with fail
 rw [HW0.out]
 refine (HM.out _).mono ?_
 rintro e w1 ⟨rfl, hb1⟩
 have HB1 := Lib.hid hb1
 have HR1 := Lib.hid (HR0.out.below hb1)
 have HR2 := Lib.hid (HR1.out.alloc (.cells #[.int .i64 0, .int .i64 0, .slice none 0 0, .int .i64 (n : Nat)] 73))
 have r0 := HR2.out.cell (i := 0) rfl
 have g0 := HR2.out.fz 0
 have r1 := HR2.out.cell (i := 1) rfl
 have g1 := HR2.out.fz 1
 have r2 := HR2.out.cell (i := 2) rfl
 have g2 := HR2.out.fz 2
 have HFX : Hid (∀ w', w' = ((((w1.alloc (.cells #[.int .i64 0, .int .i64 0, .slice none 0 0, .int .i64 (n : Nat)] 73)).setCell ⟨W.heap.size, 0, none⟩ (.int .i64 0)).setCell ⟨W.heap.size, 1, none⟩ (.int .i64 0)).setCell ⟨W.heap.size, 2, none⟩ (.slice none 0 0)) →
   w'.cell? ⟨W.heap.size, 0, none⟩ = some (.int .i64 0) ∧ w'.cell? ⟨W.heap.size, 1, none⟩ = some (.int .i64 0) ∧ w'.cell? ⟨W.heap.size, 2, none⟩ = some (.slice none 0 0) ∧ Below W.heap.size W w') := Lib.hid (by
  intro w' hw
  have hB := HR2.out.set3 (.int .i64 0) (.int .i64 0) (.slice none 0 0)
  have hX : Bx (fun k => k = W.heap.size) (w1.alloc (.cells #[.int .i64 0, .int .i64 0, .slice none 0 0, .int .i64 (n : Nat)] 73)) ((((w1.alloc (.cells #[.int .i64 0, .int .i64 0, .slice none 0 0, .int .i64 (n : Nat)] 73)).setCell ⟨W.heap.size, 0, none⟩ (.int .i64 0)).setCell ⟨W.heap.size, 1, none⟩ (.int .i64 0)).setCell ⟨W.heap.size, 2, none⟩ (.slice none 0 0)) := bx3 _ _ _
  rw [← hw] at hB hX
  refine ⟨hB.cell rfl, hB.cell rfl, hB.cell rfl, ?_⟩
  exact (HB0.out.trans ((HB1.out.trans ((Below.refl _ _).alloc HB1.out.size _)).mono HB0.out.size)).trans (hX.below (by have := HB1.out.size; have := HB0.out.size; simp; omega) fun k hk => by omega))
 clear hb1 HM HR1 HR0 HR2
 go_wp2
 obtain ⟨d0, d1, d2, hbw⟩ := HFX.out _ rfl
 exact bodyPost_ret (v := .tuple #[.agg #[.int .i64 0, .int .i64 0, .slice none 0 0], .int .i64 1]) (by simp [results, Try.results12, go_sem, d0, d1, d2]) rfl ⟨rfl, hbw⟩

end Go.Proofs.Ytdafhhojiioifaa
