/- The message of a word. -/
import Derived.Test.YtdafhhojiioifaaDf
namespace Go.Proofs.Ytdafhhojiioifaa
open Go.RowKit Go.Fl
set_option maxRecDepth 100000
set_option linter.unusedVariables false
set_option linter.unusedSimpArgs false
set_option linter.unusedSectionVars false

open Go.RowKit
/-- the elements of a word at the pivots of the first k rows -/
def mgK (n : Nat) (G : List (List Nat)) (V : List Nat) (k : Nat) : List Nat := (G.take k).map fun r => V.getD (pvt (fn r) n) 0
theorem mgK_succ {n : Nat} {D : List (List Nat)} {V : List Nat} {k : Nat} (hk : k < D.length) : mgK n D V (k + 1) = mgK n D V k ++ [V.getD (pvt (fn (D.getD k [])) n) 0] := by
 have e : D.getD k [] = D[k] := by rw [List.getD_eq_getElem?_getD, List.getElem?_eq_getElem hk]; rfl
 unfold mgK
 rw [List.take_succ_eq_append_getElem hk, List.map_append, e]; rfl
/-- a message, or that there is none -/
def MgP (F : Gf) (n m : Nat) (G : List (List Nat)) (V : List Nat) (W : World) (e : Ending) (w' : World) : Prop :=
 ((wtV (rsV F n G V) = 0 ∧ ∃ a c, e = .returned (.tuple #[.slice a m c, .int .i64 0]) ∧ w'.ownsRow W.heap.size 3 1 (.slice a m c) m ((mgK n G V m).map N64)) ∨
  (wtV (rsV F n G V) ≠ 0 ∧ e = .returned (.tuple #[.slice none 0 0, .int .i64 6]))) ∧ Below W.heap.size W w'
set_option maxHeartbeats 6400000 in
theorem message_c {F : Gf} {n m cg cv : Nat} {G : List (List Nat)} {L : List (Nat × Cf)} {V : List Nat} {ga av : Option Addr} {W : World} (hC : VC F n m G L) (ng : MM G W (.slice ga m cg)) (mv : Vn F n V) (nv : NN V W (.slice av n cv)) :
  Calls Try.prog 21 #[DV F.q n (.slice ga m cg), .slice av n cv] W (MgP F n m G V W) := by
 obtain ⟨i0, hi, hz0, hz1, hz2⟩ := info_parts info3
 obtain ⟨W1, hW1⟩ : ∃ W1, W.alloc (.cells #[.int .i64 (F.q : Nat), .int .i64 (n : Nat), .slice ga m cg] 32) = W1 := ⟨_, rfl⟩
 have HB1 : Hid (Below W.heap.size W W1) := Lib.hid (by rw [← hW1]; exact (Below.refl _ _).alloc (Nat.le_refl _) _)
 have HC1 : Hid (BC W.heap.size [.int .i64 (F.q : Nat), .int .i64 (n : Nat), .slice ga m cg] 32 W1) := Lib.hid (by rw [← hW1]; exact BC.new W [.int .i64 (F.q : Nat), .int .i64 (n : Nat), .slice ga m cg] 32 rfl)
 have HS1 : Hid (W1.heap.size = W.heap.size + 1) := Lib.hid (by rw [← hW1]; simp)
 have HA : Hid (Calls Try.prog 54 #[DV F.q n (.slice ga m cg)] W1 fun e w' => ∃ b cap, e = .returned (.tuple #[XV F b cap n, .bool true]) ∧ FldAt F b cap w' ∧ Below W1.heap.size W1 w' ∧ W1.heap.size ≤ b) := Lib.hid (by have := around_c hC.gc (ng.below HB1.out); rw [hC.ar] at this; exact this)
 have HNG := Lib.hid (ng.below HB1.out)
 have HNV := Lib.hid (nv.below HB1.out)
 have HMV := Lib.hid mv
 have HFM : Hid (F ∈ fds) := Lib.hid hC.gc.mem
 have hn2 := hC.gc.n2
 have hm2 : m ≤ 24 := by have h := hC.dims; omega
 have HGN := Lib.hid hC.gc.mn
 have HGL := Lib.hid hC.gc.len
 have HPV : Hid (∀ t, t < m → pvt (fn (G.getD t [])) n < n) := Lib.hid fun t ht => by
  have hj : t < L.length := by rw [← hC.rm.len, hC.gc.len]; exact ht
  obtain ⟨e1, e2⟩ := hC.rm.pv hC.ok hj
  rw [e1]; exact e2
 have HHS : Hid (∀ b cap w', NN V w' (.slice av n cv) → Calls Try.prog 60 #[XV F b cap n, .slice av n cv] w' fun e w'' => e = .returned (.bool true) ∧ Below w'.heap.size w' w'') := Lib.hid fun b cap w' h => by
  have hl : (ints V).length = n := by rw [ints_len, HMV.out.len]
  have t := has_c (F := F) (b := b) (cap := cap) (n := n) (L := ints V) (a := av) (c := cv) (W := w') HFM.out (by rw [hl]; omega) (by have := h.ni; rw [hl]; exact this)
  rw [hl, elI_in HMV.out.el, decide_eq_true rfl] at t
  exact t
 obtain ⟨R, hR⟩ : ∃ R, Hid (rsV F n G V = R) := ⟨_, Lib.hid rfl⟩
 have HRL : Hid (R.length = n) := Lib.hid (by rw [← hR.out]; exact (rsV_vn hC.ok mv).len)
 have HFF : Hid (Ok F) := Lib.hid hC.ok
 have HMP : Hid (MgP F n m G V W = fun e w' => ((wtV R = 0 ∧ ∃ a c, e = .returned (.tuple #[.slice a m c, .int .i64 0]) ∧ w'.ownsRow W.heap.size 3 1 (.slice a m c) m ((mgK n G V m).map N64)) ∨ (wtV R ≠ 0 ∧ e = .returned (.tuple #[.slice none 0 0, .int .i64 6]))) ∧ Below W.heap.size W w') := Lib.hid (by unfold MgP; rw [hR.out])
 obtain ⟨q, hqq⟩ : ∃ q, Hid (F.q = q) := ⟨_, Lib.hid rfl⟩
 rw [hqq.out] at HA HC1 hW1 ⊢
 have HW1 := Lib.hid hW1
 have c0 := HC1.out.cell (i := 0) rfl
 have c1 := HC1.out.cell (i := 1) rfl
 have c2 := HC1.out.cell (i := 2) rfl
 clear hW1 hC ng nv mv
 go_enter Try.func21, Try.ntmps21
 go_wp2_with fail
 rw [HW1.out]
 go_wp2_with fail
 with_reducible refine HA.out.mono ?_
 rintro e w2 ⟨b, cap, rfl, hfa, hb2, hbl⟩
 obtain ⟨w3, hw3⟩ : ∃ w3, w3 = w2.alloc (.cells (XC F b cap n) 73) := ⟨_, rfl⟩
 obtain ⟨x, hx⟩ : ∃ x, x = w2.heap.size := ⟨_, rfl⟩
 have HAL : Hid (Below w2.heap.size w2 w3) := Lib.hid (by rw [hw3]; exact (Below.refl _ _).alloc (Nat.le_refl _) _)
 have HXB : Hid (XB x F b cap n w3) := Lib.hid (by rw [hw3, hx]; exact xb_new w2 rfl)
 have HXL : Hid (x < w3.heap.size) := Lib.hid (by rw [hw3, hx]; simp)
 have HFA3 := Lib.hid (hfa.below HAL.out)
 have HB13 : Hid (Below W1.heap.size W1 w3) := Lib.hid (hb2.trans (HAL.out.mono hb2.size))
 have HB3 : Hid (Below W.heap.size W w3) := Lib.hid (HB1.out.trans (HB13.out.mono HB1.out.size))
 have HC3 := Lib.hid (HC1.out.below HB13.out)
 have HH3 : Hid (Calls Try.prog 60 #[XV F b cap n, .slice av n cv] w3 fun e w'' => e = .returned (.bool true) ∧ Below w3.heap.size w3 w'') := Lib.hid (HHS.out b cap w3 (HNV.out.below HB13.out))
 have HW3 := Lib.hid hw3
 have HXX := Lib.hid hx
 obtain ⟨x0, x1, x2, x3⟩ := HXB.out
 have c0 := HC3.out.cell (i := 0) rfl
 have c1 := HC3.out.cell (i := 1) rfl
 have c2 := HC3.out.cell (i := 2) rfl
 rw [hx] at x0 x1 x2 x3
 rw [hw3] at x0 x1 x2 x3 c0 c1 c2
 clear hfa hb2 hbl HA hw3 hx
 go_wp2_with fail
 rw [← HW3.out]
 try rw [← HXX.out]
 with_reducible refine HH3.out.mono ?_
 rintro e w4 ⟨rfl, hb4⟩
 have HB34 := Lib.hid hb4
 have HC4 := Lib.hid (HC3.out.below hb4)
 have HNV4 := Lib.hid (HNV.out.below (HB13.out.trans (hb4.mono HB13.out.size)))
 have HNG4 := Lib.hid (HNG.out.below (HB13.out.trans (hb4.mono HB13.out.size)))
 have HD4 : Hid (Calls Try.prog 62 #[XV F b cap n, .slice av n cv, .slice ga m cg] w4 (VQ n R w4)) := Lib.hid (by
  rw [← hR.out]
  exact krest_c (HFA3.out.below HB34.out) (by omega) (by omega) HMV.out HGN.out HGL.out HPV.out HNV4.out HNG4.out)
 clear x0 x1 x2 x3 c0 c1 c2 hb4 HH3
 have c0 := HC4.out.cell (i := 0) rfl
 have c1 := HC4.out.cell (i := 1) rfl
 have c2 := HC4.out.cell (i := 2) rfl
 obtain ⟨x0, x1, x2, x3⟩ := HXB.out.below HB34.out HXL.out
 go_wp2_with fail
 with_reducible refine HD4.out.mono ?_
 rintro e w5 ⟨ar, cr, rfl, hnr, hb5⟩
 have HWT : Hid (Calls Try.prog 61 #[.slice ar n cr] w5 fun e w' => e = .returned (.int .i64 (wtV R : Nat)) ∧ Below w5.heap.size w5 w') := Lib.hid (weight_c HRL.out (by omega) hnr)
 obtain ⟨wt, hwt⟩ : ∃ x, Hid (wtV R = x) := ⟨_, Lib.hid rfl⟩
 rw [hwt.out] at HWT
 have HB45 := Lib.hid hb5
 clear hnr hb5 HD4 c0 c1 c2 x0 x1 x2 x3
 go_wp2_with fail
 with_reducible refine HWT.out.mono ?_
 rintro e w6 ⟨rfl, hb6⟩
 have HB36 : Hid (Below w3.heap.size w3 w6) := Lib.hid (HB34.out.trans ((HB45.out.trans (hb6.mono HB45.out.size)).mono HB34.out.size))
 have HB6 : Hid (Below W.heap.size W w6) := Lib.hid (HB3.out.trans (HB36.out.mono HB3.out.size))
 have HC6 := Lib.hid (HC3.out.below HB36.out)
 have HNG6 := Lib.hid (HNG.out.below (HB13.out.trans (HB36.out.mono HB13.out.size)))
 have HNV6 := Lib.hid (HNV.out.below (HB13.out.trans (HB36.out.mono HB13.out.size)))
 have c2 := HC6.out.cell (i := 2) rfl
 clear hb6 HWT
 by_cases hw0 : wt = 0
 ·have hwi : ¬ (0 : Int) < (wt : Int) := by omega
  have hwn : ¬ 0 < wt := by omega
  have hwd : decide (0 < wt) = false := decide_eq_false hwn
  have HW0 : Hid (wtV R = 0) := Lib.hid (by rw [hwt.out]; exact hw0)
  clear hw0
  go_wp2
  go_loopw [8, 34] (fun s i wr => ∃ (k : Nat) (a : Option Addr) (c : Nat), k ≤ m ∧ s = .slice a k c ∧ i = .int .i64 (k : Nat) ∧ Hid (wr.ownsRow w6.heap.size 3 1 (.slice a k c) k ((mgK n G V k).map N64)) ∧ Hid (Below w6.heap.size w6 wr)) (fun _ i _ => m - (intOf i).toNat)
  case atStart => exact ⟨0, none, 0, Nat.zero_le _, rfl, rfl, Lib.hid ⟨rfl, .inl ⟨rfl, rfl⟩⟩, Below.refl _ _⟩
  case round =>
   obtain ⟨k, a, c, hk, rfl, rfl, HOW, KB⟩ := hrel
   have HBF : Hid (Below W.heap.size W wr) := Lib.hid (HB6.out.trans (KB.out.mono HB6.out.size))
   by_cases hlt : k < m
   ·obtain ⟨bd, od, had, a2, c2', hcd, hn2'⟩ := (HNG6.out.below KB.out).at' (fun t ht => (mrow HGN.out ht).len) hlt
    subst had
    have HKD : Hid (k < G.length) := Lib.hid (by rw [HGL.out]; exact hlt)
    have HVK : Hid (Vn F n (G.getD k [])) := Lib.hid (mrow HGN.out HKD.out)
    obtain ⟨p, hp⟩ : ∃ p, Hid (pvt (fn (G.getD k [])) n = p) := ⟨_, Lib.hid rfl⟩
    have hpn : p < n := by rw [← hp.out]; exact HPV.out k hlt
    obtain ⟨y, hy⟩ : ∃ y, Hid (V.getD p 0 = y) := ⟨_, Lib.hid rfl⟩
    have HSN : Hid (mgK n G V (k + 1) = mgK n G V k ++ [y]) := Lib.hid (by rw [mgK_succ HKD.out, hp.out, hy.out])
    have HPR : Hid (Calls Try.prog 63 #[.slice a2 n c2'] wr fun e w' => e = .returned (.int .i64 (p : Nat)) ∧ Below wr.heap.size wr w') := Lib.hid (by
     rw [← hp.out]
     exact pivot_n HVK.out.len (by omega) hn2')
    have hlti : (k : Int) < (m : Int) := by omega
    clear hn2' c2
    go_wp2_with fail
    with_reducible refine HPR.out.mono ?_
    rintro e w7 ⟨rfl, hb7⟩
    have HB7 : Hid (Below w6.heap.size w6 w7) := Lib.hid (KB.out.trans (hb7.mono KB.out.size))
    have HO7 := Lib.hid (own_belowK (w := wr) HOW.out hb7)
    obtain ⟨bv, ov, hav, hbv, hcv⟩ := (HNV6.out.below HB7.out).at' hpn
    subst hav
    rw [hy.out] at hcv
    have hpni : (p : Int) < (n : Int) := by omega
    clear hb7 HPR hcd hbv
    go_wp2_with (at_builtin; refine wpList_append_own _ rfl _ _ 39 rfl w6.heap.size 3 i0 (.int .i64 0) 1 8 Try.underlying39 hi hz0 hz1 hz2 rfl (by decide) (.slice a k c) k ((mgK n G V k).map N64) rfl (HO7.out.alloc (.cells #[.int .i64 (y : Nat)] 3)) ⟨w7.heap.size, 0, none⟩ 1 1 [.int .i64 (y : Nat)] rfl rfl (cell_one_new _ _ _) (fun u hu => by simp at hu; subst hu; rfl) ?d3 ?d4 ?d5 ?_)
    case d3 => unfold maxLen; omega
    case d4 => omega
    case d5 => have := HB7.out.size; simp; omega
    intro v' w9 hown' hgrow hnil
    have hal2 : Below w7.heap.size w7 (w7.alloc (.cells #[.int .i64 (y : Nat)] 3)) := (Below.refl _ _).alloc (Nat.le_refl _) _
    have HB9 : Hid (Below w6.heap.size w6 w9) := Lib.hid ((HB7.out.trans (hal2.mono HB7.out.size)).grown hgrow (Nat.le_trans HB7.out.size hal2.size) (fun k hk => (HO7.out.lt k hk).1))
    obtain ⟨a9, c9, hv9⟩ := own_slice hown'
    subst hv9
    have HO9 : Hid (w9.ownsRow w6.heap.size 3 1 (.slice a9 (k + 1) c9) (k + 1) ((mgK n G V (k + 1)).map N64)) := Lib.hid (by rw [HSN.out, List.map_append]; exact hown')
    clear hown' hgrow hnil hal2
    go_wp2
    go_roundw
    case rel => exact ⟨k + 1, a9, c9, by omega, rfl, by go_num, HO9, HB9⟩
    case measure => simp [intOf]; omega
   ·have hke : k = m := by omega
    have HOF : Hid (wr.ownsRow W.heap.size 3 1 (.slice a m c) m ((mgK n G V m).map N64)) := Lib.hid (by have h := own_weak HOW.out HB6.out.size; rw [hke] at h; exact h)
    have hlti : ¬ (k : Int) < (m : Int) := by omega
    have HSL : Hid (Value.slice a k c = Value.slice a m c) := Lib.hid (by rw [hke])
    clear hke
    go_wp2
    refine bodyPost_ret (results_tmp2 rfl _ _ _) rfl ?_
    rw [HMP.out]
    exact ⟨.inl ⟨HW0.out, a, c, by rw [← HSL.out]; rfl, HOF.out⟩, HBF.out⟩
 ·have hwi : (0 : Int) < (wt : Int) := by omega
  have hwn : 0 < wt := by omega
  have HW0 : Hid (wtV R ≠ 0) := Lib.hid (by rw [hwt.out]; exact hw0)
  clear hw0
  go_wp2
  refine bodyPost_ret (results_tmp2 rfl _ _ _) rfl ?_
  rw [HMP.out]
  exact ⟨.inr ⟨HW0.out, rfl⟩, HB6.out⟩

end Go.Proofs.Ytdafhhojiioifaa
