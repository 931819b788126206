/- SpaceInverses: the law's walk. -/
import Derived.Test.YteeofijcndgbfaaVc
import Derived.Test.YteeofijcndgbfaaVd
namespace Go.Proofs.Yteeofijcndgbfaa
open Go.RowKit Go.Fl
set_option maxRecDepth 100000
set_option linter.unusedVariables false
set_option linter.unusedSimpArgs false
set_option linter.unusedSectionVars false
/-- what holds in the law: the field's box, the inverse's box -/
abbrev SI (F : Gf) (b cap B IX : Nat) (v : Value) (e : Nat) (w1 w : World) : Prop := FBx B F b cap w ∧ (w.cell? ⟨IX, 0, none⟩ = some v ∧ w.cell? ⟨IX, 1, none⟩ = some (.int .i64 (e : Nat))) ∧ Hid (FldAt F b cap w ∧ Below w1.heap.size w1 w ∧ B < w.heap.size ∧ IX < w.heap.size)
theorem SI.keep {F : Gf} {b cap B IX e : Nat} {v : Value} {w1 w w' : World} (h : SI F b cap B IX v e w1 w) (hb : Below w.heap.size w w') : SI F b cap B IX v e w1 w' := by
 obtain ⟨h1, h2, h3⟩ := h
 obtain ⟨k1, k2, k3, k4⟩ := h3.out
 exact ⟨h1.below hb k3, ⟨(hb.cell k4).trans h2.1, (hb.cell k4).trans h2.2⟩, Lib.hid ⟨k1.below hb, k2.trans (hb.mono k2.size), Nat.lt_of_lt_of_le k3 hb.size, Nat.lt_of_lt_of_le k4 hb.size⟩⟩
theorem SI.draw {F : Gf} {b cap B IX e : Nat} {v : Value} {w1 w : World} (h : SI F b cap B IX v e w1 w) : SI F b cap B IX v e w w.drew :=
 ⟨h.1, h.2.1, Lib.hid ⟨h.2.2.out.1.bx (Bx.refl (fun _ => False) w).drew id, (Below.refl _ _).drew, h.2.2.out.2.2⟩⟩
theorem SI.new {F : Gf} {b cap B : Nat} {v : Value} {e : Nat} {w : World} (h1 : FBx B F b cap w) (h2 : FldAt F b cap w) (h3 : B < w.heap.size) : SI F b cap B w.heap.size v e (w.alloc (.cells #[v, .int .i64 (e : Nat)] 53)) (w.alloc (.cells #[v, .int .i64 (e : Nat)] 53)) := by
 have ha : Below w.heap.size w (w.alloc (.cells #[v, .int .i64 (e : Nat)] 53)) := (Below.refl _ _).alloc (Nat.le_refl _) _
 exact ⟨h1.below ha h3, ⟨World.cell?_alloc_at _ _ _ _ rfl, World.cell?_alloc_at _ _ _ _ rfl⟩, Lib.hid ⟨h2.below ha, Below.refl _ _, by simp; omega, by simp⟩⟩
/-- .. and two cells -/
abbrev SIC (F : Gf) (b cap B IX : Nat) (v : Value) (e b1 o1 : Nat) (u1 : Value) (b2 o2 : Nat) (u2 : Value) (w1 w : World) : Prop := SI F b cap B IX v e w1 w ∧ w.cell? ⟨b1, o1, none⟩ = some u1 ∧ w.cell? ⟨b2, o2, none⟩ = some u2 ∧ Hid (b1 < w.heap.size ∧ b2 < w.heap.size)
theorem SIC.keep {F : Gf} {b cap B IX e b1 o1 b2 o2 : Nat} {v u1 u2 : Value} {w1 w w' : World} (h : SIC F b cap B IX v e b1 o1 u1 b2 o2 u2 w1 w) (hb : Below w.heap.size w w') : SIC F b cap B IX v e b1 o1 u1 b2 o2 u2 w1 w' :=
 ⟨h.1.keep hb, (hb.cell (p := ⟨b1, o1, none⟩) h.2.2.2.out.1).trans h.2.1, (hb.cell (p := ⟨b2, o2, none⟩) h.2.2.2.out.2).trans h.2.2.1, Lib.hid ⟨Nat.lt_of_lt_of_le h.2.2.2.out.1 hb.size, Nat.lt_of_lt_of_le h.2.2.2.out.2 hb.size⟩⟩
theorem inv_pos {F : Gf} (hF : Ok F) {A : List (List Nat)} {n : Nat} (h1 : 1 ≤ n) (hA : Mn F n A) (la : A.length = n) : ∀ x, invM F n A = some x → ∀ t, t < x.length → 0 < (x.getD t []).length := fun x hx t ht => by
 by_cases h : (pivM F n A).length < n
 ·rw [(inv_none hF hA h).1] at hx; cases hx
 ·obtain ⟨B, h2, h3, h4, -⟩ := inv_some hF hA la (by have := piv_le hF hA; omega)
  rw [h2] at hx
  injection hx with hx
  subst hx
  rw [(mrow h3 ht).len]; omega
set_option maxHeartbeats 25600000 in
theorem inverses_c {x y l ca : Nat} {aa : Option Addr} {W : World} (hx : x ≤ 255) (hy : y ≤ 255) (hl : l ≤ maxLen) (na : N16 l W (.slice aa l ca)) :
  Calls Try.prog 8 #[.int .u8 (x : Nat), .int .u8 (y : Nat), .slice aa l ca] W fun e w' => e = .returned (.bool true) ∧ Below W.heap.size W w' := by
 have HEX : Hid (Calls Try.prog 9 #[] W fun e w' => e = .returned (.bool true) ∧ Below W.heap.size W w') := Lib.hid (examples_c W)
 have HNA := Lib.hid na
 clear na
 go_enter Try.func8, Try.ntmps8
 go_wp2_with fail
 with_reducible refine HEX.out.mono ?_
 rintro e w1 ⟨rfl, hb1⟩
 have HFC : Hid (Calls Try.prog 47 #[.int .u8 (x : Nat)] w1 fun e w' => ∃ b cap, e = .returned (FV (fdB x) b cap) ∧ FldAt (fdB x) b cap w' ∧ Below w1.heap.size w1 w') := Lib.hid (field_c x hx w1)
 have HB1 := Lib.hid hb1
 have HNA1 := Lib.hid (HNA.out.below hb1)
 clear hb1 HEX HNA
 go_wp2_with fail
 with_reducible refine HFC.out.mono ?_
 rintro e w2 ⟨b, cap, rfl, hf2, hb2⟩
 obtain ⟨F, hF⟩ : ∃ F, Hid (fdB x = F) := ⟨_, Lib.hid rfl⟩
 obtain ⟨n, hn⟩ : ∃ n, Hid (1 + y % 6 = n) := ⟨_, Lib.hid rfl⟩
 rw [hF.out] at hf2 ⊢
 have HN1 : Hid (1 ≤ n ∧ n ≤ 6) := Lib.hid (by have := hn.out; omega)
 have HTK : Hid (F ∈ fds.take 10) := Lib.hid (by rw [← hF.out]; exact fdB_take x)
 have HFF : Hid (Ok F) := Lib.hid (ok_mem hf2.mem)
 obtain ⟨w3, hw3⟩ : ∃ w, w = w2.alloc (.cells #[.int .i64 F.p, .int .i64 F.e, FM F b cap] 29) := ⟨_, rfl⟩
 have h23 : Below w2.heap.size w2 w3 := by rw [hw3]; exact (Below.refl _ _).alloc (Nat.le_refl _) _
 have HFB : Hid (FBx w2.heap.size F b cap w3) := Lib.hid (by rw [hw3]; exact FBx.new w2 F b cap)
 have HBS : Hid (w2.heap.size < w3.heap.size) := Lib.hid (by rw [hw3]; simp)
 have HF3 := Lib.hid (hf2.below h23)
 have HB3 : Hid (Below W.heap.size W w3) := Lib.hid (HB1.out.trans ((hb2.trans (h23.mono hb2.size)).mono HB1.out.size))
 have HNA3 := Lib.hid (HNA1.out.below (hb2.trans (h23.mono hb2.size)))
 have HW3 := Lib.hid hw3
 have hn1 := HN1.out
 have hy6 : (1 : Int) + (y : Int) % 6 = (n : Int) := by have := hn.out; omega
 have hy6t : (1 : Int) + (y : Int).tmod 6 = (n : Int) := by rw [Int.tmod_eq_emod_of_nonneg (by omega)]; exact hy6
 have hwy : IntKind.i64.wrap (y : Int) = (y : Int) := IntWalk.i64_in _ (by omega)
 have HSQ : Hid (Calls Try.prog 32 #[FV F b cap, .int .i64 (n : Nat), .slice aa l ca] w3 fun e w' => ∃ R, Mn F n R ∧ R.length = n ∧ MPn R n w3 e w') := Lib.hid (square_c HF3.out (by omega) (by omega) hl HNA3.out)
 clear hw3 h23 hf2 hb2 HFC HNA1
 go_upto_region 5 with fail
 rw [← HW3.out]
 clear HW3
 generalize w2.heap.size = B at *
 obtain ⟨x0, x1, x2⟩ := HFB.out
 go_wp2_with fail
 with_reducible refine HSQ.out.mono ?_
 rintro e w4 ⟨A, hA, hla, aA, cA, rfl, hma, hb4⟩
 have HMN := Lib.hid hA
 have HLA := Lib.hid hla
 have HMA4 := Lib.hid hma
 have HFB4 := Lib.hid (HFB.out.below hb4 HBS.out)
 have HF4 := Lib.hid (HF3.out.below hb4)
 have HB4 := Lib.hid (HB3.out.trans (hb4.mono HB3.out.size))
 have HNA4 := Lib.hid (HNA3.out.below hb4)
 have HBS4 : Hid (B < w4.heap.size) := Lib.hid (Nat.lt_of_lt_of_le HBS.out hb4.size)
 have HIV : Hid (Calls Try.prog 33 #[FV F b cap, .slice aA n cA] w4 (IvP (invM F n A) w4)) := Lib.hid (inverted_c HF4.out (by omega) (by omega) hla hA hma (inv_pos HFF.out (by omega) hA hla))
 clear hA hla hma hb4 HSQ x0 x1 x2 hy6 hy6t HFB HF3 HB3 HNA3 HBS hwy
 obtain ⟨x0, x1, x2⟩ := HFB4.out
 go_wp2_with fail
 with_reducible refine HIV.out.mono ?_
 rintro e w5 hiv
 clear HIV x0 x1 x2
 obtain ⟨IX, hIX⟩ : ∃ g, w5.heap.size = g := ⟨_, rfl⟩
 obtain ⟨rl, hrl⟩ : ∃ k, Hid ((redM F n A).length = k) := ⟨_, Lib.hid rfl⟩
 have HRK : ∀ w, FldAt F b cap w → Below w4.heap.size w4 w → Hid (Calls Try.prog 17 #[FV F b cap, .slice aA n cA] w fun e w' => e = .returned (.int .i64 (rl : Nat)) ∧ Below w.heap.size w w') := fun w h1 h2 => Lib.hid (by
  have t := rank_c (n := n) (A := A) (aa := aA) (ca := cA) h1 (by omega) (by omega) (by rw [HLA.out]; omega) HMN.out (by rw [HLA.out]; exact HMA4.out.below h2)
  rw [HLA.out, hrl.out] at t; exact t)
 by_cases hpn : (pivM F n A).length < n
 ·obtain ⟨hv, hr, hk⟩ := inv_none HFF.out HMN.out hpn
  rw [hv] at hiv
  rw [hrl.out] at hr
  obtain ⟨K, hK⟩ : ∃ x, Hid (kerM F n A = x) := ⟨_, Lib.hid rfl⟩
  obtain ⟨kl, hkl⟩ : ∃ k, Hid (K.length = k) := ⟨_, Lib.hid rfl⟩
  rw [hK.out, hkl.out] at hk
  have hr1 : (rl : Int) < (n : Int) := by omega
  have hk1 : (0 : Int) < (kl : Int) := by omega
  have hb5 : e = .returned (.agg #[.slice none 0 0, .int .i64 4]) ∧ Below w4.heap.size w4 w5 := by
   rcases hiv with ⟨_, h1, h2⟩ | ⟨x, a, c, h, _⟩
   ·exact ⟨h1, h2⟩
   ·cases h
  obtain ⟨rfl, hb5⟩ := hb5
  obtain ⟨w6, hw6⟩ : ∃ w, w = w5.alloc (.cells #[.slice none 0 0, .int .i64 4] 53) := ⟨_, rfl⟩
  have HSI : Hid (SI F b cap B IX (.slice none 0 0) 4 w6 w6) := Lib.hid (by rw [hw6, ← hIX]; exact SI.new (HFB4.out.below hb5 HBS4.out) (HF4.out.below hb5) (Nat.lt_of_lt_of_le HBS4.out hb5.size))
  have h46 : Below w4.heap.size w4 w6 := by rw [hw6]; exact hb5.alloc hb5.size _
  have HR6 := HRK w6 HSI.out.2.2.out.1 h46
  have HB6 := Lib.hid (HB4.out.trans (h46.mono HB4.out.size))
  have HMA6 := Lib.hid (HMA4.out.below h46)
  have HW6 := Lib.hid hw6
  clear hiv hv hb5 h46 hw6 HRK
  go_upto_region 8 with fail
  rw [← HW6.out]
  try rw [hIX]
  clear HW6 hIX
  obtain ⟨x0, x1, x2⟩ := HSI.out.1
  obtain ⟨y0, y1⟩ := HSI.out.2.1
  go_wp2_with fail
  with_reducible refine HR6.out.mono ?_
  rintro e w7 ⟨rfl, hb7⟩
  have HSI7 : Hid (SI F b cap B IX (.slice none 0 0) 4 w6 w7) := Lib.hid (HSI.out.keep hb7)
  have HKC : Hid (Calls Try.prog 18 #[FV F b cap, .int .i64 (n : Nat), .slice aA n cA] w7 (MPn K kl w7)) := Lib.hid (by
   have t := kern_c (F := F) (n := n) (A := A) (aa := aA) (ca := cA) (W := w7) HSI7.out.2.2.out.1 (by omega) (by omega) (by rw [HLA.out]; omega) HMN.out (by rw [HLA.out]; exact HMA6.out.below hb7)
   rw [HLA.out, hK.out] at t; exact t.mono fun _ _ h => h.n hkl.out)
  have HB7 := Lib.hid (HB6.out.trans (hb7.mono HB6.out.size))
  clear x0 x1 x2 y0 y1 hb7 HR6
  obtain ⟨x0, x1, x2⟩ := HSI7.out.1
  obtain ⟨y0, y1⟩ := HSI7.out.2.1
  go_wp2_with fail
  with_reducible refine HKC.out.mono ?_
  rintro e w8 ⟨aK, cK, rfl, hmk, hb8⟩
  have HB8 := Lib.hid (HB7.out.trans (hb8.mono HB7.out.size))
  clear x0 x1 x2 y0 y1 hb8 hmk HKC
  go_wp2
  go_ret
  exact ⟨rfl, HB8.out⟩
 ·have hpe : (pivM F n A).length = n := by have := piv_le HFF.out HMN.out; omega
  have hrn : rl = n := by rw [← hrl.out, ← piv_red HFF.out]; exact hpe
  obtain ⟨Bm, hv, hbn, hbl, hsp⟩ := inv_some HFF.out HMN.out HLA.out hpe
  rw [hv] at hiv
  have h5 : ∃ a c, e = .returned (.agg #[.slice a n c, .int .i64 0]) ∧ MM Bm w5 (.slice a n c) ∧ Below w4.heap.size w4 w5 := by
   rcases hiv with ⟨h, _⟩ | ⟨x, a, c, h, h1, h2, h3⟩
   ·cases h
   ·injection h with h
    subst h
    rw [hbl] at h1 h2
    exact ⟨a, c, h1, h2, h3⟩
  obtain ⟨aB, cB, rfl, hm5, hb5⟩ := h5
  have HBN := Lib.hid hbn
  have HLB := Lib.hid hbl
  have HSP := Lib.hid hsp
  obtain ⟨w6, hw6⟩ : ∃ w, w = w5.alloc (.cells #[.slice aB n cB, .int .i64 0] 53) := ⟨_, rfl⟩
  have HSI : Hid (SI F b cap B IX (.slice aB n cB) 0 w6 w6) := Lib.hid (by rw [hw6, ← hIX]; exact SI.new (HFB4.out.below hb5 HBS4.out) (HF4.out.below hb5) (Nat.lt_of_lt_of_le HBS4.out hb5.size))
  have h56 : Below w5.heap.size w5 w6 := by rw [hw6]; exact (Below.refl _ _).alloc (Nat.le_refl _) _
  have h46 : Below w4.heap.size w4 w6 := hb5.trans (h56.mono hb5.size)
  rw [hrn] at HRK
  have HR6 := HRK w6 HSI.out.2.2.out.1 h46
  have HB6 := Lib.hid (HB4.out.trans (h46.mono HB4.out.size))
  have HMA6 := Lib.hid (HMA4.out.below h46)
  have HMB6 := Lib.hid (hm5.below h56)
  have HNA6 := Lib.hid (HNA4.out.below h46)
  have HW6 := Lib.hid hw6
  clear hiv hv hb5 h46 h56 hw6 HRK hm5 hbn hbl hsp hpe hrn hpn
  go_upto_region 8 with fail
  rw [← HW6.out]
  try rw [hIX]
  clear HW6 hIX
  obtain ⟨x0, x1, x2⟩ := HSI.out.1
  obtain ⟨y0, y1⟩ := HSI.out.2.1
  go_wp2_with fail
  with_reducible refine HR6.out.mono ?_
  rintro e w7 ⟨rfl, hb7⟩
  have HSI7 : Hid (SI F b cap B IX (.slice aB n cB) 0 w6 w7) := Lib.hid (HSI.out.keep hb7)
  have HVL : Hid (Calls Try.prog 35 #[FV F b cap, .int .i64 (n : Nat), .slice aB n cB] w7 fun e w' => e = .returned (.bool true) ∧ Below w7.heap.size w7 w') := Lib.hid (rvalidm_c HTK.out HSI7.out.2.2.out.1 (by omega) (by omega) (by omega) HLB.out HBN.out (HMB6.out.below hb7))
  clear x0 x1 x2 y0 y1 hb7 HR6
  obtain ⟨x0, x1, x2⟩ := HSI7.out.1
  obtain ⟨y0, y1⟩ := HSI7.out.2.1
  go_wp2_with fail
  with_reducible refine HVL.out.mono ?_
  rintro e w8 ⟨rfl, hb8⟩
  have HSI8 : Hid (SI F b cap B IX (.slice aB n cB) 0 w6 w8) := Lib.hid (HSI7.out.keep hb8)
  have HT1 : Hid (Calls Try.prog 38 #[.int .i64 (n : Nat), .slice aB n cB] w8 (MPn (tuM n Bm) n w8)) := Lib.hid (turn_c (by omega) (by omega) HLB.out (fun k hk => by rw [(mrow HBN.out (by rw [HLB.out]; exact hk)).len]; exact Nat.le_refl _) (HMB6.out.below HSI8.out.2.2.out.2.1))
  clear x0 x1 x2 y0 y1 hb8 HVL
  obtain ⟨x0, x1, x2⟩ := HSI8.out.1
  obtain ⟨y0, y1⟩ := HSI8.out.2.1
  go_wp2_with fail
  with_reducible refine HT1.out.mono ?_
  rintro e w9 ⟨aC, cC, rfl, hmc, hb9⟩
  have HSI9 : Hid (SI F b cap B IX (.slice aB n cB) 0 w6 w9) := Lib.hid (HSI8.out.keep hb9)
  have HMC := Lib.hid hmc
  have HT2 : Hid (Calls Try.prog 38 #[.int .i64 (n : Nat), .slice aA n cA] w9 (MPn (tuM n A) n w9)) := Lib.hid (turn_c (by omega) (by omega) HLA.out (fun k hk => by rw [(mrow HMN.out (by rw [HLA.out]; exact hk)).len]; exact Nat.le_refl _) (HMA6.out.below HSI9.out.2.2.out.2.1))
  clear x0 x1 x2 y0 y1 hb9 hmc HT1
  obtain ⟨x0, x1, x2⟩ := HSI9.out.1
  obtain ⟨y0, y1⟩ := HSI9.out.2.1
  go_wp2_with fail
  with_reducible refine HT2.out.mono ?_
  rintro e wA ⟨aO, cO, rfl, hmo, hbA⟩
  have HSIA : Hid (SI F b cap B IX (.slice aB n cB) 0 w6 wA) := Lib.hid (HSI9.out.keep hbA)
  have HMC0 := Lib.hid (HMC.out.below hbA)
  have HMO0 := Lib.hid hmo
  have HMA0 := Lib.hid (HMA6.out.below HSIA.out.2.2.out.2.1)
  have HMB0 := Lib.hid (HMB6.out.below HSIA.out.2.2.out.2.1)
  have HNA0 := Lib.hid (HNA6.out.below HSIA.out.2.2.out.2.1)
  have HBA := Lib.hid (HB6.out.trans (HSIA.out.2.2.out.2.1.mono HB6.out.size))
  clear x0 x1 x2 y0 y1 hbA hmo HT2 HMC HMA6 HMB6 HNA6 HSI HSI7 HSI8 HSI9 HMA4 HFB4 HF4 HB4 HNA4 HBS4 HB6
  go_wp2
  go_loopw [14] (fun i wr => ∃ k : Nat, k ≤ n ∧ i = .int .i64 k ∧ Hid (Below wA.heap.size wA wr)) (fun i _ => n - (intOf i).toNat)
  case atStart => exact ⟨0, Nat.zero_le _, rfl, Below.refl _ _⟩
  case round =>
   obtain ⟨k, hk, rfl, KB⟩ := hrel
   have HSIr : Hid (SI F b cap B IX (.slice aB n cB) 0 w6 wr) := Lib.hid (HSIA.out.keep KB.out)
   have HSIw : Hid (SI F b cap B IX (.slice aB n cB) 0 wr wr.drew) := Lib.hid (SI.draw HSIr.out)
   have HMAr := Lib.hid (HMA0.out.below KB.out)
   have HMBr := Lib.hid (HMB0.out.below KB.out)
   by_cases hlt : k < n
   ·obtain ⟨EK, hEK⟩ : ∃ L, Hid (eL n k = L) := ⟨_, Lib.hid rfl⟩
    have HEL : Hid (EK.length = n) := Lib.hid (by rw [← hEK.out]; simp)
    have HE1 : Hid (apM F n A (clM Bm k) = EK) := Lib.hid (by rw [← hEK.out]; exact inv_right HFF.out HMN.out HLA.out HBN.out HLB.out HSP.out hlt)
    have HE2 : Hid (apM F n Bm (clM A k) = EK) := Lib.hid (by rw [← hEK.out]; exact inv_cols HFF.out HMN.out HLA.out HBN.out HLB.out HSP.out hlt)
    have HVC : Hid (Vn F n (clM Bm k)) := Lib.hid (clM_vn HFF.out HBN.out HLB.out k)
    have HVO : Hid (Vn F n (clM A k)) := Lib.hid (clM_vn HFF.out HMN.out HLA.out k)
    obtain ⟨bC, oC, rfl, a1, c1, hc1, hnc⟩ := MM.at (R := tuM n Bm) (by rw [tuM_len]; exact HMC0.out.below KB.out) (k := k) (by rw [tuM_len]; exact hlt)
    obtain ⟨bO, oO, rfl, a2, c2, hc2, hno⟩ := MM.at (R := tuM n A) (by rw [tuM_len]; exact HMO0.out.below KB.out) (k := k) (by rw [tuM_len]; exact hlt)
    rw [tuM_get hlt, HVC.out.len] at hc1 hnc
    rw [tuM_get hlt, HVO.out.len] at hc2 hno
    have HNC := Lib.hid hnc
    have HNO := Lib.hid hno
    have hS0 : SIC F b cap B IX (.slice aB n cB) 0 bC (oC + k) (.slice a1 n c1) bO (oO + k) (.slice a2 n c2) wr wr.drew := ⟨HSIw.out, hc1, hc2, Lib.hid ⟨World.block_lt_of_cell? wr _ hc1, World.block_lt_of_cell? wr _ hc2⟩⟩
    clear hnc hno hc1 hc2
    go_wp2_with fail
    refine wp_region_held_drew (S := fun w' => SIC F b cap B IX (.slice aB n cB) 0 bC (oC + k) (.slice a1 n c1) bO (oO + k) (.slice a2 n c2) wr w') (by kernel_rfl) (by with_reducible exact hS0) (fun hHeld => ?_)
    refine Rg.tk 0 ⟨some 95,.load 29 (.tmp 8),29,"law.go:279",#[],none⟩ ?_
    try simp only [Rg.gp]
    refine Rg.tk 1 ⟨some 96,.move (.tmp 10),30,"law.go:279",#[],none⟩ ?_
    try simp only [Rg.gp]
    refine Rg.tk 2 ⟨some 97,.move (.tmp 12),30,"law.go:279",#[],none⟩ ?_
    try simp only [Rg.gp]
    refine Rg.tk 3 ⟨some 98,.move (.tmp 14),3,"law.go:279",#[],none⟩ ?_
    try simp only [Rg.gp]
    refine Rg.tk 4 ⟨some 99,.indexAddr 30 (.tmp 97) (.tmp 98),0,"law.go:279",#[⟨2,.data⟩,⟨3,.data⟩],none⟩ ?_
    try simp only [Rg.gp]
    refine Rg.tk 5 ⟨some 100,.load 27 (.tmp 99),27,"law.go:279",#[⟨4,.data⟩],none⟩ ?_
    try simp only [Rg.gp]
    refine Rg.tk 7 ⟨some 102,.move (.tmp 9),3,"law.go:279",#[],none⟩ ?_
    try simp only [Rg.gp]
    refine Rg.tk 8 ⟨some 103,.move (.tmp 14),3,"law.go:279",#[],none⟩ ?_
    try simp only [Rg.gp]
    refine Rg.rd1 6 ⟨some 101,.call ⟨.value (.func 22),#[.tmp 95,.tmp 96,.tmp 100],#[29,30,27]⟩,27,"law.go:279",#[⟨0,.data⟩,⟨1,.data⟩,⟨5,.data⟩],none⟩ fun K hK => ?_
    go_simp
    go_at_call 22
    with_reducible refine ((show Calls Try.prog 22 #[FV F b cap, .slice aA n cA, .slice a1 n c1] _ (VPn EK n _) from by have t := rapply_c (n := n) (m := n) (A := A) (X := clM Bm k) (aa := aA) (ca := cA) (ax := a1) (cx := c1) hHeld.1.2.2.out.1 (by omega) (by omega) HLA.out HMN.out HVC.out (HMAr.out.below hHeld.1.2.2.out.2.1) (HNC.out.below hHeld.1.2.2.out.2.1); rw [HE1.out] at t; exact t.mono fun _ _ h => h.n HEL.out)).mono ?_
    rintro z v0 ⟨a20, c20, rfl, hn20, hb0⟩
    refine hK.out _ _ ?_ (fun hHeld => ?_)
    ·(try dsimp only)
     exact SIC.keep hHeld hb0
    clear hK K
    try simp only [Rg.gp]
    refine Rg.rd1 9 ⟨some 104,.call ⟨.value (.func 48),#[.tmp 102,.tmp 103],#[3,3]⟩,27,"law.go:279",#[⟨7,.data⟩,⟨8,.data⟩,⟨6,.chain⟩],none⟩ fun K hK => ?_
    go_simp
    go_at_call 48
    with_reducible refine ((show Calls Try.prog 48 #[.int .i64 (n : Nat), .int .i64 (k : Nat)] _ (VPn EK n _) from by rw [← hEK.out]; exact unit_c (by omega) hlt)).mono ?_
    rintro z v1 ⟨a21, c21, rfl, hn21, hb1⟩
    refine hK.out _ _ ?_ (fun hHeld => ?_)
    ·(try dsimp only)
     exact SIC.keep hHeld hb1
    clear hK K
    try simp only [Rg.gp]
    refine Rg.rd1 10 ⟨some 105,.call ⟨.value (.func 20),#[.tmp 101,.tmp 104],#[27,27]⟩,4,"law.go:279",#[⟨6,.data⟩,⟨9,.data⟩,⟨9,.chain⟩],none⟩ fun K hK => ?_
    go_simp
    go_at_call 20
    with_reducible refine ((show Calls Try.prog 20 #[.slice a20 n c20, .slice a21 n c21] _ (fun e w' => e = .returned (.bool true) ∧ Below _ _ w') from by have t := same_c (A := EK) (B := EK) (aa := a20) (ca := c20) (ab := a21) (cb := c21) (by rw [HEL.out]; omega) (by rw [HEL.out]; omega) (by rw [HEL.out]; exact hn20.below hb1) (by rw [HEL.out]; exact hn21); rw [HEL.out, show decide (EK = EK) = true from decide_eq_true rfl] at t; exact t)).mono ?_
    rintro z v2 ⟨rfl, hb2⟩
    refine hK.out _ _ ?_ (fun hHeld => ?_)
    ·(try dsimp only)
     exact SIC.keep hHeld hb2
    clear hK K
    try simp only [Rg.gp]
    refine Rg.tk 11 ⟨some 106,.unOp UnOp.not 4 (.tmp 105),4,"law.go:279",#[⟨10,.data⟩],none⟩ ?_
    try simp only [Rg.gp]
    refine Rg.tk 12 ⟨some 107,.move (.tmp 106),4,"law.go:279",#[⟨11,.data⟩,⟨10,.chain⟩],none⟩ ?_
    try simp only [Rg.gp]
    refine Rg.tk 13 ⟨some 108,.load 29 (.tmp 8),29,"law.go:279",#[⟨12,.guard⟩],some (12, false)⟩ ?_
    try simp only [Rg.gp]
    refine Rg.tk 14 ⟨some 109,.fieldAddr 53 (.tmp 11) 0,0,"law.go:279",#[⟨12,.guard⟩],some (12, false)⟩ ?_
    try simp only [Rg.gp]
    refine Rg.tk 15 ⟨some 110,.load 30 (.tmp 109),30,"law.go:279",#[⟨14,.data⟩,⟨12,.guard⟩],some (12, false)⟩ ?_
    try simp only [Rg.gp]
    refine Rg.tk 16 ⟨some 111,.move (.tmp 13),30,"law.go:279",#[⟨12,.guard⟩],some (12, false)⟩ ?_
    try simp only [Rg.gp]
    refine Rg.tk 17 ⟨some 112,.move (.tmp 14),3,"law.go:279",#[⟨12,.guard⟩],some (12, false)⟩ ?_
    try simp only [Rg.gp]
    refine Rg.tk 18 ⟨some 113,.indexAddr 30 (.tmp 111) (.tmp 112),0,"law.go:279",#[⟨16,.data⟩,⟨17,.data⟩,⟨12,.guard⟩],some (12, false)⟩ ?_
    try simp only [Rg.gp]
    refine Rg.tk 19 ⟨some 114,.load 27 (.tmp 113),27,"law.go:279",#[⟨18,.data⟩,⟨12,.guard⟩],some (12, false)⟩ ?_
    try simp only [Rg.gp]
    refine Rg.tk 21 ⟨some 116,.move (.tmp 9),3,"law.go:279",#[⟨12,.guard⟩],some (12, false)⟩ ?_
    try simp only [Rg.gp]
    refine Rg.tk 22 ⟨some 117,.move (.tmp 14),3,"law.go:279",#[⟨12,.guard⟩],some (12, false)⟩ ?_
    try simp only [Rg.gp]
    refine Rg.rd1 20 ⟨some 115,.call ⟨.value (.func 22),#[.tmp 108,.tmp 110,.tmp 114],#[29,30,27]⟩,27,"law.go:279",#[⟨13,.data⟩,⟨15,.data⟩,⟨19,.data⟩,⟨12,.chain⟩,⟨12,.guard⟩],some (12, false)⟩ fun K hK => ?_
    go_simp
    go_at_call 22
    with_reducible refine ((show Calls Try.prog 22 #[FV F b cap, .slice aB n cB, .slice a2 n c2] _ (VPn EK n _) from by have t := rapply_c (n := n) (m := n) (A := Bm) (X := clM A k) (aa := aB) (ca := cB) (ax := a2) (cx := c2) hHeld.1.2.2.out.1 (by omega) (by omega) HLB.out HBN.out HVO.out (HMBr.out.below hHeld.1.2.2.out.2.1) (HNO.out.below hHeld.1.2.2.out.2.1); rw [HE2.out] at t; exact t.mono fun _ _ h => h.n HEL.out)).mono ?_
    rintro z v3 ⟨a23, c23, rfl, hn23, hb3⟩
    refine hK.out _ _ ?_ (fun hHeld => ?_)
    ·(try dsimp only)
     exact SIC.keep hHeld hb3
    clear hK K
    try simp only [Rg.gp]
    refine Rg.rd1 23 ⟨some 118,.call ⟨.value (.func 48),#[.tmp 116,.tmp 117],#[3,3]⟩,27,"law.go:279",#[⟨21,.data⟩,⟨22,.data⟩,⟨20,.chain⟩,⟨12,.guard⟩],some (12, false)⟩ fun K hK => ?_
    go_simp
    go_at_call 48
    with_reducible refine ((show Calls Try.prog 48 #[.int .i64 (n : Nat), .int .i64 (k : Nat)] _ (VPn EK n _) from by rw [← hEK.out]; exact unit_c (by omega) hlt)).mono ?_
    rintro z v4 ⟨a24, c24, rfl, hn24, hb4⟩
    refine hK.out _ _ ?_ (fun hHeld => ?_)
    ·(try dsimp only)
     exact SIC.keep hHeld hb4
    clear hK K
    try simp only [Rg.gp]
    refine Rg.rd1 24 ⟨some 119,.call ⟨.value (.func 20),#[.tmp 115,.tmp 118],#[27,27]⟩,4,"law.go:279",#[⟨20,.data⟩,⟨23,.data⟩,⟨23,.chain⟩,⟨12,.guard⟩],some (12, false)⟩ fun K hK => ?_
    go_simp
    go_at_call 20
    with_reducible refine ((show Calls Try.prog 20 #[.slice a23 n c23, .slice a24 n c24] _ (fun e w' => e = .returned (.bool true) ∧ Below _ _ w') from by have t := same_c (A := EK) (B := EK) (aa := a23) (ca := c23) (ab := a24) (cb := c24) (by rw [HEL.out]; omega) (by rw [HEL.out]; omega) (by rw [HEL.out]; exact hn23.below hb4) (by rw [HEL.out]; exact hn24); rw [HEL.out, show decide (EK = EK) = true from decide_eq_true rfl] at t; exact t)).mono ?_
    rintro z v5 ⟨rfl, hb5⟩
    refine hK.out _ _ ?_ (fun hHeld => ?_)
    ·(try dsimp only)
     exact SIC.keep hHeld hb5
    clear hK K
    try simp only [Rg.gp]
    refine Rg.tk 25 ⟨some 120,.unOp UnOp.not 4 (.tmp 119),4,"law.go:279",#[⟨24,.data⟩,⟨12,.guard⟩],some (12, false)⟩ ?_
    try simp only [Rg.gp]
    refine Rg.tk 26 ⟨some 121,.pick (.tmp 107) (.const (Value.bool true)) (.tmp 120),4,"law.go:279",#[⟨12,.data⟩,⟨25,.data⟩],none⟩ ?_
    try simp only [Rg.gp]
    refine wpAnyH_done (by kernel_rfl) ?_ _
    have HB5 := Lib.hid (KB.out.trans (hHeld.1.2.2.out.2.1.mono KB.out.size))
    clear hHeld hS0
    go_wp2
    go_roundw
    case rel => exact ⟨k + 1, by omega, by go_num, HB5⟩
    case measure => simp [intOf]; omega
   ·obtain rfl : n = k := by omega
    have hlt1 : ¬ (n : Int) < (n : Int) := by omega
    obtain ⟨wz, hwz⟩ : ∃ w, w = wr := ⟨_, rfl⟩
    subst hwz
    have HIV2 : Hid (Calls Try.prog 33 #[FV F b cap, .slice aB n cB] wz fun e w' => ∃ a c, e = .returned (.agg #[.slice a n c, .int .i64 0]) ∧ MM A w' (.slice a n c) ∧ Below wz.heap.size wz w') := Lib.hid (by
     have t := inverted_c HSIr.out.2.2.out.1 (by omega) (by omega) HLB.out HBN.out HMBr.out (inv_pos HFF.out (by omega) HBN.out HLB.out)
     rw [inv_back HFF.out HMN.out HLA.out HBN.out HLB.out HSP.out] at t
     refine t.mono fun e w' h => ?_
     rcases h with ⟨h, _⟩ | ⟨x, a, c, h, h1, h2, h3⟩
     ·cases h
     ·injection h with h
      subst h
      rw [HLA.out] at h1 h2
      exact ⟨a, c, h1, h2, h3⟩)
    obtain ⟨x0, x1, x2⟩ := HSIr.out.1
    obtain ⟨y0, y1⟩ := HSIr.out.2.1
    go_wp2_with fail
    with_reducible refine HIV2.out.mono ?_
    rintro e wB ⟨aD, cD, rfl, hmd, hbB⟩
    have HSIB : Hid (SI F b cap B IX (.slice aB n cB) 0 w6 wB) := Lib.hid (HSIr.out.keep hbB)
    obtain ⟨wD, hwD⟩ : ∃ w, w = wB.alloc (.cells #[.slice aD n cD, .int .i64 0] 53) := ⟨_, rfl⟩
    have hBD : Below wB.heap.size wB wD := by rw [hwD]; exact (Below.refl _ _).alloc (Nat.le_refl _) _
    have HSID : Hid (SI F b cap B IX (.slice aB n cB) 0 w6 wD) := Lib.hid (HSIB.out.keep hBD)
    have hzD : Below wz.heap.size wz wD := hbB.trans (hBD.mono hbB.size)
    have HBD := Lib.hid (KB.out.trans (hzD.mono KB.out.size))
    have HID : Hid (wD.cell? ⟨wB.heap.size, 0, none⟩ = some (.slice aD n cD) ∧ wD.cell? ⟨wB.heap.size, 1, none⟩ = some (.int .i64 0) ∧ wB.heap.size < wD.heap.size) := Lib.hid (by rw [hwD]; exact ⟨World.cell?_alloc_at _ _ _ _ rfl, World.cell?_alloc_at _ _ _ _ rfl, by simp⟩)
    have HMDD := Lib.hid (hmd.below hBD)
    have HLS : Hid (Calls Try.prog 12 #[FV F b cap, .int .i64 (n : Nat), .slice aa l ca] wD (LPost F n wD)) := Lib.hid (list_c HSID.out.2.2.out.1 (by omega) hl (HNA0.out.below HBD.out))
    have HWD := Lib.hid hwD
    clear hwD hBD hzD hbB hmd HIV2 x0 x1 x2 y0 y1 HSIB HSIw
    obtain ⟨IX2, hIX2⟩ : ∃ g, wB.heap.size = g := ⟨_, rfl⟩
    rw [hIX2] at HID
    go_upto_region 20 with fail
    rw [← HWD.out]
    try rw [hIX2]
    clear HWD hIX2
    obtain ⟨x0, x1, x2⟩ := HSID.out.1
    go_wp2_with fail
    with_reducible refine HLS.out.mono ?_
    rintro e wE ⟨V, hV, aV, cV, rfl, hnv, hbE⟩
    rw [hV.len] at hnv ⊢
    have HVN := Lib.hid hV
    have HVl := Lib.hid hV.len
    have HNV := Lib.hid hnv
    have HSIE : Hid (SI F b cap B IX (.slice aB n cB) 0 w6 wE) := Lib.hid (HSID.out.keep hbE)
    have HBE0 := Lib.hid (HBD.out.trans (hbE.mono HBD.out.size))
    have HBE : Hid (Below W.heap.size W wE) := Lib.hid (HBA.out.trans (HBE0.out.mono HBA.out.size))
    have HMAz := Lib.hid (HMA0.out.below HBE0.out)
    have HMBz := Lib.hid (HMB0.out.below HBE0.out)
    have HMD := Lib.hid (HMDD.out.below hbE)
    obtain ⟨AV, hAV⟩ : ∃ L, apM F n A V = L := ⟨_, rfl⟩
    have HAV := Lib.hid hAV
    have HAVn : Hid (Vn F n AV) := Lib.hid (by rw [← hAV]; exact apM_vn HFF.out HLA.out V)
    have HAVl := Lib.hid HAVn.out.len
    have HBV : Hid (apM F n Bm AV = V) := Lib.hid (by rw [← hAV]; exact inv_left HFF.out HMN.out HLA.out HBN.out HLB.out HSP.out hV)
    have hS0 : SIC F b cap B IX (.slice aB n cB) 0 IX2 0 (.slice aD n cD) IX2 1 (.int .i64 0) wE wE.drew := ⟨SI.draw HSIE.out, (hbE.cell (p := ⟨IX2, 0, none⟩) HID.out.2.2).trans HID.out.1, (hbE.cell (p := ⟨IX2, 1, none⟩) HID.out.2.2).trans HID.out.2.1, Lib.hid ⟨Nat.lt_of_lt_of_le HID.out.2.2 hbE.size, Nat.lt_of_lt_of_le HID.out.2.2 hbE.size⟩⟩
    clear hV hnv hbE hAV HLS x0 x1 x2 HID
    go_wp2_with fail
    refine wp_region_held_drew (S := fun w' => SIC F b cap B IX (.slice aB n cB) 0 IX2 0 (.slice aD n cD) IX2 1 (.int .i64 0) wE w') (by kernel_rfl) (by with_reducible exact hS0) (fun hHeld => ?_)
    refine Rg.tk 0 ⟨some 130,.move (.tmp 7),4,"law.go:285",#[],none⟩ ?_
    try simp only [Rg.gp]
    refine Rg.tk 1 ⟨some 131,.move (.tmp 130),4,"law.go:285",#[⟨0,.data⟩],none⟩ ?_
    try simp only [Rg.gp]
    refine Rg.tk 2 ⟨some 132,.fieldAddr 53 (.tmp 15) 1,0,"law.go:285",#[⟨1,.guard⟩],some (1, true)⟩ ?_
    try simp only [Rg.gp]
    refine Rg.tk 3 ⟨some 133,.load 44 (.tmp 132),44,"law.go:285",#[⟨2,.data⟩,⟨1,.guard⟩],some (1, true)⟩ ?_
    try simp only [Rg.gp]
    refine Rg.tk 4 ⟨some 134,.binOp BinOp.eql 44 (.tmp 133) (.const (Value.int IntKind.i64 0)) 44,4,"law.go:285",#[⟨3,.data⟩,⟨1,.guard⟩],some (1, true)⟩ ?_
    try simp only [Rg.gp]
    refine Rg.tk 5 ⟨some 135,.pick (.tmp 131) (.tmp 134) (.const (Value.bool false)),4,"law.go:285",#[⟨1,.data⟩,⟨4,.data⟩],none⟩ ?_
    try simp only [Rg.gp]
    refine Rg.tk 6 ⟨some 136,.move (.tmp 135),4,"law.go:285",#[⟨5,.data⟩,⟨1,.chain⟩],none⟩ ?_
    try simp only [Rg.gp]
    refine Rg.tk 7 ⟨some 137,.fieldAddr 53 (.tmp 15) 0,0,"law.go:285",#[⟨6,.guard⟩],some (6, true)⟩ ?_
    try simp only [Rg.gp]
    refine Rg.tk 8 ⟨some 138,.load 30 (.tmp 137),30,"law.go:285",#[⟨7,.data⟩,⟨6,.guard⟩],some (6, true)⟩ ?_
    try simp only [Rg.gp]
    refine Rg.tk 9 ⟨some 139,.move (.tmp 10),30,"law.go:285",#[⟨6,.guard⟩],some (6, true)⟩ ?_
    try simp only [Rg.gp]
    refine Rg.rd1 10 ⟨some 140,.call ⟨.value (.func 14),#[.tmp 138,.tmp 139],#[30,30]⟩,4,"law.go:285",#[⟨8,.data⟩,⟨9,.data⟩,⟨6,.chain⟩,⟨6,.guard⟩],some (6, true)⟩ fun K hK => ?_
    go_simp
    go_at_call 14
    with_reducible refine ((show Calls Try.prog 14 #[.slice aD n cD, .slice aA n cA] _ (fun e w' => e = .returned (.bool true) ∧ Below _ _ w') from by have t := alike_c (A := A) (B := A) (aa := aD) (ca := cD) (ab := aA) (cb := cA) (by rw [HLA.out]; omega) (by rw [HLA.out]; omega) (fun t ht => by rw [(mrow HMN.out ht).len]; omega) (fun t ht => by rw [(mrow HMN.out ht).len]; omega) (by rw [HLA.out]; exact HMD.out.below hHeld.1.2.2.out.2.1) (by rw [HLA.out]; exact HMAz.out.below hHeld.1.2.2.out.2.1); rw [HLA.out, show decide (A = A) = true from decide_eq_true rfl] at t; exact t)).mono ?_
    rintro z v0 ⟨rfl, hb0⟩
    refine hK.out _ _ ?_ (fun hHeld => ?_)
    ·(try dsimp only)
     exact SIC.keep hHeld hb0
    clear hK K
    try simp only [Rg.gp]
    refine Rg.tk 11 ⟨some 141,.pick (.tmp 136) (.tmp 140) (.const (Value.bool false)),4,"law.go:285",#[⟨6,.data⟩,⟨10,.data⟩],none⟩ ?_
    try simp only [Rg.gp]
    refine Rg.tk 12 ⟨some 142,.move (.tmp 141),4,"law.go:285",#[⟨11,.data⟩,⟨10,.chain⟩],none⟩ ?_
    try simp only [Rg.gp]
    refine Rg.tk 13 ⟨some 143,.load 29 (.tmp 8),29,"law.go:285",#[⟨12,.guard⟩],some (12, true)⟩ ?_
    try simp only [Rg.gp]
    refine Rg.tk 14 ⟨some 144,.fieldAddr 53 (.tmp 11) 0,0,"law.go:285",#[⟨12,.guard⟩],some (12, true)⟩ ?_
    try simp only [Rg.gp]
    refine Rg.tk 15 ⟨some 145,.load 30 (.tmp 144),30,"law.go:285",#[⟨14,.data⟩,⟨12,.guard⟩],some (12, true)⟩ ?_
    try simp only [Rg.gp]
    refine Rg.tk 16 ⟨some 146,.load 29 (.tmp 8),29,"law.go:285",#[⟨12,.guard⟩],some (12, true)⟩ ?_
    try simp only [Rg.gp]
    refine Rg.tk 17 ⟨some 147,.move (.tmp 10),30,"law.go:285",#[⟨12,.guard⟩],some (12, true)⟩ ?_
    try simp only [Rg.gp]
    refine Rg.tk 18 ⟨some 148,.move (.tmp 16),27,"law.go:285",#[⟨12,.guard⟩],some (12, true)⟩ ?_
    try simp only [Rg.gp]
    refine Rg.tk 21 ⟨some 151,.move (.tmp 16),27,"law.go:285",#[⟨12,.guard⟩],some (12, true)⟩ ?_
    try simp only [Rg.gp]
    refine Rg.rd1 19 ⟨some 149,.call ⟨.value (.func 21),#[.tmp 146,.tmp 147,.tmp 148],#[29,30,27]⟩,27,"law.go:285",#[⟨16,.data⟩,⟨17,.data⟩,⟨18,.data⟩,⟨12,.chain⟩,⟨12,.guard⟩],some (12, true)⟩ fun K hK => ?_
    go_simp
    go_at_call 21
    with_reducible refine ((show Calls Try.prog 21 #[FV F b cap, .slice aA n cA, .slice aV n cV] _ (VPn AV n _) from by have t := apply_c (n := n) (A := A) (X := V) (aa := aA) (ca := cA) (ax := aV) (cx := cV) hHeld.1.2.2.out.1 (by omega) (by omega) (by rw [HLA.out]; omega) HMN.out HVN.out (by rw [HLA.out]; exact HMAz.out.below hHeld.1.2.2.out.2.1) (HNV.out.below hHeld.1.2.2.out.2.1); rw [HLA.out, HAV.out] at t; exact t.mono fun _ _ h => h.n HAVl.out)).mono ?_
    rintro z v1 ⟨a31, c31, rfl, hn31, hb1⟩
    refine hK.out _ _ ?_ (fun hHeld => ?_)
    ·(try dsimp only)
     exact SIC.keep hHeld hb1
    clear hK K
    try simp only [Rg.gp]
    refine Rg.rd1 20 ⟨some 150,.call ⟨.value (.func 21),#[.tmp 143,.tmp 145,.tmp 149],#[29,30,27]⟩,27,"law.go:285",#[⟨13,.data⟩,⟨15,.data⟩,⟨19,.data⟩,⟨19,.chain⟩,⟨12,.guard⟩],some (12, true)⟩ fun K hK => ?_
    go_simp
    go_at_call 21
    with_reducible refine ((show Calls Try.prog 21 #[FV F b cap, .slice aB n cB, .slice a31 n c31] _ (VPn V n _) from by have t := apply_c (n := n) (A := Bm) (X := AV) (aa := aB) (ca := cB) (ax := a31) (cx := c31) hHeld.1.2.2.out.1 (by omega) (by omega) (by rw [HLB.out]; omega) HBN.out HAVn.out (by rw [HLB.out]; exact HMBz.out.below hHeld.1.2.2.out.2.1) (hn31); rw [HLB.out, HBV.out] at t; exact t.mono fun _ _ h => h.n HVl.out)).mono ?_
    rintro z v2 ⟨a32, c32, rfl, hn32, hb2⟩
    refine hK.out _ _ ?_ (fun hHeld => ?_)
    ·(try dsimp only)
     exact SIC.keep hHeld hb2
    clear hK K
    try simp only [Rg.gp]
    refine Rg.rd1 22 ⟨some 152,.call ⟨.value (.func 20),#[.tmp 150,.tmp 151],#[27,27]⟩,4,"law.go:285",#[⟨20,.data⟩,⟨21,.data⟩,⟨20,.chain⟩,⟨12,.guard⟩],some (12, true)⟩ fun K hK => ?_
    go_simp
    go_at_call 20
    with_reducible refine ((show Calls Try.prog 20 #[.slice a32 n c32, .slice aV n cV] _ (fun e w' => e = .returned (.bool true) ∧ Below _ _ w') from by have t := same_c (A := V) (B := V) (aa := a32) (ca := c32) (ab := aV) (cb := cV) (by rw [HVl.out]; omega) (by rw [HVl.out]; omega) (by rw [HVl.out]; exact hn32) (by rw [HVl.out]; exact HNV.out.below hHeld.1.2.2.out.2.1); rw [HVl.out, show decide (V = V) = true from decide_eq_true rfl] at t; exact t)).mono ?_
    rintro z v3 ⟨rfl, hb3⟩
    refine hK.out _ _ ?_ (fun hHeld => ?_)
    ·(try dsimp only)
     exact SIC.keep hHeld hb3
    clear hK K
    try simp only [Rg.gp]
    refine Rg.tk 23 ⟨some 153,.pick (.tmp 142) (.tmp 152) (.const (Value.bool false)),4,"law.go:285",#[⟨12,.data⟩,⟨22,.data⟩],none⟩ ?_
    try simp only [Rg.gp]
    refine Rg.tk 24 ⟨some 6,.assign (.tmp 153),4,"law.go:285",#[⟨23,.data⟩,⟨22,.chain⟩,⟨0,.phase⟩,⟨1,.phase⟩,⟨2,.phase⟩,⟨3,.phase⟩,⟨4,.phase⟩,⟨5,.phase⟩,⟨6,.phase⟩,⟨7,.phase⟩,⟨8,.phase⟩,⟨9,.phase⟩,⟨10,.phase⟩,⟨11,.phase⟩,⟨12,.phase⟩,⟨13,.phase⟩,⟨14,.phase⟩,⟨15,.phase⟩,⟨16,.phase⟩,⟨17,.phase⟩,⟨18,.phase⟩,⟨19,.phase⟩,⟨20,.phase⟩,⟨21,.phase⟩,⟨22,.phase⟩,⟨23,.phase⟩],none⟩ ?_
    try simp only [Rg.gp]
    refine wpAnyH_done (by kernel_rfl) ?_ _
    have HBG := Lib.hid (HBE.out.trans (hHeld.1.2.2.out.2.1.mono HBE.out.size))
    clear hHeld hS0
    go_wp2
    go_ret
    exact ⟨rfl, HBG.out⟩
end Go.Proofs.Yteeofijcndgbfaa
