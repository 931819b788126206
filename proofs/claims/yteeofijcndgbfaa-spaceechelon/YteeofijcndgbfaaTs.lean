/- SpaceKernels: the law's walk. -/
import Derived.Test.YteeofijcndgbfaaTr
namespace Go.Proofs.Yteeofijcndgbfaa
open Go.RowKit Go.Fl
set_option maxRecDepth 100000
set_option linter.unusedVariables false
set_option linter.unusedSimpArgs false
set_option linter.unusedSectionVars false
/-- a box of a problem and a box of its field -/
abbrev SKL (F : Gf) (b cap n B BM : Nat) (mv : Value) (w1 w : World) : Prop := FBx B F b cap w ∧ MB BM F b cap n mv w ∧ Hid (FldAt F b cap w ∧ Below w1.heap.size w1 w ∧ B < w.heap.size ∧ BM < w.heap.size)
theorem SKL.keep {F : Gf} {b cap n B BM : Nat} {mv : Value} {w1 w w' : World} (h : SKL F b cap n B BM mv w1 w) (hb : Below w.heap.size w w') : SKL F b cap n B BM mv w1 w' := by
 obtain ⟨h1, h2, h3⟩ := h
 obtain ⟨k1, k2, k3, k4⟩ := h3.out
 exact ⟨h1.below hb k3, ⟨(hb.cell k4).trans h2.1, (hb.cell k4).trans h2.2.1, (hb.cell k4).trans h2.2.2.1, (hb.cell k4).trans h2.2.2.2.1, (hb.cell k4).trans h2.2.2.2.2⟩, Lib.hid ⟨k1.below hb, k2.trans (hb.mono k2.size), Nat.lt_of_lt_of_le k3 hb.size, Nat.lt_of_lt_of_le k4 hb.size⟩⟩
theorem SKL.draw {F : Gf} {b cap n B BM : Nat} {mv : Value} {w1 w : World} (h : SKL F b cap n B BM mv w1 w) : SKL F b cap n B BM mv w w.drew :=
 ⟨h.1, h.2.1, Lib.hid ⟨h.2.2.out.1.bx (Bx.refl (fun _ => False) w).drew id, (Below.refl _ _).drew, h.2.2.out.2.2⟩⟩
/-- .. and a row of a matrix -/
abbrev SKC (F : Gf) (b cap n B BM : Nat) (mv : Value) (b1 o1 : Nat) (u : Value) (w1 w : World) : Prop := SKL F b cap n B BM mv w1 w ∧ w.cell? ⟨b1, o1, none⟩ = some u ∧ Hid (b1 < w.heap.size)
theorem SKC.keep {F : Gf} {b cap n B BM b1 o1 : Nat} {mv u : Value} {w1 w w' : World} (h : SKC F b cap n B BM mv b1 o1 u w1 w) (hb : Below w.heap.size w w') : SKC F b cap n B BM mv b1 o1 u w1 w' :=
 ⟨h.1.keep hb, (hb.cell h.2.2.out).trans h.2.1, Lib.hid (Nat.lt_of_lt_of_le h.2.2.out hb.size)⟩
set_option maxHeartbeats 25600000 in
theorem kernels_c {x y z l ca l2 ca2 : Nat} {aa ab : Option Addr} {W : World} (hx : x ≤ 255) (hy : y ≤ 255) (hz : z ≤ 255) (hl : l ≤ maxLen) (na : N16 l W (.slice aa l ca)) (hl2 : l2 ≤ maxLen) (nb : N16 l2 W (.slice ab l2 ca2)) :
  Calls Try.prog 5 #[.agg #[.int .u8 (x : Nat), .int .u8 (y : Nat), .int .u8 (z : Nat), .slice aa l ca], .slice ab l2 ca2] W fun e w' => e = .returned (.bool true) ∧ Below W.heap.size W w' := by
 obtain ⟨w1, hw1⟩ : ∃ w, w = W.alloc (.cells #[.int .u8 (x : Nat), .int .u8 (y : Nat), .int .u8 (z : Nat), .slice aa l ca] 24) := ⟨_, rfl⟩
 have hal : Below W.heap.size W w1 := by rw [hw1]; exact (Below.refl _ _).alloc (Nat.le_refl _) _
 have HAL := Lib.hid hal
 have HD1 : Hid (w1.cell? ⟨W.heap.size, 0, none⟩ = some (.int .u8 (x : Nat)) ∧ w1.cell? ⟨W.heap.size, 1, none⟩ = some (.int .u8 (y : Nat)) ∧ w1.cell? ⟨W.heap.size, 2, none⟩ = some (.int .u8 (z : Nat)) ∧ w1.cell? ⟨W.heap.size, 3, none⟩ = some (.slice aa l ca) ∧ W.heap.size < w1.heap.size) := Lib.hid (by
  rw [hw1]; exact ⟨World.cell?_alloc_at _ _ _ _ rfl, World.cell?_alloc_at _ _ _ _ rfl, World.cell?_alloc_at _ _ _ _ rfl, World.cell?_alloc_at _ _ _ _ rfl, by simp⟩)
 have HNA := Lib.hid (na.below hal)
 have HNB := Lib.hid (nb.below hal)
 have HEX : Hid (Calls Try.prog 9 #[] w1 fun e w' => e = .returned (.bool true) ∧ Below w1.heap.size w1 w') := Lib.hid (examples_c w1)
 have HW1 := Lib.hid hw1
 clear hal na nb hw1
 go_enter Try.func5, Try.ntmps5
 go_wp2_with fail
 rw [← HW1.out]
 clear HW1
 with_reducible refine HEX.out.mono ?_
 rintro e w2 ⟨rfl, hb2⟩
 obtain ⟨e0, e1, e2, e3, e4⟩ := HD1.out
 have d0 := (hb2.cell (p := ⟨W.heap.size, 0, none⟩) e4).trans e0
 have d1 := (hb2.cell (p := ⟨W.heap.size, 1, none⟩) e4).trans e1
 have d2 := (hb2.cell (p := ⟨W.heap.size, 2, none⟩) e4).trans e2
 have d3 := (hb2.cell (p := ⟨W.heap.size, 3, none⟩) e4).trans e3
 have HB2 : Hid (Below W.heap.size W w2) := Lib.hid (HAL.out.trans (hb2.mono HAL.out.size))
 have HNB2 := Lib.hid (HNB.out.below hb2)
 have HMD : Hid (Calls Try.prog 10 #[.agg #[.int .u8 (x : Nat), .int .u8 (y : Nat), .int .u8 (z : Nat), .slice aa l ca]] w2 (MadeP x y z w2)) := Lib.hid (made_c hx hy hz hl (HNA.out.below hb2))
 clear hb2 HEX e0 e1 e2 e3 e4 HD1
 go_wp2_with fail
 with_reducible refine HMD.out.mono ?_
 rintro e w3 ⟨b, cap, A, us, aA, cA, rfl, hf3, hmn, hla, hol, hb3⟩
 obtain ⟨F, hF⟩ : ∃ F, Hid (fdB x = F) := ⟨_, Lib.hid rfl⟩
 obtain ⟨n, hn⟩ : ∃ n, Hid (1 + y % 8 = n) := ⟨_, Lib.hid rfl⟩
 obtain ⟨m, hm⟩ : ∃ n, Hid (z % 7 = n) := ⟨_, Lib.hid rfl⟩
 rw [hF.out] at hf3 hmn ⊢
 rw [hn.out] at hmn ⊢
 rw [hm.out] at hla hol ⊢
 have HN1 : Hid (1 ≤ n ∧ n ≤ 8 ∧ m ≤ 6) := Lib.hid (by have := hn.out; have := hm.out; omega)
 have HTK : Hid (F ∈ fds.take 10) := Lib.hid (by rw [← hF.out]; exact fdB_take x)
 obtain ⟨w4, hw4⟩ : ∃ w, w = (w3.alloc (.cells #[.int .i64 F.p, .int .i64 F.e, FM F b cap, .int .i64 (n : Nat), .slice aA m cA] 32)).alloc (.cells #[.int .i64 F.p, .int .i64 F.e, FM F b cap] 29) := ⟨_, rfl⟩
 have h34 : Below w3.heap.size w3 w4 := by rw [hw4]; exact ((Below.refl _ _).alloc (Nat.le_refl _) _).alloc (by simp) _
 have hes : (w3.alloc (.cells #[.int .i64 F.p, .int .i64 F.e, FM F b cap, .int .i64 (n : Nat), .slice aA m cA] 32)).heap.size = w3.heap.size + 1 := by simp
 have HSK : Hid (SKL F b cap n (w3.heap.size + 1) w3.heap.size (.slice aA m cA) w4 w4) := Lib.hid ⟨by
   have t := FBx.new (w3.alloc (.cells #[.int .i64 F.p, .int .i64 F.e, FM F b cap, .int .i64 (n : Nat), .slice aA m cA] 32)) F b cap
   rw [hes, ← hw4] at t; exact t, by
   rw [hw4]; exact ⟨(World.cell?_alloc_lt _ _ _ (by simp)).trans (World.cell?_alloc_at _ _ _ _ rfl), (World.cell?_alloc_lt _ _ _ (by simp)).trans (World.cell?_alloc_at _ _ _ _ rfl), (World.cell?_alloc_lt _ _ _ (by simp)).trans (World.cell?_alloc_at _ _ _ _ rfl), (World.cell?_alloc_lt _ _ _ (by simp)).trans (World.cell?_alloc_at _ _ _ _ rfl), (World.cell?_alloc_lt _ _ _ (by simp)).trans (World.cell?_alloc_at _ _ _ _ rfl)⟩,
   Lib.hid ⟨hf3.below h34, Below.refl _ _, by rw [hw4]; simp, by rw [hw4]; simp; omega⟩⟩
 have HMA : Hid (MM A w4 (.slice aA m cA)) := Lib.hid (hol.mm.below h34)
 have HMN := Lib.hid hmn
 have HLA := Lib.hid hla
 have HB4 : Hid (Below W.heap.size W w4) := Lib.hid (HB2.out.trans ((hb3.trans (h34.mono hb3.size)).mono HB2.out.size))
 have HNB4 : Hid (N16 l2 w4 (.slice ab l2 ca2)) := Lib.hid (HNB2.out.below (hb3.trans (h34.mono hb3.size)))
 have HFF : Hid (Ok F) := Lib.hid (ok_mem hf3.mem)
 have HW4 := Lib.hid hw4
 clear hw4 h34 hes hol hla hmn hf3 hb3 HMD d0 d1 d2 d3 HNB2 HNB HNA
 go_upto_region 6 with fail
 rw [← HW4.out]
 clear HW4
 generalize w3.heap.size + 1 = B at *
 generalize w3.heap.size = BM at *
 have HKC : Hid (Calls Try.prog 18 #[FV F b cap, .int .i64 (n : Nat), .slice aA m cA] w4 (MPost (kerM F n A) w4)) := Lib.hid (by
  have t := kern_c (F := F) (n := n) (A := A) (aa := aA) (ca := cA) (W := w4) HSK.out.2.2.out.1 HN1.out.1 (by have := HN1.out; omega) (by rw [HLA.out]; have := HN1.out; omega) HMN.out (by rw [HLA.out]; exact HMA.out)
  rw [HLA.out] at t; exact t)
 obtain ⟨KX, hK⟩ : ∃ KX, Hid (kerM F n A = KX) := ⟨_, Lib.hid rfl⟩
 obtain ⟨kl, hkl⟩ : ∃ k, Hid (KX.length = k) := ⟨_, Lib.hid rfl⟩
 have HKM : Hid (Mn F n KX) := Lib.hid (by rw [← hK.out]; exact (kerM_ok HFF.out HMN.out).1)
 have HKL : Hid (kl ≤ 8) := Lib.hid (by rw [← hkl.out, ← hK.out]; have := kerM_le HFF.out HMN.out; have := HN1.out; omega)
 obtain ⟨R, hR⟩ : ∃ KX, Hid (redM F n A = KX) := ⟨_, Lib.hid rfl⟩
 obtain ⟨rl, hrl⟩ : ∃ k, Hid (R.length = k) := ⟨_, Lib.hid rfl⟩
 have HRL : Hid (kl + rl = n) := Lib.hid (by rw [← hkl.out, ← hrl.out, ← hK.out, ← hR.out]; exact rank_null HFF.out HMN.out)
 have HKK : Hid (kerM F n KX = R) := Lib.hid (by rw [← hK.out, ← hR.out]; exact kerM_kerM HFF.out HMN.out)
 have HRM : Hid (Mn F n R) := Lib.hid (by rw [← hR.out]; exact (redM_ok HFF.out HMN.out).1)
 have HKR : Hid (∃ P, Red F n P (KX.map Go.Fl.fn)) := Lib.hid (by rw [← hK.out]; exact ⟨_, kerM_red HFF.out HMN.out⟩)
 have HKI : Hid (∀ V, Vn F n V → (Sp F (KX.map Go.Fl.fn) (Go.Fl.fn V) ↔ apM F n A V = List.replicate m 0)) := Lib.hid fun V hV => by
  rw [← hK.out, ker_iff HFF.out HMN.out hV, apM_zero HFF.out HLA.out]
 rw [hK.out] at HKC
 obtain ⟨x0, x1, x2⟩ := HSK.out.1
 obtain ⟨m0, m1, m2, m3, m4⟩ := HSK.out.2.1
 go_wp2_with fail
 with_reducible refine HKC.out.mono ?_
 rintro e w6 ⟨aK, cK, rfl, hmk, hb6⟩
 rw [hkl.out] at hmk ⊢
 have HSK6 : Hid (SKL F b cap n B BM (.slice aA m cA) w4 w6) := Lib.hid (HSK.out.keep hb6)
 have HMK : Hid (MM KX w6 (.slice aK kl cK)) := Lib.hid hmk
 have HMA6 := Lib.hid (HMA.out.below hb6)
 have HNB6 := Lib.hid (HNB4.out.below hb6)
 have HB6 : Hid (Below W.heap.size W w6) := Lib.hid (HB4.out.trans (hb6.mono HB4.out.size))
 clear x0 x1 x2 m0 m1 m2 m3 m4 hmk hb6 HKC
 have hn1 := HN1.out
 have hkl8 := HKL.out
 have hrl8 : rl ≤ 8 := by have := HRL.out; omega
 have hsum : (kl : Int) + (rl : Int) = (n : Int) := by have := HRL.out; omega
 have hwsum : IntKind.i64.wrap ((kl : Int) + (rl : Int)) = (n : Int) := by rw [IntWalk.i64_in _ (by omega)]; exact hsum
 have HWS := Lib.hid hwsum
 clear hsum
 have hS0 : SKL F b cap n B BM (.slice aA m cA) w6 w6.drew := SKL.draw HSK6.out
 go_wp2_with fail
 refine wp_region_held_drew (S := fun w' => SKL F b cap n B BM (.slice aA m cA) w6 w') (by kernel_rfl) (by with_reducible exact hS0) (fun hHeld => ?_)
 refine Rg.tk 0 ⟨some 26,.fieldAddr 32 (.tmp 6) 1,0,"law.go:162",#[],none⟩ ?_
 try simp only [Rg.gp]
 refine Rg.tk 1 ⟨some 27,.load 3 (.tmp 26),3,"law.go:162",#[⟨0,.data⟩],none⟩ ?_
 try simp only [Rg.gp]
 refine Rg.tk 2 ⟨some 28,.move (.tmp 8),30,"law.go:162",#[],none⟩ ?_
 try simp only [Rg.gp]
 refine Rg.rd1 3 ⟨some 29,.call ⟨.value (.func 36),#[.tmp 27,.tmp 28],#[3,30]⟩,4,"law.go:162",#[⟨1,.data⟩,⟨2,.data⟩],none⟩ fun K hK => ?_
 go_simp
 go_at_call 36
 with_reducible refine ((show Calls Try.prog 36 #[.int .i64 (n : Nat), .slice aK kl cK] _ _ from by obtain ⟨P, hP⟩ := HKR.out; exact isreduced_c (by omega) (by omega) hkl.out HKM.out hP (HMK.out.below hHeld.2.2.out.2.1))).mono ?_
 rintro z v0 ⟨rfl, hb0⟩
 refine hK.out _ _ ?_ (fun hHeld => ?_)
 ·(try dsimp only)
  exact SKL.keep hHeld hb0
 clear hK K
 try simp only [Rg.gp]
 refine Rg.tk 4 ⟨some 30,.unOp UnOp.not 4 (.tmp 29),4,"law.go:162",#[⟨3,.data⟩],none⟩ ?_
 try simp only [Rg.gp]
 refine Rg.tk 5 ⟨some 31,.move (.tmp 30),4,"law.go:162",#[⟨4,.data⟩,⟨3,.chain⟩],none⟩ ?_
 try simp only [Rg.gp]
 refine Rg.tk 6 ⟨some 32,.load 29 (.tmp 7),29,"law.go:162",#[⟨5,.guard⟩],some (5, false)⟩ ?_
 try simp only [Rg.gp]
 refine Rg.tk 7 ⟨some 33,.fieldAddr 32 (.tmp 6) 1,0,"law.go:162",#[⟨5,.guard⟩],some (5, false)⟩ ?_
 try simp only [Rg.gp]
 refine Rg.tk 8 ⟨some 34,.load 3 (.tmp 33),3,"law.go:162",#[⟨7,.data⟩,⟨5,.guard⟩],some (5, false)⟩ ?_
 try simp only [Rg.gp]
 refine Rg.tk 9 ⟨some 35,.move (.tmp 8),30,"law.go:162",#[⟨5,.guard⟩],some (5, false)⟩ ?_
 try simp only [Rg.gp]
 refine Rg.rd1 10 ⟨some 36,.call ⟨.value (.func 35),#[.tmp 32,.tmp 34,.tmp 35],#[29,3,30]⟩,4,"law.go:162",#[⟨6,.data⟩,⟨8,.data⟩,⟨9,.data⟩,⟨5,.chain⟩,⟨5,.guard⟩],some (5, false)⟩ fun K hK => ?_
 go_simp
 go_at_call 35
 with_reducible refine ((show Calls Try.prog 35 #[FV F b cap, .int .i64 (n : Nat), .slice aK kl cK] _ _ from rvalidm_c HTK.out hHeld.2.2.out.1 (by omega) (by omega) (by omega) hkl.out HKM.out (HMK.out.below hHeld.2.2.out.2.1))).mono ?_
 rintro z v1 ⟨rfl, hb1⟩
 refine hK.out _ _ ?_ (fun hHeld => ?_)
 ·(try dsimp only)
  exact SKL.keep hHeld hb1
 clear hK K
 try simp only [Rg.gp]
 refine Rg.tk 11 ⟨some 37,.unOp UnOp.not 4 (.tmp 36),4,"law.go:162",#[⟨10,.data⟩,⟨5,.guard⟩],some (5, false)⟩ ?_
 try simp only [Rg.gp]
 refine Rg.tk 12 ⟨some 38,.pick (.tmp 31) (.const (Value.bool true)) (.tmp 37),4,"law.go:162",#[⟨5,.data⟩,⟨11,.data⟩],none⟩ ?_
 try simp only [Rg.gp]
 refine Rg.tk 13 ⟨some 39,.move (.tmp 38),4,"law.go:162",#[⟨12,.data⟩,⟨10,.chain⟩],none⟩ ?_
 try simp only [Rg.gp]
 refine Rg.tk 14 ⟨some 40,.move (.tmp 8),30,"law.go:162",#[⟨13,.guard⟩],some (13, false)⟩ ?_
 try simp only [Rg.gp]
 refine Rg.tk 15 ⟨some 41,.call ⟨.builtin Builtin.len,#[.tmp 40],#[30]⟩,3,"law.go:162",#[⟨14,.data⟩,⟨13,.guard⟩],some (13, false)⟩ ?_
 try simp only [Rg.gp]
 refine Rg.tk 16 ⟨some 42,.load 29 (.tmp 7),29,"law.go:162",#[⟨13,.guard⟩],some (13, false)⟩ ?_
 try simp only [Rg.gp]
 refine Rg.tk 17 ⟨some 43,.fieldAddr 32 (.tmp 6) 2,0,"law.go:162",#[⟨13,.guard⟩],some (13, false)⟩ ?_
 try simp only [Rg.gp]
 refine Rg.tk 18 ⟨some 44,.load 30 (.tmp 43),30,"law.go:162",#[⟨17,.data⟩,⟨13,.guard⟩],some (13, false)⟩ ?_
 try simp only [Rg.gp]
 refine Rg.tk 21 ⟨some 47,.fieldAddr 32 (.tmp 6) 1,0,"law.go:162",#[⟨13,.guard⟩],some (13, false)⟩ ?_
 try simp only [Rg.gp]
 refine Rg.tk 22 ⟨some 48,.load 3 (.tmp 47),3,"law.go:162",#[⟨21,.data⟩,⟨13,.guard⟩],some (13, false)⟩ ?_
 try simp only [Rg.gp]
 refine Rg.rd1 19 ⟨some 45,.call ⟨.value (.func 17),#[.tmp 42,.tmp 44],#[29,30]⟩,3,"law.go:162",#[⟨16,.data⟩,⟨18,.data⟩,⟨13,.chain⟩,⟨13,.guard⟩],some (13, false)⟩ fun K hK => ?_
 go_simp
 go_at_call 17
 with_reducible refine ((show Calls Try.prog 17 #[FV F b cap, .slice aA m cA] _ (fun e w' => e = .returned (.int .i64 (rl : Nat)) ∧ Below _ _ w') from by have t := rank_c (n := n) (A := A) (aa := aA) (ca := cA) hHeld.2.2.out.1 (by omega) (by omega) (by rw [HLA.out]; omega) HMN.out (by rw [HLA.out]; exact HMA6.out.below hHeld.2.2.out.2.1); rw [HLA.out, hR.out, hrl.out] at t; exact t)).mono ?_
 rintro z v2 ⟨rfl, hb2⟩
 refine hK.out _ _ ?_ (fun hHeld => ?_)
 ·(try dsimp only)
  exact SKL.keep hHeld hb2
 clear hK K
 try simp only [Rg.gp]
 refine Rg.tk 20 ⟨some 46,.binOp BinOp.add 3 (.tmp 41) (.tmp 45) 3,3,"law.go:162",#[⟨15,.data⟩,⟨19,.data⟩,⟨13,.guard⟩],some (13, false)⟩ ?_
 try simp only [Rg.gp]
 refine Rg.tk 23 ⟨some 49,.binOp BinOp.neq 3 (.tmp 46) (.tmp 48) 3,4,"law.go:162",#[⟨20,.data⟩,⟨22,.data⟩,⟨13,.guard⟩],some (13, false)⟩ ?_
 try simp only [Rg.gp]
 refine Rg.tk 24 ⟨some 50,.pick (.tmp 39) (.const (Value.bool true)) (.tmp 49),4,"law.go:162",#[⟨13,.data⟩,⟨23,.data⟩],none⟩ ?_
 try simp only [Rg.gp]
 refine Rg.tk 25 ⟨some 51,.move (.tmp 50),4,"law.go:162",#[⟨24,.data⟩,⟨19,.chain⟩],none⟩ ?_
 try simp only [Rg.gp]
 refine Rg.tk 26 ⟨some 52,.load 29 (.tmp 7),29,"law.go:162",#[⟨25,.guard⟩],some (25, false)⟩ ?_
 try simp only [Rg.gp]
 refine Rg.tk 27 ⟨some 53,.fieldAddr 32 (.tmp 6) 1,0,"law.go:162",#[⟨25,.guard⟩],some (25, false)⟩ ?_
 try simp only [Rg.gp]
 refine Rg.tk 28 ⟨some 54,.load 3 (.tmp 53),3,"law.go:162",#[⟨27,.data⟩,⟨25,.guard⟩],some (25, false)⟩ ?_
 try simp only [Rg.gp]
 refine Rg.tk 29 ⟨some 55,.move (.tmp 8),30,"law.go:162",#[⟨25,.guard⟩],some (25, false)⟩ ?_
 try simp only [Rg.gp]
 refine Rg.tk 31 ⟨some 57,.load 29 (.tmp 7),29,"law.go:162",#[⟨25,.guard⟩],some (25, false)⟩ ?_
 try simp only [Rg.gp]
 refine Rg.tk 32 ⟨some 58,.fieldAddr 32 (.tmp 6) 2,0,"law.go:162",#[⟨25,.guard⟩],some (25, false)⟩ ?_
 try simp only [Rg.gp]
 refine Rg.tk 33 ⟨some 59,.load 30 (.tmp 58),30,"law.go:162",#[⟨32,.data⟩,⟨25,.guard⟩],some (25, false)⟩ ?_
 try simp only [Rg.gp]
 refine Rg.rd1 30 ⟨some 56,.call ⟨.value (.func 18),#[.tmp 52,.tmp 54,.tmp 55],#[29,3,30]⟩,30,"law.go:162",#[⟨26,.data⟩,⟨28,.data⟩,⟨29,.data⟩,⟨25,.chain⟩,⟨25,.guard⟩],some (25, false)⟩ fun K hK => ?_
 go_simp
 go_at_call 18
 with_reducible refine ((show Calls Try.prog 18 #[FV F b cap, .int .i64 (n : Nat), .slice aK kl cK] _ (MPn R rl _) from by have t := kern_c (n := n) (A := KX) (aa := aK) (ca := cK) hHeld.2.2.out.1 (by omega) (by omega) (by rw [hkl.out]; omega) HKM.out (by rw [hkl.out]; exact HMK.out.below hHeld.2.2.out.2.1); rw [hkl.out, HKK.out] at t; exact t.mono fun _ _ h => h.n hrl.out)).mono ?_
 rintro z v3 ⟨a7, c7, rfl, hm7, hb3⟩
 refine hK.out _ _ ?_ (fun hHeld => ?_)
 ·(try dsimp only)
  exact SKL.keep hHeld hb3
 clear hK K
 try simp only [Rg.gp]
 refine Rg.rd1 34 ⟨some 60,.call ⟨.value (.func 15),#[.tmp 57,.tmp 59],#[29,30]⟩,30,"law.go:162",#[⟨31,.data⟩,⟨33,.data⟩,⟨30,.chain⟩,⟨25,.guard⟩],some (25, false)⟩ fun K hK => ?_
 go_simp
 go_at_call 15
 with_reducible refine ((show Calls Try.prog 15 #[FV F b cap, .slice aA m cA] _ (MPn R rl _) from by have t := reduce_c (n := n) (A := A) (aa := aA) (ca := cA) hHeld.2.2.out.1 (by omega) (by omega) (by rw [HLA.out]; omega) HMN.out (by rw [HLA.out]; exact HMA6.out.below hHeld.2.2.out.2.1); rw [HLA.out, hR.out] at t; exact t.mono fun _ _ h => h.n hrl.out)).mono ?_
 rintro z v4 ⟨a8, c8, rfl, hm8, hb4⟩
 refine hK.out _ _ ?_ (fun hHeld => ?_)
 ·(try dsimp only)
  exact SKL.keep hHeld hb4
 clear hK K
 try simp only [Rg.gp]
 refine Rg.rd1 35 ⟨some 61,.call ⟨.value (.func 14),#[.tmp 56,.tmp 60],#[30,30]⟩,4,"law.go:162",#[⟨30,.data⟩,⟨34,.data⟩,⟨34,.chain⟩,⟨25,.guard⟩],some (25, false)⟩ fun K hK => ?_
 go_simp
 go_at_call 14
 with_reducible refine ((show Calls Try.prog 14 #[.slice a7 rl c7, .slice a8 rl c8] _ (fun e w' => e = .returned (.bool true) ∧ Below _ _ w') from by have t := alike_c (A := R) (B := R) (aa := a7) (ca := c7) (ab := a8) (cb := c8) (by rw [hrl.out]; omega) (by rw [hrl.out]; omega) (fun t ht => by rw [(mrow HRM.out ht).len]; omega) (fun t ht => by rw [(mrow HRM.out ht).len]; omega) (by rw [hrl.out]; exact hm7.below hb4) (by rw [hrl.out]; exact hm8); rw [hrl.out, decide_eq_true rfl] at t; exact t)).mono ?_
 rintro z v5 ⟨rfl, hb5⟩
 refine hK.out _ _ ?_ (fun hHeld => ?_)
 ·(try dsimp only)
  exact SKL.keep hHeld hb5
 clear hK K
 try simp only [Rg.gp]
 refine Rg.tk 36 ⟨some 62,.unOp UnOp.not 4 (.tmp 61),4,"law.go:162",#[⟨35,.data⟩,⟨25,.guard⟩],some (25, false)⟩ ?_
 try simp only [Rg.gp]
 refine Rg.tk 37 ⟨some 63,.pick (.tmp 51) (.const (Value.bool true)) (.tmp 62),4,"law.go:162",#[⟨25,.data⟩,⟨36,.data⟩],none⟩ ?_
 try simp only [Rg.gp]
 refine wpAnyH_done (by kernel_rfl) ?_ _
 have HSK7 : Hid (SKL F b cap n B BM (.slice aA m cA) w6 v5) := Lib.hid hHeld
 clear hHeld hS0 hm7 hm8 hb0 hb1 hb2 hb3 hb4 hb5
 have HZ : Hid (Calls Try.prog 44 #[.int .i64 (m : Nat)] v5 (VPn (List.replicate m 0) m v5)) := Lib.hid ((zero_c (by omega)).mono fun _ _ h => h.n (by simp))
 obtain ⟨m0, m1, m2, m3, m4⟩ := HSK7.out.2.1
 go_wp2_with fail
 with_reducible refine HZ.out.mono ?_
 rintro e w9 ⟨aZ, cZ, rfl, hz9, hb9⟩
 have HSK9 : Hid (SKL F b cap n B BM (.slice aA m cA) w6 w9) := Lib.hid (HSK7.out.keep hb9)
 have HNZ := Lib.hid hz9
 have HK9 : Hid (Below w6.heap.size w6 w9) := Lib.hid HSK9.out.2.2.out.2.1
 clear hz9 hb9 HZ m0 m1 m2 m3 m4
 go_wp2
 go_loopw [10] (fun i wr => ∃ k : Nat, k ≤ kl ∧ i = .int .i64 k ∧ Hid (Below w9.heap.size w9 wr)) (fun i _ => kl - (intOf i).toNat)
 case atStart => exact ⟨0, Nat.zero_le _, rfl, Below.refl _ _⟩
 case round =>
  obtain ⟨k, hk, rfl, KB⟩ := hrel
  have HSKr : Hid (SKL F b cap n B BM (.slice aA m cA) w6 wr) := Lib.hid (HSK9.out.keep KB.out)
  have HSKw : Hid (SKL F b cap n B BM (.slice aA m cA) wr wr.drew) := Lib.hid (SKL.draw HSKr.out)
  have HMKr : Hid (MM KX wr (.slice aK kl cK)) := Lib.hid (HMK.out.below HSKr.out.2.2.out.2.1)
  have HMAr : Hid (MM A wr (.slice aA m cA)) := Lib.hid (HMA6.out.below HSKr.out.2.2.out.2.1)
  have HNZr := Lib.hid (HNZ.out.below KB.out)
  by_cases hlt : k < kl
  ·have hkA : k < KX.length := by rw [hkl.out]; exact hlt
   obtain ⟨Y, hY⟩ : ∃ L, Hid (KX.getD k [] = L) := ⟨_, Lib.hid rfl⟩
   have HVY : Hid (Vn F n Y) := Lib.hid (by rw [← hY.out]; exact mrow HKM.out hkA)
   have HYZ : Hid (apM F n A Y = List.replicate m 0) := Lib.hid ((HKI.out Y HVY.out).1 (Sp.mem HFF.out (HKM.out.vs HFF.out).els (List.mem_map.2 ⟨Y, by rw [← hY.out, List.getD_eq_getElem?_getD, List.getElem?_eq_getElem hkA]; exact List.getElem_mem _, rfl⟩)))
   obtain ⟨b1, o1, rfl, a1, c1, hc1, hny⟩ := MM.at (R := KX) (by rw [hkl.out]; exact HMKr.out) hkA
   rw [hY.out, HVY.out.len] at hc1 hny
   have HNY := Lib.hid hny
   have hS0 : SKC F b cap n B BM (.slice aA m cA) b1 (o1 + k) (.slice a1 n c1) wr wr.drew := ⟨HSKw.out, hc1, Lib.hid (World.block_lt_of_cell? wr _ hc1)⟩
   clear hny hc1 hkA
   go_wp2_with fail
   refine wp_region_held_drew (S := fun w' => SKC F b cap n B BM (.slice aA m cA) b1 (o1 + k) (.slice a1 n c1) wr w') (by kernel_rfl) (by with_reducible exact hS0) (fun hHeld => ?_)
   refine Rg.tk 0 ⟨some 74,.load 29 (.tmp 7),29,"law.go:167",#[],none⟩ ?_
   try simp only [Rg.gp]
   refine Rg.tk 1 ⟨some 75,.fieldAddr 32 (.tmp 6) 2,0,"law.go:167",#[],none⟩ ?_
   try simp only [Rg.gp]
   refine Rg.tk 2 ⟨some 76,.load 30 (.tmp 75),30,"law.go:167",#[⟨1,.data⟩],none⟩ ?_
   try simp only [Rg.gp]
   refine Rg.tk 3 ⟨some 77,.move (.tmp 8),30,"law.go:167",#[],none⟩ ?_
   try simp only [Rg.gp]
   refine Rg.tk 4 ⟨some 78,.move (.tmp 10),3,"law.go:167",#[],none⟩ ?_
   try simp only [Rg.gp]
   refine Rg.tk 5 ⟨some 79,.indexAddr 30 (.tmp 77) (.tmp 78),0,"law.go:167",#[⟨3,.data⟩,⟨4,.data⟩],none⟩ ?_
   try simp only [Rg.gp]
   refine Rg.tk 6 ⟨some 80,.load 27 (.tmp 79),27,"law.go:167",#[⟨5,.data⟩],none⟩ ?_
   try simp only [Rg.gp]
   refine Rg.tk 8 ⟨some 82,.move (.tmp 9),27,"law.go:167",#[],none⟩ ?_
   try simp only [Rg.gp]
   refine Rg.rd1 7 ⟨some 81,.call ⟨.value (.func 22),#[.tmp 74,.tmp 76,.tmp 80],#[29,30,27]⟩,27,"law.go:167",#[⟨0,.data⟩,⟨2,.data⟩,⟨6,.data⟩],none⟩ fun K hK => ?_
   go_simp
   go_at_call 22
   with_reducible refine ((show Calls Try.prog 22 #[FV F b cap, .slice aA m cA, .slice a1 n c1] _ (VPn (List.replicate m 0) m _) from by have t := rapply_c (n := n) (m := m) (A := A) (X := Y) (aa := aA) (ca := cA) hHeld.1.2.2.out.1 (by omega) (by omega) HLA.out HMN.out HVY.out (HMAr.out.below hHeld.1.2.2.out.2.1) (HNY.out.below hHeld.1.2.2.out.2.1); rw [HYZ.out] at t; exact t.mono fun _ _ h => h.n (by simp))).mono ?_
   rintro z v0 ⟨a7, c7, rfl, hm7, hb0⟩
   refine hK.out _ _ ?_ (fun hHeld => ?_)
   ·(try dsimp only)
    exact SKC.keep hHeld hb0
   clear hK K
   try simp only [Rg.gp]
   refine Rg.rd1 9 ⟨some 83,.call ⟨.value (.func 20),#[.tmp 81,.tmp 82],#[27,27]⟩,4,"law.go:167",#[⟨7,.data⟩,⟨8,.data⟩,⟨7,.chain⟩],none⟩ fun K hK => ?_
   go_simp
   go_at_call 20
   with_reducible refine ((show Calls Try.prog 20 #[.slice a7 m c7, .slice aZ m cZ] _ (fun e w' => e = .returned (.bool true) ∧ Below _ _ w') from by have t := same_c (A := List.replicate m 0) (B := List.replicate m 0) (aa := a7) (ca := c7) (ab := aZ) (cb := cZ) (by rw [List.length_replicate]; omega) (by rw [List.length_replicate]; omega) (by rw [List.length_replicate]; exact hm7) (by rw [List.length_replicate]; exact HNZr.out.below hHeld.1.2.2.out.2.1); rw [List.length_replicate, decide_eq_true rfl] at t; exact t)).mono ?_
   rintro z v1 ⟨rfl, hb1⟩
   refine hK.out _ _ ?_ (fun hHeld => ?_)
   ·(try dsimp only)
    exact SKC.keep hHeld hb1
   clear hK K
   try simp only [Rg.gp]
   refine Rg.tk 10 ⟨some 84,.unOp UnOp.not 4 (.tmp 83),4,"law.go:167",#[⟨9,.data⟩],none⟩ ?_
   try simp only [Rg.gp]
   refine Rg.tk 11 ⟨some 85,.move (.tmp 84),4,"law.go:167",#[⟨10,.data⟩,⟨9,.chain⟩],none⟩ ?_
   try simp only [Rg.gp]
   refine Rg.tk 12 ⟨some 86,.load 29 (.tmp 7),29,"law.go:167",#[⟨11,.guard⟩],some (11, false)⟩ ?_
   try simp only [Rg.gp]
   refine Rg.tk 13 ⟨some 87,.fieldAddr 32 (.tmp 6) 2,0,"law.go:167",#[⟨11,.guard⟩],some (11, false)⟩ ?_
   try simp only [Rg.gp]
   refine Rg.tk 14 ⟨some 88,.load 30 (.tmp 87),30,"law.go:167",#[⟨13,.data⟩,⟨11,.guard⟩],some (11, false)⟩ ?_
   try simp only [Rg.gp]
   refine Rg.tk 15 ⟨some 89,.move (.tmp 8),30,"law.go:167",#[⟨11,.guard⟩],some (11, false)⟩ ?_
   try simp only [Rg.gp]
   refine Rg.tk 16 ⟨some 90,.move (.tmp 10),3,"law.go:167",#[⟨11,.guard⟩],some (11, false)⟩ ?_
   try simp only [Rg.gp]
   refine Rg.tk 17 ⟨some 91,.indexAddr 30 (.tmp 89) (.tmp 90),0,"law.go:167",#[⟨15,.data⟩,⟨16,.data⟩,⟨11,.guard⟩],some (11, false)⟩ ?_
   try simp only [Rg.gp]
   refine Rg.tk 18 ⟨some 92,.load 27 (.tmp 91),27,"law.go:167",#[⟨17,.data⟩,⟨11,.guard⟩],some (11, false)⟩ ?_
   try simp only [Rg.gp]
   refine Rg.tk 20 ⟨some 94,.move (.tmp 9),27,"law.go:167",#[⟨11,.guard⟩],some (11, false)⟩ ?_
   try simp only [Rg.gp]
   refine Rg.rd1 19 ⟨some 93,.call ⟨.value (.func 21),#[.tmp 86,.tmp 88,.tmp 92],#[29,30,27]⟩,27,"law.go:167",#[⟨12,.data⟩,⟨14,.data⟩,⟨18,.data⟩,⟨11,.chain⟩,⟨11,.guard⟩],some (11, false)⟩ fun K hK => ?_
   go_simp
   go_at_call 21
   with_reducible refine ((show Calls Try.prog 21 #[FV F b cap, .slice aA m cA, .slice a1 n c1] _ (VPn (List.replicate m 0) m _) from by have t := apply_c (n := n) (A := A) (X := Y) (aa := aA) (ca := cA) hHeld.1.2.2.out.1 (by omega) (by omega) (by rw [HLA.out]; omega) HMN.out HVY.out (by rw [HLA.out]; exact HMAr.out.below hHeld.1.2.2.out.2.1) (HNY.out.below hHeld.1.2.2.out.2.1); rw [HYZ.out, HLA.out] at t; exact t.mono fun _ _ h => h.n (by simp))).mono ?_
   rintro z v2 ⟨a8, c8, rfl, hm8, hb2⟩
   refine hK.out _ _ ?_ (fun hHeld => ?_)
   ·(try dsimp only)
    exact SKC.keep hHeld hb2
   clear hK K
   try simp only [Rg.gp]
   refine Rg.rd1 21 ⟨some 95,.call ⟨.value (.func 20),#[.tmp 93,.tmp 94],#[27,27]⟩,4,"law.go:167",#[⟨19,.data⟩,⟨20,.data⟩,⟨19,.chain⟩,⟨11,.guard⟩],some (11, false)⟩ fun K hK => ?_
   go_simp
   go_at_call 20
   with_reducible refine ((show Calls Try.prog 20 #[.slice a8 m c8, .slice aZ m cZ] _ (fun e w' => e = .returned (.bool true) ∧ Below _ _ w') from by have t := same_c (A := List.replicate m 0) (B := List.replicate m 0) (aa := a8) (ca := c8) (ab := aZ) (cb := cZ) (by rw [List.length_replicate]; omega) (by rw [List.length_replicate]; omega) (by rw [List.length_replicate]; exact hm8) (by rw [List.length_replicate]; exact HNZr.out.below hHeld.1.2.2.out.2.1); rw [List.length_replicate, decide_eq_true rfl] at t; exact t)).mono ?_
   rintro z v3 ⟨rfl, hb3⟩
   refine hK.out _ _ ?_ (fun hHeld => ?_)
   ·(try dsimp only)
    exact SKC.keep hHeld hb3
   clear hK K
   try simp only [Rg.gp]
   refine Rg.tk 22 ⟨some 96,.unOp UnOp.not 4 (.tmp 95),4,"law.go:167",#[⟨21,.data⟩,⟨11,.guard⟩],some (11, false)⟩ ?_
   try simp only [Rg.gp]
   refine Rg.tk 23 ⟨some 97,.pick (.tmp 85) (.const (Value.bool true)) (.tmp 96),4,"law.go:167",#[⟨11,.data⟩,⟨22,.data⟩],none⟩ ?_
   try simp only [Rg.gp]
   refine wpAnyH_done (by kernel_rfl) ?_ _
   have HB5 := Lib.hid (KB.out.trans (hHeld.1.2.2.out.2.1.mono KB.out.size))
   clear hHeld hS0 hm7 hm8
   go_wp2
   go_roundw
   case rel => exact ⟨k + 1, by omega, by go_num, HB5⟩
   case measure => simp [intOf]; omega
  ·obtain rfl : k = kl := by omega
   have hlt1 : ¬ (k : Int) < (k : Int) := by omega
   have HLI : Hid (Calls Try.prog 12 #[FV F b cap, .int .i64 (n : Nat), .slice ab l2 ca2] wr (LPost F n wr)) := Lib.hid (list_c HSKr.out.2.2.out.1 (by omega) hl2 (HNB6.out.below HSKr.out.2.2.out.2.1))
   obtain ⟨x0, x1, x2⟩ := HSKr.out.1
   obtain ⟨m0, m1, m2, m3, m4⟩ := HSKr.out.2.1
   go_wp2_with fail
   with_reducible refine HLI.out.mono ?_
   rintro e wq ⟨V, hvn, aV, cV, rfl, hnv, hbq⟩
   rw [hvn.len] at hnv ⊢
   have HVN := Lib.hid hvn
   have HNV := Lib.hid hnv
   have HBQ := Lib.hid hbq
   have HSKq : Hid (SKL F b cap n B BM (.slice aA m cA) w6 wq) := Lib.hid (HSKr.out.keep hbq)
   have HMKq := Lib.hid (HMKr.out.below hbq)
   have HMAq := Lib.hid (HMAr.out.below hbq)
   have HNZq := Lib.hid (HNZr.out.below hbq)
   have HNBq : Hid (N16 l2 wq (.slice ab l2 ca2)) := Lib.hid (HNB6.out.below HSKq.out.2.2.out.2.1)
   have hS0 : SKL F b cap n B BM (.slice aA m cA) wq wq.drew := SKL.draw HSKq.out
   clear x0 x1 x2 m0 m1 m2 m3 m4 hvn hnv hbq HLI
   go_wp2_with fail
   refine wp_region_held_drew (S := fun w' => SKL F b cap n B BM (.slice aA m cA) wq w') (by kernel_rfl) (by with_reducible exact hS0) (fun hHeld => ?_)
   refine Rg.tk 0 ⟨some 103,.load 29 (.tmp 7),29,"law.go:172",#[],none⟩ ?_
   try simp only [Rg.gp]
   refine Rg.tk 1 ⟨some 104,.fieldAddr 32 (.tmp 6) 1,0,"law.go:172",#[],none⟩ ?_
   try simp only [Rg.gp]
   refine Rg.tk 2 ⟨some 105,.load 3 (.tmp 104),3,"law.go:172",#[⟨1,.data⟩],none⟩ ?_
   try simp only [Rg.gp]
   refine Rg.tk 3 ⟨some 106,.move (.tmp 8),30,"law.go:172",#[],none⟩ ?_
   try simp only [Rg.gp]
   refine Rg.tk 4 ⟨some 107,.load 29 (.tmp 7),29,"law.go:172",#[],none⟩ ?_
   try simp only [Rg.gp]
   refine Rg.tk 5 ⟨some 108,.move (.tmp 8),30,"law.go:172",#[],none⟩ ?_
   try simp only [Rg.gp]
   refine Rg.tk 6 ⟨some 109,.call ⟨.builtin Builtin.len,#[.tmp 108],#[30]⟩,3,"law.go:172",#[⟨5,.data⟩],none⟩ ?_
   try simp only [Rg.gp]
   refine Rg.tk 7 ⟨some 110,.move (.tmp 1),22,"law.go:172",#[],none⟩ ?_
   try simp only [Rg.gp]
   refine Rg.rd1 8 ⟨some 111,.call ⟨.value (.func 12),#[.tmp 107,.tmp 109,.tmp 110],#[29,3,22]⟩,27,"law.go:172",#[⟨4,.data⟩,⟨6,.data⟩,⟨7,.data⟩],none⟩ fun K hK => ?_
   go_simp
   go_at_call 12
   with_reducible refine ((list_c (n := k) hHeld.2.2.out.1 (by omega) hl2 (HNBq.out.below hHeld.2.2.out.2.1))).mono ?_
   rintro z v0 ⟨CC, hcn, aC, cC, rfl, hnc, hb0⟩
   rw [hcn.len] at hnc ⊢
   refine hK.out _ _ ?_ (fun hHeld => ?_)
   ·(try dsimp only)
    exact SKL.keep hHeld hb0
   clear hK K
   try simp only [Rg.gp]
   refine Rg.rd1 9 ⟨some 112,.call ⟨.value (.func 40),#[.tmp 103,.tmp 105,.tmp 106,.tmp 111],#[29,3,30,27]⟩,27,"law.go:172",#[⟨0,.data⟩,⟨2,.data⟩,⟨3,.data⟩,⟨8,.data⟩,⟨8,.chain⟩],none⟩ fun K hK => ?_
   go_simp
   go_at_call 40
   with_reducible refine ((show Calls Try.prog 40 #[FV F b cap, .int .i64 (n : Nat), .slice aK k cK, .slice aC k cC] _ (VPn (coK F n KX CC k) n _) from (combine_c (n := n) (m := k) (A := KX) (C := CC) (aa := aK) (ca := cK) hHeld.2.2.out.1 (by omega) (by omega) hkl.out HKM.out hcn (HMKq.out.below hHeld.2.2.out.2.1) hnc).mono fun _ _ h => h.n (coK_vn HFF.out k).len)).mono ?_
   rintro z v1 ⟨aW, cW, rfl, hnw, hb1⟩
   refine hK.out _ _ ?_ (fun hHeld => ?_)
   ·(try dsimp only)
    exact SKL.keep hHeld hb1
   clear hK K
   try simp only [Rg.gp]
   refine Rg.tk 10 ⟨some 12,.assign (.tmp 112),27,"law.go:172",#[⟨9,.data⟩,⟨9,.chain⟩,⟨0,.phase⟩,⟨1,.phase⟩,⟨2,.phase⟩,⟨3,.phase⟩,⟨4,.phase⟩,⟨5,.phase⟩,⟨6,.phase⟩,⟨7,.phase⟩,⟨8,.phase⟩,⟨9,.phase⟩],none⟩ ?_
   try simp only [Rg.gp]
   refine wpAnyH_done (by kernel_rfl) ?_ _
   have HWN : Hid (Vn F n (coK F n KX CC k)) := Lib.hid (coK_vn HFF.out k)
   have HWS : Hid (hasV F n KX (coK F n KX CC k) = true) := Lib.hid ((has_iff HFF.out HKM.out HWN.out).2 (coK_sp HFF.out HKM.out hcn.el k (by rw [hkl.out]; exact Nat.le_refl _)))
   have HSK8 : Hid (SKL F b cap n B BM (.slice aA m cA) wq v1) := Lib.hid hHeld
   have HNW := Lib.hid hnw
   have HBV : Hid (Below wq.heap.size wq v1) := Lib.hid hHeld.2.2.out.2.1
   generalize coK F n KX CC k = WV at *
   obtain ⟨bb, hbb⟩ : ∃ x, Hid (hasV F n KX V = x) := ⟨_, Lib.hid rfl⟩
   obtain ⟨AV, hAV⟩ : ∃ x, Hid (apM F n A V = x) := ⟨_, Lib.hid rfl⟩
   have HAL2 : Hid (AV.length = m) := Lib.hid (by rw [← hAV.out, apM_len, HLA.out])
   have HBD : Hid (decide (AV = List.replicate m 0) = bb) := Lib.hid (by
    rw [← hbb.out, ← hAV.out, Bool.eq_iff_iff, decide_eq_true_eq, has_iff HFF.out HKM.out HVN.out]
    exact (HKI.out V HVN.out).symm)
   have HMKv := Lib.hid (HMKq.out.below HBV.out)
   have HMAv := Lib.hid (HMAq.out.below HBV.out)
   have HNZv := Lib.hid (HNZq.out.below HBV.out)
   have HNVv := Lib.hid (HNV.out.below HBV.out)
   have hS1 : SKL F b cap n B BM (.slice aA m cA) v1 v1.drew := SKL.draw HSK8.out
   have HBE : Hid (Below W.heap.size W v1) := Lib.hid (HB6.out.trans ((HSKq.out.2.2.out.2.1.trans (HBV.out.mono HSKq.out.2.2.out.2.1.size)).mono HB6.out.size))
   clear hHeld hS0 hnw hnc hcn hb0 hb1
   obtain ⟨vv, hvv⟩ : ∃ w, w = v1 := ⟨_, rfl⟩
   subst hvv
   go_wp2_with fail
   refine wp_region_held_drew (S := fun w' => SKL F b cap n B BM (.slice aA m cA) vv w') (by kernel_rfl) (by with_reducible exact hS1) (fun hHeld => ?_)
   refine Rg.tk 0 ⟨some 113,.move (.tmp 5),4,"law.go:173",#[],none⟩ ?_
   try simp only [Rg.gp]
   refine Rg.tk 1 ⟨some 114,.move (.tmp 113),4,"law.go:173",#[⟨0,.data⟩],none⟩ ?_
   try simp only [Rg.gp]
   refine Rg.tk 2 ⟨some 115,.load 29 (.tmp 7),29,"law.go:173",#[⟨1,.guard⟩],some (1, true)⟩ ?_
   try simp only [Rg.gp]
   refine Rg.tk 3 ⟨some 116,.move (.tmp 8),30,"law.go:173",#[⟨1,.guard⟩],some (1, true)⟩ ?_
   try simp only [Rg.gp]
   refine Rg.tk 4 ⟨some 117,.move (.tmp 11),27,"law.go:173",#[⟨1,.guard⟩],some (1, true)⟩ ?_
   try simp only [Rg.gp]
   refine Rg.tk 6 ⟨some 119,.load 29 (.tmp 7),29,"law.go:173",#[⟨1,.guard⟩],some (1, true)⟩ ?_
   try simp only [Rg.gp]
   refine Rg.tk 7 ⟨some 120,.fieldAddr 32 (.tmp 6) 2,0,"law.go:173",#[⟨1,.guard⟩],some (1, true)⟩ ?_
   try simp only [Rg.gp]
   refine Rg.tk 8 ⟨some 121,.load 30 (.tmp 120),30,"law.go:173",#[⟨7,.data⟩,⟨1,.guard⟩],some (1, true)⟩ ?_
   try simp only [Rg.gp]
   refine Rg.tk 9 ⟨some 122,.move (.tmp 11),27,"law.go:173",#[⟨1,.guard⟩],some (1, true)⟩ ?_
   try simp only [Rg.gp]
   refine Rg.tk 11 ⟨some 124,.move (.tmp 9),27,"law.go:173",#[⟨1,.guard⟩],some (1, true)⟩ ?_
   try simp only [Rg.gp]
   refine Rg.rd1 5 ⟨some 118,.call ⟨.value (.func 26),#[.tmp 115,.tmp 116,.tmp 117],#[29,30,27]⟩,4,"law.go:173",#[⟨2,.data⟩,⟨3,.data⟩,⟨4,.data⟩,⟨1,.chain⟩,⟨1,.guard⟩],some (1, true)⟩ fun K hK => ?_
   go_simp
   go_at_call 26
   with_reducible refine ((show Calls Try.prog 26 #[FV F b cap, .slice aK k cK, .slice aV n cV] _ (fun e w' => e = .returned (.bool bb) ∧ Below _ _ w') from by have t := has_c (n := n) (A := KX) (V := V) (aa := aK) (ca := cK) hHeld.2.2.out.1 (by omega) (by omega) (by rw [hkl.out]; omega) HKM.out HVN.out (by rw [hkl.out]; exact HMKv.out.below hHeld.2.2.out.2.1) (HNVv.out.below hHeld.2.2.out.2.1); rw [hkl.out, hbb.out] at t; exact t)).mono ?_
   rintro z v0 ⟨rfl, hb0⟩
   refine hK.out _ _ ?_ (fun hHeld => ?_)
   ·(try dsimp only)
    exact SKL.keep hHeld hb0
   clear hK K
   try simp only [Rg.gp]
   refine Rg.rd1 10 ⟨some 123,.call ⟨.value (.func 22),#[.tmp 119,.tmp 121,.tmp 122],#[29,30,27]⟩,27,"law.go:173",#[⟨6,.data⟩,⟨8,.data⟩,⟨9,.data⟩,⟨5,.chain⟩,⟨1,.guard⟩],some (1, true)⟩ fun K hK => ?_
   go_simp
   go_at_call 22
   with_reducible refine ((show Calls Try.prog 22 #[FV F b cap, .slice aA m cA, .slice aV n cV] _ (VPn AV m _) from by have t := rapply_c (n := n) (m := m) (A := A) (X := V) (aa := aA) (ca := cA) hHeld.2.2.out.1 (by omega) (by omega) HLA.out HMN.out HVN.out (HMAv.out.below hHeld.2.2.out.2.1) (HNVv.out.below hHeld.2.2.out.2.1); rw [hAV.out] at t; exact t.mono fun _ _ h => h.n HAL2.out)).mono ?_
   rintro z v1 ⟨a7, c7, rfl, hm7, hb1⟩
   refine hK.out _ _ ?_ (fun hHeld => ?_)
   ·(try dsimp only)
    exact SKL.keep hHeld hb1
   clear hK K
   try simp only [Rg.gp]
   refine Rg.rd1 12 ⟨some 125,.call ⟨.value (.func 20),#[.tmp 123,.tmp 124],#[27,27]⟩,4,"law.go:173",#[⟨10,.data⟩,⟨11,.data⟩,⟨10,.chain⟩,⟨1,.guard⟩],some (1, true)⟩ fun K hK => ?_
   go_simp
   go_at_call 20
   with_reducible refine ((show Calls Try.prog 20 #[.slice a7 m c7, .slice aZ m cZ] _ (fun e w' => e = .returned (.bool bb) ∧ Below _ _ w') from by have t := same_c (A := AV) (B := List.replicate m 0) (aa := a7) (ca := c7) (ab := aZ) (cb := cZ) (by rw [HAL2.out]; omega) (by rw [List.length_replicate]; omega) (by rw [HAL2.out]; exact hm7) (by rw [List.length_replicate]; exact HNZv.out.below hHeld.2.2.out.2.1); rw [HAL2.out, List.length_replicate, HBD.out] at t; exact t)).mono ?_
   rintro z v2 ⟨rfl, hb2⟩
   refine hK.out _ _ ?_ (fun hHeld => ?_)
   ·(try dsimp only)
    exact SKL.keep hHeld hb2
   clear hK K
   try simp only [Rg.gp]
   refine Rg.tk 13 ⟨some 126,.binOp BinOp.eql 4 (.tmp 118) (.tmp 125) 4,4,"law.go:173",#[⟨5,.data⟩,⟨12,.data⟩,⟨1,.guard⟩],some (1, true)⟩ ?_
   try simp only [Rg.gp]
   refine Rg.tk 14 ⟨some 127,.pick (.tmp 114) (.tmp 126) (.const (Value.bool false)),4,"law.go:173",#[⟨1,.data⟩,⟨13,.data⟩],none⟩ ?_
   try simp only [Rg.gp]
   refine Rg.tk 15 ⟨some 128,.move (.tmp 127),4,"law.go:173",#[⟨14,.data⟩,⟨12,.chain⟩],none⟩ ?_
   try simp only [Rg.gp]
   refine Rg.tk 16 ⟨some 129,.load 29 (.tmp 7),29,"law.go:173",#[⟨15,.guard⟩],some (15, true)⟩ ?_
   try simp only [Rg.gp]
   refine Rg.tk 17 ⟨some 130,.move (.tmp 8),30,"law.go:173",#[⟨15,.guard⟩],some (15, true)⟩ ?_
   try simp only [Rg.gp]
   refine Rg.tk 18 ⟨some 131,.move (.tmp 12),27,"law.go:173",#[⟨15,.guard⟩],some (15, true)⟩ ?_
   try simp only [Rg.gp]
   refine Rg.rd1 19 ⟨some 132,.call ⟨.value (.func 26),#[.tmp 129,.tmp 130,.tmp 131],#[29,30,27]⟩,4,"law.go:173",#[⟨16,.data⟩,⟨17,.data⟩,⟨18,.data⟩,⟨15,.chain⟩,⟨15,.guard⟩],some (15, true)⟩ fun K hK => ?_
   go_simp
   go_at_call 26
   with_reducible refine ((show Calls Try.prog 26 #[FV F b cap, .slice aK k cK, .slice aW n cW] _ (fun e w' => e = .returned (.bool true) ∧ Below _ _ w') from by have t := has_c (n := n) (A := KX) (V := WV) (aa := aK) (ca := cK) hHeld.2.2.out.1 (by omega) (by omega) (by rw [hkl.out]; omega) HKM.out HWN.out (by rw [hkl.out]; exact HMKv.out.below hHeld.2.2.out.2.1) (HNW.out.below hHeld.2.2.out.2.1); rw [hkl.out, HWS.out] at t; exact t)).mono ?_
   rintro z v3 ⟨rfl, hb3⟩
   refine hK.out _ _ ?_ (fun hHeld => ?_)
   ·(try dsimp only)
    exact SKL.keep hHeld hb3
   clear hK K
   try simp only [Rg.gp]
   refine Rg.tk 20 ⟨some 133,.pick (.tmp 128) (.tmp 132) (.const (Value.bool false)),4,"law.go:173",#[⟨15,.data⟩,⟨19,.data⟩],none⟩ ?_
   try simp only [Rg.gp]
   refine Rg.tk 21 ⟨some 4,.assign (.tmp 133),4,"law.go:173",#[⟨20,.data⟩,⟨19,.chain⟩,⟨0,.phase⟩,⟨1,.phase⟩,⟨2,.phase⟩,⟨3,.phase⟩,⟨4,.phase⟩,⟨5,.phase⟩,⟨6,.phase⟩,⟨7,.phase⟩,⟨8,.phase⟩,⟨9,.phase⟩,⟨10,.phase⟩,⟨11,.phase⟩,⟨12,.phase⟩,⟨13,.phase⟩,⟨14,.phase⟩,⟨15,.phase⟩,⟨16,.phase⟩,⟨17,.phase⟩,⟨18,.phase⟩,⟨19,.phase⟩,⟨20,.phase⟩],none⟩ ?_
   try simp only [Rg.gp]
   refine wpAnyH_done (by kernel_rfl) ?_ _
   have HFIN := Lib.hid (HBE.out.trans (hHeld.2.2.out.2.1.mono HBE.out.size))
   clear hHeld hS1 hm7
   go_wp2
   go_ret
   exact ⟨rfl, HFIN.out⟩

end Go.Proofs.Yteeofijcndgbfaa
