/- SpaceSolves: the law's walk. -/
import Derived.Test.YteeofijcndgbfaaWa
import Derived.Test.YteeofijcndgbfaaVd
namespace Go.Proofs.Yteeofijcndgbfaa
open Go.RowKit Go.Fl
set_option maxRecDepth 100000
set_option linter.unusedVariables false
set_option linter.unusedSimpArgs false
set_option linter.unusedSectionVars false
/-- a list of the call's own, of n numbers -/
def DPn (L : List Nat) (n : Nat) (W : World) (e : Ending) (w' : World) : Prop := ∃ a c, e = .returned (.slice a n c) ∧ w'.ownsRow W.heap.size 3 1 (.slice a n c) n (L.map N64) ∧ Below W.heap.size W w'
theorem DPost.n {L : List Nat} {n : Nat} {W : World} {e : Ending} {w' : World} (h : DPost L W e w') (hn : L.length = n) : DPn L n W e w' := by subst hn; exact h
theorem field46 (a : Option Addr) (n c : Nat) (w : World) : (Instr.field 46 (.agg #[.slice a n c, .int .i64 0]) 1).run Try.prog w = .ok (.int .i64 0) w := by kernel_rfl
theorem NN.own {L : List Nat} {m base : Nat} {w : World} {v : Value} (h : w.ownsRow base 3 1 v m (L.map N64)) (hl : L.length = m) : NN L w v := by subst hl; exact NN.of_owns h
set_option maxHeartbeats 25600000 in
theorem solves_c {x y z l ca l2 ca2 ch : Nat} {aa ab : Option Addr} {W : World} (hx : x ≤ 255) (hy : y ≤ 255) (hz : z ≤ 255) (hch : ch ≤ 255) (hl : l ≤ maxLen) (na : N16 l W (.slice aa l ca)) (hl2 : l2 ≤ maxLen) (nb : N16 l2 W (.slice ab l2 ca2)) :
  Calls Try.prog 6 #[.agg #[.int .u8 (x : Nat), .int .u8 (y : Nat), .int .u8 (z : Nat), .slice aa l ca], .slice ab l2 ca2, .int .u8 (ch : Nat)] W fun e w' => e = .returned (.bool true) ∧ Below W.heap.size W w' := by
 obtain ⟨w1, hw1⟩ : ∃ w, w = W.alloc (.cells #[.int .u8 (x : Nat), .int .u8 (y : Nat), .int .u8 (z : Nat), .slice aa l ca] 24) := ⟨_, rfl⟩
 have hal : Below W.heap.size W w1 := by rw [hw1]; exact (Below.refl _ _).alloc (Nat.le_refl _) _
 have HAL := Lib.hid hal
 have HD1 : Hid (w1.cell? ⟨W.heap.size, 0, none⟩ = some (.int .u8 (x : Nat)) ∧ w1.cell? ⟨W.heap.size, 1, none⟩ = some (.int .u8 (y : Nat)) ∧ w1.cell? ⟨W.heap.size, 2, none⟩ = some (.int .u8 (z : Nat)) ∧ w1.cell? ⟨W.heap.size, 3, none⟩ = some (.slice aa l ca) ∧ W.heap.size < w1.heap.size) := Lib.hid (by
  rw [hw1]; exact ⟨World.cell?_alloc_at _ _ _ _ rfl, World.cell?_alloc_at _ _ _ _ rfl, World.cell?_alloc_at _ _ _ _ rfl, World.cell?_alloc_at _ _ _ _ rfl, by simp⟩)
 have HNA := Lib.hid (na.below hal)
 have HNB := Lib.hid (nb.below hal)
 have HEX : Hid (Calls Try.prog 9 #[] w1 fun e w' => e = .returned (.bool true) ∧ Below w1.heap.size w1 w') := Lib.hid (examples_c w1)
 have HW1 := Lib.hid hw1
 clear hal na nb hw1
 go_enter Try.func6, Try.ntmps6
 go_wp2_with fail
 rw [← HW1.out]
 clear HW1
 with_reducible refine HEX.out.mono ?_
 rintro e w2 ⟨rfl, hb2⟩
 obtain ⟨e0, e1, e2, e3, e4⟩ := HD1.out
 have d0 := (hb2.cell (p := ⟨W.heap.size, 0, none⟩) e4).trans e0
 have d1 := (hb2.cell (p := ⟨W.heap.size, 1, none⟩) e4).trans e1
 have d2 := (hb2.cell (p := ⟨W.heap.size, 2, none⟩) e4).trans e2
 have d3 := (hb2.cell (p := ⟨W.heap.size, 3, none⟩) e4).trans e3
 have HB2 : Hid (Below W.heap.size W w2) := Lib.hid (HAL.out.trans (hb2.mono HAL.out.size))
 have HNB2 := Lib.hid (HNB.out.below hb2)
 have HMD : Hid (Calls Try.prog 10 #[.agg #[.int .u8 (x : Nat), .int .u8 (y : Nat), .int .u8 (z : Nat), .slice aa l ca]] w2 (MadeP x y z w2)) := Lib.hid (made_c hx hy hz hl (HNA.out.below hb2))
 clear hb2 HEX e0 e1 e2 e3 e4 HD1
 go_wp2_with fail
 with_reducible refine HMD.out.mono ?_
 rintro e w3 ⟨b, cap, A, us, aA, cA, rfl, hf3, hmn, hla, hol, hb3⟩
 obtain ⟨F, hF⟩ : ∃ F, Hid (fdB x = F) := ⟨_, Lib.hid rfl⟩
 obtain ⟨n, hn⟩ : ∃ n, Hid (1 + y % 8 = n) := ⟨_, Lib.hid rfl⟩
 obtain ⟨m, hm⟩ : ∃ n, Hid (z % 7 = n) := ⟨_, Lib.hid rfl⟩
 rw [hF.out] at hf3 hmn ⊢
 rw [hn.out] at hmn ⊢
 rw [hm.out] at hla hol ⊢
 have HN1 : Hid (1 ≤ n ∧ n ≤ 8 ∧ m ≤ 6) := Lib.hid (by have := hn.out; have := hm.out; omega)
 have HTK : Hid (F ∈ fds.take 10) := Lib.hid (by rw [← hF.out]; exact fdB_take x)
 obtain ⟨w4, hw4⟩ : ∃ w, w = (w3.alloc (.cells #[.int .i64 F.p, .int .i64 F.e, FM F b cap, .int .i64 (n : Nat), .slice aA m cA] 32)).alloc (.cells #[.int .i64 F.p, .int .i64 F.e, FM F b cap] 29) := ⟨_, rfl⟩
 have h34 : Below w3.heap.size w3 w4 := by rw [hw4]; exact ((Below.refl _ _).alloc (Nat.le_refl _) _).alloc (by simp) _
 have hes : (w3.alloc (.cells #[.int .i64 F.p, .int .i64 F.e, FM F b cap, .int .i64 (n : Nat), .slice aA m cA] 32)).heap.size = w3.heap.size + 1 := by simp
 have HSK : Hid (SKL F b cap n (w3.heap.size + 1) w3.heap.size (.slice aA m cA) w4 w4) := Lib.hid ⟨by
   have t := FBx.new (w3.alloc (.cells #[.int .i64 F.p, .int .i64 F.e, FM F b cap, .int .i64 (n : Nat), .slice aA m cA] 32)) F b cap
   rw [hes, ← hw4] at t; exact t, by
   rw [hw4]; exact ⟨(World.cell?_alloc_lt _ _ _ (by simp)).trans (World.cell?_alloc_at _ _ _ _ rfl), (World.cell?_alloc_lt _ _ _ (by simp)).trans (World.cell?_alloc_at _ _ _ _ rfl), (World.cell?_alloc_lt _ _ _ (by simp)).trans (World.cell?_alloc_at _ _ _ _ rfl), (World.cell?_alloc_lt _ _ _ (by simp)).trans (World.cell?_alloc_at _ _ _ _ rfl), (World.cell?_alloc_lt _ _ _ (by simp)).trans (World.cell?_alloc_at _ _ _ _ rfl)⟩,
   Lib.hid ⟨hf3.below h34, Below.refl _ _, by rw [hw4]; simp, by rw [hw4]; simp; omega⟩⟩
 have HMA : Hid (MM A w4 (.slice aA m cA)) := Lib.hid (hol.mm.below h34)
 have HMN := Lib.hid hmn
 have HLA := Lib.hid hla
 have HB4 : Hid (Below W.heap.size W w4) := Lib.hid (HB2.out.trans ((hb3.trans (h34.mono hb3.size)).mono HB2.out.size))
 have HNB4 : Hid (N16 l2 w4 (.slice ab l2 ca2)) := Lib.hid (HNB2.out.below (hb3.trans (h34.mono hb3.size)))
 have HFF : Hid (Ok F) := Lib.hid (ok_mem hf3.mem)
 have HW4 := Lib.hid hw4
 clear hw4 h34 hes hol hla hmn hf3 hb3 HMD d0 d1 d2 d3 HNB2 HNB HNA
 go_upto_region 6 with fail
 rw [← HW4.out]
 clear HW4
 generalize w3.heap.size + 1 = B at *
 generalize w3.heap.size = BM at *
 have hn1 := HN1.out
 have hS0 : SKL F b cap n B BM (.slice aA m cA) w4 w4.drew := SKL.draw HSK.out
 go_wp2_with fail
 refine wp_region_held_drew (S := fun w' => SKL F b cap n B BM (.slice aA m cA) w4 w') (by kernel_rfl) (by with_reducible exact hS0) (fun hHeld => ?_)
 refine Rg.tk 0 ⟨some 25,.load 29 (.tmp 9),29,"law.go:184",#[],none⟩ ?_
 try simp only [Rg.gp]
 refine Rg.tk 1 ⟨some 26,.fieldAddr 32 (.tmp 8) 2,0,"law.go:184",#[],none⟩ ?_
 try simp only [Rg.gp]
 refine Rg.tk 2 ⟨some 27,.load 30 (.tmp 26),30,"law.go:184",#[⟨1,.data⟩],none⟩ ?_
 try simp only [Rg.gp]
 refine Rg.tk 3 ⟨some 28,.load 29 (.tmp 9),29,"law.go:184",#[],none⟩ ?_
 try simp only [Rg.gp]
 refine Rg.tk 4 ⟨some 29,.fieldAddr 32 (.tmp 8) 1,0,"law.go:184",#[],none⟩ ?_
 try simp only [Rg.gp]
 refine Rg.tk 5 ⟨some 30,.load 3 (.tmp 29),3,"law.go:184",#[⟨4,.data⟩],none⟩ ?_
 try simp only [Rg.gp]
 refine Rg.tk 6 ⟨some 31,.move (.tmp 1),22,"law.go:184",#[],none⟩ ?_
 try simp only [Rg.gp]
 refine Rg.rd1 7 ⟨some 32,.call ⟨.value (.func 12),#[.tmp 28,.tmp 30,.tmp 31],#[29,3,22]⟩,27,"law.go:184",#[⟨3,.data⟩,⟨5,.data⟩,⟨6,.data⟩],none⟩ fun K hK => ?_
 go_simp
 go_at_call 12
 with_reducible refine ((show Calls Try.prog 12 #[FV F b cap, .int .i64 (n : Nat), .slice ab l2 ca2] _ (LPost F n _) from list_c hHeld.2.2.out.1 (by omega) hl2 (HNB4.out.below hHeld.2.2.out.2.1))).mono ?_
 rintro z v0 ⟨XL, hXL, aX, cX, rfl, hnx, hb0⟩
 rw [hXL.len] at hnx ⊢
 refine hK.out _ _ ?_ (fun hHeld => ?_)
 ·(try dsimp only)
  exact SKL.keep hHeld hb0
 clear hK K
 try simp only [Rg.gp]
 refine Rg.rd1 8 ⟨some 33,.call ⟨.value (.func 22),#[.tmp 25,.tmp 27,.tmp 32],#[29,30,27]⟩,27,"law.go:184",#[⟨0,.data⟩,⟨2,.data⟩,⟨7,.data⟩,⟨7,.chain⟩],none⟩ fun K hK => ?_
 go_simp
 go_at_call 22
 with_reducible refine ((show Calls Try.prog 22 #[FV F b cap, .slice aA m cA, .slice aX n cX] _ (DPn (apM F n A XL) m _) from (rapply_o hHeld.2.2.out.1 (by omega) (by omega) HLA.out HMN.out hXL (HMA.out.below hHeld.2.2.out.2.1) hnx).mono fun _ _ h => h.n (by rw [apM_len, HLA.out]))).mono ?_
 rintro z v1 ⟨aV, cV, rfl, hn8, hb1⟩
 refine hK.out _ _ ?_ (fun hHeld => ?_)
 ·(try dsimp only)
  exact SKL.keep hHeld hb1
 clear hK K
 try simp only [Rg.gp]
 refine Rg.tk 9 ⟨some 10,.assign (.tmp 33),27,"law.go:184",#[⟨8,.data⟩,⟨8,.chain⟩,⟨0,.phase⟩,⟨1,.phase⟩,⟨2,.phase⟩,⟨3,.phase⟩,⟨4,.phase⟩,⟨5,.phase⟩,⟨6,.phase⟩,⟨7,.phase⟩,⟨8,.phase⟩],none⟩ ?_
 try simp only [Rg.gp]
 refine wpAnyH_done (by kernel_rfl) ?_ _
 have HB5 : Hid (Below w4.heap.size w4 v1) := Lib.hid hHeld.2.2.out.2.1
 have HXV := Lib.hid hXL
 obtain ⟨V0, hV0⟩ : ∃ L, apM F n A XL = L := ⟨_, rfl⟩
 have HV0 : Hid (Vn F m V0) := Lib.hid (by rw [← hV0]; exact apM_vn HFF.out HLA.out XL)
 have HSI0 := Lib.hid (sol_is HFF.out HMN.out HLA.out HV0.out hXL hV0)
 rw [hV0] at hn8
 have HO5 : Hid (v1.ownsRow w4.heap.size 3 1 (.slice aV m cV) m (V0.map N64)) := Lib.hid (own_weak hn8 hb0.size)
 clear hHeld hS0 hb0 hb1 hnx hn8 hXL hV0
 obtain ⟨w5, hw5⟩ : ∃ w, w = v1 := ⟨_, rfl⟩
 subst hw5
 have HSK5 : Hid (SKL F b cap n B BM (.slice aA m cA) w4 w5) := Lib.hid (HSK.out.keep HB5.out)
 have HS1 : Hid (Calls Try.prog 24 #[MV F b cap n (.slice aA m cA), .slice aV m cV] w5 fun e w' => ∃ a c, e = .returned (.agg #[.slice a n c, .int .i64 0]) ∧ Below w5.heap.size w5 w') := Lib.hid (by
  have t := solved_c HSK5.out.2.2.out.1 (by omega) (by omega) (by omega) HLA.out HMN.out HV0.out (HMA.out.below HB5.out) (NN.own HO5.out HV0.out.len)
  refine t.mono fun e w' h => ?_
  obtain ⟨y, hy⟩ := HSI0.out
  rw [hy] at h
  rcases h with ⟨h, _⟩ | ⟨x, a, c, h, h1, h2, h3⟩
  ·cases h
  ·injection h with h
   subst h
   rw [(sol_some HFF.out HMN.out HLA.out HV0.out hy).1.len] at h1
   exact ⟨_, _, h1, h3⟩)
 obtain ⟨x0, x1, x2⟩ := HSK5.out.1
 obtain ⟨m0, m1, m2, m3, m4⟩ := HSK5.out.2.1
 go_wp2_with fail
 with_reducible refine HS1.out.mono ?_
 rintro e w6 ⟨a6, c6, rfl, hb6⟩
 have HB6 : Hid (Below w4.heap.size w4 w6) := Lib.hid (HB5.out.trans (hb6.mono HB5.out.size))
 have HO6 := Lib.hid (own_belowK HO5.out hb6)
 have HSK6 : Hid (SKL F b cap n B BM (.slice aA m cA) w4 w6) := Lib.hid (HSK.out.keep HB6.out)
 clear HS1 hb6 HO5 x0 x1 x2 m0 m1 m2 m3 m4 HSI0 HSK5
 go_wp2_with fail
 simp only [field46]
 go_upto_region 9 with fail
 go_cut [45] (fun v wx => ∃ bb : Bool, v = .bool bb ∧ Hid (bb = true → 0 < m ∧ 0 < ch) ∧ Hid (wx = w6))
 case first =>
  by_cases hm0 : 0 < m
  ·have hm0i : (0 : Int) < (m : Int) := by omega
   by_cases hc0 : 0 < ch
   ·have hc0i : (0 : Int) < (ch : Int) := by omega
    go_wp2_with fail
    go_meet
    case rel => exact ⟨_, rfl, Lib.hid (fun _ => ⟨hm0, hc0⟩), Lib.hid rfl⟩
   ·have hc0i : ¬ (0 : Int) < (ch : Int) := by omega
    go_wp2_with fail
    go_meet
    case rel => exact ⟨false, rfl, Lib.hid (fun h => by cases h), Lib.hid rfl⟩
  ·have hm0i : ¬ (0 : Int) < (m : Int) := by omega
   go_wp2_with fail
   go_meet
   case rel => exact ⟨false, rfl, Lib.hid (fun h => by cases h), Lib.hid rfl⟩
 case rest =>
  obtain ⟨bb, rfl, HBB, HWE⟩ := hcut
  have hwe := HWE.out.symm
  subst hwe
  go_upto_if 45 with fail
  go_cut [46] (fun v wx => ∃ V : List Nat, Hid (Vn F m V) ∧ Hid (wx.ownsRow w4.heap.size 3 1 (.slice aV m cV) m (V.map N64)) ∧ Hid (Below w4.heap.size w4 wx))
  case first =>
   cases bb
   ·go_wp2_with fail
    go_meet
    case rel => exact ⟨V0, HV0, HO6, HB6⟩
   ·obtain ⟨hm0, hc0⟩ := HBB.out rfl
    obtain ⟨i, hi⟩ : ∃ i, Hid (ch % m = i) := ⟨_, Lib.hid rfl⟩
    obtain ⟨r, hr⟩ : ∃ r, Hid (ch % F.q = r) := ⟨_, Lib.hid rfl⟩
    have hq0 : 0 < F.q := HFF.out.zero_lt
    have hil : i < m := by rw [← hi.out]; exact Nat.mod_lt _ hm0
    have HRQ : Hid (r < F.q) := Lib.hid (by rw [← hr.out]; exact Nat.mod_lt _ hq0)
    have hwc : IntKind.i64.wrap (ch : Int) = (ch : Int) := IntWalk.i64_in _ (by omega)
    have hi1 : (ch : Int).tmod (m : Int) = (i : Int) := by rw [← hi.out]; exact (Int.ofNat_tmod ch m).symm
    have hi2 : (ch : Int) % (m : Int) = (i : Int) := by rw [← hi.out]; push_cast; rfl
    have hr1 : (ch : Int).tmod (F.q : Int) = (r : Int) := by rw [← hr.out]; exact (Int.ofNat_tmod ch F.q).symm
    have hr2 : (ch : Int) % (F.q : Int) = (r : Int) := by rw [← hr.out]; push_cast; rfl
    have hm1 : ¬ (m : Int) = 0 := by omega
    have hm9 : ¬ m = 0 := by omega
    have hq9 : ¬ F.q = 0 := by omega
    have hq1 : ¬ (F.q : Int) = 0 := by omega
    have hqi : (0 : Int) < (F.q : Int) := by omega
    obtain ⟨g, c, hv, hbg, hrc⟩ := RC.of_own HO6.out HV0.out.len hm0
    injection hv with hv1 hv2 hv3
    subst hv1 hv3
    have HBG := Lib.hid hbg
    have HRC := Lib.hid hrc
    clear hrc
    have hS0 : SKL F b cap n B BM (.slice aA m cA) w4 w6.drew := HSK.out.keep HB6.out.drew
    go_wp2_with fail
    refine wp_region_held_drew (S := fun w' => SKL F b cap n B BM (.slice aA m cA) w4 w') (by kernel_rfl) (by with_reducible exact hS0) (fun hHeld => ?_)
    refine Rg.tk 0 ⟨some 46,.move (.tmp 10),27,"law.go:189",#[],none⟩ ?_
    try simp only [Rg.gp]
    refine Rg.tk 1 ⟨some 47,.move (.tmp 2),5,"law.go:189",#[],none⟩ ?_
    try simp only [Rg.gp]
    refine Rg.tk 2 ⟨some 48,.convert 5 3 (.tmp 47),3,"law.go:189",#[⟨1,.data⟩],none⟩ ?_
    try simp only [Rg.gp]
    refine Rg.tk 3 ⟨some 49,.move (.tmp 10),27,"law.go:189",#[],none⟩ ?_
    try simp only [Rg.gp]
    refine Rg.tk 4 ⟨some 50,.call ⟨.builtin Builtin.len,#[.tmp 49],#[27]⟩,3,"law.go:189",#[⟨3,.data⟩],none⟩ ?_
    try simp only [Rg.gp]
    refine Rg.tk 5 ⟨some 51,.binOp BinOp.rem 3 (.tmp 48) (.tmp 50) 3,3,"law.go:189",#[⟨2,.data⟩,⟨4,.data⟩],none⟩ ?_
    try simp only [Rg.gp]
    refine Rg.tk 6 ⟨some 52,.move (.tmp 2),5,"law.go:189",#[],none⟩ ?_
    try simp only [Rg.gp]
    refine Rg.tk 7 ⟨some 53,.convert 5 3 (.tmp 52),3,"law.go:189",#[⟨6,.data⟩],none⟩ ?_
    try simp only [Rg.gp]
    refine Rg.tk 8 ⟨some 54,.load 29 (.tmp 9),29,"law.go:189",#[],none⟩ ?_
    try simp only [Rg.gp]
    refine Rg.rd1 9 ⟨some 55,.call ⟨.value (.func 42),#[.tmp 54],#[29]⟩,3,"law.go:189",#[⟨8,.data⟩],none⟩ fun K hK => ?_
    go_simp
    go_at_call 42
    with_reducible refine (show Calls Try.prog 42 #[FV F b cap] _ (fun e w' => e = .returned (.int .i64 (F.q : Nat)) ∧ Below _ _ w') from rsize_c hHeld.2.2.out.1).mono ?_
    rintro z v0 ⟨rfl, hb0⟩
    refine hK.out _ _ ?_ (fun hHeld => ?_)
    ·(try dsimp only)
     exact SKL.keep hHeld hb0
    clear hK K
    try simp only [Rg.gp]
    refine Rg.tk 10 ⟨some 56,.binOp BinOp.rem 3 (.tmp 53) (.tmp 55) 3,3,"law.go:189",#[⟨7,.data⟩,⟨9,.data⟩],none⟩ ?_
    try simp only [Rg.gp]
    refine Rg.tk 11 ⟨some 57,.indexAddr 27 (.tmp 46) (.tmp 51),0,"law.go:189",#[⟨0,.data⟩,⟨5,.data⟩,⟨0,.phase⟩,⟨1,.phase⟩,⟨2,.phase⟩,⟨3,.phase⟩,⟨4,.phase⟩,⟨5,.phase⟩,⟨6,.phase⟩,⟨7,.phase⟩,⟨8,.phase⟩,⟨9,.phase⟩,⟨10,.phase⟩],none⟩ ?_
    try simp only [Rg.gp]
    refine Rg.rd1 12 ⟨none,.store 3 (.tmp 57) (.tmp 56),0,"law.go:189",#[⟨11,.data⟩,⟨10,.data⟩,⟨9,.chain⟩,⟨0,.phase⟩,⟨1,.phase⟩,⟨2,.phase⟩,⟨3,.phase⟩,⟨4,.phase⟩,⟨5,.phase⟩,⟨6,.phase⟩,⟨7,.phase⟩,⟨8,.phase⟩,⟨9,.phase⟩,⟨10,.phase⟩],none⟩ fun K hK => ?_
    have HB7 : Hid (Below w4.heap.size w4 v0) := Lib.hid hHeld.2.2.out.2.1
    have HO7 : Hid (v0.ownsRow w4.heap.size 3 1 (.slice (some ⟨g, 0, none⟩) m cV) m (V0.map N64)) := Lib.hid (own_belowK (w := w6.drew) HO6.out hb0)
    have hrc7 := RC.below (w := w6.drew) HRC.out hb0
    have hf7 : v0.frozen? ⟨g, i, none⟩ = false := hrc7.frozen i
    have hc7 : v0.cell? ⟨g, i, none⟩ = some (.int .i64 (V0.getD i 0 : Nat)) := hrc7.cell (by rw [HV0.out.len]; exact hil)
    go_simp
    refine hK.out _ _ ?_ (fun hHeld => ?_)
    ·(try dsimp only)
     exact HSK.out.keep (HB7.out.trans (Bx.below (Bx.set (S := fun j => j = g) rfl _) HB7.out.size fun j (hj : j = g) => by rw [hj]; exact HBG.out))
    clear hK K
    try simp only [Rg.gp]
    refine wpAnyH_done (by kernel_rfl) ?_ _
    have HB8 : Hid (Below w4.heap.size w4 (v0.setCell ⟨g, i, none⟩ (.int .i64 (r : Nat)))) := Lib.hid hHeld.2.2.out.2.1
    have HX8 : Hid ((v0.setCell ⟨g, i, none⟩ (.int .i64 (r : Nat))).ownsRow w4.heap.size 3 1 (.slice (some ⟨g, 0, none⟩) m cV) m ((V0.set i r).map N64)) := Lib.hid (by
     rw [List.map_set]
     exact (World.ownsRow.stored HO7.out i (.int .i64 (r : Nat))).1)
    have HV8 : Hid (Vn F m (V0.set i r)) := Lib.hid ⟨by rw [List.length_set]; exact HV0.out.len, fun z hz => by
     rcases List.mem_or_eq_of_mem_set hz with h | rfl
     ·exact HV0.out.el z h
     ·exact HRQ.out⟩
    clear hHeld hS0 hb0 hrc7 hf7 hc7
    go_wp2_with fail
    go_meet
    case rel => exact ⟨_, HV8, HX8, HB8⟩
  case rest =>
   obtain ⟨V, HV, HO, HB8⟩ := hcut
   obtain ⟨w8, hw8⟩ : ∃ w, w = wc := ⟨_, rfl⟩
   subst hw8
   have HSK8 : Hid (SKL F b cap n B BM (.slice aA m cA) w4 w8) := Lib.hid (HSK.out.keep HB8.out)
   have HNV8 : Hid (NN V w8 (.slice aV m cV)) := Lib.hid (NN.own HO.out HV.out.len)
   have HMA8 := Lib.hid (HMA.out.below HB8.out)
   have HSV : Hid (Calls Try.prog 24 #[MV F b cap n (.slice aA m cA), .slice aV m cV] w8 (SvP (solM F n (eqM A V)) w8)) := Lib.hid (solved_c HSK8.out.2.2.out.1 (by omega) (by omega) (by omega) HLA.out HMN.out HV.out HMA8.out HNV8.out)
   clear HO HO6 HB6 HSK6
   obtain ⟨x0, x1, x2⟩ := HSK8.out.1
   obtain ⟨m0, m1, m2, m3, m4⟩ := HSK8.out.2.1
   go_wp2_with fail
   with_reducible refine HSV.out.mono ?_
   rintro e w9 hs
   clear HSV x0 x1 x2 m0 m1 m2 m3 m4
   obtain ⟨IX, hIX⟩ : ∃ g, w9.heap.size = g := ⟨_, rfl⟩
   obtain ⟨so, hso⟩ : ∃ s, solM F n (eqM A V) = s := ⟨_, rfl⟩
   have HSO := Lib.hid hso
   rw [hso] at hs
   clear hso
   rcases hs with ⟨rfl, rfl, hb9⟩ | ⟨x, aX, cX, rfl, rfl, hnx, hb9⟩
   ·obtain ⟨wA, hwA⟩ : ∃ w, w = w9.alloc (.cells #[.slice none 0 0, .int .i64 4] 46) := ⟨_, rfl⟩
    have h9A : Below w9.heap.size w9 wA := by rw [hwA]; exact (Below.refl _ _).alloc (Nat.le_refl _) _
    have h8A : Below w8.heap.size w8 wA := hb9.trans (h9A.mono hb9.size)
    have HBA : Hid (Below w4.heap.size w4 wA) := Lib.hid (HB8.out.trans (h8A.mono HB8.out.size))
    have HSKA : Hid (SKL F b cap n B BM (.slice aA m cA) w4 wA) := Lib.hid (HSK.out.keep HBA.out)
    have HNVA := Lib.hid (HNV8.out.below h8A)
    have HMAA := Lib.hid (HMA.out.below HBA.out)
    have HIX : Hid (wA.cell? ⟨IX, 0, none⟩ = some (.slice none 0 0) ∧ wA.cell? ⟨IX, 1, none⟩ = some (.int .i64 4)) := Lib.hid (by rw [hwA, ← hIX]; exact ⟨World.cell?_alloc_at _ _ _ _ rfl, World.cell?_alloc_at _ _ _ _ rfl⟩)
    have HWA := Lib.hid hwA
    clear hwA h9A h8A hb9
    have hm0 : 0 < m := by
     rcases Nat.eq_zero_or_pos m with e | e
     ·exfalso
      have hA0 : A = [] := List.eq_nil_of_length_eq_zero (by rw [HLA.out]; exact e)
      have h := HSO.out
      rw [hA0] at h
      cases h
     ·exact e
    have hm0i : ¬ (m : Int) = 0 := by omega
    have HTN : Hid (Mn F m (tuM n A)) := Lib.hid (tuM_mn HFF.out HMN.out HLA.out n)
    have HTL := Lib.hid (tuM_len n A)
    obtain ⟨KX, hKX⟩ : ∃ x, Hid (kerM F m (tuM n A) = x) := ⟨_, Lib.hid rfl⟩
    obtain ⟨kl, hkl⟩ : ∃ k, Hid (KX.length = k) := ⟨_, Lib.hid rfl⟩
    have hkl8 : kl ≤ 8 := by have := kerM_le HFF.out HTN.out; rw [hKX.out, hkl.out] at this; omega
    go_upto_region 12 with fail
    rw [← HWA.out]
    try rw [hIX]
    clear HWA hIX
    obtain ⟨x0, x1, x2⟩ := HSKA.out.1
    obtain ⟨m0, m1, m2, m3, m4⟩ := HSKA.out.2.1
    obtain ⟨y0, y1⟩ := HIX.out
    go_wp2_with fail
    have hS0 : SKL F b cap n B BM (.slice aA m cA) wA wA.drew := SKL.draw HSKA.out
    clear x0 x1 x2 m0 m1 m2 m3 m4 y0 y1
    refine wp_region_held_drew (S := fun w' => SKL F b cap n B BM (.slice aA m cA) wA w') (by kernel_rfl) (by with_reducible exact hS0) (fun hHeld => ?_)
    refine Rg.tk 0 ⟨some 131,.load 29 (.tmp 9),29,"law.go:211",#[],none⟩ ?_
    try simp only [Rg.gp]
    refine Rg.tk 1 ⟨some 132,.move (.tmp 10),27,"law.go:211",#[],none⟩ ?_
    try simp only [Rg.gp]
    refine Rg.tk 2 ⟨some 133,.call ⟨.builtin Builtin.len,#[.tmp 132],#[27]⟩,3,"law.go:211",#[⟨1,.data⟩],none⟩ ?_
    try simp only [Rg.gp]
    refine Rg.tk 3 ⟨some 134,.fieldAddr 32 (.tmp 8) 1,0,"law.go:211",#[],none⟩ ?_
    try simp only [Rg.gp]
    refine Rg.tk 4 ⟨some 135,.load 3 (.tmp 134),3,"law.go:211",#[⟨3,.data⟩],none⟩ ?_
    try simp only [Rg.gp]
    refine Rg.tk 5 ⟨some 136,.fieldAddr 32 (.tmp 8) 2,0,"law.go:211",#[],none⟩ ?_
    try simp only [Rg.gp]
    refine Rg.tk 6 ⟨some 137,.load 30 (.tmp 136),30,"law.go:211",#[⟨5,.data⟩],none⟩ ?_
    try simp only [Rg.gp]
    refine Rg.rd1 7 ⟨some 138,.call ⟨.value (.func 38),#[.tmp 135,.tmp 137],#[3,30]⟩,30,"law.go:211",#[⟨4,.data⟩,⟨6,.data⟩],none⟩ fun K hK => ?_
    go_simp
    go_at_call 38
    with_reducible refine ((show Calls Try.prog 38 #[.int .i64 (n : Nat), .slice aA m cA] _ (MPn (tuM n A) n _) from turn_c (by omega) (by omega) HLA.out (fun k hk => by rw [(mrow HMN.out (by rw [HLA.out]; exact hk)).len]; exact Nat.le_refl _) (HMAA.out.below hHeld.2.2.out.2.1))).mono ?_
    rintro z v0 ⟨aT, cT, rfl, hmt, hb0⟩
    refine hK.out _ _ ?_ (fun hHeld => ?_)
    ·(try dsimp only)
     exact SKL.keep hHeld hb0
    clear hK K
    try simp only [Rg.gp]
    refine Rg.rd1 8 ⟨some 139,.call ⟨.value (.func 18),#[.tmp 131,.tmp 133,.tmp 138],#[29,3,30]⟩,30,"law.go:211",#[⟨0,.data⟩,⟨2,.data⟩,⟨7,.data⟩,⟨7,.chain⟩],none⟩ fun K hK => ?_
    go_simp
    go_at_call 18
    with_reducible refine ((show Calls Try.prog 18 #[FV F b cap, .int .i64 (m : Nat), .slice aT n cT] _ (MPn KX kl _) from by have t := kern_c (F := F) (n := m) (A := tuM n A) (aa := aT) (ca := cT) hHeld.2.2.out.1 (by omega) (by omega) (by rw [HTL.out]; omega) HTN.out (by rw [HTL.out]; exact hmt); rw [HTL.out, hKX.out] at t; exact t.mono fun _ _ h => h.n hkl.out)).mono ?_
    rintro z v1 ⟨aK, cK, rfl, hmk, hb1⟩
    refine hK.out _ _ ?_ (fun hHeld => ?_)
    ·(try dsimp only)
     exact SKL.keep hHeld hb1
    clear hK K
    try simp only [Rg.gp]
    refine Rg.tk 9 ⟨some 16,.assign (.tmp 139),30,"law.go:211",#[⟨8,.data⟩,⟨8,.chain⟩,⟨0,.phase⟩,⟨1,.phase⟩,⟨2,.phase⟩,⟨3,.phase⟩,⟨4,.phase⟩,⟨5,.phase⟩,⟨6,.phase⟩,⟨7,.phase⟩,⟨8,.phase⟩],none⟩ ?_
    try simp only [Rg.gp]
    refine wpAnyH_done (by kernel_rfl) ?_ _
    have hbAC : Below wA.heap.size wA v1 := hHeld.2.2.out.2.1
    obtain ⟨wC, hwC⟩ : ∃ w, w = v1 := ⟨_, rfl⟩
    subst hwC
    have HSKC : Hid (SKL F b cap n B BM (.slice aA m cA) w4 wC) := Lib.hid (HSKA.out.keep hbAC)
    have HNVC := Lib.hid (HNVA.out.below hbAC)
    have HMAC := Lib.hid (HMAA.out.below hbAC)
    have HMK := Lib.hid hmk
    have HBC : Hid (Below W.heap.size W wC) := Lib.hid (HB4.out.trans (HSKC.out.2.2.out.2.1.mono HB4.out.size))
    clear hHeld hS0 hb0 hb1 hmt hmk hbAC
    go_wp2
    go_loopw [17] (fun i wr => ∃ k : Nat, k ≤ kl ∧ i = .int .i64 k ∧ Hid (∀ s, s < k → dt F m (Go.Fl.fn (KX.getD s [])) (Go.Fl.fn V) = 0) ∧ Hid (Below wC.heap.size wC wr)) (fun i _ => kl - (intOf i).toNat)
    case atStart => exact ⟨0, Nat.zero_le _, rfl, Lib.hid (fun s hs => by omega), Below.refl _ _⟩
    case round =>
     obtain ⟨k, hk, rfl, HZ, KB⟩ := hrel
     have HSKr : Hid (SKL F b cap n B BM (.slice aA m cA) w4 wr) := Lib.hid (HSKC.out.keep KB.out)
     have HSKw : Hid (SKL F b cap n B BM (.slice aA m cA) wr wr.drew) := Lib.hid (SKL.draw HSKr.out)
     have HMAr := Lib.hid (HMAC.out.below KB.out)
     have HNVr := Lib.hid (HNVC.out.below KB.out)
     by_cases hlt : k < kl
     ·have hkA : k < KX.length := by rw [hkl.out]; exact hlt
      obtain ⟨Y, hY⟩ : ∃ L, Hid (KX.getD k [] = L) := ⟨_, Lib.hid rfl⟩
      have HYM : Hid (Y ∈ kerM F m (tuM n A)) := Lib.hid (by rw [hKX.out, ← hY.out, List.getD_eq_getElem?_getD, List.getElem?_eq_getElem hkA]; exact List.getElem_mem _)
      have HVY : Hid (Vn F m Y) := Lib.hid (ker_turn HFF.out HMN.out HLA.out HYM.out).1
      have HCZ : Hid (coK F n A Y m = List.replicate n 0) := Lib.hid (ker_turn HFF.out HMN.out HLA.out HYM.out).2
      obtain ⟨b1, o1, rfl, a1, c1, hc1, hny⟩ := MM.at (R := KX) (by rw [hkl.out]; exact HMK.out.below KB.out) hkA
      rw [hY.out, HVY.out.len] at hc1 hny
      have HNY := Lib.hid hny
      obtain ⟨ZL, hZL⟩ : ∃ L, Hid (List.replicate n 0 = L) := ⟨_, Lib.hid rfl⟩
      have HZl : Hid (ZL.length = n) := Lib.hid (by rw [← hZL.out]; simp)
      obtain ⟨d, hd⟩ : ∃ d, Hid (dt F m (Go.Fl.fn Y) (Go.Fl.fn V) = d) := ⟨_, Lib.hid rfl⟩
      have hS0 : SKC F b cap n B BM (.slice aA m cA) b1 (o1 + k) (.slice a1 m c1) wr wr.drew := ⟨HSKw.out, hc1, Lib.hid (World.block_lt_of_cell? wr _ hc1)⟩
      clear hny hc1 hkA
      go_wp2_with fail
      refine wp_region_held_drew (S := fun w' => SKC F b cap n B BM (.slice aA m cA) b1 (o1 + k) (.slice a1 m c1) wr w') (by kernel_rfl) (by with_reducible exact hS0) (fun hHeld => ?_)
      refine Rg.tk 0 ⟨some 146,.load 29 (.tmp 9),29,"law.go:213",#[],none⟩ ?_
      try simp only [Rg.gp]
      refine Rg.tk 1 ⟨some 147,.move (.tmp 10),27,"law.go:213",#[],none⟩ ?_
      try simp only [Rg.gp]
      refine Rg.tk 2 ⟨some 148,.call ⟨.builtin Builtin.len,#[.tmp 147],#[27]⟩,3,"law.go:213",#[⟨1,.data⟩],none⟩ ?_
      try simp only [Rg.gp]
      refine Rg.tk 3 ⟨some 149,.move (.tmp 16),30,"law.go:213",#[],none⟩ ?_
      try simp only [Rg.gp]
      refine Rg.tk 4 ⟨some 150,.move (.tmp 17),3,"law.go:213",#[],none⟩ ?_
      try simp only [Rg.gp]
      refine Rg.tk 5 ⟨some 151,.indexAddr 30 (.tmp 149) (.tmp 150),0,"law.go:213",#[⟨3,.data⟩,⟨4,.data⟩],none⟩ ?_
      try simp only [Rg.gp]
      refine Rg.tk 6 ⟨some 152,.load 27 (.tmp 151),27,"law.go:213",#[⟨5,.data⟩],none⟩ ?_
      try simp only [Rg.gp]
      refine Rg.rd1 7 ⟨some 153,.call ⟨.value (.func 39),#[.tmp 146,.tmp 148,.tmp 152],#[29,3,27]⟩,4,"law.go:213",#[⟨0,.data⟩,⟨2,.data⟩,⟨6,.data⟩],none⟩ fun K hK => ?_
      go_simp
      go_at_call 39
      with_reducible refine ((show Calls Try.prog 39 #[FV F b cap, .int .i64 (m : Nat), .slice a1 m c1] _ (fun e w' => e = .returned (.bool true) ∧ Below _ _ w') from vector_c hHeld.1.2.2.out.1 (by omega) HVY.out (HNY.out.below hHeld.1.2.2.out.2.1))).mono ?_
      rintro z v0 ⟨rfl, hb0⟩
      refine hK.out _ _ ?_ (fun hHeld => ?_)
      ·(try dsimp only)
       exact SKC.keep hHeld hb0
      clear hK K
      try simp only [Rg.gp]
      refine Rg.tk 8 ⟨some 154,.move (.tmp 153),4,"law.go:213",#[⟨7,.data⟩,⟨7,.chain⟩],none⟩ ?_
      try simp only [Rg.gp]
      refine Rg.tk 9 ⟨some 155,.load 29 (.tmp 9),29,"law.go:213",#[⟨8,.guard⟩],some (8, true)⟩ ?_
      try simp only [Rg.gp]
      refine Rg.tk 10 ⟨some 156,.fieldAddr 32 (.tmp 8) 1,0,"law.go:213",#[⟨8,.guard⟩],some (8, true)⟩ ?_
      try simp only [Rg.gp]
      refine Rg.tk 11 ⟨some 157,.load 3 (.tmp 156),3,"law.go:213",#[⟨10,.data⟩,⟨8,.guard⟩],some (8, true)⟩ ?_
      try simp only [Rg.gp]
      refine Rg.tk 12 ⟨some 158,.fieldAddr 32 (.tmp 8) 2,0,"law.go:213",#[⟨8,.guard⟩],some (8, true)⟩ ?_
      try simp only [Rg.gp]
      refine Rg.tk 13 ⟨some 159,.load 30 (.tmp 158),30,"law.go:213",#[⟨12,.data⟩,⟨8,.guard⟩],some (8, true)⟩ ?_
      try simp only [Rg.gp]
      refine Rg.tk 14 ⟨some 160,.move (.tmp 16),30,"law.go:213",#[⟨8,.guard⟩],some (8, true)⟩ ?_
      try simp only [Rg.gp]
      refine Rg.tk 15 ⟨some 161,.move (.tmp 17),3,"law.go:213",#[⟨8,.guard⟩],some (8, true)⟩ ?_
      try simp only [Rg.gp]
      refine Rg.tk 16 ⟨some 162,.indexAddr 30 (.tmp 160) (.tmp 161),0,"law.go:213",#[⟨14,.data⟩,⟨15,.data⟩,⟨8,.guard⟩],some (8, true)⟩ ?_
      try simp only [Rg.gp]
      refine Rg.tk 17 ⟨some 163,.load 27 (.tmp 162),27,"law.go:213",#[⟨16,.data⟩,⟨8,.guard⟩],some (8, true)⟩ ?_
      try simp only [Rg.gp]
      refine Rg.tk 19 ⟨some 165,.fieldAddr 32 (.tmp 8) 1,0,"law.go:213",#[⟨8,.guard⟩],some (8, true)⟩ ?_
      try simp only [Rg.gp]
      refine Rg.tk 20 ⟨some 166,.load 3 (.tmp 165),3,"law.go:213",#[⟨19,.data⟩,⟨8,.guard⟩],some (8, true)⟩ ?_
      try simp only [Rg.gp]
      refine Rg.rd1 18 ⟨some 164,.call ⟨.value (.func 40),#[.tmp 155,.tmp 157,.tmp 159,.tmp 163],#[29,3,30,27]⟩,27,"law.go:213",#[⟨9,.data⟩,⟨11,.data⟩,⟨13,.data⟩,⟨17,.data⟩,⟨8,.chain⟩,⟨8,.guard⟩],some (8, true)⟩ fun K hK => ?_
      go_simp
      go_at_call 40
      with_reducible refine ((show Calls Try.prog 40 #[FV F b cap, .int .i64 (n : Nat), .slice aA m cA, .slice a1 m c1] _ (VPn ZL n _) from by have t := combine_c hHeld.1.2.2.out.1 (by omega) (by omega) HLA.out HMN.out HVY.out (HMAr.out.below hHeld.1.2.2.out.2.1) (HNY.out.below hHeld.1.2.2.out.2.1); rw [HCZ.out, hZL.out] at t; exact t.mono fun _ _ h => h.n HZl.out)).mono ?_
      rintro z v1 ⟨a41, c41, rfl, hn41, hb1⟩
      refine hK.out _ _ ?_ (fun hHeld => ?_)
      ·(try dsimp only)
       exact SKC.keep hHeld hb1
      clear hK K
      try simp only [Rg.gp]
      refine Rg.rd1 21 ⟨some 167,.call ⟨.value (.func 44),#[.tmp 166],#[3]⟩,27,"law.go:213",#[⟨20,.data⟩,⟨18,.chain⟩,⟨8,.guard⟩],some (8, true)⟩ fun K hK => ?_
      go_simp
      go_at_call 44
      with_reducible refine ((show Calls Try.prog 44 #[.int .i64 (n : Nat)] _ (VPn ZL n _) from by rw [← hZL.out]; exact (zero_c (by omega)).mono fun _ _ h => h.n (by simp))).mono ?_
      rintro z v2 ⟨a42, c42, rfl, hn42, hb2⟩
      refine hK.out _ _ ?_ (fun hHeld => ?_)
      ·(try dsimp only)
       exact SKC.keep hHeld hb2
      clear hK K
      try simp only [Rg.gp]
      refine Rg.rd1 22 ⟨some 168,.call ⟨.value (.func 20),#[.tmp 164,.tmp 167],#[27,27]⟩,4,"law.go:213",#[⟨18,.data⟩,⟨21,.data⟩,⟨21,.chain⟩,⟨8,.guard⟩],some (8, true)⟩ fun K hK => ?_
      go_simp
      go_at_call 20
      with_reducible refine ((show Calls Try.prog 20 #[.slice a41 n c41, .slice a42 n c42] _ (fun e w' => e = .returned (.bool true) ∧ Below _ _ w') from by have t := same_c (A := ZL) (B := ZL) (aa := a41) (ca := c41) (ab := a42) (cb := c42) (by rw [HZl.out]; omega) (by rw [HZl.out]; omega) (by rw [HZl.out]; exact hn41.below hb2) (by rw [HZl.out]; exact hn42); rw [HZl.out, show decide (ZL = ZL) = true from decide_eq_true rfl] at t; exact t)).mono ?_
      rintro z v3 ⟨rfl, hb3⟩
      refine hK.out _ _ ?_ (fun hHeld => ?_)
      ·(try dsimp only)
       exact SKC.keep hHeld hb3
      clear hK K
      try simp only [Rg.gp]
      refine Rg.tk 23 ⟨some 169,.pick (.tmp 154) (.tmp 168) (.const (Value.bool false)),4,"law.go:213",#[⟨8,.data⟩,⟨22,.data⟩],none⟩ ?_
      try simp only [Rg.gp]
      refine Rg.tk 24 ⟨some 170,.move (.tmp 169),4,"law.go:213",#[⟨23,.data⟩,⟨22,.chain⟩],none⟩ ?_
      try simp only [Rg.gp]
      refine Rg.tk 25 ⟨some 171,.load 29 (.tmp 9),29,"law.go:213",#[⟨24,.guard⟩],some (24, true)⟩ ?_
      try simp only [Rg.gp]
      refine Rg.tk 26 ⟨some 172,.move (.tmp 16),30,"law.go:213",#[⟨24,.guard⟩],some (24, true)⟩ ?_
      try simp only [Rg.gp]
      refine Rg.tk 27 ⟨some 173,.move (.tmp 17),3,"law.go:213",#[⟨24,.guard⟩],some (24, true)⟩ ?_
      try simp only [Rg.gp]
      refine Rg.tk 28 ⟨some 174,.indexAddr 30 (.tmp 172) (.tmp 173),0,"law.go:213",#[⟨26,.data⟩,⟨27,.data⟩,⟨24,.guard⟩],some (24, true)⟩ ?_
      try simp only [Rg.gp]
      refine Rg.tk 29 ⟨some 175,.load 27 (.tmp 174),27,"law.go:213",#[⟨28,.data⟩,⟨24,.guard⟩],some (24, true)⟩ ?_
      try simp only [Rg.gp]
      refine Rg.tk 30 ⟨some 176,.move (.tmp 10),27,"law.go:213",#[⟨24,.guard⟩],some (24, true)⟩ ?_
      try simp only [Rg.gp]
      refine Rg.rd1 31 ⟨some 177,.call ⟨.value (.func 46),#[.tmp 171,.tmp 175,.tmp 176],#[29,27,27]⟩,3,"law.go:213",#[⟨25,.data⟩,⟨29,.data⟩,⟨30,.data⟩,⟨24,.chain⟩,⟨24,.guard⟩],some (24, true)⟩ fun K hK => ?_
      go_simp
      go_at_call 46
      with_reducible refine ((show Calls Try.prog 46 #[FV F b cap, .slice a1 m c1, .slice aV m cV] _ (fun e w' => e = .returned (.int .i64 (d : Nat)) ∧ Below _ _ w') from by rw [← hd.out]; exact dot_c hHeld.1.2.2.out.1 (by omega) HVY.out HV.out (HNY.out.below hHeld.1.2.2.out.2.1) (HNVr.out.below hHeld.1.2.2.out.2.1))).mono ?_
      rintro z v4 ⟨rfl, hb4⟩
      refine hK.out _ _ ?_ (fun hHeld => ?_)
      ·(try dsimp only)
       exact SKC.keep hHeld hb4
      clear hK K
      try simp only [Rg.gp]
      refine Rg.tk 32 ⟨some 178,.binOp BinOp.neq 3 (.tmp 177) (.const (Value.int IntKind.i64 0)) 3,4,"law.go:213",#[⟨31,.data⟩,⟨24,.guard⟩],some (24, true)⟩ ?_
      try simp only [Rg.gp]
      refine Rg.tk 33 ⟨some 179,.pick (.tmp 170) (.tmp 178) (.const (Value.bool false)),4,"law.go:213",#[⟨24,.data⟩,⟨32,.data⟩],none⟩ ?_
      try simp only [Rg.gp]
      refine wpAnyH_done (by kernel_rfl) ?_ _
      have HB5 := Lib.hid (KB.out.trans (hHeld.1.2.2.out.2.1.mono KB.out.size))
      have HBG := Lib.hid (HBC.out.trans (HB5.out.mono HBC.out.size))
      clear hHeld hS0
      by_cases hd0 : d = 0
      ·have hd1 : ((d : Int) == 0) = true := by rw [hd0]; rfl
       have hd2 : (d : Int) = 0 := by omega
       go_wp2
       go_roundw
       case rel => exact ⟨k + 1, by omega, by go_num, Lib.hid (fun s hs => by
        by_cases e : s = k
        ·rw [e, hY.out, hd.out]; exact hd0
        ·exact HZ.out s (by omega)), HB5⟩
       case measure => simp [intOf]; omega
      ·have hd1 : ((d : Int) == 0) = false := by simp; omega
       have hd2 : ¬ (d : Int) = 0 := by omega
       go_wp2
       go_ret
       exact ⟨rfl, HBG.out⟩
     ·obtain rfl : kl = k := by omega
      exfalso
      obtain ⟨x, hx1, hx2⟩ := fred HFF.out HMN.out HLA.out HV.out (fun C hC => by
       rw [hKX.out] at hC
       obtain ⟨s, hs, rfl⟩ := List.getElem_of_mem hC
       have := HZ.out s (by rw [← hkl.out]; exact hs)
       rwa [List.getD_eq_getElem?_getD, List.getElem?_eq_getElem hs] at this)
      obtain ⟨y, hy⟩ := sol_is HFF.out HMN.out HLA.out HV.out hx1 hx2
      rw [HSO.out] at hy
      cases hy
   ·obtain ⟨hx1, hx2, hx3⟩ := sol_some HFF.out HMN.out HLA.out HV.out HSO.out
    rw [hx1.len] at hnx ⊢
    have HXN := Lib.hid hx1
    have HXE := Lib.hid hx2
    have HXP := Lib.hid hx3
    obtain ⟨wA, hwA⟩ : ∃ w, w = w9.alloc (.cells #[.slice aX n cX, .int .i64 0] 46) := ⟨_, rfl⟩
    have h9A : Below w9.heap.size w9 wA := by rw [hwA]; exact (Below.refl _ _).alloc (Nat.le_refl _) _
    have h8A : Below w8.heap.size w8 wA := hb9.trans (h9A.mono hb9.size)
    have HBA : Hid (Below w4.heap.size w4 wA) := Lib.hid (HB8.out.trans (h8A.mono HB8.out.size))
    have HSKA : Hid (SKL F b cap n B BM (.slice aA m cA) w4 wA) := Lib.hid (HSK.out.keep HBA.out)
    have HNVA := Lib.hid (HNV8.out.below h8A)
    have HMAA := Lib.hid (HMA.out.below HBA.out)
    have HNXA := Lib.hid (hnx.below h9A)
    have HIX : Hid (wA.cell? ⟨IX, 0, none⟩ = some (.slice aX n cX) ∧ wA.cell? ⟨IX, 1, none⟩ = some (.int .i64 0) ∧ IX < wA.heap.size) := Lib.hid (by rw [hwA, ← hIX]; exact ⟨World.cell?_alloc_at _ _ _ _ rfl, World.cell?_alloc_at _ _ _ _ rfl, by simp⟩)
    have HWA := Lib.hid hwA
    have HVT : Hid (Calls Try.prog 39 #[FV F b cap, .int .i64 (n : Nat), .slice aX n cX] wA fun e w' => e = .returned (.bool true) ∧ Below wA.heap.size wA w') := Lib.hid (vector_c HSKA.out.2.2.out.1 (by omega) hx1 HNXA.out)
    clear hwA h9A h8A hb9 hnx hx1 hx2 hx3
    go_upto_region 12 with fail
    rw [← HWA.out]
    try rw [hIX]
    clear HWA hIX
    obtain ⟨x0, x1, x2⟩ := HSKA.out.1
    obtain ⟨m0, m1, m2, m3, m4⟩ := HSKA.out.2.1
    obtain ⟨y0, y1, y2⟩ := HIX.out
    go_wp2_with fail
    with_reducible refine HVT.out.mono ?_
    rintro e wB ⟨rfl, hbB⟩
    have HSKB : Hid (SKL F b cap n B BM (.slice aA m cA) w4 wB) := Lib.hid (HSKA.out.keep hbB)
    have HIXB : Hid (wB.cell? ⟨IX, 0, none⟩ = some (.slice aX n cX) ∧ IX < wB.heap.size) := Lib.hid ⟨(hbB.cell (p := ⟨IX, 0, none⟩) y2).trans y0, Nat.lt_of_lt_of_le y2 hbB.size⟩
    have HNVB := Lib.hid (HNVA.out.below hbB)
    have HMAB := Lib.hid (HMAA.out.below hbB)
    have HNXB := Lib.hid (HNXA.out.below hbB)
    have HAP : Hid (Calls Try.prog 22 #[FV F b cap, .slice aA m cA, .slice aX n cX] wB (VPn V m wB)) := Lib.hid (by
     have t := rapply_c HSKB.out.2.2.out.1 (by omega) (by omega) HLA.out HMN.out HXN.out HMAB.out HNXB.out
     rw [HXE.out] at t; exact t.mono fun _ _ h => h.n HV.out.len)
    clear x0 x1 x2 m0 m1 m2 m3 m4 y0 y1 y2 hbB HVT HIX HNVA HMAA HNXA HSKA
    obtain ⟨x0, x1, x2⟩ := HSKB.out.1
    obtain ⟨m0, m1, m2, m3, m4⟩ := HSKB.out.2.1
    obtain ⟨y0, y2⟩ := HIXB.out
    go_wp2_with fail
    with_reducible refine HAP.out.mono ?_
    rintro e wC ⟨aY, cY, rfl, hny, hbC⟩
    have HSKC : Hid (SKL F b cap n B BM (.slice aA m cA) w4 wC) := Lib.hid (HSKB.out.keep hbC)
    have HIXC : Hid (wC.cell? ⟨IX, 0, none⟩ = some (.slice aX n cX) ∧ IX < wC.heap.size) := Lib.hid ⟨(hbC.cell (p := ⟨IX, 0, none⟩) y2).trans y0, Nat.lt_of_lt_of_le y2 hbC.size⟩
    have HMAC := Lib.hid (HMAB.out.below hbC)
    have HNXC := Lib.hid (HNXB.out.below hbC)
    have HSM : Hid (Calls Try.prog 20 #[.slice aY m cY, .slice aV m cV] wC fun e w' => e = .returned (.bool true) ∧ Below wC.heap.size wC w') := Lib.hid (by
     have t := same_c (A := V) (B := V) (aa := aY) (ca := cY) (ab := aV) (cb := cV) (W := wC) (by rw [HV.out.len]; omega) (by rw [HV.out.len]; omega) (by rw [HV.out.len]; exact hny) (by rw [HV.out.len]; exact HNVB.out.below hbC)
     rw [HV.out.len, show decide (V = V) = true from decide_eq_true rfl] at t; exact t)
    clear x0 x1 x2 m0 m1 m2 m3 m4 y0 y2 hbC hny HAP HIXB HMAB HNXB HSKB HNVB
    obtain ⟨x0, x1, x2⟩ := HSKC.out.1
    obtain ⟨m0, m1, m2, m3, m4⟩ := HSKC.out.2.1
    obtain ⟨y0, y2⟩ := HIXC.out
    go_wp2_with fail
    with_reducible refine HSM.out.mono ?_
    rintro e wD ⟨rfl, hbD⟩
    have HSKD : Hid (SKL F b cap n B BM (.slice aA m cA) w4 wD) := Lib.hid (HSKC.out.keep hbD)
    have HIXD : Hid (wD.cell? ⟨IX, 0, none⟩ = some (.slice aX n cX) ∧ IX < wD.heap.size) := Lib.hid ⟨(hbD.cell (p := ⟨IX, 0, none⟩) y2).trans y0, Nat.lt_of_lt_of_le y2 hbD.size⟩
    have HNXD := Lib.hid (HNXC.out.below hbD)
    obtain ⟨R, hR⟩ : ∃ x, Hid (redM F n A = x) := ⟨_, Lib.hid rfl⟩
    obtain ⟨rl, hrl⟩ : ∃ k, Hid (R.length = k) := ⟨_, Lib.hid rfl⟩
    have HRN : Hid (Mn F n R) := Lib.hid (by rw [← hR.out]; exact (redM_ok HFF.out HMN.out).1)
    have hrl8 : rl ≤ 8 := by have := rank_null HFF.out HMN.out; rw [hR.out, hrl.out] at this; omega
    have HRD : Hid (Calls Try.prog 15 #[FV F b cap, .slice aA m cA] wD (MPn R rl wD)) := Lib.hid (by
     have t := reduce_c (F := F) (n := n) (A := A) (aa := aA) (ca := cA) (W := wD) HSKD.out.2.2.out.1 (by omega) (by omega) (by rw [HLA.out]; omega) HMN.out (by rw [HLA.out]; exact HMAC.out.below hbD)
     rw [HLA.out, hR.out] at t; exact t.mono fun _ _ h => h.n hrl.out)
    clear x0 x1 x2 m0 m1 m2 m3 m4 y0 y2 hbD HSM HIXC HMAC HNXC HSKC
    obtain ⟨x0, x1, x2⟩ := HSKD.out.1
    obtain ⟨m0, m1, m2, m3, m4⟩ := HSKD.out.2.1
    obtain ⟨y0, y2⟩ := HIXD.out
    go_wp2_with fail
    with_reducible refine HRD.out.mono ?_
    rintro e wE ⟨aR, cR, rfl, hmr, hbE⟩
    have HSKE : Hid (SKL F b cap n B BM (.slice aA m cA) w4 wE) := Lib.hid (HSKD.out.keep hbE)
    have HIXE : Hid (wE.cell? ⟨IX, 0, none⟩ = some (.slice aX n cX) ∧ IX < wE.heap.size) := Lib.hid ⟨(hbE.cell (p := ⟨IX, 0, none⟩) y2).trans y0, Nat.lt_of_lt_of_le y2 hbE.size⟩
    have HNXE := Lib.hid (HNXD.out.below hbE)
    have HMR := Lib.hid hmr
    have HBE : Hid (Below W.heap.size W wE) := Lib.hid (HB4.out.trans (HSKE.out.2.2.out.2.1.mono HB4.out.size))
    clear x0 x1 x2 m0 m1 m2 m3 m4 y0 y2 hbE hmr HRD HIXD HNXD HSKD
    go_wp2
    go_loopw [13] (fun i wr => ∃ j : Nat, j ≤ n ∧ i = .int .i64 j ∧ Hid (Below wE.heap.size wE wr)) (fun i _ => n - (intOf i).toNat)
    case atStart => exact ⟨0, Nat.zero_le _, rfl, Below.refl _ _⟩
    case round =>
     obtain ⟨j, hj, rfl, JB⟩ := hrel
     obtain ⟨wF, hwF⟩ : ∃ w, w = wr := ⟨_, rfl⟩
     subst hwF
     have HSKF : Hid (SKL F b cap n B BM (.slice aA m cA) w4 wF) := Lib.hid (HSKE.out.keep JB.out)
     obtain ⟨m0, m1, m2, m3, m4⟩ := HSKF.out.2.1
     by_cases hlt : j < n
     ·obtain ⟨b2, o2, rfl, hcx⟩ := (HNXE.out.below JB.out).atm HXN.out.len hlt
      have y0 := (JB.out.cell (p := ⟨IX, 0, none⟩) HIXE.out.2).trans HIXE.out.1
      obtain ⟨xj, hxj⟩ : ∃ y, Hid (x.getD j 0 = y) := ⟨_, Lib.hid rfl⟩
      rw [hxj.out] at hcx
      obtain ⟨f0, hf0⟩ : ∃ f, ((xj : Int) == 0) = f := ⟨_, rfl⟩
      have HF0 : Hid (f0 = true ∨ x.getD j 0 ≠ 0) := Lib.hid (by
       cases f0
       ·right; rw [hxj.out]; intro h; rw [h] at hf0; cases hf0
       ·left; rfl)
      go_wp2
      go_loopw [14, 15] (fun v i wr => ∃ (k : Nat) (fd : Bool), k ≤ rl ∧ v = .bool fd ∧ i = .int .i64 k ∧ Hid (fd = true ∨ (x.getD j 0 ≠ 0 ∧ ∀ s, s < k → pvt (Go.Fl.fn (R.getD s [])) n ≠ j)) ∧ Hid (Below wF.heap.size wF wr)) (fun _ i _ => rl - (intOf i).toNat)
      case atStart => exact ⟨0, f0, Nat.zero_le _, rfl, rfl, Lib.hid (HF0.out.imp_right fun h => ⟨h, fun s hs => by omega⟩), Below.refl _ _⟩
      case round =>
       obtain ⟨k, fd, hk, rfl, rfl, HFD, KB⟩ := hrel
       by_cases hlk : k < rl
       ·have HSKr : Hid (SKL F b cap n B BM (.slice aA m cA) w4 wr) := Lib.hid (HSKF.out.keep KB.out)
        have HSKw : Hid (SKL F b cap n B BM (.slice aA m cA) wr wr.drew) := Lib.hid (SKL.draw HSKr.out)
        cases fd
        ·have hkA : k < R.length := by rw [hrl.out]; exact hlk
         obtain ⟨Y, hY⟩ : ∃ L, Hid (R.getD k [] = L) := ⟨_, Lib.hid rfl⟩
         have HVY : Hid (Vn F n Y) := Lib.hid (by rw [← hY.out]; exact mrow HRN.out hkA)
         obtain ⟨b1, o1, rfl, a1, c1, hc1, hny⟩ := MM.at (R := R) (by rw [hrl.out]; exact HMR.out.below (JB.out.trans (KB.out.mono JB.out.size))) hkA
         rw [hY.out, HVY.out.len] at hc1 hny
         have HNY := Lib.hid hny
         obtain ⟨pv, hpv⟩ : ∃ d, Hid (pvt (Go.Fl.fn Y) n = d) := ⟨_, Lib.hid rfl⟩
         obtain ⟨f1, hf1⟩ : ∃ f, ((pv : Int) == (j : Int)) = f := ⟨_, rfl⟩
         have HF1 : Hid (f1 = true ∨ pv ≠ j) := Lib.hid (by
          cases f1
          ·right; intro h; rw [h] at hf1; simp at hf1
          ·left; rfl)
         have HPV : Hid (Calls Try.prog 45 #[.slice a1 n c1] wr fun e w' => e = .returned (.int .i64 (pv : Nat)) ∧ Below wr.heap.size wr w') := Lib.hid (by
          have t := pivot_c (L := Y) (a := a1) (c := c1) (W := wr) (by rw [HVY.out.len]; omega) (by rw [HVY.out.len]; exact hny)
          rw [HVY.out.len, hpv.out] at t; exact t)
         clear hny hkA m0 m1 m2 m3 m4
         go_wp2_with fail
         with_reducible refine HPV.out.mono ?_
         rintro e v0 ⟨rfl, hb0⟩
         have HB5 := Lib.hid (KB.out.trans (hb0.mono KB.out.size))
         clear hb0 hc1 HPV
         go_wp2
         go_roundw
         case rel => exact ⟨k + 1, f1, by omega, rfl, by go_num, Lib.hid (by
          rcases HF1.out with h | h
          ·exact .inl h
          ·rcases HFD.out with h2 | ⟨h2, h3⟩
           ·cases h2
           ·exact .inr ⟨h2, fun s hs => by
             by_cases e : s = k
             ·rw [e, hY.out, hpv.out]; exact h
             ·exact h3 s (by omega)⟩), HB5⟩
         case measure => simp [intOf]; omega
        ·clear m0 m1 m2 m3 m4
         go_wp2
         go_roundw
         case rel => exact ⟨k + 1, true, by omega, rfl, by go_num, Lib.hid (.inl rfl), KB⟩
         case measure => simp [intOf]; omega
       ·obtain rfl : rl = k := by omega
        have hlt1 : ¬ (rl : Int) < (rl : Int) := by omega
        have hfd : fd = true := by
         rcases HFD.out with h | ⟨h1, h2⟩
         ·exact h
         ·exfalso
          obtain ⟨i, hi, hi2⟩ := HXP.out j hlt h1
          rw [hR.out] at hi hi2
          exact h2 i (by rw [← hrl.out]; exact hi) hi2
        subst hfd
        have HB5 := Lib.hid (JB.out.trans (KB.out.mono JB.out.size))
        go_wp2
        go_roundw
        case rel => exact ⟨j + 1, by omega, by go_num, HB5⟩
        case measure => simp [intOf]; omega
     ·obtain rfl : n = j := by omega
      have hlt1 : ¬ (n : Int) < (n : Int) := by omega
      have HBF := Lib.hid (HBE.out.trans (JB.out.mono HBE.out.size))
      go_wp2
      go_ret
      exact ⟨rfl, HBF.out⟩

end Go.Proofs.Yteeofijcndgbfaa
