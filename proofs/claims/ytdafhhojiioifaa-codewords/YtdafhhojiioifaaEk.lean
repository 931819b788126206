/- The law CodeWords. -/
import Derived.Test.YtdafhhojiioifaaEj
namespace Go.Proofs.Ytdafhhojiioifaa
open Go.RowKit Go.Fl
set_option maxRecDepth 100000
set_option linter.unusedVariables false
set_option linter.unusedSimpArgs false
set_option linter.unusedSectionVars false

open Go.RowKit
theorem shareW {A B C D E : Type} {H T : A → B → C → D → E → World → Prop} {goal : Prop} (ways : (∀ a b c d e w, H a b c d e w → T a b c d e w) → goal) (rest : ∀ a b c d e w, H a b c d e w → T a b c d e w) : goal := ways rest
/-- a field, and the words of the code -/
def WHw (F : Gf) (nw : Nat) (LW : List (List Nat)) (w4 : World) (y5 b cap : Nat) (aw : Option Addr) (cw : Nat) (v : World) : Prop :=
 Hid (BC y5 [.int .i64 F.p, .int .i64 F.e, FM F b cap] 53 v ∧ FldAt F b cap v ∧ MM LW v (.slice aw nw cw) ∧ Below w4.heap.size w4 v)
set_option maxHeartbeats 1600000 in
theorem lwords_law_c {x y z l cl iu ku : Nat} {aa : Option Addr} {W : World} (hx : x ≤ 255) (hy : y ≤ 255) (hz : z ≤ 255) (hl : l ≤ maxLen) (na : N8 l W (.slice aa l cl)) (hiu : iu ≤ 255) (hku : ku ≤ 255) :
  Calls Try.prog 5 #[.agg #[.int .u8 (x : Nat), .int .u8 (y : Nat), .int .u8 (z : Nat), .slice aa l cl], .int .u8 (iu : Nat), .int .u8 (ku : Nat)] W fun e w' => e = .returned (.bool true) ∧ Below W.heap.size W w' := by
 obtain ⟨W1, hW1⟩ : ∃ w, w = (W.alloc (.cells #[.int .u8 (x : Nat), .int .u8 (y : Nat), .int .u8 (z : Nat), .slice aa l cl] 27)) := ⟨_, rfl⟩
 have HB1 : Hid (Below W.heap.size W W1) := Lib.hid (by rw [hW1]; exact (Below.refl _ _).alloc (Nat.le_refl _) _)
 have HX : Hid (BC W.heap.size [.int .u8 (x : Nat), .int .u8 (y : Nat), .int .u8 (z : Nat), .slice aa l cl] 27 W1) := Lib.hid (by rw [hW1]; exact BC.new W [.int .u8 (x : Nat), .int .u8 (y : Nat), .int .u8 (z : Nat), .slice aa l cl] 27 rfl)
 have HEX : Hid (Calls Try.prog 10 #[] W1 fun e w' => e = .returned (.bool true) ∧ Below W1.heap.size W1 w') := Lib.hid ex_c
 have HNA := Lib.hid (na.below HB1.out)
 have HXL := Lib.hid (And.intro hx (And.intro hy (And.intro hz hl)))
 have HW1 := Lib.hid hW1
 clear hW1 na hx hy hz hl
 go_enter Try.func5, Try.ntmps5
 go_wp2_with fail
 rw [← HW1.out]
 with_reducible refine HEX.out.mono ?_
 rintro e w2 ⟨rfl, hb2⟩
 have HX2 := Lib.hid (HX.out.below hb2)
 have HB12 : Hid (Below W1.heap.size W1 w2) := Lib.hid hb2
 have HB2 : Hid (Below W.heap.size W w2) := Lib.hid (HB1.out.trans (hb2.mono HB1.out.size))
 have HMC : Hid (Calls Try.prog 17 #[.agg #[.int .u8 (x : Nat), .int .u8 (y : Nat), .int .u8 (z : Nat), .slice aa l cl]] w2 (MC w2)) := Lib.hid (made_c HXL.out.1 HXL.out.2.1 HXL.out.2.2.1 HXL.out.2.2.2 (HNA.out.below hb2))
 have c0 := HX2.out.cell (i := 0) rfl
 have c1 := HX2.out.cell (i := 1) rfl
 have c2 := HX2.out.cell (i := 2) rfl
 have c3 := HX2.out.cell (i := 3) rfl
 clear hb2 HEX
 go_wp2_with fail
 with_reducible refine HMC.out.mono ?_
 rintro e w3 ⟨F, n, m, G, L, a, ca, rfl, hvc, hn10, hqm, hmm, hb3⟩
 obtain ⟨w4, hw4⟩ : ∃ w, w = w3.alloc (.cells #[.int .i64 (F.q : Nat), .int .i64 (n : Nat), .slice a m ca] 32) := ⟨_, rfl⟩
 obtain ⟨x4, hx4⟩ : ∃ x, x = w3.heap.size := ⟨_, rfl⟩
 have HA4 : Hid (Below w3.heap.size w3 w4) := Lib.hid (by rw [hw4]; exact (Below.refl _ _).alloc (Nat.le_refl _) _)
 have HC4 : Hid (BC x4 [.int .i64 (F.q : Nat), .int .i64 (n : Nat), .slice a m ca] 32 w4) := Lib.hid (by rw [hw4, hx4]; exact BC.new w3 [.int .i64 (F.q : Nat), .int .i64 (n : Nat), .slice a m ca] 32 rfl)
 have HB24 : Hid (Below w2.heap.size w2 w4) := Lib.hid (hb3.trans (HA4.out.mono hb3.size))
 have HB4 : Hid (Below W.heap.size W w4) := Lib.hid (HB2.out.trans (HB24.out.mono HB2.out.size))
 have HB14 : Hid (Below W1.heap.size W1 w4) := Lib.hid (HB12.out.trans (HB24.out.mono HB12.out.size))
 have HVC := Lib.hid hvc
 have HM4 := Lib.hid (hmm.below HA4.out)
 have hnb := hvc.gc.n2
 have hnb1 := hvc.gc.n1
 have HQM := Lib.hid hqm
 have hm8 : m ≤ 8 := hvc.m8 hqm
 have HFF : Hid (Ok F) := Lib.hid hvc.ok
 have HGN := Lib.hid hvc.gc.mn
 have HGL := Lib.hid hvc.gc.len
 have hq2 := hvc.q2
 have hq16 := hvc.gc.q
 obtain ⟨q, hq⟩ : ∃ q, Hid (F.q = q) := ⟨_, Lib.hid rfl⟩
 rw [hq.out] at HC4 hw4 hq2 hq16 ⊢
 have HOV : Hid (∀ w', Calls Try.prog 38 #[.int .i64 (q : Nat)] w' fun e w'' => ∃ b cap, e = .returned (FV F b cap) ∧ FldAt F b cap w'' ∧ Below w'.heap.size w' w'' ∧ w'.heap.size ≤ b) := Lib.hid fun w' => by rw [← hq.out]; exact rover_c HVC.out.gc.mem
 obtain ⟨LW, hLW⟩ : ∃ l, Hid (wdK F n G m = l) := ⟨_, Lib.hid rfl⟩
 have HLW := hLW
 obtain ⟨nw, hnw⟩ : ∃ k, Hid (LW.length = k) := ⟨_, Lib.hid rfl⟩
 have HNW := hnw
 have HWN : Hid (Mn F n LW) := Lib.hid (by rw [← hLW.out]; exact wdK_mn HFF.out m)
 have HQN : Hid (q ^ m = nw) := Lib.hid (by
  have h := wdK_len F n G m
  rw [hLW.out, hnw.out, hq.out] at h; exact h.symm)
 have hnw1 : 1 ≤ nw ∧ nw ≤ 256 := by
  have h2 := HQM.out
  rw [hq.out] at h2
  have h3 : 1 ≤ q ^ m := Nat.one_le_pow _ _ (by omega)
  have h4 := HQN.out
  omega
 have HMEM : Hid (∀ k, k < nw → LW.getD k [] ∈ wdK F n G m) := Lib.hid fun k hk => by
  have hk' : k < LW.length := by rw [hnw.out]; exact hk
  rw [hLW.out]; exact getD_mem hk'
 have hnz : ¬ nw = 0 := by omega
 have hnzi : ¬ (nw : Int) = 0 := by omega
 have hnzb : ((nw : Int) == 0) = false := by simp; omega
 have hiw : IntKind.i64.wrap (iu : Int) = (iu : Int) := w64 (by omega)
 have hkw : IntKind.i64.wrap (ku : Int) = (ku : Int) := w64 (by omega)
 obtain ⟨ix, hixe⟩ : ∃ k, Hid (iu % nw = k) := ⟨_, Lib.hid rfl⟩
 have hix : ix < nw := by rw [← hixe.out]; exact Nat.mod_lt _ (by omega)
 have hixt : (iu : Int).tmod (nw : Int) = (ix : Int) := by rw [← hixe.out]; exact (Int.ofNat_tmod iu nw).symm
 obtain ⟨kx, hkxe⟩ : ∃ k, Hid (ku % nw = k) := ⟨_, Lib.hid rfl⟩
 have hkx : kx < nw := by rw [← hkxe.out]; exact Nat.mod_lt _ (by omega)
 have hkxt : (ku : Int).tmod (nw : Int) = (kx : Int) := by rw [← hkxe.out]; exact (Int.ofNat_tmod ku nw).symm
 have HWD : Hid (∀ w', Below w4.heap.size w4 w' → Calls Try.prog 33 #[DV q n (.slice a m ca)] w' fun e w'' => ∃ us a c, e = .returned (.slice a nw c) ∧ OL LW us w'.heap.size w'' (.slice a nw c) ∧ Below w'.heap.size w' w'') := Lib.hid fun w' hb => by
  have h := lwords_c HVC.out (HVC.out.few HQM.out) (Nat.le_trans HQM.out (by omega)) (HM4.out.below hb)
  rw [hLW.out, hnw.out, hq.out] at h; exact h
 have hS5 : S5 q n (.slice a m ca) x4 w4 w4.drew := ⟨⟨HC4.out.cell rfl, HC4.out.cell rfl, HC4.out.cell rfl⟩, Lib.hid ⟨(Below.refl _ _).drew, HC4.out.lt⟩⟩
 have HW4 := Lib.hid hw4
 have HX4 := Lib.hid hx4
 clear hw4 hx4 hvc hmm hb3 HMC c0 c1 c2 hqm hn10
 go_wp2_with fail
 rw [← HW4.out, ← HX4.out]
 refine shareW (H := WHw F nw LW w4) (T := ?T) (fun hrest => ?ways) ?rest
 case ways =>
  refine wp_region_held_drew (S := fun w' => S5 q n (.slice a m ca) x4 w4 w') (by kernel_rfl) (by with_reducible exact hS5) (fun hHeld => ?_)
  refine Rg.tk 0 ⟨some 28,.fieldAddr 32 (.tmp 8) 0,0,"law.go:146",#[],none⟩ ?_
  try simp only [Rg.gp]
  refine Rg.tk 1 ⟨some 29,.load 3 (.tmp 28),3,"law.go:146",#[⟨0,.data⟩],none⟩ ?_
  try simp only [Rg.gp]
  refine Rg.tk 3 ⟨some 31,.load 32 (.tmp 8),32,"law.go:146",#[],none⟩ ?_
  try simp only [Rg.gp]
  refine wpAnyH_ready (rs := [2, 5]) (by kernel_rfl) (by simp) ?_
  refine (AllReadyH.cons (o := ⟨some 30,.call ⟨.value (.func 38),#[.tmp 29],#[3]⟩,53,"law.go:146",#[⟨1,.data⟩],none⟩) rfl (fun K hK => ?_) (AllReadyH.cons (o := ⟨some 9,.alloc 53,0,"law.go:146",#[],none⟩) rfl (fun K hK => ?_) AllReadyH.nil))
  ·go_simp
   go_at_call 38
   with_reducible refine (HOV.out _).mono ?_
   rintro e1 v1 ⟨b, cap, rfl, hfa, hb, hbl⟩
   refine hK.out _ _ ?_ (fun hHeld => ?_)
   ·(try dsimp only)
    exact S5.go hHeld (hb.mono hHeld.2.out.1.size)
   clear hK K
   try simp only [Rg.gp]
   have Hfa_1 := Lib.hid hfa
   have HBW1 : Hid (Below w4.heap.size w4 v1) := Lib.hid hHeld.2.out.1
   clear hb hbl hfa
   refine wpAnyH_ready (rs := [4, 5]) (by kernel_rfl) (by simp) ?_
   refine (AllReadyH.cons (o := ⟨some 32,.call ⟨.value (.func 33),#[.tmp 31],#[32]⟩,22,"law.go:146",#[⟨3,.data⟩,⟨2,.chain⟩],none⟩) rfl (fun K hK => ?_) (AllReadyH.cons (o := ⟨some 9,.alloc 53,0,"law.go:146",#[],none⟩) rfl (fun K hK => ?_) AllReadyH.nil))
   ·go_simp
    go_at_call 33
    with_reducible refine (HWD.out _ hHeld.2.out.1).mono ?_
    rintro e2 v2 ⟨us, aw, cw, rfl, hol, hb⟩
    refine hK.out _ _ ?_ (fun hHeld => ?_)
    ·(try dsimp only)
     exact S5.go hHeld (hb.mono hHeld.2.out.1.size)
    clear hK K
    try simp only [Rg.gp]
    have Hol_2 := Lib.hid hol
    have Hfa_2 := Lib.hid (Hfa_1.out.below hb)
    clear Hfa_1
    have HBW2 : Hid (Below w4.heap.size w4 v2) := Lib.hid hHeld.2.out.1
    clear hb hol
    refine Rg.rd1 5 ⟨some 9,.alloc 53,0,"law.go:146",#[],none⟩ fun K hK => ?_
    go_simp
    refine hK.out _ _ ?_ (fun hHeld => ?_)
    ·(try dsimp only)
     exact S5.go hHeld ((Below.refl v2.heap.size v2).alloc (Nat.le_refl _) _ |>.mono hHeld.2.out.1.size)
    clear hK K
    try simp only [Rg.gp]
    obtain ⟨v3, hv3⟩ : ∃ w, w = (World.alloc v2 (.cells #[.int .i64 0, .int .i64 0, .slice none 0 0] 53)) := ⟨_, rfl⟩
    obtain ⟨y5, hy5⟩ : ∃ x, x = (World.heap v2).size := ⟨_, rfl⟩
    rw [← hv3] at hHeld ⊢
    rw [← hy5]
    have hb : Below (World.heap v2).size v2 v3 := by rw [hv3]; exact ((Below.refl v2.heap.size v2).alloc (Nat.le_refl _) (.cells #[.int .i64 0, .int .i64 0, .slice none 0 0] 53))
    have Hx5_3 : Hid (BC y5 [.int .i64 0, .int .i64 0, .slice none 0 0] 53 v3) := Lib.hid (by rw [hv3, hy5]; exact BC.new v2 [.int .i64 0, .int .i64 0, .slice none 0 0] 53 rfl)
    have HL5 : Hid (w4.heap.size ≤ y5) := Lib.hid (by rw [hy5]; exact HBW2.out.size)
    have HN5 := Lib.hid (show ¬ b = y5 from fun e => by have h1 := FldAt.lt Hfa_2.out; omega)
    have Hfa_3 := Lib.hid (Hfa_2.out.below hb)
    clear Hfa_2
    have Hol_3 := Lib.hid (Hol_2.out.below hb)
    clear Hol_2
    have HBW3 : Hid (Below w4.heap.size w4 v3) := Lib.hid hHeld.2.out.1
    clear hv3 hy5 hb
    refine Rg.rd1 6 ⟨none,.store 53 (.tmp 9) (.tmp 30),0,"law.go:146",#[⟨5,.data⟩,⟨2,.data⟩,⟨4,.chain⟩,⟨0,.phase⟩,⟨1,.phase⟩,⟨2,.phase⟩,⟨3,.textOnly Go.Departure.lateStores⟩,⟨4,.textOnly Go.Departure.lateStoresUnsure⟩,⟨5,.phase⟩],none⟩ fun K hK => ?_
    have r0 := Hx5_3.out.cell (i := 0) rfl
    have g0 := Hx5_3.out.fz 0
    have r1 := Hx5_3.out.cell (i := 1) rfl
    have g1 := Hx5_3.out.fz 1
    have r2 := Hx5_3.out.cell (i := 2) rfl
    have g2 := Hx5_3.out.fz 2
    have hbx : Bx (fun k => k = y5) v3 (World.setCell (World.setCell (World.setCell v3 ⟨y5, 0, none⟩ (.int .i64 F.p)) ⟨y5, 1, none⟩ (.int .i64 F.e)) ⟨y5, 2, none⟩ (FM F b cap)) := bx3 _ _ _
    have hbl : Below w4.heap.size v3 (World.setCell (World.setCell (World.setCell v3 ⟨y5, 0, none⟩ (.int .i64 F.p)) ⟨y5, 1, none⟩ (.int .i64 F.e)) ⟨y5, 2, none⟩ (FM F b cap)) := hbx.below HBW3.out.size (fun k hk => by have h1 := HL5.out; omega)
    go_simp
    refine hK.out _ _ ?_ (fun hHeld => ?_)
    ·(try dsimp only)
     exact S5.go hHeld hbl
    clear hK K
    try simp only [Rg.gp]
    obtain ⟨v4, hv4⟩ : ∃ w, w = (World.setCell (World.setCell (World.setCell v3 ⟨y5, 0, none⟩ (.int .i64 F.p)) ⟨y5, 1, none⟩ (.int .i64 F.e)) ⟨y5, 2, none⟩ (FM F b cap)) := ⟨_, rfl⟩
    rw [← hv4] at hHeld hbx ⊢
    have Hx5_4 : Hid (BC y5 [.int .i64 F.p, .int .i64 F.e, FM F b cap] 53 v4) := Lib.hid (by rw [hv4]; exact Hx5_3.out.set3 _ _ _)
    have Hol_4 := Lib.hid (OL.bc Hol_3.out Hx5_3.out (by decide) (by decide) hbx)
    have Hfa_4 := Lib.hid (Hfa_3.out.bx hbx HN5.out)
    have HBW4 : Hid (Below w4.heap.size w4 v4) := Lib.hid hHeld.2.out.1
    clear hv4 hbx hbl r0 r1 r2 g0 g1 g2 Hx5_3 Hol_3 Hfa_3
    refine Rg.tk 7 ⟨some 10,.assign (.tmp 32),22,"law.go:146",#[⟨4,.data⟩,⟨6,.chain⟩,⟨0,.phase⟩,⟨1,.phase⟩,⟨2,.phase⟩,⟨3,.phase⟩,⟨4,.phase⟩,⟨5,.phase⟩,⟨6,.phase⟩],none⟩ ?_
    try simp only [Rg.gp]
    refine wpAnyH_done (by kernel_rfl) ?_ _
    exact hrest y5 b cap aw cw v4 (Lib.hid ⟨Hx5_4.out, Hfa_4.out, Hol_4.out.mm, HBW4.out⟩)
   ·go_simp
    refine hK.out _ _ ?_ (fun hHeld => ?_)
    ·(try dsimp only)
     exact S5.go hHeld ((Below.refl v1.heap.size v1).alloc (Nat.le_refl _) _ |>.mono hHeld.2.out.1.size)
    clear hK K
    try simp only [Rg.gp]
    obtain ⟨v2, hv2⟩ : ∃ w, w = (World.alloc v1 (.cells #[.int .i64 0, .int .i64 0, .slice none 0 0] 53)) := ⟨_, rfl⟩
    obtain ⟨y5, hy5⟩ : ∃ x, x = (World.heap v1).size := ⟨_, rfl⟩
    rw [← hv2] at hHeld ⊢
    rw [← hy5]
    have hb : Below (World.heap v1).size v1 v2 := by rw [hv2]; exact ((Below.refl v1.heap.size v1).alloc (Nat.le_refl _) (.cells #[.int .i64 0, .int .i64 0, .slice none 0 0] 53))
    have Hx5_2 : Hid (BC y5 [.int .i64 0, .int .i64 0, .slice none 0 0] 53 v2) := Lib.hid (by rw [hv2, hy5]; exact BC.new v1 [.int .i64 0, .int .i64 0, .slice none 0 0] 53 rfl)
    have HL5 : Hid (w4.heap.size ≤ y5) := Lib.hid (by rw [hy5]; exact HBW1.out.size)
    have HN5 := Lib.hid (show ¬ b = y5 from fun e => by have h1 := FldAt.lt Hfa_1.out; omega)
    have Hfa_2 := Lib.hid (Hfa_1.out.below hb)
    clear Hfa_1
    have HBW2 : Hid (Below w4.heap.size w4 v2) := Lib.hid hHeld.2.out.1
    clear hv2 hy5 hb
    refine Rg.rd1 4 ⟨some 32,.call ⟨.value (.func 33),#[.tmp 31],#[32]⟩,22,"law.go:146",#[⟨3,.data⟩,⟨2,.chain⟩],none⟩ fun K hK => ?_
    go_simp
    go_at_call 33
    with_reducible refine (HWD.out _ hHeld.2.out.1).mono ?_
    rintro e3 v3 ⟨us, aw, cw, rfl, hol, hb⟩
    refine hK.out _ _ ?_ (fun hHeld => ?_)
    ·(try dsimp only)
     exact S5.go hHeld (hb.mono hHeld.2.out.1.size)
    clear hK K
    try simp only [Rg.gp]
    have Hol_3 := Lib.hid hol
    have Hfa_3 := Lib.hid (Hfa_2.out.below hb)
    clear Hfa_2
    have Hx5_3 := Lib.hid (Hx5_2.out.below hb)
    clear Hx5_2
    have HBW3 : Hid (Below w4.heap.size w4 v3) := Lib.hid hHeld.2.out.1
    clear hb hol
    refine Rg.rd1 6 ⟨none,.store 53 (.tmp 9) (.tmp 30),0,"law.go:146",#[⟨5,.data⟩,⟨2,.data⟩,⟨4,.chain⟩,⟨0,.phase⟩,⟨1,.phase⟩,⟨2,.phase⟩,⟨3,.textOnly Go.Departure.lateStores⟩,⟨4,.textOnly Go.Departure.lateStoresUnsure⟩,⟨5,.phase⟩],none⟩ fun K hK => ?_
    have r0 := Hx5_3.out.cell (i := 0) rfl
    have g0 := Hx5_3.out.fz 0
    have r1 := Hx5_3.out.cell (i := 1) rfl
    have g1 := Hx5_3.out.fz 1
    have r2 := Hx5_3.out.cell (i := 2) rfl
    have g2 := Hx5_3.out.fz 2
    have hbx : Bx (fun k => k = y5) v3 (World.setCell (World.setCell (World.setCell v3 ⟨y5, 0, none⟩ (.int .i64 F.p)) ⟨y5, 1, none⟩ (.int .i64 F.e)) ⟨y5, 2, none⟩ (FM F b cap)) := bx3 _ _ _
    have hbl : Below w4.heap.size v3 (World.setCell (World.setCell (World.setCell v3 ⟨y5, 0, none⟩ (.int .i64 F.p)) ⟨y5, 1, none⟩ (.int .i64 F.e)) ⟨y5, 2, none⟩ (FM F b cap)) := hbx.below HBW3.out.size (fun k hk => by have h1 := HL5.out; omega)
    go_simp
    refine hK.out _ _ ?_ (fun hHeld => ?_)
    ·(try dsimp only)
     exact S5.go hHeld hbl
    clear hK K
    try simp only [Rg.gp]
    obtain ⟨v4, hv4⟩ : ∃ w, w = (World.setCell (World.setCell (World.setCell v3 ⟨y5, 0, none⟩ (.int .i64 F.p)) ⟨y5, 1, none⟩ (.int .i64 F.e)) ⟨y5, 2, none⟩ (FM F b cap)) := ⟨_, rfl⟩
    rw [← hv4] at hHeld hbx ⊢
    have Hx5_4 : Hid (BC y5 [.int .i64 F.p, .int .i64 F.e, FM F b cap] 53 v4) := Lib.hid (by rw [hv4]; exact Hx5_3.out.set3 _ _ _)
    have Hol_4 := Lib.hid (OL.bc Hol_3.out Hx5_3.out (by decide) (by decide) hbx)
    have Hfa_4 := Lib.hid (Hfa_3.out.bx hbx HN5.out)
    have HBW4 : Hid (Below w4.heap.size w4 v4) := Lib.hid hHeld.2.out.1
    clear hv4 hbx hbl r0 r1 r2 g0 g1 g2 Hx5_3 Hol_3 Hfa_3
    refine Rg.tk 7 ⟨some 10,.assign (.tmp 32),22,"law.go:146",#[⟨4,.data⟩,⟨6,.chain⟩,⟨0,.phase⟩,⟨1,.phase⟩,⟨2,.phase⟩,⟨3,.phase⟩,⟨4,.phase⟩,⟨5,.phase⟩,⟨6,.phase⟩],none⟩ ?_
    try simp only [Rg.gp]
    refine wpAnyH_done (by kernel_rfl) ?_ _
    exact hrest y5 b cap aw cw v4 (Lib.hid ⟨Hx5_4.out, Hfa_4.out, Hol_4.out.mm, HBW4.out⟩)
  ·go_simp
   refine hK.out _ _ ?_ (fun hHeld => ?_)
   ·(try dsimp only)
    exact S5.go0 hHeld ((Below.refl w4.heap.size w4).alloc (Nat.le_refl _) (.cells #[.int .i64 0, .int .i64 0, .slice none 0 0] 53)).drew
   clear hK K
   try simp only [Rg.gp]
   obtain ⟨v1, hv1⟩ : ∃ w, w = (World.alloc w4 (.cells #[.int .i64 0, .int .i64 0, .slice none 0 0] 53)).drew := ⟨_, rfl⟩
   obtain ⟨y5, hy5⟩ : ∃ x, x = (World.heap w4).size := ⟨_, rfl⟩
   rw [← hv1] at hHeld ⊢
   rw [← hy5]
   have hb : Below (World.heap w4).size w4 v1 := by rw [hv1]; exact ((Below.refl w4.heap.size w4).alloc (Nat.le_refl _) (.cells #[.int .i64 0, .int .i64 0, .slice none 0 0] 53)).drew
   have Hx5_1 : Hid (BC y5 [.int .i64 0, .int .i64 0, .slice none 0 0] 53 v1) := Lib.hid (by rw [hv1, hy5]; exact BC.new w4 [.int .i64 0, .int .i64 0, .slice none 0 0] 53 rfl)
   have HL5 : Hid (w4.heap.size ≤ y5) := Lib.hid (by rw [hy5]; exact Nat.le_refl _)
   have HBW1 : Hid (Below w4.heap.size w4 v1) := Lib.hid hHeld.2.out.1
   clear hv1 hy5 hb
   refine Rg.rd1 2 ⟨some 30,.call ⟨.value (.func 38),#[.tmp 29],#[3]⟩,53,"law.go:146",#[⟨1,.data⟩],none⟩ fun K hK => ?_
   go_simp
   go_at_call 38
   with_reducible refine (HOV.out _).mono ?_
   rintro e2 v2 ⟨b, cap, rfl, hfa, hb, hbl⟩
   refine hK.out _ _ ?_ (fun hHeld => ?_)
   ·(try dsimp only)
    exact S5.go hHeld (hb.mono hHeld.2.out.1.size)
   clear hK K
   try simp only [Rg.gp]
   have Hfa_2 := Lib.hid hfa
   have HN5 := Lib.hid (show ¬ b = y5 from fun e => by have h1 := Hx5_1.out.lt; omega)
   have Hx5_2 := Lib.hid (Hx5_1.out.below hb)
   clear Hx5_1
   have HBW2 : Hid (Below w4.heap.size w4 v2) := Lib.hid hHeld.2.out.1
   clear hb hbl hfa
   refine Rg.rd1 4 ⟨some 32,.call ⟨.value (.func 33),#[.tmp 31],#[32]⟩,22,"law.go:146",#[⟨3,.data⟩,⟨2,.chain⟩],none⟩ fun K hK => ?_
   go_simp
   go_at_call 33
   with_reducible refine (HWD.out _ hHeld.2.out.1).mono ?_
   rintro e3 v3 ⟨us, aw, cw, rfl, hol, hb⟩
   refine hK.out _ _ ?_ (fun hHeld => ?_)
   ·(try dsimp only)
    exact S5.go hHeld (hb.mono hHeld.2.out.1.size)
   clear hK K
   try simp only [Rg.gp]
   have Hol_3 := Lib.hid hol
   have Hfa_3 := Lib.hid (Hfa_2.out.below hb)
   clear Hfa_2
   have Hx5_3 := Lib.hid (Hx5_2.out.below hb)
   clear Hx5_2
   have HBW3 : Hid (Below w4.heap.size w4 v3) := Lib.hid hHeld.2.out.1
   clear hb hol
   refine Rg.rd1 6 ⟨none,.store 53 (.tmp 9) (.tmp 30),0,"law.go:146",#[⟨5,.data⟩,⟨2,.data⟩,⟨4,.chain⟩,⟨0,.phase⟩,⟨1,.phase⟩,⟨2,.phase⟩,⟨3,.textOnly Go.Departure.lateStores⟩,⟨4,.textOnly Go.Departure.lateStoresUnsure⟩,⟨5,.phase⟩],none⟩ fun K hK => ?_
   have r0 := Hx5_3.out.cell (i := 0) rfl
   have g0 := Hx5_3.out.fz 0
   have r1 := Hx5_3.out.cell (i := 1) rfl
   have g1 := Hx5_3.out.fz 1
   have r2 := Hx5_3.out.cell (i := 2) rfl
   have g2 := Hx5_3.out.fz 2
   have hbx : Bx (fun k => k = y5) v3 (World.setCell (World.setCell (World.setCell v3 ⟨y5, 0, none⟩ (.int .i64 F.p)) ⟨y5, 1, none⟩ (.int .i64 F.e)) ⟨y5, 2, none⟩ (FM F b cap)) := bx3 _ _ _
   have hbl : Below w4.heap.size v3 (World.setCell (World.setCell (World.setCell v3 ⟨y5, 0, none⟩ (.int .i64 F.p)) ⟨y5, 1, none⟩ (.int .i64 F.e)) ⟨y5, 2, none⟩ (FM F b cap)) := hbx.below HBW3.out.size (fun k hk => by have h1 := HL5.out; omega)
   go_simp
   refine hK.out _ _ ?_ (fun hHeld => ?_)
   ·(try dsimp only)
    exact S5.go hHeld hbl
   clear hK K
   try simp only [Rg.gp]
   obtain ⟨v4, hv4⟩ : ∃ w, w = (World.setCell (World.setCell (World.setCell v3 ⟨y5, 0, none⟩ (.int .i64 F.p)) ⟨y5, 1, none⟩ (.int .i64 F.e)) ⟨y5, 2, none⟩ (FM F b cap)) := ⟨_, rfl⟩
   rw [← hv4] at hHeld hbx ⊢
   have Hx5_4 : Hid (BC y5 [.int .i64 F.p, .int .i64 F.e, FM F b cap] 53 v4) := Lib.hid (by rw [hv4]; exact Hx5_3.out.set3 _ _ _)
   have Hol_4 := Lib.hid (OL.bc Hol_3.out Hx5_3.out (by decide) (by decide) hbx)
   have Hfa_4 := Lib.hid (Hfa_3.out.bx hbx HN5.out)
   have HBW4 : Hid (Below w4.heap.size w4 v4) := Lib.hid hHeld.2.out.1
   clear hv4 hbx hbl r0 r1 r2 g0 g1 g2 Hx5_3 Hol_3 Hfa_3
   refine Rg.tk 7 ⟨some 10,.assign (.tmp 32),22,"law.go:146",#[⟨4,.data⟩,⟨6,.chain⟩,⟨0,.phase⟩,⟨1,.phase⟩,⟨2,.phase⟩,⟨3,.phase⟩,⟨4,.phase⟩,⟨5,.phase⟩,⟨6,.phase⟩],none⟩ ?_
   try simp only [Rg.gp]
   refine wpAnyH_done (by kernel_rfl) ?_ _
   exact hrest y5 b cap aw cw v4 (Lib.hid ⟨Hx5_4.out, Hfa_4.out, Hol_4.out.mm, HBW4.out⟩)
 case rest =>
  rintro y5 b cap aw cw v hv
  obtain ⟨hy5, hfa, hmw, hbv⟩ := hv.out
  obtain ⟨bw, ow, haw, -⟩ := hmw.at' (fun t ht => (mrow HWN.out ht).len) (show 0 < nw by omega)
  subst haw
  have HY5 := Lib.hid hy5
  have HFV := Lib.hid hfa
  have HMW := Lib.hid hmw
  have HMG := Lib.hid (HM4.out.below hbv)
  have HC4v := Lib.hid (HC4.out.below hbv)
  have HBV : Hid (Below W.heap.size W v) := Lib.hid (HB4.out.trans (hbv.mono HB4.out.size))
  have HCN : Hid (Calls Try.prog 35 #[DV q n (.slice a m ca)] v fun e w'' => e = .returned (.int .i64 (nw : Nat)) ∧ Below v.heap.size v w'') := Lib.hid (by
   have h := count_c HVC.out HMG.out
   rw [cnK_eq (by rw [hq.out]; omega) (Nat.le_trans HQM.out (by omega)), hq.out, HQN.out] at h; exact h)
  have c0 := HC4v.out.cell (i := 0) rfl
  have c1 := HC4v.out.cell (i := 1) rfl
  have c2 := HC4v.out.cell (i := 2) rfl
  clear hy5 hfa hmw hbv hv
  go_wp2_with fail
  with_reducible refine HCN.out.mono ?_
  rintro e6 v6 ⟨rfl, hb6⟩
  have HB6 := Lib.hid hb6
  clear c0 c1 c2 hb6 HCN
  go_wp2
  go_loopw [11] (fun i wr => ∃ x : Nat, x ≤ nw ∧ i = .int .i64 (x : Nat) ∧ Hid (Below v.heap.size v wr)) (fun i _ => nw - (intOf i).toNat)
  case atStart => exact ⟨0, Nat.zero_le _, rfl, HB6⟩
  case round =>
   obtain ⟨x, hx, rfl, XB⟩ := hrel
   by_cases hxl : x < nw
   ·have hxli : (x : Int) < (nw : Int) := by omega
    obtain ⟨bw', ow', haw', ax, cx, hcx, hnx⟩ := (HMW.out.below XB.out).at' (fun t ht => (mrow HWN.out ht).len) hxl
    injection haw' with haw'
    injection haw' with e1 e2 _
    subst e1
    subst e2
    obtain ⟨X, hX⟩ : ∃ X, Hid (LW.getD x [] = X) := ⟨_, Lib.hid rfl⟩
    have HXE := hX
    rw [hX.out] at hnx
    have HXN := Lib.hid hnx
    have HXM : Hid (X ∈ wdK F n G m) := Lib.hid (by rw [← hX.out]; exact HMEM.out x hxl)
    have HXV : Hid (Vn F n X) := Lib.hid (wdK_mn HFF.out m X HXM.out)
    have HXS : Hid (Sp F (G.map Go.Fl.fn) (fn X)) := Lib.hid ((HVC.out.memIff HXV.out).1 HXM.out)
    obtain ⟨M, hM⟩ : ∃ M, Hid (mgK n G X m = M) := ⟨_, Lib.hid rfl⟩
    have HML : Hid (M.length = m) := Lib.hid (by rw [← hM.out]; exact (HVC.out.mgVn HXV.out).1)
    have HMI : Hid (In F M) := Lib.hid (by rw [← hM.out]; exact (HVC.out.mgVn HXV.out).2)
    have HEX : Hid (enK F n G M m = X) := Lib.hid (by rw [← hM.out]; exact HVC.out.encMsg HXV.out HXS.out)
    have HMQ : Hid (∀ k, M.getD k 0 < q) := Lib.hid fun k => by rw [← hq.out]; exact HMI.out.el HFF.out k
    have HNUM : Hid (atJ q M m = x) := Lib.hid (by
     have h := HVC.out.msgNum (x := x) (by rw [hq.out, HQN.out]; exact hxl)
     rw [HLW.out, hX.out, hM.out, hq.out] at h; exact h)
    have HAB : Hid (∀ k, k ≤ m → atJ q M k ≤ 256) := Lib.hid fun k hk => by
     have h1 := atJ_lt HMQ.out k
     have h2 : q ^ k ≤ q ^ m := Nat.pow_le_pow_right (by omega) hk
     have h3 := HQN.out
     omega
    have HCX := Lib.hid hcx
    have HXL : Hid (x4 < wr.heap.size ∧ bw < wr.heap.size) := Lib.hid ⟨(HC4v.out.below XB.out).lt, World.block_lt_of_cell? _ _ hcx⟩
    have HME : Hid (∀ w', Below wr.heap.size wr w' → Calls Try.prog 21 #[DV q n (.slice a m ca), .slice ax n cx] w' fun e w'' => ∃ a' c', e = .returned (.tuple #[.slice a' m c', .int .i64 0]) ∧ NN M w'' (.slice a' m c') ∧ Below w'.heap.size w' w'') := Lib.hid fun w' hb => by
     have h := message_c HVC.out ((HMG.out.below XB.out).below hb) HXV.out (HXN.out.below hb)
     rw [hq.out] at h
     refine h.mono fun e w'' ⟨hc, hb⟩ => ?_
     rcases hc with ⟨_, a', c', h1, h2⟩ | ⟨h1, _⟩
     ·refine ⟨a', c', h1, ?_, hb⟩
      rw [hM.out] at h2
      have h3 := NN.of_owns (L := M) (by rw [HML.out]; exact h2)
      exact h3
     ·exact absurd ((HVC.out.rest HXV.out).2 HXS.out) h1
    have hbc := HC4v.out.below XB.out
    have hS11 : (wr.drew.cell? ⟨x4, 0, none⟩ = some (.int .i64 (q : Nat)) ∧ wr.drew.cell? ⟨x4, 1, none⟩ = some (.int .i64 (n : Nat)) ∧ wr.drew.cell? ⟨x4, 2, none⟩ = some (.slice a m ca)) ∧ wr.drew.cell? ⟨bw, ow + x, none⟩ = some (.slice ax n cx) ∧ Hid (Below wr.heap.size wr wr.drew) := ⟨⟨hbc.drew.cell rfl, hbc.drew.cell rfl, hbc.drew.cell rfl⟩, hcx, Lib.hid (Below.refl _ _).drew⟩
    clear hbc hcx hnx
    go_wp2_with fail
    refine wp_region_held_drew (S := fun w' => (w'.cell? ⟨x4, 0, none⟩ = some (.int .i64 (q : Nat)) ∧ w'.cell? ⟨x4, 1, none⟩ = some (.int .i64 (n : Nat)) ∧ w'.cell? ⟨x4, 2, none⟩ = some (.slice a m ca)) ∧ w'.cell? ⟨bw, ow + x, none⟩ = some (.slice ax n cx) ∧ Hid (Below wr.heap.size wr w')) (by kernel_rfl) (by with_reducible exact hS11) (fun hHeld => ?_)
    refine Rg.tk 0 ⟨some 50,.load 32 (.tmp 8),32,"law.go:151",#[],none⟩ ?_
    try simp only [Rg.gp]
    refine Rg.tk 1 ⟨some 51,.move (.tmp 10),22,"law.go:151",#[],none⟩ ?_
    try simp only [Rg.gp]
    refine Rg.tk 2 ⟨some 52,.move (.tmp 11),3,"law.go:151",#[],none⟩ ?_
    try simp only [Rg.gp]
    refine Rg.tk 3 ⟨some 53,.indexAddr 22 (.tmp 51) (.tmp 52),0,"law.go:151",#[⟨1,.data⟩,⟨2,.data⟩],none⟩ ?_
    try simp only [Rg.gp]
    refine Rg.tk 4 ⟨some 54,.load 39 (.tmp 53),39,"law.go:151",#[⟨3,.data⟩],none⟩ ?_
    try simp only [Rg.gp]
    refine Rg.rd1 5 ⟨some 55,.call ⟨.value (.func 21),#[.tmp 50,.tmp 54],#[32,39]⟩,41,"law.go:151",#[⟨0,.data⟩,⟨4,.data⟩],none⟩ fun K hK => ?_
    go_simp
    go_at_call 21
    with_reducible refine (HME.out _ hHeld.2.2.out).mono ?_
    rintro e1 u1 ⟨am, cm, rfl, hnm, hb1⟩
    refine hK.out _ _ ?_ (fun hHeld => ?_)
    ·(try dsimp only)
     have hsx := hHeld.2.2.out.size
     have hxx : x4 < _ := Nat.lt_of_lt_of_le HXL.out.1 hsx
     have hgx : bw < _ := Nat.lt_of_lt_of_le HXL.out.2 hsx
     exact ⟨⟨(hb1.cell (p := ⟨x4, 0, none⟩) hxx).trans hHeld.1.1, (hb1.cell (p := ⟨x4, 1, none⟩) hxx).trans hHeld.1.2.1, (hb1.cell (p := ⟨x4, 2, none⟩) hxx).trans hHeld.1.2.2⟩, (hb1.cell (p := ⟨bw, ow + x, none⟩) hgx).trans hHeld.2.1, Lib.hid (hHeld.2.2.out.trans (hb1.mono hsx))⟩
    clear hK K
    try simp only [Rg.gp]
    refine Rg.tk 6 ⟨some 49,.move (.tmp 55),41,"law.go:151",#[⟨5,.data⟩],none⟩ ?_
    try simp only [Rg.gp]
    refine Rg.tk 7 ⟨some 56,.extract (.tmp 49) 0,39,"law.go:151",#[⟨6,.data⟩],none⟩ ?_
    try simp only [Rg.gp]
    refine Rg.tk 8 ⟨some 57,.extract (.tmp 49) 1,33,"law.go:151",#[⟨6,.data⟩,⟨9,.gcOnly Go.Departure.lateStores⟩],none⟩ ?_
    try simp only [Rg.gp]
    refine Rg.tk 9 ⟨some 12,.assign (.tmp 56),39,"law.go:151",#[⟨7,.data⟩,⟨5,.chain⟩,⟨0,.phase⟩,⟨1,.phase⟩,⟨2,.phase⟩,⟨3,.phase⟩,⟨4,.phase⟩,⟨5,.phase⟩,⟨6,.phase⟩,⟨7,.phase⟩,⟨8,.textOnly Go.Departure.lateStores⟩],none⟩ ?_
    try simp only [Rg.gp]
    refine Rg.tk 10 ⟨some 13,.assign (.tmp 57),33,"law.go:151",#[⟨8,.data⟩,⟨9,.chain⟩,⟨0,.phase⟩,⟨1,.phase⟩,⟨2,.phase⟩,⟨3,.phase⟩,⟨4,.phase⟩,⟨5,.phase⟩,⟨6,.phase⟩,⟨7,.phase⟩,⟨8,.phase⟩,⟨9,.phase⟩],none⟩ ?_
    try simp only [Rg.gp]
    refine wpAnyH_done (by kernel_rfl) ?_ _
    have HBr1 : Hid (Below wr.heap.size wr u1) := Lib.hid hHeld.2.2.out
    have HNM := Lib.hid hnm
    clear hHeld hS11 hb1 hnm HME
    have HBv1 : Hid (Below v.heap.size v u1) := Lib.hid (XB.out.trans (HBr1.out.mono XB.out.size))
    have HEN : Hid (Calls Try.prog 19 #[DV q n (.slice a m ca), .slice am m cm] u1 fun e w'' => ∃ g, e = .returned (.tuple #[.slice (some ⟨g, 0, none⟩) n n, .int .i64 0]) ∧ NN X w'' (.slice (some ⟨g, 0, none⟩) n n) ∧ Below u1.heap.size u1 w'') := Lib.hid (by
     have h := encode_c HVC.out (HMG.out.below HBv1.out) HML.out HMI.out HNM.out
     rw [hq.out, HEX.out] at h
     refine h.mono fun e w'' ⟨g, _, h1, h2, h3⟩ => ⟨g, h1, ?_, h3⟩
     have h4 := h2.nn
     rw [HXV.out.len] at h4; exact h4)
    have hbc := HC4v.out.below HBv1.out
    have c0 := hbc.cell (i := 0) rfl
    have c1 := hbc.cell (i := 1) rfl
    have c2 := hbc.cell (i := 2) rfl
    clear hbc
    go_wp2_with fail
    with_reducible refine HEN.out.mono ?_
    rintro e2 u2 ⟨g2, rfl, hn2, hb2⟩
    have HB12 := Lib.hid hb2
    have HBr2 : Hid (Below wr.heap.size wr u2) := Lib.hid (HBr1.out.trans (hb2.mono HBr1.out.size))
    have HI25 : Hid (Calls Try.prog 25 #[.slice (some ⟨g2, 0, none⟩) n n, .slice ax n cx] u2 fun e w'' => e = .returned (.bool true) ∧ Below u2.heap.size u2 w'') := Lib.hid (by
     have hl := HXV.out.len
     have h := rints_c (L := X) (a := some ⟨g2, 0, none⟩) (c := n) (b := ax) (d := cx) (W := u2) (by omega) (by rw [hl]; exact hn2) (by rw [hl]; exact HXN.out.below HBr2.out)
     rw [hl] at h; exact h)
    have hcx2 : u2.cell? ⟨bw, ow + x, none⟩ = some (.slice ax n cx) := (HBr2.out.cell (p := ⟨bw, ow + x, none⟩) HXL.out.2).trans HCX.out
    clear hn2 hb2 HEN c0 c1 c2
    go_wp2_with fail
    with_reducible refine HI25.out.mono ?_
    rintro e3 u3 ⟨rfl, hb3⟩
    have HBr3 : Hid (Below wr.heap.size wr u3) := Lib.hid (HBr2.out.trans (hb3.mono HBr2.out.size))
    have HBv3 : Hid (Below v.heap.size v u3) := Lib.hid (XB.out.trans (HBr3.out.mono XB.out.size))
    have HNM3 : Hid (NN M u3 (.slice am m cm)) := Lib.hid ((HNM.out.below HB12.out).below hb3)
    clear hb3 HI25 hcx2
    obtain ⟨wo, hwo⟩ : ∃ w, w = wr := ⟨_, rfl⟩
    subst hwo
    go_wp2
    go_loopw [16, 17] (fun s j wr => ∃ k t : Nat, k ≤ m ∧ s = .int .i64 (t : Nat) ∧ j = .int .i64 (k : Nat) ∧ Hid (atJ q M k = t) ∧ Hid (Below u3.heap.size u3 wr)) (fun _ j _ => m - (intOf j).toNat)
    case atStart => exact ⟨0, 0, Nat.zero_le _, rfl, rfl, Lib.hid rfl, Lib.hid (Below.refl _ _)⟩
    case round =>
     obtain ⟨k, t, hk, rfl, rfl, KT, KB⟩ := hrel
     have HBvk : Hid (Below v.heap.size v wr) := Lib.hid (HBv3.out.trans (KB.out.mono HBv3.out.size))
     have HBok : Hid (Below wo.heap.size wo wr) := Lib.hid (HBr3.out.trans (KB.out.mono HBr3.out.size))
     by_cases hkm : k < m
     ·have hkmi : (k : Int) < (m : Int) := by omega
      obtain ⟨bm, om, hab, hbm, hcm⟩ := (HNM3.out.below KB.out).at' hkm
      subst hab
      obtain ⟨mk, hmk⟩ : ∃ z, Hid (M.getD k 0 = z) := ⟨_, Lib.hid rfl⟩
      rw [hmk.out] at hcm
      have hmkq : mk < q := by rw [← hmk.out]; exact HMQ.out k
      have htb : t ≤ 256 := by rw [← KT.out]; exact HAB.out k hk
      obtain ⟨t1, ht1⟩ : ∃ z, Hid (t * q = z) := ⟨_, Lib.hid rfl⟩
      have ht1i : (t : Int) * (q : Int) = (t1 : Int) := by rw [← ht1.out]; exact (Int.natCast_mul t q).symm
      have ht1b : t1 ≤ 4096 := by rw [← ht1.out]; exact Nat.le_trans (Nat.mul_le_mul htb hq16) (by decide)
      have ht1w : IntKind.i64.wrap (t1 : Int) = (t1 : Int) := w64 (by omega)
      obtain ⟨t2, ht2⟩ : ∃ z, Hid (t1 + mk = z) := ⟨_, Lib.hid rfl⟩
      have ht2i : (t1 : Int) + (mk : Int) = (t2 : Int) := by have := ht2.out; omega
      have ht2w : IntKind.i64.wrap (t2 : Int) = (t2 : Int) := w64 (by have := ht2.out; omega)
      have ht2w2 : IntKind.i64.wrap ((t1 : Int) + (mk : Int)) = (t2 : Int) := by rw [ht2i]; exact ht2w
      have HT2 : Hid (atJ q M (k + 1) = t2) := Lib.hid (by
       show atJ q M k * q + M.getD k 0 = t2
       rw [KT.out, ht1.out, hmk.out, ht2.out])
      have HBd : Hid (Below u3.heap.size u3 wr.drew) := Lib.hid KB.out.drew
      have hS19 : wr.drew.cell? ⟨x4, 0, none⟩ = some (.int .i64 (q : Nat)) ∧ wr.drew.cell? ⟨bm, om + k, none⟩ = some (.int .i64 (mk : Nat)) := ⟨((HC4v.out.below HBvk.out).drew).cell rfl, hcm⟩
      clear hcm hbm
      go_wp2
      refine wp_region_held_drew (S := fun w' => w'.cell? ⟨x4, 0, none⟩ = some (.int .i64 (q : Nat)) ∧ w'.cell? ⟨bm, om + k, none⟩ = some (.int .i64 (mk : Nat))) (by kernel_rfl) (by with_reducible exact hS19) (fun hHeld => ?_)
      refine Rg.tk 0 ⟨some 85,.move (.tmp 16),3,"law.go:158",#[],none⟩ ?_
      try simp only [Rg.gp]
      refine Rg.tk 1 ⟨some 86,.fieldAddr 32 (.tmp 8) 0,0,"law.go:158",#[],none⟩ ?_
      try simp only [Rg.gp]
      refine Rg.tk 2 ⟨some 87,.load 3 (.tmp 86),3,"law.go:158",#[⟨1,.data⟩],none⟩ ?_
      try simp only [Rg.gp]
      refine Rg.tk 3 ⟨some 88,.binOp BinOp.mul 3 (.tmp 85) (.tmp 87) 3,3,"law.go:158",#[⟨0,.data⟩,⟨2,.data⟩],none⟩ ?_
      try simp only [Rg.gp]
      refine Rg.tk 4 ⟨some 89,.move (.tmp 12),39,"law.go:158",#[],none⟩ ?_
      try simp only [Rg.gp]
      refine Rg.tk 5 ⟨some 90,.move (.tmp 17),3,"law.go:158",#[],none⟩ ?_
      try simp only [Rg.gp]
      refine Rg.tk 6 ⟨some 91,.indexAddr 39 (.tmp 89) (.tmp 90),0,"law.go:158",#[⟨4,.data⟩,⟨5,.data⟩],none⟩ ?_
      try simp only [Rg.gp]
      refine Rg.tk 7 ⟨some 92,.load 3 (.tmp 91),3,"law.go:158",#[⟨6,.data⟩],none⟩ ?_
      try simp only [Rg.gp]
      refine Rg.tk 8 ⟨some 93,.binOp BinOp.add 3 (.tmp 88) (.tmp 92) 3,3,"law.go:158",#[⟨3,.data⟩,⟨7,.data⟩],none⟩ ?_
      try simp only [Rg.gp]
      refine Rg.tk 9 ⟨some 16,.assign (.tmp 93),3,"law.go:158",#[⟨8,.data⟩,⟨0,.phase⟩,⟨1,.phase⟩,⟨2,.phase⟩,⟨3,.phase⟩,⟨4,.phase⟩,⟨5,.phase⟩,⟨6,.phase⟩,⟨7,.phase⟩,⟨8,.phase⟩],none⟩ ?_
      try simp only [Rg.gp]
      refine wpAnyH_done (by kernel_rfl) ?_ _
      clear hHeld hS19
      go_wp2
      go_roundw
      case rel => exact ⟨k + 1, t2, by omega, by go_num, by go_num, HT2, HBd⟩
      case measure => (try simp [intOf]); (try omega)
     ·have hkmi : ¬ (k : Int) < (m : Int) := by omega
      have hkm2 : k = m := by omega
      have htx : x = t := by have h := KT.out; rw [hkm2, HNUM.out] at h; exact h
      subst htx
      clear hkm2
      by_cases hx0 : x = 0
      ·have hx0i : ¬ (0 : Int) < (x : Int) := by omega
       clear hx0
       go_wp2
       go_roundw
       case rel => exact ⟨x + 1, by omega, by go_num, HBvk⟩
       case measure => simp [intOf]; omega
      ·have hx0i : (0 : Int) < (x : Int) := by omega
       obtain ⟨y, hy⟩ : ∃ z, Hid (x = z + 1) := ⟨x - 1, Lib.hid (by omega)⟩
       have hye := hy.out
       obtain ⟨p, hpn, hlt⟩ := HVC.out.next (x := y) (by rw [hq.out, HQN.out]; omega)
       rw [HLW.out, ← hye, HXE.out] at hlt
       have HLT := Lib.hid hlt
       have hyi : (x : Int) - 1 = (y : Int) := by omega
       have hyw : IntKind.i64.wrap (y : Int) = (y : Int) := w64 (by omega)
       have hyw2 : IntKind.i64.wrap ((x : Int) - 1) = (y : Int) := by rw [hyi]; exact hyw
       have hyl : y < nw := by omega
       have hyli : (y : Int) < (nw : Int) := by omega
       obtain ⟨bw', ow', haw', ay, cy, hcy, hny⟩ := (HMW.out.below HBvk.out).at' (fun t ht => (mrow HWN.out ht).len) hyl
       injection haw' with haw'
       injection haw' with e1 e2 _
       subst e1
       subst e2
       obtain ⟨bX, oX, haX, hbX, -⟩ := (HXN.out.below HBok.out).at' (show 0 < n by omega)
       subst haX
       obtain ⟨bY, oY, haY, hbY, -⟩ := hny.at' (show 0 < n by omega)
       subst haY
       have HNX := Lib.hid (HXN.out.below HBok.out)
       have HNY := Lib.hid hny
       have HCXk : Hid (wr.cell? ⟨bw, ow + x, none⟩ = some (.slice (some ⟨bX, oX, none⟩) n cx)) := Lib.hid ((HBok.out.cell (p := ⟨bw, ow + x, none⟩) HXL.out.2).trans HCX.out)
       have HCYk := Lib.hid hcy
       have HLL : Hid (bw < wr.heap.size) := Lib.hid (World.block_lt_of_cell? _ _ hcy)
       clear hlt hye hny hcy hbX hbY
       obtain ⟨w1, hw1⟩ : ∃ w, w = wr := ⟨_, rfl⟩
       subst hw1
       go_wp2
       go_loopw [18] (fun j wr => ∃ j' : Nat, j' ≤ p ∧ j = .int .i64 (j' : Nat) ∧ Hid (Below w1.heap.size w1 wr)) (fun j _ => n - (intOf j).toNat)
       case atStart => exact ⟨0, Nat.zero_le _, rfl, Lib.hid (Below.refl _ _)⟩
       case round =>
        obtain ⟨j, hj, rfl, JB⟩ := hrel
        have hjn : j < n := by omega
        have hjni : (j : Int) < (n : Int) := by omega
        have hjw : IntKind.i64.wrap (j : Int) = (j : Int) := w64 (by omega)
        have JBd : Hid (Below w1.heap.size w1 wr.drew) := Lib.hid JB.out.drew
        have JBd2 : Hid (Below v.heap.size v wr.drew.drew) := Lib.hid (HBvk.out.trans (JB.out.drew.drew.mono HBvk.out.size))
        obtain ⟨bX', oX', hX', _, hcX⟩ := (HNX.out.below JB.out).at' hjn
        injection hX' with hX'
        injection hX' with e1 e2 _
        subst e1
        subst e2
        obtain ⟨bY', oY', hY', _, hcY⟩ := (HNY.out.below JB.out).at' hjn
        injection hY' with hY'
        injection hY' with e1 e2 _
        subst e1
        subst e2
        obtain ⟨xj, hxj⟩ : ∃ z, Hid (X.getD j 0 = z) := ⟨_, Lib.hid rfl⟩
        obtain ⟨yj, hyj⟩ : ∃ z, Hid ((LW.getD y []).getD j 0 = z) := ⟨_, Lib.hid rfl⟩
        rw [hxj.out] at hcX
        rw [hyj.out] at hcY
        have hkx := (JB.out.cell (p := ⟨bw, ow + x, none⟩) HLL.out).trans HCXk.out
        have hky := (JB.out.cell (p := ⟨bw, ow + y, none⟩) HLL.out).trans HCYk.out
        have hk1 := ((HC4v.out.below HBvk.out).below JB.out).cell (i := 1) rfl
        have hS24 : wr.drew.cell? ⟨x4, 1, none⟩ = some (.int .i64 (n : Nat)) ∧ wr.drew.cell? ⟨bw, ow + x, none⟩ = some (.slice (some ⟨bX, oX, none⟩) n cx) ∧ wr.drew.cell? ⟨bw, ow + y, none⟩ = some (.slice (some ⟨bY, oY, none⟩) n cy) ∧ wr.drew.cell? ⟨bX, oX + j, none⟩ = some (.int .i64 (xj : Nat)) ∧ wr.drew.cell? ⟨bY, oY + j, none⟩ = some (.int .i64 (yj : Nat)) := ⟨hk1, hkx, hky, hcX, hcY⟩
        have hS26 : wr.drew.drew.cell? ⟨x4, 1, none⟩ = some (.int .i64 (n : Nat)) ∧ wr.drew.drew.cell? ⟨bw, ow + x, none⟩ = some (.slice (some ⟨bX, oX, none⟩) n cx) ∧ wr.drew.drew.cell? ⟨bw, ow + y, none⟩ = some (.slice (some ⟨bY, oY, none⟩) n cy) ∧ wr.drew.drew.cell? ⟨bX, oX + j, none⟩ = some (.int .i64 (xj : Nat)) ∧ wr.drew.drew.cell? ⟨bY, oY + j, none⟩ = some (.int .i64 (yj : Nat)) := ⟨hk1, hkx, hky, hcX, hcY⟩
        clear hk1 hkx hky hcX hcY
        by_cases hjp : j < p
        ·have hxy : xj = yj := by rw [← hxj.out, ← hyj.out]; exact (HLT.out.1 j hjp).symm
         subst hxy
         clear hS26
         go_wp2
         refine wp_region_held_drew (S := fun w' => w'.cell? ⟨x4, 1, none⟩ = some (.int .i64 (n : Nat)) ∧ w'.cell? ⟨bw, ow + x, none⟩ = some (.slice (some ⟨bX, oX, none⟩) n cx) ∧ w'.cell? ⟨bw, ow + y, none⟩ = some (.slice (some ⟨bY, oY, none⟩) n cy) ∧ w'.cell? ⟨bX, oX + j, none⟩ = some (.int .i64 (xj : Nat)) ∧ w'.cell? ⟨bY, oY + j, none⟩ = some (.int .i64 (xj : Nat))) (by kernel_rfl) (by with_reducible exact hS24) (fun hHeld => ?_)
         refine Rg.tk 0 ⟨some 99,.move (.tmp 18),3,"law.go:165",#[],none⟩ ?_
         try simp only [Rg.gp]
         refine Rg.tk 1 ⟨some 100,.fieldAddr 32 (.tmp 8) 1,0,"law.go:165",#[],none⟩ ?_
         try simp only [Rg.gp]
         refine Rg.tk 2 ⟨some 101,.load 3 (.tmp 100),3,"law.go:165",#[⟨1,.data⟩],none⟩ ?_
         try simp only [Rg.gp]
         refine Rg.tk 3 ⟨some 102,.binOp BinOp.lss 3 (.tmp 99) (.tmp 101) 3,4,"law.go:165",#[⟨0,.data⟩,⟨2,.data⟩],none⟩ ?_
         try simp only [Rg.gp]
         refine Rg.tk 4 ⟨some 103,.move (.tmp 102),4,"law.go:165",#[⟨3,.data⟩],none⟩ ?_
         try simp only [Rg.gp]
         refine Rg.tk 5 ⟨some 104,.move (.tmp 10),22,"law.go:165",#[⟨4,.guard⟩],some (4, true)⟩ ?_
         try simp only [Rg.gp]
         refine Rg.tk 6 ⟨some 105,.move (.tmp 11),3,"law.go:165",#[⟨4,.guard⟩],some (4, true)⟩ ?_
         try simp only [Rg.gp]
         refine Rg.tk 7 ⟨some 106,.indexAddr 22 (.tmp 104) (.tmp 105),0,"law.go:165",#[⟨5,.data⟩,⟨6,.data⟩,⟨4,.guard⟩],some (4, true)⟩ ?_
         try simp only [Rg.gp]
         refine Rg.tk 8 ⟨some 107,.load 39 (.tmp 106),39,"law.go:165",#[⟨7,.data⟩,⟨4,.guard⟩],some (4, true)⟩ ?_
         try simp only [Rg.gp]
         refine Rg.tk 9 ⟨some 108,.move (.tmp 18),3,"law.go:165",#[⟨4,.guard⟩],some (4, true)⟩ ?_
         try simp only [Rg.gp]
         refine Rg.tk 10 ⟨some 109,.indexAddr 39 (.tmp 107) (.tmp 108),0,"law.go:165",#[⟨8,.data⟩,⟨9,.data⟩,⟨4,.guard⟩],some (4, true)⟩ ?_
         try simp only [Rg.gp]
         refine Rg.tk 11 ⟨some 110,.load 3 (.tmp 109),3,"law.go:165",#[⟨10,.data⟩,⟨4,.guard⟩],some (4, true)⟩ ?_
         try simp only [Rg.gp]
         refine Rg.tk 12 ⟨some 111,.move (.tmp 10),22,"law.go:165",#[⟨4,.guard⟩],some (4, true)⟩ ?_
         try simp only [Rg.gp]
         refine Rg.tk 13 ⟨some 112,.move (.tmp 11),3,"law.go:165",#[⟨4,.guard⟩],some (4, true)⟩ ?_
         try simp only [Rg.gp]
         refine Rg.tk 14 ⟨some 113,.binOp BinOp.sub 3 (.tmp 112) (.const (Value.int IntKind.i64 1)) 3,3,"law.go:165",#[⟨13,.data⟩,⟨4,.guard⟩],some (4, true)⟩ ?_
         try simp only [Rg.gp]
         refine Rg.tk 15 ⟨some 114,.indexAddr 22 (.tmp 111) (.tmp 113),0,"law.go:165",#[⟨12,.data⟩,⟨14,.data⟩,⟨4,.guard⟩],some (4, true)⟩ ?_
         try simp only [Rg.gp]
         refine Rg.tk 16 ⟨some 115,.load 39 (.tmp 114),39,"law.go:165",#[⟨15,.data⟩,⟨4,.guard⟩],some (4, true)⟩ ?_
         try simp only [Rg.gp]
         refine Rg.tk 17 ⟨some 116,.move (.tmp 18),3,"law.go:165",#[⟨4,.guard⟩],some (4, true)⟩ ?_
         try simp only [Rg.gp]
         refine Rg.tk 18 ⟨some 117,.indexAddr 39 (.tmp 115) (.tmp 116),0,"law.go:165",#[⟨16,.data⟩,⟨17,.data⟩,⟨4,.guard⟩],some (4, true)⟩ ?_
         try simp only [Rg.gp]
         refine Rg.tk 19 ⟨some 118,.load 3 (.tmp 117),3,"law.go:165",#[⟨18,.data⟩,⟨4,.guard⟩],some (4, true)⟩ ?_
         try simp only [Rg.gp]
         refine Rg.tk 20 ⟨some 119,.binOp BinOp.eql 3 (.tmp 110) (.tmp 118) 3,4,"law.go:165",#[⟨11,.data⟩,⟨19,.data⟩,⟨4,.guard⟩],some (4, true)⟩ ?_
         try simp only [Rg.gp]
         refine Rg.tk 21 ⟨some 120,.pick (.tmp 103) (.tmp 119) (.const (Value.bool false)),4,"law.go:165",#[⟨4,.data⟩,⟨20,.data⟩],none⟩ ?_
         try simp only [Rg.gp]
         refine wpAnyH_done (by kernel_rfl) ?_ _
         clear hHeld hS24
         go_wp2
         go_roundw
         case rel => exact ⟨j + 1, by omega, by go_num, JBd⟩
         case measure => (try simp [intOf]); (try omega)
        ·have hjp2 : j = p := by omega
         have hgt : yj < xj := by rw [← hxj.out, ← hyj.out, hjp2]; exact HLT.out.2
         have hne : ¬ xj = yj := by omega
         have hnei : ¬ (xj : Int) = (yj : Int) := by omega
         have hneb : ((xj : Int) == (yj : Int)) = false := by simp; omega
         have hlti : ¬ (xj : Int) < (yj : Int) := by omega
         have hjnb : ((j : Int) == (n : Int)) = false := by simp; omega
         have hjne : ¬ (j : Int) = (n : Int) := by omega
         clear hjp2
         go_wp2
         refine wp_region_held_drew (S := fun w' => w'.cell? ⟨x4, 1, none⟩ = some (.int .i64 (n : Nat)) ∧ w'.cell? ⟨bw, ow + x, none⟩ = some (.slice (some ⟨bX, oX, none⟩) n cx) ∧ w'.cell? ⟨bw, ow + y, none⟩ = some (.slice (some ⟨bY, oY, none⟩) n cy) ∧ w'.cell? ⟨bX, oX + j, none⟩ = some (.int .i64 (xj : Nat)) ∧ w'.cell? ⟨bY, oY + j, none⟩ = some (.int .i64 (yj : Nat))) (by kernel_rfl) (by with_reducible exact hS24) (fun hHeld => ?_)
         refine Rg.tk 0 ⟨some 99,.move (.tmp 18),3,"law.go:165",#[],none⟩ ?_
         try simp only [Rg.gp]
         refine Rg.tk 1 ⟨some 100,.fieldAddr 32 (.tmp 8) 1,0,"law.go:165",#[],none⟩ ?_
         try simp only [Rg.gp]
         refine Rg.tk 2 ⟨some 101,.load 3 (.tmp 100),3,"law.go:165",#[⟨1,.data⟩],none⟩ ?_
         try simp only [Rg.gp]
         refine Rg.tk 3 ⟨some 102,.binOp BinOp.lss 3 (.tmp 99) (.tmp 101) 3,4,"law.go:165",#[⟨0,.data⟩,⟨2,.data⟩],none⟩ ?_
         try simp only [Rg.gp]
         refine Rg.tk 4 ⟨some 103,.move (.tmp 102),4,"law.go:165",#[⟨3,.data⟩],none⟩ ?_
         try simp only [Rg.gp]
         refine Rg.tk 5 ⟨some 104,.move (.tmp 10),22,"law.go:165",#[⟨4,.guard⟩],some (4, true)⟩ ?_
         try simp only [Rg.gp]
         refine Rg.tk 6 ⟨some 105,.move (.tmp 11),3,"law.go:165",#[⟨4,.guard⟩],some (4, true)⟩ ?_
         try simp only [Rg.gp]
         refine Rg.tk 7 ⟨some 106,.indexAddr 22 (.tmp 104) (.tmp 105),0,"law.go:165",#[⟨5,.data⟩,⟨6,.data⟩,⟨4,.guard⟩],some (4, true)⟩ ?_
         try simp only [Rg.gp]
         refine Rg.tk 8 ⟨some 107,.load 39 (.tmp 106),39,"law.go:165",#[⟨7,.data⟩,⟨4,.guard⟩],some (4, true)⟩ ?_
         try simp only [Rg.gp]
         refine Rg.tk 9 ⟨some 108,.move (.tmp 18),3,"law.go:165",#[⟨4,.guard⟩],some (4, true)⟩ ?_
         try simp only [Rg.gp]
         refine Rg.tk 10 ⟨some 109,.indexAddr 39 (.tmp 107) (.tmp 108),0,"law.go:165",#[⟨8,.data⟩,⟨9,.data⟩,⟨4,.guard⟩],some (4, true)⟩ ?_
         try simp only [Rg.gp]
         refine Rg.tk 11 ⟨some 110,.load 3 (.tmp 109),3,"law.go:165",#[⟨10,.data⟩,⟨4,.guard⟩],some (4, true)⟩ ?_
         try simp only [Rg.gp]
         refine Rg.tk 12 ⟨some 111,.move (.tmp 10),22,"law.go:165",#[⟨4,.guard⟩],some (4, true)⟩ ?_
         try simp only [Rg.gp]
         refine Rg.tk 13 ⟨some 112,.move (.tmp 11),3,"law.go:165",#[⟨4,.guard⟩],some (4, true)⟩ ?_
         try simp only [Rg.gp]
         refine Rg.tk 14 ⟨some 113,.binOp BinOp.sub 3 (.tmp 112) (.const (Value.int IntKind.i64 1)) 3,3,"law.go:165",#[⟨13,.data⟩,⟨4,.guard⟩],some (4, true)⟩ ?_
         try simp only [Rg.gp]
         refine Rg.tk 15 ⟨some 114,.indexAddr 22 (.tmp 111) (.tmp 113),0,"law.go:165",#[⟨12,.data⟩,⟨14,.data⟩,⟨4,.guard⟩],some (4, true)⟩ ?_
         try simp only [Rg.gp]
         refine Rg.tk 16 ⟨some 115,.load 39 (.tmp 114),39,"law.go:165",#[⟨15,.data⟩,⟨4,.guard⟩],some (4, true)⟩ ?_
         try simp only [Rg.gp]
         refine Rg.tk 17 ⟨some 116,.move (.tmp 18),3,"law.go:165",#[⟨4,.guard⟩],some (4, true)⟩ ?_
         try simp only [Rg.gp]
         refine Rg.tk 18 ⟨some 117,.indexAddr 39 (.tmp 115) (.tmp 116),0,"law.go:165",#[⟨16,.data⟩,⟨17,.data⟩,⟨4,.guard⟩],some (4, true)⟩ ?_
         try simp only [Rg.gp]
         refine Rg.tk 19 ⟨some 118,.load 3 (.tmp 117),3,"law.go:165",#[⟨18,.data⟩,⟨4,.guard⟩],some (4, true)⟩ ?_
         try simp only [Rg.gp]
         refine Rg.tk 20 ⟨some 119,.binOp BinOp.eql 3 (.tmp 110) (.tmp 118) 3,4,"law.go:165",#[⟨11,.data⟩,⟨19,.data⟩,⟨4,.guard⟩],some (4, true)⟩ ?_
         try simp only [Rg.gp]
         refine Rg.tk 21 ⟨some 120,.pick (.tmp 103) (.tmp 119) (.const (Value.bool false)),4,"law.go:165",#[⟨4,.data⟩,⟨20,.data⟩],none⟩ ?_
         try simp only [Rg.gp]
         refine wpAnyH_done (by kernel_rfl) ?_ _
         clear hHeld hS24
         go_wp2_with fail
         refine wp_region_held_drew (S := fun w' => w'.cell? ⟨x4, 1, none⟩ = some (.int .i64 (n : Nat)) ∧ w'.cell? ⟨bw, ow + x, none⟩ = some (.slice (some ⟨bX, oX, none⟩) n cx) ∧ w'.cell? ⟨bw, ow + y, none⟩ = some (.slice (some ⟨bY, oY, none⟩) n cy) ∧ w'.cell? ⟨bX, oX + j, none⟩ = some (.int .i64 (xj : Nat)) ∧ w'.cell? ⟨bY, oY + j, none⟩ = some (.int .i64 (yj : Nat))) (by kernel_rfl) (by with_reducible exact hS26) (fun hHeld => ?_)
         refine Rg.tk 0 ⟨some 123,.move (.tmp 18),3,"law.go:168",#[],none⟩ ?_
         try simp only [Rg.gp]
         refine Rg.tk 1 ⟨some 124,.fieldAddr 32 (.tmp 8) 1,0,"law.go:168",#[],none⟩ ?_
         try simp only [Rg.gp]
         refine Rg.tk 2 ⟨some 125,.load 3 (.tmp 124),3,"law.go:168",#[⟨1,.data⟩],none⟩ ?_
         try simp only [Rg.gp]
         refine Rg.tk 3 ⟨some 126,.binOp BinOp.eql 3 (.tmp 123) (.tmp 125) 3,4,"law.go:168",#[⟨0,.data⟩,⟨2,.data⟩],none⟩ ?_
         try simp only [Rg.gp]
         refine Rg.tk 4 ⟨some 127,.move (.tmp 126),4,"law.go:168",#[⟨3,.data⟩],none⟩ ?_
         try simp only [Rg.gp]
         refine Rg.tk 5 ⟨some 128,.move (.tmp 10),22,"law.go:168",#[⟨4,.guard⟩],some (4, false)⟩ ?_
         try simp only [Rg.gp]
         refine Rg.tk 6 ⟨some 129,.move (.tmp 11),3,"law.go:168",#[⟨4,.guard⟩],some (4, false)⟩ ?_
         try simp only [Rg.gp]
         refine Rg.tk 7 ⟨some 130,.indexAddr 22 (.tmp 128) (.tmp 129),0,"law.go:168",#[⟨5,.data⟩,⟨6,.data⟩,⟨4,.guard⟩],some (4, false)⟩ ?_
         try simp only [Rg.gp]
         refine Rg.tk 8 ⟨some 131,.load 39 (.tmp 130),39,"law.go:168",#[⟨7,.data⟩,⟨4,.guard⟩],some (4, false)⟩ ?_
         try simp only [Rg.gp]
         refine Rg.tk 9 ⟨some 132,.move (.tmp 18),3,"law.go:168",#[⟨4,.guard⟩],some (4, false)⟩ ?_
         try simp only [Rg.gp]
         refine Rg.tk 10 ⟨some 133,.indexAddr 39 (.tmp 131) (.tmp 132),0,"law.go:168",#[⟨8,.data⟩,⟨9,.data⟩,⟨4,.guard⟩],some (4, false)⟩ ?_
         try simp only [Rg.gp]
         refine Rg.tk 11 ⟨some 134,.load 3 (.tmp 133),3,"law.go:168",#[⟨10,.data⟩,⟨4,.guard⟩],some (4, false)⟩ ?_
         try simp only [Rg.gp]
         refine Rg.tk 12 ⟨some 135,.move (.tmp 10),22,"law.go:168",#[⟨4,.guard⟩],some (4, false)⟩ ?_
         try simp only [Rg.gp]
         refine Rg.tk 13 ⟨some 136,.move (.tmp 11),3,"law.go:168",#[⟨4,.guard⟩],some (4, false)⟩ ?_
         try simp only [Rg.gp]
         refine Rg.tk 14 ⟨some 137,.binOp BinOp.sub 3 (.tmp 136) (.const (Value.int IntKind.i64 1)) 3,3,"law.go:168",#[⟨13,.data⟩,⟨4,.guard⟩],some (4, false)⟩ ?_
         try simp only [Rg.gp]
         refine Rg.tk 15 ⟨some 138,.indexAddr 22 (.tmp 135) (.tmp 137),0,"law.go:168",#[⟨12,.data⟩,⟨14,.data⟩,⟨4,.guard⟩],some (4, false)⟩ ?_
         try simp only [Rg.gp]
         refine Rg.tk 16 ⟨some 139,.load 39 (.tmp 138),39,"law.go:168",#[⟨15,.data⟩,⟨4,.guard⟩],some (4, false)⟩ ?_
         try simp only [Rg.gp]
         refine Rg.tk 17 ⟨some 140,.move (.tmp 18),3,"law.go:168",#[⟨4,.guard⟩],some (4, false)⟩ ?_
         try simp only [Rg.gp]
         refine Rg.tk 18 ⟨some 141,.indexAddr 39 (.tmp 139) (.tmp 140),0,"law.go:168",#[⟨16,.data⟩,⟨17,.data⟩,⟨4,.guard⟩],some (4, false)⟩ ?_
         try simp only [Rg.gp]
         refine Rg.tk 19 ⟨some 142,.load 3 (.tmp 141),3,"law.go:168",#[⟨18,.data⟩,⟨4,.guard⟩],some (4, false)⟩ ?_
         try simp only [Rg.gp]
         refine Rg.tk 20 ⟨some 143,.binOp BinOp.lss 3 (.tmp 134) (.tmp 142) 3,4,"law.go:168",#[⟨11,.data⟩,⟨19,.data⟩,⟨4,.guard⟩],some (4, false)⟩ ?_
         try simp only [Rg.gp]
         refine Rg.tk 21 ⟨some 144,.pick (.tmp 127) (.const (Value.bool true)) (.tmp 143),4,"law.go:168",#[⟨4,.data⟩,⟨20,.data⟩],none⟩ ?_
         try simp only [Rg.gp]
         refine wpAnyH_done (by kernel_rfl) ?_ _
         clear hHeld hS26
         go_wp2
         go_roundw
         case rel => exact ⟨x + 1, by omega, by go_num, JBd2⟩
         case measure => (try simp [intOf]); (try omega)
   ·have hxli : ¬ (x : Int) < (nw : Int) := by omega
    obtain ⟨bw', ow', haw', aA, cA, hcA, hnA⟩ := (HMW.out.below XB.out).at' (fun t ht => (mrow HWN.out ht).len) hix
    injection haw' with haw'
    injection haw' with e1 e2 _
    subst e1
    subst e2
    obtain ⟨bw', ow', haw', aB, cB, hcB, hnB⟩ := (HMW.out.below XB.out).at' (fun t ht => (mrow HWN.out ht).len) hkx
    injection haw' with haw'
    injection haw' with e1 e2 _
    subst e1
    subst e2
    obtain ⟨A, hA⟩ : ∃ A, Hid (LW.getD ix [] = A) := ⟨_, Lib.hid rfl⟩
    obtain ⟨B, hB⟩ : ∃ A, Hid (LW.getD kx [] = A) := ⟨_, Lib.hid rfl⟩
    rw [hA.out] at hnA
    rw [hB.out] at hnB
    have HAN := Lib.hid hnA
    have HBN := Lib.hid hnB
    have HAM : Hid (A ∈ wdK F n G m) := Lib.hid (by rw [← hA.out]; exact HMEM.out ix hix)
    have HBM : Hid (B ∈ wdK F n G m) := Lib.hid (by rw [← hB.out]; exact HMEM.out kx hkx)
    have HAVn : Hid (Vn F n A) := Lib.hid (wdK_mn HFF.out m A HAM.out)
    have HBVn : Hid (Vn F n B) := Lib.hid (wdK_mn HFF.out m B HBM.out)
    have hS28 : wr.drew.cell? ⟨bw, ow + ix, none⟩ = some (.slice aA n cA) ∧ wr.drew.cell? ⟨bw, ow + kx, none⟩ = some (.slice aB n cB) := ⟨hcA, hcB⟩
    clear hcA hcB hnA hnB
    go_wp2_with fail
    refine wp_region_held_drew (S := fun w' => w'.cell? ⟨bw, ow + ix, none⟩ = some (.slice aA n cA) ∧ w'.cell? ⟨bw, ow + kx, none⟩ = some (.slice aB n cB)) (by kernel_rfl) (by with_reducible exact hS28) (fun hHeld => ?_)
    refine Rg.tk 0 ⟨some 145,.move (.tmp 10),22,"law.go:173",#[],none⟩ ?_
    try simp only [Rg.gp]
    refine Rg.tk 1 ⟨some 146,.move (.tmp 1),5,"law.go:173",#[],none⟩ ?_
    try simp only [Rg.gp]
    refine Rg.tk 2 ⟨some 147,.convert 5 3 (.tmp 146),3,"law.go:173",#[⟨1,.data⟩],none⟩ ?_
    try simp only [Rg.gp]
    refine Rg.tk 3 ⟨some 148,.move (.tmp 10),22,"law.go:173",#[],none⟩ ?_
    try simp only [Rg.gp]
    refine Rg.tk 4 ⟨some 149,.call ⟨.builtin Builtin.len,#[.tmp 148],#[22]⟩,3,"law.go:173",#[⟨3,.data⟩],none⟩ ?_
    try simp only [Rg.gp]
    refine Rg.tk 5 ⟨some 150,.binOp BinOp.rem 3 (.tmp 147) (.tmp 149) 3,3,"law.go:173",#[⟨2,.data⟩,⟨4,.data⟩],none⟩ ?_
    try simp only [Rg.gp]
    refine Rg.tk 6 ⟨some 151,.indexAddr 22 (.tmp 145) (.tmp 150),0,"law.go:173",#[⟨0,.data⟩,⟨5,.data⟩],none⟩ ?_
    try simp only [Rg.gp]
    refine Rg.tk 7 ⟨some 152,.load 39 (.tmp 151),39,"law.go:173",#[⟨6,.data⟩],none⟩ ?_
    try simp only [Rg.gp]
    refine Rg.tk 8 ⟨some 153,.move (.tmp 10),22,"law.go:173",#[⟨16,.gcOnly Go.Departure.lateStores⟩],none⟩ ?_
    try simp only [Rg.gp]
    refine Rg.tk 9 ⟨some 154,.move (.tmp 2),5,"law.go:173",#[⟨16,.gcOnly Go.Departure.lateStores⟩],none⟩ ?_
    try simp only [Rg.gp]
    refine Rg.tk 10 ⟨some 155,.convert 5 3 (.tmp 154),3,"law.go:173",#[⟨9,.data⟩,⟨16,.gcOnly Go.Departure.lateStores⟩],none⟩ ?_
    try simp only [Rg.gp]
    refine Rg.tk 11 ⟨some 156,.move (.tmp 10),22,"law.go:173",#[],none⟩ ?_
    try simp only [Rg.gp]
    refine Rg.tk 12 ⟨some 157,.call ⟨.builtin Builtin.len,#[.tmp 156],#[22]⟩,3,"law.go:173",#[⟨11,.data⟩],none⟩ ?_
    try simp only [Rg.gp]
    refine Rg.tk 13 ⟨some 158,.binOp BinOp.rem 3 (.tmp 155) (.tmp 157) 3,3,"law.go:173",#[⟨10,.data⟩,⟨12,.data⟩,⟨16,.gcOnly Go.Departure.lateStores⟩],none⟩ ?_
    try simp only [Rg.gp]
    refine Rg.tk 14 ⟨some 159,.indexAddr 22 (.tmp 153) (.tmp 158),0,"law.go:173",#[⟨8,.data⟩,⟨13,.data⟩,⟨16,.gcOnly Go.Departure.lateStores⟩],none⟩ ?_
    try simp only [Rg.gp]
    refine Rg.tk 15 ⟨some 160,.load 39 (.tmp 159),39,"law.go:173",#[⟨14,.data⟩,⟨16,.gcOnly Go.Departure.lateStores⟩],none⟩ ?_
    try simp only [Rg.gp]
    refine Rg.tk 16 ⟨some 19,.assign (.tmp 152),39,"law.go:173",#[⟨7,.data⟩,⟨0,.phase⟩,⟨1,.phase⟩,⟨2,.phase⟩,⟨3,.phase⟩,⟨4,.phase⟩,⟨5,.phase⟩,⟨6,.phase⟩,⟨7,.phase⟩,⟨8,.textOnly Go.Departure.lateStores⟩,⟨9,.textOnly Go.Departure.lateStores⟩,⟨10,.textOnly Go.Departure.lateStores⟩,⟨11,.textOnly Go.Departure.lateStores⟩,⟨12,.textOnly Go.Departure.lateStoresUnsure⟩,⟨13,.textOnly Go.Departure.lateStores⟩,⟨14,.textOnly Go.Departure.lateStores⟩,⟨15,.textOnly Go.Departure.lateStores⟩],none⟩ ?_
    try simp only [Rg.gp]
    refine Rg.tk 17 ⟨some 20,.assign (.tmp 160),39,"law.go:173",#[⟨15,.data⟩,⟨16,.chain⟩,⟨0,.phase⟩,⟨1,.phase⟩,⟨2,.phase⟩,⟨3,.phase⟩,⟨4,.phase⟩,⟨5,.phase⟩,⟨6,.phase⟩,⟨7,.phase⟩,⟨8,.phase⟩,⟨9,.phase⟩,⟨10,.phase⟩,⟨11,.phase⟩,⟨12,.phase⟩,⟨13,.phase⟩,⟨14,.phase⟩,⟨15,.phase⟩,⟨16,.phase⟩],none⟩ ?_
    try simp only [Rg.gp]
    refine wpAnyH_done (by kernel_rfl) ?_ _
    clear hHeld hS28
    obtain ⟨kq, hkq⟩ : ∃ t, Hid (ku % q = t) := ⟨_, Lib.hid rfl⟩
    have hkql : kq < q := by rw [← hkq.out]; exact Nat.mod_lt _ (by omega)
    have hkqt : (ku : Int).tmod (q : Int) = (kq : Int) := by rw [← hkq.out]; exact (Int.ofNat_tmod ku q).symm
    have hqz : ((q : Int) == 0) = false := by simp; omega
    have hqz2 : ¬ (q : Int) = 0 := by omega
    have hqz3 : ¬ q = 0 := by omega
    have HT40 : Hid (∀ w', Below wr.heap.size wr w' → Calls Try.prog 40 #[FV F b cap, .int .i64 (kq : Nat), .slice aB n cB] w' fun e w'' => ∃ a' c', e = .returned (.slice a' n c') ∧ NN (tiV F kq B) w'' (.slice a' n c') ∧ Below w'.heap.size w' w'') := Lib.hid fun w' hb => by
     refine (rtimes_c ((HFV.out.below XB.out).below hb) (by omega) (by rw [hq.out]; exact hkql) HBVn.out (HBN.out.below hb)).mono fun e w'' ⟨a', c', h3, h4, h5⟩ => ⟨a', c', h3, ?_, h5⟩
     exact NN.of_owns (L := tiV F kq B) (by rw [tiV_len, HBVn.out.len]; exact h4)
    have HT41 : Hid (∀ w' a' c', Below wr.heap.size wr w' → NN (tiV F kq B) w' (.slice a' n c') → Calls Try.prog 41 #[FV F b cap, .slice aA n cA, .slice a' n c'] w' fun e w'' => ∃ a' c', e = .returned (.slice a' n c') ∧ NN (plV F A (tiV F kq B)) w'' (.slice a' n c') ∧ Below w'.heap.size w' w'') := Lib.hid fun w' a' c' hb hn => by
     refine (rplus_c ((HFV.out.below XB.out).below hb) (by omega) HAVn.out (tiV_vn HFF.out HBVn.out) (HAN.out.below hb) hn).mono fun e w'' ⟨a', c', h3, h4, h5⟩ => ⟨a', c', h3, ?_, h5⟩
     exact NN.of_owns (L := plV F A (tiV F kq B)) (by rw [plV_len, HAVn.out.len]; exact h4)
    have HWZ : Hid (wtV (rsV F n G (plV F A (tiV F kq B))) = 0) := Lib.hid ((HVC.out.rest (plV_vn HFF.out HAVn.out)).2 (by
     rw [plV_fn HFF.out HAVn.out.len (by rw [tiV_len, HBVn.out.len]), tiV_fn HFF.out HBVn.out.len]
     exact Sp.add HFF.out HVC.out.els ((HVC.out.memIff HAVn.out).1 HAM.out) (Sp.smul HFF.out HVC.out.els (by rw [hq.out]; exact hkql) ((HVC.out.memIff HBVn.out).1 HBM.out))))
    have HT21 : Hid (∀ w' a' c', Below wr.heap.size wr w' → NN (plV F A (tiV F kq B)) w' (.slice a' n c') → Calls Try.prog 21 #[DV q n (.slice a m ca), .slice a' n c'] w' fun e w'' => ∃ a' c', e = .returned (.tuple #[.slice a' m c', .int .i64 0]) ∧ Below w'.heap.size w' w'') := Lib.hid fun w' a' c' hb hn => by
     have h := message_c HVC.out ((HMG.out.below XB.out).below hb) (plV_vn HFF.out HAVn.out) hn
     rw [hq.out] at h
     refine h.mono fun e w'' ⟨hc, hb⟩ => ?_
     rcases hc with ⟨_, a', c', h1, _⟩ | ⟨h1, _⟩
     ·exact ⟨a', c', h1, hb⟩
     ·exact absurd HWZ.out h1
    have hbc := (HC4v.out.below XB.out).drew
    have hbf := (HY5.out.below XB.out).drew
    have HXY : Hid (x4 < wr.heap.size ∧ y5 < wr.heap.size) := Lib.hid ⟨hbc.lt, hbf.lt⟩
    have hS29 : (wr.drew.drew.cell? ⟨x4, 0, none⟩ = some (.int .i64 (q : Nat)) ∧ wr.drew.drew.cell? ⟨x4, 1, none⟩ = some (.int .i64 (n : Nat)) ∧ wr.drew.drew.cell? ⟨x4, 2, none⟩ = some (.slice a m ca)) ∧ (wr.drew.drew.cell? ⟨y5, 0, none⟩ = some (.int .i64 F.p) ∧ wr.drew.drew.cell? ⟨y5, 1, none⟩ = some (.int .i64 F.e) ∧ wr.drew.drew.cell? ⟨y5, 2, none⟩ = some (FM F b cap)) ∧ Hid (Below wr.heap.size wr wr.drew.drew) := ⟨⟨hbc.drew.cell rfl, hbc.drew.cell rfl, hbc.drew.cell rfl⟩, ⟨hbf.drew.cell rfl, hbf.drew.cell rfl, hbf.drew.cell rfl⟩, Lib.hid (Below.refl _ _).drew.drew⟩
    clear hbc hbf
    go_wp2_with fail
    refine wp_region_held_drew (S := fun w' => (w'.cell? ⟨x4, 0, none⟩ = some (.int .i64 (q : Nat)) ∧ w'.cell? ⟨x4, 1, none⟩ = some (.int .i64 (n : Nat)) ∧ w'.cell? ⟨x4, 2, none⟩ = some (.slice a m ca)) ∧ (w'.cell? ⟨y5, 0, none⟩ = some (.int .i64 F.p) ∧ w'.cell? ⟨y5, 1, none⟩ = some (.int .i64 F.e) ∧ w'.cell? ⟨y5, 2, none⟩ = some (FM F b cap)) ∧ Hid (Below wr.heap.size wr w')) (by kernel_rfl) (by with_reducible exact hS29) (fun hHeld => ?_)
    refine Rg.tk 0 ⟨some 162,.load 32 (.tmp 8),32,"law.go:174",#[],none⟩ ?_
    try simp only [Rg.gp]
    refine Rg.tk 1 ⟨some 163,.load 53 (.tmp 9),53,"law.go:174",#[],none⟩ ?_
    try simp only [Rg.gp]
    refine Rg.tk 2 ⟨some 164,.move (.tmp 19),39,"law.go:174",#[],none⟩ ?_
    try simp only [Rg.gp]
    refine Rg.tk 3 ⟨some 165,.load 53 (.tmp 9),53,"law.go:174",#[],none⟩ ?_
    try simp only [Rg.gp]
    refine Rg.tk 4 ⟨some 166,.move (.tmp 2),5,"law.go:174",#[],none⟩ ?_
    try simp only [Rg.gp]
    refine Rg.tk 5 ⟨some 167,.convert 5 3 (.tmp 166),3,"law.go:174",#[⟨4,.data⟩],none⟩ ?_
    try simp only [Rg.gp]
    refine Rg.tk 6 ⟨some 168,.fieldAddr 32 (.tmp 8) 0,0,"law.go:174",#[],none⟩ ?_
    try simp only [Rg.gp]
    refine Rg.tk 7 ⟨some 169,.load 3 (.tmp 168),3,"law.go:174",#[⟨6,.data⟩],none⟩ ?_
    try simp only [Rg.gp]
    refine Rg.tk 8 ⟨some 170,.binOp BinOp.rem 3 (.tmp 167) (.tmp 169) 3,3,"law.go:174",#[⟨5,.data⟩,⟨7,.data⟩],none⟩ ?_
    try simp only [Rg.gp]
    refine Rg.tk 9 ⟨some 171,.move (.tmp 20),39,"law.go:174",#[],none⟩ ?_
    try simp only [Rg.gp]
    refine Rg.rd1 10 ⟨some 172,.call ⟨.value (.func 40),#[.tmp 165,.tmp 170,.tmp 171],#[53,3,39]⟩,39,"law.go:174",#[⟨3,.data⟩,⟨8,.data⟩,⟨9,.data⟩],none⟩ fun K hK => ?_
    go_simp
    go_at_call 40
    with_reducible refine (HT40.out _ hHeld.2.2.out).mono ?_
    rintro e7 u7 ⟨a7, c7, rfl, hn7, hb7⟩
    have HN7 := Lib.hid hn7
    refine hK.out _ _ ?_ (fun hHeld => ?_)
    ·(try dsimp only)
     have hsx := hHeld.2.2.out.size
     have hxx : x4 < _ := Nat.lt_of_lt_of_le HXY.out.1 hsx
     have hyx : y5 < _ := Nat.lt_of_lt_of_le HXY.out.2 hsx
     exact ⟨⟨(hb7.cell (p := ⟨x4, 0, none⟩) hxx).trans hHeld.1.1, (hb7.cell (p := ⟨x4, 1, none⟩) hxx).trans hHeld.1.2.1, (hb7.cell (p := ⟨x4, 2, none⟩) hxx).trans hHeld.1.2.2⟩, ⟨(hb7.cell (p := ⟨y5, 0, none⟩) hyx).trans hHeld.2.1.1, (hb7.cell (p := ⟨y5, 1, none⟩) hyx).trans hHeld.2.1.2.1, (hb7.cell (p := ⟨y5, 2, none⟩) hyx).trans hHeld.2.1.2.2⟩, Lib.hid (hHeld.2.2.out.trans (hb7.mono hsx))⟩
    clear hK K
    try simp only [Rg.gp]
    refine Rg.rd1 11 ⟨some 173,.call ⟨.value (.func 41),#[.tmp 163,.tmp 164,.tmp 172],#[53,39,39]⟩,39,"law.go:174",#[⟨1,.data⟩,⟨2,.data⟩,⟨10,.data⟩,⟨10,.chain⟩],none⟩ fun K hK => ?_
    go_simp
    go_at_call 41
    with_reducible refine (HT41.out _ _ _ hHeld.2.2.out HN7.out).mono ?_
    rintro e8 u8 ⟨a8, c8, rfl, hn8, hb8⟩
    have HN8 := Lib.hid hn8
    refine hK.out _ _ ?_ (fun hHeld => ?_)
    ·(try dsimp only)
     have hsx := hHeld.2.2.out.size
     have hxx : x4 < _ := Nat.lt_of_lt_of_le HXY.out.1 hsx
     have hyx : y5 < _ := Nat.lt_of_lt_of_le HXY.out.2 hsx
     exact ⟨⟨(hb8.cell (p := ⟨x4, 0, none⟩) hxx).trans hHeld.1.1, (hb8.cell (p := ⟨x4, 1, none⟩) hxx).trans hHeld.1.2.1, (hb8.cell (p := ⟨x4, 2, none⟩) hxx).trans hHeld.1.2.2⟩, ⟨(hb8.cell (p := ⟨y5, 0, none⟩) hyx).trans hHeld.2.1.1, (hb8.cell (p := ⟨y5, 1, none⟩) hyx).trans hHeld.2.1.2.1, (hb8.cell (p := ⟨y5, 2, none⟩) hyx).trans hHeld.2.1.2.2⟩, Lib.hid (hHeld.2.2.out.trans (hb8.mono hsx))⟩
    clear hK K
    try simp only [Rg.gp]
    refine Rg.rd1 12 ⟨some 174,.call ⟨.value (.func 21),#[.tmp 162,.tmp 173],#[32,39]⟩,41,"law.go:174",#[⟨0,.data⟩,⟨11,.data⟩,⟨11,.chain⟩],none⟩ fun K hK => ?_
    go_simp
    go_at_call 21
    with_reducible refine (HT21.out _ _ _ hHeld.2.2.out HN8.out).mono ?_
    rintro e9 u9 ⟨a9, c9, rfl, hb9⟩
    refine hK.out _ _ ?_ (fun hHeld => ?_)
    ·(try dsimp only)
     have hsx := hHeld.2.2.out.size
     have hxx : x4 < _ := Nat.lt_of_lt_of_le HXY.out.1 hsx
     have hyx : y5 < _ := Nat.lt_of_lt_of_le HXY.out.2 hsx
     exact ⟨⟨(hb9.cell (p := ⟨x4, 0, none⟩) hxx).trans hHeld.1.1, (hb9.cell (p := ⟨x4, 1, none⟩) hxx).trans hHeld.1.2.1, (hb9.cell (p := ⟨x4, 2, none⟩) hxx).trans hHeld.1.2.2⟩, ⟨(hb9.cell (p := ⟨y5, 0, none⟩) hyx).trans hHeld.2.1.1, (hb9.cell (p := ⟨y5, 1, none⟩) hyx).trans hHeld.2.1.2.1, (hb9.cell (p := ⟨y5, 2, none⟩) hyx).trans hHeld.2.1.2.2⟩, Lib.hid (hHeld.2.2.out.trans (hb9.mono hsx))⟩
    clear hK K
    try simp only [Rg.gp]
    refine Rg.tk 13 ⟨some 161,.move (.tmp 174),41,"law.go:174",#[⟨12,.data⟩],none⟩ ?_
    try simp only [Rg.gp]
    refine Rg.tk 14 ⟨some 175,.extract (.tmp 161) 0,39,"law.go:174",#[⟨13,.data⟩],none⟩ ?_
    try simp only [Rg.gp]
    refine Rg.tk 15 ⟨some 176,.extract (.tmp 161) 1,33,"law.go:174",#[⟨13,.data⟩,⟨16,.gcOnly Go.Departure.lateStores⟩],none⟩ ?_
    try simp only [Rg.gp]
    refine Rg.tk 16 ⟨some 21,.assign (.tmp 175),39,"law.go:174",#[⟨14,.data⟩,⟨12,.chain⟩,⟨0,.phase⟩,⟨1,.phase⟩,⟨2,.phase⟩,⟨3,.phase⟩,⟨4,.phase⟩,⟨5,.phase⟩,⟨6,.phase⟩,⟨7,.phase⟩,⟨8,.phase⟩,⟨9,.phase⟩,⟨10,.phase⟩,⟨11,.phase⟩,⟨12,.phase⟩,⟨13,.phase⟩,⟨14,.phase⟩,⟨15,.textOnly Go.Departure.lateStores⟩],none⟩ ?_
    try simp only [Rg.gp]
    refine Rg.tk 17 ⟨some 22,.assign (.tmp 176),33,"law.go:174",#[⟨15,.data⟩,⟨16,.chain⟩,⟨0,.phase⟩,⟨1,.phase⟩,⟨2,.phase⟩,⟨3,.phase⟩,⟨4,.phase⟩,⟨5,.phase⟩,⟨6,.phase⟩,⟨7,.phase⟩,⟨8,.phase⟩,⟨9,.phase⟩,⟨10,.phase⟩,⟨11,.phase⟩,⟨12,.phase⟩,⟨13,.phase⟩,⟨14,.phase⟩,⟨15,.phase⟩,⟨16,.phase⟩],none⟩ ?_
    try simp only [Rg.gp]
    refine wpAnyH_done (by kernel_rfl) ?_ _
    have HBF : Hid (Below W.heap.size W u9) := Lib.hid (HBV.out.trans ((XB.out.trans (hHeld.2.2.out.mono XB.out.size)).mono HBV.out.size))
    clear hHeld hS29 hn7 hn8 hb7 hb8 hb9
    go_wp2
    go_ret
    exact ⟨rfl, HBF.out⟩

end Go.Proofs.Ytdafhhojiioifaa
