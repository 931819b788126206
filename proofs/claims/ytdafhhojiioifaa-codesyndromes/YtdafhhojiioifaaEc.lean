/- The law CodeSyndromes. -/
import Derived.Test.YtdafhhojiioifaaEb
namespace Go.Proofs.Ytdafhhojiioifaa
open Go.RowKit Go.Fl
set_option maxRecDepth 100000
set_option linter.unusedVariables false
set_option linter.unusedSimpArgs false
set_option linter.unusedSectionVars false

open Go.RowKit
theorem share5 {A B C D E : Type} {H T : A → B → C → D → E → World → Prop} {goal : Prop} (ways : (∀ a b c d e w, H a b c d e w → T a b c d e w) → goal) (rest : ∀ a b c d e w, H a b c d e w → T a b c d e w) : goal := ways rest
abbrev S8 (q n : Nat) (va : Value) (x4 bz : Nat) (z0 z1 : Value) (v w : World) : Prop := (w.cell? ⟨x4, 0, none⟩ = some (.int .i64 (q : Nat)) ∧ w.cell? ⟨x4, 1, none⟩ = some (.int .i64 (n : Nat)) ∧ w.cell? ⟨x4, 2, none⟩ = some va) ∧ (w.cell? ⟨bz, 0, none⟩ = some z0 ∧ w.cell? ⟨bz, 1, none⟩ = some z1) ∧ Hid (Below v.heap.size v w ∧ x4 < v.heap.size ∧ bz < v.heap.size)
theorem S8.go {q n : Nat} {va : Value} {x4 bz : Nat} {z0 z1 : Value} {v w w' : World} (h : S8 q n va x4 bz z0 z1 v w) (hb : Below v.heap.size w w') : S8 q n va x4 bz z0 z1 v w' := by
 obtain ⟨⟨h0, h1, h2⟩, ⟨g0, g1⟩, h4⟩ := h
 have hB := h4.out.2.1
 have hC := h4.out.2.2
 exact ⟨⟨(hb.cell (p := ⟨x4, 0, none⟩) hB).trans h0, (hb.cell (p := ⟨x4, 1, none⟩) hB).trans h1, (hb.cell (p := ⟨x4, 2, none⟩) hB).trans h2⟩, ⟨(hb.cell (p := ⟨bz, 0, none⟩) hC).trans g0, (hb.cell (p := ⟨bz, 1, none⟩) hC).trans g1⟩, Lib.hid ⟨h4.out.1.trans hb, hB, hC⟩⟩
abbrev S11 (q n : Nat) (va : Value) (x4 y5 : Nat) (F : Gf) (b cap : Nat) (v w : World) : Prop := (w.cell? ⟨x4, 0, none⟩ = some (.int .i64 (q : Nat)) ∧ w.cell? ⟨x4, 1, none⟩ = some (.int .i64 (n : Nat)) ∧ w.cell? ⟨x4, 2, none⟩ = some va) ∧ (w.cell? ⟨y5, 0, none⟩ = some (.int .i64 F.p) ∧ w.cell? ⟨y5, 1, none⟩ = some (.int .i64 F.e) ∧ w.cell? ⟨y5, 2, none⟩ = some (FM F b cap)) ∧ Hid (Below v.heap.size v w ∧ x4 < v.heap.size ∧ y5 < v.heap.size)
theorem S11.go {q n : Nat} {va : Value} {x4 y5 : Nat} {F : Gf} {b cap : Nat} {v w w' : World} (h : S11 q n va x4 y5 F b cap v w) (hb : Below v.heap.size w w') : S11 q n va x4 y5 F b cap v w' := by
 obtain ⟨⟨h0, h1, h2⟩, ⟨g0, g1, g2⟩, h4⟩ := h
 have hB := h4.out.2.1
 have hC := h4.out.2.2
 exact ⟨⟨(hb.cell (p := ⟨x4, 0, none⟩) hB).trans h0, (hb.cell (p := ⟨x4, 1, none⟩) hB).trans h1, (hb.cell (p := ⟨x4, 2, none⟩) hB).trans h2⟩, ⟨(hb.cell (p := ⟨y5, 0, none⟩) hC).trans g0, (hb.cell (p := ⟨y5, 1, none⟩) hC).trans g1, (hb.cell (p := ⟨y5, 2, none⟩) hC).trans g2⟩, Lib.hid ⟨h4.out.1.trans hb, hB, hC⟩⟩
/-- a field, and the words of the code -/
def WH (F : Gf) (nw : Nat) (LW : List (List Nat)) (w4 : World) (y5 b cap : Nat) (aw : Option Addr) (cw : Nat) (v : World) : Prop :=
 Hid (BC y5 [.int .i64 F.p, .int .i64 F.e, FM F b cap] 53 v ∧ FldAt F b cap v ∧ MM LW v (.slice aw nw cw) ∧ Below w4.heap.size w4 v)
set_option maxHeartbeats 1600000 in
theorem syndromes_c {x y z l cl l0 k0 l1 k1 iu : Nat} {a0 a1 : Option Addr} {aa : Option Addr} {W : World} (hx : x ≤ 255) (hy : y ≤ 255) (hz : z ≤ 255) (hl : l ≤ maxLen) (na : N8 l W (.slice aa l cl)) (hl0 : l0 ≤ maxLen) (n0 : N8 l0 W (.slice a0 l0 k0)) (hl1 : l1 ≤ maxLen) (n1 : N8 l1 W (.slice a1 l1 k1)) (hiu : iu ≤ 255) :
  Calls Try.prog 7 #[.agg #[.int .u8 (x : Nat), .int .u8 (y : Nat), .int .u8 (z : Nat), .slice aa l cl], .agg #[.slice a0 l0 k0, .slice a1 l1 k1], .int .u8 (iu : Nat)] W fun e w' => e = .returned (.bool true) ∧ Below W.heap.size W w' := by
 obtain ⟨W1, hW1⟩ : ∃ w, w = ((W.alloc (.cells #[.int .u8 (x : Nat), .int .u8 (y : Nat), .int .u8 (z : Nat), .slice aa l cl] 27)).alloc (.cells #[.slice a0 l0 k0, .slice a1 l1 k1] 28)) := ⟨_, rfl⟩
 have HB1 : Hid (Below W.heap.size W W1) := Lib.hid (by rw [hW1]; exact ((Below.refl _ _).alloc (Nat.le_refl _) _).alloc (by simp) _)
 have HX : Hid (BC W.heap.size [.int .u8 (x : Nat), .int .u8 (y : Nat), .int .u8 (z : Nat), .slice aa l cl] 27 W1) := Lib.hid (by rw [hW1]; exact (BC.new W [.int .u8 (x : Nat), .int .u8 (y : Nat), .int .u8 (z : Nat), .slice aa l cl] 27 rfl).alloc _)
 have HZ0 : Hid (BC (W.heap.size + 1) [.slice a0 l0 k0, .slice a1 l1 k1] 28 W1) := Lib.hid (by rw [hW1]; exact BC.new (W.alloc (.cells #[.int .u8 (x : Nat), .int .u8 (y : Nat), .int .u8 (z : Nat), .slice aa l cl] 27)) [.slice a0 l0 k0, .slice a1 l1 k1] 28 (by simp))
 have HN0 := Lib.hid (And.intro hl0 (n0.below HB1.out))
 have HN1 := Lib.hid (And.intro hl1 (n1.below HB1.out))
 clear hl0 n0 hl1 n1
 have HEX : Hid (Calls Try.prog 10 #[] W1 fun e w' => e = .returned (.bool true) ∧ Below W1.heap.size W1 w') := Lib.hid ex_c
 have HNA := Lib.hid (na.below HB1.out)
 have HXL := Lib.hid (And.intro hx (And.intro hy (And.intro hz hl)))
 have HW1 := Lib.hid hW1
 clear hW1 na hx hy hz hl
 go_enter Try.func7, Try.ntmps7
 go_wp2_with fail
 rw [← HW1.out]
 with_reducible refine HEX.out.mono ?_
 rintro e w2 ⟨rfl, hb2⟩
 have HX2 := Lib.hid (HX.out.below hb2)
 have HB12 : Hid (Below W1.heap.size W1 w2) := Lib.hid hb2
 have HB2 : Hid (Below W.heap.size W w2) := Lib.hid (HB1.out.trans (hb2.mono HB1.out.size))
 have HMC : Hid (Calls Try.prog 17 #[.agg #[.int .u8 (x : Nat), .int .u8 (y : Nat), .int .u8 (z : Nat), .slice aa l cl]] w2 (MC w2)) := Lib.hid (made_c HXL.out.1 HXL.out.2.1 HXL.out.2.2.1 HXL.out.2.2.2 (HNA.out.below hb2))
 have c0 := HX2.out.cell (i := 0) rfl
 have c1 := HX2.out.cell (i := 1) rfl
 have c2 := HX2.out.cell (i := 2) rfl
 have c3 := HX2.out.cell (i := 3) rfl
 clear hb2 HEX
 go_wp2_with fail
 with_reducible refine HMC.out.mono ?_
 rintro e w3 ⟨F, n, m, G, L, a, ca, rfl, hvc, hn10, hqm, hmm, hb3⟩
 obtain ⟨w4, hw4⟩ : ∃ w, w = w3.alloc (.cells #[.int .i64 (F.q : Nat), .int .i64 (n : Nat), .slice a m ca] 32) := ⟨_, rfl⟩
 obtain ⟨x4, hx4⟩ : ∃ x, x = w3.heap.size := ⟨_, rfl⟩
 have HA4 : Hid (Below w3.heap.size w3 w4) := Lib.hid (by rw [hw4]; exact (Below.refl _ _).alloc (Nat.le_refl _) _)
 have HC4 : Hid (BC x4 [.int .i64 (F.q : Nat), .int .i64 (n : Nat), .slice a m ca] 32 w4) := Lib.hid (by rw [hw4, hx4]; exact BC.new w3 [.int .i64 (F.q : Nat), .int .i64 (n : Nat), .slice a m ca] 32 rfl)
 have HB24 : Hid (Below w2.heap.size w2 w4) := Lib.hid (hb3.trans (HA4.out.mono hb3.size))
 have HB4 : Hid (Below W.heap.size W w4) := Lib.hid (HB2.out.trans (HB24.out.mono HB2.out.size))
 have HB14 : Hid (Below W1.heap.size W1 w4) := Lib.hid (HB12.out.trans (HB24.out.mono HB12.out.size))
 have HVC := Lib.hid hvc
 have HM4 := Lib.hid (hmm.below HA4.out)
 have hnb := hvc.gc.n2
 have hnb1 := hvc.gc.n1
 have HQM := Lib.hid hqm
 have hm8 : m ≤ 8 := hvc.m8 hqm
 have HFF : Hid (Ok F) := Lib.hid hvc.ok
 have HGN := Lib.hid hvc.gc.mn
 have HGL := Lib.hid hvc.gc.len
 have hq2 := hvc.q2
 have hq16 := hvc.gc.q
 obtain ⟨q, hq⟩ : ∃ q, Hid (F.q = q) := ⟨_, Lib.hid rfl⟩
 rw [hq.out] at HC4 hw4 hq2 hq16 ⊢
 have HOV : Hid (∀ w', Calls Try.prog 38 #[.int .i64 (q : Nat)] w' fun e w'' => ∃ b cap, e = .returned (FV F b cap) ∧ FldAt F b cap w'' ∧ Below w'.heap.size w' w'' ∧ w'.heap.size ≤ b) := Lib.hid fun w' => by rw [← hq.out]; exact rover_c HVC.out.gc.mem
 obtain ⟨LW, hLW⟩ : ∃ l, Hid (wdK F n G m = l) := ⟨_, Lib.hid rfl⟩
 have HLW := hLW
 obtain ⟨nw, hnw⟩ : ∃ k, Hid (LW.length = k) := ⟨_, Lib.hid rfl⟩
 have HNW := hnw
 have HWN : Hid (Mn F n LW) := Lib.hid (by rw [← hLW.out]; exact wdK_mn HFF.out m)
 have hnw1 : 1 ≤ nw ∧ nw ≤ 256 := by
  have h := wdK_len F n G m
  rw [hLW.out, hnw.out] at h
  have h2 := HQM.out
  have h3 : 1 ≤ F.q ^ m := Nat.one_le_pow _ _ (by rw [hq.out]; omega)
  omega
 have HMEM : Hid (∀ k, k < nw → LW.getD k [] ∈ LW) := Lib.hid fun k hk => by
  have hk' : k < LW.length := by rw [hnw.out]; exact hk
  rw [List.getD_eq_getElem?_getD, List.getElem?_eq_getElem hk']; exact List.getElem_mem hk'
 obtain ⟨ld, hld⟩ : ∃ k, Hid ((kerM F n G).length = k) := ⟨_, Lib.hid rfl⟩
 have hdm : m + ld = n := by have h := hvc.dims; rw [hld.out] at h; exact h
 have hdw : IntKind.i64.wrap ((n : Int) - (m : Int)) = (ld : Int) := (Go.IntWalk.i64_in _ (by omega)).trans (by omega)
 have hdi : (n : Int) - (m : Int) = (ld : Int) := by omega
 have hnz : ¬ nw = 0 := by omega
 have hnzi : ¬ (nw : Int) = 0 := by omega
 have hnzb : ((nw : Int) == 0) = false := by simp; omega
 have hiw : IntKind.i64.wrap (iu : Int) = (iu : Int) := w64 (by omega)
 obtain ⟨ix, hixe⟩ : ∃ k, Hid (iu % nw = k) := ⟨_, Lib.hid rfl⟩
 have hix : ix < nw := by rw [← hixe.out]; exact Nat.mod_lt _ (by omega)
 have hixt : (iu : Int).tmod (nw : Int) = (ix : Int) := by rw [← hixe.out]; exact (Int.ofNat_tmod iu nw).symm
 have HWD : Hid (∀ w', Below w4.heap.size w4 w' → Calls Try.prog 33 #[DV q n (.slice a m ca)] w' fun e w'' => ∃ us a c, e = .returned (.slice a nw c) ∧ OL LW us w'.heap.size w'' (.slice a nw c) ∧ Below w'.heap.size w' w'') := Lib.hid fun w' hb => by
  have h := lwords_c HVC.out (HVC.out.few HQM.out) (Nat.le_trans HQM.out (by omega)) (HM4.out.below hb)
  rw [hLW.out, hnw.out, hq.out] at h; exact h
 have hS5 : S5 q n (.slice a m ca) x4 w4 w4.drew := ⟨⟨HC4.out.cell rfl, HC4.out.cell rfl, HC4.out.cell rfl⟩, Lib.hid ⟨(Below.refl _ _).drew, HC4.out.lt⟩⟩
 have HW4 := Lib.hid hw4
 have HX4 := Lib.hid hx4
 clear hw4 hx4 hvc hmm hb3 HMC c0 c1 c2 hqm hn10 hdm
 go_wp2_with fail
 rw [← HW4.out, ← HX4.out]
 refine share5 (H := WH F nw LW w4) (T := ?T) (fun hrest => ?ways) ?rest
 case ways =>
  refine wp_region_held_drew (S := fun w' => S5 q n (.slice a m ca) x4 w4 w') (by kernel_rfl) (by with_reducible exact hS5) (fun hHeld => ?_)
  refine Rg.tk 0 ⟨some 28,.fieldAddr 32 (.tmp 8) 0,0,"law.go:206",#[],none⟩ ?_
  try simp only [Rg.gp]
  refine Rg.tk 1 ⟨some 29,.load 3 (.tmp 28),3,"law.go:206",#[⟨0,.data⟩],none⟩ ?_
  try simp only [Rg.gp]
  refine Rg.tk 3 ⟨some 31,.load 32 (.tmp 8),32,"law.go:206",#[],none⟩ ?_
  try simp only [Rg.gp]
  refine wpAnyH_ready (rs := [2, 5]) (by kernel_rfl) (by simp) ?_
  refine (AllReadyH.cons (o := ⟨some 30,.call ⟨.value (.func 38),#[.tmp 29],#[3]⟩,53,"law.go:206",#[⟨1,.data⟩],none⟩) rfl (fun K hK => ?_) (AllReadyH.cons (o := ⟨some 9,.alloc 53,0,"law.go:206",#[],none⟩) rfl (fun K hK => ?_) AllReadyH.nil))
  ·go_simp
   go_at_call 38
   with_reducible refine (HOV.out _).mono ?_
   rintro e1 v1 ⟨b, cap, rfl, hfa, hb, hbl⟩
   refine hK.out _ _ ?_ (fun hHeld => ?_)
   ·(try dsimp only)
    exact S5.go hHeld (hb.mono hHeld.2.out.1.size)
   clear hK K
   try simp only [Rg.gp]
   have Hfa_1 := Lib.hid hfa
   have HBW1 : Hid (Below w4.heap.size w4 v1) := Lib.hid hHeld.2.out.1
   clear hb hbl hfa
   refine wpAnyH_ready (rs := [4, 5]) (by kernel_rfl) (by simp) ?_
   refine (AllReadyH.cons (o := ⟨some 32,.call ⟨.value (.func 33),#[.tmp 31],#[32]⟩,22,"law.go:206",#[⟨3,.data⟩,⟨2,.chain⟩],none⟩) rfl (fun K hK => ?_) (AllReadyH.cons (o := ⟨some 9,.alloc 53,0,"law.go:206",#[],none⟩) rfl (fun K hK => ?_) AllReadyH.nil))
   ·go_simp
    go_at_call 33
    with_reducible refine (HWD.out _ hHeld.2.out.1).mono ?_
    rintro e2 v2 ⟨us, aw, cw, rfl, hol, hb⟩
    refine hK.out _ _ ?_ (fun hHeld => ?_)
    ·(try dsimp only)
     exact S5.go hHeld (hb.mono hHeld.2.out.1.size)
    clear hK K
    try simp only [Rg.gp]
    have Hol_2 := Lib.hid hol
    have Hfa_2 := Lib.hid (Hfa_1.out.below hb)
    clear Hfa_1
    have HBW2 : Hid (Below w4.heap.size w4 v2) := Lib.hid hHeld.2.out.1
    clear hb hol
    refine Rg.rd1 5 ⟨some 9,.alloc 53,0,"law.go:206",#[],none⟩ fun K hK => ?_
    go_simp
    refine hK.out _ _ ?_ (fun hHeld => ?_)
    ·(try dsimp only)
     exact S5.go hHeld ((Below.refl v2.heap.size v2).alloc (Nat.le_refl _) _ |>.mono hHeld.2.out.1.size)
    clear hK K
    try simp only [Rg.gp]
    obtain ⟨v3, hv3⟩ : ∃ w, w = (World.alloc v2 (.cells #[.int .i64 0, .int .i64 0, .slice none 0 0] 53)) := ⟨_, rfl⟩
    obtain ⟨y5, hy5⟩ : ∃ x, x = (World.heap v2).size := ⟨_, rfl⟩
    rw [← hv3] at hHeld ⊢
    rw [← hy5]
    have hb : Below (World.heap v2).size v2 v3 := by rw [hv3]; exact ((Below.refl v2.heap.size v2).alloc (Nat.le_refl _) (.cells #[.int .i64 0, .int .i64 0, .slice none 0 0] 53))
    have Hx5_3 : Hid (BC y5 [.int .i64 0, .int .i64 0, .slice none 0 0] 53 v3) := Lib.hid (by rw [hv3, hy5]; exact BC.new v2 [.int .i64 0, .int .i64 0, .slice none 0 0] 53 rfl)
    have HL5 : Hid (w4.heap.size ≤ y5) := Lib.hid (by rw [hy5]; exact HBW2.out.size)
    have HN5 := Lib.hid (show ¬ b = y5 from fun e => by have h1 := FldAt.lt Hfa_2.out; omega)
    have Hfa_3 := Lib.hid (Hfa_2.out.below hb)
    clear Hfa_2
    have Hol_3 := Lib.hid (Hol_2.out.below hb)
    clear Hol_2
    have HBW3 : Hid (Below w4.heap.size w4 v3) := Lib.hid hHeld.2.out.1
    clear hv3 hy5 hb
    refine Rg.rd1 6 ⟨none,.store 53 (.tmp 9) (.tmp 30),0,"law.go:206",#[⟨5,.data⟩,⟨2,.data⟩,⟨4,.chain⟩,⟨0,.phase⟩,⟨1,.phase⟩,⟨2,.phase⟩,⟨3,.textOnly Go.Departure.lateStores⟩,⟨4,.textOnly Go.Departure.lateStoresUnsure⟩,⟨5,.phase⟩],none⟩ fun K hK => ?_
    have r0 := Hx5_3.out.cell (i := 0) rfl
    have g0 := Hx5_3.out.fz 0
    have r1 := Hx5_3.out.cell (i := 1) rfl
    have g1 := Hx5_3.out.fz 1
    have r2 := Hx5_3.out.cell (i := 2) rfl
    have g2 := Hx5_3.out.fz 2
    have hbx : Bx (fun k => k = y5) v3 (World.setCell (World.setCell (World.setCell v3 ⟨y5, 0, none⟩ (.int .i64 F.p)) ⟨y5, 1, none⟩ (.int .i64 F.e)) ⟨y5, 2, none⟩ (FM F b cap)) := bx3 _ _ _
    have hbl : Below w4.heap.size v3 (World.setCell (World.setCell (World.setCell v3 ⟨y5, 0, none⟩ (.int .i64 F.p)) ⟨y5, 1, none⟩ (.int .i64 F.e)) ⟨y5, 2, none⟩ (FM F b cap)) := hbx.below HBW3.out.size (fun k hk => by have h1 := HL5.out; omega)
    go_simp
    refine hK.out _ _ ?_ (fun hHeld => ?_)
    ·(try dsimp only)
     exact S5.go hHeld hbl
    clear hK K
    try simp only [Rg.gp]
    obtain ⟨v4, hv4⟩ : ∃ w, w = (World.setCell (World.setCell (World.setCell v3 ⟨y5, 0, none⟩ (.int .i64 F.p)) ⟨y5, 1, none⟩ (.int .i64 F.e)) ⟨y5, 2, none⟩ (FM F b cap)) := ⟨_, rfl⟩
    rw [← hv4] at hHeld hbx ⊢
    have Hx5_4 : Hid (BC y5 [.int .i64 F.p, .int .i64 F.e, FM F b cap] 53 v4) := Lib.hid (by rw [hv4]; exact Hx5_3.out.set3 _ _ _)
    have Hol_4 := Lib.hid (OL.bc Hol_3.out Hx5_3.out (by decide) (by decide) hbx)
    have Hfa_4 := Lib.hid (Hfa_3.out.bx hbx HN5.out)
    have HBW4 : Hid (Below w4.heap.size w4 v4) := Lib.hid hHeld.2.out.1
    clear hv4 hbx hbl r0 r1 r2 g0 g1 g2 Hx5_3 Hol_3 Hfa_3
    refine Rg.tk 7 ⟨some 10,.assign (.tmp 32),22,"law.go:206",#[⟨4,.data⟩,⟨6,.chain⟩,⟨0,.phase⟩,⟨1,.phase⟩,⟨2,.phase⟩,⟨3,.phase⟩,⟨4,.phase⟩,⟨5,.phase⟩,⟨6,.phase⟩],none⟩ ?_
    try simp only [Rg.gp]
    refine wpAnyH_done (by kernel_rfl) ?_ _
    exact hrest y5 b cap aw cw v4 (Lib.hid ⟨Hx5_4.out, Hfa_4.out, Hol_4.out.mm, HBW4.out⟩)
   ·go_simp
    refine hK.out _ _ ?_ (fun hHeld => ?_)
    ·(try dsimp only)
     exact S5.go hHeld ((Below.refl v1.heap.size v1).alloc (Nat.le_refl _) _ |>.mono hHeld.2.out.1.size)
    clear hK K
    try simp only [Rg.gp]
    obtain ⟨v2, hv2⟩ : ∃ w, w = (World.alloc v1 (.cells #[.int .i64 0, .int .i64 0, .slice none 0 0] 53)) := ⟨_, rfl⟩
    obtain ⟨y5, hy5⟩ : ∃ x, x = (World.heap v1).size := ⟨_, rfl⟩
    rw [← hv2] at hHeld ⊢
    rw [← hy5]
    have hb : Below (World.heap v1).size v1 v2 := by rw [hv2]; exact ((Below.refl v1.heap.size v1).alloc (Nat.le_refl _) (.cells #[.int .i64 0, .int .i64 0, .slice none 0 0] 53))
    have Hx5_2 : Hid (BC y5 [.int .i64 0, .int .i64 0, .slice none 0 0] 53 v2) := Lib.hid (by rw [hv2, hy5]; exact BC.new v1 [.int .i64 0, .int .i64 0, .slice none 0 0] 53 rfl)
    have HL5 : Hid (w4.heap.size ≤ y5) := Lib.hid (by rw [hy5]; exact HBW1.out.size)
    have HN5 := Lib.hid (show ¬ b = y5 from fun e => by have h1 := FldAt.lt Hfa_1.out; omega)
    have Hfa_2 := Lib.hid (Hfa_1.out.below hb)
    clear Hfa_1
    have HBW2 : Hid (Below w4.heap.size w4 v2) := Lib.hid hHeld.2.out.1
    clear hv2 hy5 hb
    refine Rg.rd1 4 ⟨some 32,.call ⟨.value (.func 33),#[.tmp 31],#[32]⟩,22,"law.go:206",#[⟨3,.data⟩,⟨2,.chain⟩],none⟩ fun K hK => ?_
    go_simp
    go_at_call 33
    with_reducible refine (HWD.out _ hHeld.2.out.1).mono ?_
    rintro e3 v3 ⟨us, aw, cw, rfl, hol, hb⟩
    refine hK.out _ _ ?_ (fun hHeld => ?_)
    ·(try dsimp only)
     exact S5.go hHeld (hb.mono hHeld.2.out.1.size)
    clear hK K
    try simp only [Rg.gp]
    have Hol_3 := Lib.hid hol
    have Hfa_3 := Lib.hid (Hfa_2.out.below hb)
    clear Hfa_2
    have Hx5_3 := Lib.hid (Hx5_2.out.below hb)
    clear Hx5_2
    have HBW3 : Hid (Below w4.heap.size w4 v3) := Lib.hid hHeld.2.out.1
    clear hb hol
    refine Rg.rd1 6 ⟨none,.store 53 (.tmp 9) (.tmp 30),0,"law.go:206",#[⟨5,.data⟩,⟨2,.data⟩,⟨4,.chain⟩,⟨0,.phase⟩,⟨1,.phase⟩,⟨2,.phase⟩,⟨3,.textOnly Go.Departure.lateStores⟩,⟨4,.textOnly Go.Departure.lateStoresUnsure⟩,⟨5,.phase⟩],none⟩ fun K hK => ?_
    have r0 := Hx5_3.out.cell (i := 0) rfl
    have g0 := Hx5_3.out.fz 0
    have r1 := Hx5_3.out.cell (i := 1) rfl
    have g1 := Hx5_3.out.fz 1
    have r2 := Hx5_3.out.cell (i := 2) rfl
    have g2 := Hx5_3.out.fz 2
    have hbx : Bx (fun k => k = y5) v3 (World.setCell (World.setCell (World.setCell v3 ⟨y5, 0, none⟩ (.int .i64 F.p)) ⟨y5, 1, none⟩ (.int .i64 F.e)) ⟨y5, 2, none⟩ (FM F b cap)) := bx3 _ _ _
    have hbl : Below w4.heap.size v3 (World.setCell (World.setCell (World.setCell v3 ⟨y5, 0, none⟩ (.int .i64 F.p)) ⟨y5, 1, none⟩ (.int .i64 F.e)) ⟨y5, 2, none⟩ (FM F b cap)) := hbx.below HBW3.out.size (fun k hk => by have h1 := HL5.out; omega)
    go_simp
    refine hK.out _ _ ?_ (fun hHeld => ?_)
    ·(try dsimp only)
     exact S5.go hHeld hbl
    clear hK K
    try simp only [Rg.gp]
    obtain ⟨v4, hv4⟩ : ∃ w, w = (World.setCell (World.setCell (World.setCell v3 ⟨y5, 0, none⟩ (.int .i64 F.p)) ⟨y5, 1, none⟩ (.int .i64 F.e)) ⟨y5, 2, none⟩ (FM F b cap)) := ⟨_, rfl⟩
    rw [← hv4] at hHeld hbx ⊢
    have Hx5_4 : Hid (BC y5 [.int .i64 F.p, .int .i64 F.e, FM F b cap] 53 v4) := Lib.hid (by rw [hv4]; exact Hx5_3.out.set3 _ _ _)
    have Hol_4 := Lib.hid (OL.bc Hol_3.out Hx5_3.out (by decide) (by decide) hbx)
    have Hfa_4 := Lib.hid (Hfa_3.out.bx hbx HN5.out)
    have HBW4 : Hid (Below w4.heap.size w4 v4) := Lib.hid hHeld.2.out.1
    clear hv4 hbx hbl r0 r1 r2 g0 g1 g2 Hx5_3 Hol_3 Hfa_3
    refine Rg.tk 7 ⟨some 10,.assign (.tmp 32),22,"law.go:206",#[⟨4,.data⟩,⟨6,.chain⟩,⟨0,.phase⟩,⟨1,.phase⟩,⟨2,.phase⟩,⟨3,.phase⟩,⟨4,.phase⟩,⟨5,.phase⟩,⟨6,.phase⟩],none⟩ ?_
    try simp only [Rg.gp]
    refine wpAnyH_done (by kernel_rfl) ?_ _
    exact hrest y5 b cap aw cw v4 (Lib.hid ⟨Hx5_4.out, Hfa_4.out, Hol_4.out.mm, HBW4.out⟩)
  ·go_simp
   refine hK.out _ _ ?_ (fun hHeld => ?_)
   ·(try dsimp only)
    exact S5.go0 hHeld ((Below.refl w4.heap.size w4).alloc (Nat.le_refl _) (.cells #[.int .i64 0, .int .i64 0, .slice none 0 0] 53)).drew
   clear hK K
   try simp only [Rg.gp]
   obtain ⟨v1, hv1⟩ : ∃ w, w = (World.alloc w4 (.cells #[.int .i64 0, .int .i64 0, .slice none 0 0] 53)).drew := ⟨_, rfl⟩
   obtain ⟨y5, hy5⟩ : ∃ x, x = (World.heap w4).size := ⟨_, rfl⟩
   rw [← hv1] at hHeld ⊢
   rw [← hy5]
   have hb : Below (World.heap w4).size w4 v1 := by rw [hv1]; exact ((Below.refl w4.heap.size w4).alloc (Nat.le_refl _) (.cells #[.int .i64 0, .int .i64 0, .slice none 0 0] 53)).drew
   have Hx5_1 : Hid (BC y5 [.int .i64 0, .int .i64 0, .slice none 0 0] 53 v1) := Lib.hid (by rw [hv1, hy5]; exact BC.new w4 [.int .i64 0, .int .i64 0, .slice none 0 0] 53 rfl)
   have HL5 : Hid (w4.heap.size ≤ y5) := Lib.hid (by rw [hy5]; exact Nat.le_refl _)
   have HBW1 : Hid (Below w4.heap.size w4 v1) := Lib.hid hHeld.2.out.1
   clear hv1 hy5 hb
   refine Rg.rd1 2 ⟨some 30,.call ⟨.value (.func 38),#[.tmp 29],#[3]⟩,53,"law.go:206",#[⟨1,.data⟩],none⟩ fun K hK => ?_
   go_simp
   go_at_call 38
   with_reducible refine (HOV.out _).mono ?_
   rintro e2 v2 ⟨b, cap, rfl, hfa, hb, hbl⟩
   refine hK.out _ _ ?_ (fun hHeld => ?_)
   ·(try dsimp only)
    exact S5.go hHeld (hb.mono hHeld.2.out.1.size)
   clear hK K
   try simp only [Rg.gp]
   have Hfa_2 := Lib.hid hfa
   have HN5 := Lib.hid (show ¬ b = y5 from fun e => by have h1 := Hx5_1.out.lt; omega)
   have Hx5_2 := Lib.hid (Hx5_1.out.below hb)
   clear Hx5_1
   have HBW2 : Hid (Below w4.heap.size w4 v2) := Lib.hid hHeld.2.out.1
   clear hb hbl hfa
   refine Rg.rd1 4 ⟨some 32,.call ⟨.value (.func 33),#[.tmp 31],#[32]⟩,22,"law.go:206",#[⟨3,.data⟩,⟨2,.chain⟩],none⟩ fun K hK => ?_
   go_simp
   go_at_call 33
   with_reducible refine (HWD.out _ hHeld.2.out.1).mono ?_
   rintro e3 v3 ⟨us, aw, cw, rfl, hol, hb⟩
   refine hK.out _ _ ?_ (fun hHeld => ?_)
   ·(try dsimp only)
    exact S5.go hHeld (hb.mono hHeld.2.out.1.size)
   clear hK K
   try simp only [Rg.gp]
   have Hol_3 := Lib.hid hol
   have Hfa_3 := Lib.hid (Hfa_2.out.below hb)
   clear Hfa_2
   have Hx5_3 := Lib.hid (Hx5_2.out.below hb)
   clear Hx5_2
   have HBW3 : Hid (Below w4.heap.size w4 v3) := Lib.hid hHeld.2.out.1
   clear hb hol
   refine Rg.rd1 6 ⟨none,.store 53 (.tmp 9) (.tmp 30),0,"law.go:206",#[⟨5,.data⟩,⟨2,.data⟩,⟨4,.chain⟩,⟨0,.phase⟩,⟨1,.phase⟩,⟨2,.phase⟩,⟨3,.textOnly Go.Departure.lateStores⟩,⟨4,.textOnly Go.Departure.lateStoresUnsure⟩,⟨5,.phase⟩],none⟩ fun K hK => ?_
   have r0 := Hx5_3.out.cell (i := 0) rfl
   have g0 := Hx5_3.out.fz 0
   have r1 := Hx5_3.out.cell (i := 1) rfl
   have g1 := Hx5_3.out.fz 1
   have r2 := Hx5_3.out.cell (i := 2) rfl
   have g2 := Hx5_3.out.fz 2
   have hbx : Bx (fun k => k = y5) v3 (World.setCell (World.setCell (World.setCell v3 ⟨y5, 0, none⟩ (.int .i64 F.p)) ⟨y5, 1, none⟩ (.int .i64 F.e)) ⟨y5, 2, none⟩ (FM F b cap)) := bx3 _ _ _
   have hbl : Below w4.heap.size v3 (World.setCell (World.setCell (World.setCell v3 ⟨y5, 0, none⟩ (.int .i64 F.p)) ⟨y5, 1, none⟩ (.int .i64 F.e)) ⟨y5, 2, none⟩ (FM F b cap)) := hbx.below HBW3.out.size (fun k hk => by have h1 := HL5.out; omega)
   go_simp
   refine hK.out _ _ ?_ (fun hHeld => ?_)
   ·(try dsimp only)
    exact S5.go hHeld hbl
   clear hK K
   try simp only [Rg.gp]
   obtain ⟨v4, hv4⟩ : ∃ w, w = (World.setCell (World.setCell (World.setCell v3 ⟨y5, 0, none⟩ (.int .i64 F.p)) ⟨y5, 1, none⟩ (.int .i64 F.e)) ⟨y5, 2, none⟩ (FM F b cap)) := ⟨_, rfl⟩
   rw [← hv4] at hHeld hbx ⊢
   have Hx5_4 : Hid (BC y5 [.int .i64 F.p, .int .i64 F.e, FM F b cap] 53 v4) := Lib.hid (by rw [hv4]; exact Hx5_3.out.set3 _ _ _)
   have Hol_4 := Lib.hid (OL.bc Hol_3.out Hx5_3.out (by decide) (by decide) hbx)
   have Hfa_4 := Lib.hid (Hfa_3.out.bx hbx HN5.out)
   have HBW4 : Hid (Below w4.heap.size w4 v4) := Lib.hid hHeld.2.out.1
   clear hv4 hbx hbl r0 r1 r2 g0 g1 g2 Hx5_3 Hol_3 Hfa_3
   refine Rg.tk 7 ⟨some 10,.assign (.tmp 32),22,"law.go:206",#[⟨4,.data⟩,⟨6,.chain⟩,⟨0,.phase⟩,⟨1,.phase⟩,⟨2,.phase⟩,⟨3,.phase⟩,⟨4,.phase⟩,⟨5,.phase⟩,⟨6,.phase⟩],none⟩ ?_
   try simp only [Rg.gp]
   refine wpAnyH_done (by kernel_rfl) ?_ _
   exact hrest y5 b cap aw cw v4 (Lib.hid ⟨Hx5_4.out, Hfa_4.out, Hol_4.out.mm, HBW4.out⟩)
 case rest =>
  rintro y5 b cap aw cw v hv
  obtain ⟨hy5, hfa, hmw, hbv⟩ := hv.out
  obtain ⟨bw, ow, haw, -⟩ := hmw.at' (fun t ht => (mrow HWN.out ht).len) (show 0 < nw by omega)
  subst haw
  have HY5 := Lib.hid hy5
  have HFV := Lib.hid hfa
  have HMW := Lib.hid hmw
  have HMG := Lib.hid (HM4.out.below hbv)
  have HC4v := Lib.hid (HC4.out.below hbv)
  have HB1v : Hid (Below W1.heap.size W1 v) := Lib.hid (HB14.out.trans (hbv.mono HB14.out.size))
  have HZv := Lib.hid (HZ0.out.below HB1v.out)
  have HN0v := Lib.hid (HN0.out.2.below HB1v.out)
  have HN1v := Lib.hid (HN1.out.2.below HB1v.out)
  have HBV : Hid (Below W.heap.size W v) := Lib.hid (HB4.out.trans (hbv.mono HB4.out.size))
  have HSY : Hid (∀ w' V a' c', Below v.heap.size v w' → Vn F n V → NN V w' (.slice a' n c') → Calls Try.prog 43 #[DV q n (.slice a m ca), .slice a' n c'] w' fun e w'' => ∃ a c, e = .returned (.tuple #[.slice a ld c, .bool true]) ∧ NN (syV F n G V) w'' (.slice a ld c) ∧ Below w'.heap.size w' w'') := Lib.hid fun w' V a' c' hb hv hn => by
   have h := lsyn_c HVC.out (HMG.out.below hb) hv hn hld.out
   rw [hq.out] at h; exact h
  have HPL : Hid (∀ w' k V X a' c' a'' c'', Below v.heap.size v w' → k ≤ 1000 → Vn F k V → Vn F k X → NN V w' (.slice a' k c') → NN X w' (.slice a'' k c'') → Calls Try.prog 41 #[FV F b cap, .slice a' k c', .slice a'' k c''] w' fun e w'' => ∃ a c, e = .returned (.slice a k c) ∧ NN (plV F V X) w'' (.slice a k c) ∧ Below w'.heap.size w' w'') := Lib.hid fun w' k V X a' c' a'' c'' hb hk hv hx h1 h2 => by
   refine (rplus_c (HFV.out.below hb) hk hv hx h1 h2).mono fun e w'' ⟨a, c, h3, h4, h5⟩ => ⟨a, c, h3, ?_, h5⟩
   exact NN.of_owns (L := plV F V X) (by rw [plV_len, hv.len]; exact h4)
  have HIN : Hid (∀ w' (X : List Nat) a' c' a'' c'', X.length = ld → NN X w' (.slice a' ld c') → NN X w' (.slice a'' ld c'') → Calls Try.prog 25 #[.slice a' ld c', .slice a'' ld c''] w' fun e w'' => e = .returned (.bool true) ∧ Below w'.heap.size w' w'') := Lib.hid fun w' X a' c' a'' c'' hl h1 h2 => by
   subst hl
   exact rints_c (by omega) h1 h2
  have HG0 : Hid (∀ w', Below v.heap.size v w' → Calls Try.prog 18 #[.int .i64 (q : Nat), .int .i64 (n : Nat), .slice a0 l0 k0] w' (GvP F n w')) := Lib.hid fun w' hb => by
   have h := given_c (n := n) HFF.out (by rw [hq.out]; omega) (by omega) HN0.out.1 (HN0v.out.below hb)
   rw [hq.out] at h; exact h
  have HG1 : Hid (∀ w', Below v.heap.size v w' → Calls Try.prog 18 #[.int .i64 (q : Nat), .int .i64 (n : Nat), .slice a1 l1 k1] w' (GvP F n w')) := Lib.hid fun w' hb => by
   have h := given_c (n := n) HFF.out (by rw [hq.out]; omega) (by omega) HN1.out.1 (HN1v.out.below hb)
   rw [hq.out] at h; exact h
  have hS8 : S8 q n (.slice a m ca) x4 (W.heap.size + 1) (.slice a0 l0 k0) (.slice a1 l1 k1) v v.drew := ⟨⟨HC4v.out.cell rfl, HC4v.out.cell rfl, HC4v.out.cell rfl⟩, ⟨HZv.out.cell rfl, HZv.out.cell rfl⟩, Lib.hid ⟨(Below.refl _ _).drew, HC4v.out.lt, HZv.out.lt⟩⟩
  clear hy5 hfa hmw hbv hv
  go_wp2_with fail
  refine wp_region_held_drew (S := fun w' => S8 q n (.slice a m ca) x4 (W.heap.size + 1) (.slice a0 l0 k0) (.slice a1 l1 k1) v w') (by kernel_rfl) (by with_reducible exact hS8) (fun hHeld => ?_)
  refine Rg.tk 0 ⟨some 36,.fieldAddr 32 (.tmp 8) 0,0,"law.go:210",#[],none⟩ ?_
  try simp only [Rg.gp]
  refine Rg.tk 1 ⟨some 37,.load 3 (.tmp 36),3,"law.go:210",#[⟨0,.data⟩],none⟩ ?_
  try simp only [Rg.gp]
  refine Rg.tk 2 ⟨some 38,.fieldAddr 32 (.tmp 8) 1,0,"law.go:210",#[],none⟩ ?_
  try simp only [Rg.gp]
  refine Rg.tk 3 ⟨some 39,.load 3 (.tmp 38),3,"law.go:210",#[⟨2,.data⟩],none⟩ ?_
  try simp only [Rg.gp]
  refine Rg.tk 4 ⟨some 40,.indexAddr 28 (.tmp 4) (.const (Value.int IntKind.i64 0)),0,"law.go:210",#[],none⟩ ?_
  try simp only [Rg.gp]
  refine Rg.tk 5 ⟨some 41,.load 25 (.tmp 40),25,"law.go:210",#[⟨4,.data⟩],none⟩ ?_
  try simp only [Rg.gp]
  refine Rg.tk 7 ⟨some 43,.fieldAddr 32 (.tmp 8) 0,0,"law.go:210",#[],none⟩ ?_
  try simp only [Rg.gp]
  refine Rg.tk 8 ⟨some 44,.load 3 (.tmp 43),3,"law.go:210",#[⟨7,.data⟩],none⟩ ?_
  try simp only [Rg.gp]
  refine Rg.tk 9 ⟨some 45,.fieldAddr 32 (.tmp 8) 1,0,"law.go:210",#[],none⟩ ?_
  try simp only [Rg.gp]
  refine Rg.tk 10 ⟨some 46,.load 3 (.tmp 45),3,"law.go:210",#[⟨9,.data⟩],none⟩ ?_
  try simp only [Rg.gp]
  refine Rg.tk 11 ⟨some 47,.indexAddr 28 (.tmp 4) (.const (Value.int IntKind.i64 1)),0,"law.go:210",#[],none⟩ ?_
  try simp only [Rg.gp]
  refine Rg.tk 12 ⟨some 48,.load 25 (.tmp 47),25,"law.go:210",#[⟨11,.data⟩],none⟩ ?_
  try simp only [Rg.gp]
  refine Rg.rd1 6 ⟨some 42,.call ⟨.value (.func 18),#[.tmp 37,.tmp 39,.tmp 41],#[3,3,25]⟩,39,"law.go:210",#[⟨1,.data⟩,⟨3,.data⟩,⟨5,.data⟩],none⟩ fun K hK => ?_
  go_simp
  go_at_call 18
  with_reducible refine (HG0.out _ hHeld.2.2.out.1).mono ?_
  rintro e1 u1 ⟨g1, V1, hg1, rfl, hv1, hr1, hb1⟩
  refine hK.out _ _ ?_ (fun hHeld => ?_)
  ·(try dsimp only)
   exact S8.go hHeld (hb1.mono hHeld.2.2.out.1.size)
  clear hK K
  try simp only [Rg.gp]
  refine Rg.rd1 13 ⟨some 49,.call ⟨.value (.func 18),#[.tmp 44,.tmp 46,.tmp 48],#[3,3,25]⟩,39,"law.go:210",#[⟨8,.data⟩,⟨10,.data⟩,⟨12,.data⟩,⟨6,.chain⟩],none⟩ fun K hK => ?_
  go_simp
  go_at_call 18
  with_reducible refine (HG1.out _ hHeld.2.2.out.1).mono ?_
  rintro e2 u2 ⟨g2, V2, hg2, rfl, hv2, hr2, hb2⟩
  refine hK.out _ _ ?_ (fun hHeld => ?_)
  ·(try dsimp only)
   exact S8.go hHeld (hb2.mono hHeld.2.2.out.1.size)
  clear hK K
  try simp only [Rg.gp]
  refine Rg.tk 14 ⟨some 11,.assign (.tmp 42),39,"law.go:210",#[⟨6,.data⟩,⟨13,.chain⟩,⟨0,.phase⟩,⟨1,.phase⟩,⟨2,.phase⟩,⟨3,.phase⟩,⟨4,.phase⟩,⟨5,.phase⟩,⟨6,.phase⟩,⟨7,.textOnly Go.Departure.lateStores⟩,⟨8,.textOnly Go.Departure.lateStores⟩,⟨9,.textOnly Go.Departure.lateStores⟩,⟨10,.textOnly Go.Departure.lateStores⟩,⟨11,.textOnly Go.Departure.lateStores⟩,⟨12,.textOnly Go.Departure.lateStores⟩,⟨13,.textOnly Go.Departure.lateStoresUnsure⟩],none⟩ ?_
  try simp only [Rg.gp]
  refine Rg.tk 15 ⟨some 12,.assign (.tmp 49),39,"law.go:210",#[⟨13,.data⟩,⟨14,.chain⟩,⟨0,.phase⟩,⟨1,.phase⟩,⟨2,.phase⟩,⟨3,.phase⟩,⟨4,.phase⟩,⟨5,.phase⟩,⟨6,.phase⟩,⟨7,.phase⟩,⟨8,.phase⟩,⟨9,.phase⟩,⟨10,.phase⟩,⟨11,.phase⟩,⟨12,.phase⟩,⟨13,.phase⟩,⟨14,.phase⟩],none⟩ ?_
  try simp only [Rg.gp]
  refine wpAnyH_done (by kernel_rfl) ?_ _
  have HV1 := Lib.hid hv1
  have HV2 := Lib.hid hv2
  have HR2 := Lib.hid hr2
  have HR1 : Hid (Row V1 g1 u2) := Lib.hid (hr1.below hb2)
  have HB8 : Hid (Below v.heap.size v u2) := Lib.hid hHeld.2.2.out.1
  clear hHeld hS8 hg1 hg2 hv1 hv2 hr1 hr2 hb1 hb2
  have HNV1 : Hid (∀ w', Below u2.heap.size u2 w' → NN V1 w' (.slice (some ⟨g1, 0, none⟩) n n)) := Lib.hid fun w' hb => by
   have h := (HR1.out.below hb).nn
   rw [HV1.out.len] at h; exact h
  have HNV2 : Hid (∀ w', Below u2.heap.size u2 w' → NN V2 w' (.slice (some ⟨g2, 0, none⟩) n n)) := Lib.hid fun w' hb => by
   have h := (HR2.out.below hb).nn
   rw [HV2.out.len] at h; exact h
  have HSV1 : Hid (Vn F ld (syV F n G V1)) := Lib.hid (by rw [← hld.out]; exact HVC.out.sy_vn HV1.out)
  have HSV2 : Hid (Vn F ld (syV F n G V2)) := Lib.hid (by rw [← hld.out]; exact HVC.out.sy_vn HV2.out)
  have HSL1 : Hid ((syV F n G V1).length = ld) := Lib.hid HSV1.out.len
  have HSL : Hid ((plV F (syV F n G V1) (syV F n G V2)).length = ld) := Lib.hid (by rw [plV_len]; exact HSL1.out)
  have HLIN : Hid (syV F n G (plV F V1 V2) = plV F (syV F n G V1) (syV F n G V2)) := Lib.hid (HVC.out.sy_plus HV1.out HV2.out)
  obtain ⟨wS, hwS⟩ : ∃ k, Hid (wtV (syV F n G V1) = k) := ⟨_, Lib.hid rfl⟩
  have HWS := hwS
  have HSY0 : Hid (wtV (rsV F n G V1) = 0 ↔ wS = 0) := Lib.hid (by rw [← hwS.out]; exact HVC.out.sy0 HV1.out)
  have HSA : Hid (Calls Try.prog 43 #[DV q n (.slice a m ca), .slice (some ⟨g1, 0, none⟩) n n] u2 fun e w'' => ∃ a c, e = .returned (.tuple #[.slice a ld c, .bool true]) ∧ NN (syV F n G V1) w'' (.slice a ld c) ∧ Below u2.heap.size u2 w'') := Lib.hid (HSY.out u2 V1 _ _ HB8.out HV1.out (HNV1.out _ (Below.refl _ _)))
  have hbc := HC4v.out.below HB8.out
  have c0 := hbc.cell (i := 0) rfl
  have c1 := hbc.cell (i := 1) rfl
  have c2 := hbc.cell (i := 2) rfl
  clear hbc
  go_wp2_with fail
  with_reducible refine HSA.out.mono ?_
  rintro e3 u3 ⟨s3, p3, rfl, hn3, hb3⟩
  have HS3 := Lib.hid hn3
  have HB23 := Lib.hid hb3
  have HV3 : Hid (Below v.heap.size v u3) := Lib.hid (HB8.out.trans (hb3.mono HB8.out.size))
  have HSB : Hid (Calls Try.prog 43 #[DV q n (.slice a m ca), .slice (some ⟨g2, 0, none⟩) n n] u3 fun e w'' => ∃ a c, e = .returned (.tuple #[.slice a ld c, .bool true]) ∧ NN (syV F n G V2) w'' (.slice a ld c) ∧ Below u3.heap.size u3 w'') := Lib.hid (HSY.out u3 V2 _ _ HV3.out HV2.out (HNV2.out _ hb3))
  clear hn3 hb3 HSA c0 c1 c2
  have hbc := HC4v.out.below HV3.out
  have c0 := hbc.cell (i := 0) rfl
  have c1 := hbc.cell (i := 1) rfl
  have c2 := hbc.cell (i := 2) rfl
  clear hbc
  go_wp2_with fail
  with_reducible refine HSB.out.mono ?_
  rintro e4 u4 ⟨t4, p4, rfl, hn4, hb4⟩
  have HT4 := Lib.hid hn4
  have HB34 := Lib.hid hb4
  have HB24x : Hid (Below u2.heap.size u2 u4) := Lib.hid (HB23.out.trans (hb4.mono HB23.out.size))
  have HV4 : Hid (Below v.heap.size v u4) := Lib.hid (HV3.out.trans (hb4.mono HV3.out.size))
  clear hn4 hb4 HSB c0 c1 c2
  have HP11 : Hid (∀ w', Below u4.heap.size u4 w' → Calls Try.prog 41 #[FV F b cap, .slice (some ⟨g1, 0, none⟩) n n, .slice (some ⟨g2, 0, none⟩) n n] w' fun e w'' => ∃ a c, e = .returned (.slice a n c) ∧ NN (plV F V1 V2) w'' (.slice a n c) ∧ Below w'.heap.size w' w'') := Lib.hid fun w' hb => HPL.out w' n _ _ _ _ _ _ (HV4.out.trans (hb.mono HV4.out.size)) (by omega) HV1.out HV2.out (HNV1.out w' (HB24x.out.trans (hb.mono HB24x.out.size))) (HNV2.out w' (HB24x.out.trans (hb.mono HB24x.out.size)))
  have HQ11 : Hid (∀ w' a' c', Below u4.heap.size u4 w' → NN (plV F V1 V2) w' (.slice a' n c') → Calls Try.prog 43 #[DV q n (.slice a m ca), .slice a' n c'] w' fun e w'' => ∃ a c, e = .returned (.tuple #[.slice a ld c, .bool true]) ∧ NN (syV F n G (plV F V1 V2)) w'' (.slice a ld c) ∧ Below w'.heap.size w' w'') := Lib.hid fun w' a c hb h => HSY.out w' _ a c (HV4.out.trans (hb.mono HV4.out.size)) (plV_vn HFF.out HV1.out) h
  have hbc := (HC4v.out.below HV4.out).drew
  have hbf := (HY5.out.below HV4.out).drew
  have hS11 : S11 q n (.slice a m ca) x4 y5 F b cap u4 u4.drew := ⟨⟨hbc.cell rfl, hbc.cell rfl, hbc.cell rfl⟩, ⟨hbf.cell rfl, hbf.cell rfl, hbf.cell rfl⟩, Lib.hid ⟨(Below.refl _ _).drew, (HC4v.out.below HV4.out).lt, (HY5.out.below HV4.out).lt⟩⟩
  clear hbc hbf
  go_wp2_with fail
  refine wp_region_held_drew (S := fun w' => S11 q n (.slice a m ca) x4 y5 F b cap u4 w') (by kernel_rfl) (by with_reducible exact hS11) (fun hHeld => ?_)
  refine Rg.tk 0 ⟨some 63,.load 32 (.tmp 8),32,"law.go:213",#[],none⟩ ?_
  try simp only [Rg.gp]
  refine Rg.tk 1 ⟨some 64,.load 53 (.tmp 9),53,"law.go:213",#[],none⟩ ?_
  try simp only [Rg.gp]
  refine Rg.tk 2 ⟨some 65,.move (.tmp 11),39,"law.go:213",#[],none⟩ ?_
  try simp only [Rg.gp]
  refine Rg.tk 3 ⟨some 66,.move (.tmp 12),39,"law.go:213",#[],none⟩ ?_
  try simp only [Rg.gp]
  refine Rg.rd1 4 ⟨some 67,.call ⟨.value (.func 41),#[.tmp 64,.tmp 65,.tmp 66],#[53,39,39]⟩,39,"law.go:213",#[⟨1,.data⟩,⟨2,.data⟩,⟨3,.data⟩],none⟩ fun K hK => ?_
  go_simp
  go_at_call 41
  with_reducible refine (HP11.out _ hHeld.2.2.out.1).mono ?_
  rintro e5 u5 ⟨a5, p5, rfl, hn5, hb5⟩
  have HN5x := Lib.hid hn5
  refine hK.out _ _ ?_ (fun hHeld => ?_)
  ·(try dsimp only)
   exact S11.go hHeld (hb5.mono hHeld.2.2.out.1.size)
  clear hK K
  try simp only [Rg.gp]
  refine Rg.rd1 5 ⟨some 68,.call ⟨.value (.func 43),#[.tmp 63,.tmp 67],#[32,39]⟩,62,"law.go:213",#[⟨0,.data⟩,⟨4,.data⟩,⟨4,.chain⟩],none⟩ fun K hK => ?_
  go_simp
  go_at_call 43
  with_reducible refine (HQ11.out _ _ _ hHeld.2.2.out.1 HN5x.out).mono ?_
  rintro e6 u6 ⟨a6, p6, rfl, hn6, hb6⟩
  have HU6 := Lib.hid hn6
  refine hK.out _ _ ?_ (fun hHeld => ?_)
  ·(try dsimp only)
   exact S11.go hHeld (hb6.mono hHeld.2.2.out.1.size)
  clear hK K
  try simp only [Rg.gp]
  refine Rg.tk 6 ⟨some 62,.move (.tmp 68),62,"law.go:213",#[⟨5,.data⟩],none⟩ ?_
  try simp only [Rg.gp]
  refine Rg.tk 7 ⟨some 69,.extract (.tmp 62) 0,39,"law.go:213",#[⟨6,.data⟩],none⟩ ?_
  try simp only [Rg.gp]
  refine Rg.tk 8 ⟨some 70,.extract (.tmp 62) 1,4,"law.go:213",#[⟨6,.data⟩,⟨9,.gcOnly Go.Departure.lateStores⟩],none⟩ ?_
  try simp only [Rg.gp]
  refine Rg.tk 9 ⟨some 17,.assign (.tmp 69),39,"law.go:213",#[⟨7,.data⟩,⟨5,.chain⟩,⟨0,.phase⟩,⟨1,.phase⟩,⟨2,.phase⟩,⟨3,.phase⟩,⟨4,.phase⟩,⟨5,.phase⟩,⟨6,.phase⟩,⟨7,.phase⟩,⟨8,.textOnly Go.Departure.lateStores⟩],none⟩ ?_
  try simp only [Rg.gp]
  refine Rg.tk 10 ⟨some 18,.assign (.tmp 70),4,"law.go:213",#[⟨8,.data⟩,⟨9,.chain⟩,⟨0,.phase⟩,⟨1,.phase⟩,⟨2,.phase⟩,⟨3,.phase⟩,⟨4,.phase⟩,⟨5,.phase⟩,⟨6,.phase⟩,⟨7,.phase⟩,⟨8,.phase⟩,⟨9,.phase⟩],none⟩ ?_
  try simp only [Rg.gp]
  refine wpAnyH_done (by kernel_rfl) ?_ _
  have HB11 : Hid (Below u4.heap.size u4 u6) := Lib.hid hHeld.2.2.out.1
  clear hHeld hS11 hn5 hn6 hb5 hb6 HN5x
  have HV6 : Hid (Below v.heap.size v u6) := Lib.hid (HV4.out.trans (HB11.out.mono HV4.out.size))
  have HB2u6 : Hid (Below u2.heap.size u2 u6) := Lib.hid (HB24x.out.trans (HB11.out.mono HB24x.out.size))
  obtain ⟨b7, o7, hab7, a7, p7, hc7, hn7⟩ := (HMW.out.below HV6.out).at' (fun t ht => (mrow HWN.out ht).len) hix
  injection hab7 with hab7
  injection hab7 with hb7e ho7e _
  subst hb7e
  subst ho7e
  have HXV : Hid (Vn F n (LW.getD ix [])) := Lib.hid (mrow HWN.out (by rw [HNW.out]; exact hix))
  have HXN := Lib.hid hn7
  have HP12 : Hid (∀ w', Below u6.heap.size u6 w' → Calls Try.prog 41 #[FV F b cap, .slice (some ⟨g1, 0, none⟩) n n, .slice a7 n p7] w' fun e w'' => ∃ a c, e = .returned (.slice a n c) ∧ NN (plV F V1 (LW.getD ix [])) w'' (.slice a n c) ∧ Below w'.heap.size w' w'') := Lib.hid fun w' hb => HPL.out w' n _ _ _ _ _ _ (HV6.out.trans (hb.mono HV6.out.size)) (by omega) HV1.out HXV.out (HNV1.out w' (HB2u6.out.trans (hb.mono HB2u6.out.size))) (HXN.out.below hb)
  have HQ12 : Hid (∀ w' a' c', Below u6.heap.size u6 w' → NN (plV F V1 (LW.getD ix [])) w' (.slice a' n c') → Calls Try.prog 43 #[DV q n (.slice a m ca), .slice a' n c'] w' fun e w'' => ∃ a c, e = .returned (.tuple #[.slice a ld c, .bool true]) ∧ NN (syV F n G (plV F V1 (LW.getD ix []))) w'' (.slice a ld c) ∧ Below w'.heap.size w' w'') := Lib.hid fun w' a c hb h => HSY.out w' _ a c (HV6.out.trans (hb.mono HV6.out.size)) (plV_vn HFF.out HV1.out) h
  have HLWD : Hid (syV F n G (plV F V1 (LW.getD ix [])) = syV F n G V1) := Lib.hid (HVC.out.sy_word HV1.out HXV.out (HVC.out.word_sp m (Nat.le_refl _) _ (by rw [HLW.out]; exact HMEM.out ix hix)))
  have hbc := (HC4v.out.below HV6.out).drew
  have hbf := (HY5.out.below HV6.out).drew
  have hS12 : S11 q n (.slice a m ca) x4 y5 F b cap u6 u6.drew ∧ u6.drew.cell? ⟨bw, ow + ix, none⟩ = some (.slice a7 n p7) := ⟨⟨⟨hbc.cell rfl, hbc.cell rfl, hbc.cell rfl⟩, ⟨hbf.cell rfl, hbf.cell rfl, hbf.cell rfl⟩, Lib.hid ⟨(Below.refl _ _).drew, (HC4v.out.below HV6.out).lt, (HY5.out.below HV6.out).lt⟩⟩, hc7⟩
  clear hbc hbf hc7 hn7
  go_wp2_with fail
  refine wp_region_held_drew (S := fun w' => S11 q n (.slice a m ca) x4 y5 F b cap u6 w' ∧ w'.cell? ⟨bw, ow + ix, none⟩ = some (.slice a7 n p7)) (by kernel_rfl) (by with_reducible exact hS12) (fun hHeld => ?_)
  refine Rg.tk 0 ⟨some 72,.load 32 (.tmp 8),32,"law.go:214",#[],none⟩ ?_
  try simp only [Rg.gp]
  refine Rg.tk 1 ⟨some 73,.load 53 (.tmp 9),53,"law.go:214",#[],none⟩ ?_
  try simp only [Rg.gp]
  refine Rg.tk 2 ⟨some 74,.move (.tmp 11),39,"law.go:214",#[],none⟩ ?_
  try simp only [Rg.gp]
  refine Rg.tk 3 ⟨some 75,.move (.tmp 10),22,"law.go:214",#[],none⟩ ?_
  try simp only [Rg.gp]
  refine Rg.tk 4 ⟨some 76,.move (.tmp 2),5,"law.go:214",#[],none⟩ ?_
  try simp only [Rg.gp]
  refine Rg.tk 5 ⟨some 77,.convert 5 3 (.tmp 76),3,"law.go:214",#[⟨4,.data⟩],none⟩ ?_
  try simp only [Rg.gp]
  refine Rg.tk 6 ⟨some 78,.move (.tmp 10),22,"law.go:214",#[],none⟩ ?_
  try simp only [Rg.gp]
  refine Rg.tk 7 ⟨some 79,.call ⟨.builtin Builtin.len,#[.tmp 78],#[22]⟩,3,"law.go:214",#[⟨6,.data⟩],none⟩ ?_
  try simp only [Rg.gp]
  refine Rg.tk 8 ⟨some 80,.binOp BinOp.rem 3 (.tmp 77) (.tmp 79) 3,3,"law.go:214",#[⟨5,.data⟩,⟨7,.data⟩],none⟩ ?_
  try simp only [Rg.gp]
  refine Rg.tk 9 ⟨some 81,.indexAddr 22 (.tmp 75) (.tmp 80),0,"law.go:214",#[⟨3,.data⟩,⟨8,.data⟩],none⟩ ?_
  try simp only [Rg.gp]
  refine Rg.tk 10 ⟨some 82,.load 39 (.tmp 81),39,"law.go:214",#[⟨9,.data⟩],none⟩ ?_
  try simp only [Rg.gp]
  refine Rg.rd1 11 ⟨some 83,.call ⟨.value (.func 41),#[.tmp 73,.tmp 74,.tmp 82],#[53,39,39]⟩,39,"law.go:214",#[⟨1,.data⟩,⟨2,.data⟩,⟨10,.data⟩],none⟩ fun K hK => ?_
  go_simp
  go_at_call 41
  with_reducible refine (HP12.out _ hHeld.1.2.2.out.1).mono ?_
  rintro e8 u8 ⟨a8, p8, rfl, hn8, hb8⟩
  have HN8x := Lib.hid hn8
  refine hK.out _ _ ?_ (fun hHeld => ?_)
  ·(try dsimp only)
   exact ⟨S11.go hHeld.1 (hb8.mono hHeld.1.2.2.out.1.size), (hb8.cell (p := ⟨bw, ow + ix, none⟩) (World.block_lt_of_cell? _ _ hHeld.2)).trans hHeld.2⟩
  clear hK K
  try simp only [Rg.gp]
  refine Rg.rd1 12 ⟨some 84,.call ⟨.value (.func 43),#[.tmp 72,.tmp 83],#[32,39]⟩,62,"law.go:214",#[⟨0,.data⟩,⟨11,.data⟩,⟨11,.chain⟩],none⟩ fun K hK => ?_
  go_simp
  go_at_call 43
  with_reducible refine (HQ12.out _ _ _ hHeld.1.2.2.out.1 HN8x.out).mono ?_
  rintro e9 u9 ⟨a9, p9, rfl, hn9, hb9⟩
  have HU9 := Lib.hid hn9
  refine hK.out _ _ ?_ (fun hHeld => ?_)
  ·(try dsimp only)
   exact ⟨S11.go hHeld.1 (hb9.mono hHeld.1.2.2.out.1.size), (hb9.cell (p := ⟨bw, ow + ix, none⟩) (World.block_lt_of_cell? _ _ hHeld.2)).trans hHeld.2⟩
  clear hK K
  try simp only [Rg.gp]
  refine Rg.tk 13 ⟨some 71,.move (.tmp 84),62,"law.go:214",#[⟨12,.data⟩],none⟩ ?_
  try simp only [Rg.gp]
  refine Rg.tk 14 ⟨some 85,.extract (.tmp 71) 0,39,"law.go:214",#[⟨13,.data⟩],none⟩ ?_
  try simp only [Rg.gp]
  refine Rg.tk 15 ⟨some 86,.extract (.tmp 71) 1,4,"law.go:214",#[⟨13,.data⟩,⟨16,.gcOnly Go.Departure.lateStores⟩],none⟩ ?_
  try simp only [Rg.gp]
  refine Rg.tk 16 ⟨some 19,.assign (.tmp 85),39,"law.go:214",#[⟨14,.data⟩,⟨12,.chain⟩,⟨0,.phase⟩,⟨1,.phase⟩,⟨2,.phase⟩,⟨3,.phase⟩,⟨4,.phase⟩,⟨5,.phase⟩,⟨6,.phase⟩,⟨7,.phase⟩,⟨8,.phase⟩,⟨9,.phase⟩,⟨10,.phase⟩,⟨11,.phase⟩,⟨12,.phase⟩,⟨13,.phase⟩,⟨14,.phase⟩,⟨15,.textOnly Go.Departure.lateStores⟩],none⟩ ?_
  try simp only [Rg.gp]
  refine Rg.tk 17 ⟨some 20,.assign (.tmp 86),4,"law.go:214",#[⟨15,.data⟩,⟨16,.chain⟩,⟨0,.phase⟩,⟨1,.phase⟩,⟨2,.phase⟩,⟨3,.phase⟩,⟨4,.phase⟩,⟨5,.phase⟩,⟨6,.phase⟩,⟨7,.phase⟩,⟨8,.phase⟩,⟨9,.phase⟩,⟨10,.phase⟩,⟨11,.phase⟩,⟨12,.phase⟩,⟨13,.phase⟩,⟨14,.phase⟩,⟨15,.phase⟩,⟨16,.phase⟩],none⟩ ?_
  try simp only [Rg.gp]
  refine wpAnyH_done (by kernel_rfl) ?_ _
  have HB12x : Hid (Below u6.heap.size u6 u9) := Lib.hid hHeld.1.2.2.out.1
  clear hHeld hS12 hn8 hn9 hb8 hb9 HN8x
  have HV9 : Hid (Below v.heap.size v u9) := Lib.hid (HV6.out.trans (HB12x.out.mono HV6.out.size))
  have HB49 : Hid (Below u4.heap.size u4 u9) := Lib.hid (HB11.out.trans (HB12x.out.mono HB11.out.size))
  have HT9 := Lib.hid (HT4.out.below HB49.out)
  have HS9 : Hid (NN (syV F n G V1) u9 (.slice s3 ld p3)) := Lib.hid ((HS3.out.below HB34.out).below HB49.out)
  have HU69 := Lib.hid (HU6.out.below HB12x.out)
  have hbc := HC4v.out.below HV9.out
  have hbf := HY5.out.below HV9.out
  have c0 := hbc.cell (i := 0) rfl
  have c1 := hbc.cell (i := 1) rfl
  have c2 := hbc.cell (i := 2) rfl
  have d0 := hbf.cell (i := 0) rfl
  have d1 := hbf.cell (i := 1) rfl
  have d2 := hbf.cell (i := 2) rfl
  have HP13 : Hid (Calls Try.prog 41 #[FV F b cap, .slice s3 ld p3, .slice t4 ld p4] u9 fun e w'' => ∃ a c, e = .returned (.slice a ld c) ∧ NN (plV F (syV F n G V1) (syV F n G V2)) w'' (.slice a ld c) ∧ Below u9.heap.size u9 w'') := Lib.hid (HPL.out u9 ld _ _ _ _ _ _ HV9.out (by omega) HSV1.out HSV2.out HS9.out HT9.out)
  clear hbc hbf
  go_wp2_with fail
  with_reducible refine HP13.out.mono ?_
  rintro e10 z1 ⟨a10, p10, rfl, hn10, hb10⟩
  have HI13 : Hid (Calls Try.prog 25 #[.slice a6 ld p6, .slice a10 ld p10] z1 fun e w'' => e = .returned (.bool true) ∧ Below z1.heap.size z1 w'') := Lib.hid (HIN.out z1 _ _ _ _ _ HSL.out (by have := HU69.out.below hb10; rw [HLIN.out] at this; exact this) hn10)
  have HBz1 := Lib.hid hb10
  clear hn10 hb10 HP13 c0 c1 c2 d0 d1 d2
  go_wp2_with fail
  with_reducible refine HI13.out.mono ?_
  rintro e11 z2 ⟨rfl, hb11⟩
  have HBz2 : Hid (Below u9.heap.size u9 z2) := Lib.hid (HBz1.out.trans (hb11.mono HBz1.out.size))
  have HI14 : Hid (Calls Try.prog 25 #[.slice a9 ld p9, .slice s3 ld p3] z2 fun e w'' => e = .returned (.bool true) ∧ Below z2.heap.size z2 w'') := Lib.hid (HIN.out z2 _ _ _ _ _ HSL1.out (by have := HU9.out.below HBz2.out; rw [HLWD.out] at this; exact this) (HS9.out.below HBz2.out))
  clear hb11 HI13
  go_wp2_with fail
  with_reducible refine HI14.out.mono ?_
  rintro e12 z3 ⟨rfl, hb12⟩
  have HBz3 : Hid (Below u9.heap.size u9 z3) := Lib.hid (HBz2.out.trans (hb12.mono HBz2.out.size))
  have HVz3 : Hid (Below v.heap.size v z3) := Lib.hid (HV9.out.trans (HBz3.out.mono HV9.out.size))
  have HB2z : Hid (Below u2.heap.size u2 z3) := Lib.hid (HB24x.out.trans ((HB49.out.trans (HBz3.out.mono HB49.out.size)).mono HB24x.out.size))
  have HM15 : Hid (Calls Try.prog 21 #[DV q n (.slice a m ca), .slice (some ⟨g1, 0, none⟩) n n] z3 (MgP F n m G V1 z3)) := Lib.hid (by
   have h := message_c HVC.out (HMG.out.below HVz3.out) HV1.out (HNV1.out z3 HB2z.out)
   rw [hq.out] at h; exact h)
  have HW16 : Hid (∀ w', Below z3.heap.size z3 w' → Calls Try.prog 44 #[.slice s3 ld p3] w' fun e w'' => e = .returned (.int .i64 (wS : Nat)) ∧ Below w'.heap.size w' w'') := Lib.hid fun w' hb => by
   have h := rweight_c HSL1.out (by omega) (((HS9.out.below HBz3.out).below hb))
   rw [HWS.out] at h; exact h
  have hbc := HC4v.out.below HVz3.out
  have c0 := hbc.cell (i := 0) rfl
  have c1 := hbc.cell (i := 1) rfl
  have c2 := hbc.cell (i := 2) rfl
  clear hbc hb12 HI14
  go_wp2_with fail
  with_reducible refine HM15.out.mono ?_
  rintro e13 z4 ⟨hcase, hb13⟩
  have HVz4 : Hid (Below v.heap.size v z4) := Lib.hid (HVz3.out.trans (hb13.mono HVz3.out.size))
  have HW17 := Lib.hid (HW16.out z4 hb13)
  clear hb13 c0 c1 c2 HM15
  rcases hcase with ⟨hw0, a14, p14, rfl, -⟩ | ⟨hw0, rfl⟩
  ·have hws : wS = 0 := HSY0.out.1 hw0
   subst hws
   clear hw0
   go_wp2_with fail
   with_reducible refine HW17.out.mono ?_
   rintro e14 z5 ⟨rfl, hb14⟩
   have HBF : Hid (Below W.heap.size W z5) := Lib.hid (HBV.out.trans ((HVz4.out.trans (hb14.mono HVz4.out.size)).mono HBV.out.size))
   clear hb14
   go_wp2
   go_ret
   exact ⟨rfl, HBF.out⟩
  ·have hws : ¬ wS = 0 := fun e => hw0 (HSY0.out.2 e)
   have hwsi : ¬ (wS : Int) = 0 := by omega
   have hwsb : ((wS : Int) == 0) = false := by simpa using hws
   clear hw0
   go_wp2_with fail
   with_reducible refine HW17.out.mono ?_
   rintro e14 z5 ⟨rfl, hb14⟩
   have HBF : Hid (Below W.heap.size W z5) := Lib.hid (HBV.out.trans ((HVz4.out.trans (hb14.mono HVz4.out.size)).mono HBV.out.size))
   clear hb14
   go_wp2
   go_ret
   exact ⟨rfl, HBF.out⟩

end Go.Proofs.Ytdafhhojiioifaa
