/- The law CodeDuality. -/
import Derived.Test.YtdafhhojiioifaaDc
namespace Go.Proofs.Ytdafhhojiioifaa
open Go.RowKit Go.Fl
set_option maxRecDepth 100000
set_option linter.unusedVariables false
set_option linter.unusedSimpArgs false
set_option linter.unusedSectionVars false

open Go.RowKit
theorem share7 {A B C D E G I : Type} {H T : A → B → C → D → E → G → I → World → Prop} {goal : Prop} (ways : (∀ a b c d e g i w, H a b c d e g i w → T a b c d e g i w) → goal) (rest : ∀ a b c d e g i w, H a b c d e g i w → T a b c d e g i w) : goal := ways rest
theorem BC.ne {g g' : Nat} {vs vs' : List Value} {t t' : TypeId} {w : World} (h : BC g vs t w) (h' : BC g' vs' t' w) (hn : t ≠ t') : ¬ g = g' := fun e => by
 subst e
 unfold BC at h h'
 rw [h] at h'
 injection h' with h'
 injection h' with _ h' _
 exact hn h'
abbrev S5 (q n : Nat) (va : Value) (x4 : Nat) (w4 w : World) : Prop := (w.cell? ⟨x4, 0, none⟩ = some (.int .i64 (q : Nat)) ∧ w.cell? ⟨x4, 1, none⟩ = some (.int .i64 (n : Nat)) ∧ w.cell? ⟨x4, 2, none⟩ = some va) ∧ Hid (Below w4.heap.size w4 w ∧ x4 < w4.heap.size)
theorem S5.go {q n : Nat} {va : Value} {x4 : Nat} {w4 w w' : World} (h : S5 q n va x4 w4 w) (hb : Below w4.heap.size w w') : S5 q n va x4 w4 w' := by
 obtain ⟨⟨h0, h1, h2⟩, h4⟩ := h
 have hB := h4.out.2
 exact ⟨⟨(hb.cell (p := ⟨x4, 0, none⟩) hB).trans h0, (hb.cell (p := ⟨x4, 1, none⟩) hB).trans h1, (hb.cell (p := ⟨x4, 2, none⟩) hB).trans h2⟩, Lib.hid ⟨h4.out.1.trans hb, hB⟩⟩
theorem S5.go0 {q n : Nat} {va : Value} {x4 : Nat} {w4 w' : World} (h : S5 q n va x4 w4 w4.drew) (hb : Below w4.heap.size w4 w') : S5 q n va x4 w4 w' := by
 obtain ⟨⟨h0, h1, h2⟩, h4⟩ := h
 have hB := h4.out.2
 exact ⟨⟨(hb.cell (p := ⟨x4, 0, none⟩) hB).trans h0, (hb.cell (p := ⟨x4, 1, none⟩) hB).trans h1, (hb.cell (p := ⟨x4, 2, none⟩) hB).trans h2⟩, Lib.hid ⟨hb, hB⟩⟩
abbrev S6 (q n : Nat) (va : Value) (x4 : Nat) (vd : Value) (x6 : Nat) (v w : World) : Prop := (w.cell? ⟨x4, 0, none⟩ = some (.int .i64 (q : Nat)) ∧ w.cell? ⟨x4, 1, none⟩ = some (.int .i64 (n : Nat)) ∧ w.cell? ⟨x4, 2, none⟩ = some va) ∧ (w.cell? ⟨x6, 0, none⟩ = some (.int .i64 (q : Nat)) ∧ w.cell? ⟨x6, 1, none⟩ = some (.int .i64 (n : Nat)) ∧ w.cell? ⟨x6, 2, none⟩ = some vd) ∧ Hid (Below v.heap.size v w ∧ x4 < v.heap.size ∧ x6 < v.heap.size)
theorem S6.go {q n : Nat} {va : Value} {x4 : Nat} {vd : Value} {x6 : Nat} {v w w' : World} (h : S6 q n va x4 vd x6 v w) (hb : Below v.heap.size w w') : S6 q n va x4 vd x6 v w' := by
 obtain ⟨⟨h0, h1, h2⟩, ⟨g0, g1, g2⟩, h4⟩ := h
 have hB := h4.out.2.1
 have hC := h4.out.2.2
 exact ⟨⟨(hb.cell (p := ⟨x4, 0, none⟩) hB).trans h0, (hb.cell (p := ⟨x4, 1, none⟩) hB).trans h1, (hb.cell (p := ⟨x4, 2, none⟩) hB).trans h2⟩, ⟨(hb.cell (p := ⟨x6, 0, none⟩) hC).trans g0, (hb.cell (p := ⟨x6, 1, none⟩) hC).trans g1, (hb.cell (p := ⟨x6, 2, none⟩) hC).trans g2⟩, Lib.hid ⟨h4.out.1.trans hb, hB, hC⟩⟩
/-- what the law has made: a field, the dual -/
def DH (F : Gf) (q n ld : Nat) (D : List (List Nat)) (w4 : World) (y5 y6 b cap : Nat) (us : List Value) (ad : Option Addr) (cd : Nat) (v : World) : Prop :=
 Hid (BC y5 [.int .i64 F.p, .int .i64 F.e, FM F b cap] 53 v ∧ BC y6 [.int .i64 (q : Nat), .int .i64 (n : Nat), .slice ad ld cd] 32 v ∧ FldAt F b cap v ∧ MM D v (.slice ad ld cd) ∧ Below w4.heap.size w4 v)
section
variable {F : Gf} {n m : Nat} {G : List (List Nat)} {L : List (Nat × Cf)} (h : VC F n m G L)
include h
theorem VC.redM : redM F n G = G := by
 have e := h.rm.self h.ok
 unfold Go.Fl.redM
 rw [e]; exact h.rm.eq.symm
theorem VC.dual : VC F n (kerM F n G).length (kerM F n G) (kerL F n (redL F n (G.map Go.Fl.fn))) := by
 obtain ⟨h1, -, -⟩ := redL_ok h.ok (Mn.vs h.ok h.gc.mn)
 have hr := rank_null h.ok h.gc.mn
 have hn := h.gc.n2
 have hm : RM F n (kerM F n G) (kerL F n (redL F n (G.map Go.Fl.fn))) := ⟨(kerL_ok h.ok h1).1, rfl⟩
 exact ⟨⟨h.gc.mem, h.gc.q, h.gc.n1, h.gc.n2, by omega, rfl, hm.mn h.ok⟩, hm⟩
theorem VC.back : kerM F n (kerM F n G) = G := (kerM_kerM h.ok h.gc.mn).trans h.redM
theorem VC.dims : m + (kerM F n G).length = n := by
 have hr := rank_null h.ok h.gc.mn
 rw [h.redM, h.gc.len] at hr; omega
theorem VC.dt {i k : Nat} (hi : i < m) (hk : k < (kerM F n G).length) : dt F n (fn (G.getD i [])) (fn ((kerM F n G).getD k [])) = 0 := by
 have hd := h.dual
 have hv := mrow hd.gc.mn hk
 have hi' : i < G.length := by rw [h.gc.len]; exact hi
 refine (ker_iff h.ok h.gc.mn hv).1 (Sp.mem h.ok (Mn.vs h.ok hd.gc.mn).els (List.mem_map.2 ⟨_, ?_, rfl⟩)) _ ?_
 ·rw [List.getD_eq_getElem?_getD, List.getElem?_eq_getElem hk]; exact List.getElem_mem hk
 ·rw [List.getD_eq_getElem?_getD, List.getElem?_eq_getElem hi']; exact List.getElem_mem hi'
end
set_option maxHeartbeats 12800000 in
theorem duality_c {x y z l cl : Nat} {aa : Option Addr} {W : World} (hx : x ≤ 255) (hy : y ≤ 255) (hz : z ≤ 255) (hl : l ≤ maxLen) (na : N8 l W (.slice aa l cl)) :
  Calls Try.prog 6 #[.agg #[.int .u8 (x : Nat), .int .u8 (y : Nat), .int .u8 (z : Nat), .slice aa l cl]] W fun e w' => e = .returned (.bool true) ∧ Below W.heap.size W w' := by
 obtain ⟨W1, hW1⟩ : ∃ w, w = W.alloc (.cells #[.int .u8 (x : Nat), .int .u8 (y : Nat), .int .u8 (z : Nat), .slice aa l cl] 27) := ⟨_, rfl⟩
 have HB1 : Hid (Below W.heap.size W W1) := Lib.hid (by rw [hW1]; exact (Below.refl _ _).alloc (Nat.le_refl _) _)
 have HX : Hid (BC W.heap.size [.int .u8 (x : Nat), .int .u8 (y : Nat), .int .u8 (z : Nat), .slice aa l cl] 27 W1) := Lib.hid (by rw [hW1]; exact BC.new W [.int .u8 (x : Nat), .int .u8 (y : Nat), .int .u8 (z : Nat), .slice aa l cl] 27 rfl)
 have HEX : Hid (Calls Try.prog 10 #[] W1 fun e w' => e = .returned (.bool true) ∧ Below W1.heap.size W1 w') := Lib.hid ex_c
 have HNA := Lib.hid (na.below HB1.out)
 have HXL := Lib.hid (And.intro hx (And.intro hy (And.intro hz hl)))
 have HW1 := Lib.hid hW1
 clear hW1 na hx hy hz hl
 go_enter Try.func6, Try.ntmps6
 go_wp2_with fail
 rw [← HW1.out]
 with_reducible refine HEX.out.mono ?_
 rintro e w2 ⟨rfl, hb2⟩
 have HX2 := Lib.hid (HX.out.below hb2)
 have HB2 : Hid (Below W.heap.size W w2) := Lib.hid (HB1.out.trans (hb2.mono HB1.out.size))
 have HMC : Hid (Calls Try.prog 17 #[.agg #[.int .u8 (x : Nat), .int .u8 (y : Nat), .int .u8 (z : Nat), .slice aa l cl]] w2 (MC w2)) := Lib.hid (made_c HXL.out.1 HXL.out.2.1 HXL.out.2.2.1 HXL.out.2.2.2 (HNA.out.below hb2))
 have c0 := HX2.out.cell (i := 0) rfl
 have c1 := HX2.out.cell (i := 1) rfl
 have c2 := HX2.out.cell (i := 2) rfl
 have c3 := HX2.out.cell (i := 3) rfl
 clear hb2 HEX
 go_wp2_with fail
 with_reducible refine HMC.out.mono ?_
 rintro e w3 ⟨F, n, m, G, L, a, ca, rfl, hvc, hn10, hqm, hmm, hb3⟩
 obtain ⟨w4, hw4⟩ : ∃ w, w = w3.alloc (.cells #[.int .i64 (F.q : Nat), .int .i64 (n : Nat), .slice a m ca] 32) := ⟨_, rfl⟩
 obtain ⟨x4, hx4⟩ : ∃ x, x = w3.heap.size := ⟨_, rfl⟩
 have HA4 : Hid (Below w3.heap.size w3 w4) := Lib.hid (by rw [hw4]; exact (Below.refl _ _).alloc (Nat.le_refl _) _)
 have HC4 : Hid (BC x4 [.int .i64 (F.q : Nat), .int .i64 (n : Nat), .slice a m ca] 32 w4) := Lib.hid (by rw [hw4, hx4]; exact BC.new w3 [.int .i64 (F.q : Nat), .int .i64 (n : Nat), .slice a m ca] 32 rfl)
 have HB4 : Hid (Below W.heap.size W w4) := Lib.hid (HB2.out.trans ((hb3.trans (HA4.out.mono hb3.size)).mono HB2.out.size))
 have HVC := Lib.hid hvc
 have HM4 := Lib.hid (hmm.below HA4.out)
 obtain ⟨D, hD⟩ : ∃ D, Hid (kerM F n G = D) := ⟨_, Lib.hid rfl⟩
 obtain ⟨ld, hld⟩ : ∃ k, Hid (D.length = k) := ⟨_, Lib.hid rfl⟩
 have HLD : Hid (D.length = ld) := hld
 obtain ⟨LD, hLD⟩ : ∃ LD, Hid (VC F n ld D LD) := ⟨_, Lib.hid (by have h := hvc.dual; rw [hD.out, hld.out] at h; exact h)⟩
 have hdm : m + ld = n := by have h := hvc.dims; rw [hD.out, hld.out] at h; exact h
 have hdmi : (m : Int) + (ld : Int) = (n : Int) := by omega
 have hnw : IntKind.i64.wrap (n : Int) = (n : Int) := w64 (by have := hvc.gc.n2; omega)
 have hnb := hvc.gc.n2
 have HDT : Hid (∀ i k, i < m → k < ld → dt F n (fn (G.getD i [])) (fn (D.getD k [])) = 0) := Lib.hid fun i k hi hk => by
  have h := hvc.dt (i := i) (k := k) hi (by rw [hD.out, hld.out]; exact hk)
  rw [hD.out] at h; exact h
 have HBK : Hid (kerM F n D = G) := Lib.hid (by rw [← hD.out]; exact hvc.back)
 have HGN := Lib.hid hvc.gc.mn
 have HGL := Lib.hid hvc.gc.len
 have HDN : Hid (Mn F n D) := Lib.hid hLD.out.gc.mn
 obtain ⟨q, hq⟩ : ∃ q, Hid (F.q = q) := ⟨_, Lib.hid rfl⟩
 rw [hq.out] at HC4 hw4 ⊢
 have HOV : Hid (∀ w', Calls Try.prog 38 #[.int .i64 (q : Nat)] w' fun e w'' => ∃ b cap, e = .returned (FV F b cap) ∧ FldAt F b cap w'' ∧ Below w'.heap.size w' w'' ∧ w'.heap.size ≤ b) := Lib.hid fun w' => by rw [← hq.out]; exact rover_c HVC.out.gc.mem
 have HDU : Hid (∀ w', Below w4.heap.size w4 w' → Calls Try.prog 26 #[DV q n (.slice a m ca)] w' (CP q n D w')) := Lib.hid fun w' hb => by
  have h := dual_c HVC.out (HM4.out.below hb)
  rw [hD.out, hq.out] at h; exact h
 have hS5 : S5 q n (.slice a m ca) x4 w4 w4.drew := ⟨⟨HC4.out.cell rfl, HC4.out.cell rfl, HC4.out.cell rfl⟩, Lib.hid ⟨(Below.refl _ _).drew, HC4.out.lt⟩⟩
 have HW4 := Lib.hid hw4
 have HX4 := Lib.hid hx4
 clear hw4 hx4 hvc hmm hb3 HMC c0 c1 c2 c3 hqm hn10 hdm
 go_wp2_with fail
 rw [← HW4.out, ← HX4.out]
 refine share7 (H := DH F q n ld D w4) (T := ?T) (fun hrest => ?ways) ?rest
 case ways =>
  refine wp_region_held_drew (S := fun w' => S5 q n (.slice a m ca) x4 w4 w') (by kernel_rfl) (by with_reducible exact hS5) (fun hHeld => ?_)
  refine Rg.tk 0 ⟨some 14,.fieldAddr 32 (.tmp 4) 0,0,"law.go:185",#[],none⟩ ?_
  try simp only [Rg.gp]
  refine Rg.tk 1 ⟨some 15,.load 3 (.tmp 14),3,"law.go:185",#[⟨0,.data⟩],none⟩ ?_
  try simp only [Rg.gp]
  refine Rg.tk 3 ⟨some 17,.load 32 (.tmp 4),32,"law.go:185",#[],none⟩ ?_
  try simp only [Rg.gp]
  refine wpAnyH_ready (rs := [2, 5, 6]) (by kernel_rfl) (by simp) ?_
  refine (AllReadyH.cons (o := ⟨some 16,.call ⟨.value (.func 38),#[.tmp 15],#[3]⟩,53,"law.go:185",#[⟨1,.data⟩],none⟩) rfl (fun K hK => ?_) (AllReadyH.cons (o := ⟨some 5,.alloc 53,0,"law.go:185",#[],none⟩) rfl (fun K hK => ?_) (AllReadyH.cons (o := ⟨some 6,.alloc 32,0,"law.go:185",#[],none⟩) rfl (fun K hK => ?_) AllReadyH.nil)))
  ·go_simp
   go_at_call 38
   with_reducible refine (HOV.out _).mono ?_
   rintro e1 v1 ⟨b, cap, rfl, hfa, hb, hbl⟩
   refine hK.out _ _ ?_ (fun hHeld => ?_)
   ·(try dsimp only)
    exact S5.go hHeld (hb.mono hHeld.2.out.1.size)
   clear hK K
   try simp only [Rg.gp]
   have Hfa_1 := Lib.hid hfa
   have HBW1 : Hid (Below w4.heap.size w4 v1) := Lib.hid hHeld.2.out.1
   clear hb hbl hfa
   refine wpAnyH_ready (rs := [4, 5, 6]) (by kernel_rfl) (by simp) ?_
   refine (AllReadyH.cons (o := ⟨some 18,.call ⟨.value (.func 26),#[.tmp 17],#[32]⟩,32,"law.go:185",#[⟨3,.data⟩,⟨2,.chain⟩],none⟩) rfl (fun K hK => ?_) (AllReadyH.cons (o := ⟨some 5,.alloc 53,0,"law.go:185",#[],none⟩) rfl (fun K hK => ?_) (AllReadyH.cons (o := ⟨some 6,.alloc 32,0,"law.go:185",#[],none⟩) rfl (fun K hK => ?_) AllReadyH.nil)))
   ·go_simp
    go_at_call 26
    with_reducible refine (HDU.out _ hHeld.2.out.1).mono ?_
    rintro e2 v2 ⟨us, ad, cd, rfl, hol, hb⟩
    rw [HLD.out] at hol ⊢
    refine hK.out _ _ ?_ (fun hHeld => ?_)
    ·(try dsimp only)
     exact S5.go hHeld (hb.mono hHeld.2.out.1.size)
    clear hK K
    try simp only [Rg.gp]
    have Hol_2 := Lib.hid hol
    have Hfa_2 := Lib.hid (Hfa_1.out.below hb)
    clear Hfa_1
    have HBW2 : Hid (Below w4.heap.size w4 v2) := Lib.hid hHeld.2.out.1
    clear hb hol
    refine wpAnyH_ready (rs := [5, 6]) (by kernel_rfl) (by simp) ?_
    refine (AllReadyH.cons (o := ⟨some 5,.alloc 53,0,"law.go:185",#[],none⟩) rfl (fun K hK => ?_) (AllReadyH.cons (o := ⟨some 6,.alloc 32,0,"law.go:185",#[],none⟩) rfl (fun K hK => ?_) AllReadyH.nil))
    ·go_simp
     refine hK.out _ _ ?_ (fun hHeld => ?_)
     ·(try dsimp only)
      exact S5.go hHeld ((Below.refl v2.heap.size v2).alloc (Nat.le_refl _) _ |>.mono hHeld.2.out.1.size)
     clear hK K
     try simp only [Rg.gp]
     obtain ⟨v3, hv3⟩ : ∃ w, w = (World.alloc v2 (.cells #[.int .i64 0, .int .i64 0, .slice none 0 0] 53)) := ⟨_, rfl⟩
     obtain ⟨y5, hy5⟩ : ∃ x, x = (World.heap v2).size := ⟨_, rfl⟩
     rw [← hv3] at hHeld ⊢
     rw [← hy5]
     have hb : Below (World.heap v2).size v2 v3 := by rw [hv3]; exact ((Below.refl v2.heap.size v2).alloc (Nat.le_refl _) (.cells #[.int .i64 0, .int .i64 0, .slice none 0 0] 53))
     have Hx5_3 : Hid (BC y5 [.int .i64 0, .int .i64 0, .slice none 0 0] 53 v3) := Lib.hid (by rw [hv3, hy5]; exact BC.new v2 [.int .i64 0, .int .i64 0, .slice none 0 0] 53 rfl)
     have HL5 : Hid (w4.heap.size ≤ y5) := Lib.hid (by rw [hy5]; exact HBW2.out.size)
     have HN5 := Lib.hid (show ¬ b = y5 from fun e => by have h1 := FldAt.lt Hfa_2.out; omega)
     have Hfa_3 := Lib.hid (Hfa_2.out.below hb)
     clear Hfa_2
     have Hol_3 := Lib.hid (Hol_2.out.below hb)
     clear Hol_2
     have HBW3 : Hid (Below w4.heap.size w4 v3) := Lib.hid hHeld.2.out.1
     clear hv3 hy5 hb
     refine Rg.rd1 6 ⟨some 6,.alloc 32,0,"law.go:185",#[],none⟩ fun K hK => ?_
     go_simp
     refine hK.out _ _ ?_ (fun hHeld => ?_)
     ·(try dsimp only)
      exact S5.go hHeld ((Below.refl v3.heap.size v3).alloc (Nat.le_refl _) _ |>.mono hHeld.2.out.1.size)
     clear hK K
     try simp only [Rg.gp]
     obtain ⟨v4, hv4⟩ : ∃ w, w = (World.alloc v3 (.cells #[.int .i64 0, .int .i64 0, .slice none 0 0] 32)) := ⟨_, rfl⟩
     obtain ⟨y6, hy6⟩ : ∃ x, x = (World.heap v3).size := ⟨_, rfl⟩
     rw [← hv4] at hHeld ⊢
     rw [← hy6]
     have hb : Below (World.heap v3).size v3 v4 := by rw [hv4]; exact ((Below.refl v3.heap.size v3).alloc (Nat.le_refl _) (.cells #[.int .i64 0, .int .i64 0, .slice none 0 0] 32))
     have Hx6_4 : Hid (BC y6 [.int .i64 0, .int .i64 0, .slice none 0 0] 32 v4) := Lib.hid (by rw [hv4, hy6]; exact BC.new v3 [.int .i64 0, .int .i64 0, .slice none 0 0] 32 rfl)
     have HL6 : Hid (w4.heap.size ≤ y6) := Lib.hid (by rw [hy6]; exact HBW3.out.size)
     have HN6 := Lib.hid (show ¬ b = y6 from fun e => by have h1 := FldAt.lt Hfa_3.out; omega)
     have Hfa_4 := Lib.hid (Hfa_3.out.below hb)
     clear Hfa_3
     have Hol_4 := Lib.hid (Hol_3.out.below hb)
     clear Hol_3
     have Hx5_4 := Lib.hid (Hx5_3.out.below hb)
     clear Hx5_3
     have HBW4 : Hid (Below w4.heap.size w4 v4) := Lib.hid hHeld.2.out.1
     clear hv4 hy6 hb
     refine Rg.rd1 7 ⟨none,.store 53 (.tmp 5) (.tmp 16),0,"law.go:185",#[⟨5,.data⟩,⟨2,.data⟩,⟨4,.chain⟩,⟨0,.phase⟩,⟨1,.phase⟩,⟨2,.phase⟩,⟨3,.textOnly Go.Departure.lateStores⟩,⟨4,.textOnly Go.Departure.lateStoresUnsure⟩,⟨5,.phase⟩,⟨6,.phase⟩],none⟩ fun K hK => ?_
     have r0 := Hx5_4.out.cell (i := 0) rfl
     have g0 := Hx5_4.out.fz 0
     have r1 := Hx5_4.out.cell (i := 1) rfl
     have g1 := Hx5_4.out.fz 1
     have r2 := Hx5_4.out.cell (i := 2) rfl
     have g2 := Hx5_4.out.fz 2
     have hbx : Bx (fun k => k = y5) v4 (World.setCell (World.setCell (World.setCell v4 ⟨y5, 0, none⟩ (.int .i64 F.p)) ⟨y5, 1, none⟩ (.int .i64 F.e)) ⟨y5, 2, none⟩ (FM F b cap)) := bx3 _ _ _
     have hbl : Below w4.heap.size v4 (World.setCell (World.setCell (World.setCell v4 ⟨y5, 0, none⟩ (.int .i64 F.p)) ⟨y5, 1, none⟩ (.int .i64 F.e)) ⟨y5, 2, none⟩ (FM F b cap)) := hbx.below HBW4.out.size (fun k hk => by have h1 := HL5.out; omega)
     go_simp
     refine hK.out _ _ ?_ (fun hHeld => ?_)
     ·(try dsimp only)
      exact S5.go hHeld hbl
     clear hK K
     try simp only [Rg.gp]
     obtain ⟨v5, hv5⟩ : ∃ w, w = (World.setCell (World.setCell (World.setCell v4 ⟨y5, 0, none⟩ (.int .i64 F.p)) ⟨y5, 1, none⟩ (.int .i64 F.e)) ⟨y5, 2, none⟩ (FM F b cap)) := ⟨_, rfl⟩
     rw [← hv5] at hHeld hbx ⊢
     have Hx5_5 : Hid (BC y5 [.int .i64 F.p, .int .i64 F.e, FM F b cap] 53 v5) := Lib.hid (by rw [hv5]; exact Hx5_4.out.set3 _ _ _)
     have Hol_5 := Lib.hid (OL.bc Hol_4.out Hx5_4.out (by decide) (by decide) hbx)
     have Hfa_5 := Lib.hid (Hfa_4.out.bx hbx HN5.out)
     have Hx6_5 := Lib.hid (Hx6_4.out.bx hbx (BC.ne Hx6_4.out Hx5_4.out (by decide)))
     have HBW5 : Hid (Below w4.heap.size w4 v5) := Lib.hid hHeld.2.out.1
     clear hv5 hbx hbl r0 r1 r2 g0 g1 g2 Hx5_4 Hol_4 Hfa_4 Hx6_4
     refine Rg.rd1 8 ⟨none,.store 32 (.tmp 6) (.tmp 18),0,"law.go:185",#[⟨6,.data⟩,⟨4,.data⟩,⟨7,.chain⟩,⟨0,.phase⟩,⟨1,.phase⟩,⟨2,.phase⟩,⟨3,.phase⟩,⟨4,.phase⟩,⟨5,.phase⟩,⟨6,.phase⟩,⟨7,.phase⟩],none⟩ fun K hK => ?_
     have r0 := Hx6_5.out.cell (i := 0) rfl
     have g0 := Hx6_5.out.fz 0
     have r1 := Hx6_5.out.cell (i := 1) rfl
     have g1 := Hx6_5.out.fz 1
     have r2 := Hx6_5.out.cell (i := 2) rfl
     have g2 := Hx6_5.out.fz 2
     have hbx : Bx (fun k => k = y6) v5 (World.setCell (World.setCell (World.setCell v5 ⟨y6, 0, none⟩ (.int .i64 (q : Nat))) ⟨y6, 1, none⟩ (.int .i64 (n : Nat))) ⟨y6, 2, none⟩ (.slice ad ld cd)) := bx3 _ _ _
     have hbl : Below w4.heap.size v5 (World.setCell (World.setCell (World.setCell v5 ⟨y6, 0, none⟩ (.int .i64 (q : Nat))) ⟨y6, 1, none⟩ (.int .i64 (n : Nat))) ⟨y6, 2, none⟩ (.slice ad ld cd)) := hbx.below HBW5.out.size (fun k hk => by have h1 := HL6.out; omega)
     go_simp
     refine hK.out _ _ ?_ (fun hHeld => ?_)
     ·(try dsimp only)
      exact S5.go hHeld hbl
     clear hK K
     try simp only [Rg.gp]
     obtain ⟨v6, hv6⟩ : ∃ w, w = (World.setCell (World.setCell (World.setCell v5 ⟨y6, 0, none⟩ (.int .i64 (q : Nat))) ⟨y6, 1, none⟩ (.int .i64 (n : Nat))) ⟨y6, 2, none⟩ (.slice ad ld cd)) := ⟨_, rfl⟩
     rw [← hv6] at hHeld hbx ⊢
     have Hx6_6 : Hid (BC y6 [.int .i64 (q : Nat), .int .i64 (n : Nat), .slice ad ld cd] 32 v6) := Lib.hid (by rw [hv6]; exact Hx6_5.out.set3 _ _ _)
     have Hol_6 := Lib.hid (OL.bc Hol_5.out Hx6_5.out (by decide) (by decide) hbx)
     have Hfa_6 := Lib.hid (Hfa_5.out.bx hbx HN6.out)
     have Hx5_6 := Lib.hid (Hx5_5.out.bx hbx (BC.ne Hx5_5.out Hx6_5.out (by decide)))
     have HBW6 : Hid (Below w4.heap.size w4 v6) := Lib.hid hHeld.2.out.1
     clear hv6 hbx hbl r0 r1 r2 g0 g1 g2 Hx6_5 Hol_5 Hfa_5 Hx5_5
     refine wpAnyH_done (by kernel_rfl) ?_ _
     exact hrest y5 y6 b cap us ad cd v6 (Lib.hid ⟨Hx5_6.out, Hx6_6.out, Hfa_6.out, Hol_6.out.mm, HBW6.out⟩)
    ·go_simp
     refine hK.out _ _ ?_ (fun hHeld => ?_)
     ·(try dsimp only)
      exact S5.go hHeld ((Below.refl v2.heap.size v2).alloc (Nat.le_refl _) _ |>.mono hHeld.2.out.1.size)
     clear hK K
     try simp only [Rg.gp]
     obtain ⟨v3, hv3⟩ : ∃ w, w = (World.alloc v2 (.cells #[.int .i64 0, .int .i64 0, .slice none 0 0] 32)) := ⟨_, rfl⟩
     obtain ⟨y6, hy6⟩ : ∃ x, x = (World.heap v2).size := ⟨_, rfl⟩
     rw [← hv3] at hHeld ⊢
     rw [← hy6]
     have hb : Below (World.heap v2).size v2 v3 := by rw [hv3]; exact ((Below.refl v2.heap.size v2).alloc (Nat.le_refl _) (.cells #[.int .i64 0, .int .i64 0, .slice none 0 0] 32))
     have Hx6_3 : Hid (BC y6 [.int .i64 0, .int .i64 0, .slice none 0 0] 32 v3) := Lib.hid (by rw [hv3, hy6]; exact BC.new v2 [.int .i64 0, .int .i64 0, .slice none 0 0] 32 rfl)
     have HL6 : Hid (w4.heap.size ≤ y6) := Lib.hid (by rw [hy6]; exact HBW2.out.size)
     have HN6 := Lib.hid (show ¬ b = y6 from fun e => by have h1 := FldAt.lt Hfa_2.out; omega)
     have Hfa_3 := Lib.hid (Hfa_2.out.below hb)
     clear Hfa_2
     have Hol_3 := Lib.hid (Hol_2.out.below hb)
     clear Hol_2
     have HBW3 : Hid (Below w4.heap.size w4 v3) := Lib.hid hHeld.2.out.1
     clear hv3 hy6 hb
     refine Rg.rd1 5 ⟨some 5,.alloc 53,0,"law.go:185",#[],none⟩ fun K hK => ?_
     go_simp
     refine hK.out _ _ ?_ (fun hHeld => ?_)
     ·(try dsimp only)
      exact S5.go hHeld ((Below.refl v3.heap.size v3).alloc (Nat.le_refl _) _ |>.mono hHeld.2.out.1.size)
     clear hK K
     try simp only [Rg.gp]
     obtain ⟨v4, hv4⟩ : ∃ w, w = (World.alloc v3 (.cells #[.int .i64 0, .int .i64 0, .slice none 0 0] 53)) := ⟨_, rfl⟩
     obtain ⟨y5, hy5⟩ : ∃ x, x = (World.heap v3).size := ⟨_, rfl⟩
     rw [← hv4] at hHeld ⊢
     rw [← hy5]
     have hb : Below (World.heap v3).size v3 v4 := by rw [hv4]; exact ((Below.refl v3.heap.size v3).alloc (Nat.le_refl _) (.cells #[.int .i64 0, .int .i64 0, .slice none 0 0] 53))
     have Hx5_4 : Hid (BC y5 [.int .i64 0, .int .i64 0, .slice none 0 0] 53 v4) := Lib.hid (by rw [hv4, hy5]; exact BC.new v3 [.int .i64 0, .int .i64 0, .slice none 0 0] 53 rfl)
     have HL5 : Hid (w4.heap.size ≤ y5) := Lib.hid (by rw [hy5]; exact HBW3.out.size)
     have HN5 := Lib.hid (show ¬ b = y5 from fun e => by have h1 := FldAt.lt Hfa_3.out; omega)
     have Hfa_4 := Lib.hid (Hfa_3.out.below hb)
     clear Hfa_3
     have Hol_4 := Lib.hid (Hol_3.out.below hb)
     clear Hol_3
     have Hx6_4 := Lib.hid (Hx6_3.out.below hb)
     clear Hx6_3
     have HBW4 : Hid (Below w4.heap.size w4 v4) := Lib.hid hHeld.2.out.1
     clear hv4 hy5 hb
     refine Rg.rd1 7 ⟨none,.store 53 (.tmp 5) (.tmp 16),0,"law.go:185",#[⟨5,.data⟩,⟨2,.data⟩,⟨4,.chain⟩,⟨0,.phase⟩,⟨1,.phase⟩,⟨2,.phase⟩,⟨3,.textOnly Go.Departure.lateStores⟩,⟨4,.textOnly Go.Departure.lateStoresUnsure⟩,⟨5,.phase⟩,⟨6,.phase⟩],none⟩ fun K hK => ?_
     have r0 := Hx5_4.out.cell (i := 0) rfl
     have g0 := Hx5_4.out.fz 0
     have r1 := Hx5_4.out.cell (i := 1) rfl
     have g1 := Hx5_4.out.fz 1
     have r2 := Hx5_4.out.cell (i := 2) rfl
     have g2 := Hx5_4.out.fz 2
     have hbx : Bx (fun k => k = y5) v4 (World.setCell (World.setCell (World.setCell v4 ⟨y5, 0, none⟩ (.int .i64 F.p)) ⟨y5, 1, none⟩ (.int .i64 F.e)) ⟨y5, 2, none⟩ (FM F b cap)) := bx3 _ _ _
     have hbl : Below w4.heap.size v4 (World.setCell (World.setCell (World.setCell v4 ⟨y5, 0, none⟩ (.int .i64 F.p)) ⟨y5, 1, none⟩ (.int .i64 F.e)) ⟨y5, 2, none⟩ (FM F b cap)) := hbx.below HBW4.out.size (fun k hk => by have h1 := HL5.out; omega)
     go_simp
     refine hK.out _ _ ?_ (fun hHeld => ?_)
     ·(try dsimp only)
      exact S5.go hHeld hbl
     clear hK K
     try simp only [Rg.gp]
     obtain ⟨v5, hv5⟩ : ∃ w, w = (World.setCell (World.setCell (World.setCell v4 ⟨y5, 0, none⟩ (.int .i64 F.p)) ⟨y5, 1, none⟩ (.int .i64 F.e)) ⟨y5, 2, none⟩ (FM F b cap)) := ⟨_, rfl⟩
     rw [← hv5] at hHeld hbx ⊢
     have Hx5_5 : Hid (BC y5 [.int .i64 F.p, .int .i64 F.e, FM F b cap] 53 v5) := Lib.hid (by rw [hv5]; exact Hx5_4.out.set3 _ _ _)
     have Hol_5 := Lib.hid (OL.bc Hol_4.out Hx5_4.out (by decide) (by decide) hbx)
     have Hfa_5 := Lib.hid (Hfa_4.out.bx hbx HN5.out)
     have Hx6_5 := Lib.hid (Hx6_4.out.bx hbx (BC.ne Hx6_4.out Hx5_4.out (by decide)))
     have HBW5 : Hid (Below w4.heap.size w4 v5) := Lib.hid hHeld.2.out.1
     clear hv5 hbx hbl r0 r1 r2 g0 g1 g2 Hx5_4 Hol_4 Hfa_4 Hx6_4
     refine Rg.rd1 8 ⟨none,.store 32 (.tmp 6) (.tmp 18),0,"law.go:185",#[⟨6,.data⟩,⟨4,.data⟩,⟨7,.chain⟩,⟨0,.phase⟩,⟨1,.phase⟩,⟨2,.phase⟩,⟨3,.phase⟩,⟨4,.phase⟩,⟨5,.phase⟩,⟨6,.phase⟩,⟨7,.phase⟩],none⟩ fun K hK => ?_
     have r0 := Hx6_5.out.cell (i := 0) rfl
     have g0 := Hx6_5.out.fz 0
     have r1 := Hx6_5.out.cell (i := 1) rfl
     have g1 := Hx6_5.out.fz 1
     have r2 := Hx6_5.out.cell (i := 2) rfl
     have g2 := Hx6_5.out.fz 2
     have hbx : Bx (fun k => k = y6) v5 (World.setCell (World.setCell (World.setCell v5 ⟨y6, 0, none⟩ (.int .i64 (q : Nat))) ⟨y6, 1, none⟩ (.int .i64 (n : Nat))) ⟨y6, 2, none⟩ (.slice ad ld cd)) := bx3 _ _ _
     have hbl : Below w4.heap.size v5 (World.setCell (World.setCell (World.setCell v5 ⟨y6, 0, none⟩ (.int .i64 (q : Nat))) ⟨y6, 1, none⟩ (.int .i64 (n : Nat))) ⟨y6, 2, none⟩ (.slice ad ld cd)) := hbx.below HBW5.out.size (fun k hk => by have h1 := HL6.out; omega)
     go_simp
     refine hK.out _ _ ?_ (fun hHeld => ?_)
     ·(try dsimp only)
      exact S5.go hHeld hbl
     clear hK K
     try simp only [Rg.gp]
     obtain ⟨v6, hv6⟩ : ∃ w, w = (World.setCell (World.setCell (World.setCell v5 ⟨y6, 0, none⟩ (.int .i64 (q : Nat))) ⟨y6, 1, none⟩ (.int .i64 (n : Nat))) ⟨y6, 2, none⟩ (.slice ad ld cd)) := ⟨_, rfl⟩
     rw [← hv6] at hHeld hbx ⊢
     have Hx6_6 : Hid (BC y6 [.int .i64 (q : Nat), .int .i64 (n : Nat), .slice ad ld cd] 32 v6) := Lib.hid (by rw [hv6]; exact Hx6_5.out.set3 _ _ _)
     have Hol_6 := Lib.hid (OL.bc Hol_5.out Hx6_5.out (by decide) (by decide) hbx)
     have Hfa_6 := Lib.hid (Hfa_5.out.bx hbx HN6.out)
     have Hx5_6 := Lib.hid (Hx5_5.out.bx hbx (BC.ne Hx5_5.out Hx6_5.out (by decide)))
     have HBW6 : Hid (Below w4.heap.size w4 v6) := Lib.hid hHeld.2.out.1
     clear hv6 hbx hbl r0 r1 r2 g0 g1 g2 Hx6_5 Hol_5 Hfa_5 Hx5_5
     refine wpAnyH_done (by kernel_rfl) ?_ _
     exact hrest y5 y6 b cap us ad cd v6 (Lib.hid ⟨Hx5_6.out, Hx6_6.out, Hfa_6.out, Hol_6.out.mm, HBW6.out⟩)
   ·go_simp
    refine hK.out _ _ ?_ (fun hHeld => ?_)
    ·(try dsimp only)
     exact S5.go hHeld ((Below.refl v1.heap.size v1).alloc (Nat.le_refl _) _ |>.mono hHeld.2.out.1.size)
    clear hK K
    try simp only [Rg.gp]
    obtain ⟨v2, hv2⟩ : ∃ w, w = (World.alloc v1 (.cells #[.int .i64 0, .int .i64 0, .slice none 0 0] 53)) := ⟨_, rfl⟩
    obtain ⟨y5, hy5⟩ : ∃ x, x = (World.heap v1).size := ⟨_, rfl⟩
    rw [← hv2] at hHeld ⊢
    rw [← hy5]
    have hb : Below (World.heap v1).size v1 v2 := by rw [hv2]; exact ((Below.refl v1.heap.size v1).alloc (Nat.le_refl _) (.cells #[.int .i64 0, .int .i64 0, .slice none 0 0] 53))
    have Hx5_2 : Hid (BC y5 [.int .i64 0, .int .i64 0, .slice none 0 0] 53 v2) := Lib.hid (by rw [hv2, hy5]; exact BC.new v1 [.int .i64 0, .int .i64 0, .slice none 0 0] 53 rfl)
    have HL5 : Hid (w4.heap.size ≤ y5) := Lib.hid (by rw [hy5]; exact HBW1.out.size)
    have HN5 := Lib.hid (show ¬ b = y5 from fun e => by have h1 := FldAt.lt Hfa_1.out; omega)
    have Hfa_2 := Lib.hid (Hfa_1.out.below hb)
    clear Hfa_1
    have HBW2 : Hid (Below w4.heap.size w4 v2) := Lib.hid hHeld.2.out.1
    clear hv2 hy5 hb
    refine wpAnyH_ready (rs := [4, 6]) (by kernel_rfl) (by simp) ?_
    refine (AllReadyH.cons (o := ⟨some 18,.call ⟨.value (.func 26),#[.tmp 17],#[32]⟩,32,"law.go:185",#[⟨3,.data⟩,⟨2,.chain⟩],none⟩) rfl (fun K hK => ?_) (AllReadyH.cons (o := ⟨some 6,.alloc 32,0,"law.go:185",#[],none⟩) rfl (fun K hK => ?_) AllReadyH.nil))
    ·go_simp
     go_at_call 26
     with_reducible refine (HDU.out _ hHeld.2.out.1).mono ?_
     rintro e3 v3 ⟨us, ad, cd, rfl, hol, hb⟩
     rw [HLD.out] at hol ⊢
     refine hK.out _ _ ?_ (fun hHeld => ?_)
     ·(try dsimp only)
      exact S5.go hHeld (hb.mono hHeld.2.out.1.size)
     clear hK K
     try simp only [Rg.gp]
     have Hol_3 := Lib.hid hol
     have Hfa_3 := Lib.hid (Hfa_2.out.below hb)
     clear Hfa_2
     have Hx5_3 := Lib.hid (Hx5_2.out.below hb)
     clear Hx5_2
     have HBW3 : Hid (Below w4.heap.size w4 v3) := Lib.hid hHeld.2.out.1
     clear hb hol
     refine Rg.rd1 6 ⟨some 6,.alloc 32,0,"law.go:185",#[],none⟩ fun K hK => ?_
     go_simp
     refine hK.out _ _ ?_ (fun hHeld => ?_)
     ·(try dsimp only)
      exact S5.go hHeld ((Below.refl v3.heap.size v3).alloc (Nat.le_refl _) _ |>.mono hHeld.2.out.1.size)
     clear hK K
     try simp only [Rg.gp]
     obtain ⟨v4, hv4⟩ : ∃ w, w = (World.alloc v3 (.cells #[.int .i64 0, .int .i64 0, .slice none 0 0] 32)) := ⟨_, rfl⟩
     obtain ⟨y6, hy6⟩ : ∃ x, x = (World.heap v3).size := ⟨_, rfl⟩
     rw [← hv4] at hHeld ⊢
     rw [← hy6]
     have hb : Below (World.heap v3).size v3 v4 := by rw [hv4]; exact ((Below.refl v3.heap.size v3).alloc (Nat.le_refl _) (.cells #[.int .i64 0, .int .i64 0, .slice none 0 0] 32))
     have Hx6_4 : Hid (BC y6 [.int .i64 0, .int .i64 0, .slice none 0 0] 32 v4) := Lib.hid (by rw [hv4, hy6]; exact BC.new v3 [.int .i64 0, .int .i64 0, .slice none 0 0] 32 rfl)
     have HL6 : Hid (w4.heap.size ≤ y6) := Lib.hid (by rw [hy6]; exact HBW3.out.size)
     have HN6 := Lib.hid (show ¬ b = y6 from fun e => by have h1 := FldAt.lt Hfa_3.out; omega)
     have Hfa_4 := Lib.hid (Hfa_3.out.below hb)
     clear Hfa_3
     have Hol_4 := Lib.hid (Hol_3.out.below hb)
     clear Hol_3
     have Hx5_4 := Lib.hid (Hx5_3.out.below hb)
     clear Hx5_3
     have HBW4 : Hid (Below w4.heap.size w4 v4) := Lib.hid hHeld.2.out.1
     clear hv4 hy6 hb
     refine Rg.rd1 7 ⟨none,.store 53 (.tmp 5) (.tmp 16),0,"law.go:185",#[⟨5,.data⟩,⟨2,.data⟩,⟨4,.chain⟩,⟨0,.phase⟩,⟨1,.phase⟩,⟨2,.phase⟩,⟨3,.textOnly Go.Departure.lateStores⟩,⟨4,.textOnly Go.Departure.lateStoresUnsure⟩,⟨5,.phase⟩,⟨6,.phase⟩],none⟩ fun K hK => ?_
     have r0 := Hx5_4.out.cell (i := 0) rfl
     have g0 := Hx5_4.out.fz 0
     have r1 := Hx5_4.out.cell (i := 1) rfl
     have g1 := Hx5_4.out.fz 1
     have r2 := Hx5_4.out.cell (i := 2) rfl
     have g2 := Hx5_4.out.fz 2
     have hbx : Bx (fun k => k = y5) v4 (World.setCell (World.setCell (World.setCell v4 ⟨y5, 0, none⟩ (.int .i64 F.p)) ⟨y5, 1, none⟩ (.int .i64 F.e)) ⟨y5, 2, none⟩ (FM F b cap)) := bx3 _ _ _
     have hbl : Below w4.heap.size v4 (World.setCell (World.setCell (World.setCell v4 ⟨y5, 0, none⟩ (.int .i64 F.p)) ⟨y5, 1, none⟩ (.int .i64 F.e)) ⟨y5, 2, none⟩ (FM F b cap)) := hbx.below HBW4.out.size (fun k hk => by have h1 := HL5.out; omega)
     go_simp
     refine hK.out _ _ ?_ (fun hHeld => ?_)
     ·(try dsimp only)
      exact S5.go hHeld hbl
     clear hK K
     try simp only [Rg.gp]
     obtain ⟨v5, hv5⟩ : ∃ w, w = (World.setCell (World.setCell (World.setCell v4 ⟨y5, 0, none⟩ (.int .i64 F.p)) ⟨y5, 1, none⟩ (.int .i64 F.e)) ⟨y5, 2, none⟩ (FM F b cap)) := ⟨_, rfl⟩
     rw [← hv5] at hHeld hbx ⊢
     have Hx5_5 : Hid (BC y5 [.int .i64 F.p, .int .i64 F.e, FM F b cap] 53 v5) := Lib.hid (by rw [hv5]; exact Hx5_4.out.set3 _ _ _)
     have Hol_5 := Lib.hid (OL.bc Hol_4.out Hx5_4.out (by decide) (by decide) hbx)
     have Hfa_5 := Lib.hid (Hfa_4.out.bx hbx HN5.out)
     have Hx6_5 := Lib.hid (Hx6_4.out.bx hbx (BC.ne Hx6_4.out Hx5_4.out (by decide)))
     have HBW5 : Hid (Below w4.heap.size w4 v5) := Lib.hid hHeld.2.out.1
     clear hv5 hbx hbl r0 r1 r2 g0 g1 g2 Hx5_4 Hol_4 Hfa_4 Hx6_4
     refine Rg.rd1 8 ⟨none,.store 32 (.tmp 6) (.tmp 18),0,"law.go:185",#[⟨6,.data⟩,⟨4,.data⟩,⟨7,.chain⟩,⟨0,.phase⟩,⟨1,.phase⟩,⟨2,.phase⟩,⟨3,.phase⟩,⟨4,.phase⟩,⟨5,.phase⟩,⟨6,.phase⟩,⟨7,.phase⟩],none⟩ fun K hK => ?_
     have r0 := Hx6_5.out.cell (i := 0) rfl
     have g0 := Hx6_5.out.fz 0
     have r1 := Hx6_5.out.cell (i := 1) rfl
     have g1 := Hx6_5.out.fz 1
     have r2 := Hx6_5.out.cell (i := 2) rfl
     have g2 := Hx6_5.out.fz 2
     have hbx : Bx (fun k => k = y6) v5 (World.setCell (World.setCell (World.setCell v5 ⟨y6, 0, none⟩ (.int .i64 (q : Nat))) ⟨y6, 1, none⟩ (.int .i64 (n : Nat))) ⟨y6, 2, none⟩ (.slice ad ld cd)) := bx3 _ _ _
     have hbl : Below w4.heap.size v5 (World.setCell (World.setCell (World.setCell v5 ⟨y6, 0, none⟩ (.int .i64 (q : Nat))) ⟨y6, 1, none⟩ (.int .i64 (n : Nat))) ⟨y6, 2, none⟩ (.slice ad ld cd)) := hbx.below HBW5.out.size (fun k hk => by have h1 := HL6.out; omega)
     go_simp
     refine hK.out _ _ ?_ (fun hHeld => ?_)
     ·(try dsimp only)
      exact S5.go hHeld hbl
     clear hK K
     try simp only [Rg.gp]
     obtain ⟨v6, hv6⟩ : ∃ w, w = (World.setCell (World.setCell (World.setCell v5 ⟨y6, 0, none⟩ (.int .i64 (q : Nat))) ⟨y6, 1, none⟩ (.int .i64 (n : Nat))) ⟨y6, 2, none⟩ (.slice ad ld cd)) := ⟨_, rfl⟩
     rw [← hv6] at hHeld hbx ⊢
     have Hx6_6 : Hid (BC y6 [.int .i64 (q : Nat), .int .i64 (n : Nat), .slice ad ld cd] 32 v6) := Lib.hid (by rw [hv6]; exact Hx6_5.out.set3 _ _ _)
     have Hol_6 := Lib.hid (OL.bc Hol_5.out Hx6_5.out (by decide) (by decide) hbx)
     have Hfa_6 := Lib.hid (Hfa_5.out.bx hbx HN6.out)
     have Hx5_6 := Lib.hid (Hx5_5.out.bx hbx (BC.ne Hx5_5.out Hx6_5.out (by decide)))
     have HBW6 : Hid (Below w4.heap.size w4 v6) := Lib.hid hHeld.2.out.1
     clear hv6 hbx hbl r0 r1 r2 g0 g1 g2 Hx6_5 Hol_5 Hfa_5 Hx5_5
     refine wpAnyH_done (by kernel_rfl) ?_ _
     exact hrest y5 y6 b cap us ad cd v6 (Lib.hid ⟨Hx5_6.out, Hx6_6.out, Hfa_6.out, Hol_6.out.mm, HBW6.out⟩)
    ·go_simp
     refine hK.out _ _ ?_ (fun hHeld => ?_)
     ·(try dsimp only)
      exact S5.go hHeld ((Below.refl v2.heap.size v2).alloc (Nat.le_refl _) _ |>.mono hHeld.2.out.1.size)
     clear hK K
     try simp only [Rg.gp]
     obtain ⟨v3, hv3⟩ : ∃ w, w = (World.alloc v2 (.cells #[.int .i64 0, .int .i64 0, .slice none 0 0] 32)) := ⟨_, rfl⟩
     obtain ⟨y6, hy6⟩ : ∃ x, x = (World.heap v2).size := ⟨_, rfl⟩
     rw [← hv3] at hHeld ⊢
     rw [← hy6]
     have hb : Below (World.heap v2).size v2 v3 := by rw [hv3]; exact ((Below.refl v2.heap.size v2).alloc (Nat.le_refl _) (.cells #[.int .i64 0, .int .i64 0, .slice none 0 0] 32))
     have Hx6_3 : Hid (BC y6 [.int .i64 0, .int .i64 0, .slice none 0 0] 32 v3) := Lib.hid (by rw [hv3, hy6]; exact BC.new v2 [.int .i64 0, .int .i64 0, .slice none 0 0] 32 rfl)
     have HL6 : Hid (w4.heap.size ≤ y6) := Lib.hid (by rw [hy6]; exact HBW2.out.size)
     have HN6 := Lib.hid (show ¬ b = y6 from fun e => by have h1 := FldAt.lt Hfa_2.out; omega)
     have Hfa_3 := Lib.hid (Hfa_2.out.below hb)
     clear Hfa_2
     have Hx5_3 := Lib.hid (Hx5_2.out.below hb)
     clear Hx5_2
     have HBW3 : Hid (Below w4.heap.size w4 v3) := Lib.hid hHeld.2.out.1
     clear hv3 hy6 hb
     refine Rg.rd1 4 ⟨some 18,.call ⟨.value (.func 26),#[.tmp 17],#[32]⟩,32,"law.go:185",#[⟨3,.data⟩,⟨2,.chain⟩],none⟩ fun K hK => ?_
     go_simp
     go_at_call 26
     with_reducible refine (HDU.out _ hHeld.2.out.1).mono ?_
     rintro e4 v4 ⟨us, ad, cd, rfl, hol, hb⟩
     rw [HLD.out] at hol ⊢
     refine hK.out _ _ ?_ (fun hHeld => ?_)
     ·(try dsimp only)
      exact S5.go hHeld (hb.mono hHeld.2.out.1.size)
     clear hK K
     try simp only [Rg.gp]
     have Hol_4 := Lib.hid hol
     have Hfa_4 := Lib.hid (Hfa_3.out.below hb)
     clear Hfa_3
     have Hx5_4 := Lib.hid (Hx5_3.out.below hb)
     clear Hx5_3
     have Hx6_4 := Lib.hid (Hx6_3.out.below hb)
     clear Hx6_3
     have HBW4 : Hid (Below w4.heap.size w4 v4) := Lib.hid hHeld.2.out.1
     clear hb hol
     refine Rg.rd1 7 ⟨none,.store 53 (.tmp 5) (.tmp 16),0,"law.go:185",#[⟨5,.data⟩,⟨2,.data⟩,⟨4,.chain⟩,⟨0,.phase⟩,⟨1,.phase⟩,⟨2,.phase⟩,⟨3,.textOnly Go.Departure.lateStores⟩,⟨4,.textOnly Go.Departure.lateStoresUnsure⟩,⟨5,.phase⟩,⟨6,.phase⟩],none⟩ fun K hK => ?_
     have r0 := Hx5_4.out.cell (i := 0) rfl
     have g0 := Hx5_4.out.fz 0
     have r1 := Hx5_4.out.cell (i := 1) rfl
     have g1 := Hx5_4.out.fz 1
     have r2 := Hx5_4.out.cell (i := 2) rfl
     have g2 := Hx5_4.out.fz 2
     have hbx : Bx (fun k => k = y5) v4 (World.setCell (World.setCell (World.setCell v4 ⟨y5, 0, none⟩ (.int .i64 F.p)) ⟨y5, 1, none⟩ (.int .i64 F.e)) ⟨y5, 2, none⟩ (FM F b cap)) := bx3 _ _ _
     have hbl : Below w4.heap.size v4 (World.setCell (World.setCell (World.setCell v4 ⟨y5, 0, none⟩ (.int .i64 F.p)) ⟨y5, 1, none⟩ (.int .i64 F.e)) ⟨y5, 2, none⟩ (FM F b cap)) := hbx.below HBW4.out.size (fun k hk => by have h1 := HL5.out; omega)
     go_simp
     refine hK.out _ _ ?_ (fun hHeld => ?_)
     ·(try dsimp only)
      exact S5.go hHeld hbl
     clear hK K
     try simp only [Rg.gp]
     obtain ⟨v5, hv5⟩ : ∃ w, w = (World.setCell (World.setCell (World.setCell v4 ⟨y5, 0, none⟩ (.int .i64 F.p)) ⟨y5, 1, none⟩ (.int .i64 F.e)) ⟨y5, 2, none⟩ (FM F b cap)) := ⟨_, rfl⟩
     rw [← hv5] at hHeld hbx ⊢
     have Hx5_5 : Hid (BC y5 [.int .i64 F.p, .int .i64 F.e, FM F b cap] 53 v5) := Lib.hid (by rw [hv5]; exact Hx5_4.out.set3 _ _ _)
     have Hol_5 := Lib.hid (OL.bc Hol_4.out Hx5_4.out (by decide) (by decide) hbx)
     have Hfa_5 := Lib.hid (Hfa_4.out.bx hbx HN5.out)
     have Hx6_5 := Lib.hid (Hx6_4.out.bx hbx (BC.ne Hx6_4.out Hx5_4.out (by decide)))
     have HBW5 : Hid (Below w4.heap.size w4 v5) := Lib.hid hHeld.2.out.1
     clear hv5 hbx hbl r0 r1 r2 g0 g1 g2 Hx5_4 Hol_4 Hfa_4 Hx6_4
     refine Rg.rd1 8 ⟨none,.store 32 (.tmp 6) (.tmp 18),0,"law.go:185",#[⟨6,.data⟩,⟨4,.data⟩,⟨7,.chain⟩,⟨0,.phase⟩,⟨1,.phase⟩,⟨2,.phase⟩,⟨3,.phase⟩,⟨4,.phase⟩,⟨5,.phase⟩,⟨6,.phase⟩,⟨7,.phase⟩],none⟩ fun K hK => ?_
     have r0 := Hx6_5.out.cell (i := 0) rfl
     have g0 := Hx6_5.out.fz 0
     have r1 := Hx6_5.out.cell (i := 1) rfl
     have g1 := Hx6_5.out.fz 1
     have r2 := Hx6_5.out.cell (i := 2) rfl
     have g2 := Hx6_5.out.fz 2
     have hbx : Bx (fun k => k = y6) v5 (World.setCell (World.setCell (World.setCell v5 ⟨y6, 0, none⟩ (.int .i64 (q : Nat))) ⟨y6, 1, none⟩ (.int .i64 (n : Nat))) ⟨y6, 2, none⟩ (.slice ad ld cd)) := bx3 _ _ _
     have hbl : Below w4.heap.size v5 (World.setCell (World.setCell (World.setCell v5 ⟨y6, 0, none⟩ (.int .i64 (q : Nat))) ⟨y6, 1, none⟩ (.int .i64 (n : Nat))) ⟨y6, 2, none⟩ (.slice ad ld cd)) := hbx.below HBW5.out.size (fun k hk => by have h1 := HL6.out; omega)
     go_simp
     refine hK.out _ _ ?_ (fun hHeld => ?_)
     ·(try dsimp only)
      exact S5.go hHeld hbl
     clear hK K
     try simp only [Rg.gp]
     obtain ⟨v6, hv6⟩ : ∃ w, w = (World.setCell (World.setCell (World.setCell v5 ⟨y6, 0, none⟩ (.int .i64 (q : Nat))) ⟨y6, 1, none⟩ (.int .i64 (n : Nat))) ⟨y6, 2, none⟩ (.slice ad ld cd)) := ⟨_, rfl⟩
     rw [← hv6] at hHeld hbx ⊢
     have Hx6_6 : Hid (BC y6 [.int .i64 (q : Nat), .int .i64 (n : Nat), .slice ad ld cd] 32 v6) := Lib.hid (by rw [hv6]; exact Hx6_5.out.set3 _ _ _)
     have Hol_6 := Lib.hid (OL.bc Hol_5.out Hx6_5.out (by decide) (by decide) hbx)
     have Hfa_6 := Lib.hid (Hfa_5.out.bx hbx HN6.out)
     have Hx5_6 := Lib.hid (Hx5_5.out.bx hbx (BC.ne Hx5_5.out Hx6_5.out (by decide)))
     have HBW6 : Hid (Below w4.heap.size w4 v6) := Lib.hid hHeld.2.out.1
     clear hv6 hbx hbl r0 r1 r2 g0 g1 g2 Hx6_5 Hol_5 Hfa_5 Hx5_5
     refine wpAnyH_done (by kernel_rfl) ?_ _
     exact hrest y5 y6 b cap us ad cd v6 (Lib.hid ⟨Hx5_6.out, Hx6_6.out, Hfa_6.out, Hol_6.out.mm, HBW6.out⟩)
   ·go_simp
    refine hK.out _ _ ?_ (fun hHeld => ?_)
    ·(try dsimp only)
     exact S5.go hHeld ((Below.refl v1.heap.size v1).alloc (Nat.le_refl _) _ |>.mono hHeld.2.out.1.size)
    clear hK K
    try simp only [Rg.gp]
    obtain ⟨v2, hv2⟩ : ∃ w, w = (World.alloc v1 (.cells #[.int .i64 0, .int .i64 0, .slice none 0 0] 32)) := ⟨_, rfl⟩
    obtain ⟨y6, hy6⟩ : ∃ x, x = (World.heap v1).size := ⟨_, rfl⟩
    rw [← hv2] at hHeld ⊢
    rw [← hy6]
    have hb : Below (World.heap v1).size v1 v2 := by rw [hv2]; exact ((Below.refl v1.heap.size v1).alloc (Nat.le_refl _) (.cells #[.int .i64 0, .int .i64 0, .slice none 0 0] 32))
    have Hx6_2 : Hid (BC y6 [.int .i64 0, .int .i64 0, .slice none 0 0] 32 v2) := Lib.hid (by rw [hv2, hy6]; exact BC.new v1 [.int .i64 0, .int .i64 0, .slice none 0 0] 32 rfl)
    have HL6 : Hid (w4.heap.size ≤ y6) := Lib.hid (by rw [hy6]; exact HBW1.out.size)
    have HN6 := Lib.hid (show ¬ b = y6 from fun e => by have h1 := FldAt.lt Hfa_1.out; omega)
    have Hfa_2 := Lib.hid (Hfa_1.out.below hb)
    clear Hfa_1
    have HBW2 : Hid (Below w4.heap.size w4 v2) := Lib.hid hHeld.2.out.1
    clear hv2 hy6 hb
    refine wpAnyH_ready (rs := [4, 5]) (by kernel_rfl) (by simp) ?_
    refine (AllReadyH.cons (o := ⟨some 18,.call ⟨.value (.func 26),#[.tmp 17],#[32]⟩,32,"law.go:185",#[⟨3,.data⟩,⟨2,.chain⟩],none⟩) rfl (fun K hK => ?_) (AllReadyH.cons (o := ⟨some 5,.alloc 53,0,"law.go:185",#[],none⟩) rfl (fun K hK => ?_) AllReadyH.nil))
    ·go_simp
     go_at_call 26
     with_reducible refine (HDU.out _ hHeld.2.out.1).mono ?_
     rintro e3 v3 ⟨us, ad, cd, rfl, hol, hb⟩
     rw [HLD.out] at hol ⊢
     refine hK.out _ _ ?_ (fun hHeld => ?_)
     ·(try dsimp only)
      exact S5.go hHeld (hb.mono hHeld.2.out.1.size)
     clear hK K
     try simp only [Rg.gp]
     have Hol_3 := Lib.hid hol
     have Hfa_3 := Lib.hid (Hfa_2.out.below hb)
     clear Hfa_2
     have Hx6_3 := Lib.hid (Hx6_2.out.below hb)
     clear Hx6_2
     have HBW3 : Hid (Below w4.heap.size w4 v3) := Lib.hid hHeld.2.out.1
     clear hb hol
     refine Rg.rd1 5 ⟨some 5,.alloc 53,0,"law.go:185",#[],none⟩ fun K hK => ?_
     go_simp
     refine hK.out _ _ ?_ (fun hHeld => ?_)
     ·(try dsimp only)
      exact S5.go hHeld ((Below.refl v3.heap.size v3).alloc (Nat.le_refl _) _ |>.mono hHeld.2.out.1.size)
     clear hK K
     try simp only [Rg.gp]
     obtain ⟨v4, hv4⟩ : ∃ w, w = (World.alloc v3 (.cells #[.int .i64 0, .int .i64 0, .slice none 0 0] 53)) := ⟨_, rfl⟩
     obtain ⟨y5, hy5⟩ : ∃ x, x = (World.heap v3).size := ⟨_, rfl⟩
     rw [← hv4] at hHeld ⊢
     rw [← hy5]
     have hb : Below (World.heap v3).size v3 v4 := by rw [hv4]; exact ((Below.refl v3.heap.size v3).alloc (Nat.le_refl _) (.cells #[.int .i64 0, .int .i64 0, .slice none 0 0] 53))
     have Hx5_4 : Hid (BC y5 [.int .i64 0, .int .i64 0, .slice none 0 0] 53 v4) := Lib.hid (by rw [hv4, hy5]; exact BC.new v3 [.int .i64 0, .int .i64 0, .slice none 0 0] 53 rfl)
     have HL5 : Hid (w4.heap.size ≤ y5) := Lib.hid (by rw [hy5]; exact HBW3.out.size)
     have HN5 := Lib.hid (show ¬ b = y5 from fun e => by have h1 := FldAt.lt Hfa_3.out; omega)
     have Hfa_4 := Lib.hid (Hfa_3.out.below hb)
     clear Hfa_3
     have Hol_4 := Lib.hid (Hol_3.out.below hb)
     clear Hol_3
     have Hx6_4 := Lib.hid (Hx6_3.out.below hb)
     clear Hx6_3
     have HBW4 : Hid (Below w4.heap.size w4 v4) := Lib.hid hHeld.2.out.1
     clear hv4 hy5 hb
     refine Rg.rd1 7 ⟨none,.store 53 (.tmp 5) (.tmp 16),0,"law.go:185",#[⟨5,.data⟩,⟨2,.data⟩,⟨4,.chain⟩,⟨0,.phase⟩,⟨1,.phase⟩,⟨2,.phase⟩,⟨3,.textOnly Go.Departure.lateStores⟩,⟨4,.textOnly Go.Departure.lateStoresUnsure⟩,⟨5,.phase⟩,⟨6,.phase⟩],none⟩ fun K hK => ?_
     have r0 := Hx5_4.out.cell (i := 0) rfl
     have g0 := Hx5_4.out.fz 0
     have r1 := Hx5_4.out.cell (i := 1) rfl
     have g1 := Hx5_4.out.fz 1
     have r2 := Hx5_4.out.cell (i := 2) rfl
     have g2 := Hx5_4.out.fz 2
     have hbx : Bx (fun k => k = y5) v4 (World.setCell (World.setCell (World.setCell v4 ⟨y5, 0, none⟩ (.int .i64 F.p)) ⟨y5, 1, none⟩ (.int .i64 F.e)) ⟨y5, 2, none⟩ (FM F b cap)) := bx3 _ _ _
     have hbl : Below w4.heap.size v4 (World.setCell (World.setCell (World.setCell v4 ⟨y5, 0, none⟩ (.int .i64 F.p)) ⟨y5, 1, none⟩ (.int .i64 F.e)) ⟨y5, 2, none⟩ (FM F b cap)) := hbx.below HBW4.out.size (fun k hk => by have h1 := HL5.out; omega)
     go_simp
     refine hK.out _ _ ?_ (fun hHeld => ?_)
     ·(try dsimp only)
      exact S5.go hHeld hbl
     clear hK K
     try simp only [Rg.gp]
     obtain ⟨v5, hv5⟩ : ∃ w, w = (World.setCell (World.setCell (World.setCell v4 ⟨y5, 0, none⟩ (.int .i64 F.p)) ⟨y5, 1, none⟩ (.int .i64 F.e)) ⟨y5, 2, none⟩ (FM F b cap)) := ⟨_, rfl⟩
     rw [← hv5] at hHeld hbx ⊢
     have Hx5_5 : Hid (BC y5 [.int .i64 F.p, .int .i64 F.e, FM F b cap] 53 v5) := Lib.hid (by rw [hv5]; exact Hx5_4.out.set3 _ _ _)
     have Hol_5 := Lib.hid (OL.bc Hol_4.out Hx5_4.out (by decide) (by decide) hbx)
     have Hfa_5 := Lib.hid (Hfa_4.out.bx hbx HN5.out)
     have Hx6_5 := Lib.hid (Hx6_4.out.bx hbx (BC.ne Hx6_4.out Hx5_4.out (by decide)))
     have HBW5 : Hid (Below w4.heap.size w4 v5) := Lib.hid hHeld.2.out.1
     clear hv5 hbx hbl r0 r1 r2 g0 g1 g2 Hx5_4 Hol_4 Hfa_4 Hx6_4
     refine Rg.rd1 8 ⟨none,.store 32 (.tmp 6) (.tmp 18),0,"law.go:185",#[⟨6,.data⟩,⟨4,.data⟩,⟨7,.chain⟩,⟨0,.phase⟩,⟨1,.phase⟩,⟨2,.phase⟩,⟨3,.phase⟩,⟨4,.phase⟩,⟨5,.phase⟩,⟨6,.phase⟩,⟨7,.phase⟩],none⟩ fun K hK => ?_
     have r0 := Hx6_5.out.cell (i := 0) rfl
     have g0 := Hx6_5.out.fz 0
     have r1 := Hx6_5.out.cell (i := 1) rfl
     have g1 := Hx6_5.out.fz 1
     have r2 := Hx6_5.out.cell (i := 2) rfl
     have g2 := Hx6_5.out.fz 2
     have hbx : Bx (fun k => k = y6) v5 (World.setCell (World.setCell (World.setCell v5 ⟨y6, 0, none⟩ (.int .i64 (q : Nat))) ⟨y6, 1, none⟩ (.int .i64 (n : Nat))) ⟨y6, 2, none⟩ (.slice ad ld cd)) := bx3 _ _ _
     have hbl : Below w4.heap.size v5 (World.setCell (World.setCell (World.setCell v5 ⟨y6, 0, none⟩ (.int .i64 (q : Nat))) ⟨y6, 1, none⟩ (.int .i64 (n : Nat))) ⟨y6, 2, none⟩ (.slice ad ld cd)) := hbx.below HBW5.out.size (fun k hk => by have h1 := HL6.out; omega)
     go_simp
     refine hK.out _ _ ?_ (fun hHeld => ?_)
     ·(try dsimp only)
      exact S5.go hHeld hbl
     clear hK K
     try simp only [Rg.gp]
     obtain ⟨v6, hv6⟩ : ∃ w, w = (World.setCell (World.setCell (World.setCell v5 ⟨y6, 0, none⟩ (.int .i64 (q : Nat))) ⟨y6, 1, none⟩ (.int .i64 (n : Nat))) ⟨y6, 2, none⟩ (.slice ad ld cd)) := ⟨_, rfl⟩
     rw [← hv6] at hHeld hbx ⊢
     have Hx6_6 : Hid (BC y6 [.int .i64 (q : Nat), .int .i64 (n : Nat), .slice ad ld cd] 32 v6) := Lib.hid (by rw [hv6]; exact Hx6_5.out.set3 _ _ _)
     have Hol_6 := Lib.hid (OL.bc Hol_5.out Hx6_5.out (by decide) (by decide) hbx)
     have Hfa_6 := Lib.hid (Hfa_5.out.bx hbx HN6.out)
     have Hx5_6 := Lib.hid (Hx5_5.out.bx hbx (BC.ne Hx5_5.out Hx6_5.out (by decide)))
     have HBW6 : Hid (Below w4.heap.size w4 v6) := Lib.hid hHeld.2.out.1
     clear hv6 hbx hbl r0 r1 r2 g0 g1 g2 Hx6_5 Hol_5 Hfa_5 Hx5_5
     refine wpAnyH_done (by kernel_rfl) ?_ _
     exact hrest y5 y6 b cap us ad cd v6 (Lib.hid ⟨Hx5_6.out, Hx6_6.out, Hfa_6.out, Hol_6.out.mm, HBW6.out⟩)
    ·go_simp
     refine hK.out _ _ ?_ (fun hHeld => ?_)
     ·(try dsimp only)
      exact S5.go hHeld ((Below.refl v2.heap.size v2).alloc (Nat.le_refl _) _ |>.mono hHeld.2.out.1.size)
     clear hK K
     try simp only [Rg.gp]
     obtain ⟨v3, hv3⟩ : ∃ w, w = (World.alloc v2 (.cells #[.int .i64 0, .int .i64 0, .slice none 0 0] 53)) := ⟨_, rfl⟩
     obtain ⟨y5, hy5⟩ : ∃ x, x = (World.heap v2).size := ⟨_, rfl⟩
     rw [← hv3] at hHeld ⊢
     rw [← hy5]
     have hb : Below (World.heap v2).size v2 v3 := by rw [hv3]; exact ((Below.refl v2.heap.size v2).alloc (Nat.le_refl _) (.cells #[.int .i64 0, .int .i64 0, .slice none 0 0] 53))
     have Hx5_3 : Hid (BC y5 [.int .i64 0, .int .i64 0, .slice none 0 0] 53 v3) := Lib.hid (by rw [hv3, hy5]; exact BC.new v2 [.int .i64 0, .int .i64 0, .slice none 0 0] 53 rfl)
     have HL5 : Hid (w4.heap.size ≤ y5) := Lib.hid (by rw [hy5]; exact HBW2.out.size)
     have HN5 := Lib.hid (show ¬ b = y5 from fun e => by have h1 := FldAt.lt Hfa_2.out; omega)
     have Hfa_3 := Lib.hid (Hfa_2.out.below hb)
     clear Hfa_2
     have Hx6_3 := Lib.hid (Hx6_2.out.below hb)
     clear Hx6_2
     have HBW3 : Hid (Below w4.heap.size w4 v3) := Lib.hid hHeld.2.out.1
     clear hv3 hy5 hb
     refine Rg.rd1 4 ⟨some 18,.call ⟨.value (.func 26),#[.tmp 17],#[32]⟩,32,"law.go:185",#[⟨3,.data⟩,⟨2,.chain⟩],none⟩ fun K hK => ?_
     go_simp
     go_at_call 26
     with_reducible refine (HDU.out _ hHeld.2.out.1).mono ?_
     rintro e4 v4 ⟨us, ad, cd, rfl, hol, hb⟩
     rw [HLD.out] at hol ⊢
     refine hK.out _ _ ?_ (fun hHeld => ?_)
     ·(try dsimp only)
      exact S5.go hHeld (hb.mono hHeld.2.out.1.size)
     clear hK K
     try simp only [Rg.gp]
     have Hol_4 := Lib.hid hol
     have Hfa_4 := Lib.hid (Hfa_3.out.below hb)
     clear Hfa_3
     have Hx5_4 := Lib.hid (Hx5_3.out.below hb)
     clear Hx5_3
     have Hx6_4 := Lib.hid (Hx6_3.out.below hb)
     clear Hx6_3
     have HBW4 : Hid (Below w4.heap.size w4 v4) := Lib.hid hHeld.2.out.1
     clear hb hol
     refine Rg.rd1 7 ⟨none,.store 53 (.tmp 5) (.tmp 16),0,"law.go:185",#[⟨5,.data⟩,⟨2,.data⟩,⟨4,.chain⟩,⟨0,.phase⟩,⟨1,.phase⟩,⟨2,.phase⟩,⟨3,.textOnly Go.Departure.lateStores⟩,⟨4,.textOnly Go.Departure.lateStoresUnsure⟩,⟨5,.phase⟩,⟨6,.phase⟩],none⟩ fun K hK => ?_
     have r0 := Hx5_4.out.cell (i := 0) rfl
     have g0 := Hx5_4.out.fz 0
     have r1 := Hx5_4.out.cell (i := 1) rfl
     have g1 := Hx5_4.out.fz 1
     have r2 := Hx5_4.out.cell (i := 2) rfl
     have g2 := Hx5_4.out.fz 2
     have hbx : Bx (fun k => k = y5) v4 (World.setCell (World.setCell (World.setCell v4 ⟨y5, 0, none⟩ (.int .i64 F.p)) ⟨y5, 1, none⟩ (.int .i64 F.e)) ⟨y5, 2, none⟩ (FM F b cap)) := bx3 _ _ _
     have hbl : Below w4.heap.size v4 (World.setCell (World.setCell (World.setCell v4 ⟨y5, 0, none⟩ (.int .i64 F.p)) ⟨y5, 1, none⟩ (.int .i64 F.e)) ⟨y5, 2, none⟩ (FM F b cap)) := hbx.below HBW4.out.size (fun k hk => by have h1 := HL5.out; omega)
     go_simp
     refine hK.out _ _ ?_ (fun hHeld => ?_)
     ·(try dsimp only)
      exact S5.go hHeld hbl
     clear hK K
     try simp only [Rg.gp]
     obtain ⟨v5, hv5⟩ : ∃ w, w = (World.setCell (World.setCell (World.setCell v4 ⟨y5, 0, none⟩ (.int .i64 F.p)) ⟨y5, 1, none⟩ (.int .i64 F.e)) ⟨y5, 2, none⟩ (FM F b cap)) := ⟨_, rfl⟩
     rw [← hv5] at hHeld hbx ⊢
     have Hx5_5 : Hid (BC y5 [.int .i64 F.p, .int .i64 F.e, FM F b cap] 53 v5) := Lib.hid (by rw [hv5]; exact Hx5_4.out.set3 _ _ _)
     have Hol_5 := Lib.hid (OL.bc Hol_4.out Hx5_4.out (by decide) (by decide) hbx)
     have Hfa_5 := Lib.hid (Hfa_4.out.bx hbx HN5.out)
     have Hx6_5 := Lib.hid (Hx6_4.out.bx hbx (BC.ne Hx6_4.out Hx5_4.out (by decide)))
     have HBW5 : Hid (Below w4.heap.size w4 v5) := Lib.hid hHeld.2.out.1
     clear hv5 hbx hbl r0 r1 r2 g0 g1 g2 Hx5_4 Hol_4 Hfa_4 Hx6_4
     refine Rg.rd1 8 ⟨none,.store 32 (.tmp 6) (.tmp 18),0,"law.go:185",#[⟨6,.data⟩,⟨4,.data⟩,⟨7,.chain⟩,⟨0,.phase⟩,⟨1,.phase⟩,⟨2,.phase⟩,⟨3,.phase⟩,⟨4,.phase⟩,⟨5,.phase⟩,⟨6,.phase⟩,⟨7,.phase⟩],none⟩ fun K hK => ?_
     have r0 := Hx6_5.out.cell (i := 0) rfl
     have g0 := Hx6_5.out.fz 0
     have r1 := Hx6_5.out.cell (i := 1) rfl
     have g1 := Hx6_5.out.fz 1
     have r2 := Hx6_5.out.cell (i := 2) rfl
     have g2 := Hx6_5.out.fz 2
     have hbx : Bx (fun k => k = y6) v5 (World.setCell (World.setCell (World.setCell v5 ⟨y6, 0, none⟩ (.int .i64 (q : Nat))) ⟨y6, 1, none⟩ (.int .i64 (n : Nat))) ⟨y6, 2, none⟩ (.slice ad ld cd)) := bx3 _ _ _
     have hbl : Below w4.heap.size v5 (World.setCell (World.setCell (World.setCell v5 ⟨y6, 0, none⟩ (.int .i64 (q : Nat))) ⟨y6, 1, none⟩ (.int .i64 (n : Nat))) ⟨y6, 2, none⟩ (.slice ad ld cd)) := hbx.below HBW5.out.size (fun k hk => by have h1 := HL6.out; omega)
     go_simp
     refine hK.out _ _ ?_ (fun hHeld => ?_)
     ·(try dsimp only)
      exact S5.go hHeld hbl
     clear hK K
     try simp only [Rg.gp]
     obtain ⟨v6, hv6⟩ : ∃ w, w = (World.setCell (World.setCell (World.setCell v5 ⟨y6, 0, none⟩ (.int .i64 (q : Nat))) ⟨y6, 1, none⟩ (.int .i64 (n : Nat))) ⟨y6, 2, none⟩ (.slice ad ld cd)) := ⟨_, rfl⟩
     rw [← hv6] at hHeld hbx ⊢
     have Hx6_6 : Hid (BC y6 [.int .i64 (q : Nat), .int .i64 (n : Nat), .slice ad ld cd] 32 v6) := Lib.hid (by rw [hv6]; exact Hx6_5.out.set3 _ _ _)
     have Hol_6 := Lib.hid (OL.bc Hol_5.out Hx6_5.out (by decide) (by decide) hbx)
     have Hfa_6 := Lib.hid (Hfa_5.out.bx hbx HN6.out)
     have Hx5_6 := Lib.hid (Hx5_5.out.bx hbx (BC.ne Hx5_5.out Hx6_5.out (by decide)))
     have HBW6 : Hid (Below w4.heap.size w4 v6) := Lib.hid hHeld.2.out.1
     clear hv6 hbx hbl r0 r1 r2 g0 g1 g2 Hx6_5 Hol_5 Hfa_5 Hx5_5
     refine wpAnyH_done (by kernel_rfl) ?_ _
     exact hrest y5 y6 b cap us ad cd v6 (Lib.hid ⟨Hx5_6.out, Hx6_6.out, Hfa_6.out, Hol_6.out.mm, HBW6.out⟩)
  ·go_simp
   refine hK.out _ _ ?_ (fun hHeld => ?_)
   ·(try dsimp only)
    exact S5.go0 hHeld ((Below.refl w4.heap.size w4).alloc (Nat.le_refl _) (.cells #[.int .i64 0, .int .i64 0, .slice none 0 0] 53)).drew
   clear hK K
   try simp only [Rg.gp]
   obtain ⟨v1, hv1⟩ : ∃ w, w = (World.alloc w4 (.cells #[.int .i64 0, .int .i64 0, .slice none 0 0] 53)).drew := ⟨_, rfl⟩
   obtain ⟨y5, hy5⟩ : ∃ x, x = (World.heap w4).size := ⟨_, rfl⟩
   rw [← hv1] at hHeld ⊢
   rw [← hy5]
   have hb : Below (World.heap w4).size w4 v1 := by rw [hv1]; exact ((Below.refl w4.heap.size w4).alloc (Nat.le_refl _) (.cells #[.int .i64 0, .int .i64 0, .slice none 0 0] 53)).drew
   have Hx5_1 : Hid (BC y5 [.int .i64 0, .int .i64 0, .slice none 0 0] 53 v1) := Lib.hid (by rw [hv1, hy5]; exact BC.new w4 [.int .i64 0, .int .i64 0, .slice none 0 0] 53 rfl)
   have HL5 : Hid (w4.heap.size ≤ y5) := Lib.hid (by rw [hy5]; exact Nat.le_refl _)
   have HBW1 : Hid (Below w4.heap.size w4 v1) := Lib.hid hHeld.2.out.1
   clear hv1 hy5 hb
   refine wpAnyH_ready (rs := [2, 6]) (by kernel_rfl) (by simp) ?_
   refine (AllReadyH.cons (o := ⟨some 16,.call ⟨.value (.func 38),#[.tmp 15],#[3]⟩,53,"law.go:185",#[⟨1,.data⟩],none⟩) rfl (fun K hK => ?_) (AllReadyH.cons (o := ⟨some 6,.alloc 32,0,"law.go:185",#[],none⟩) rfl (fun K hK => ?_) AllReadyH.nil))
   ·go_simp
    go_at_call 38
    with_reducible refine (HOV.out _).mono ?_
    rintro e2 v2 ⟨b, cap, rfl, hfa, hb, hbl⟩
    refine hK.out _ _ ?_ (fun hHeld => ?_)
    ·(try dsimp only)
     exact S5.go hHeld (hb.mono hHeld.2.out.1.size)
    clear hK K
    try simp only [Rg.gp]
    have Hfa_2 := Lib.hid hfa
    have HN5 := Lib.hid (show ¬ b = y5 from fun e => by have h1 := Hx5_1.out.lt; omega)
    have Hx5_2 := Lib.hid (Hx5_1.out.below hb)
    clear Hx5_1
    have HBW2 : Hid (Below w4.heap.size w4 v2) := Lib.hid hHeld.2.out.1
    clear hb hbl hfa
    refine wpAnyH_ready (rs := [4, 6]) (by kernel_rfl) (by simp) ?_
    refine (AllReadyH.cons (o := ⟨some 18,.call ⟨.value (.func 26),#[.tmp 17],#[32]⟩,32,"law.go:185",#[⟨3,.data⟩,⟨2,.chain⟩],none⟩) rfl (fun K hK => ?_) (AllReadyH.cons (o := ⟨some 6,.alloc 32,0,"law.go:185",#[],none⟩) rfl (fun K hK => ?_) AllReadyH.nil))
    ·go_simp
     go_at_call 26
     with_reducible refine (HDU.out _ hHeld.2.out.1).mono ?_
     rintro e3 v3 ⟨us, ad, cd, rfl, hol, hb⟩
     rw [HLD.out] at hol ⊢
     refine hK.out _ _ ?_ (fun hHeld => ?_)
     ·(try dsimp only)
      exact S5.go hHeld (hb.mono hHeld.2.out.1.size)
     clear hK K
     try simp only [Rg.gp]
     have Hol_3 := Lib.hid hol
     have Hfa_3 := Lib.hid (Hfa_2.out.below hb)
     clear Hfa_2
     have Hx5_3 := Lib.hid (Hx5_2.out.below hb)
     clear Hx5_2
     have HBW3 : Hid (Below w4.heap.size w4 v3) := Lib.hid hHeld.2.out.1
     clear hb hol
     refine Rg.rd1 6 ⟨some 6,.alloc 32,0,"law.go:185",#[],none⟩ fun K hK => ?_
     go_simp
     refine hK.out _ _ ?_ (fun hHeld => ?_)
     ·(try dsimp only)
      exact S5.go hHeld ((Below.refl v3.heap.size v3).alloc (Nat.le_refl _) _ |>.mono hHeld.2.out.1.size)
     clear hK K
     try simp only [Rg.gp]
     obtain ⟨v4, hv4⟩ : ∃ w, w = (World.alloc v3 (.cells #[.int .i64 0, .int .i64 0, .slice none 0 0] 32)) := ⟨_, rfl⟩
     obtain ⟨y6, hy6⟩ : ∃ x, x = (World.heap v3).size := ⟨_, rfl⟩
     rw [← hv4] at hHeld ⊢
     rw [← hy6]
     have hb : Below (World.heap v3).size v3 v4 := by rw [hv4]; exact ((Below.refl v3.heap.size v3).alloc (Nat.le_refl _) (.cells #[.int .i64 0, .int .i64 0, .slice none 0 0] 32))
     have Hx6_4 : Hid (BC y6 [.int .i64 0, .int .i64 0, .slice none 0 0] 32 v4) := Lib.hid (by rw [hv4, hy6]; exact BC.new v3 [.int .i64 0, .int .i64 0, .slice none 0 0] 32 rfl)
     have HL6 : Hid (w4.heap.size ≤ y6) := Lib.hid (by rw [hy6]; exact HBW3.out.size)
     have HN6 := Lib.hid (show ¬ b = y6 from fun e => by have h1 := FldAt.lt Hfa_3.out; omega)
     have Hfa_4 := Lib.hid (Hfa_3.out.below hb)
     clear Hfa_3
     have Hol_4 := Lib.hid (Hol_3.out.below hb)
     clear Hol_3
     have Hx5_4 := Lib.hid (Hx5_3.out.below hb)
     clear Hx5_3
     have HBW4 : Hid (Below w4.heap.size w4 v4) := Lib.hid hHeld.2.out.1
     clear hv4 hy6 hb
     refine Rg.rd1 7 ⟨none,.store 53 (.tmp 5) (.tmp 16),0,"law.go:185",#[⟨5,.data⟩,⟨2,.data⟩,⟨4,.chain⟩,⟨0,.phase⟩,⟨1,.phase⟩,⟨2,.phase⟩,⟨3,.textOnly Go.Departure.lateStores⟩,⟨4,.textOnly Go.Departure.lateStoresUnsure⟩,⟨5,.phase⟩,⟨6,.phase⟩],none⟩ fun K hK => ?_
     have r0 := Hx5_4.out.cell (i := 0) rfl
     have g0 := Hx5_4.out.fz 0
     have r1 := Hx5_4.out.cell (i := 1) rfl
     have g1 := Hx5_4.out.fz 1
     have r2 := Hx5_4.out.cell (i := 2) rfl
     have g2 := Hx5_4.out.fz 2
     have hbx : Bx (fun k => k = y5) v4 (World.setCell (World.setCell (World.setCell v4 ⟨y5, 0, none⟩ (.int .i64 F.p)) ⟨y5, 1, none⟩ (.int .i64 F.e)) ⟨y5, 2, none⟩ (FM F b cap)) := bx3 _ _ _
     have hbl : Below w4.heap.size v4 (World.setCell (World.setCell (World.setCell v4 ⟨y5, 0, none⟩ (.int .i64 F.p)) ⟨y5, 1, none⟩ (.int .i64 F.e)) ⟨y5, 2, none⟩ (FM F b cap)) := hbx.below HBW4.out.size (fun k hk => by have h1 := HL5.out; omega)
     go_simp
     refine hK.out _ _ ?_ (fun hHeld => ?_)
     ·(try dsimp only)
      exact S5.go hHeld hbl
     clear hK K
     try simp only [Rg.gp]
     obtain ⟨v5, hv5⟩ : ∃ w, w = (World.setCell (World.setCell (World.setCell v4 ⟨y5, 0, none⟩ (.int .i64 F.p)) ⟨y5, 1, none⟩ (.int .i64 F.e)) ⟨y5, 2, none⟩ (FM F b cap)) := ⟨_, rfl⟩
     rw [← hv5] at hHeld hbx ⊢
     have Hx5_5 : Hid (BC y5 [.int .i64 F.p, .int .i64 F.e, FM F b cap] 53 v5) := Lib.hid (by rw [hv5]; exact Hx5_4.out.set3 _ _ _)
     have Hol_5 := Lib.hid (OL.bc Hol_4.out Hx5_4.out (by decide) (by decide) hbx)
     have Hfa_5 := Lib.hid (Hfa_4.out.bx hbx HN5.out)
     have Hx6_5 := Lib.hid (Hx6_4.out.bx hbx (BC.ne Hx6_4.out Hx5_4.out (by decide)))
     have HBW5 : Hid (Below w4.heap.size w4 v5) := Lib.hid hHeld.2.out.1
     clear hv5 hbx hbl r0 r1 r2 g0 g1 g2 Hx5_4 Hol_4 Hfa_4 Hx6_4
     refine Rg.rd1 8 ⟨none,.store 32 (.tmp 6) (.tmp 18),0,"law.go:185",#[⟨6,.data⟩,⟨4,.data⟩,⟨7,.chain⟩,⟨0,.phase⟩,⟨1,.phase⟩,⟨2,.phase⟩,⟨3,.phase⟩,⟨4,.phase⟩,⟨5,.phase⟩,⟨6,.phase⟩,⟨7,.phase⟩],none⟩ fun K hK => ?_
     have r0 := Hx6_5.out.cell (i := 0) rfl
     have g0 := Hx6_5.out.fz 0
     have r1 := Hx6_5.out.cell (i := 1) rfl
     have g1 := Hx6_5.out.fz 1
     have r2 := Hx6_5.out.cell (i := 2) rfl
     have g2 := Hx6_5.out.fz 2
     have hbx : Bx (fun k => k = y6) v5 (World.setCell (World.setCell (World.setCell v5 ⟨y6, 0, none⟩ (.int .i64 (q : Nat))) ⟨y6, 1, none⟩ (.int .i64 (n : Nat))) ⟨y6, 2, none⟩ (.slice ad ld cd)) := bx3 _ _ _
     have hbl : Below w4.heap.size v5 (World.setCell (World.setCell (World.setCell v5 ⟨y6, 0, none⟩ (.int .i64 (q : Nat))) ⟨y6, 1, none⟩ (.int .i64 (n : Nat))) ⟨y6, 2, none⟩ (.slice ad ld cd)) := hbx.below HBW5.out.size (fun k hk => by have h1 := HL6.out; omega)
     go_simp
     refine hK.out _ _ ?_ (fun hHeld => ?_)
     ·(try dsimp only)
      exact S5.go hHeld hbl
     clear hK K
     try simp only [Rg.gp]
     obtain ⟨v6, hv6⟩ : ∃ w, w = (World.setCell (World.setCell (World.setCell v5 ⟨y6, 0, none⟩ (.int .i64 (q : Nat))) ⟨y6, 1, none⟩ (.int .i64 (n : Nat))) ⟨y6, 2, none⟩ (.slice ad ld cd)) := ⟨_, rfl⟩
     rw [← hv6] at hHeld hbx ⊢
     have Hx6_6 : Hid (BC y6 [.int .i64 (q : Nat), .int .i64 (n : Nat), .slice ad ld cd] 32 v6) := Lib.hid (by rw [hv6]; exact Hx6_5.out.set3 _ _ _)
     have Hol_6 := Lib.hid (OL.bc Hol_5.out Hx6_5.out (by decide) (by decide) hbx)
     have Hfa_6 := Lib.hid (Hfa_5.out.bx hbx HN6.out)
     have Hx5_6 := Lib.hid (Hx5_5.out.bx hbx (BC.ne Hx5_5.out Hx6_5.out (by decide)))
     have HBW6 : Hid (Below w4.heap.size w4 v6) := Lib.hid hHeld.2.out.1
     clear hv6 hbx hbl r0 r1 r2 g0 g1 g2 Hx6_5 Hol_5 Hfa_5 Hx5_5
     refine wpAnyH_done (by kernel_rfl) ?_ _
     exact hrest y5 y6 b cap us ad cd v6 (Lib.hid ⟨Hx5_6.out, Hx6_6.out, Hfa_6.out, Hol_6.out.mm, HBW6.out⟩)
    ·go_simp
     refine hK.out _ _ ?_ (fun hHeld => ?_)
     ·(try dsimp only)
      exact S5.go hHeld ((Below.refl v2.heap.size v2).alloc (Nat.le_refl _) _ |>.mono hHeld.2.out.1.size)
     clear hK K
     try simp only [Rg.gp]
     obtain ⟨v3, hv3⟩ : ∃ w, w = (World.alloc v2 (.cells #[.int .i64 0, .int .i64 0, .slice none 0 0] 32)) := ⟨_, rfl⟩
     obtain ⟨y6, hy6⟩ : ∃ x, x = (World.heap v2).size := ⟨_, rfl⟩
     rw [← hv3] at hHeld ⊢
     rw [← hy6]
     have hb : Below (World.heap v2).size v2 v3 := by rw [hv3]; exact ((Below.refl v2.heap.size v2).alloc (Nat.le_refl _) (.cells #[.int .i64 0, .int .i64 0, .slice none 0 0] 32))
     have Hx6_3 : Hid (BC y6 [.int .i64 0, .int .i64 0, .slice none 0 0] 32 v3) := Lib.hid (by rw [hv3, hy6]; exact BC.new v2 [.int .i64 0, .int .i64 0, .slice none 0 0] 32 rfl)
     have HL6 : Hid (w4.heap.size ≤ y6) := Lib.hid (by rw [hy6]; exact HBW2.out.size)
     have HN6 := Lib.hid (show ¬ b = y6 from fun e => by have h1 := FldAt.lt Hfa_2.out; omega)
     have Hfa_3 := Lib.hid (Hfa_2.out.below hb)
     clear Hfa_2
     have Hx5_3 := Lib.hid (Hx5_2.out.below hb)
     clear Hx5_2
     have HBW3 : Hid (Below w4.heap.size w4 v3) := Lib.hid hHeld.2.out.1
     clear hv3 hy6 hb
     refine Rg.rd1 4 ⟨some 18,.call ⟨.value (.func 26),#[.tmp 17],#[32]⟩,32,"law.go:185",#[⟨3,.data⟩,⟨2,.chain⟩],none⟩ fun K hK => ?_
     go_simp
     go_at_call 26
     with_reducible refine (HDU.out _ hHeld.2.out.1).mono ?_
     rintro e4 v4 ⟨us, ad, cd, rfl, hol, hb⟩
     rw [HLD.out] at hol ⊢
     refine hK.out _ _ ?_ (fun hHeld => ?_)
     ·(try dsimp only)
      exact S5.go hHeld (hb.mono hHeld.2.out.1.size)
     clear hK K
     try simp only [Rg.gp]
     have Hol_4 := Lib.hid hol
     have Hfa_4 := Lib.hid (Hfa_3.out.below hb)
     clear Hfa_3
     have Hx5_4 := Lib.hid (Hx5_3.out.below hb)
     clear Hx5_3
     have Hx6_4 := Lib.hid (Hx6_3.out.below hb)
     clear Hx6_3
     have HBW4 : Hid (Below w4.heap.size w4 v4) := Lib.hid hHeld.2.out.1
     clear hb hol
     refine Rg.rd1 7 ⟨none,.store 53 (.tmp 5) (.tmp 16),0,"law.go:185",#[⟨5,.data⟩,⟨2,.data⟩,⟨4,.chain⟩,⟨0,.phase⟩,⟨1,.phase⟩,⟨2,.phase⟩,⟨3,.textOnly Go.Departure.lateStores⟩,⟨4,.textOnly Go.Departure.lateStoresUnsure⟩,⟨5,.phase⟩,⟨6,.phase⟩],none⟩ fun K hK => ?_
     have r0 := Hx5_4.out.cell (i := 0) rfl
     have g0 := Hx5_4.out.fz 0
     have r1 := Hx5_4.out.cell (i := 1) rfl
     have g1 := Hx5_4.out.fz 1
     have r2 := Hx5_4.out.cell (i := 2) rfl
     have g2 := Hx5_4.out.fz 2
     have hbx : Bx (fun k => k = y5) v4 (World.setCell (World.setCell (World.setCell v4 ⟨y5, 0, none⟩ (.int .i64 F.p)) ⟨y5, 1, none⟩ (.int .i64 F.e)) ⟨y5, 2, none⟩ (FM F b cap)) := bx3 _ _ _
     have hbl : Below w4.heap.size v4 (World.setCell (World.setCell (World.setCell v4 ⟨y5, 0, none⟩ (.int .i64 F.p)) ⟨y5, 1, none⟩ (.int .i64 F.e)) ⟨y5, 2, none⟩ (FM F b cap)) := hbx.below HBW4.out.size (fun k hk => by have h1 := HL5.out; omega)
     go_simp
     refine hK.out _ _ ?_ (fun hHeld => ?_)
     ·(try dsimp only)
      exact S5.go hHeld hbl
     clear hK K
     try simp only [Rg.gp]
     obtain ⟨v5, hv5⟩ : ∃ w, w = (World.setCell (World.setCell (World.setCell v4 ⟨y5, 0, none⟩ (.int .i64 F.p)) ⟨y5, 1, none⟩ (.int .i64 F.e)) ⟨y5, 2, none⟩ (FM F b cap)) := ⟨_, rfl⟩
     rw [← hv5] at hHeld hbx ⊢
     have Hx5_5 : Hid (BC y5 [.int .i64 F.p, .int .i64 F.e, FM F b cap] 53 v5) := Lib.hid (by rw [hv5]; exact Hx5_4.out.set3 _ _ _)
     have Hol_5 := Lib.hid (OL.bc Hol_4.out Hx5_4.out (by decide) (by decide) hbx)
     have Hfa_5 := Lib.hid (Hfa_4.out.bx hbx HN5.out)
     have Hx6_5 := Lib.hid (Hx6_4.out.bx hbx (BC.ne Hx6_4.out Hx5_4.out (by decide)))
     have HBW5 : Hid (Below w4.heap.size w4 v5) := Lib.hid hHeld.2.out.1
     clear hv5 hbx hbl r0 r1 r2 g0 g1 g2 Hx5_4 Hol_4 Hfa_4 Hx6_4
     refine Rg.rd1 8 ⟨none,.store 32 (.tmp 6) (.tmp 18),0,"law.go:185",#[⟨6,.data⟩,⟨4,.data⟩,⟨7,.chain⟩,⟨0,.phase⟩,⟨1,.phase⟩,⟨2,.phase⟩,⟨3,.phase⟩,⟨4,.phase⟩,⟨5,.phase⟩,⟨6,.phase⟩,⟨7,.phase⟩],none⟩ fun K hK => ?_
     have r0 := Hx6_5.out.cell (i := 0) rfl
     have g0 := Hx6_5.out.fz 0
     have r1 := Hx6_5.out.cell (i := 1) rfl
     have g1 := Hx6_5.out.fz 1
     have r2 := Hx6_5.out.cell (i := 2) rfl
     have g2 := Hx6_5.out.fz 2
     have hbx : Bx (fun k => k = y6) v5 (World.setCell (World.setCell (World.setCell v5 ⟨y6, 0, none⟩ (.int .i64 (q : Nat))) ⟨y6, 1, none⟩ (.int .i64 (n : Nat))) ⟨y6, 2, none⟩ (.slice ad ld cd)) := bx3 _ _ _
     have hbl : Below w4.heap.size v5 (World.setCell (World.setCell (World.setCell v5 ⟨y6, 0, none⟩ (.int .i64 (q : Nat))) ⟨y6, 1, none⟩ (.int .i64 (n : Nat))) ⟨y6, 2, none⟩ (.slice ad ld cd)) := hbx.below HBW5.out.size (fun k hk => by have h1 := HL6.out; omega)
     go_simp
     refine hK.out _ _ ?_ (fun hHeld => ?_)
     ·(try dsimp only)
      exact S5.go hHeld hbl
     clear hK K
     try simp only [Rg.gp]
     obtain ⟨v6, hv6⟩ : ∃ w, w = (World.setCell (World.setCell (World.setCell v5 ⟨y6, 0, none⟩ (.int .i64 (q : Nat))) ⟨y6, 1, none⟩ (.int .i64 (n : Nat))) ⟨y6, 2, none⟩ (.slice ad ld cd)) := ⟨_, rfl⟩
     rw [← hv6] at hHeld hbx ⊢
     have Hx6_6 : Hid (BC y6 [.int .i64 (q : Nat), .int .i64 (n : Nat), .slice ad ld cd] 32 v6) := Lib.hid (by rw [hv6]; exact Hx6_5.out.set3 _ _ _)
     have Hol_6 := Lib.hid (OL.bc Hol_5.out Hx6_5.out (by decide) (by decide) hbx)
     have Hfa_6 := Lib.hid (Hfa_5.out.bx hbx HN6.out)
     have Hx5_6 := Lib.hid (Hx5_5.out.bx hbx (BC.ne Hx5_5.out Hx6_5.out (by decide)))
     have HBW6 : Hid (Below w4.heap.size w4 v6) := Lib.hid hHeld.2.out.1
     clear hv6 hbx hbl r0 r1 r2 g0 g1 g2 Hx6_5 Hol_5 Hfa_5 Hx5_5
     refine wpAnyH_done (by kernel_rfl) ?_ _
     exact hrest y5 y6 b cap us ad cd v6 (Lib.hid ⟨Hx5_6.out, Hx6_6.out, Hfa_6.out, Hol_6.out.mm, HBW6.out⟩)
   ·go_simp
    refine hK.out _ _ ?_ (fun hHeld => ?_)
    ·(try dsimp only)
     exact S5.go hHeld ((Below.refl v1.heap.size v1).alloc (Nat.le_refl _) _ |>.mono hHeld.2.out.1.size)
    clear hK K
    try simp only [Rg.gp]
    obtain ⟨v2, hv2⟩ : ∃ w, w = (World.alloc v1 (.cells #[.int .i64 0, .int .i64 0, .slice none 0 0] 32)) := ⟨_, rfl⟩
    obtain ⟨y6, hy6⟩ : ∃ x, x = (World.heap v1).size := ⟨_, rfl⟩
    rw [← hv2] at hHeld ⊢
    rw [← hy6]
    have hb : Below (World.heap v1).size v1 v2 := by rw [hv2]; exact ((Below.refl v1.heap.size v1).alloc (Nat.le_refl _) (.cells #[.int .i64 0, .int .i64 0, .slice none 0 0] 32))
    have Hx6_2 : Hid (BC y6 [.int .i64 0, .int .i64 0, .slice none 0 0] 32 v2) := Lib.hid (by rw [hv2, hy6]; exact BC.new v1 [.int .i64 0, .int .i64 0, .slice none 0 0] 32 rfl)
    have HL6 : Hid (w4.heap.size ≤ y6) := Lib.hid (by rw [hy6]; exact HBW1.out.size)
    have Hx5_2 := Lib.hid (Hx5_1.out.below hb)
    clear Hx5_1
    have HBW2 : Hid (Below w4.heap.size w4 v2) := Lib.hid hHeld.2.out.1
    clear hv2 hy6 hb
    refine Rg.rd1 2 ⟨some 16,.call ⟨.value (.func 38),#[.tmp 15],#[3]⟩,53,"law.go:185",#[⟨1,.data⟩],none⟩ fun K hK => ?_
    go_simp
    go_at_call 38
    with_reducible refine (HOV.out _).mono ?_
    rintro e3 v3 ⟨b, cap, rfl, hfa, hb, hbl⟩
    refine hK.out _ _ ?_ (fun hHeld => ?_)
    ·(try dsimp only)
     exact S5.go hHeld (hb.mono hHeld.2.out.1.size)
    clear hK K
    try simp only [Rg.gp]
    have Hfa_3 := Lib.hid hfa
    have HN5 := Lib.hid (show ¬ b = y5 from fun e => by have h1 := Hx5_2.out.lt; omega)
    have HN6 := Lib.hid (show ¬ b = y6 from fun e => by have h1 := Hx6_2.out.lt; omega)
    have Hx5_3 := Lib.hid (Hx5_2.out.below hb)
    clear Hx5_2
    have Hx6_3 := Lib.hid (Hx6_2.out.below hb)
    clear Hx6_2
    have HBW3 : Hid (Below w4.heap.size w4 v3) := Lib.hid hHeld.2.out.1
    clear hb hbl hfa
    refine Rg.rd1 4 ⟨some 18,.call ⟨.value (.func 26),#[.tmp 17],#[32]⟩,32,"law.go:185",#[⟨3,.data⟩,⟨2,.chain⟩],none⟩ fun K hK => ?_
    go_simp
    go_at_call 26
    with_reducible refine (HDU.out _ hHeld.2.out.1).mono ?_
    rintro e4 v4 ⟨us, ad, cd, rfl, hol, hb⟩
    rw [HLD.out] at hol ⊢
    refine hK.out _ _ ?_ (fun hHeld => ?_)
    ·(try dsimp only)
     exact S5.go hHeld (hb.mono hHeld.2.out.1.size)
    clear hK K
    try simp only [Rg.gp]
    have Hol_4 := Lib.hid hol
    have Hfa_4 := Lib.hid (Hfa_3.out.below hb)
    clear Hfa_3
    have Hx5_4 := Lib.hid (Hx5_3.out.below hb)
    clear Hx5_3
    have Hx6_4 := Lib.hid (Hx6_3.out.below hb)
    clear Hx6_3
    have HBW4 : Hid (Below w4.heap.size w4 v4) := Lib.hid hHeld.2.out.1
    clear hb hol
    refine Rg.rd1 7 ⟨none,.store 53 (.tmp 5) (.tmp 16),0,"law.go:185",#[⟨5,.data⟩,⟨2,.data⟩,⟨4,.chain⟩,⟨0,.phase⟩,⟨1,.phase⟩,⟨2,.phase⟩,⟨3,.textOnly Go.Departure.lateStores⟩,⟨4,.textOnly Go.Departure.lateStoresUnsure⟩,⟨5,.phase⟩,⟨6,.phase⟩],none⟩ fun K hK => ?_
    have r0 := Hx5_4.out.cell (i := 0) rfl
    have g0 := Hx5_4.out.fz 0
    have r1 := Hx5_4.out.cell (i := 1) rfl
    have g1 := Hx5_4.out.fz 1
    have r2 := Hx5_4.out.cell (i := 2) rfl
    have g2 := Hx5_4.out.fz 2
    have hbx : Bx (fun k => k = y5) v4 (World.setCell (World.setCell (World.setCell v4 ⟨y5, 0, none⟩ (.int .i64 F.p)) ⟨y5, 1, none⟩ (.int .i64 F.e)) ⟨y5, 2, none⟩ (FM F b cap)) := bx3 _ _ _
    have hbl : Below w4.heap.size v4 (World.setCell (World.setCell (World.setCell v4 ⟨y5, 0, none⟩ (.int .i64 F.p)) ⟨y5, 1, none⟩ (.int .i64 F.e)) ⟨y5, 2, none⟩ (FM F b cap)) := hbx.below HBW4.out.size (fun k hk => by have h1 := HL5.out; omega)
    go_simp
    refine hK.out _ _ ?_ (fun hHeld => ?_)
    ·(try dsimp only)
     exact S5.go hHeld hbl
    clear hK K
    try simp only [Rg.gp]
    obtain ⟨v5, hv5⟩ : ∃ w, w = (World.setCell (World.setCell (World.setCell v4 ⟨y5, 0, none⟩ (.int .i64 F.p)) ⟨y5, 1, none⟩ (.int .i64 F.e)) ⟨y5, 2, none⟩ (FM F b cap)) := ⟨_, rfl⟩
    rw [← hv5] at hHeld hbx ⊢
    have Hx5_5 : Hid (BC y5 [.int .i64 F.p, .int .i64 F.e, FM F b cap] 53 v5) := Lib.hid (by rw [hv5]; exact Hx5_4.out.set3 _ _ _)
    have Hol_5 := Lib.hid (OL.bc Hol_4.out Hx5_4.out (by decide) (by decide) hbx)
    have Hfa_5 := Lib.hid (Hfa_4.out.bx hbx HN5.out)
    have Hx6_5 := Lib.hid (Hx6_4.out.bx hbx (BC.ne Hx6_4.out Hx5_4.out (by decide)))
    have HBW5 : Hid (Below w4.heap.size w4 v5) := Lib.hid hHeld.2.out.1
    clear hv5 hbx hbl r0 r1 r2 g0 g1 g2 Hx5_4 Hol_4 Hfa_4 Hx6_4
    refine Rg.rd1 8 ⟨none,.store 32 (.tmp 6) (.tmp 18),0,"law.go:185",#[⟨6,.data⟩,⟨4,.data⟩,⟨7,.chain⟩,⟨0,.phase⟩,⟨1,.phase⟩,⟨2,.phase⟩,⟨3,.phase⟩,⟨4,.phase⟩,⟨5,.phase⟩,⟨6,.phase⟩,⟨7,.phase⟩],none⟩ fun K hK => ?_
    have r0 := Hx6_5.out.cell (i := 0) rfl
    have g0 := Hx6_5.out.fz 0
    have r1 := Hx6_5.out.cell (i := 1) rfl
    have g1 := Hx6_5.out.fz 1
    have r2 := Hx6_5.out.cell (i := 2) rfl
    have g2 := Hx6_5.out.fz 2
    have hbx : Bx (fun k => k = y6) v5 (World.setCell (World.setCell (World.setCell v5 ⟨y6, 0, none⟩ (.int .i64 (q : Nat))) ⟨y6, 1, none⟩ (.int .i64 (n : Nat))) ⟨y6, 2, none⟩ (.slice ad ld cd)) := bx3 _ _ _
    have hbl : Below w4.heap.size v5 (World.setCell (World.setCell (World.setCell v5 ⟨y6, 0, none⟩ (.int .i64 (q : Nat))) ⟨y6, 1, none⟩ (.int .i64 (n : Nat))) ⟨y6, 2, none⟩ (.slice ad ld cd)) := hbx.below HBW5.out.size (fun k hk => by have h1 := HL6.out; omega)
    go_simp
    refine hK.out _ _ ?_ (fun hHeld => ?_)
    ·(try dsimp only)
     exact S5.go hHeld hbl
    clear hK K
    try simp only [Rg.gp]
    obtain ⟨v6, hv6⟩ : ∃ w, w = (World.setCell (World.setCell (World.setCell v5 ⟨y6, 0, none⟩ (.int .i64 (q : Nat))) ⟨y6, 1, none⟩ (.int .i64 (n : Nat))) ⟨y6, 2, none⟩ (.slice ad ld cd)) := ⟨_, rfl⟩
    rw [← hv6] at hHeld hbx ⊢
    have Hx6_6 : Hid (BC y6 [.int .i64 (q : Nat), .int .i64 (n : Nat), .slice ad ld cd] 32 v6) := Lib.hid (by rw [hv6]; exact Hx6_5.out.set3 _ _ _)
    have Hol_6 := Lib.hid (OL.bc Hol_5.out Hx6_5.out (by decide) (by decide) hbx)
    have Hfa_6 := Lib.hid (Hfa_5.out.bx hbx HN6.out)
    have Hx5_6 := Lib.hid (Hx5_5.out.bx hbx (BC.ne Hx5_5.out Hx6_5.out (by decide)))
    have HBW6 : Hid (Below w4.heap.size w4 v6) := Lib.hid hHeld.2.out.1
    clear hv6 hbx hbl r0 r1 r2 g0 g1 g2 Hx6_5 Hol_5 Hfa_5 Hx5_5
    refine wpAnyH_done (by kernel_rfl) ?_ _
    exact hrest y5 y6 b cap us ad cd v6 (Lib.hid ⟨Hx5_6.out, Hx6_6.out, Hfa_6.out, Hol_6.out.mm, HBW6.out⟩)
  ·go_simp
   refine hK.out _ _ ?_ (fun hHeld => ?_)
   ·(try dsimp only)
    exact S5.go0 hHeld ((Below.refl w4.heap.size w4).alloc (Nat.le_refl _) (.cells #[.int .i64 0, .int .i64 0, .slice none 0 0] 32)).drew
   clear hK K
   try simp only [Rg.gp]
   obtain ⟨v1, hv1⟩ : ∃ w, w = (World.alloc w4 (.cells #[.int .i64 0, .int .i64 0, .slice none 0 0] 32)).drew := ⟨_, rfl⟩
   obtain ⟨y6, hy6⟩ : ∃ x, x = (World.heap w4).size := ⟨_, rfl⟩
   rw [← hv1] at hHeld ⊢
   rw [← hy6]
   have hb : Below (World.heap w4).size w4 v1 := by rw [hv1]; exact ((Below.refl w4.heap.size w4).alloc (Nat.le_refl _) (.cells #[.int .i64 0, .int .i64 0, .slice none 0 0] 32)).drew
   have Hx6_1 : Hid (BC y6 [.int .i64 0, .int .i64 0, .slice none 0 0] 32 v1) := Lib.hid (by rw [hv1, hy6]; exact BC.new w4 [.int .i64 0, .int .i64 0, .slice none 0 0] 32 rfl)
   have HL6 : Hid (w4.heap.size ≤ y6) := Lib.hid (by rw [hy6]; exact Nat.le_refl _)
   have HBW1 : Hid (Below w4.heap.size w4 v1) := Lib.hid hHeld.2.out.1
   clear hv1 hy6 hb
   refine wpAnyH_ready (rs := [2, 5]) (by kernel_rfl) (by simp) ?_
   refine (AllReadyH.cons (o := ⟨some 16,.call ⟨.value (.func 38),#[.tmp 15],#[3]⟩,53,"law.go:185",#[⟨1,.data⟩],none⟩) rfl (fun K hK => ?_) (AllReadyH.cons (o := ⟨some 5,.alloc 53,0,"law.go:185",#[],none⟩) rfl (fun K hK => ?_) AllReadyH.nil))
   ·go_simp
    go_at_call 38
    with_reducible refine (HOV.out _).mono ?_
    rintro e2 v2 ⟨b, cap, rfl, hfa, hb, hbl⟩
    refine hK.out _ _ ?_ (fun hHeld => ?_)
    ·(try dsimp only)
     exact S5.go hHeld (hb.mono hHeld.2.out.1.size)
    clear hK K
    try simp only [Rg.gp]
    have Hfa_2 := Lib.hid hfa
    have HN6 := Lib.hid (show ¬ b = y6 from fun e => by have h1 := Hx6_1.out.lt; omega)
    have Hx6_2 := Lib.hid (Hx6_1.out.below hb)
    clear Hx6_1
    have HBW2 : Hid (Below w4.heap.size w4 v2) := Lib.hid hHeld.2.out.1
    clear hb hbl hfa
    refine wpAnyH_ready (rs := [4, 5]) (by kernel_rfl) (by simp) ?_
    refine (AllReadyH.cons (o := ⟨some 18,.call ⟨.value (.func 26),#[.tmp 17],#[32]⟩,32,"law.go:185",#[⟨3,.data⟩,⟨2,.chain⟩],none⟩) rfl (fun K hK => ?_) (AllReadyH.cons (o := ⟨some 5,.alloc 53,0,"law.go:185",#[],none⟩) rfl (fun K hK => ?_) AllReadyH.nil))
    ·go_simp
     go_at_call 26
     with_reducible refine (HDU.out _ hHeld.2.out.1).mono ?_
     rintro e3 v3 ⟨us, ad, cd, rfl, hol, hb⟩
     rw [HLD.out] at hol ⊢
     refine hK.out _ _ ?_ (fun hHeld => ?_)
     ·(try dsimp only)
      exact S5.go hHeld (hb.mono hHeld.2.out.1.size)
     clear hK K
     try simp only [Rg.gp]
     have Hol_3 := Lib.hid hol
     have Hfa_3 := Lib.hid (Hfa_2.out.below hb)
     clear Hfa_2
     have Hx6_3 := Lib.hid (Hx6_2.out.below hb)
     clear Hx6_2
     have HBW3 : Hid (Below w4.heap.size w4 v3) := Lib.hid hHeld.2.out.1
     clear hb hol
     refine Rg.rd1 5 ⟨some 5,.alloc 53,0,"law.go:185",#[],none⟩ fun K hK => ?_
     go_simp
     refine hK.out _ _ ?_ (fun hHeld => ?_)
     ·(try dsimp only)
      exact S5.go hHeld ((Below.refl v3.heap.size v3).alloc (Nat.le_refl _) _ |>.mono hHeld.2.out.1.size)
     clear hK K
     try simp only [Rg.gp]
     obtain ⟨v4, hv4⟩ : ∃ w, w = (World.alloc v3 (.cells #[.int .i64 0, .int .i64 0, .slice none 0 0] 53)) := ⟨_, rfl⟩
     obtain ⟨y5, hy5⟩ : ∃ x, x = (World.heap v3).size := ⟨_, rfl⟩
     rw [← hv4] at hHeld ⊢
     rw [← hy5]
     have hb : Below (World.heap v3).size v3 v4 := by rw [hv4]; exact ((Below.refl v3.heap.size v3).alloc (Nat.le_refl _) (.cells #[.int .i64 0, .int .i64 0, .slice none 0 0] 53))
     have Hx5_4 : Hid (BC y5 [.int .i64 0, .int .i64 0, .slice none 0 0] 53 v4) := Lib.hid (by rw [hv4, hy5]; exact BC.new v3 [.int .i64 0, .int .i64 0, .slice none 0 0] 53 rfl)
     have HL5 : Hid (w4.heap.size ≤ y5) := Lib.hid (by rw [hy5]; exact HBW3.out.size)
     have HN5 := Lib.hid (show ¬ b = y5 from fun e => by have h1 := FldAt.lt Hfa_3.out; omega)
     have Hfa_4 := Lib.hid (Hfa_3.out.below hb)
     clear Hfa_3
     have Hol_4 := Lib.hid (Hol_3.out.below hb)
     clear Hol_3
     have Hx6_4 := Lib.hid (Hx6_3.out.below hb)
     clear Hx6_3
     have HBW4 : Hid (Below w4.heap.size w4 v4) := Lib.hid hHeld.2.out.1
     clear hv4 hy5 hb
     refine Rg.rd1 7 ⟨none,.store 53 (.tmp 5) (.tmp 16),0,"law.go:185",#[⟨5,.data⟩,⟨2,.data⟩,⟨4,.chain⟩,⟨0,.phase⟩,⟨1,.phase⟩,⟨2,.phase⟩,⟨3,.textOnly Go.Departure.lateStores⟩,⟨4,.textOnly Go.Departure.lateStoresUnsure⟩,⟨5,.phase⟩,⟨6,.phase⟩],none⟩ fun K hK => ?_
     have r0 := Hx5_4.out.cell (i := 0) rfl
     have g0 := Hx5_4.out.fz 0
     have r1 := Hx5_4.out.cell (i := 1) rfl
     have g1 := Hx5_4.out.fz 1
     have r2 := Hx5_4.out.cell (i := 2) rfl
     have g2 := Hx5_4.out.fz 2
     have hbx : Bx (fun k => k = y5) v4 (World.setCell (World.setCell (World.setCell v4 ⟨y5, 0, none⟩ (.int .i64 F.p)) ⟨y5, 1, none⟩ (.int .i64 F.e)) ⟨y5, 2, none⟩ (FM F b cap)) := bx3 _ _ _
     have hbl : Below w4.heap.size v4 (World.setCell (World.setCell (World.setCell v4 ⟨y5, 0, none⟩ (.int .i64 F.p)) ⟨y5, 1, none⟩ (.int .i64 F.e)) ⟨y5, 2, none⟩ (FM F b cap)) := hbx.below HBW4.out.size (fun k hk => by have h1 := HL5.out; omega)
     go_simp
     refine hK.out _ _ ?_ (fun hHeld => ?_)
     ·(try dsimp only)
      exact S5.go hHeld hbl
     clear hK K
     try simp only [Rg.gp]
     obtain ⟨v5, hv5⟩ : ∃ w, w = (World.setCell (World.setCell (World.setCell v4 ⟨y5, 0, none⟩ (.int .i64 F.p)) ⟨y5, 1, none⟩ (.int .i64 F.e)) ⟨y5, 2, none⟩ (FM F b cap)) := ⟨_, rfl⟩
     rw [← hv5] at hHeld hbx ⊢
     have Hx5_5 : Hid (BC y5 [.int .i64 F.p, .int .i64 F.e, FM F b cap] 53 v5) := Lib.hid (by rw [hv5]; exact Hx5_4.out.set3 _ _ _)
     have Hol_5 := Lib.hid (OL.bc Hol_4.out Hx5_4.out (by decide) (by decide) hbx)
     have Hfa_5 := Lib.hid (Hfa_4.out.bx hbx HN5.out)
     have Hx6_5 := Lib.hid (Hx6_4.out.bx hbx (BC.ne Hx6_4.out Hx5_4.out (by decide)))
     have HBW5 : Hid (Below w4.heap.size w4 v5) := Lib.hid hHeld.2.out.1
     clear hv5 hbx hbl r0 r1 r2 g0 g1 g2 Hx5_4 Hol_4 Hfa_4 Hx6_4
     refine Rg.rd1 8 ⟨none,.store 32 (.tmp 6) (.tmp 18),0,"law.go:185",#[⟨6,.data⟩,⟨4,.data⟩,⟨7,.chain⟩,⟨0,.phase⟩,⟨1,.phase⟩,⟨2,.phase⟩,⟨3,.phase⟩,⟨4,.phase⟩,⟨5,.phase⟩,⟨6,.phase⟩,⟨7,.phase⟩],none⟩ fun K hK => ?_
     have r0 := Hx6_5.out.cell (i := 0) rfl
     have g0 := Hx6_5.out.fz 0
     have r1 := Hx6_5.out.cell (i := 1) rfl
     have g1 := Hx6_5.out.fz 1
     have r2 := Hx6_5.out.cell (i := 2) rfl
     have g2 := Hx6_5.out.fz 2
     have hbx : Bx (fun k => k = y6) v5 (World.setCell (World.setCell (World.setCell v5 ⟨y6, 0, none⟩ (.int .i64 (q : Nat))) ⟨y6, 1, none⟩ (.int .i64 (n : Nat))) ⟨y6, 2, none⟩ (.slice ad ld cd)) := bx3 _ _ _
     have hbl : Below w4.heap.size v5 (World.setCell (World.setCell (World.setCell v5 ⟨y6, 0, none⟩ (.int .i64 (q : Nat))) ⟨y6, 1, none⟩ (.int .i64 (n : Nat))) ⟨y6, 2, none⟩ (.slice ad ld cd)) := hbx.below HBW5.out.size (fun k hk => by have h1 := HL6.out; omega)
     go_simp
     refine hK.out _ _ ?_ (fun hHeld => ?_)
     ·(try dsimp only)
      exact S5.go hHeld hbl
     clear hK K
     try simp only [Rg.gp]
     obtain ⟨v6, hv6⟩ : ∃ w, w = (World.setCell (World.setCell (World.setCell v5 ⟨y6, 0, none⟩ (.int .i64 (q : Nat))) ⟨y6, 1, none⟩ (.int .i64 (n : Nat))) ⟨y6, 2, none⟩ (.slice ad ld cd)) := ⟨_, rfl⟩
     rw [← hv6] at hHeld hbx ⊢
     have Hx6_6 : Hid (BC y6 [.int .i64 (q : Nat), .int .i64 (n : Nat), .slice ad ld cd] 32 v6) := Lib.hid (by rw [hv6]; exact Hx6_5.out.set3 _ _ _)
     have Hol_6 := Lib.hid (OL.bc Hol_5.out Hx6_5.out (by decide) (by decide) hbx)
     have Hfa_6 := Lib.hid (Hfa_5.out.bx hbx HN6.out)
     have Hx5_6 := Lib.hid (Hx5_5.out.bx hbx (BC.ne Hx5_5.out Hx6_5.out (by decide)))
     have HBW6 : Hid (Below w4.heap.size w4 v6) := Lib.hid hHeld.2.out.1
     clear hv6 hbx hbl r0 r1 r2 g0 g1 g2 Hx6_5 Hol_5 Hfa_5 Hx5_5
     refine wpAnyH_done (by kernel_rfl) ?_ _
     exact hrest y5 y6 b cap us ad cd v6 (Lib.hid ⟨Hx5_6.out, Hx6_6.out, Hfa_6.out, Hol_6.out.mm, HBW6.out⟩)
    ·go_simp
     refine hK.out _ _ ?_ (fun hHeld => ?_)
     ·(try dsimp only)
      exact S5.go hHeld ((Below.refl v2.heap.size v2).alloc (Nat.le_refl _) _ |>.mono hHeld.2.out.1.size)
     clear hK K
     try simp only [Rg.gp]
     obtain ⟨v3, hv3⟩ : ∃ w, w = (World.alloc v2 (.cells #[.int .i64 0, .int .i64 0, .slice none 0 0] 53)) := ⟨_, rfl⟩
     obtain ⟨y5, hy5⟩ : ∃ x, x = (World.heap v2).size := ⟨_, rfl⟩
     rw [← hv3] at hHeld ⊢
     rw [← hy5]
     have hb : Below (World.heap v2).size v2 v3 := by rw [hv3]; exact ((Below.refl v2.heap.size v2).alloc (Nat.le_refl _) (.cells #[.int .i64 0, .int .i64 0, .slice none 0 0] 53))
     have Hx5_3 : Hid (BC y5 [.int .i64 0, .int .i64 0, .slice none 0 0] 53 v3) := Lib.hid (by rw [hv3, hy5]; exact BC.new v2 [.int .i64 0, .int .i64 0, .slice none 0 0] 53 rfl)
     have HL5 : Hid (w4.heap.size ≤ y5) := Lib.hid (by rw [hy5]; exact HBW2.out.size)
     have HN5 := Lib.hid (show ¬ b = y5 from fun e => by have h1 := FldAt.lt Hfa_2.out; omega)
     have Hfa_3 := Lib.hid (Hfa_2.out.below hb)
     clear Hfa_2
     have Hx6_3 := Lib.hid (Hx6_2.out.below hb)
     clear Hx6_2
     have HBW3 : Hid (Below w4.heap.size w4 v3) := Lib.hid hHeld.2.out.1
     clear hv3 hy5 hb
     refine Rg.rd1 4 ⟨some 18,.call ⟨.value (.func 26),#[.tmp 17],#[32]⟩,32,"law.go:185",#[⟨3,.data⟩,⟨2,.chain⟩],none⟩ fun K hK => ?_
     go_simp
     go_at_call 26
     with_reducible refine (HDU.out _ hHeld.2.out.1).mono ?_
     rintro e4 v4 ⟨us, ad, cd, rfl, hol, hb⟩
     rw [HLD.out] at hol ⊢
     refine hK.out _ _ ?_ (fun hHeld => ?_)
     ·(try dsimp only)
      exact S5.go hHeld (hb.mono hHeld.2.out.1.size)
     clear hK K
     try simp only [Rg.gp]
     have Hol_4 := Lib.hid hol
     have Hfa_4 := Lib.hid (Hfa_3.out.below hb)
     clear Hfa_3
     have Hx5_4 := Lib.hid (Hx5_3.out.below hb)
     clear Hx5_3
     have Hx6_4 := Lib.hid (Hx6_3.out.below hb)
     clear Hx6_3
     have HBW4 : Hid (Below w4.heap.size w4 v4) := Lib.hid hHeld.2.out.1
     clear hb hol
     refine Rg.rd1 7 ⟨none,.store 53 (.tmp 5) (.tmp 16),0,"law.go:185",#[⟨5,.data⟩,⟨2,.data⟩,⟨4,.chain⟩,⟨0,.phase⟩,⟨1,.phase⟩,⟨2,.phase⟩,⟨3,.textOnly Go.Departure.lateStores⟩,⟨4,.textOnly Go.Departure.lateStoresUnsure⟩,⟨5,.phase⟩,⟨6,.phase⟩],none⟩ fun K hK => ?_
     have r0 := Hx5_4.out.cell (i := 0) rfl
     have g0 := Hx5_4.out.fz 0
     have r1 := Hx5_4.out.cell (i := 1) rfl
     have g1 := Hx5_4.out.fz 1
     have r2 := Hx5_4.out.cell (i := 2) rfl
     have g2 := Hx5_4.out.fz 2
     have hbx : Bx (fun k => k = y5) v4 (World.setCell (World.setCell (World.setCell v4 ⟨y5, 0, none⟩ (.int .i64 F.p)) ⟨y5, 1, none⟩ (.int .i64 F.e)) ⟨y5, 2, none⟩ (FM F b cap)) := bx3 _ _ _
     have hbl : Below w4.heap.size v4 (World.setCell (World.setCell (World.setCell v4 ⟨y5, 0, none⟩ (.int .i64 F.p)) ⟨y5, 1, none⟩ (.int .i64 F.e)) ⟨y5, 2, none⟩ (FM F b cap)) := hbx.below HBW4.out.size (fun k hk => by have h1 := HL5.out; omega)
     go_simp
     refine hK.out _ _ ?_ (fun hHeld => ?_)
     ·(try dsimp only)
      exact S5.go hHeld hbl
     clear hK K
     try simp only [Rg.gp]
     obtain ⟨v5, hv5⟩ : ∃ w, w = (World.setCell (World.setCell (World.setCell v4 ⟨y5, 0, none⟩ (.int .i64 F.p)) ⟨y5, 1, none⟩ (.int .i64 F.e)) ⟨y5, 2, none⟩ (FM F b cap)) := ⟨_, rfl⟩
     rw [← hv5] at hHeld hbx ⊢
     have Hx5_5 : Hid (BC y5 [.int .i64 F.p, .int .i64 F.e, FM F b cap] 53 v5) := Lib.hid (by rw [hv5]; exact Hx5_4.out.set3 _ _ _)
     have Hol_5 := Lib.hid (OL.bc Hol_4.out Hx5_4.out (by decide) (by decide) hbx)
     have Hfa_5 := Lib.hid (Hfa_4.out.bx hbx HN5.out)
     have Hx6_5 := Lib.hid (Hx6_4.out.bx hbx (BC.ne Hx6_4.out Hx5_4.out (by decide)))
     have HBW5 : Hid (Below w4.heap.size w4 v5) := Lib.hid hHeld.2.out.1
     clear hv5 hbx hbl r0 r1 r2 g0 g1 g2 Hx5_4 Hol_4 Hfa_4 Hx6_4
     refine Rg.rd1 8 ⟨none,.store 32 (.tmp 6) (.tmp 18),0,"law.go:185",#[⟨6,.data⟩,⟨4,.data⟩,⟨7,.chain⟩,⟨0,.phase⟩,⟨1,.phase⟩,⟨2,.phase⟩,⟨3,.phase⟩,⟨4,.phase⟩,⟨5,.phase⟩,⟨6,.phase⟩,⟨7,.phase⟩],none⟩ fun K hK => ?_
     have r0 := Hx6_5.out.cell (i := 0) rfl
     have g0 := Hx6_5.out.fz 0
     have r1 := Hx6_5.out.cell (i := 1) rfl
     have g1 := Hx6_5.out.fz 1
     have r2 := Hx6_5.out.cell (i := 2) rfl
     have g2 := Hx6_5.out.fz 2
     have hbx : Bx (fun k => k = y6) v5 (World.setCell (World.setCell (World.setCell v5 ⟨y6, 0, none⟩ (.int .i64 (q : Nat))) ⟨y6, 1, none⟩ (.int .i64 (n : Nat))) ⟨y6, 2, none⟩ (.slice ad ld cd)) := bx3 _ _ _
     have hbl : Below w4.heap.size v5 (World.setCell (World.setCell (World.setCell v5 ⟨y6, 0, none⟩ (.int .i64 (q : Nat))) ⟨y6, 1, none⟩ (.int .i64 (n : Nat))) ⟨y6, 2, none⟩ (.slice ad ld cd)) := hbx.below HBW5.out.size (fun k hk => by have h1 := HL6.out; omega)
     go_simp
     refine hK.out _ _ ?_ (fun hHeld => ?_)
     ·(try dsimp only)
      exact S5.go hHeld hbl
     clear hK K
     try simp only [Rg.gp]
     obtain ⟨v6, hv6⟩ : ∃ w, w = (World.setCell (World.setCell (World.setCell v5 ⟨y6, 0, none⟩ (.int .i64 (q : Nat))) ⟨y6, 1, none⟩ (.int .i64 (n : Nat))) ⟨y6, 2, none⟩ (.slice ad ld cd)) := ⟨_, rfl⟩
     rw [← hv6] at hHeld hbx ⊢
     have Hx6_6 : Hid (BC y6 [.int .i64 (q : Nat), .int .i64 (n : Nat), .slice ad ld cd] 32 v6) := Lib.hid (by rw [hv6]; exact Hx6_5.out.set3 _ _ _)
     have Hol_6 := Lib.hid (OL.bc Hol_5.out Hx6_5.out (by decide) (by decide) hbx)
     have Hfa_6 := Lib.hid (Hfa_5.out.bx hbx HN6.out)
     have Hx5_6 := Lib.hid (Hx5_5.out.bx hbx (BC.ne Hx5_5.out Hx6_5.out (by decide)))
     have HBW6 : Hid (Below w4.heap.size w4 v6) := Lib.hid hHeld.2.out.1
     clear hv6 hbx hbl r0 r1 r2 g0 g1 g2 Hx6_5 Hol_5 Hfa_5 Hx5_5
     refine wpAnyH_done (by kernel_rfl) ?_ _
     exact hrest y5 y6 b cap us ad cd v6 (Lib.hid ⟨Hx5_6.out, Hx6_6.out, Hfa_6.out, Hol_6.out.mm, HBW6.out⟩)
   ·go_simp
    refine hK.out _ _ ?_ (fun hHeld => ?_)
    ·(try dsimp only)
     exact S5.go hHeld ((Below.refl v1.heap.size v1).alloc (Nat.le_refl _) _ |>.mono hHeld.2.out.1.size)
    clear hK K
    try simp only [Rg.gp]
    obtain ⟨v2, hv2⟩ : ∃ w, w = (World.alloc v1 (.cells #[.int .i64 0, .int .i64 0, .slice none 0 0] 53)) := ⟨_, rfl⟩
    obtain ⟨y5, hy5⟩ : ∃ x, x = (World.heap v1).size := ⟨_, rfl⟩
    rw [← hv2] at hHeld ⊢
    rw [← hy5]
    have hb : Below (World.heap v1).size v1 v2 := by rw [hv2]; exact ((Below.refl v1.heap.size v1).alloc (Nat.le_refl _) (.cells #[.int .i64 0, .int .i64 0, .slice none 0 0] 53))
    have Hx5_2 : Hid (BC y5 [.int .i64 0, .int .i64 0, .slice none 0 0] 53 v2) := Lib.hid (by rw [hv2, hy5]; exact BC.new v1 [.int .i64 0, .int .i64 0, .slice none 0 0] 53 rfl)
    have HL5 : Hid (w4.heap.size ≤ y5) := Lib.hid (by rw [hy5]; exact HBW1.out.size)
    have Hx6_2 := Lib.hid (Hx6_1.out.below hb)
    clear Hx6_1
    have HBW2 : Hid (Below w4.heap.size w4 v2) := Lib.hid hHeld.2.out.1
    clear hv2 hy5 hb
    refine Rg.rd1 2 ⟨some 16,.call ⟨.value (.func 38),#[.tmp 15],#[3]⟩,53,"law.go:185",#[⟨1,.data⟩],none⟩ fun K hK => ?_
    go_simp
    go_at_call 38
    with_reducible refine (HOV.out _).mono ?_
    rintro e3 v3 ⟨b, cap, rfl, hfa, hb, hbl⟩
    refine hK.out _ _ ?_ (fun hHeld => ?_)
    ·(try dsimp only)
     exact S5.go hHeld (hb.mono hHeld.2.out.1.size)
    clear hK K
    try simp only [Rg.gp]
    have Hfa_3 := Lib.hid hfa
    have HN5 := Lib.hid (show ¬ b = y5 from fun e => by have h1 := Hx5_2.out.lt; omega)
    have HN6 := Lib.hid (show ¬ b = y6 from fun e => by have h1 := Hx6_2.out.lt; omega)
    have Hx5_3 := Lib.hid (Hx5_2.out.below hb)
    clear Hx5_2
    have Hx6_3 := Lib.hid (Hx6_2.out.below hb)
    clear Hx6_2
    have HBW3 : Hid (Below w4.heap.size w4 v3) := Lib.hid hHeld.2.out.1
    clear hb hbl hfa
    refine Rg.rd1 4 ⟨some 18,.call ⟨.value (.func 26),#[.tmp 17],#[32]⟩,32,"law.go:185",#[⟨3,.data⟩,⟨2,.chain⟩],none⟩ fun K hK => ?_
    go_simp
    go_at_call 26
    with_reducible refine (HDU.out _ hHeld.2.out.1).mono ?_
    rintro e4 v4 ⟨us, ad, cd, rfl, hol, hb⟩
    rw [HLD.out] at hol ⊢
    refine hK.out _ _ ?_ (fun hHeld => ?_)
    ·(try dsimp only)
     exact S5.go hHeld (hb.mono hHeld.2.out.1.size)
    clear hK K
    try simp only [Rg.gp]
    have Hol_4 := Lib.hid hol
    have Hfa_4 := Lib.hid (Hfa_3.out.below hb)
    clear Hfa_3
    have Hx5_4 := Lib.hid (Hx5_3.out.below hb)
    clear Hx5_3
    have Hx6_4 := Lib.hid (Hx6_3.out.below hb)
    clear Hx6_3
    have HBW4 : Hid (Below w4.heap.size w4 v4) := Lib.hid hHeld.2.out.1
    clear hb hol
    refine Rg.rd1 7 ⟨none,.store 53 (.tmp 5) (.tmp 16),0,"law.go:185",#[⟨5,.data⟩,⟨2,.data⟩,⟨4,.chain⟩,⟨0,.phase⟩,⟨1,.phase⟩,⟨2,.phase⟩,⟨3,.textOnly Go.Departure.lateStores⟩,⟨4,.textOnly Go.Departure.lateStoresUnsure⟩,⟨5,.phase⟩,⟨6,.phase⟩],none⟩ fun K hK => ?_
    have r0 := Hx5_4.out.cell (i := 0) rfl
    have g0 := Hx5_4.out.fz 0
    have r1 := Hx5_4.out.cell (i := 1) rfl
    have g1 := Hx5_4.out.fz 1
    have r2 := Hx5_4.out.cell (i := 2) rfl
    have g2 := Hx5_4.out.fz 2
    have hbx : Bx (fun k => k = y5) v4 (World.setCell (World.setCell (World.setCell v4 ⟨y5, 0, none⟩ (.int .i64 F.p)) ⟨y5, 1, none⟩ (.int .i64 F.e)) ⟨y5, 2, none⟩ (FM F b cap)) := bx3 _ _ _
    have hbl : Below w4.heap.size v4 (World.setCell (World.setCell (World.setCell v4 ⟨y5, 0, none⟩ (.int .i64 F.p)) ⟨y5, 1, none⟩ (.int .i64 F.e)) ⟨y5, 2, none⟩ (FM F b cap)) := hbx.below HBW4.out.size (fun k hk => by have h1 := HL5.out; omega)
    go_simp
    refine hK.out _ _ ?_ (fun hHeld => ?_)
    ·(try dsimp only)
     exact S5.go hHeld hbl
    clear hK K
    try simp only [Rg.gp]
    obtain ⟨v5, hv5⟩ : ∃ w, w = (World.setCell (World.setCell (World.setCell v4 ⟨y5, 0, none⟩ (.int .i64 F.p)) ⟨y5, 1, none⟩ (.int .i64 F.e)) ⟨y5, 2, none⟩ (FM F b cap)) := ⟨_, rfl⟩
    rw [← hv5] at hHeld hbx ⊢
    have Hx5_5 : Hid (BC y5 [.int .i64 F.p, .int .i64 F.e, FM F b cap] 53 v5) := Lib.hid (by rw [hv5]; exact Hx5_4.out.set3 _ _ _)
    have Hol_5 := Lib.hid (OL.bc Hol_4.out Hx5_4.out (by decide) (by decide) hbx)
    have Hfa_5 := Lib.hid (Hfa_4.out.bx hbx HN5.out)
    have Hx6_5 := Lib.hid (Hx6_4.out.bx hbx (BC.ne Hx6_4.out Hx5_4.out (by decide)))
    have HBW5 : Hid (Below w4.heap.size w4 v5) := Lib.hid hHeld.2.out.1
    clear hv5 hbx hbl r0 r1 r2 g0 g1 g2 Hx5_4 Hol_4 Hfa_4 Hx6_4
    refine Rg.rd1 8 ⟨none,.store 32 (.tmp 6) (.tmp 18),0,"law.go:185",#[⟨6,.data⟩,⟨4,.data⟩,⟨7,.chain⟩,⟨0,.phase⟩,⟨1,.phase⟩,⟨2,.phase⟩,⟨3,.phase⟩,⟨4,.phase⟩,⟨5,.phase⟩,⟨6,.phase⟩,⟨7,.phase⟩],none⟩ fun K hK => ?_
    have r0 := Hx6_5.out.cell (i := 0) rfl
    have g0 := Hx6_5.out.fz 0
    have r1 := Hx6_5.out.cell (i := 1) rfl
    have g1 := Hx6_5.out.fz 1
    have r2 := Hx6_5.out.cell (i := 2) rfl
    have g2 := Hx6_5.out.fz 2
    have hbx : Bx (fun k => k = y6) v5 (World.setCell (World.setCell (World.setCell v5 ⟨y6, 0, none⟩ (.int .i64 (q : Nat))) ⟨y6, 1, none⟩ (.int .i64 (n : Nat))) ⟨y6, 2, none⟩ (.slice ad ld cd)) := bx3 _ _ _
    have hbl : Below w4.heap.size v5 (World.setCell (World.setCell (World.setCell v5 ⟨y6, 0, none⟩ (.int .i64 (q : Nat))) ⟨y6, 1, none⟩ (.int .i64 (n : Nat))) ⟨y6, 2, none⟩ (.slice ad ld cd)) := hbx.below HBW5.out.size (fun k hk => by have h1 := HL6.out; omega)
    go_simp
    refine hK.out _ _ ?_ (fun hHeld => ?_)
    ·(try dsimp only)
     exact S5.go hHeld hbl
    clear hK K
    try simp only [Rg.gp]
    obtain ⟨v6, hv6⟩ : ∃ w, w = (World.setCell (World.setCell (World.setCell v5 ⟨y6, 0, none⟩ (.int .i64 (q : Nat))) ⟨y6, 1, none⟩ (.int .i64 (n : Nat))) ⟨y6, 2, none⟩ (.slice ad ld cd)) := ⟨_, rfl⟩
    rw [← hv6] at hHeld hbx ⊢
    have Hx6_6 : Hid (BC y6 [.int .i64 (q : Nat), .int .i64 (n : Nat), .slice ad ld cd] 32 v6) := Lib.hid (by rw [hv6]; exact Hx6_5.out.set3 _ _ _)
    have Hol_6 := Lib.hid (OL.bc Hol_5.out Hx6_5.out (by decide) (by decide) hbx)
    have Hfa_6 := Lib.hid (Hfa_5.out.bx hbx HN6.out)
    have Hx5_6 := Lib.hid (Hx5_5.out.bx hbx (BC.ne Hx5_5.out Hx6_5.out (by decide)))
    have HBW6 : Hid (Below w4.heap.size w4 v6) := Lib.hid hHeld.2.out.1
    clear hv6 hbx hbl r0 r1 r2 g0 g1 g2 Hx6_5 Hol_5 Hfa_5 Hx5_5
    refine wpAnyH_done (by kernel_rfl) ?_ _
    exact hrest y5 y6 b cap us ad cd v6 (Lib.hid ⟨Hx5_6.out, Hx6_6.out, Hfa_6.out, Hol_6.out.mm, HBW6.out⟩)
 case rest =>
  rintro y5 y6 b cap us ad cd v hv
  obtain ⟨hy5, hy6, hfa, hmd, hbv⟩ := hv.out
  have HF3 : Hid (FB3 y5 F b cap v) := Lib.hid ⟨hy5.cell rfl, hy5.cell rfl, hy5.cell rfl⟩
  have HFV := Lib.hid hfa
  have HMD := Lib.hid hmd
  have HMG := Lib.hid (HM4.out.below hbv)
  have HBV : Hid (Below W.heap.size W v) := Lib.hid (HB4.out.trans (hbv.mono HB4.out.size))
  have hc4 := HC4.out.below hbv
  have hS6 : S6 q n (.slice a m ca) x4 (.slice ad ld cd) y6 v v.drew := ⟨⟨hc4.cell rfl, hc4.cell rfl, hc4.cell rfl⟩, ⟨hy6.cell rfl, hy6.cell rfl, hy6.cell rfl⟩, Lib.hid ⟨(Below.refl _ _).drew, hc4.lt, hy6.lt⟩⟩
  have HS6 : Hid (S6 q n (.slice a m ca) x4 (.slice ad ld cd) y6 v v) := Lib.hid ⟨⟨hc4.cell rfl, hc4.cell rfl, hc4.cell rfl⟩, ⟨hy6.cell rfl, hy6.cell rfl, hy6.cell rfl⟩, Lib.hid ⟨Below.refl _ _, hc4.lt, hy6.lt⟩⟩
  have HVA : Hid (∀ w', Below v.heap.size v w' → Calls Try.prog 15 #[DV q n (.slice ad ld cd)] w' fun e w'' => e = .returned (.bool true) ∧ Below w'.heap.size w' w'') := Lib.hid fun w' hb => by
   have h := valid_c hLD.out.gc (HMD.out.below hb)
   rw [hLD.out.ar, hq.out] at h; exact h
  have HDM : Hid (∀ w', Below v.heap.size v w' → Calls Try.prog 37 #[DV q n (.slice a m ca)] w' fun e w'' => e = .returned (.int .i64 (m : Nat)) ∧ Below w'.heap.size w' w'') := Lib.hid fun w' hb => by
   have h := dim_c HVC.out (HMG.out.below hb)
   rw [hq.out] at h; exact h
  have HDD : Hid (∀ w', Below v.heap.size v w' → Calls Try.prog 37 #[DV q n (.slice ad ld cd)] w' fun e w'' => e = .returned (.int .i64 (ld : Nat)) ∧ Below w'.heap.size w' w'') := Lib.hid fun w' hb => by
   have h := dim_c hLD.out (HMD.out.below hb)
   rw [hq.out] at h; exact h
  have HD2 : Hid (∀ w', Below v.heap.size v w' → Calls Try.prog 26 #[DV q n (.slice ad ld cd)] w' fun e w'' => ∃ a2 c2, e = .returned (DV q n (.slice a2 m c2)) ∧ MM G w'' (.slice a2 m c2) ∧ Below w'.heap.size w' w'') := Lib.hid fun w' hb => by
   have h := dual_c hLD.out (HMD.out.below hb)
   rw [HBK.out, hq.out] at h
   refine h.mono fun e w'' ⟨us, a2, c2, h1, h2, h3⟩ => ⟨a2, c2, ?_, ?_, h3⟩
   ·rw [h1, HGL.out]
   ·have := h2.mm; rw [HGL.out] at this; exact this
  have HSM : Hid (∀ w' a2 c2, Below v.heap.size v w' → MM G w' (.slice a2 m c2) → Calls Try.prog 14 #[DV q n (.slice a2 m c2), DV q n (.slice a m ca)] w' fun e w'' => e = .returned (.bool true) ∧ Below w'.heap.size w' w'') := Lib.hid fun w' a2 c2 hb h2 => same_c HGL.out (by omega) (fun t ht => by rw [(mrow HGN.out ht).len]; omega) h2 (HMG.out.below hb)
  clear hy5 hy6 hfa hmd hbv hv hc4
  go_wp2_with fail
  refine wp_region_held_drew (S := fun w' => S6 q n (.slice a m ca) x4 (.slice ad ld cd) y6 v w') (by kernel_rfl) (by with_reducible exact hS6) (fun hHeld => ?_)
  refine Rg.tk 0 ⟨some 19,.load 32 (.tmp 6),32,"law.go:186",#[],none⟩ ?_
  try simp only [Rg.gp]
  refine Rg.rd1 1 ⟨some 20,.call ⟨.value (.func 15),#[.tmp 19],#[32]⟩,4,"law.go:186",#[⟨0,.data⟩],none⟩ fun K hK => ?_
  go_simp
  go_at_call 15
  with_reducible refine (HVA.out _ hHeld.2.2.out.1).mono ?_
  rintro e1 u1 ⟨rfl, hb1⟩
  refine hK.out _ _ ?_ (fun hHeld => ?_)
  ·(try dsimp only)
   exact S6.go hHeld (hb1.mono hHeld.2.2.out.1.size)
  clear hK K
  try simp only [Rg.gp]
  refine Rg.tk 2 ⟨some 21,.unOp UnOp.not 4 (.tmp 20),4,"law.go:186",#[⟨1,.data⟩],none⟩ ?_
  try simp only [Rg.gp]
  refine Rg.tk 3 ⟨some 22,.move (.tmp 21),4,"law.go:186",#[⟨2,.data⟩,⟨1,.chain⟩],none⟩ ?_
  try simp only [Rg.gp]
  refine Rg.tk 4 ⟨some 23,.fieldAddr 32 (.tmp 6) 0,0,"law.go:186",#[⟨3,.guard⟩],some (3, false)⟩ ?_
  try simp only [Rg.gp]
  refine Rg.tk 5 ⟨some 24,.load 3 (.tmp 23),3,"law.go:186",#[⟨4,.data⟩,⟨3,.guard⟩],some (3, false)⟩ ?_
  try simp only [Rg.gp]
  refine Rg.tk 6 ⟨some 25,.fieldAddr 32 (.tmp 4) 0,0,"law.go:186",#[⟨3,.guard⟩],some (3, false)⟩ ?_
  try simp only [Rg.gp]
  refine Rg.tk 7 ⟨some 26,.load 3 (.tmp 25),3,"law.go:186",#[⟨6,.data⟩,⟨3,.guard⟩],some (3, false)⟩ ?_
  try simp only [Rg.gp]
  refine Rg.tk 8 ⟨some 27,.binOp BinOp.neq 3 (.tmp 24) (.tmp 26) 3,4,"law.go:186",#[⟨5,.data⟩,⟨7,.data⟩,⟨3,.guard⟩],some (3, false)⟩ ?_
  try simp only [Rg.gp]
  refine Rg.tk 9 ⟨some 28,.pick (.tmp 22) (.const (Value.bool true)) (.tmp 27),4,"law.go:186",#[⟨3,.data⟩,⟨8,.data⟩],none⟩ ?_
  try simp only [Rg.gp]
  refine Rg.tk 10 ⟨some 29,.move (.tmp 28),4,"law.go:186",#[⟨9,.data⟩,⟨3,.chain⟩],none⟩ ?_
  try simp only [Rg.gp]
  refine Rg.tk 11 ⟨some 30,.fieldAddr 32 (.tmp 6) 1,0,"law.go:186",#[⟨10,.guard⟩],some (10, false)⟩ ?_
  try simp only [Rg.gp]
  refine Rg.tk 12 ⟨some 31,.load 3 (.tmp 30),3,"law.go:186",#[⟨11,.data⟩,⟨10,.guard⟩],some (10, false)⟩ ?_
  try simp only [Rg.gp]
  refine Rg.tk 13 ⟨some 32,.fieldAddr 32 (.tmp 4) 1,0,"law.go:186",#[⟨10,.guard⟩],some (10, false)⟩ ?_
  try simp only [Rg.gp]
  refine Rg.tk 14 ⟨some 33,.load 3 (.tmp 32),3,"law.go:186",#[⟨13,.data⟩,⟨10,.guard⟩],some (10, false)⟩ ?_
  try simp only [Rg.gp]
  refine Rg.tk 15 ⟨some 34,.binOp BinOp.neq 3 (.tmp 31) (.tmp 33) 3,4,"law.go:186",#[⟨12,.data⟩,⟨14,.data⟩,⟨10,.guard⟩],some (10, false)⟩ ?_
  try simp only [Rg.gp]
  refine Rg.tk 16 ⟨some 35,.pick (.tmp 29) (.const (Value.bool true)) (.tmp 34),4,"law.go:186",#[⟨10,.data⟩,⟨15,.data⟩],none⟩ ?_
  try simp only [Rg.gp]
  refine Rg.tk 17 ⟨some 36,.move (.tmp 35),4,"law.go:186",#[⟨16,.data⟩,⟨10,.chain⟩],none⟩ ?_
  try simp only [Rg.gp]
  refine Rg.tk 18 ⟨some 37,.load 32 (.tmp 4),32,"law.go:186",#[⟨17,.guard⟩],some (17, false)⟩ ?_
  try simp only [Rg.gp]
  refine Rg.tk 20 ⟨some 39,.load 32 (.tmp 6),32,"law.go:186",#[⟨17,.guard⟩],some (17, false)⟩ ?_
  try simp only [Rg.gp]
  refine Rg.tk 23 ⟨some 42,.fieldAddr 32 (.tmp 4) 1,0,"law.go:186",#[⟨17,.guard⟩],some (17, false)⟩ ?_
  try simp only [Rg.gp]
  refine Rg.tk 24 ⟨some 43,.load 3 (.tmp 42),3,"law.go:186",#[⟨23,.data⟩,⟨17,.guard⟩],some (17, false)⟩ ?_
  try simp only [Rg.gp]
  refine Rg.rd1 19 ⟨some 38,.call ⟨.value (.func 37),#[.tmp 37],#[32]⟩,3,"law.go:186",#[⟨18,.data⟩,⟨17,.chain⟩,⟨17,.guard⟩],some (17, false)⟩ fun K hK => ?_
  go_simp
  go_at_call 37
  with_reducible refine (HDM.out _ hHeld.2.2.out.1).mono ?_
  rintro e2 u2 ⟨rfl, hb2⟩
  refine hK.out _ _ ?_ (fun hHeld => ?_)
  ·(try dsimp only)
   exact S6.go hHeld (hb2.mono hHeld.2.2.out.1.size)
  clear hK K
  try simp only [Rg.gp]
  refine Rg.rd1 21 ⟨some 40,.call ⟨.value (.func 37),#[.tmp 39],#[32]⟩,3,"law.go:186",#[⟨20,.data⟩,⟨19,.chain⟩,⟨17,.guard⟩],some (17, false)⟩ fun K hK => ?_
  go_simp
  go_at_call 37
  with_reducible refine (HDD.out _ hHeld.2.2.out.1).mono ?_
  rintro e3 u3 ⟨rfl, hb3⟩
  refine hK.out _ _ ?_ (fun hHeld => ?_)
  ·(try dsimp only)
   exact S6.go hHeld (hb3.mono hHeld.2.2.out.1.size)
  clear hK K
  try simp only [Rg.gp]
  refine Rg.tk 22 ⟨some 41,.binOp BinOp.add 3 (.tmp 38) (.tmp 40) 3,3,"law.go:186",#[⟨19,.data⟩,⟨21,.data⟩,⟨17,.guard⟩],some (17, false)⟩ ?_
  try simp only [Rg.gp]
  refine Rg.tk 25 ⟨some 44,.binOp BinOp.neq 3 (.tmp 41) (.tmp 43) 3,4,"law.go:186",#[⟨22,.data⟩,⟨24,.data⟩,⟨17,.guard⟩],some (17, false)⟩ ?_
  try simp only [Rg.gp]
  refine Rg.tk 26 ⟨some 45,.pick (.tmp 36) (.const (Value.bool true)) (.tmp 44),4,"law.go:186",#[⟨17,.data⟩,⟨25,.data⟩],none⟩ ?_
  try simp only [Rg.gp]
  refine Rg.tk 27 ⟨some 46,.move (.tmp 45),4,"law.go:186",#[⟨26,.data⟩,⟨21,.chain⟩],none⟩ ?_
  try simp only [Rg.gp]
  refine Rg.tk 28 ⟨some 47,.load 32 (.tmp 6),32,"law.go:186",#[⟨27,.guard⟩],some (27, false)⟩ ?_
  try simp only [Rg.gp]
  refine Rg.tk 30 ⟨some 49,.load 32 (.tmp 4),32,"law.go:186",#[⟨27,.guard⟩],some (27, false)⟩ ?_
  try simp only [Rg.gp]
  refine Rg.rd1 29 ⟨some 48,.call ⟨.value (.func 26),#[.tmp 47],#[32]⟩,32,"law.go:186",#[⟨28,.data⟩,⟨27,.chain⟩,⟨27,.guard⟩],some (27, false)⟩ fun K hK => ?_
  go_simp
  go_at_call 26
  with_reducible refine (HD2.out _ hHeld.2.2.out.1).mono ?_
  rintro e4 u4 ⟨a2, c2, rfl, hm2, hb4⟩
  have HM2 := Lib.hid hm2
  refine hK.out _ _ ?_ (fun hHeld => ?_)
  ·(try dsimp only)
   exact S6.go hHeld (hb4.mono hHeld.2.2.out.1.size)
  clear hK K
  try simp only [Rg.gp]
  refine Rg.rd1 31 ⟨some 50,.call ⟨.value (.func 14),#[.tmp 48,.tmp 49],#[32,32]⟩,4,"law.go:186",#[⟨29,.data⟩,⟨30,.data⟩,⟨29,.chain⟩,⟨27,.guard⟩],some (27, false)⟩ fun K hK => ?_
  go_simp
  go_at_call 14
  with_reducible refine (HSM.out _ a2 c2 hHeld.2.2.out.1 HM2.out).mono ?_
  rintro e5 u5 ⟨rfl, hb5⟩
  refine hK.out _ _ ?_ (fun hHeld => ?_)
  ·(try dsimp only)
   exact S6.go hHeld (hb5.mono hHeld.2.2.out.1.size)
  clear hK K
  try simp only [Rg.gp]
  refine Rg.tk 32 ⟨some 51,.unOp UnOp.not 4 (.tmp 50),4,"law.go:186",#[⟨31,.data⟩,⟨27,.guard⟩],some (27, false)⟩ ?_
  try simp only [Rg.gp]
  refine Rg.tk 33 ⟨some 52,.pick (.tmp 46) (.const (Value.bool true)) (.tmp 51),4,"law.go:186",#[⟨27,.data⟩,⟨32,.data⟩],none⟩ ?_
  try simp only [Rg.gp]
  refine wpAnyH_done (by kernel_rfl) ?_ _
  have HB6 : Hid (Below v.heap.size v u5) := Lib.hid hHeld.2.2.out.1
  clear hHeld hS6 hb1 hb2 hb3 hb4 hb5 hm2 HM2
  go_wp2
  go_loopw [7] (fun i wr => ∃ i' : Nat, i' ≤ m ∧ i = .int .i64 (i' : Nat) ∧ Hid (Below v.heap.size v wr)) (fun i _ => m - (intOf i).toNat)
  case atStart => exact ⟨0, Nat.zero_le _, rfl, HB6⟩
  case round =>
   obtain ⟨i, him, rfl, KB⟩ := hrel
   obtain ⟨⟨c0, c1, c2⟩, ⟨d0, d1, d2⟩, -⟩ := S6.go HS6.out KB.out
   have HBF : Hid (Below W.heap.size W wr) := Lib.hid (HBV.out.trans (KB.out.mono HBV.out.size))
   by_cases hlt : i < m
   ·have hlti : (i : Int) < (m : Int) := by omega
    go_wp2
    go_loopw [8] (fun k wr => ∃ k' : Nat, k' ≤ ld ∧ k = .int .i64 (k' : Nat) ∧ Hid (Below v.heap.size v wr)) (fun k _ => ld - (intOf k).toNat)
    case atStart => exact ⟨0, Nat.zero_le _, rfl, KB⟩
    case round =>
     obtain ⟨k, hkl, rfl, KB2⟩ := hrel
     clear c0 c1 c2 d0 d1 d2
     obtain ⟨⟨c0, c1, c2⟩, ⟨d0, d1, d2⟩, -⟩ := S6.go HS6.out KB2.out
     by_cases hlk : k < ld
     ·have hlki : (k : Int) < (ld : Int) := by omega
      obtain ⟨bd, od, had, a2, c2', hcd, hn2⟩ := (HMD.out.below KB2.out).at' (fun t ht => (mrow HDN.out ht).len) hlk
      obtain ⟨bg, og, hag, a3, c3, hcg, hn3⟩ := (HMG.out.below KB2.out).at' (fun t ht => (mrow HGN.out ht).len) hlt
      subst had hag
      have HPR : Hid (Calls Try.prog 42 #[FV F b cap, .slice a3 n c3, .slice a2 n c2'] wr.drew fun e w' => e = .returned (.int .i64 0) ∧ Below wr.drew.heap.size wr.drew w') := Lib.hid (by
       have h := rproduct_c (W := wr.drew) (F := F) (b := b) (cap := cap) (n := n) ((HFV.out.below KB2.out).of rfl) (by omega) (mrow HGN.out (by rw [HGL.out]; exact hlt)) (mrow HDN.out (by rw [HLD.out]; exact hlk)) (hn3.below (Below.refl _ _).drew) (hn2.below (Below.refl _ _).drew)
       rw [HDT.out i k hlt hlk] at h
       exact h)
      have hS14 : S6 q n (.slice (some ⟨bg, og, none⟩) m ca) x4 (.slice (some ⟨bd, od, none⟩) ld cd) y6 v wr.drew ∧ FB3 y5 F b cap wr.drew ∧ wr.drew.cell? ⟨bd, od + k, none⟩ = some (.slice a2 n c2') ∧ wr.drew.cell? ⟨bg, og + i, none⟩ = some (.slice a3 n c3) := ⟨⟨⟨c0, c1, c2⟩, ⟨d0, d1, d2⟩, Lib.hid ⟨KB2.out.trans (Below.refl _ _).drew, HS6.out.2.2.out.2.1, HS6.out.2.2.out.2.2⟩⟩, (HF3.out.below KB2.out).of rfl, hcd, hcg⟩
      clear hcd hcg hn2 hn3
      obtain ⟨c2, hc2⟩ : ∃ c, c = c2' := ⟨_, rfl⟩
      subst hc2
      go_wp2_with fail
      refine wp_region_held_drew (S := fun w' => S6 q n (.slice (some ⟨bg, og, none⟩) m ca) x4 (.slice (some ⟨bd, od, none⟩) ld cd) y6 v w' ∧ FB3 y5 F b cap w' ∧ w'.cell? ⟨bd, od + k, none⟩ = some (.slice a2 n c2) ∧ w'.cell? ⟨bg, og + i, none⟩ = some (.slice a3 n c3)) (by kernel_rfl) (by with_reducible exact hS14) (fun hHeld => ?_)
      refine Rg.tk 0 ⟨some 67,.fieldAddr 32 (.tmp 6) 2,0,"law.go:191",#[],none⟩ ?_
      try simp only [Rg.gp]
      refine Rg.tk 1 ⟨some 68,.load 22 (.tmp 67),22,"law.go:191",#[⟨0,.data⟩],none⟩ ?_
      try simp only [Rg.gp]
      refine Rg.tk 2 ⟨some 69,.move (.tmp 8),3,"law.go:191",#[],none⟩ ?_
      try simp only [Rg.gp]
      refine Rg.tk 3 ⟨some 70,.indexAddr 22 (.tmp 68) (.tmp 69),0,"law.go:191",#[⟨1,.data⟩,⟨2,.data⟩],none⟩ ?_
      try simp only [Rg.gp]
      refine Rg.tk 4 ⟨some 71,.load 39 (.tmp 70),39,"law.go:191",#[⟨3,.data⟩],none⟩ ?_
      try simp only [Rg.gp]
      refine Rg.tk 5 ⟨some 72,.call ⟨.builtin Builtin.len,#[.tmp 71],#[39]⟩,3,"law.go:191",#[⟨4,.data⟩],none⟩ ?_
      try simp only [Rg.gp]
      refine Rg.tk 6 ⟨some 73,.fieldAddr 32 (.tmp 4) 1,0,"law.go:191",#[],none⟩ ?_
      try simp only [Rg.gp]
      refine Rg.tk 7 ⟨some 74,.load 3 (.tmp 73),3,"law.go:191",#[⟨6,.data⟩],none⟩ ?_
      try simp only [Rg.gp]
      refine Rg.tk 8 ⟨some 75,.binOp BinOp.neq 3 (.tmp 72) (.tmp 74) 3,4,"law.go:191",#[⟨5,.data⟩,⟨7,.data⟩],none⟩ ?_
      try simp only [Rg.gp]
      refine Rg.tk 9 ⟨some 76,.move (.tmp 75),4,"law.go:191",#[⟨8,.data⟩],none⟩ ?_
      try simp only [Rg.gp]
      refine Rg.tk 10 ⟨some 77,.load 53 (.tmp 5),53,"law.go:191",#[⟨9,.guard⟩],some (9, false)⟩ ?_
      try simp only [Rg.gp]
      refine Rg.tk 11 ⟨some 78,.fieldAddr 32 (.tmp 4) 2,0,"law.go:191",#[⟨9,.guard⟩],some (9, false)⟩ ?_
      try simp only [Rg.gp]
      refine Rg.tk 12 ⟨some 79,.load 22 (.tmp 78),22,"law.go:191",#[⟨11,.data⟩,⟨9,.guard⟩],some (9, false)⟩ ?_
      try simp only [Rg.gp]
      refine Rg.tk 13 ⟨some 80,.move (.tmp 7),3,"law.go:191",#[⟨9,.guard⟩],some (9, false)⟩ ?_
      try simp only [Rg.gp]
      refine Rg.tk 14 ⟨some 81,.indexAddr 22 (.tmp 79) (.tmp 80),0,"law.go:191",#[⟨12,.data⟩,⟨13,.data⟩,⟨9,.guard⟩],some (9, false)⟩ ?_
      try simp only [Rg.gp]
      refine Rg.tk 15 ⟨some 82,.load 39 (.tmp 81),39,"law.go:191",#[⟨14,.data⟩,⟨9,.guard⟩],some (9, false)⟩ ?_
      try simp only [Rg.gp]
      refine Rg.tk 16 ⟨some 83,.fieldAddr 32 (.tmp 6) 2,0,"law.go:191",#[⟨9,.guard⟩],some (9, false)⟩ ?_
      try simp only [Rg.gp]
      refine Rg.tk 17 ⟨some 84,.load 22 (.tmp 83),22,"law.go:191",#[⟨16,.data⟩,⟨9,.guard⟩],some (9, false)⟩ ?_
      try simp only [Rg.gp]
      refine Rg.tk 18 ⟨some 85,.move (.tmp 8),3,"law.go:191",#[⟨9,.guard⟩],some (9, false)⟩ ?_
      try simp only [Rg.gp]
      refine Rg.tk 19 ⟨some 86,.indexAddr 22 (.tmp 84) (.tmp 85),0,"law.go:191",#[⟨17,.data⟩,⟨18,.data⟩,⟨9,.guard⟩],some (9, false)⟩ ?_
      try simp only [Rg.gp]
      refine Rg.tk 20 ⟨some 87,.load 39 (.tmp 86),39,"law.go:191",#[⟨19,.data⟩,⟨9,.guard⟩],some (9, false)⟩ ?_
      try simp only [Rg.gp]
      refine Rg.rd1 21 ⟨some 88,.call ⟨.value (.func 42),#[.tmp 77,.tmp 82,.tmp 87],#[53,39,39]⟩,3,"law.go:191",#[⟨10,.data⟩,⟨15,.data⟩,⟨20,.data⟩,⟨9,.chain⟩,⟨9,.guard⟩],some (9, false)⟩ fun K hK => ?_
      go_simp
      go_at_call 42
      with_reducible refine HPR.out.mono ?_
      rintro e7 u7 ⟨rfl, hb7⟩
      refine hK.out _ _ ?_ (fun hHeld => ?_)
      ·(try dsimp only)
       have hbv := hb7.mono hHeld.1.2.2.out.1.size
       exact ⟨S6.go hHeld.1 hbv, hHeld.2.1.below hb7, (hb7.cell (p := ⟨bd, od + k, none⟩) (World.block_lt_of_cell? _ _ hHeld.2.2.1)).trans hHeld.2.2.1, (hb7.cell (p := ⟨bg, og + i, none⟩) (World.block_lt_of_cell? _ _ hHeld.2.2.2)).trans hHeld.2.2.2⟩
      clear hK K
      try simp only [Rg.gp]
      refine Rg.tk 22 ⟨some 89,.binOp BinOp.neq 3 (.tmp 88) (.const (Value.int IntKind.i64 0)) 3,4,"law.go:191",#[⟨21,.data⟩,⟨9,.guard⟩],some (9, false)⟩ ?_
      try simp only [Rg.gp]
      refine Rg.tk 23 ⟨some 90,.pick (.tmp 76) (.const (Value.bool true)) (.tmp 89),4,"law.go:191",#[⟨9,.data⟩,⟨22,.data⟩],none⟩ ?_
      try simp only [Rg.gp]
      refine wpAnyH_done (by kernel_rfl) ?_ _
      have HB7 : Hid (Below v.heap.size v u7) := Lib.hid hHeld.1.2.2.out.1
      clear hHeld hS14 hb7
      go_wp2
      go_roundw
      case rel => exact ⟨k + 1, by omega, by go_num, HB7⟩
      case measure => simp [intOf]; omega
     ·have hlki : ¬ (k : Int) < (ld : Int) := by omega
      go_wp2
      go_roundw
      case rel => exact ⟨i + 1, by omega, by go_num, KB2⟩
      case measure => simp [intOf]; omega
   ·have hlti : ¬ (i : Int) < (m : Int) := by omega
    go_wp2
    go_ret
    exact ⟨rfl, HBF.out⟩

end Go.Proofs.Ytdafhhojiioifaa
