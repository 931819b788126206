/- The law CodeGenerators. -/
import Derived.Test.YtdafhhojiioifaaEh
namespace Go.Proofs.Ytdafhhojiioifaa
open Go.RowKit Go.Fl
set_option maxRecDepth 100000
set_option linter.unusedVariables false
set_option linter.unusedSimpArgs false
set_option linter.unusedSectionVars false

open Go.RowKit
theorem Bx.below' {S : Nat → Prop} {c a b : World} (h : Bx S a b) (hc : Below c.heap.size c a) (hs : ∀ k, S k → c.heap.size ≤ k) : Below c.heap.size c b := hc.trans (h.below hc.size hs)
set_option maxHeartbeats 1600000 in
theorem generators_c {x y z l cl lk ck tu : Nat} {ak : Option Addr} {aa : Option Addr} {W : World} (hx : x ≤ 255) (hy : y ≤ 255) (hz : z ≤ 255) (hl : l ≤ maxLen) (na : N8 l W (.slice aa l cl)) (hlk : lk ≤ maxLen) (nk : N8 lk W (.slice ak lk ck)) (htu : tu ≤ 255) :
  Calls Try.prog 4 #[.agg #[.int .u8 (x : Nat), .int .u8 (y : Nat), .int .u8 (z : Nat), .slice aa l cl], .slice ak lk ck, .int .u8 (tu : Nat)] W fun e w' => e = .returned (.bool true) ∧ Below W.heap.size W w' := by
 obtain ⟨W1, hW1⟩ : ∃ w, w = (W.alloc (.cells #[.int .u8 (x : Nat), .int .u8 (y : Nat), .int .u8 (z : Nat), .slice aa l cl] 27)) := ⟨_, rfl⟩
 have HB1 : Hid (Below W.heap.size W W1) := Lib.hid (by rw [hW1]; exact (Below.refl _ _).alloc (Nat.le_refl _) _)
 have HX : Hid (BC W.heap.size [.int .u8 (x : Nat), .int .u8 (y : Nat), .int .u8 (z : Nat), .slice aa l cl] 27 W1) := Lib.hid (by rw [hW1]; exact BC.new W [.int .u8 (x : Nat), .int .u8 (y : Nat), .int .u8 (z : Nat), .slice aa l cl] 27 rfl)
 have HNK := Lib.hid (And.intro hlk (nk.below HB1.out))
 clear hlk nk
 have HEX : Hid (Calls Try.prog 10 #[] W1 fun e w' => e = .returned (.bool true) ∧ Below W1.heap.size W1 w') := Lib.hid ex_c
 have HNA := Lib.hid (na.below HB1.out)
 have HXL := Lib.hid (And.intro hx (And.intro hy (And.intro hz hl)))
 have HW1 := Lib.hid hW1
 clear hW1 na hx hy hz hl
 go_enter Try.func4, Try.ntmps4
 go_wp2_with fail
 rw [← HW1.out]
 with_reducible refine HEX.out.mono ?_
 rintro e w2 ⟨rfl, hb2⟩
 have HX2 := Lib.hid (HX.out.below hb2)
 have HB12 : Hid (Below W1.heap.size W1 w2) := Lib.hid hb2
 have HB2 : Hid (Below W.heap.size W w2) := Lib.hid (HB1.out.trans (hb2.mono HB1.out.size))
 have HMC : Hid (Calls Try.prog 17 #[.agg #[.int .u8 (x : Nat), .int .u8 (y : Nat), .int .u8 (z : Nat), .slice aa l cl]] w2 (MC w2)) := Lib.hid (made_c HXL.out.1 HXL.out.2.1 HXL.out.2.2.1 HXL.out.2.2.2 (HNA.out.below hb2))
 have c0 := HX2.out.cell (i := 0) rfl
 have c1 := HX2.out.cell (i := 1) rfl
 have c2 := HX2.out.cell (i := 2) rfl
 have c3 := HX2.out.cell (i := 3) rfl
 clear hb2 HEX
 go_wp2_with fail
 with_reducible refine HMC.out.mono ?_
 rintro e w3 ⟨F, n, m, G, L, a, ca, rfl, hvc, hn10, hqm, hmm, hb3⟩
 obtain ⟨w4, hw4⟩ : ∃ w, w = w3.alloc (.cells #[.int .i64 (F.q : Nat), .int .i64 (n : Nat), .slice a m ca] 32) := ⟨_, rfl⟩
 obtain ⟨x4, hx4⟩ : ∃ x, x = w3.heap.size := ⟨_, rfl⟩
 have HA4 : Hid (Below w3.heap.size w3 w4) := Lib.hid (by rw [hw4]; exact (Below.refl _ _).alloc (Nat.le_refl _) _)
 have HC4 : Hid (BC x4 [.int .i64 (F.q : Nat), .int .i64 (n : Nat), .slice a m ca] 32 w4) := Lib.hid (by rw [hw4, hx4]; exact BC.new w3 [.int .i64 (F.q : Nat), .int .i64 (n : Nat), .slice a m ca] 32 rfl)
 have HB24 : Hid (Below w2.heap.size w2 w4) := Lib.hid (hb3.trans (HA4.out.mono hb3.size))
 have HB4 : Hid (Below W.heap.size W w4) := Lib.hid (HB2.out.trans (HB24.out.mono HB2.out.size))
 have HB14 : Hid (Below W1.heap.size W1 w4) := Lib.hid (HB12.out.trans (HB24.out.mono HB12.out.size))
 have HVC := Lib.hid hvc
 have HM4 := Lib.hid (hmm.below HA4.out)
 have hnb := hvc.gc.n2
 have hnb1 := hvc.gc.n1
 have HQM := Lib.hid hqm
 have hm8 : m ≤ 8 := hvc.m8 hqm
 have HFF : Hid (Ok F) := Lib.hid hvc.ok
 have HGN := Lib.hid hvc.gc.mn
 have HGL := Lib.hid hvc.gc.len
 have hq2 := hvc.q2
 have hq16 := hvc.gc.q
 obtain ⟨q, hq⟩ : ∃ q, Hid (F.q = q) := ⟨_, Lib.hid rfl⟩
 rw [hq.out] at HC4 hw4 hq2 hq16 ⊢
 have HOV : Hid (∀ w', Calls Try.prog 38 #[.int .i64 (q : Nat)] w' fun e w'' => ∃ b cap, e = .returned (FV F b cap) ∧ FldAt F b cap w'' ∧ Below w'.heap.size w' w'' ∧ w'.heap.size ≤ b) := Lib.hid fun w' => by rw [← hq.out]; exact rover_c HVC.out.gc.mem
 obtain ⟨j0, ji, jz0, jz1, jz2⟩ := info_parts info22
 have htw : IntKind.i64.wrap (tu : Int) = (tu : Int) := w64 (by omega)
 have HNK4 := Lib.hid (HNK.out.2.below HB14.out)
 have HZZ : Hid (∀ w', Calls Try.prog 39 #[.int .i64 (n : Nat)] w' (RPost (List.replicate n 0) w')) := Lib.hid fun w' => rzero0_c (by omega)
 have HW4 := Lib.hid hw4
 have HX4 := Lib.hid hx4
 have HOV4 := Lib.hid (HOV.out w4)
 clear c0 c1 c2 c3
 have c0 := HC4.out.cell (i := 0) rfl
 have c1 := HC4.out.cell (i := 1) rfl
 have c2 := HC4.out.cell (i := 2) rfl
 rw [hx4] at c0 c1 c2
 rw [hw4] at c0 c1 c2
 clear hw4 hx4 hvc hmm hb3 HMC hqm hn10
 go_wp2_with fail
 rw [← HW4.out]
 try rw [← HX4.out]
 with_reducible refine HOV4.out.mono ?_
 rintro e5 w5 ⟨b, cap, rfl, hfa, hb5, hbl5⟩
 have HB45 := Lib.hid hb5
 obtain ⟨w6, hw6⟩ : ∃ w, w = w5.alloc (.cells #[.int .i64 F.p, .int .i64 F.e, FM F b cap] 53) := ⟨_, rfl⟩
 obtain ⟨y5, hy5⟩ : ∃ x, x = w5.heap.size := ⟨_, rfl⟩
 have HA6 : Hid (Below w5.heap.size w5 w6) := Lib.hid (by rw [hw6]; exact (Below.refl _ _).alloc (Nat.le_refl _) _)
 have HY5 : Hid (BC y5 [.int .i64 F.p, .int .i64 F.e, FM F b cap] 53 w6) := Lib.hid (by rw [hw6, hy5]; exact BC.new w5 [.int .i64 F.p, .int .i64 F.e, FM F b cap] 53 rfl)
 have HFA : Hid (FldAt F b cap w6) := Lib.hid (hfa.below HA6.out)
 have HB46 : Hid (Below w4.heap.size w4 w6) := Lib.hid (hb5.trans (HA6.out.mono hb5.size))
 have HSZ6 : Hid (w6.heap.size = w5.heap.size + 1) := Lib.hid (by rw [hw6]; simp)
 obtain ⟨w7, hw7⟩ : ∃ w, w = w6.alloc (.cells #[] 39) := ⟨_, rfl⟩
 have HO7 : Hid (OL [] [] w6.heap.size w7 (.slice (some ⟨y5 + 1, 0, none⟩) 0 0)) := Lib.hid (by
  rw [hy5]
  have h := OL.nil w6.heap.size w6 (Nat.le_refl _)
  rw [HSZ6.out] at h ⊢
  rw [hw7]; exact h)
 have HA7 : Hid (Below w6.heap.size w6 w7) := Lib.hid (by rw [hw7]; exact (Below.refl _ _).alloc (Nat.le_refl _) _)
 have HNK4 := Lib.hid (HNK4.out.below HB46.out)
 have hbc := HC4.out.below (HB46.out.trans (HA7.out.mono HB46.out.size))
 have c0 := hbc.cell (i := 0) rfl
 have c1 := hbc.cell (i := 1) rfl
 have c2 := hbc.cell (i := 2) rfl
 rw [hw7, hw6] at c0 c1 c2
 have HZ7 := Lib.hid (HZZ.out w7)
 have HW6 := Lib.hid hw6
 have HW7 := Lib.hid hw7
 have HY5E := Lib.hid hy5
 clear hbc hw6 hw7 hy5 hfa hb5 hbl5
 go_wp2_with fail
 try rw [← HX4.out]
 rw [← HW6.out, ← HW7.out]
 with_reducible refine HZ7.out.mono ?_
 rintro e8 w8 ⟨gs, hgs, rfl, hrs, hb8⟩
 rw [List.length_replicate]
 have HB8 : Hid (Below w6.heap.size w6 w8) := Lib.hid (HA7.out.trans (hb8.mono HA7.out.size))
 have HO8 := Lib.hid (HO7.out.below hb8)
 have HS8 : Hid (w8.ownsRow 0 3 1 (.slice (some ⟨gs, 0, none⟩) n n) n ((List.replicate n 0).map N64)) := Lib.hid (by unfold Row at hrs; rw [List.length_replicate] at hrs; exact hrs)
 clear hgs hrs hb8 HZ7 c0 c1 c2 HO7
 go_wp2
 try rw [← HY5E.out]
 go_loopw [10, 11, 12] (fun r s i wr => ∃ (k : Nat) (D : List (List Nat)) (us : List Value) (ra : Option Addr) (rc : Nat) (S : List Nat) (sa : Option Addr) (sc : Nat), k ≤ m ∧ r = .slice ra k rc ∧ s = .slice sa n sc ∧ i = .int .i64 (k : Nat) ∧ Hid (GI F n m G tu k D) ∧ Hid (OL D us w6.heap.size wr (.slice ra k rc)) ∧ Hid (Vn F n S ∧ Sp F (G.map Go.Fl.fn) (fn S)) ∧ Hid (wr.ownsRow 0 3 1 (.slice sa n sc) n (S.map N64)) ∧ Hid (Below w6.heap.size w6 wr)) (fun _ _ i _ => m - (intOf i).toNat)
 case atStart => exact ⟨0, [], [], _, _, List.replicate n 0, _, _, Nat.zero_le _, rfl, rfl, rfl, Lib.hid (GI.nil tu), HO8, Lib.hid ⟨rep_vn HFF.out n, HVC.out.spZ⟩, HS8, HB8⟩
 case round =>
  obtain ⟨k, D, us, ra, rc, S, sa, sc, hk, rfl, rfl, rfl, KG, KO, KS, KR, KB⟩ := hrel
  have hbc := HC4.out.below (HB46.out.trans (KB.out.mono HB46.out.size))
  by_cases hlt : k < m
  ·have hlti : (k : Int) < (m : Int) := by omega
   obtain ⟨j, hje⟩ : ∃ j, Hid ((k + tu) % m = j) := ⟨_, Lib.hid rfl⟩
   have hj : j < m := by rw [← hje.out]; exact Nat.mod_lt _ (by omega)
   have hkt : IntKind.i64.wrap ((k : Int) + (tu : Int)) = (k : Int) + (tu : Int) := Go.IntWalk.i64_in _ (by omega)
   have hjt : ((k : Int) + (tu : Int)).tmod (m : Int) = (j : Int) := by rw [← hje.out]; exact_mod_cast (Int.ofNat_tmod (k + tu) m).symm
   have hmz : ¬ m = 0 := by omega
   have hmzi : ¬ (m : Int) = 0 := by omega
   have hmzb : ((m : Int) == 0) = false := by simp; omega
   obtain ⟨bg, og, hag, ar, cr, hcg, hng⟩ := (HM4.out.below (HB46.out.trans (KB.out.mono HB46.out.size))).at' (fun t ht => (mrow HGN.out ht).len) hj
   subst hag
   have HJN := Lib.hid hng
   have HJV : Hid (Vn F n (G.getD j [])) := Lib.hid (HVC.out.rowVn hj)
   have c0 := hbc.cell (i := 0) rfl
   have c1 := hbc.cell (i := 1) rfl
   have c2 := hbc.cell (i := 2) rfl
   have hS11 : (wr.drew.cell? ⟨x4, 0, none⟩ = some (.int .i64 (q : Nat)) ∧ wr.drew.cell? ⟨x4, 1, none⟩ = some (.int .i64 (n : Nat)) ∧ wr.drew.cell? ⟨x4, 2, none⟩ = some (.slice (some ⟨bg, og, none⟩) m ca)) ∧ wr.drew.cell? ⟨bg, og + j, none⟩ = some (.slice ar n cr) := ⟨⟨c0, c1, c2⟩, hcg⟩
   clear hbc hcg hng
   go_wp2_with fail
   clear c0 c1 c2
   refine wp_region_held_drew (S := fun w' => (w'.cell? ⟨x4, 0, none⟩ = some (.int .i64 (q : Nat)) ∧ w'.cell? ⟨x4, 1, none⟩ = some (.int .i64 (n : Nat)) ∧ w'.cell? ⟨x4, 2, none⟩ = some (.slice (some ⟨bg, og, none⟩) m ca)) ∧ w'.cell? ⟨bg, og + j, none⟩ = some (.slice ar n cr)) (by kernel_rfl) (by with_reducible exact hS11) (fun hHeld => ?_)
   refine Rg.tk 0 ⟨some 39,.fieldAddr 32 (.tmp 8) 2,0,"law.go:114",#[],none⟩ ?_
   try simp only [Rg.gp]
   refine Rg.tk 1 ⟨some 40,.load 22 (.tmp 39),22,"law.go:114",#[⟨0,.data⟩],none⟩ ?_
   try simp only [Rg.gp]
   refine Rg.tk 2 ⟨some 41,.move (.tmp 12),3,"law.go:114",#[],none⟩ ?_
   try simp only [Rg.gp]
   refine Rg.tk 3 ⟨some 42,.move (.tmp 2),5,"law.go:114",#[],none⟩ ?_
   try simp only [Rg.gp]
   refine Rg.tk 4 ⟨some 43,.convert 5 3 (.tmp 42),3,"law.go:114",#[⟨3,.data⟩],none⟩ ?_
   try simp only [Rg.gp]
   refine Rg.tk 5 ⟨some 44,.binOp BinOp.add 3 (.tmp 41) (.tmp 43) 3,3,"law.go:114",#[⟨2,.data⟩,⟨4,.data⟩],none⟩ ?_
   try simp only [Rg.gp]
   refine Rg.tk 6 ⟨some 45,.fieldAddr 32 (.tmp 8) 2,0,"law.go:114",#[],none⟩ ?_
   try simp only [Rg.gp]
   refine Rg.tk 7 ⟨some 46,.load 22 (.tmp 45),22,"law.go:114",#[⟨6,.data⟩],none⟩ ?_
   try simp only [Rg.gp]
   refine Rg.tk 8 ⟨some 47,.call ⟨.builtin Builtin.len,#[.tmp 46],#[22]⟩,3,"law.go:114",#[⟨7,.data⟩],none⟩ ?_
   try simp only [Rg.gp]
   refine Rg.tk 9 ⟨some 48,.binOp BinOp.rem 3 (.tmp 44) (.tmp 47) 3,3,"law.go:114",#[⟨5,.data⟩,⟨8,.data⟩],none⟩ ?_
   try simp only [Rg.gp]
   refine Rg.tk 10 ⟨some 49,.indexAddr 22 (.tmp 40) (.tmp 48),0,"law.go:114",#[⟨1,.data⟩,⟨9,.data⟩],none⟩ ?_
   try simp only [Rg.gp]
   refine Rg.tk 11 ⟨some 50,.load 39 (.tmp 49),39,"law.go:114",#[⟨10,.data⟩],none⟩ ?_
   try simp only [Rg.gp]
   refine Rg.tk 12 ⟨some 13,.assign (.tmp 50),39,"law.go:114",#[⟨11,.data⟩,⟨0,.phase⟩,⟨1,.phase⟩,⟨2,.phase⟩,⟨3,.phase⟩,⟨4,.phase⟩,⟨5,.phase⟩,⟨6,.phase⟩,⟨7,.phase⟩,⟨8,.phase⟩,⟨9,.phase⟩,⟨10,.phase⟩,⟨11,.phase⟩],none⟩ ?_
   try simp only [Rg.gp]
   refine wpAnyH_done (by kernel_rfl) ?_ _
   clear hHeld hS11
   by_cases hkl : k < lk
   case' pos =>
    have hkli : (k : Int) < (lk : Int) := by omega
    obtain ⟨bk, ok, kb, hak, hbk, hkb, hck⟩ := ((HNK4.out.below KB.out)).at hkl
    subst hak
    obtain ⟨q1, hq1⟩ : ∃ x, Hid (q = x + 1) := ⟨q - 1, Lib.hid (by omega)⟩
    have hq1e := hq1.out
    have hq1p : 1 ≤ q1 := by omega
    obtain ⟨rr, hrr⟩ : ∃ r, Hid (kb % q1 = r) := ⟨_, Lib.hid rfl⟩
    have hrrl : rr < q1 := by rw [← hrr.out]; exact Nat.mod_lt _ (by omega)
    obtain ⟨av, hav⟩ : ∃ x, Hid (x = 1 + rr) := ⟨_, Lib.hid rfl⟩
    have havq : av < q := by have := hav.out; omega
    have hav0 : av ≠ 0 := by have := hav.out; omega
    have hkw : IntKind.i64.wrap (kb : Int) = (kb : Int) := w64 (by omega)
    have hq1w : IntKind.i64.wrap ((q : Int) - 1) = (q1 : Int) := (Go.IntWalk.i64_in _ (by omega)).trans (by omega)
    have hrt : (kb : Int).tmod (q1 : Int) = (rr : Int) := by rw [← hrr.out]; exact (Int.ofNat_tmod kb q1).symm
    have hrt2 : IntKind.i64.wrap (rr : Int) = (rr : Int) := w64 (by omega)
    have hav1 : IntKind.i64.wrap (1 + (rr : Int)) = (av : Int) := (Go.IntWalk.i64_in _ (by omega)).trans (by have := hav.out; omega)
    have hq1z : ((q1 : Int) == 0) = false := by simp; omega
    have hq1n : ¬ q1 = 0 := by omega
    have hq1b : ¬ (q1 : Int) = 0 := by omega
    have hbc := (HC4.out.below (HB46.out.trans (KB.out.mono HB46.out.size))).drew
    have hS14 : (wr.drew.drew.cell? ⟨x4, 0, none⟩ = some (.int .i64 (q : Nat)) ∧ wr.drew.drew.cell? ⟨x4, 1, none⟩ = some (.int .i64 (n : Nat)) ∧ wr.drew.drew.cell? ⟨x4, 2, none⟩ = some (.slice (some ⟨bg, og, none⟩) m ca)) ∧ wr.drew.drew.cell? ⟨bk, ok + k, none⟩ = some (.int .u8 (kb : Nat)) := ⟨⟨hbc.drew.cell rfl, hbc.drew.cell rfl, hbc.drew.cell rfl⟩, hck⟩
    clear hbc hck hbk hq1e
    go_wp2_with fail
    refine wp_region_held_drew (S := fun w' => (w'.cell? ⟨x4, 0, none⟩ = some (.int .i64 (q : Nat)) ∧ w'.cell? ⟨x4, 1, none⟩ = some (.int .i64 (n : Nat)) ∧ w'.cell? ⟨x4, 2, none⟩ = some (.slice (some ⟨bg, og, none⟩) m ca)) ∧ w'.cell? ⟨bk, ok + k, none⟩ = some (.int .u8 (kb : Nat))) (by kernel_rfl) (by with_reducible exact hS14) (fun hHeld => ?_)
    refine Rg.tk 0 ⟨some 55,.move (.tmp 1),25,"law.go:117",#[],none⟩ ?_
    try simp only [Rg.gp]
    refine Rg.tk 1 ⟨some 56,.move (.tmp 12),3,"law.go:117",#[],none⟩ ?_
    try simp only [Rg.gp]
    refine Rg.tk 2 ⟨some 57,.indexAddr 25 (.tmp 55) (.tmp 56),0,"law.go:117",#[⟨0,.data⟩,⟨1,.data⟩],none⟩ ?_
    try simp only [Rg.gp]
    refine Rg.tk 3 ⟨some 58,.load 5 (.tmp 57),5,"law.go:117",#[⟨2,.data⟩],none⟩ ?_
    try simp only [Rg.gp]
    refine Rg.tk 4 ⟨some 59,.convert 5 3 (.tmp 58),3,"law.go:117",#[⟨3,.data⟩],none⟩ ?_
    try simp only [Rg.gp]
    refine Rg.tk 5 ⟨some 60,.fieldAddr 32 (.tmp 8) 0,0,"law.go:117",#[],none⟩ ?_
    try simp only [Rg.gp]
    refine Rg.tk 6 ⟨some 61,.load 3 (.tmp 60),3,"law.go:117",#[⟨5,.data⟩],none⟩ ?_
    try simp only [Rg.gp]
    refine Rg.tk 7 ⟨some 62,.binOp BinOp.sub 3 (.tmp 61) (.const (Value.int IntKind.i64 1)) 3,3,"law.go:117",#[⟨6,.data⟩],none⟩ ?_
    try simp only [Rg.gp]
    refine Rg.tk 8 ⟨some 63,.binOp BinOp.rem 3 (.tmp 59) (.tmp 62) 3,3,"law.go:117",#[⟨4,.data⟩,⟨7,.data⟩],none⟩ ?_
    try simp only [Rg.gp]
    refine Rg.tk 9 ⟨some 64,.binOp BinOp.add 3 (.const (Value.int IntKind.i64 1)) (.tmp 63) 3,3,"law.go:117",#[⟨8,.data⟩],none⟩ ?_
    try simp only [Rg.gp]
    refine Rg.tk 10 ⟨some 14,.assign (.tmp 64),3,"law.go:117",#[⟨9,.data⟩,⟨0,.phase⟩,⟨1,.phase⟩,⟨2,.phase⟩,⟨3,.phase⟩,⟨4,.phase⟩,⟨5,.phase⟩,⟨6,.phase⟩,⟨7,.phase⟩,⟨8,.phase⟩,⟨9,.phase⟩],none⟩ ?_
    try simp only [Rg.gp]
    refine wpAnyH_done (by kernel_rfl) ?_ _
    clear hHeld hS14 hkw hrt hrt2 hq1w hav1 hq1z hq1b hq1n
    obtain ⟨wz, hwz⟩ : ∃ w, w = wr.drew.drew := ⟨_, rfl⟩
    have HWZ : Hid (Below wr.heap.size wr wz) := Lib.hid (by rw [hwz]; exact (Below.refl _ _).drew.drew)
    rw [← hwz]
    clear hwz
    obtain ⟨T, hT⟩ : ∃ T, Hid (tiV F av (G.getD j []) = T) := ⟨_, Lib.hid rfl⟩
    have HGI2 : Hid (GI F n m G tu (k + 1) (D ++ [T])) := Lib.hid (by rw [← hT.out, ← hje.out]; exact GI.push HVC.out KG.out hlt (by rw [hq.out]; exact havq) hav0)
    have HTV : Hid (Vn F n T) := Lib.hid (by rw [← hT.out]; exact tiV_vn HFF.out HJV.out)
    have HTS : Hid (Sp F (G.map Go.Fl.fn) (fn T)) := Lib.hid (by rw [← hT.out]; exact HVC.out.spTi (by rw [hq.out]; exact havq) HJV.out (HVC.out.spRow hj))
    have HTM : Hid (Calls Try.prog 40 #[FV F b cap, .int .i64 (av : Nat), .slice ar n cr] wz (TPost T n wz)) := Lib.hid (by
     rw [← hT.out]
     exact rtimes_c (HFA.out.below (KB.out.trans (HWZ.out.mono KB.out.size))) (by omega) (by rw [hq.out]; exact havq) HJV.out (HJN.out.below HWZ.out))
    have hbf := (HY5.out.below KB.out).below HWZ.out
    have d0 := hbf.cell (i := 0) rfl
    have d1 := hbf.cell (i := 1) rfl
    have d2 := hbf.cell (i := 2) rfl
    clear hbf
    go_wp2_with fail
    with_reducible refine HTM.out.mono ?_
   case' neg =>
    have hkli : ¬ (k : Int) < (lk : Int) := by omega
    obtain ⟨wz, hwz⟩ : ∃ w, w = wr.drew := ⟨_, rfl⟩
    have HWZ : Hid (Below wr.heap.size wr wz) := Lib.hid (by rw [hwz]; exact (Below.refl _ _).drew)
    rw [← hwz]
    clear hwz
    obtain ⟨T, hT⟩ : ∃ T, Hid (tiV F 1 (G.getD j []) = T) := ⟨_, Lib.hid rfl⟩
    have HGI2 : Hid (GI F n m G tu (k + 1) (D ++ [T])) := Lib.hid (by rw [← hT.out, ← hje.out]; exact GI.push HVC.out KG.out hlt (by rw [hq.out]; omega) (by omega))
    have HTV : Hid (Vn F n T) := Lib.hid (by rw [← hT.out]; exact tiV_vn HFF.out HJV.out)
    have HTS : Hid (Sp F (G.map Go.Fl.fn) (fn T)) := Lib.hid (by rw [← hT.out]; exact HVC.out.spTi (by rw [hq.out]; omega) HJV.out (HVC.out.spRow hj))
    have HTM : Hid (Calls Try.prog 40 #[FV F b cap, .int .i64 1, .slice ar n cr] wz (TPost T n wz)) := Lib.hid (by
     rw [← hT.out]
     exact rtimes_c (y := 1) (HFA.out.below (KB.out.trans (HWZ.out.mono KB.out.size))) (by omega) (by rw [hq.out]; omega) HJV.out (HJN.out.below HWZ.out))
    have hbf := (HY5.out.below KB.out).below HWZ.out
    have d0 := hbf.cell (i := 0) rfl
    have d1 := hbf.cell (i := 1) rfl
    have d2 := hbf.cell (i := 2) rfl
    clear hbf
    go_wp2_with fail
    with_reducible refine HTM.out.mono ?_
   all_goals
    (
    rintro e6 v6 ⟨a6, c6, rfl, hown6, hb6⟩
    have HB6 : Hid (Below w6.heap.size w6 v6) := Lib.hid (KB.out.trans ((HWZ.out.trans (hb6.mono HWZ.out.size)).mono KB.out.size))
    have HBr6 : Hid (Below wr.heap.size wr v6) := Lib.hid (HWZ.out.trans (hb6.mono HWZ.out.size))
    have HO6 := Lib.hid (KO.out.below HBr6.out)
    have HT6 : Hid (v6.ownsRow 0 3 1 (.slice a6 n c6) n (T.map N64)) := Lib.hid (own_weak hown6 (Nat.zero_le _))
    have HS6 : Hid (v6.ownsRow 0 3 1 (.slice sa n sc) n (S.map N64)) := Lib.hid (own_belowK KR.out HBr6.out)
    have HKD : Hid (D.length = k) := Lib.hid KG.out.len
    clear hown6 hb6 HTM d0 d1 d2
    go_wp2_with (at_builtin; refine wpList_append_own _ rfl _ _ 22 rfl w6.heap.size 39 j0 (.slice none 0 0) 1 24 Try.underlying22 ji jz0 jz1 jz2 rfl (by decide) (.slice ra k rc) k us rfl (by have := HO6.out.own.alloc (.cells #[.slice a6 n c6] 39); rw [HKD.out] at this; exact this) ⟨v6.heap.size, 0, none⟩ 1 1 [.slice a6 n c6] rfl rfl (cell_one_new v6 _ _) (fun u hu => by simp at hu; subst hu; rfl) ?_ ?_ ?_ ?_)
    ·unfold maxLen; omega
    ·omega
    ·have h1 := HB6.out.size; simp; omega
    intro v' w9 hown' hgrow hnil
    have hal2 : Below v6.heap.size v6 (v6.alloc (.cells #[.slice a6 n c6] 39)) := (Below.refl _ _).alloc (Nat.le_refl _) _
    have HDL9 : Hid ((D ++ [T]).length = k + 1) := Lib.hid (by rw [List.length_append, HKD.out]; rfl)
    have HO9' : Hid (OL (D ++ [T]) (us ++ [.slice a6 n c6]) w6.heap.size w9 v') := Lib.hid (OL.push (HO6.out.below hal2) (by rw [HTV.out.len]; exact own_belowK HT6.out hal2) (by rw [HKD.out]) hown' hgrow)
    have HS9 : Hid (w9.ownsRow 0 3 1 (.slice sa n sc) n (S.map N64)) := Lib.hid ((HO6.out.below hal2).keepRow (own_belowK HS6.out hal2) hgrow)
    have hsz : w6.heap.size ≤ v6.heap.size := HB6.out.size
    have HB9 : Hid (Below w6.heap.size w6 w9) := Lib.hid ((HB6.out.trans (hal2.mono hsz)).trans (OL.grown (m := 0) (xs := []) (HO6.out.below hal2) (Nat.le_trans hsz hal2.size) hgrow))
    obtain ⟨g9, c9, hv9, hg9, hg9l⟩ := HO9'.out.sl (i := 0) (by rw [HDL9.out]; omega)
    rw [HDL9.out] at hv9
    subst hv9
    have HO9 := HO9'
    have HG9 := Lib.hid hg9
    have HG9L := Lib.hid hg9l
    have HCK : Hid (w9.cell? ⟨g9, k, none⟩ = some (.slice a6 n c6)) := Lib.hid (by
     have h := OL.cell (D := D ++ [T]) (i := k) (by rw [HDL9.out]; exact HO9.out) (by rw [HDL9.out]; omega)
     have hu := KO.out.ulen
     rw [HKD.out] at hu
     rw [h, ← hu, List.getD_eq_getElem?_getD, List.getElem?_append_right (Nat.le_refl _), Nat.sub_self]; rfl)
    have HP16 : Hid (∀ w', Below w9.heap.size w9 w' → Calls Try.prog 41 #[FV F b cap, .slice sa n sc, .slice a6 n c6] w' (TPost (plV F S T) n w')) := Lib.hid fun w' hb => rplus_c (HFA.out.below (HB9.out.trans (hb.mono HB9.out.size))) (by omega) KS.out.1 HTV.out (NN.of_owns (L := S) (by rw [KS.out.1.len]; exact own_belowK HS9.out hb)) (by
     have h := (HO9.out.below hb).nn (i := k) (by rw [HDL9.out]; omega)
     have e1 : (D ++ [T]).getD k [] = T := by have := gd_last (D := D) (X := T); rw [HKD.out] at this; exact this
     have e3 : (us ++ [Value.slice a6 n c6]).getD k undef = .slice a6 n c6 := by have hu := KO.out.ulen; rw [HKD.out] at hu; rw [← hu, List.getD_eq_getElem?_getD, List.getElem?_append_right (Nat.le_refl _), Nat.sub_self]; rfl
     rw [e1, e3] at h; exact h)
    have hbf := HY5.out.below HB9.out
    have hS16 : ((w9.drew.cell? ⟨y5, 0, none⟩ = some (.int .i64 F.p) ∧ w9.drew.cell? ⟨y5, 1, none⟩ = some (.int .i64 F.e) ∧ w9.drew.cell? ⟨y5, 2, none⟩ = some (FM F b cap)) ∧ w9.drew.cell? ⟨g9, k, none⟩ = some (.slice a6 n c6) ∧ Hid (Below w9.heap.size w9 w9.drew ∧ y5 < w9.heap.size ∧ g9 < w9.heap.size)) := ⟨⟨hbf.cell rfl, hbf.cell rfl, hbf.cell rfl⟩, HCK.out, Lib.hid ⟨(Below.refl _ _).drew, hbf.lt, HG9L.out⟩⟩
    have hkk1 : (k : Int) < (k : Int) + 1 := by omega
    clear hbf hown' hgrow hnil hal2 hg9 hg9l hsz
    go_wp2_with fail
    refine wp_region_held_drew (S := fun w' => (w'.cell? ⟨y5, 0, none⟩ = some (.int .i64 F.p) ∧ w'.cell? ⟨y5, 1, none⟩ = some (.int .i64 F.e) ∧ w'.cell? ⟨y5, 2, none⟩ = some (FM F b cap)) ∧ w'.cell? ⟨g9, k, none⟩ = some (.slice a6 n c6) ∧ Hid (Below w9.heap.size w9 w' ∧ y5 < w9.heap.size ∧ g9 < w9.heap.size)) (by kernel_rfl) (by with_reducible exact hS16) (fun hHeld => ?_)
    refine Rg.tk 0 ⟨some 72,.load 53 (.tmp 9),53,"law.go:120",#[],none⟩ ?_
    try simp only [Rg.gp]
    refine Rg.tk 1 ⟨some 73,.move (.tmp 11),39,"law.go:120",#[],none⟩ ?_
    try simp only [Rg.gp]
    refine Rg.tk 2 ⟨some 74,.move (.tmp 10),22,"law.go:120",#[],none⟩ ?_
    try simp only [Rg.gp]
    refine Rg.tk 3 ⟨some 75,.move (.tmp 12),3,"law.go:120",#[],none⟩ ?_
    try simp only [Rg.gp]
    refine Rg.tk 4 ⟨some 76,.indexAddr 22 (.tmp 74) (.tmp 75),0,"law.go:120",#[⟨2,.data⟩,⟨3,.data⟩],none⟩ ?_
    try simp only [Rg.gp]
    refine Rg.tk 5 ⟨some 77,.load 39 (.tmp 76),39,"law.go:120",#[⟨4,.data⟩],none⟩ ?_
    try simp only [Rg.gp]
    refine Rg.rd1 6 ⟨some 78,.call ⟨.value (.func 41),#[.tmp 72,.tmp 73,.tmp 77],#[53,39,39]⟩,39,"law.go:120",#[⟨0,.data⟩,⟨1,.data⟩,⟨5,.data⟩],none⟩ fun K hK => ?_
    go_simp
    go_at_call 41
    with_reducible refine (HP16.out _ hHeld.2.2.out.1).mono ?_
    rintro e10 v10 ⟨a10, c10, rfl, hown10, hb10⟩
    refine hK.out _ _ ?_ (fun hHeld => ?_)
    ·(try dsimp only)
     have hbx := hHeld.2.2.out
     have hsx := hbx.1.size
     have hyx : y5 < _ := Nat.lt_of_lt_of_le hbx.2.1 hsx
     have hgx : g9 < _ := Nat.lt_of_lt_of_le hbx.2.2 hsx
     exact ⟨⟨(hb10.cell (p := ⟨y5, 0, none⟩) hyx).trans hHeld.1.1, (hb10.cell (p := ⟨y5, 1, none⟩) hyx).trans hHeld.1.2.1, (hb10.cell (p := ⟨y5, 2, none⟩) hyx).trans hHeld.1.2.2⟩, (hb10.cell (p := ⟨g9, k, none⟩) hgx).trans hHeld.2.1, Lib.hid ⟨hbx.1.trans (hb10.mono hsx), hbx.2⟩⟩
    clear hK K
    try simp only [Rg.gp]
    refine Rg.tk 7 ⟨some 11,.assign (.tmp 78),39,"law.go:120",#[⟨6,.data⟩,⟨6,.chain⟩,⟨0,.phase⟩,⟨1,.phase⟩,⟨2,.phase⟩,⟨3,.phase⟩,⟨4,.phase⟩,⟨5,.phase⟩,⟨6,.phase⟩],none⟩ ?_
    try simp only [Rg.gp]
    refine wpAnyH_done (by kernel_rfl) ?_ _
    have HB910 : Hid (Below w9.heap.size w9 v10) := Lib.hid hHeld.2.2.out.1
    have HS10 : Hid (v10.ownsRow 0 3 1 (.slice a10 n c10) n ((plV F S T).map N64)) := Lib.hid (own_weak hown10 (Nat.zero_le _))
    clear hHeld hS16 hown10 hb10
    have HB10 : Hid (Below w6.heap.size w6 v10) := Lib.hid (HB9.out.trans (HB910.out.mono HB9.out.size))
    have HO10 := Lib.hid (HO9.out.below HB910.out)
    have HSP : Hid (Vn F n (plV F S T) ∧ Sp F (G.map Go.Fl.fn) (fn (plV F S T))) := Lib.hid ⟨plV_vn HFF.out KS.out.1, HVC.out.spPl KS.out.1 HTV.out KS.out.2 HTS.out⟩
    obtain ⟨pk, hpk⟩ : ∃ p, Hid (k % 2 = p) := ⟨_, Lib.hid rfl⟩
    have hpk2 : pk < 2 := by have := hpk.out; omega
    have hpkt : (k : Int).tmod 2 = (pk : Int) := by rw [← hpk.out]; exact (Int.ofNat_tmod k 2).symm
    by_cases hpo : pk = 1
    ·subst hpo
     obtain ⟨k1, hk1⟩ : ∃ x, Hid (k = x + 1) := ⟨k - 1, Lib.hid (by have := hpk.out; omega)⟩
     have hk1e := hk1.out
     have hk1i : (k : Int) - 1 = (k1 : Int) := by omega
     have hk1w : IntKind.i64.wrap ((k : Int) - 1) = (k1 : Int) := (Go.IntWalk.i64_in _ (by omega)).trans hk1i
     have hk1w2 : IntKind.i64.wrap (k1 : Int) = (k1 : Int) := w64 (by omega)
     have hk1l : (k1 : Int) < (k : Int) + 1 := by omega
     have hk1l2 : k1 < k + 1 := by omega
     obtain ⟨ap, cp, hap⟩ := HO10.out.usl (i := k1) (by rw [HDL9.out]; omega)
     have e2 : (D ++ [T]).getD k1 [] = D.getD k1 [] := gd_snoc (by rw [KG.out.len]; omega)
     have HPV : Hid (Vn F n (D.getD k1 [])) := Lib.hid (mrow KG.out.mn (by rw [KG.out.len]; omega))
     rw [e2, HPV.out.len] at hap
     have HPN : Hid (NN (D.getD k1 []) v10 (.slice ap n cp)) := Lib.hid (by
      have h := HO10.out.nn (i := k1) (by rw [HDL9.out]; omega)
      rw [e2, hap] at h; exact h)
     have hcp : v10.cell? ⟨g9, k1, none⟩ = some (.slice ap n cp) := by
      have h := OL.cell (D := D ++ [T]) (i := k1) (by rw [HDL9.out]; exact HO10.out) (by rw [HDL9.out]; omega)
      rw [hap] at h; exact h
     have hck : v10.cell? ⟨g9, k, none⟩ = some (.slice a6 n c6) := (HB910.out.cell (p := ⟨g9, k, none⟩) HG9L.out).trans HCK.out
     have HTN : Hid (NN T v10 (.slice a6 n c6)) := Lib.hid (by
      have h := HO10.out.nn (i := k) (by rw [HDL9.out]; omega)
      have e1 : (D ++ [T]).getD k [] = T := by have := gd_last (D := D) (X := T); rw [KG.out.len] at this; exact this
      have e3 : (us ++ [Value.slice a6 n c6]).getD k undef = .slice a6 n c6 := by have hu := KO.out.ulen; rw [KG.out.len] at hu; rw [← hu, List.getD_eq_getElem?_getD, List.getElem?_append_right (Nat.le_refl _), Nat.sub_self]; rfl
      rw [e1, e3] at h; exact h)
     have HP18 : Hid (∀ w', Below v10.heap.size v10 w' → Calls Try.prog 41 #[FV F b cap, .slice a6 n c6, .slice ap n cp] w' (TPost (plV F T (D.getD k1 [])) n w')) := Lib.hid fun w' hb => rplus_c (HFA.out.below (HB10.out.trans (hb.mono HB10.out.size))) (by omega) HTV.out HPV.out (HTN.out.below hb) (HPN.out.below hb)
     have hbf := HY5.out.below HB10.out
     have HCKD : Hid (v10.drew.cell? ⟨g9, k, none⟩ = some (.slice a6 n c6)) := Lib.hid hck
     have HYL : Hid (y5 < v10.heap.size) := Lib.hid hbf.lt
     have HGL10 : Hid (g9 < v10.heap.size) := Lib.hid (Nat.lt_of_lt_of_le HG9L.out HB910.out.size)
     have HYG : Hid (¬ y5 = g9) := Lib.hid fun e => own_bc HO10.out.own hbf (by decide) g9 rfl e.symm
     have hS18 : (v10.drew.cell? ⟨y5, 0, none⟩ = some (.int .i64 F.p) ∧ v10.drew.cell? ⟨y5, 1, none⟩ = some (.int .i64 F.e) ∧ v10.drew.cell? ⟨y5, 2, none⟩ = some (FM F b cap)) ∧ v10.drew.cell? ⟨g9, k1, none⟩ = some (.slice ap n cp) := ⟨⟨hbf.cell rfl, hbf.cell rfl, hbf.cell rfl⟩, hcp⟩
     clear hbf hcp hck hap hk1e
     go_wp2_with fail
     refine wp_region_held_drew (S := fun w' => (w'.cell? ⟨y5, 0, none⟩ = some (.int .i64 F.p) ∧ w'.cell? ⟨y5, 1, none⟩ = some (.int .i64 F.e) ∧ w'.cell? ⟨y5, 2, none⟩ = some (FM F b cap)) ∧ w'.cell? ⟨g9, k1, none⟩ = some (.slice ap n cp)) (by kernel_rfl) (by with_reducible exact hS18) (fun hHeld => ?_)
     refine Rg.tk 0 ⟨some 82,.move (.tmp 10),22,"law.go:122",#[],none⟩ ?_
     try simp only [Rg.gp]
     refine Rg.tk 1 ⟨some 83,.move (.tmp 12),3,"law.go:122",#[],none⟩ ?_
     try simp only [Rg.gp]
     refine Rg.tk 2 ⟨some 84,.load 53 (.tmp 9),53,"law.go:122",#[],none⟩ ?_
     try simp only [Rg.gp]
     refine Rg.tk 3 ⟨some 85,.move (.tmp 10),22,"law.go:122",#[],none⟩ ?_
     try simp only [Rg.gp]
     refine Rg.tk 4 ⟨some 86,.move (.tmp 12),3,"law.go:122",#[],none⟩ ?_
     try simp only [Rg.gp]
     refine Rg.tk 5 ⟨some 87,.indexAddr 22 (.tmp 85) (.tmp 86),0,"law.go:122",#[⟨3,.data⟩,⟨4,.data⟩],none⟩ ?_
     try simp only [Rg.gp]
     refine Rg.tk 7 ⟨some 89,.move (.tmp 10),22,"law.go:122",#[],none⟩ ?_
     try simp only [Rg.gp]
     refine Rg.tk 8 ⟨some 90,.move (.tmp 12),3,"law.go:122",#[],none⟩ ?_
     try simp only [Rg.gp]
     refine Rg.tk 9 ⟨some 91,.binOp BinOp.sub 3 (.tmp 90) (.const (Value.int IntKind.i64 1)) 3,3,"law.go:122",#[⟨8,.data⟩],none⟩ ?_
     try simp only [Rg.gp]
     refine Rg.tk 10 ⟨some 92,.indexAddr 22 (.tmp 89) (.tmp 91),0,"law.go:122",#[⟨7,.data⟩,⟨9,.data⟩],none⟩ ?_
     try simp only [Rg.gp]
     refine Rg.tk 11 ⟨some 93,.load 39 (.tmp 92),39,"law.go:122",#[⟨10,.data⟩],none⟩ ?_
     try simp only [Rg.gp]
     refine Rg.rd1 6 ⟨some 88,.load 39 (.tmp 87),39,"law.go:122",#[⟨5,.data⟩],none⟩ fun K hK => ?_
     have hckd := HCKD.out
     go_simp
     refine hK.out _ _ ?_ (fun hHeld => ?_)
     ·(try dsimp only)
      exact hHeld
     clear hK K
     try simp only [Rg.gp]
     refine Rg.rd1 12 ⟨some 94,.call ⟨.value (.func 41),#[.tmp 84,.tmp 88,.tmp 93],#[53,39,39]⟩,39,"law.go:122",#[⟨2,.data⟩,⟨6,.data⟩,⟨11,.data⟩],none⟩ fun K hK => ?_
     go_simp
     go_at_call 41
     with_reducible refine (HP18.out _ (Below.refl _ _).drew).mono ?_
     rintro e11 v11 ⟨a11, c11, rfl, hown11, hb11⟩
     have HB1011 : Hid (Below v10.heap.size v10 v11) := Lib.hid ((Below.refl _ _).drew.trans hb11)
     have HO11 := Lib.hid (HO10.out.below HB1011.out)
     have hfz := OL.frozen (D := D ++ [T]) (by rw [HDL9.out]; exact HO11.out) k
     have hcx := OL.cell (D := D ++ [T]) (i := k) (by rw [HDL9.out]; exact HO11.out) (by rw [HDL9.out]; omega)
     refine hK.out _ _ ?_ (fun hHeld => ?_)
     ·(try dsimp only)
      exact ⟨⟨(hb11.cell (p := ⟨y5, 0, none⟩) (by exact HYL.out)).trans hHeld.1.1, (hb11.cell (p := ⟨y5, 1, none⟩) (by exact HYL.out)).trans hHeld.1.2.1, (hb11.cell (p := ⟨y5, 2, none⟩) (by exact HYL.out)).trans hHeld.1.2.2⟩, (hb11.cell (p := ⟨g9, k1, none⟩) (by exact HGL10.out)).trans hHeld.2⟩
     clear hK K
     try simp only [Rg.gp]
     refine Rg.tk 13 ⟨some 95,.indexAddr 22 (.tmp 82) (.tmp 83),0,"law.go:122",#[⟨0,.data⟩,⟨1,.data⟩,⟨0,.phase⟩,⟨1,.phase⟩,⟨2,.phase⟩,⟨3,.phase⟩,⟨4,.phase⟩,⟨5,.phase⟩,⟨6,.phase⟩,⟨7,.phase⟩,⟨8,.phase⟩,⟨9,.phase⟩,⟨10,.phase⟩,⟨11,.phase⟩,⟨12,.phase⟩],none⟩ ?_
     try simp only [Rg.gp]
     refine Rg.rd1 14 ⟨none,.store 39 (.tmp 95) (.tmp 94),0,"law.go:122",#[⟨13,.data⟩,⟨12,.data⟩,⟨12,.chain⟩,⟨0,.phase⟩,⟨1,.phase⟩,⟨2,.phase⟩,⟨3,.phase⟩,⟨4,.phase⟩,⟨5,.phase⟩,⟨6,.phase⟩,⟨7,.phase⟩,⟨8,.phase⟩,⟨9,.phase⟩,⟨10,.phase⟩,⟨11,.phase⟩,⟨12,.phase⟩],none⟩ fun K hK => ?_
     go_simp
     refine hK.out _ _ ?_ (fun hHeld => ?_)
     ·(try dsimp only)
      exact ⟨⟨(World.cell?_setCell_other _ _ _ _ (by intro e; injection e with e1; first | exact HYG.out e1 | exact HYG.out e1.symm)).trans hHeld.1.1, (World.cell?_setCell_other _ _ _ _ (by intro e; injection e with e1; first | exact HYG.out e1 | exact HYG.out e1.symm)).trans hHeld.1.2.1, (World.cell?_setCell_other _ _ _ _ (by intro e; injection e with e1; first | exact HYG.out e1 | exact HYG.out e1.symm)).trans hHeld.1.2.2⟩, (World.cell?_setCell_other _ _ _ _ (by intro e; injection e with e1 e2; have := hk1.out; omega)).trans hHeld.2⟩
     clear hK K
     try simp only [Rg.gp]
     refine wpAnyH_done (by kernel_rfl) ?_ _
     clear hHeld hS18
     obtain ⟨w12, hw12⟩ : ∃ w, w = v11.setCell ⟨g9, k, none⟩ (.slice a11 n c11) := ⟨_, rfl⟩
     rw [← hw12]
     have hbx : Bx (fun k => k = g9) v11 w12 := by rw [hw12]; exact Bx.set (S := fun k => k = g9) rfl _
     have HO12 : Hid (OL ((D ++ [T]).set k (plV F T (D.getD k1 []))) ((us ++ [Value.slice a6 n c6]).set k (.slice a11 n c11)) w6.heap.size w12 (.slice (some ⟨g9, 0, none⟩) (k + 1) c9)) := Lib.hid (by
      have h := OL.set (D := D ++ [T]) (i := k) (by rw [HDL9.out]; exact HO11.out) (by rw [HDL9.out]; omega) (L := plV F T (D.getD k1 [])) (u := .slice a11 n c11) (by
       rw [plV_len, HTV.out.len]; exact own_weak hown11 (Nat.zero_le _))
      rw [HDL9.out] at h
      rw [hw12]; exact h)
     have HS12 : Hid (w12.ownsRow 0 3 1 (.slice a10 n c10) n ((plV F S T).map N64)) := Lib.hid (own_bx2 (own_belowK HS10.out HB1011.out) hbx (fun u hu e => own_ty (own_belowK HS10.out HB1011.out) HO11.out.own (by decide) u hu (by rw [e]; rfl)))
     have HB12 : Hid (Below w6.heap.size w6 w12) := Lib.hid (hbx.below' (HB10.out.trans (HB1011.out.mono HB10.out.size)) (fun u hu => by rw [hu]; exact HG9.out))
     have HGI3 : Hid (GI F n m G tu (k + 1) ((D ++ [T]).set k (plV F T (D.getD k1 [])))) := Lib.hid (by
      have h := GI.odd HVC.out HGI2.out (i := k) (j := k1) (by omega) (by omega) (by omega)
      have e1 : (D ++ [T]).getD k [] = T := by have := gd_last (D := D) (X := T); rw [KG.out.len] at this; exact this
      have e2 : (D ++ [T]).getD k1 [] = D.getD k1 [] := gd_snoc (by rw [KG.out.len]; omega)
      rw [e1, e2] at h; exact h)
     clear hw12 hbx hown11 hb11 hfz hcx
     go_wp2
     go_roundw
     case rel => exact ⟨k + 1, _, _, _, _, _, _, _, by omega, rfl, rfl, by go_num, HGI3, HO12, HSP, HS12, HB12⟩
     case measure => simp [intOf]; omega
    ·have hpz : pk = 0 := by omega
     subst hpz
     clear hpo
     go_wp2
     go_roundw
     case rel => exact ⟨k + 1, _, _, _, _, _, _, _, by omega, rfl, rfl, by go_num, HGI2, HO10, HSP, HS10, HB10⟩
     case measure => simp [intOf]; omega
    )
  ·have c0 := hbc.cell (i := 0) rfl
   have c1 := hbc.cell (i := 1) rfl
   have c2 := hbc.cell (i := 2) rfl
   clear hbc
   have hke : k = m := by omega
   subst hke
   have hlti : ¬ (k : Int) < (k : Int) := by omega
   obtain ⟨hmn, hsp, hrd⟩ := GI.all HVC.out KG.out KS.out.1 KS.out.2
   have HZE : Hid (Calls Try.prog 39 #[.int .i64 (n : Nat)] wr (RPost (List.replicate n 0) wr)) := Lib.hid (rzero0_c (by omega))
   obtain ⟨M, hM⟩ : ∃ M, Hid (D ++ [S, List.replicate n 0] = M) := ⟨_, Lib.hid rfl⟩
   rw [hM.out] at hmn hsp hrd
   have HMN := Lib.hid hmn
   have HSPA := Lib.hid hsp
   have HRD := Lib.hid hrd
   have HML : Hid (M.length = k + 2) := Lib.hid (by rw [← hM.out, List.length_append, KG.out.len]; rfl)
   have HKD : Hid (D.length = k) := Lib.hid KG.out.len
   have hbc := HC4.out.below (HB46.out.trans (KB.out.mono HB46.out.size))
   have c0 := hbc.cell (i := 0) rfl
   have c1 := hbc.cell (i := 1) rfl
   have c2 := hbc.cell (i := 2) rfl
   clear hmn hsp hrd hbc
   go_wp2_with fail
   with_reducible refine HZE.out.mono ?_
   rintro e20 v20 ⟨gz, hgz, rfl, hrz, hb20⟩
   rw [List.length_replicate]
   have HB20 : Hid (Below w6.heap.size w6 v20) := Lib.hid (KB.out.trans (hb20.mono KB.out.size))
   have HO20 := Lib.hid (KO.out.below hb20)
   have HS20 := Lib.hid (own_belowK KR.out hb20)
   have HZ20 : Hid (v20.ownsRow 0 3 1 (.slice (some ⟨gz, 0, none⟩) n n) n ((List.replicate n 0).map N64)) := Lib.hid (by unfold Row at hrz; rw [List.length_replicate] at hrz; exact hrz)
   clear hgz hrz hb20 HZE c0 c1 c2
   go_wp2_with (at_builtin; refine wpList_append_own _ rfl _ _ 22 rfl w6.heap.size 39 j0 (.slice none 0 0) 1 24 Try.underlying22 ji jz0 jz1 jz2 rfl (by decide) (.slice ra k rc) k us rfl (by have := HO20.out.own.alloc (.cells #[.slice sa n sc, .slice (some ⟨gz, 0, none⟩) n n] 39); rw [HKD.out] at this; exact this) ⟨v20.heap.size, 0, none⟩ 2 2 [.slice sa n sc, .slice (some ⟨gz, 0, none⟩) n n] rfl rfl (cells_new (w := v20) (xs := [.slice sa n sc, .slice (some ⟨gz, 0, none⟩) n n]) (ty := 39)) (fun u hu => by simp at hu; rcases hu with rfl | rfl <;> rfl) ?d3 ?d4 ?d5 ?_)
   case d3 => unfold maxLen; omega
   case d4 => omega
   case d5 => have h1 := HB20.out.size; simp; omega
   intro v' w21 hown' hgrow hnil
   have hal2 : Below v20.heap.size v20 (v20.alloc (.cells #[.slice sa n sc, .slice (some ⟨gz, 0, none⟩) n n] 39)) := (Below.refl _ _).alloc (Nat.le_refl _) _
   have HO21' : Hid (OL M (us ++ [.slice sa n sc, .slice (some ⟨gz, 0, none⟩) n n]) w6.heap.size w21 v') := Lib.hid (by
    rw [← hM.out]
    refine OL.push2 (HO20.out.below hal2) (by rw [KS.out.1.len]; exact own_belowK HS20.out hal2) (by rw [List.length_replicate]; exact own_belowK HZ20.out hal2) ?_ hgrow
    rw [HKD.out]; exact hown')
   have hsz : w6.heap.size ≤ v20.heap.size := HB20.out.size
   have HB21 : Hid (Below w6.heap.size w6 w21) := Lib.hid ((HB20.out.trans (hal2.mono hsz)).trans (OL.grown (m := 0) (xs := []) (HO20.out.below hal2) (Nat.le_trans hsz hal2.size) hgrow))
   obtain ⟨g21, c21, hv21, -, -⟩ := HO21'.out.sl (i := 0) (by rw [HML.out]; omega)
   obtain ⟨m2, hm2⟩ : ∃ x, Hid (M.length = x) := ⟨_, Lib.hid rfl⟩
   have hm2k : m2 = k + 2 := by rw [← hm2.out]; exact HML.out
   rw [hm2.out] at hv21
   subst hv21
   have HM21 : Hid (MM M w21 (.slice (some ⟨g21, 0, none⟩) m2 c21)) := Lib.hid HO21'.out.mm
   have hm2b : m2 ≤ 64 := by omega
   clear hm2k
   have HB421 : Hid (Below w4.heap.size w4 w21) := Lib.hid (HB46.out.trans (HB21.out.mono HB46.out.size))
   have HMK : Hid (Calls Try.prog 12 #[.int .i64 (q : Nat), .int .i64 (n : Nat), .slice (some ⟨g21, 0, none⟩) m2 c21] w21 fun e w'' => ∃ us a c, e = .returned (.tuple #[DV q n (.slice a k c), .int .i64 0]) ∧ OL G us w21.heap.size w'' (.slice a k c) ∧ Below w21.heap.size w21 w'') := Lib.hid (by
    have h := make_c (W := w21) (F := F) (n := n) (m := m2) (S0 := M) (sa := some ⟨g21, 0, none⟩) (cs := c21) ⟨HVC.out.gc.mem, by rw [hq.out]; omega, by omega, by omega, by omega, hm2.out, HMN.out⟩ hm2b (by rw [HRD.out, HGL.out]; exact HVC.out.few HQM.out) HM21.out
    rw [HRD.out, HGL.out, hq.out] at h; exact h)
   have hbc := HC4.out.below HB421.out
   have c0 := hbc.cell (i := 0) rfl
   have c1 := hbc.cell (i := 1) rfl
   have c2 := hbc.cell (i := 2) rfl
   clear hbc hown' hgrow hnil hal2 hsz HO21'
   go_wp2_with fail
   with_reducible refine HMK.out.mono ?_
   rintro e22 w22 ⟨us22, a22, c22, rfl, ho22, hb22⟩
   have HB422 : Hid (Below w4.heap.size w4 w22) := Lib.hid (HB421.out.trans (hb22.mono HB421.out.size))
   obtain ⟨w23, hw23⟩ : ∃ w, w = w22.alloc (.cells #[.int .i64 (q : Nat), .int .i64 (n : Nat), .slice a22 k c22] 32) := ⟨_, rfl⟩
   have HA23 : Hid (Below w22.heap.size w22 w23) := Lib.hid (by rw [hw23]; exact (Below.refl _ _).alloc (Nat.le_refl _) _)
   have HX15 : Hid (BC w22.heap.size [.int .i64 (q : Nat), .int .i64 (n : Nat), .slice a22 k c22] 32 w23) := Lib.hid (by rw [hw23]; exact BC.new w22 [.int .i64 (q : Nat), .int .i64 (n : Nat), .slice a22 k c22] 32 rfl)
   have HB423 : Hid (Below w4.heap.size w4 w23) := Lib.hid (HB422.out.trans (HA23.out.mono HB422.out.size))
   have HM23 : Hid (MM M w23 (.slice (some ⟨g21, 0, none⟩) m2 c21)) := Lib.hid ((HM21.out.below hb22).below HA23.out)
   have HSM : Hid (Calls Try.prog 14 #[DV q n (.slice a k ca), DV q n (.slice a22 k c22)] w23 fun e w'' => e = .returned (.bool true) ∧ Below w23.heap.size w23 w'') := Lib.hid (same_c HGL.out (by omega) (fun t ht => by rw [(mrow HGN.out ht).len]; omega) (HM4.out.below HB423.out) (ho22.mm.below HA23.out))
   have HW23 := Lib.hid hw23
   have hbc := HC4.out.below HB423.out
   have c0 := hbc.cell (i := 0) rfl
   have c1 := hbc.cell (i := 1) rfl
   have c2 := hbc.cell (i := 2) rfl
   have d0 := HX15.out.cell (i := 0) rfl
   have d1 := HX15.out.cell (i := 1) rfl
   have d2 := HX15.out.cell (i := 2) rfl
   rw [hw23] at c0 c1 c2 d0 d1 d2
   clear hbc hw23 ho22 hb22 HMK
   go_wp2_with fail
   rw [← HW23.out]
   with_reducible refine HSM.out.mono ?_
   rintro e24 w24 ⟨rfl, hb24⟩
   have HB424 : Hid (Below w4.heap.size w4 w24) := Lib.hid (HB423.out.trans (hb24.mono HB423.out.size))
   have HM24 := Lib.hid (HM23.out.below hb24)
   clear hb24 HSM c0 c1 c2 d0 d1 d2
   go_wp2
   go_loopw [17] (fun i wr => ∃ u : Nat, u ≤ m2 ∧ i = .int .i64 (u : Nat) ∧ Hid (Below w24.heap.size w24 wr)) (fun i _ => m2 - (intOf i).toNat)
   case atStart => exact ⟨0, Nat.zero_le _, rfl, Lib.hid (Below.refl _ _)⟩
   case round =>
    obtain ⟨u, hu, rfl, UB⟩ := hrel
    have HB4u : Hid (Below w4.heap.size w4 wr) := Lib.hid (HB424.out.trans (UB.out.mono HB424.out.size))
    by_cases hul : u < m2
    ·have huli : (u : Int) < (m2 : Int) := by omega
     obtain ⟨b9, o9, hab9, a9, p9, hc9, hn9⟩ := (HM24.out.below UB.out).at' (fun t ht => (mrow HMN.out ht).len) hul
     injection hab9 with hab9
     injection hab9 with hb9e ho9e _
     subst hb9e
     subst ho9e
     have HUV : Hid (Vn F n (M.getD u [])) := Lib.hid (mrow HMN.out (by rw [hm2.out]; exact hul))
     have HUZ : Hid (wtV (rsV F n G (M.getD u [])) = 0) := Lib.hid ((HVC.out.rest HUV.out).2 (HSPA.out _ (getD_mem (by rw [hm2.out]; exact hul))))
     have HME : Hid (∀ w', Below wr.heap.size wr w' → Calls Try.prog 21 #[DV q n (.slice a k ca), .slice a9 n p9] w' fun e w'' => ∃ a c, e = .returned (.tuple #[.slice a k c, .int .i64 0]) ∧ Below w'.heap.size w' w'') := Lib.hid (fun w' hbw => by
      have h := message_c HVC.out ((HM4.out.below HB4u.out).below hbw) HUV.out (hn9.below hbw)
      rw [hq.out] at h
      refine h.mono fun e w'' ⟨hc, hb⟩ => ?_
      rcases hc with ⟨_, a, c, h1, _⟩ | ⟨h1, _⟩
      ·exact ⟨a, c, h1, hb⟩
      ·exact absurd HUZ.out h1)
     have hbc := HC4.out.below HB4u.out
     have c0 := hbc.cell (i := 0) rfl
     have c1 := hbc.cell (i := 1) rfl
     have c2 := hbc.cell (i := 2) rfl
     have HUB2 := Lib.hid UB.out
     rw [Nat.zero_add] at hc9
     have hS26 : (wr.drew.cell? ⟨x4, 0, none⟩ = some (.int .i64 (q : Nat)) ∧ wr.drew.cell? ⟨x4, 1, none⟩ = some (.int .i64 (n : Nat)) ∧ wr.drew.cell? ⟨x4, 2, none⟩ = some (.slice a k ca)) ∧ wr.drew.cell? ⟨g21, u, none⟩ = some (.slice a9 n p9) ∧ Hid (Below wr.heap.size wr wr.drew) := ⟨⟨c0, c1, c2⟩, hc9, Lib.hid (Below.refl _ _).drew⟩
     have HXL : Hid (x4 < wr.heap.size ∧ g21 < wr.heap.size) := Lib.hid ⟨(HC4.out.below HB4u.out).lt, World.block_lt_of_cell? _ _ hc9⟩
     clear hbc hn9 c0 c1 c2 hc9
     go_wp2_with fail
     refine wp_region_held_drew (S := fun w' => (w'.cell? ⟨x4, 0, none⟩ = some (.int .i64 (q : Nat)) ∧ w'.cell? ⟨x4, 1, none⟩ = some (.int .i64 (n : Nat)) ∧ w'.cell? ⟨x4, 2, none⟩ = some (.slice a k ca)) ∧ w'.cell? ⟨g21, u, none⟩ = some (.slice a9 n p9) ∧ Hid (Below wr.heap.size wr w')) (by kernel_rfl) (by with_reducible exact hS26) (fun hHeld => ?_)
     refine Rg.tk 0 ⟨some 127,.load 32 (.tmp 8),32,"law.go:131",#[],none⟩ ?_
     try simp only [Rg.gp]
     refine Rg.tk 1 ⟨some 128,.move (.tmp 10),22,"law.go:131",#[],none⟩ ?_
     try simp only [Rg.gp]
     refine Rg.tk 2 ⟨some 129,.move (.tmp 17),3,"law.go:131",#[],none⟩ ?_
     try simp only [Rg.gp]
     refine Rg.tk 3 ⟨some 130,.indexAddr 22 (.tmp 128) (.tmp 129),0,"law.go:131",#[⟨1,.data⟩,⟨2,.data⟩],none⟩ ?_
     try simp only [Rg.gp]
     refine Rg.tk 4 ⟨some 131,.load 39 (.tmp 130),39,"law.go:131",#[⟨3,.data⟩],none⟩ ?_
     try simp only [Rg.gp]
     refine Rg.rd1 5 ⟨some 132,.call ⟨.value (.func 21),#[.tmp 127,.tmp 131],#[32,39]⟩,41,"law.go:131",#[⟨0,.data⟩,⟨4,.data⟩],none⟩ fun K hK => ?_
     go_simp
     go_at_call 21
     with_reducible refine (HME.out _ hHeld.2.2.out).mono ?_
     rintro e26 w26 ⟨a26, c26, rfl, hb26⟩
     refine hK.out _ _ ?_ (fun hHeld => ?_)
     ·(try dsimp only)
      have hsx := hHeld.2.2.out.size
      have hxx : x4 < _ := Nat.lt_of_lt_of_le HXL.out.1 hsx
      have hgx : g21 < _ := Nat.lt_of_lt_of_le HXL.out.2 hsx
      exact ⟨⟨(hb26.cell (p := ⟨x4, 0, none⟩) hxx).trans hHeld.1.1, (hb26.cell (p := ⟨x4, 1, none⟩) hxx).trans hHeld.1.2.1, (hb26.cell (p := ⟨x4, 2, none⟩) hxx).trans hHeld.1.2.2⟩, (hb26.cell (p := ⟨g21, u, none⟩) hgx).trans hHeld.2.1, Lib.hid (hHeld.2.2.out.trans (hb26.mono hsx))⟩
     clear hK K
     try simp only [Rg.gp]
     refine Rg.tk 6 ⟨some 126,.move (.tmp 132),41,"law.go:131",#[⟨5,.data⟩],none⟩ ?_
     try simp only [Rg.gp]
     refine Rg.tk 7 ⟨some 133,.extract (.tmp 126) 0,39,"law.go:131",#[⟨6,.data⟩],none⟩ ?_
     try simp only [Rg.gp]
     refine Rg.tk 8 ⟨some 134,.extract (.tmp 126) 1,33,"law.go:131",#[⟨6,.data⟩,⟨9,.gcOnly Go.Departure.lateStores⟩],none⟩ ?_
     try simp only [Rg.gp]
     refine Rg.tk 9 ⟨some 18,.assign (.tmp 133),39,"law.go:131",#[⟨7,.data⟩,⟨5,.chain⟩,⟨0,.phase⟩,⟨1,.phase⟩,⟨2,.phase⟩,⟨3,.phase⟩,⟨4,.phase⟩,⟨5,.phase⟩,⟨6,.phase⟩,⟨7,.phase⟩,⟨8,.textOnly Go.Departure.lateStores⟩],none⟩ ?_
     try simp only [Rg.gp]
     refine Rg.tk 10 ⟨some 19,.assign (.tmp 134),33,"law.go:131",#[⟨8,.data⟩,⟨9,.chain⟩,⟨0,.phase⟩,⟨1,.phase⟩,⟨2,.phase⟩,⟨3,.phase⟩,⟨4,.phase⟩,⟨5,.phase⟩,⟨6,.phase⟩,⟨7,.phase⟩,⟨8,.phase⟩,⟨9,.phase⟩],none⟩ ?_
     try simp only [Rg.gp]
     refine wpAnyH_done (by kernel_rfl) ?_ _
     have HB26 : Hid (Below w24.heap.size w24 w26) := Lib.hid (HUB2.out.trans (hHeld.2.2.out.mono HUB2.out.size))
     clear hHeld hS26 hb26 HME HXL
     go_wp2
     go_roundw
     case rel => exact ⟨u + 1, by omega, by go_num, HB26⟩
     case measure => simp [intOf]; omega
    ·have huli : ¬ (u : Int) < (m2 : Int) := by omega
     have HBF : Hid (Below W.heap.size W wr) := Lib.hid (HB4.out.trans (HB4u.out.mono HB4.out.size))
     go_wp2
     go_ret
     exact ⟨rfl, HBF.out⟩

end Go.Proofs.Ytdafhhojiioifaa
