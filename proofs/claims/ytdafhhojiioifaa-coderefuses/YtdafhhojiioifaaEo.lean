/- The law CodeRefuses. -/
import Derived.Test.YtdafhhojiioifaaEp
import Derived.Deep.DeepCutAuto
namespace Go.Proofs.Ytdafhhojiioifaa
open Go.RowKit Go.Fl
set_option maxRecDepth 100000
set_option linter.unusedVariables false
set_option linter.unusedSimpArgs false
set_option linter.unusedSectionVars false

open Go.RowKit
set_option maxHeartbeats 2400000 in
theorem refuses_c {x y z l cl lz cz nu : Nat} {Z : List Int} {az : Option Addr} {aa : Option Addr} {W : World} (hx : x ≤ 255) (hy : y ≤ 255) (hz : z ≤ 255) (hl : l ≤ maxLen) (na : N8 l W (.slice aa l cl)) (hlz : Z.length = lz) (nz : NI Z W (.slice az lz cz)) (hnu : nu ≤ 255) :
  Calls Try.prog 9 #[.agg #[.int .u8 (x : Nat), .int .u8 (y : Nat), .int .u8 (z : Nat), .slice aa l cl], .slice az lz cz, .int .u8 (nu : Nat)] W fun e w' => e = .returned (.bool true) ∧ Below W.heap.size W w' := by
 obtain ⟨W1, hW1⟩ : ∃ w, w = (W.alloc (.cells #[.int .u8 (x : Nat), .int .u8 (y : Nat), .int .u8 (z : Nat), .slice aa l cl] 27)) := ⟨_, rfl⟩
 have HB1 : Hid (Below W.heap.size W W1) := Lib.hid (by rw [hW1]; exact (Below.refl _ _).alloc (Nat.le_refl _) _)
 have HX : Hid (BC W.heap.size [.int .u8 (x : Nat), .int .u8 (y : Nat), .int .u8 (z : Nat), .slice aa l cl] 27 W1) := Lib.hid (by rw [hW1]; exact BC.new W [.int .u8 (x : Nat), .int .u8 (y : Nat), .int .u8 (z : Nat), .slice aa l cl] 27 rfl)
 have HNZ := Lib.hid (And.intro hlz (nz.below HB1.out))
 clear hlz nz
 have HEX : Hid (Calls Try.prog 10 #[] W1 fun e w' => e = .returned (.bool true) ∧ Below W1.heap.size W1 w') := Lib.hid ex_c
 have HNA := Lib.hid (na.below HB1.out)
 have HXL := Lib.hid (And.intro hx (And.intro hy (And.intro hz hl)))
 have HW1 := Lib.hid hW1
 clear hW1 na hx hy hz hl
 go_enter Try.func9, Try.ntmps9
 go_wp2_with fail
 rw [← HW1.out]
 with_reducible refine HEX.out.mono ?_
 rintro e w2 ⟨rfl, hb2⟩
 have HX2 := Lib.hid (HX.out.below hb2)
 have HB12 : Hid (Below W1.heap.size W1 w2) := Lib.hid hb2
 have HB2 : Hid (Below W.heap.size W w2) := Lib.hid (HB1.out.trans (hb2.mono HB1.out.size))
 have HMC : Hid (Calls Try.prog 17 #[.agg #[.int .u8 (x : Nat), .int .u8 (y : Nat), .int .u8 (z : Nat), .slice aa l cl]] w2 (MC w2)) := Lib.hid (made_c HXL.out.1 HXL.out.2.1 HXL.out.2.2.1 HXL.out.2.2.2 (HNA.out.below hb2))
 have c0 := HX2.out.cell (i := 0) rfl
 have c1 := HX2.out.cell (i := 1) rfl
 have c2 := HX2.out.cell (i := 2) rfl
 have c3 := HX2.out.cell (i := 3) rfl
 clear hb2 HEX
 by_cases hl40 : 40 < lz
 ·have hl40i : (40 : Int) < (lz : Int) := by omega
  go_wp2
  go_ret
  exact ⟨rfl, HB2.out⟩
 have hl40i : ¬ (40 : Int) < (lz : Int) := by omega
 go_wp2_with fail
 with_reducible refine HMC.out.mono ?_
 rintro e w3 ⟨F, n, m, G, L, a, ca, rfl, hvc, hn10, hqm, hmm, hb3⟩
 obtain ⟨w4, hw4⟩ : ∃ w, w = w3.alloc (.cells #[.int .i64 (F.q : Nat), .int .i64 (n : Nat), .slice a m ca] 32) := ⟨_, rfl⟩
 obtain ⟨x4, hx4⟩ : ∃ x, x = w3.heap.size := ⟨_, rfl⟩
 have HA4 : Hid (Below w3.heap.size w3 w4) := Lib.hid (by rw [hw4]; exact (Below.refl _ _).alloc (Nat.le_refl _) _)
 have HC4 : Hid (BC x4 [.int .i64 (F.q : Nat), .int .i64 (n : Nat), .slice a m ca] 32 w4) := Lib.hid (by rw [hw4, hx4]; exact BC.new w3 [.int .i64 (F.q : Nat), .int .i64 (n : Nat), .slice a m ca] 32 rfl)
 have HB24 : Hid (Below w2.heap.size w2 w4) := Lib.hid (hb3.trans (HA4.out.mono hb3.size))
 have HB4 : Hid (Below W.heap.size W w4) := Lib.hid (HB2.out.trans (HB24.out.mono HB2.out.size))
 have HB14 : Hid (Below W1.heap.size W1 w4) := Lib.hid (HB12.out.trans (HB24.out.mono HB12.out.size))
 have HVC := Lib.hid hvc
 have HM4 := Lib.hid (hmm.below HA4.out)
 have hnb := hvc.gc.n2
 have hnb1 := hvc.gc.n1
 have HQM := Lib.hid hqm
 have hm8 : m ≤ 8 := hvc.m8 hqm
 have HFF : Hid (Ok F) := Lib.hid hvc.ok
 have HGN := Lib.hid hvc.gc.mn
 have HGL := Lib.hid hvc.gc.len
 have hq2 := hvc.q2
 have hq16 := hvc.gc.q
 obtain ⟨q, hq⟩ : ∃ q, Hid (F.q = q) := ⟨_, Lib.hid rfl⟩
 rw [hq.out] at HC4 hw4 hq2 hq16 ⊢
 have HOV : Hid (∀ w', Calls Try.prog 38 #[.int .i64 (q : Nat)] w' fun e w'' => ∃ b cap, e = .returned (FV F b cap) ∧ FldAt F b cap w'' ∧ Below w'.heap.size w' w'' ∧ w'.heap.size ≤ b) := Lib.hid fun w' => by rw [← hq.out]; exact rover_c HVC.out.gc.mem
 have HLW : Hid (lz ≤ 40) := Lib.hid (by omega)
 have HNZ4 := Lib.hid (HNZ.out.2.below HB14.out)
 obtain ⟨gb, hgb⟩ : ∃ r, Hid ((decide (lz = n) && elI q Z) = r) := ⟨_, Lib.hid rfl⟩
 obtain ⟨fb, hfb⟩ : ∃ r, Hid ((decide (lz = m) && elI q Z) = r) := ⟨_, Lib.hid rfl⟩
 have HGB := hgb
 have HFB := hfb
 have HW7 : Hid (∀ w', Below w4.heap.size w4 w' → Calls Try.prog 47 #[.int .i64 (q : Nat), .int .i64 (n : Nat), .slice az lz cz] w' fun e w'' => e = .returned (.bool gb) ∧ Below w'.heap.size w' w'') := Lib.hid fun w' hb => by
  have h := rword_any (q := q) (n := n) (by omega) (by omega) HNZ.out.1 (by omega) (HNZ4.out.below hb)
  rw [hgb.out] at h; exact h
 have HW8 : Hid (∀ w', Below w4.heap.size w4 w' → Calls Try.prog 47 #[.int .i64 (q : Nat), .int .i64 (m : Nat), .slice az lz cz] w' fun e w'' => e = .returned (.bool fb) ∧ Below w'.heap.size w' w'') := Lib.hid fun w' hb => by
  have h := rword_any (q := q) (n := m) (by omega) (by omega) HNZ.out.1 (by omega) (HNZ4.out.below hb)
  rw [hfb.out] at h; exact h
 clear hgb hfb
 obtain ⟨nr, hnr⟩ : ∃ r, Hid (nu % 13 = r) := ⟨_, Lib.hid rfl⟩
 have hnrb : nr < 13 := by have := hnr.out; omega
 have hnrt : (nu : Int).tmod 13 = (nr : Int) := by rw [← hnr.out]; exact (Int.ofNat_tmod nu 13).symm
 obtain ⟨kk, hkk⟩ : ∃ r, Hid (12 + nr = r) := ⟨_, Lib.hid rfl⟩
 have hkkb : 12 ≤ kk ∧ kk ≤ 24 := by have := hkk.out; omega
 have hkkw : IntKind.i64.wrap (12 + IntKind.i64.wrap (nr : Int)) = (kk : Int) := by
  rw [w64 (by omega : nr < 4611686018427387904)]
  exact (Go.IntWalk.i64_in _ (by omega)).trans (by have := hkk.out; omega)
 have hkki : (12 : Int) + (nr : Int) = (kk : Int) := by have := hkk.out; omega
 obtain ⟨kd, hkd⟩ : ∃ r, Hid (kk = r + 1) := ⟨kk - 1, Lib.hid (by omega)⟩
 have hkdb : 11 ≤ kd ∧ kd ≤ 23 := by have := hkd.out; omega
 have hkdi : (kk : Int) - 1 = (kd : Int) := by have := hkd.out; omega
 have hkdw2 : IntKind.i64.wrap (kd : Int) = (kd : Int) := w64 (by omega)
 have hkdw : IntKind.i64.wrap ((kk : Int) - 1) = (kd : Int) := by rw [hkdi]; exact hkdw2
 obtain ⟨cnt, hcnt⟩ : ∃ r, Hid (2 ^ kd = r) := ⟨_, Lib.hid rfl⟩
 have HKD : Hid (11 ≤ kd ∧ kk = kd + 1 ∧ (¬ 12 < kd → (kd = 11 ∧ kk = 12 ∧ cnt = 2048) ∨ (kd = 12 ∧ kk = 13 ∧ cnt = 4096))) := Lib.hid ⟨hkdb.1, hkd.out, fun hn => by
  have h1 := hkd.out
  by_cases e : kd = 11
  ·exact .inl ⟨e, by omega, by rw [← hcnt.out, e]⟩
  ·have e2 : kd = 12 := by omega
   exact .inr ⟨e2, by omega, by rw [← hcnt.out, e2]⟩⟩
 have HZK : Hid (∀ w', Calls Try.prog 39 #[.int .i64 (kk : Nat)] w' (RPost (List.replicate kk 0) w')) := Lib.hid fun w' => rzero0_c (by omega)
 obtain ⟨G1, G2, hlr⟩ := longrow (kk := kk) (kd := kd) hkd.out hkdb
 have HMO := Lib.hid hlr.mak
 have HDO := Lib.hid hlr.du
 have HVD := Lib.hid hlr.va
 have HDD := Lib.hid hlr.dm
 have HBG := Lib.hid hlr.big
 have HSM := Lib.hid hlr.small
 rw [hcnt.out] at HSM
 have hS5 : S5 q n (.slice a m ca) x4 w4 w4.drew := ⟨⟨HC4.out.cell rfl, HC4.out.cell rfl, HC4.out.cell rfl⟩, Lib.hid ⟨(Below.refl _ _).drew, HC4.out.lt⟩⟩
 have HW4 := Lib.hid hw4
 have HX4 := Lib.hid hx4
 have HNR := Lib.hid hnr.out
 clear hw4 hx4 hvc hmm hb3 HMC c0 c1 c2 hqm hn10 hlr
 go_wp2_with fail
 rw [← HW4.out, ← HX4.out]
 refine wp_region_held_drew (S := fun w' => S5 q n (.slice a m ca) x4 w4 w') (by kernel_rfl) (by with_reducible exact hS5) (fun hHeld => ?_)
 refine Rg.tk 0 ⟨some 41,.fieldAddr 32 (.tmp 8) 0,0,"law.go:265",#[],none⟩ ?_
 try simp only [Rg.gp]
 refine Rg.tk 1 ⟨some 42,.load 3 (.tmp 41),3,"law.go:265",#[⟨0,.data⟩],none⟩ ?_
 try simp only [Rg.gp]
 refine Rg.tk 2 ⟨some 43,.fieldAddr 32 (.tmp 8) 1,0,"law.go:265",#[],none⟩ ?_
 try simp only [Rg.gp]
 refine Rg.tk 3 ⟨some 44,.load 3 (.tmp 43),3,"law.go:265",#[⟨2,.data⟩],none⟩ ?_
 try simp only [Rg.gp]
 refine Rg.tk 4 ⟨some 45,.move (.tmp 1),39,"law.go:265",#[],none⟩ ?_
 try simp only [Rg.gp]
 refine Rg.tk 6 ⟨some 47,.fieldAddr 32 (.tmp 8) 0,0,"law.go:265",#[],none⟩ ?_
 try simp only [Rg.gp]
 refine Rg.tk 7 ⟨some 48,.load 3 (.tmp 47),3,"law.go:265",#[⟨6,.data⟩],none⟩ ?_
 try simp only [Rg.gp]
 refine Rg.tk 8 ⟨some 49,.fieldAddr 32 (.tmp 8) 2,0,"law.go:265",#[],none⟩ ?_
 try simp only [Rg.gp]
 refine Rg.tk 9 ⟨some 50,.load 22 (.tmp 49),22,"law.go:265",#[⟨8,.data⟩],none⟩ ?_
 try simp only [Rg.gp]
 refine Rg.tk 10 ⟨some 51,.call ⟨.builtin Builtin.len,#[.tmp 50],#[22]⟩,3,"law.go:265",#[⟨9,.data⟩],none⟩ ?_
 try simp only [Rg.gp]
 refine Rg.tk 11 ⟨some 52,.move (.tmp 1),39,"law.go:265",#[],none⟩ ?_
 try simp only [Rg.gp]
 refine Rg.rd1 5 ⟨some 46,.call ⟨.value (.func 47),#[.tmp 42,.tmp 44,.tmp 45],#[3,3,39]⟩,4,"law.go:265",#[⟨1,.data⟩,⟨3,.data⟩,⟨4,.data⟩],none⟩ fun K hK => ?_
 go_simp
 go_at_call 47
 with_reducible refine (HW7.out _ hHeld.2.out.1).mono ?_
 rintro e1 u1 ⟨rfl, hb1⟩
 refine hK.out _ _ ?_ (fun hHeld => ?_)
 ·(try dsimp only)
  exact S5.go hHeld (hb1.mono hHeld.2.out.1.size)
 clear hK K
 try simp only [Rg.gp]
 refine Rg.rd1 12 ⟨some 53,.call ⟨.value (.func 47),#[.tmp 48,.tmp 51,.tmp 52],#[3,3,39]⟩,4,"law.go:265",#[⟨7,.data⟩,⟨10,.data⟩,⟨11,.data⟩,⟨5,.chain⟩],none⟩ fun K hK => ?_
 go_simp
 go_at_call 47
 with_reducible refine (HW8.out _ hHeld.2.out.1).mono ?_
 rintro e2 u2 ⟨rfl, hb2⟩
 refine hK.out _ _ ?_ (fun hHeld => ?_)
 ·(try dsimp only)
  exact S5.go hHeld (hb2.mono hHeld.2.out.1.size)
 clear hK K
 try simp only [Rg.gp]
 refine Rg.tk 13 ⟨some 9,.assign (.tmp 46),4,"law.go:265",#[⟨5,.data⟩,⟨12,.chain⟩,⟨0,.phase⟩,⟨1,.phase⟩,⟨2,.phase⟩,⟨3,.phase⟩,⟨4,.phase⟩,⟨5,.phase⟩,⟨6,.textOnly Go.Departure.lateStores⟩,⟨7,.textOnly Go.Departure.lateStores⟩,⟨8,.textOnly Go.Departure.lateStores⟩,⟨9,.textOnly Go.Departure.lateStores⟩,⟨10,.textOnly Go.Departure.lateStoresUnsure⟩,⟨11,.textOnly Go.Departure.lateStores⟩,⟨12,.textOnly Go.Departure.lateStoresUnsure⟩],none⟩ ?_
 try simp only [Rg.gp]
 refine Rg.tk 14 ⟨some 10,.assign (.tmp 53),4,"law.go:265",#[⟨12,.data⟩,⟨13,.chain⟩,⟨0,.phase⟩,⟨1,.phase⟩,⟨2,.phase⟩,⟨3,.phase⟩,⟨4,.phase⟩,⟨5,.phase⟩,⟨6,.phase⟩,⟨7,.phase⟩,⟨8,.phase⟩,⟨9,.phase⟩,⟨10,.phase⟩,⟨11,.phase⟩,⟨12,.phase⟩,⟨13,.phase⟩],none⟩ ?_
 try simp only [Rg.gp]
 refine wpAnyH_done (by kernel_rfl) ?_ _
 have HB42 : Hid (Below w4.heap.size w4 u2) := Lib.hid hHeld.2.out.1
 clear hHeld hS5 hb1 hb2
 have HM8 : Hid (Calls Try.prog 21 #[DV q n (.slice a m ca), .slice az lz cz] u2 fun e w' => ∃ a' l' c' x', e = .returned (.tuple #[.slice a' l' c', .int .i64 x']) ∧ (x' == (1 : Int)) = (!gb) ∧ Below u2.heap.size u2 w') := Lib.hid (by
  rcases hgb : gb with _ | _
  ·have h := message_no HVC.out (HM4.out.below HB42.out) HNZ.out.1 (by omega) (HNZ4.out.below HB42.out) (by rw [hq.out, HGB.out, hgb])
   rw [hq.out] at h
   exact h.mono fun e w' ⟨h1, h2⟩ => ⟨_, _, _, _, h1, by decide, h2⟩
  ·have hg : (decide (lz = n) && elI q Z) = true := by rw [HGB.out, hgb]
   rw [Bool.and_eq_true] at hg
   obtain ⟨hln, hel⟩ := hg
   have hln := of_decide_eq_true hln
   obtain ⟨V, hzv, hvq, hvl⟩ := ints_of hel
   have hvn : Vn F n V := ⟨by rw [hvl, HNZ.out.1, hln], fun x hx => by rw [hq.out]; exact hvq x hx⟩
   rw [show Value.slice az lz cz = .slice az n cz from by rw [hln]]
   have h := message_c HVC.out (HM4.out.below HB42.out) hvn (NI.nn hzv (by rw [← hln]; exact HNZ4.out.below HB42.out))
   rw [hq.out] at h
   refine h.mono fun e w' ⟨hc, hb⟩ => ?_
   rcases hc with ⟨_, a', c', h1, _⟩ | ⟨_, h1⟩
   ·exact ⟨_, _, _, 0, h1, by decide, hb⟩
   ·exact ⟨_, _, _, 6, h1, by decide, hb⟩)
 have HS9 : Hid (∀ w', Below w4.heap.size w4 w' → Calls Try.prog 23 #[DV q n (.slice a m ca), .slice az lz cz] w' fun e w'' => ∃ a' l' c' x', e = .returned (.tuple #[.slice a' l' c', .int .i64 x']) ∧ (x' == (1 : Int)) = (!gb) ∧ Below w'.heap.size w' w'') := Lib.hid fun w' hb => by
  rcases hgb : gb with _ | _
  ·have h := syndrome_no HVC.out (HM4.out.below hb) HNZ.out.1 (by omega) (HNZ4.out.below hb) (by rw [hq.out, HGB.out, hgb])
   rw [hq.out] at h
   exact h.mono fun e w' ⟨h1, h2⟩ => ⟨_, _, _, _, h1, by decide, h2⟩
  ·have hg : (decide (lz = n) && elI q Z) = true := by rw [HGB.out, hgb]
   rw [Bool.and_eq_true] at hg
   obtain ⟨hln, hel⟩ := hg
   have hln := of_decide_eq_true hln
   obtain ⟨V, hzv, hvq, hvl⟩ := ints_of hel
   have hvn : Vn F n V := ⟨by rw [hvl, HNZ.out.1, hln], fun x hx => by rw [hq.out]; exact hvq x hx⟩
   rw [show Value.slice az lz cz = .slice az n cz from by rw [hln]]
   have h := syndrome_c HVC.out (HM4.out.below hb) hvn (NI.nn hzv (by rw [← hln]; exact HNZ4.out.below hb))
   rw [hq.out] at h
   exact h.mono fun e w'' ⟨a', c', h1, _, h2⟩ => ⟨_, _, _, 0, h1, by decide, h2⟩
 have HE10 : Hid (∀ w', Below w4.heap.size w4 w' → Calls Try.prog 19 #[DV q n (.slice a m ca), .slice az lz cz] w' fun e w'' => ∃ a' l' c' x', e = .returned (.tuple #[.slice a' l' c', .int .i64 x']) ∧ ((x' == (1 : Int)) = (!fb) ∧ (fb = false → l' = 0)) ∧ Below w'.heap.size w' w'') := Lib.hid fun w' hb => by
  rcases hfb : fb with _ | _
  ·have h := encode_no HVC.out (HM4.out.below hb) HNZ.out.1 (by omega) (HNZ4.out.below hb) (by rw [hq.out, HFB.out, hfb])
   rw [hq.out] at h
   exact h.mono fun e w' ⟨h1, h2⟩ => ⟨_, _, _, _, h1, ⟨by decide, fun _ => rfl⟩, h2⟩
  ·have hg : (decide (lz = m) && elI q Z) = true := by rw [HFB.out, hfb]
   rw [Bool.and_eq_true] at hg
   obtain ⟨hln, hel⟩ := hg
   have hln := of_decide_eq_true hln
   obtain ⟨V, hzv, hvq, hvl⟩ := ints_of hel
   rw [show Value.slice az lz cz = .slice az m cz from by rw [hln]]
   have h := encode_c HVC.out (HM4.out.below hb) (by rw [hvl, HNZ.out.1, hln]) (fun x hx => by rw [hq.out]; exact hvq x hx) (NI.nn hzv (by rw [← hln]; exact HNZ4.out.below hb))
   rw [hq.out] at h
   exact h.mono fun e w'' ⟨g', _, h1, _, h2⟩ => ⟨_, _, _, 0, h1, ⟨by decide, fun h => by cases h⟩, h2⟩
 go_upto_region 8 with fail
 go_cut [11, 12] (fun v11 v12 wx => ∃ (x8 : Int), v12 = .int .i64 x8 ∧ Hid ((x8 == (1 : Int)) = (!gb)) ∧ Hid (Below w4.heap.size w4 wx))
 case first =>
  have hbc := HC4.out.below HB42.out
  have c0 := hbc.cell (i := 0) rfl
  have c1 := hbc.cell (i := 1) rfl
  have c2 := hbc.cell (i := 2) rfl
  clear hbc
  go_wp2_with fail
  with_reducible refine HM8.out.mono ?_
  rintro e3 u3 ⟨a3, l3, c3, x3, rfl, hx3, hb3⟩
  have HX3 := Lib.hid hx3
  have HB43 : Hid (Below w4.heap.size w4 u3) := Lib.hid (HB42.out.trans (hb3.mono HB42.out.size))
  clear hb3 hx3 c0 c1 c2
  go_wp2_with fail
  go_meet
  case rel => exact ⟨_, rfl, HX3, HB43⟩
 case rest =>
 obtain ⟨x8, rfl, HX8, HB43⟩ := hcut
 obtain ⟨u3, hu3⟩ : ∃ w, w = wc := ⟨_, rfl⟩
 subst hu3
 have HS9u := Lib.hid (HS9.out u3 HB43.out)
 go_upto_region 9 with fail
 go_cut [13, 14] (fun v13 v14 wx => ∃ (x9 : Int), v14 = .int .i64 x9 ∧ Hid ((x9 == (1 : Int)) = (!gb)) ∧ Hid (Below w4.heap.size w4 wx))
 case first =>
  have hbc := HC4.out.below HB43.out
  have c0 := hbc.cell (i := 0) rfl
  have c1 := hbc.cell (i := 1) rfl
  have c2 := hbc.cell (i := 2) rfl
  clear hbc
  go_wp2_with fail
  with_reducible refine HS9u.out.mono ?_
  rintro e4 u4 ⟨a4, l4, c4, x4', rfl, hx4, hb4⟩
  have HX4' := Lib.hid hx4
  have HB44 : Hid (Below w4.heap.size w4 u4) := Lib.hid (HB43.out.trans (hb4.mono HB43.out.size))
  clear hb4 hx4 c0 c1 c2
  go_wp2_with fail
  go_meet
  case rel => exact ⟨_, rfl, HX4', HB44⟩
 case rest =>
 obtain ⟨x9, rfl, HX9g, HB44⟩ := hcut
 obtain ⟨u4, hu4⟩ : ∃ w, w = wc := ⟨_, rfl⟩
 subst hu4
 have HE10u := Lib.hid (HE10.out u4 HB44.out)
 go_upto_region 10 with fail
 go_cut [15, 16] (fun v15 v16 wx => ∃ (a5 : Option Addr) (l5 c5 : Nat) (x10 : Int), v15 = .slice a5 l5 c5 ∧ v16 = .int .i64 x10 ∧ Hid ((x10 == (1 : Int)) = (!fb) ∧ (fb = false → l5 = 0)) ∧ Hid (Below w4.heap.size w4 wx))
 case first =>
  have hbc := HC4.out.below HB44.out
  have c0 := hbc.cell (i := 0) rfl
  have c1 := hbc.cell (i := 1) rfl
  have c2 := hbc.cell (i := 2) rfl
  clear hbc
  go_wp2_with fail
  with_reducible refine HE10u.out.mono ?_
  rintro e5 u5 ⟨a5, l5, c5, x5, rfl, hx5, hb5⟩
  have HX5 := Lib.hid hx5
  have HB45 : Hid (Below w4.heap.size w4 u5) := Lib.hid (HB44.out.trans (hb5.mono HB44.out.size))
  clear hb5 hx5 c0 c1 c2
  go_wp2_with fail
  go_meet
  case rel => exact ⟨_, _, _, _, rfl, rfl, HX5, HB45⟩
 case rest =>
 obtain ⟨a5, l5, c5, x10, rfl, rfl, HX10, HB45⟩ := hcut
 obtain ⟨vb, hvb⟩ : ∃ w, w = wc := ⟨_, rfl⟩
 subst hvb
 go_upto_region 11 with fail
 go_cut [9, 10, 11, 12, 13, 14, 15, 16, 96] (fun _ _ _ _ _ _ _ _ v96 wx => v96 = .bool false ∧ wx = vb)
 case first =>
  rcases hgb : gb with _ | _
  ·have h8 : x8 = 1 := by have h := HX8.out; rw [hgb] at h; simpa using h
   have h9 : x9 = 1 := by have h := HX9g.out; rw [hgb] at h; simpa using h
   subst h8
   subst h9
   rcases hfb : fb with _ | _
   ·have h10 : x10 = 1 := by have h := HX10.out.1; rw [hfb] at h; simpa using h
    have h5 : l5 = 0 := HX10.out.2 hfb
    subst h10
    subst h5
    go_wp2_with fail
    go_meet
    case rel => exact ⟨rfl, rfl⟩
   ·have h10 : ¬ x10 = 1 := by have h := HX10.out.1; rw [hfb] at h; simpa using h
    have h10b : (x10 == 1) = false := by simpa using h10
    go_wp2_with fail
    go_meet
    case rel => exact ⟨rfl, rfl⟩
  ·have h8 : ¬ x8 = 1 := by have h := HX8.out; rw [hgb] at h; simpa using h
   have h9 : ¬ x9 = 1 := by have h := HX9g.out; rw [hgb] at h; simpa using h
   have h8b : (x8 == 1) = false := by simpa using h8
   have h9b : (x9 == 1) = false := by simpa using h9
   rcases hfb : fb with _ | _
   ·have h10 : x10 = 1 := by have h := HX10.out.1; rw [hfb] at h; simpa using h
    have h5 : l5 = 0 := HX10.out.2 hfb
    subst h10
    subst h5
    go_wp2_with fail
    go_meet
    case rel => exact ⟨rfl, rfl⟩
   ·have h10 : ¬ x10 = 1 := by have h := HX10.out.1; rw [hfb] at h; simpa using h
    have h10b : (x10 == 1) = false := by simpa using h10
    go_wp2_with fail
    go_meet
    case rel => exact ⟨rfl, rfl⟩
 case rest =>
 obtain ⟨rfl, rfl⟩ := hcut
 have HBW : Hid (Below W.heap.size W wc) := Lib.hid (HB4.out.trans (HB45.out.mono HB4.out.size))
 obtain ⟨vb, hvb⟩ : ∃ w, w = wc := ⟨_, rfl⟩
 subst hvb
 go_wp2_with fail
 with_reducible refine (HZK.out vb).mono ?_
 rintro e6 w6 ⟨gz, hgz, rfl, hrz, hb6⟩
 rw [List.length_replicate]
 have HRZ := Lib.hid hrz
 have HGZ := Lib.hid hgz
 have HB6 := Lib.hid hb6
 clear hgz hrz hb6
 go_wp2
 go_loopw [19] (fun i wr => ∃ (j : Nat) (V : List Nat), j ≤ kk ∧ i = .int .i64 (j : Nat) ∧ Hid (V.length = kk ∧ ∀ t, t < j → V.getD t 0 = 1) ∧ Hid (Row V gz wr) ∧ Hid (Below vb.heap.size vb wr)) (fun i _ => kk - (intOf i).toNat)
 ·exact ⟨0, List.replicate kk 0, Nat.zero_le _, rfl, Lib.hid ⟨by simp, fun t ht => by omega⟩, HRZ, HB6⟩
 obtain ⟨j, V, hj, rfl, KV, KR, KB⟩ := hrel
 have KV2 := Lib.hid KV.out
 have KR2 := Lib.hid KR.out
 have KB2 := Lib.hid KB.out
 by_cases hjk : j < kk
 ·have hjki : (j : Int) < (kk : Int) := by omega
  have hcc := KR2.out.cell (t := j) (by rw [KV2.out.1]; exact hjk)
  have hff := KR2.out.frozen j
  have HR2 : Hid (Row (V.set j 1) gz (wr.setCell ⟨gz, j, none⟩ (.int .i64 1))) := Lib.hid (KR2.out.set j 1)
  have HV2 : Hid ((V.set j 1).length = kk ∧ ∀ t, t < j + 1 → (V.set j 1).getD t 0 = 1) := Lib.hid ⟨by rw [List.length_set]; exact KV2.out.1, fun t ht => by
   rw [List.getD_eq_getElem?_getD, List.getElem?_set]
   by_cases e : j = t
   ·rw [if_pos e, if_pos (by rw [KV2.out.1]; exact hjk)]; rfl
   ·rw [if_neg e, ← List.getD_eq_getElem?_getD]; exact KV2.out.2 t (by omega)⟩
  have HB2 : Hid (Below vb.heap.size vb (wr.setCell ⟨gz, j, none⟩ (.int .i64 1))) := Lib.hid (KB2.out.setCell (p := ⟨gz, j, none⟩) (by exact HGZ.out) _)
  go_wp2
  go_roundw
  ·exact ⟨j + 1, _, by omega, by go_num, HV2, HR2, HB2⟩
  ·(try simp [intOf]); (try omega)
 have hjki : ¬ (j : Int) < (kk : Int) := by omega
 have hjk2 : j = kk := by omega
 have HVO : Hid (V = List.replicate kk 1) := Lib.hid (list_ext (by rw [KV2.out.1, List.length_replicate]) fun t ht => by
  rw [KV2.out.2 t (by rw [hjk2, ← KV2.out.1]; exact ht), List.getD_eq_getElem?_getD, List.getElem?_replicate, if_pos (by rw [← KV2.out.1]; exact ht)]; rfl)
 have HRO : Hid (NN (List.replicate kk 1) wr (.slice (some ⟨gz, 0, none⟩) kk kk)) := Lib.hid (by
  have h := KR2.out.nn
  rw [KV2.out.1, HVO.out] at h; exact h)
 obtain ⟨w7, hw7⟩ : ∃ w, w = wr.alloc (.cells #[.slice (some ⟨gz, 0, none⟩) kk kk] 39) := ⟨_, rfl⟩
 have HA7 : Hid (Below wr.heap.size wr w7) := Lib.hid (by rw [hw7]; exact (Below.refl _ _).alloc (Nat.le_refl _) _)
 have HB7 : Hid (Below vb.heap.size vb w7) := Lib.hid (KB2.out.trans (HA7.out.mono KB2.out.size))
 have HMK : Hid (Calls Try.prog 12 #[.int .i64 2, .int .i64 (kk : Nat), .slice (some ⟨wr.heap.size, 0, none⟩) 1 1] w7 fun e w' => ∃ a c, e = .returned (.tuple #[.agg #[.int .i64 2, .int .i64 (kk : Nat), .slice a 1 c], .int .i64 0]) ∧ MM G1 w' (.slice a 1 c) ∧ Below w7.heap.size w7 w') := Lib.hid (HMO.out w7 _ _ (by
  rw [hw7]
  exact mm_new rfl fun t ht => by
   have h0 : t = 0 := by simpa using ht
   subst h0
   refine ⟨some ⟨gz, 0, none⟩, kk, ?_, ?_⟩
   ·show some _ = some (Value.slice _ (List.replicate kk 1).length kk)
    rw [List.length_replicate]; rfl
   ·show NN (List.replicate kk 1) wr (.slice _ (List.replicate kk 1).length kk)
    rw [List.length_replicate]; exact HRO.out))
 have HW7 := Lib.hid hw7
 clear hw7 hjk2
 go_wp2_with fail
 rw [← HW7.out]
 with_reducible refine HMK.out.mono ?_
 rintro e8 w8 ⟨a8, c8, rfl, hm8, hb8⟩
 obtain ⟨w9, hw9⟩ : ∃ w, w = w8.alloc (.cells #[.int .i64 2, .int .i64 (kk : Nat), .slice a8 1 c8] 32) := ⟨_, rfl⟩
 obtain ⟨x9, hx9⟩ : ∃ x, x = w8.heap.size := ⟨_, rfl⟩
 have HA9 : Hid (Below w8.heap.size w8 w9) := Lib.hid (by rw [hw9]; exact (Below.refl _ _).alloc (Nat.le_refl _) _)
 have HX9 : Hid (BC x9 [.int .i64 2, .int .i64 (kk : Nat), .slice a8 1 c8] 32 w9) := Lib.hid (by rw [hw9, hx9]; exact BC.new w8 [.int .i64 2, .int .i64 (kk : Nat), .slice a8 1 c8] 32 rfl)
 have HB9 : Hid (Below vb.heap.size vb w9) := Lib.hid (HB7.out.trans ((hb8.trans (HA9.out.mono hb8.size)).mono HB7.out.size))
 have HDU : Hid (Calls Try.prog 26 #[.agg #[.int .i64 2, .int .i64 (kk : Nat), .slice a8 1 c8]] w9 fun e w' => ∃ a c, e = .returned (.agg #[.int .i64 2, .int .i64 (kk : Nat), .slice a kd c]) ∧ MM G2 w' (.slice a kd c) ∧ Below w9.heap.size w9 w') := Lib.hid (HDO.out w9 _ _ (hm8.below HA9.out))
 have HW9 := Lib.hid hw9
 have HX9E := Lib.hid hx9
 have c0 := HX9.out.cell (i := 0) rfl
 have c1 := HX9.out.cell (i := 1) rfl
 have c2 := HX9.out.cell (i := 2) rfl
 rw [hx9] at c0 c1 c2
 rw [hw9] at c0 c1 c2
 clear hw9 hx9 hm8 hb8 HMK
 go_wp2_with fail
 rw [← HW9.out]
 try rw [← HX9E.out]
 with_reducible refine HDU.out.mono ?_
 rintro e10 w10 ⟨ad, cd, rfl, hmd, hb10⟩
 obtain ⟨v, hv⟩ : ∃ w, w = w10.alloc (.cells #[.int .i64 2, .int .i64 (kk : Nat), .slice ad kd cd] 32) := ⟨_, rfl⟩
 obtain ⟨x22, hx22⟩ : ∃ x, x = w10.heap.size := ⟨_, rfl⟩
 have HAv : Hid (Below w10.heap.size w10 v) := Lib.hid (by rw [hv]; exact (Below.refl _ _).alloc (Nat.le_refl _) _)
 have HX22 : Hid (BC x22 [.int .i64 2, .int .i64 (kk : Nat), .slice ad kd cd] 32 v) := Lib.hid (by rw [hv, hx22]; exact BC.new w10 [.int .i64 2, .int .i64 (kk : Nat), .slice ad kd cd] 32 rfl)
 have HBv : Hid (Below vb.heap.size vb v) := Lib.hid (HB9.out.trans ((hb10.trans (HAv.out.mono hb10.size)).mono HB9.out.size))
 have HMv := Lib.hid (hmd.below HAv.out)
 have HVA := Lib.hid (HVD.out v _ _ HMv.out)
 have HWv := Lib.hid hv
 have HX22E := Lib.hid hx22
 clear c0 c1 c2
 have c0 := HX22.out.cell (i := 0) rfl
 have c1 := HX22.out.cell (i := 1) rfl
 have c2 := HX22.out.cell (i := 2) rfl
 rw [hx22] at c0 c1 c2
 rw [hv] at c0 c1 c2
 clear hv hx22 hmd hb10 HDU
 go_wp2_with fail
 rw [← HWv.out]
 try rw [← HX22E.out]
 with_reducible refine HVA.out.mono ?_
 rintro e11 v1 ⟨rfl, hb11⟩
 have HQ1 : Hid (Below v.heap.size v v1) := Lib.hid hb11
 have HDI := Lib.hid (HDD.out v1 _ _ (HMv.out.below hb11))
 clear c0 c1 c2 hb11 HVA
 have hbc := HX22.out.below HQ1.out
 have c0 := hbc.cell (i := 0) rfl
 have c1 := hbc.cell (i := 1) rfl
 have c2 := hbc.cell (i := 2) rfl
 clear hbc
 go_wp2_with fail
 try rw [← HX22E.out]
 with_reducible refine HDI.out.mono ?_
 rintro e12 v2 ⟨rfl, hb12⟩
 have HQ2 : Hid (Below v.heap.size v v2) := Lib.hid (HQ1.out.trans (hb12.mono HQ1.out.size))
 clear c0 c1 c2 hb12 HDI
 have hbc := HX22.out.below HQ2.out
 have c0 := hbc.cell (i := 0) rfl
 have c1 := hbc.cell (i := 1) rfl
 have c2 := hbc.cell (i := 2) rfl
 clear hbc
 by_cases hmany : 12 < kd
 ·have hmi : (12 : Int) < (kd : Int) := by omega
  have HWO := Lib.hid (HBG.out.1 hmany v2 _ _ (HMv.out.below HQ2.out))
  go_wp2_with fail
  try rw [← HX22E.out]
  with_reducible refine HWO.out.mono ?_
  rintro e13 v3 ⟨rfl, hb13⟩
  have HQ3 : Hid (Below v.heap.size v v3) := Lib.hid (HQ2.out.trans (hb13.mono HQ2.out.size))
  have HMB := Lib.hid (HBG.out.2.1 hmany v3 _ _ (HMv.out.below HQ3.out))
  clear c0 c1 c2 hb13 HWO
  have hbc := HX22.out.below HQ3.out
  have c0 := hbc.cell (i := 0) rfl
  have c1 := hbc.cell (i := 1) rfl
  have c2 := hbc.cell (i := 2) rfl
  clear hbc
  go_wp2_with fail
  try rw [← HX22E.out]
  with_reducible refine HMB.out.mono ?_
  rintro e14 v4 ⟨rfl, hb14⟩
  obtain ⟨v5, hv5⟩ : ∃ w, w = v4.alloc (.cells #[.int .i64 0, .int .i64 0, .slice none 0 0] 32) := ⟨_, rfl⟩
  have HA5 : Hid (Below v4.heap.size v4 v5) := Lib.hid (by rw [hv5]; exact (Below.refl _ _).alloc (Nat.le_refl _) _)
  have HQ5 : Hid (Below v.heap.size v v5) := Lib.hid (HQ3.out.trans ((hb14.trans (HA5.out.mono hb14.size)).mono HQ3.out.size))
  have HWB := Lib.hid (HBG.out.2.2.1 hmany v5 _ _ (HMv.out.below HQ5.out))
  have HV5 := Lib.hid hv5
  clear c0 c1 c2 hb14 HMB
  have hbc := HX22.out.below HQ5.out
  have c0 := hbc.cell (i := 0) rfl
  have c1 := hbc.cell (i := 1) rfl
  have c2 := hbc.cell (i := 2) rfl
  clear hbc
  rw [hv5] at c0 c1 c2
  clear hv5
  go_wp2_with fail
  rw [← HV5.out]
  try rw [← HX22E.out]
  with_reducible refine HWB.out.mono ?_
  rintro e15 v6 ⟨rfl, hb15⟩
  have HQ6 : Hid (Below v.heap.size v v6) := Lib.hid (HQ5.out.trans (hb15.mono HQ5.out.size))
  have HDB := Lib.hid (HBG.out.2.2.2.1 hmany v6 _ _ (HMv.out.below HQ6.out))
  clear c0 c1 c2 hb15 HWB
  have hbc := HX22.out.below HQ6.out
  have c0 := hbc.cell (i := 0) rfl
  have c1 := hbc.cell (i := 1) rfl
  have c2 := hbc.cell (i := 2) rfl
  clear hbc
  go_wp2_with fail
  try rw [← HX22E.out]
  with_reducible refine HDB.out.mono ?_
  rintro e16 v7 ⟨rfl, hb16⟩
  have HQ7 : Hid (Below v.heap.size v v7) := Lib.hid (HQ6.out.trans (hb16.mono HQ6.out.size))
  have HCB := Lib.hid (HBG.out.2.2.2.2 hmany v7 _ _ (HMv.out.below HQ7.out))
  clear c0 c1 c2 hb16 HDB
  have hbc := HX22.out.below HQ7.out
  have c0 := hbc.cell (i := 0) rfl
  have c1 := hbc.cell (i := 1) rfl
  have c2 := hbc.cell (i := 2) rfl
  clear hbc
  go_wp2_with fail
  try rw [← HX22E.out]
  with_reducible refine HCB.out.mono ?_
  rintro e17 v8 ⟨rfl, hb17⟩
  have HBF : Hid (Below W.heap.size W v8) := Lib.hid (HBW.out.trans ((HBv.out.trans ((HQ7.out.trans (hb17.mono HQ7.out.size)).mono HBv.out.size)).mono HBW.out.size))
  clear c0 c1 c2 hb17 HCB
  go_wp2
  go_ret
  exact ⟨rfl, HBF.out⟩
 have hmi : ¬ (12 : Int) < (kd : Int) := by omega
 have HWO := Lib.hid (HSM.out.1 hmany v2 _ _ (HMv.out.below HQ2.out))
 go_wp2_with fail
 try rw [← HX22E.out]
 with_reducible refine HWO.out.mono ?_
 rintro e13 v3 ⟨a13, l13, c13, rfl, hb13⟩
 have HQ3 : Hid (Below v.heap.size v v3) := Lib.hid (HQ2.out.trans (hb13.mono HQ2.out.size))
 have HMB := Lib.hid (HSM.out.2.1 hmany v3 _ _ (HMv.out.below HQ3.out))
 clear c0 c1 c2 hb13 HWO
 have hbc := HX22.out.below HQ3.out
 have c0 := hbc.cell (i := 0) rfl
 have c1 := hbc.cell (i := 1) rfl
 have c2 := hbc.cell (i := 2) rfl
 clear hbc
 go_wp2_with fail
 try rw [← HX22E.out]
 with_reducible refine HMB.out.mono ?_
 rintro e14 v4 ⟨a14, c14, rfl, hb14⟩
 obtain ⟨v5, hv5⟩ : ∃ w, w = v4.alloc (.cells #[.int .i64 2, .int .i64 (kk : Nat), .slice a14 kd c14] 32) := ⟨_, rfl⟩
 have HA5 : Hid (Below v4.heap.size v4 v5) := Lib.hid (by rw [hv5]; exact (Below.refl _ _).alloc (Nat.le_refl _) _)
 have HQ5 : Hid (Below v.heap.size v v5) := Lib.hid (HQ3.out.trans ((hb14.trans (HA5.out.mono hb14.size)).mono HQ3.out.size))
 have HWB := Lib.hid (HSM.out.2.2.1 hmany v5 _ _ (HMv.out.below HQ5.out))
 have HV5 := Lib.hid hv5
 clear c0 c1 c2 hb14 HMB
 have hbc := HX22.out.below HQ5.out
 have c0 := hbc.cell (i := 0) rfl
 have c1 := hbc.cell (i := 1) rfl
 have c2 := hbc.cell (i := 2) rfl
 clear hbc
 rw [hv5] at c0 c1 c2
 clear hv5
 go_wp2_with fail
 rw [← HV5.out]
 try rw [← HX22E.out]
 with_reducible refine HWB.out.mono ?_
 rintro e15 v6 ⟨a15, l15, c15, rfl, hb15⟩
 have HQ6 : Hid (Below v.heap.size v v6) := Lib.hid (HQ5.out.trans (hb15.mono HQ5.out.size))
 have HDB := Lib.hid (HSM.out.2.2.2.1 hmany v6 _ _ (HMv.out.below HQ6.out))
 clear c0 c1 c2 hb15 HWB
 have hbc := HX22.out.below HQ6.out
 have c0 := hbc.cell (i := 0) rfl
 have c1 := hbc.cell (i := 1) rfl
 have c2 := hbc.cell (i := 2) rfl
 clear hbc
 go_wp2_with fail
 try rw [← HX22E.out]
 with_reducible refine HDB.out.mono ?_
 rintro e16 v7 ⟨d16, rfl, hb16⟩
 have HQ7 : Hid (Below v.heap.size v v7) := Lib.hid (HQ6.out.trans (hb16.mono HQ6.out.size))
 have HCB : Hid (∀ w', Below v7.heap.size v7 w' → Calls Try.prog 35 #[.agg #[.int .i64 2, .int .i64 (kk : Nat), .slice ad kd cd]] w' fun e w'' => e = .returned (.int .i64 (cnt : Nat)) ∧ Below w'.heap.size w' w'') := Lib.hid fun w' hb => HSM.out.2.2.2.2 hmany w' _ _ ((HMv.out.below HQ7.out).below hb)
 have HX7 : Hid (x22 < v7.heap.size) := Lib.hid (HX22.out.below HQ7.out).lt
 have HBF7 : Hid (Below W.heap.size W v7) := Lib.hid (HBW.out.trans ((HBv.out.trans (HQ7.out.mono HBv.out.size)).mono HBW.out.size))
 clear c0 c1 c2 hb16 HDB
 have hbc := HX22.out.below HQ7.out
 have hS30 : (v7.drew.cell? ⟨x22, 0, none⟩ = some (.int .i64 2) ∧ v7.drew.cell? ⟨x22, 1, none⟩ = some (.int .i64 (kk : Nat)) ∧ v7.drew.cell? ⟨x22, 2, none⟩ = some (.slice ad kd cd)) ∧ Hid (Below v7.heap.size v7 v7.drew) := ⟨⟨hbc.cell rfl, hbc.cell rfl, hbc.cell rfl⟩, Lib.hid (Below.refl _ _).drew⟩
 clear hbc
 rcases HKD.out.2.2 hmany with ⟨hk1, hk2, hk3⟩ | ⟨hk1, hk2, hk3⟩
 ·subst hk1
  subst hk2
  subst hk3
  have hsh := fun w => shl11 w
  have HCB2 : Hid (∀ w', Below v7.heap.size v7 w' → Calls Try.prog 35 #[.agg #[.int .i64 2, .int .i64 12, .slice ad 11 cd]] w' fun e w'' => e = .returned (.int .i64 2048) ∧ Below w'.heap.size w' w'') := Lib.hid HCB.out
  go_wp2_with fail
  try rw [← HX22E.out]
  refine wp_region_held_drew (S := fun w' => (w'.cell? ⟨x22, 0, none⟩ = some (.int .i64 2) ∧ w'.cell? ⟨x22, 1, none⟩ = some (.int .i64 ((12 : Nat) : Int)) ∧ w'.cell? ⟨x22, 2, none⟩ = some (.slice ad 11 cd)) ∧ Hid (Below v7.heap.size v7 w')) (by kernel_rfl) (by with_reducible exact hS30) (fun hHeld => ?_)
  refine Rg.tk 0 ⟨some 182,.move (.tmp 25),33,"law.go:290",#[],none⟩ ?_
  try simp only [Rg.gp]
  refine Rg.tk 1 ⟨some 183,.binOp BinOp.eql 33 (.tmp 182) (.const (Value.int IntKind.i64 0)) 33,4,"law.go:290",#[⟨0,.data⟩],none⟩ ?_
  try simp only [Rg.gp]
  refine Rg.tk 2 ⟨some 184,.move (.tmp 183),4,"law.go:290",#[⟨1,.data⟩],none⟩ ?_
  try simp only [Rg.gp]
  refine Rg.tk 3 ⟨some 185,.move (.tmp 27),33,"law.go:290",#[⟨2,.guard⟩],some (2, true)⟩ ?_
  try simp only [Rg.gp]
  refine Rg.tk 4 ⟨some 186,.binOp BinOp.eql 33 (.tmp 185) (.const (Value.int IntKind.i64 0)) 33,4,"law.go:290",#[⟨3,.data⟩,⟨2,.guard⟩],some (2, true)⟩ ?_
  try simp only [Rg.gp]
  refine Rg.tk 5 ⟨some 187,.pick (.tmp 184) (.tmp 186) (.const (Value.bool false)),4,"law.go:290",#[⟨2,.data⟩,⟨4,.data⟩],none⟩ ?_
  try simp only [Rg.gp]
  refine Rg.tk 6 ⟨some 188,.move (.tmp 187),4,"law.go:290",#[⟨5,.data⟩,⟨2,.chain⟩],none⟩ ?_
  try simp only [Rg.gp]
  refine Rg.tk 7 ⟨some 189,.move (.tmp 29),33,"law.go:290",#[⟨6,.guard⟩],some (6, true)⟩ ?_
  try simp only [Rg.gp]
  refine Rg.tk 8 ⟨some 190,.binOp BinOp.eql 33 (.tmp 189) (.const (Value.int IntKind.i64 0)) 33,4,"law.go:290",#[⟨7,.data⟩,⟨6,.guard⟩],some (6, true)⟩ ?_
  try simp only [Rg.gp]
  refine Rg.tk 9 ⟨some 191,.pick (.tmp 188) (.tmp 190) (.const (Value.bool false)),4,"law.go:290",#[⟨6,.data⟩,⟨8,.data⟩],none⟩ ?_
  try simp only [Rg.gp]
  refine Rg.tk 10 ⟨some 192,.move (.tmp 191),4,"law.go:290",#[⟨9,.data⟩,⟨6,.chain⟩],none⟩ ?_
  try simp only [Rg.gp]
  refine Rg.tk 11 ⟨some 193,.move (.tmp 31),33,"law.go:290",#[⟨10,.guard⟩],some (10, true)⟩ ?_
  try simp only [Rg.gp]
  refine Rg.tk 12 ⟨some 194,.binOp BinOp.eql 33 (.tmp 193) (.const (Value.int IntKind.i64 0)) 33,4,"law.go:290",#[⟨11,.data⟩,⟨10,.guard⟩],some (10, true)⟩ ?_
  try simp only [Rg.gp]
  refine Rg.tk 13 ⟨some 195,.pick (.tmp 192) (.tmp 194) (.const (Value.bool false)),4,"law.go:290",#[⟨10,.data⟩,⟨12,.data⟩],none⟩ ?_
  try simp only [Rg.gp]
  refine Rg.tk 14 ⟨some 196,.move (.tmp 195),4,"law.go:290",#[⟨13,.data⟩,⟨10,.chain⟩],none⟩ ?_
  try simp only [Rg.gp]
  refine Rg.tk 15 ⟨some 197,.load 32 (.tmp 22),32,"law.go:290",#[⟨14,.guard⟩],some (14, true)⟩ ?_
  try simp only [Rg.gp]
  refine Rg.tk 17 ⟨some 199,.move (.tmp 17),3,"law.go:290",#[⟨14,.guard⟩],some (14, true)⟩ ?_
  try simp only [Rg.gp]
  refine Rg.tk 18 ⟨some 200,.binOp BinOp.sub 3 (.tmp 199) (.const (Value.int IntKind.i64 1)) 3,3,"law.go:290",#[⟨17,.data⟩,⟨14,.guard⟩],some (14, true)⟩ ?_
  try simp only [Rg.gp]
  refine Rg.tk 19 ⟨some 201,.binOp BinOp.shl 3 (.const (Value.int IntKind.i64 1)) (.tmp 200) 3,3,"law.go:290",#[⟨18,.data⟩,⟨14,.guard⟩],some (14, true)⟩ ?_
  try simp only [Rg.gp]
  refine Rg.rd1 16 ⟨some 198,.call ⟨.value (.func 35),#[.tmp 197],#[32]⟩,3,"law.go:290",#[⟨15,.data⟩,⟨14,.chain⟩,⟨14,.guard⟩],some (14, true)⟩ fun K hK => ?_
  go_simp
  go_at_call 35
  with_reducible refine (HCB2.out _ hHeld.2.out).mono ?_
  rintro e17 v8 ⟨rfl, hb17⟩
  refine hK.out _ _ ?_ (fun hHeld => ?_)
  ·(try dsimp only)
   have hsx := hHeld.2.out.size
   have hxx : x22 < _ := Nat.lt_of_lt_of_le HX7.out hsx
   exact ⟨⟨(hb17.cell (p := ⟨x22, 0, none⟩) hxx).trans hHeld.1.1, (hb17.cell (p := ⟨x22, 1, none⟩) hxx).trans hHeld.1.2.1, (hb17.cell (p := ⟨x22, 2, none⟩) hxx).trans hHeld.1.2.2⟩, Lib.hid (hHeld.2.out.trans (hb17.mono hsx))⟩
  clear hK K
  try simp only [Rg.gp]
  refine Rg.tk 20 ⟨some 202,.binOp BinOp.eql 3 (.tmp 198) (.tmp 201) 3,4,"law.go:290",#[⟨16,.data⟩,⟨19,.data⟩,⟨14,.guard⟩],some (14, true)⟩ ?_
  try simp only [Rg.gp]
  refine Rg.tk 21 ⟨some 203,.pick (.tmp 196) (.tmp 202) (.const (Value.bool false)),4,"law.go:290",#[⟨14,.data⟩,⟨20,.data⟩],none⟩ ?_
  try simp only [Rg.gp]
  refine Rg.tk 22 ⟨some 204,.move (.tmp 203),4,"law.go:290",#[⟨21,.data⟩,⟨16,.chain⟩],none⟩ ?_
  try simp only [Rg.gp]
  refine Rg.tk 23 ⟨some 205,.move (.tmp 7),4,"law.go:290",#[⟨22,.guard⟩],some (22, true)⟩ ?_
  try simp only [Rg.gp]
  refine Rg.tk 24 ⟨some 206,.pick (.tmp 204) (.tmp 205) (.const (Value.bool false)),4,"law.go:290",#[⟨22,.data⟩,⟨23,.data⟩],none⟩ ?_
  try simp only [Rg.gp]
  refine Rg.tk 25 ⟨some 6,.assign (.tmp 206),4,"law.go:290",#[⟨24,.data⟩,⟨22,.chain⟩,⟨0,.phase⟩,⟨1,.phase⟩,⟨2,.phase⟩,⟨3,.phase⟩,⟨4,.phase⟩,⟨5,.phase⟩,⟨6,.phase⟩,⟨7,.phase⟩,⟨8,.phase⟩,⟨9,.phase⟩,⟨10,.phase⟩,⟨11,.phase⟩,⟨12,.phase⟩,⟨13,.phase⟩,⟨14,.phase⟩,⟨15,.phase⟩,⟨16,.phase⟩,⟨17,.phase⟩,⟨18,.phase⟩,⟨19,.phase⟩,⟨20,.phase⟩,⟨21,.phase⟩,⟨22,.phase⟩,⟨23,.phase⟩,⟨24,.phase⟩],none⟩ ?_
  try simp only [Rg.gp]
  refine wpAnyH_done (by kernel_rfl) ?_ _
  have HBF : Hid (Below W.heap.size W v8) := Lib.hid (HBF7.out.trans (hHeld.2.out.mono HBF7.out.size))
  clear hHeld hS30 hb17 HCB HCB2
  go_wp2
  go_ret
  exact ⟨rfl, HBF.out⟩
 ·subst hk1
  subst hk2
  subst hk3
  have hsh := fun w => shl12 w
  have HCB2 : Hid (∀ w', Below v7.heap.size v7 w' → Calls Try.prog 35 #[.agg #[.int .i64 2, .int .i64 13, .slice ad 12 cd]] w' fun e w'' => e = .returned (.int .i64 4096) ∧ Below w'.heap.size w' w'') := Lib.hid HCB.out
  go_wp2_with fail
  try rw [← HX22E.out]
  refine wp_region_held_drew (S := fun w' => (w'.cell? ⟨x22, 0, none⟩ = some (.int .i64 2) ∧ w'.cell? ⟨x22, 1, none⟩ = some (.int .i64 ((13 : Nat) : Int)) ∧ w'.cell? ⟨x22, 2, none⟩ = some (.slice ad 12 cd)) ∧ Hid (Below v7.heap.size v7 w')) (by kernel_rfl) (by with_reducible exact hS30) (fun hHeld => ?_)
  refine Rg.tk 0 ⟨some 182,.move (.tmp 25),33,"law.go:290",#[],none⟩ ?_
  try simp only [Rg.gp]
  refine Rg.tk 1 ⟨some 183,.binOp BinOp.eql 33 (.tmp 182) (.const (Value.int IntKind.i64 0)) 33,4,"law.go:290",#[⟨0,.data⟩],none⟩ ?_
  try simp only [Rg.gp]
  refine Rg.tk 2 ⟨some 184,.move (.tmp 183),4,"law.go:290",#[⟨1,.data⟩],none⟩ ?_
  try simp only [Rg.gp]
  refine Rg.tk 3 ⟨some 185,.move (.tmp 27),33,"law.go:290",#[⟨2,.guard⟩],some (2, true)⟩ ?_
  try simp only [Rg.gp]
  refine Rg.tk 4 ⟨some 186,.binOp BinOp.eql 33 (.tmp 185) (.const (Value.int IntKind.i64 0)) 33,4,"law.go:290",#[⟨3,.data⟩,⟨2,.guard⟩],some (2, true)⟩ ?_
  try simp only [Rg.gp]
  refine Rg.tk 5 ⟨some 187,.pick (.tmp 184) (.tmp 186) (.const (Value.bool false)),4,"law.go:290",#[⟨2,.data⟩,⟨4,.data⟩],none⟩ ?_
  try simp only [Rg.gp]
  refine Rg.tk 6 ⟨some 188,.move (.tmp 187),4,"law.go:290",#[⟨5,.data⟩,⟨2,.chain⟩],none⟩ ?_
  try simp only [Rg.gp]
  refine Rg.tk 7 ⟨some 189,.move (.tmp 29),33,"law.go:290",#[⟨6,.guard⟩],some (6, true)⟩ ?_
  try simp only [Rg.gp]
  refine Rg.tk 8 ⟨some 190,.binOp BinOp.eql 33 (.tmp 189) (.const (Value.int IntKind.i64 0)) 33,4,"law.go:290",#[⟨7,.data⟩,⟨6,.guard⟩],some (6, true)⟩ ?_
  try simp only [Rg.gp]
  refine Rg.tk 9 ⟨some 191,.pick (.tmp 188) (.tmp 190) (.const (Value.bool false)),4,"law.go:290",#[⟨6,.data⟩,⟨8,.data⟩],none⟩ ?_
  try simp only [Rg.gp]
  refine Rg.tk 10 ⟨some 192,.move (.tmp 191),4,"law.go:290",#[⟨9,.data⟩,⟨6,.chain⟩],none⟩ ?_
  try simp only [Rg.gp]
  refine Rg.tk 11 ⟨some 193,.move (.tmp 31),33,"law.go:290",#[⟨10,.guard⟩],some (10, true)⟩ ?_
  try simp only [Rg.gp]
  refine Rg.tk 12 ⟨some 194,.binOp BinOp.eql 33 (.tmp 193) (.const (Value.int IntKind.i64 0)) 33,4,"law.go:290",#[⟨11,.data⟩,⟨10,.guard⟩],some (10, true)⟩ ?_
  try simp only [Rg.gp]
  refine Rg.tk 13 ⟨some 195,.pick (.tmp 192) (.tmp 194) (.const (Value.bool false)),4,"law.go:290",#[⟨10,.data⟩,⟨12,.data⟩],none⟩ ?_
  try simp only [Rg.gp]
  refine Rg.tk 14 ⟨some 196,.move (.tmp 195),4,"law.go:290",#[⟨13,.data⟩,⟨10,.chain⟩],none⟩ ?_
  try simp only [Rg.gp]
  refine Rg.tk 15 ⟨some 197,.load 32 (.tmp 22),32,"law.go:290",#[⟨14,.guard⟩],some (14, true)⟩ ?_
  try simp only [Rg.gp]
  refine Rg.tk 17 ⟨some 199,.move (.tmp 17),3,"law.go:290",#[⟨14,.guard⟩],some (14, true)⟩ ?_
  try simp only [Rg.gp]
  refine Rg.tk 18 ⟨some 200,.binOp BinOp.sub 3 (.tmp 199) (.const (Value.int IntKind.i64 1)) 3,3,"law.go:290",#[⟨17,.data⟩,⟨14,.guard⟩],some (14, true)⟩ ?_
  try simp only [Rg.gp]
  refine Rg.tk 19 ⟨some 201,.binOp BinOp.shl 3 (.const (Value.int IntKind.i64 1)) (.tmp 200) 3,3,"law.go:290",#[⟨18,.data⟩,⟨14,.guard⟩],some (14, true)⟩ ?_
  try simp only [Rg.gp]
  refine Rg.rd1 16 ⟨some 198,.call ⟨.value (.func 35),#[.tmp 197],#[32]⟩,3,"law.go:290",#[⟨15,.data⟩,⟨14,.chain⟩,⟨14,.guard⟩],some (14, true)⟩ fun K hK => ?_
  go_simp
  go_at_call 35
  with_reducible refine (HCB2.out _ hHeld.2.out).mono ?_
  rintro e17 v8 ⟨rfl, hb17⟩
  refine hK.out _ _ ?_ (fun hHeld => ?_)
  ·(try dsimp only)
   have hsx := hHeld.2.out.size
   have hxx : x22 < _ := Nat.lt_of_lt_of_le HX7.out hsx
   exact ⟨⟨(hb17.cell (p := ⟨x22, 0, none⟩) hxx).trans hHeld.1.1, (hb17.cell (p := ⟨x22, 1, none⟩) hxx).trans hHeld.1.2.1, (hb17.cell (p := ⟨x22, 2, none⟩) hxx).trans hHeld.1.2.2⟩, Lib.hid (hHeld.2.out.trans (hb17.mono hsx))⟩
  clear hK K
  try simp only [Rg.gp]
  refine Rg.tk 20 ⟨some 202,.binOp BinOp.eql 3 (.tmp 198) (.tmp 201) 3,4,"law.go:290",#[⟨16,.data⟩,⟨19,.data⟩,⟨14,.guard⟩],some (14, true)⟩ ?_
  try simp only [Rg.gp]
  refine Rg.tk 21 ⟨some 203,.pick (.tmp 196) (.tmp 202) (.const (Value.bool false)),4,"law.go:290",#[⟨14,.data⟩,⟨20,.data⟩],none⟩ ?_
  try simp only [Rg.gp]
  refine Rg.tk 22 ⟨some 204,.move (.tmp 203),4,"law.go:290",#[⟨21,.data⟩,⟨16,.chain⟩],none⟩ ?_
  try simp only [Rg.gp]
  refine Rg.tk 23 ⟨some 205,.move (.tmp 7),4,"law.go:290",#[⟨22,.guard⟩],some (22, true)⟩ ?_
  try simp only [Rg.gp]
  refine Rg.tk 24 ⟨some 206,.pick (.tmp 204) (.tmp 205) (.const (Value.bool false)),4,"law.go:290",#[⟨22,.data⟩,⟨23,.data⟩],none⟩ ?_
  try simp only [Rg.gp]
  refine Rg.tk 25 ⟨some 6,.assign (.tmp 206),4,"law.go:290",#[⟨24,.data⟩,⟨22,.chain⟩,⟨0,.phase⟩,⟨1,.phase⟩,⟨2,.phase⟩,⟨3,.phase⟩,⟨4,.phase⟩,⟨5,.phase⟩,⟨6,.phase⟩,⟨7,.phase⟩,⟨8,.phase⟩,⟨9,.phase⟩,⟨10,.phase⟩,⟨11,.phase⟩,⟨12,.phase⟩,⟨13,.phase⟩,⟨14,.phase⟩,⟨15,.phase⟩,⟨16,.phase⟩,⟨17,.phase⟩,⟨18,.phase⟩,⟨19,.phase⟩,⟨20,.phase⟩,⟨21,.phase⟩,⟨22,.phase⟩,⟨23,.phase⟩,⟨24,.phase⟩],none⟩ ?_
  try simp only [Rg.gp]
  refine wpAnyH_done (by kernel_rfl) ?_ _
  have HBF : Hid (Below W.heap.size W v8) := Lib.hid (HBF7.out.trans (hHeld.2.out.mono HBF7.out.size))
  clear hHeld hS30 hb17 HCB HCB2
  go_wp2
  go_ret
  exact ⟨rfl, HBF.out⟩


end Go.Proofs.Ytdafhhojiioifaa
