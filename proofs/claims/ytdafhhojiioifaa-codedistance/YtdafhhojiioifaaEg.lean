/- The law CodeDistance. -/
import Derived.Test.YtdafhhojiioifaaEf
namespace Go.Proofs.Ytdafhhojiioifaa
open Go.RowKit Go.Fl
set_option maxRecDepth 100000
set_option linter.unusedVariables false
set_option linter.unusedSimpArgs false
set_option linter.unusedSectionVars false

open Go.RowKit
set_option maxHeartbeats 1200000 in
theorem distance_c {x y z l cl iu : Nat} {aa : Option Addr} {W : World} (hx : x ≤ 255) (hy : y ≤ 255) (hz : z ≤ 255) (hl : l ≤ maxLen) (na : N8 l W (.slice aa l cl)) (hiu : iu ≤ 255) :
  Calls Try.prog 8 #[.agg #[.int .u8 (x : Nat), .int .u8 (y : Nat), .int .u8 (z : Nat), .slice aa l cl], .int .u8 (iu : Nat)] W fun e w' => e = .returned (.bool true) ∧ Below W.heap.size W w' := by
 obtain ⟨W1, hW1⟩ : ∃ w, w = (W.alloc (.cells #[.int .u8 (x : Nat), .int .u8 (y : Nat), .int .u8 (z : Nat), .slice aa l cl] 27)) := ⟨_, rfl⟩
 have HB1 : Hid (Below W.heap.size W W1) := Lib.hid (by rw [hW1]; exact (Below.refl _ _).alloc (Nat.le_refl _) _)
 have HX : Hid (BC W.heap.size [.int .u8 (x : Nat), .int .u8 (y : Nat), .int .u8 (z : Nat), .slice aa l cl] 27 W1) := Lib.hid (by rw [hW1]; exact BC.new W [.int .u8 (x : Nat), .int .u8 (y : Nat), .int .u8 (z : Nat), .slice aa l cl] 27 rfl)
 have HEX : Hid (Calls Try.prog 10 #[] W1 fun e w' => e = .returned (.bool true) ∧ Below W1.heap.size W1 w') := Lib.hid ex_c
 have HNA := Lib.hid (na.below HB1.out)
 have HXL := Lib.hid (And.intro hx (And.intro hy (And.intro hz hl)))
 have HW1 := Lib.hid hW1
 clear hW1 na hx hy hz hl
 go_enter Try.func8, Try.ntmps8
 go_wp2_with fail
 rw [← HW1.out]
 with_reducible refine HEX.out.mono ?_
 rintro e w2 ⟨rfl, hb2⟩
 have HX2 := Lib.hid (HX.out.below hb2)
 have HB12 : Hid (Below W1.heap.size W1 w2) := Lib.hid hb2
 have HB2 : Hid (Below W.heap.size W w2) := Lib.hid (HB1.out.trans (hb2.mono HB1.out.size))
 have HMC : Hid (Calls Try.prog 17 #[.agg #[.int .u8 (x : Nat), .int .u8 (y : Nat), .int .u8 (z : Nat), .slice aa l cl]] w2 (MC w2)) := Lib.hid (made_c HXL.out.1 HXL.out.2.1 HXL.out.2.2.1 HXL.out.2.2.2 (HNA.out.below hb2))
 have c0 := HX2.out.cell (i := 0) rfl
 have c1 := HX2.out.cell (i := 1) rfl
 have c2 := HX2.out.cell (i := 2) rfl
 have c3 := HX2.out.cell (i := 3) rfl
 clear hb2 HEX
 go_wp2_with fail
 with_reducible refine HMC.out.mono ?_
 rintro e w3 ⟨F, n, m, G, L, a, ca, rfl, hvc, hn10, hqm, hmm, hb3⟩
 obtain ⟨w4, hw4⟩ : ∃ w, w = w3.alloc (.cells #[.int .i64 (F.q : Nat), .int .i64 (n : Nat), .slice a m ca] 32) := ⟨_, rfl⟩
 obtain ⟨x4, hx4⟩ : ∃ x, x = w3.heap.size := ⟨_, rfl⟩
 have HA4 : Hid (Below w3.heap.size w3 w4) := Lib.hid (by rw [hw4]; exact (Below.refl _ _).alloc (Nat.le_refl _) _)
 have HC4 : Hid (BC x4 [.int .i64 (F.q : Nat), .int .i64 (n : Nat), .slice a m ca] 32 w4) := Lib.hid (by rw [hw4, hx4]; exact BC.new w3 [.int .i64 (F.q : Nat), .int .i64 (n : Nat), .slice a m ca] 32 rfl)
 have HB24 : Hid (Below w2.heap.size w2 w4) := Lib.hid (hb3.trans (HA4.out.mono hb3.size))
 have HB4 : Hid (Below W.heap.size W w4) := Lib.hid (HB2.out.trans (HB24.out.mono HB2.out.size))
 have HB14 : Hid (Below W1.heap.size W1 w4) := Lib.hid (HB12.out.trans (HB24.out.mono HB12.out.size))
 have HVC := Lib.hid hvc
 have HM4 := Lib.hid (hmm.below HA4.out)
 have hnb := hvc.gc.n2
 have hnb1 := hvc.gc.n1
 have HQM := Lib.hid hqm
 have hm8 : m ≤ 8 := hvc.m8 hqm
 have HFF : Hid (Ok F) := Lib.hid hvc.ok
 have HGN := Lib.hid hvc.gc.mn
 have HGL := Lib.hid hvc.gc.len
 have hq2 := hvc.q2
 have hq16 := hvc.gc.q
 obtain ⟨q, hq⟩ : ∃ q, Hid (F.q = q) := ⟨_, Lib.hid rfl⟩
 rw [hq.out] at HC4 hw4 hq2 hq16 ⊢
 have HOV : Hid (∀ w', Calls Try.prog 38 #[.int .i64 (q : Nat)] w' fun e w'' => ∃ b cap, e = .returned (FV F b cap) ∧ FldAt F b cap w'' ∧ Below w'.heap.size w' w'' ∧ w'.heap.size ≤ b) := Lib.hid fun w' => by rw [← hq.out]; exact rover_c HVC.out.gc.mem
 obtain ⟨LW, hLW⟩ : ∃ l, Hid (wdK F n G m = l) := ⟨_, Lib.hid rfl⟩
 have HLW := hLW
 obtain ⟨nw, hnw⟩ : ∃ k, Hid (LW.length = k) := ⟨_, Lib.hid rfl⟩
 have HNW := hnw
 have HWN : Hid (Mn F n LW) := Lib.hid (by rw [← hLW.out]; exact wdK_mn HFF.out m)
 have hnw1 : 1 ≤ nw ∧ nw ≤ 256 := by
  have h := wdK_len F n G m
  rw [hLW.out, hnw.out] at h
  have h2 := HQM.out
  have h3 : 1 ≤ F.q ^ m := Nat.one_le_pow _ _ (by rw [hq.out]; omega)
  omega
 have HMEM : Hid (∀ k, k < nw → LW.getD k [] ∈ wdK F n G m) := Lib.hid fun k hk => by
  have hk' : k < LW.length := by rw [hnw.out]; exact hk
  rw [hLW.out]; exact getD_mem hk'
 have hnz : ¬ nw = 0 := by omega
 have hnzi : ¬ (nw : Int) = 0 := by omega
 have hnzb : ((nw : Int) == 0) = false := by simp; omega
 have HWD : Hid (∀ w', Below w4.heap.size w4 w' → Calls Try.prog 33 #[DV q n (.slice a m ca)] w' fun e w'' => ∃ us a c, e = .returned (.slice a nw c) ∧ OL LW us w'.heap.size w'' (.slice a nw c) ∧ Below w'.heap.size w' w'') := Lib.hid fun w' hb => by
  have h := lwords_c HVC.out (HVC.out.few HQM.out) (Nat.le_trans HQM.out (by omega)) (HM4.out.below hb)
  rw [hLW.out, hnw.out, hq.out] at h; exact h
 obtain ⟨C, hCC⟩ : ∃ l, Hid (cwL n LW = l) := ⟨_, Lib.hid rfl⟩
 have HLC : Hid (cwL n (wdK F n G m) = C) := Lib.hid (by rw [hLW.out]; exact hCC.out)
 have HLW2 : Hid (wdK F n G m = LW) := HLW
 have HCL : Hid (C.length = n + 1) := Lib.hid (by rw [← hCC.out]; exact cwL_len _ _)
 have HCS : Hid (C.sum = nw) := Lib.hid (by rw [← HLC.out, HVC.out.cwSum, hLW.out, hnw.out])
 have HC0 : Hid (C.getD 0 0 = 1) := Lib.hid (by rw [← HLC.out]; exact HVC.out.cw0)
 have HCB : Hid (∀ t, t < n + 1 → C.getD t 0 ≤ 256) := Lib.hid fun t ht => by
  have h := cwL_le (n := n) LW ht
  rw [hCC.out, hnw.out] at h; omega
 obtain ⟨nn, hnn⟩ : ∃ k, k = n + 1 := ⟨_, rfl⟩
 have hnnw : IntKind.i64.wrap ((n : Int) + 1) = (nn : Int) := (Go.IntWalk.i64_in _ (by omega)).trans (by omega)
 have HNN := Lib.hid hnn
 have hnn0 : 0 < nn := by omega
 have hnn0i : (0 : Int) < (nn : Int) := by omega
 have hiw : IntKind.i64.wrap (iu : Int) = (iu : Int) := w64 (by omega)
 obtain ⟨ix, hixe⟩ : ∃ k, Hid (iu % nw = k) := ⟨_, Lib.hid rfl⟩
 have hix : ix < nw := by rw [← hixe.out]; exact Nat.mod_lt _ (by omega)
 have hixt : (iu : Int).tmod (nw : Int) = (ix : Int) := by rw [← hixe.out]; exact (Int.ofNat_tmod iu nw).symm
 have HWT : Hid (∀ w', Below w4.heap.size w4 w' → Calls Try.prog 28 #[DV q n (.slice a m ca)] w' fun e w'' => ∃ g, e = .returned (.tuple #[.slice (some ⟨g, 0, none⟩) nn nn, .int .i64 0]) ∧ Row C g w'' ∧ Below w'.heap.size w' w'') := Lib.hid fun w' hb => by
  have h := weights_c HVC.out (HVC.out.few HQM.out) (Nat.le_trans HQM.out (by omega)) (HM4.out.below hb)
  rw [hLW.out, hCC.out, hq.out, ← hnn] at h
  exact h.mono fun e w'' ⟨g, _, h1, h2, h3⟩ => ⟨g, h1, h2, h3⟩
 have HDI : Hid (∀ w', Below w4.heap.size w4 w' → Calls Try.prog 45 #[DV q n (.slice a m ca)] w' fun e w'' => ∃ d x, DsP n C d x ∧ e = .returned (.int .i64 (if x = 0 then (d : Int) else -1)) ∧ Below w'.heap.size w' w'') := Lib.hid fun w' hb => by
  have h := ldist_c HVC.out (HVC.out.few HQM.out) (Nat.le_trans HQM.out (by omega)) (HM4.out.below hb)
  rw [hLW.out, hCC.out, hq.out] at h; exact h
 have HW4 := Lib.hid hw4
 have HX4 := Lib.hid hx4
 have HW4D := Lib.hid (HWD.out w4 (Below.refl _ _))
 clear c0 c1 c2 c3
 have c0 := HC4.out.cell (i := 0) rfl
 have c1 := HC4.out.cell (i := 1) rfl
 have c2 := HC4.out.cell (i := 2) rfl
 rw [hx4] at c0 c1 c2
 rw [hw4] at c0 c1 c2
 clear hw4 hx4 hvc hmm hb3 HMC hqm hn10 hnn hCC
 go_wp2_with fail
 rw [← HW4.out]
 try rw [← HX4.out]
 with_reducible refine HW4D.out.mono ?_
 rintro e5 w5 ⟨us, aw, cw, rfl, hol, hb5⟩
 have HOL := Lib.hid hol.mm
 have HB45 := Lib.hid hb5
 have HWT5 := Lib.hid (HWT.out w5 hb5)
 clear c0 c1 c2 hol hb5 HW4D
 have hbc := HC4.out.below HB45.out
 have c0 := hbc.cell (i := 0) rfl
 have c1 := hbc.cell (i := 1) rfl
 have c2 := hbc.cell (i := 2) rfl
 clear hbc
 go_wp2_with fail
 try rw [← HX4.out]
 with_reducible refine HWT5.out.mono ?_
 rintro e6 w6 ⟨g, rfl, hr, hb6⟩
 have HR6 := Lib.hid hr
 have HB56 := Lib.hid hb6
 have HB46 : Hid (Below w4.heap.size w4 w6) := Lib.hid (HB45.out.trans (hb6.mono HB45.out.size))
 have HOL6 := Lib.hid (HOL.out.below hb6)
 clear c0 c1 c2 hr hb6 HWT5
 have hbc := HC4.out.below HB46.out
 have c0 := hbc.cell (i := 0) rfl
 have c1 := hbc.cell (i := 1) rfl
 have c2 := hbc.cell (i := 2) rfl
 clear hbc
 have hr0 := HR6.out.cell (t := 0) (by rw [HCL.out]; omega)
 rw [HC0.out] at hr0
 go_wp2
 go_loopw [10, 11] (fun s i wr => ∃ k t : Nat, k ≤ nn ∧ t ≤ nw ∧ s = .int .i64 (t : Nat) ∧ i = .int .i64 (k : Nat) ∧ Hid ((C.take k).sum = t) ∧ wr = w6) (fun _ i _ => nn - (intOf i).toNat)
 case atStart => exact ⟨0, 0, Nat.zero_le _, Nat.zero_le _, rfl, rfl, Lib.hid rfl, rfl⟩
 case round =>
  obtain ⟨k, t, hk, ht, rfl, rfl, KT, rfl⟩ := hrel
  have hnn2 := HNN.out
  by_cases hlt : k < nn
  ·have hlti : (k : Int) ≤ (n : Int) := by omega
   obtain ⟨ck, hck⟩ : ∃ x, Hid (C.getD k 0 = x) := ⟨_, Lib.hid rfl⟩
   have hckb : ck ≤ 256 := by rw [← hck.out]; exact HCB.out k (by omega)
   have hrk := HR6.out.cell (t := k) (by rw [HCL.out]; omega)
   rw [hck.out] at hrk
   have HS : Hid ((C.take (k + 1)).sum = t + ck) := Lib.hid (by rw [take_sum (by rw [HCL.out]; omega), KT.out, hck.out])
   have hle : t + ck ≤ nw := by rw [← HS.out, ← HCS.out]; exact take_sum_le _ _
   clear hnn2
   go_wp2
   go_roundw
   case rel => exact ⟨k + 1, t + ck, by omega, hle, by go_num, by go_num, HS, trivial⟩
   case measure => simp [intOf]; omega
  ·have hlti : ¬ (k : Int) ≤ (n : Int) := by omega
   have hke : k = n + 1 := by omega
   have htn : nw = t := by have h := KT.out; rw [hke, ← HCL.out, List.take_length, HCS.out] at h; exact h
   subst htn
   have HDI6 := Lib.hid (HDI.out wr HB46.out)
   clear hnn2 hke
   go_wp2_with fail
   try rw [← HX4.out]
   with_reducible refine HDI6.out.mono ?_
   rintro e7 v ⟨d, xx, hds, rfl, hb7⟩
   have HB4v : Hid (Below w4.heap.size w4 v) := Lib.hid (HB46.out.trans (hb7.mono HB46.out.size))
   have HBV : Hid (Below W.heap.size W v) := Lib.hid (HB4.out.trans (HB4v.out.mono HB4.out.size))
   have HMW := Lib.hid (HOL6.out.below hb7)
   have HRC := Lib.hid (HR6.out.below hb7)
   obtain ⟨bw, ow, haw, aA, cA, hcA, hnA⟩ := HMW.out.at' (fun t ht => (mrow HWN.out ht).len) hix
   subst haw
   obtain ⟨A, hA⟩ : ∃ A, Hid (LW.getD ix [] = A) := ⟨_, Lib.hid rfl⟩
   rw [hA.out] at hnA
   have HNA := Lib.hid hnA
   have HAM : Hid (A ∈ wdK F n G m) := Lib.hid (by rw [← hA.out]; exact HMEM.out ix hix)
   clear c0 c1 c2 hr0 hb7 hnA HDI6
   rcases hds with ⟨hd1, hd2, hd3, hd4, rfl⟩ | ⟨rfl, hd4, rfl⟩
   ·obtain ⟨cd, hcde⟩ : ∃ x, Hid (C.getD d 0 = x) := ⟨_, Lib.hid rfl⟩
    have HCD := hcde
    have hcd0 : ¬ cd = 0 := by rw [← hcde.out]; exact hd3
    have hcdb : cd ≤ 256 := by rw [← hcde.out]; exact HCB.out d (by omega)
    have HDZ := Lib.hid hd4
    have hn1 : ¬ nw = 1 := by
     have h := HVC.out.dsSome hd1 hd2 (by rw [HLC.out]; exact hd3)
     rw [HLW.out, HNW.out] at h; exact h
    have hn1i : ¬ (nw : Int) = 1 := by omega
    have hn1b : ((nw : Int) == 1) = false := by simp; omega
    have hdm1 : ¬ (d : Int) = -1 := by omega
    have hdmb : ((d : Int) == -1) = false := by simp
    clear hd3 hd4 hcde
    rw [if_pos rfl]
    go_wp2
    go_loopw [14, 15] (fun s i wr => ∃ (k t : Nat), k ≤ nw ∧ t ≤ k ∧ s = .int .i64 (t : Nat) ∧ i = .int .i64 (k : Nat) ∧ Hid ((LW.take k).countP (fun x => apK A x n == d) = t) ∧ Hid (Below v.heap.size v wr)) (fun _ i _ => nw - (intOf i).toNat)
    case atStart => exact ⟨0, 0, Nat.zero_le _, Nat.le_refl _, rfl, rfl, Lib.hid rfl, Lib.hid (Below.refl _ _)⟩
    case round =>
     obtain ⟨k, t, hk, ht, rfl, rfl, KT, KB⟩ := hrel
     have KB2 := Lib.hid KB.out
     have HBF : Hid (Below W.heap.size W wr) := Lib.hid (HBV.out.trans (KB.out.mono HBV.out.size))
     by_cases hlt : k < nw
     ·have hlti : (k : Int) < (nw : Int) := by omega
      obtain ⟨b7, o7, hab7, a7, p7, hc7, hn7⟩ := (HMW.out.below KB.out).at' (fun t ht => (mrow HWN.out ht).len) hlt
      injection hab7 with hab7
      injection hab7 with hb7e ho7e _
      subst hb7e
      subst ho7e
      obtain ⟨ap, hap⟩ : ∃ t, Hid (apK A (LW.getD k []) n = t) := ⟨_, Lib.hid rfl⟩
      have hapn : ap ≤ n := by rw [← hap.out]; exact apK_le _ _ _
      have HAP : Hid (Calls Try.prog 46 #[.slice aA n cA, .slice a7 n p7] wr fun e w'' => e = .returned (.int .i64 (ap : Nat)) ∧ Below wr.heap.size wr w'') := Lib.hid (by
       have h := rapart_c (V := A) (X := LW.getD k []) (by omega) (HNA.out.below KB.out) hn7
       rw [hap.out] at h; exact h)
      have HMN : Hid (ap ≠ 0 → d ≤ ap) := Lib.hid fun e => by
       rw [← hap.out] at e ⊢
       exact HVC.out.dsMin HAM.out (HMEM.out k hlt) (by rw [HLC.out]; exact HDZ.out) e
      have HST : Hid ((LW.take (k + 1)).countP (fun x => apK A x n == d) = t + if ap = d then 1 else 0) := Lib.hid (by
       rw [take_cnt (d := []) (by rw [HNW.out]; exact hlt), KT.out, hap.out]
       by_cases e : ap = d
       ·rw [if_pos e, if_pos (by simpa using e)]
       ·rw [if_neg e, if_neg (by simpa using e)])
      clear hn7
      go_wp2_with fail
      with_reducible refine HAP.out.mono ?_
      rintro e8 w8 ⟨rfl, hb8⟩
      have HB8 : Hid (Below v.heap.size v w8) := Lib.hid (KB2.out.trans (hb8.mono KB2.out.size))
      clear hb8 HAP hc7
      by_cases h0 : ap = 0
      ·have h0i : ¬ (0 : Int) < (ap : Int) := by omega
       have hne : ¬ ap = d := by omega
       have hnei : ¬ (ap : Int) = (d : Int) := by omega
       have hnb : ((ap : Int) == (d : Int)) = false := by simp; omega
       have HS : Hid ((LW.take (k + 1)).countP (fun x => apK A x n == d) = t) := Lib.hid (by have := HST.out; rw [if_neg hne] at this; exact this)
       go_wp2
       go_roundw
       case rel => exact ⟨k + 1, t, by omega, by omega, rfl, by go_num, HS, HB8⟩
       case measure => simp [intOf]; omega
      ·have h0i : (0 : Int) < (ap : Int) := by omega
       have hge := HMN.out h0
       have hgi : ¬ (ap : Int) < (d : Int) := by omega
       by_cases hed : ap = d
       ·have hei : (ap : Int) = (d : Int) := by omega
        have heb : ((ap : Int) == (d : Int)) = true := by simp; omega
        have HS : Hid ((LW.take (k + 1)).countP (fun x => apK A x n == d) = t + 1) := Lib.hid (by have := HST.out; rw [if_pos hed] at this; exact this)
        go_wp2
        go_roundw
        case rel => exact ⟨k + 1, t + 1, by omega, by omega, by go_num, by go_num, HS, HB8⟩
        case measure => simp [intOf]; omega
       ·have hei : ¬ (ap : Int) = (d : Int) := by omega
        have heb : ((ap : Int) == (d : Int)) = false := by simp; omega
        have HS : Hid ((LW.take (k + 1)).countP (fun x => apK A x n == d) = t) := Lib.hid (by have := HST.out; rw [if_neg hed] at this; exact this)
        go_wp2
        go_roundw
        case rel => exact ⟨k + 1, t, by omega, by omega, rfl, by go_num, HS, HB8⟩
        case measure => simp [intOf]; omega
     ·have hke : k = nw := by omega
      have hlti : ¬ (k : Int) < (nw : Int) := by omega
      have HTD : Hid (t = cd) := Lib.hid (by
       have h1 := KT.out
       rw [hke, ← HNW.out, List.take_length] at h1
       rw [← h1, ← HCD.out, ← HLC.out, ← HLW.out, cwL_get _ (by omega)]
       exact HVC.out.near HAM.out d)
      have htd : t = cd := HTD.out
      subst htd
      have hdm1 : ¬ (d : Int) = -1 := by omega
      have hdmb : ((d : Int) == -1) = false := by simp
      have htp : (0 : Int) < (t : Int) := by omega
      have hcd := (HRC.out.below KB2.out).cell (t := d) (by rw [HCL.out]; omega)
      rw [HCD.out] at hcd
      go_wp2
      go_ret
      exact ⟨rfl, HBF.out⟩
   ·have hn1 : nw = 1 := by
     have h := HVC.out.dsNone (by rw [HLC.out]; exact hd4)
     rw [HLW.out, HNW.out] at h; exact h
    have hn1i : (nw : Int) = 1 := by omega
    have hn1b : ((nw : Int) == 1) = true := by simp; omega
    clear hd4
    rw [if_neg (by decide)]
    have hix0 : ix = 0 := by omega
    subst hix0
    rw [Nat.add_zero] at hcA
    go_wp2
    have HN1 := Lib.hid hn1
    clear hn1 hn1i hn1b hnw1 hnz hnzi hnzb hixt
    go_loopw [14, 15] (fun s i wr => ∃ (k : Nat), k ≤ nw ∧ s = .int .i64 0 ∧ i = .int .i64 (k : Nat) ∧ Hid (Below v.heap.size v wr)) (fun _ i _ => nw - (intOf i).toNat)
    case atStart => exact ⟨0, Nat.zero_le _, rfl, rfl, Lib.hid (Below.refl _ _)⟩
    case round =>
     obtain ⟨k, hk, rfl, rfl, KB⟩ := hrel
     have KB2 := Lib.hid KB.out
     have HBF : Hid (Below W.heap.size W wr) := Lib.hid (HBV.out.trans (KB.out.mono HBV.out.size))
     by_cases hlt : k < nw
     ·have hlti : (k : Int) < 1 := by have := HN1.out; omega
      obtain ⟨b7, o7, hab7, a7, p7, hc7, hn7⟩ := (HMW.out.below KB.out).at' (fun t ht => (mrow HWN.out ht).len) hlt
      injection hab7 with hab7
      injection hab7 with hb7e ho7e _
      subst hb7e
      subst ho7e
      obtain ⟨ap, hap⟩ : ∃ t, Hid (apK A (LW.getD k []) n = t) := ⟨_, Lib.hid rfl⟩
      have hapn : ap ≤ n := by rw [← hap.out]; exact apK_le _ _ _
      have HAP : Hid (Calls Try.prog 46 #[.slice aA n cA, .slice a7 n p7] wr fun e w'' => e = .returned (.int .i64 (ap : Nat)) ∧ Below wr.heap.size wr w'') := Lib.hid (by
       have h := rapart_c (V := A) (X := LW.getD k []) (by omega) (HNA.out.below KB.out) hn7
       rw [hap.out] at h; exact h)
      clear hn7
      go_wp2_with fail
      with_reducible refine HAP.out.mono ?_
      rintro e8 w8 ⟨rfl, hb8⟩
      have HB8 : Hid (Below v.heap.size v w8) := Lib.hid (KB2.out.trans (hb8.mono KB2.out.size))
      clear hb8 HAP hc7
      by_cases h0 : ap = 0
      ·subst h0
       go_wp2
       go_roundw
       case rel => exact ⟨k + 1, by omega, rfl, by go_num, HB8⟩
       case measure => simp [intOf]; omega
      ·have h0i : (0 : Int) < (ap : Int) := by omega
       have hgi : ¬ (ap : Int) < -1 := by omega
       have hei : ¬ (ap : Int) = -1 := by omega
       have heb : ((ap : Int) == -1) = false := by simp
       go_wp2
       go_roundw
       case rel => exact ⟨k + 1, by omega, rfl, by go_num, HB8⟩
       case measure => simp [intOf]; omega
     ·have hlti : ¬ (k : Int) < 1 := by have := HN1.out; omega
      have hk1 : ¬ k < 1 := by have := HN1.out; omega
      have hk0 : ¬ k = 0 := by omega
      go_wp2
      go_ret
      exact ⟨rfl, HBF.out⟩

end Go.Proofs.Ytdafhhojiioifaa
