/- modulus, Make, Valid. -/
import Derived.Test.YtdafhhojiioifaaNv
import Derived.Test.YtdafhhojiioifaaNn1
import Derived.Test.YtdafhhojiioifaaNn2
import Derived.Test.YtdafhhojiioifaaNn3
namespace Go.Proofs.Ytdafhhojiioifaa
open Go.RowKit Go.Fl
set_option maxRecDepth 100000
set_option linter.unusedVariables false
set_option linter.unusedSimpArgs false
set_option linter.unusedSectionVars false
/-- the first irreducible polynomial from the number n on -/
def pmN {p : Nat} (hp : 0 < p) (e : Nat) : Nat → Nat → Nat
 | 0, n => n
 | k + 1, n => bif pir hp e n then n else pmN hp e k (Nat.succ n)
theorem pmN_le {p : Nat} (hp : 0 < p) (e : Nat) : ∀ k n, n ≤ pmN hp e k n
 | 0, n => Nat.le_refl _
 | k + 1, n => by
  show n ≤ bif pir hp e n then n else pmN hp e k (n + 1)
  cases pir hp e n with
  | true => exact Nat.le_refl _
  | false => exact Nat.le_trans (Nat.le_succ n) (pmN_le hp e k (n + 1))
set_option maxHeartbeats 6400000 in
theorem modulus_c {p e q n : Nat} {L : List Nat} (hp0 : 0 < p) (hp6 : p ≤ 64) (he1 : 1 ≤ e) (he : e ≤ 6) (hpw : ∀ d, 2 * d ≤ e → p ^ d ≤ 1000) (hq : p ^ e = q) (hq6 : q ≤ 64) (hn : pmN hp0 e q q = n) (hn2 : n < 2 * q) (hL : (List.range e).map (expV hp0 n) = L) {W : World} :
  Calls Try.prog 94 #[.int .i64 (p : Nat), .int .i64 (e : Nat)] W (DPost L W) := by
 obtain ⟨i0, hi, hz0, hz1, hz2⟩ := info_parts info3
 have hpow : Hid (∀ k, k ≤ e → p ^ k ≤ 64) := Lib.hid fun k hk => Nat.le_trans (Nat.pow_le_pow_right hp0 hk) (by omega)
 have HQ := Lib.hid hq
 have HN := Lib.hid hn
 have HN2 := Lib.hid hn2
 have HL := Lib.hid hL
 have HLL : Hid (L.length = e) := Lib.hid (by rw [← hL]; simp)
 have HPI : Hid (∀ m w, m ≤ 1000 → Calls Try.prog 106 #[.int .i64 (p : Nat), .int .i64 (e : Nat), .int .i64 (m : Nat)] w fun r w' => r = .returned (.bool (pir hp0 e m)) ∧ Below w.heap.size w w') := Lib.hid fun m w hm => pirr_c hp0 hp6 he hm hpw
 clear hq hn hpw hL hn2
 go_enter Try.func94, Try.ntmps94
 go_wp2
 go_loopw [5, 9] (fun x i wr => ∃ k : Nat, k ≤ e ∧ x = .int .i64 (p ^ k : Nat) ∧ i = .int .i64 (k : Nat) ∧ wr = W) (fun _ i _ => e - (intOf i).toNat)
 case atStart => exact ⟨0, Nat.zero_le _, by simp, rfl, rfl⟩
 case round =>
  obtain ⟨k, hk, rfl, rfl, rfl⟩ := hrel
  by_cases hlt : k < e
  ·have hli : (k : Int) < (e : Int) := by omega
   obtain ⟨x, hx⟩ : ∃ x, p ^ k = x := ⟨_, rfl⟩
   obtain ⟨y, hy⟩ : ∃ y, x * p = y := ⟨_, rfl⟩
   have hyk : Hid (p ^ (k + 1) = y) := Lib.hid (by rw [Nat.pow_succ, hx, hy])
   have hy6 : y ≤ 64 := by rw [← hyk.out]; exact hpow.out _ (by omega)
   have hyi : (x : Int) * (p : Int) = (y : Int) := by rw [← hy]; exact (Int.natCast_mul _ _).symm
   have hwy := w64 (n := y) (by omega)
   rw [hx]
   clear hx hy
   go_wp2
   go_roundw
   case rel => exact ⟨k + 1, hlt, by rw [hyk.out], by go_num, trivial⟩
   case measure => (try simp [intOf]); (try omega)
  ·have hli : ¬ (k : Int) < (e : Int) := by omega
   obtain rfl : k = e := by omega
   rw [HQ.out]
   clear hk
   obtain ⟨Wo, rfl⟩ : ∃ w, w = wr := ⟨_, rfl⟩
   go_wp2
   go_loopw [6] (fun i wi => ∃ m j : Nat, m + j = 2 * q ∧ i = .int .i64 (m : Nat) ∧ Hid (pmN hp0 k j m = n) ∧ Hid (Below Wo.heap.size Wo wi)) (fun i _ => 2 * q - (intOf i).toNat)
   case atStart => exact ⟨q, q, by omega, rfl, HN, Lib.hid (Below.refl _ _)⟩
   case round =>
    obtain ⟨m, j, hmj, rfl, HM, JB⟩ := hrel
    obtain ⟨j', rfl⟩ : ∃ i, j = i + 1 := ⟨j - 1, by
     rcases Nat.eq_zero_or_pos j with h | h
     ·subst h
      have h8 : m = n := HM.out
      have h9 := HN2.out
      omega
     ·omega⟩
    have hm2 : (m : Int) < 2 * (q : Int) := by omega
    have hmb : m ≤ 1000 := by omega
    obtain ⟨C, hC⟩ : ∃ C, pir hp0 k m = C := ⟨_, rfl⟩
    have HPC : Hid (Calls Try.prog 106 #[.int .i64 (p : Nat), .int .i64 (k : Nat), .int .i64 (m : Nat)] wr fun r w' => r = .returned (.bool C) ∧ Below wr.heap.size wr w') := Lib.hid (by rw [← hC]; exact HPI.out m wr hmb)
    have HM2 : Hid ((bif C then m else pmN hp0 k j' (m + 1)) = n) := Lib.hid (by rw [← HM.out, ← hC]; rfl)
    clear hC
    go_wp2_with fail
    refine HPC.out.mono ?_
    rintro z w2 ⟨rfl, hb2⟩
    have HB2 := Lib.hid (JB.out.trans (hb2.mono JB.out.size))
    clear hb2
    cases C with
    | false =>
     have HM3 : Hid (pmN hp0 k j' (m + 1) = n) := Lib.hid HM2.out
     go_wp2
     go_roundw
     case rel => exact ⟨m + 1, j', by omega, by go_num, HM3, HB2⟩
     case measure => (try simp [intOf]); (try omega)
    | true =>
     have HE : Hid (m = n) := Lib.hid HM2.out
     obtain ⟨V, hV⟩ : ∃ V, expV hp0 m = V := ⟨_, rfl⟩
     have HVC : Hid (Calls Try.prog 99 #[.int .i64 (p : Nat), .int .i64 (m : Nat)] w2 fun r w' => r = .returned (AV V) ∧ Below w2.heap.size w2 w') := Lib.hid (by rw [← hV]; exact expand_c hp0 hp6 (by omega))
     have HVL : Hid ((List.range k).map V = L) := Lib.hid (by rw [← HL.out, ← HE.out, hV])
     clear hV
     go_wp2_with fail
     refine HVC.out.mono ?_
     rintro z w3 ⟨rfl, hb3⟩
     obtain ⟨B, hB⟩ : ∃ B, w3.heap.size = B := ⟨_, rfl⟩
     obtain ⟨w4, hw4⟩ : ∃ w4, w3.alloc (.cells #[.int .i64 (V 0 : Nat), .int .i64 (V 1 : Nat), .int .i64 (V 2 : Nat), .int .i64 (V 3 : Nat), .int .i64 (V 4 : Nat), .int .i64 (V 5 : Nat), .int .i64 (V 6 : Nat)] 114) = w4 := ⟨_, rfl⟩
     have HC4 : Hid (C7 V B w4) := Lib.hid (by rw [← hw4]; exact c7_put _ _ hB)
     have hal : Below w3.heap.size w3 w4 := by rw [← hw4]; exact (Below.refl _ _).alloc (Nat.le_refl _) _
     have HB4 := Lib.hid ((HB2.out.trans (hb3.mono HB2.out.size)).trans (hal.mono (Nat.le_trans HB2.out.size hb3.size)))
     have HCL : Hid (∀ (j : Nat) (u : Value), (L.map N64)[j]? = some u → w4.cell? ((⟨B, 0, none⟩ : Addr).add j) = some u) := Lib.hid (num_cellsK fun t ht => by
      rw [HLL.out] at ht
      rw [Nat.zero_add, HC4.out.cell t (by omega), ← HVL.out, List.getD_eq_getElem?_getD, List.getElem?_map, List.getElem?_range ht]; rfl)
     clear hb3 hal
     have hk7 : (k : Int) ≤ 7 := by omega
     have hk7n : k ≤ 7 := by omega
     go_wp2_with (at_builtin; refine wpList_append_own _ rfl _ _ 39 rfl Wo.heap.size 3 i0 (.int .i64 0) 1 8 Try.underlying39 hi hz0 hz1 hz2 rfl (by decide) (.slice none 0 0) 0 [] rfl (World.ownsRow_nil _ _ _ _) ⟨B, 0, none⟩ k 7 (L.map N64) rfl (by rw [List.length_map, HLL.out, Nat.mul_one]) HCL.out (fun u hu => by obtain ⟨y, _, rfl⟩ := List.mem_map.1 hu; rfl) ?c3 ?c4 ?c5 ?_)
     case c3 => unfold maxLen; omega
     case c4 => omega
     case c5 => exact HB4.out.size
     intro v' w5 hown' hgrow hnil
     have HO5 : Hid (w5.ownsRow Wo.heap.size 3 1 v' k (L.map N64)) := Lib.hid (by first | exact hown' | (have h := hown'; rwa [Nat.zero_add, List.nil_append] at h))
     have HB5 := Lib.hid (HB4.out.trans (below_own hgrow (fun j hj => by cases hj) HB4.out.size))
     obtain ⟨a5, c5, hv5⟩ := own_slice HO5.out
     subst hv5
     clear hown' hgrow hnil hw4 hB
     go_wp2
     go_ret
     exact ⟨a5, c5, by rw [HLL.out]; rfl, by rw [HLL.out]; exact HO5.out, HB5.out⟩
/-- what is asked of a field that the program makes -/
structure PkOk (F : Gf) (hp : 0 < F.p) (n : Nat) : Prop where
 lf : lfN F.q 64 2 = F.p
 dv : doF F.p 10 F.q 0 = (1, F.e)
 pw : ∀ d, 2 * d ≤ F.e → F.p ^ d ≤ 1000
 pm : pmN hp F.e F.q F.q = n
 lt : n < 2 * F.q
 ml : (List.range F.e).map (expV hp n) = F.mod
noncomputable def kPk (F : Gf) : Bool := kP F fun hp => (Nat.beq (lfN F.q 64 2) F.p && (Nat.beq (doF F.p 10 F.q 0).1 1 && (Nat.beq (doF F.p 10 F.q 0).2 F.e && (Nat.blt (pmN hp F.e F.q F.q) (2 * F.q) && (((List.range F.e).map (expV hp (pmN hp F.e F.q F.q))) == F.mod)))))
theorem kPk_k : fds.all kPk = true := by kernel_rfl
theorem pw_k : ∀ F ∈ fds, ∀ d, d < 7 → 2 * d ≤ F.e → F.p ^ d ≤ 1000 := by decide +kernel
theorem pkOk {F : Gf} (h : F ∈ fds) (hp : 0 < F.p) : ∃ n, PkOk F hp n := by
 have h1 := kP_ok (ck2 kPk_k h) hp
 simp only [Bool.and_eq_true] at h1
 obtain ⟨a1, a2, a3, a4, a5⟩ := h1
 have h4 := (fd_small F h).2.2.2.1
 refine ⟨_, Nat.eq_of_beq_eq_true a1, ?_, fun d hd => pw_k F h d (by omega) hd, rfl, Nat.le_of_ble_eq_true a4, eq_of_beq a5⟩
 have b1 := Nat.eq_of_beq_eq_true a2
 have b2 := Nat.eq_of_beq_eq_true a3
 exact Prod.ext b1 b2
end Go.Proofs.Ytdafhhojiioifaa

/- The program's Make; Valid, the program's and the reference's. -/
namespace Go.Proofs.Ytdafhhojiioifaa
open Go.RowKit Go.Fl
set_option maxRecDepth 100000
set_option linter.unusedVariables false
set_option linter.unusedSimpArgs false
set_option linter.unusedSectionVars false
set_option maxHeartbeats 12800000 in
theorem fmake_c {F : Gf} (hF : F ∈ fds) {W : World} : Calls Try.prog 74 #[.int .i64 (F.q : Nat)] W (FPost F W) := by
 obtain ⟨h1, hp6, h3, h4, h5, h6, h7⟩ := fd_small F hF
 have hp0 : 0 < F.p := by omega
 obtain ⟨n, hk⟩ := pkOk hF hp0
 have hq2 : 2 ≤ F.q := by
  rw [← h5]
  exact Nat.le_trans h1 (Nat.le_self_pow (by omega) _)
 have HLF : Hid (∀ w, Calls Try.prog 92 #[.int .i64 (F.q : Nat)] w fun e w' => e = .returned (.int .i64 (F.p : Nat)) ∧ w' = w) := Lib.hid fun w => leastF_c h6 hk.lf hp6
 have HDV : Hid (∀ w, Calls Try.prog 93 #[.int .i64 (F.q : Nat), .int .i64 (F.p : Nat)] w fun e w' => e = .returned (.tuple #[.int .i64 1, .int .i64 (F.e : Nat)]) ∧ w' = w) := Lib.hid fun w => divOut_c h6 h1 hp6 hk.dv h4
 have HMD : Hid (∀ w, Calls Try.prog 94 #[.int .i64 (F.p : Nat), .int .i64 (F.e : Nat)] w (DPost F.mod w)) := Lib.hid fun w => modulus_c hp0 hp6 h3 h4 hk.pw h5 h6 hk.pm hk.lt hk.ml
 have HML : Hid (F.mod.length = F.e) := Lib.hid (mod_len F hF)
 have HMF : Hid (F ∈ fds) := Lib.hid hF
 obtain ⟨p, hp⟩ : ∃ p, F.p = p := ⟨_, rfl⟩
 obtain ⟨e, he⟩ : ∃ e, F.e = e := ⟨_, rfl⟩
 obtain ⟨q, hq⟩ : ∃ q, F.q = q := ⟨_, rfl⟩
 have HFE : Hid (∀ b cap, FV F b cap = .agg #[.int .i64 (p : Nat), .int .i64 (e : Nat), .slice (some ⟨b, 0, none⟩) e cap]) := Lib.hid fun b cap => by rw [← hp, ← he]
 rw [hp] at HDV HMD HLF
 rw [he] at HDV HMD HML h3
 rw [hq] at HLF HDV h6 hq2 ⊢
 have q2 : ¬ (q : Int) < 2 := by omega
 have q6 : ¬ (64 : Int) < (q : Int) := by omega
 obtain ⟨W0, hW0⟩ : ∃ W0, W.alloc (.cells #[.int .i64 0, .int .i64 0, .slice none 0 0] 53) = W0 := ⟨_, rfl⟩
 have HZ0 : Hid (Z3 W.heap.size W0) := Lib.hid (by rw [← hW0]; exact z3_new W rfl)
 have HB0 : Hid (Below W.heap.size W W0) := Lib.hid (by rw [← hW0]; exact (Below.refl _ _).alloc (Nat.le_refl _) _)
 have HS0 : Hid (W0.heap.size = W.heap.size + 1) := Lib.hid (by rw [← hW0]; simp)
 have H3 := Lib.hid h3
 clear hF hk h1 h4 h5 h7 hp he hq
 go_enter Try.func74, Try.ntmps74
 go_wp2_with fail
 clear hW0
 refine (HLF.out _).mono ?_
 rintro z w1 ⟨rfl, rfl⟩
 go_wp2_with fail
 refine (HDV.out _).mono ?_
 rintro z w2 ⟨rfl, rfl⟩
 go_wp2_with fail
 refine (HMD.out _).mono ?_
 rintro z w3 ⟨a3, c3, rfl, ho3, hb3⟩
 rw [HML.out] at ho3 ⊢
 obtain ⟨g6, c6, hg, hgb, hR6⟩ := RC.of_own ho3 HML.out (by have := H3.out; omega)
 injection hg with hg1 _ hg3
 subst hg1 hg3
 have HZ3 : Hid (Z3 W.heap.size w3) := Lib.hid (HZ0.out.of (hb3.block _ (World.block_lt_of_cell? _ _ HZ0.out.c0)))
 have HB3 := Lib.hid (HB0.out.trans (hb3.mono HB0.out.size))
 have HKP := Lib.hid hR6
 have HG6 : Hid (W.heap.size < g6) := Lib.hid (by have := HS0.out; omega)
 clear ho3 hb3 hgb hR6
 obtain ⟨z0, z1, z2, zf⟩ := HZ3.out
 have u0 := zf 0
 have u1 := zf 1
 have u2 := zf 2
 clear zf
 have HFX : Hid (∀ w', w' = ((w3.setCell ⟨W.heap.size, 0, none⟩ (.int .i64 (p : Nat))).setCell ⟨W.heap.size, 1, none⟩ (.int .i64 (e : Nat))).setCell ⟨W.heap.size, 2, none⟩ (.slice (some ⟨g6, 0, none⟩) e c3) →
   w'.cell? ⟨W.heap.size, 0, none⟩ = some (.int .i64 (p : Nat)) ∧ w'.cell? ⟨W.heap.size, 1, none⟩ = some (.int .i64 (e : Nat)) ∧ w'.cell? ⟨W.heap.size, 2, none⟩ = some (.slice (some ⟨g6, 0, none⟩) e c3) ∧ FldAt F g6 c3 w' ∧ Below W.heap.size W w' ∧ W.heap.size ≤ g6) := Lib.hid (by
  intro w' hw
  have hb := Nat.le_refl W.heap.size
  have hB := setCell_above (i := 2) (v := .slice (some ⟨g6, 0, none⟩) e c3) (setCell_above (i := 1) (v := .int .i64 (e : Nat)) (setCell_above (i := 0) (v := .int .i64 (p : Nat)) HB3.out hb) hb) hb
  rw [← hw] at hB
  have hg6 := HG6.out
  have hblk : w'.heap[g6]? = w3.heap[g6]? := by
   rw [hw, Below.heap_setCell _ _ _ _ (by show g6 ≠ W.heap.size; omega), Below.heap_setCell _ _ _ _ (by show g6 ≠ W.heap.size; omega), Below.heap_setCell _ _ _ _ (by show g6 ≠ W.heap.size; omega)]
  refine ⟨?_, ?_, ?_, (FldAt.of_row HMF.out (HKP.out.of hblk)).2, hB, by omega⟩
  ·rw [hw, World.cell?_setCell_other _ _ _ _ (by simp), World.cell?_setCell_other _ _ _ _ (by simp)]; exact World.cell?_setCell_same _ _ _ z0
  ·rw [hw, World.cell?_setCell_other _ _ _ _ (by simp)]; exact World.cell?_setCell_same _ _ _ ((World.cell?_setCell_other _ _ _ _ (by simp)).trans z1)
  ·rw [hw]; exact World.cell?_setCell_same _ _ _ ((World.cell?_setCell_other _ _ _ _ (by simp)).trans ((World.cell?_setCell_other _ _ _ _ (by simp)).trans z2)))
 go_wp2
 obtain ⟨d0, d1, d2, hfa, hbw, hgw⟩ := HFX.out _ rfl
 exact bodyPost_ret (v := .tuple #[.agg #[.int .i64 (p : Nat), .int .i64 (e : Nat), .slice (some ⟨g6, 0, none⟩) e c3], .int .i64 0]) (by simp [results, Try.results74, go_sem, d0, d1, d2]) rfl ⟨g6, c3, by rw [HFE.out], hfa, hbw, hgw⟩
theorem mod_at {F : Gf} {b cap i : Nat} {w : World} (h : FldAt F b cap w) (hi : i < F.e) : ∃ x, F.mod.getD i 0 = x ∧ w.cell? ⟨b, i, none⟩ = some (.int .i64 (x : Nat)) := ⟨_, rfl, h.mod hi⟩
set_option maxHeartbeats 3200000 in
theorem rints_c {L : List Nat} {a b : Option Addr} {c d : Nat} {W : World} (hl : L.length ≤ 100000) (h1 : NN L W (.slice a L.length c)) (h2 : NN L W (.slice b L.length d)) :
  Calls Try.prog 25 #[.slice a L.length c, .slice b L.length d] W fun e w' => e = .returned (.bool true) ∧ Below W.heap.size W w' := by
 have H1 := Lib.hid h1
 have H2 := Lib.hid h2
 clear h1 h2
 go_enter Try.func25, Try.ntmps25
 go_wp2
 go_loopw [5] (fun i wr => ∃ k : Nat, k ≤ L.length ∧ i = .int .i64 (k : Nat) ∧ Hid (Below W.heap.size W wr)) (fun i _ => L.length - (intOf i).toNat)
 case atStart => exact ⟨0, Nat.zero_le _, rfl, Below.refl _ _⟩
 case round =>
  obtain ⟨k, hk, rfl, KB⟩ := hrel
  by_cases hlt : k < L.length
  ·obtain ⟨x, hx⟩ : ∃ x, L.getD k 0 = x := ⟨_, rfl⟩
   obtain ⟨b1, o1, rfl, hc1⟩ := (H1.out.below KB.out).at hlt
   obtain ⟨b2, o2, rfl, hc2⟩ := (H2.out.below KB.out).at hlt
   rw [hx] at hc1 hc2
   have hS0 : wr.drew.cell? ⟨b1, o1 + k, none⟩ = some (.int .i64 (x : Nat)) ∧ wr.drew.cell? ⟨b2, o2 + k, none⟩ = some (.int .i64 (x : Nat)) := ⟨hc1, hc2⟩
   have hk5 : k < 100000 := by omega
   have hlti : (k : Int) < (L.length : Int) := by omega
   have KB2 := Lib.hid KB.out.drew
   clear hx hc1 hc2
   go_wp2
   refine wp_region_held_drew (S := fun w' => w'.cell? ⟨b1, o1 + k, none⟩ = some (.int .i64 (x : Nat)) ∧ w'.cell? ⟨b2, o2 + k, none⟩ = some (.int .i64 (x : Nat))) (by kernel_rfl) (by with_reducible exact hS0) (fun hHeld => ?_)
   refine Rg.tk 0 ⟨some 17,.move (.tmp 0),39,"ref.go:148",#[],none⟩ ?_
   try simp only [Rg.gp]
   refine Rg.tk 1 ⟨some 18,.move (.tmp 5),3,"ref.go:148",#[],none⟩ ?_
   try simp only [Rg.gp]
   refine Rg.tk 2 ⟨some 19,.indexAddr 39 (.tmp 17) (.tmp 18),0,"ref.go:148",#[⟨0,.data⟩,⟨1,.data⟩],none⟩ ?_
   try simp only [Rg.gp]
   refine Rg.tk 3 ⟨some 20,.load 3 (.tmp 19),3,"ref.go:148",#[⟨2,.data⟩],none⟩ ?_
   try simp only [Rg.gp]
   refine Rg.tk 4 ⟨some 21,.move (.tmp 1),39,"ref.go:148",#[],none⟩ ?_
   try simp only [Rg.gp]
   refine Rg.tk 5 ⟨some 22,.move (.tmp 5),3,"ref.go:148",#[],none⟩ ?_
   try simp only [Rg.gp]
   refine Rg.tk 6 ⟨some 23,.indexAddr 39 (.tmp 21) (.tmp 22),0,"ref.go:148",#[⟨4,.data⟩,⟨5,.data⟩],none⟩ ?_
   try simp only [Rg.gp]
   refine Rg.tk 7 ⟨some 24,.load 3 (.tmp 23),3,"ref.go:148",#[⟨6,.data⟩],none⟩ ?_
   try simp only [Rg.gp]
   refine Rg.tk 8 ⟨some 25,.binOp BinOp.neq 3 (.tmp 20) (.tmp 24) 3,4,"ref.go:148",#[⟨3,.data⟩,⟨7,.data⟩],none⟩ ?_
   try simp only [Rg.gp]
   refine wpAnyH_done (by kernel_rfl) ?_ _
   clear hHeld hS0
   go_wp2
   go_roundw
   case rel => exact ⟨k + 1, by omega, by go_num, KB2⟩
   case measure => (try simp [intOf]); (try omega)
  ·have hlti : ¬ (k : Int) < (L.length : Int) := by omega
   go_wp2
   go_ret
   exact ⟨rfl, KB.out⟩
end Go.Proofs.Ytdafhhojiioifaa

/- The reference's Mul as a field's. -/
namespace Go.Proofs.Ytdafhhojiioifaa
open Go.RowKit Go.Fl
set_option maxRecDepth 100000
theorem fds_parts : fds = fds.take 17 ++ (fds.getD 17 ⟨2, 1, 2, 1, [0], 1, 0⟩ :: ((fds.drop 18).take 8 ++ [fds.getD 26 ⟨2, 1, 2, 1, [0], 1, 0⟩])) := by rfl
theorem rmul_e {F : Gf} (hF : F ∈ fds) {a b : Nat} (ha : a < F.q) (hb : b < F.q) : rmulT F a b = F.mul a b := by
 rw [fds_parts, List.mem_append, List.mem_cons, List.mem_append, List.mem_singleton] at hF
 rcases hF with h | h | h | h
 ·exact kRmR_ok (List.all_eq_true.1 kRm_a F h) (Nat.zero_le a) (by omega) hb
 ·subst h
  have ha : a < 32 := ha
  rcases (by omega : a < 8 ∨ (8 ≤ a ∧ a < 16) ∨ (16 ≤ a ∧ a < 24) ∨ (24 ≤ a ∧ a < 32)) with h | ⟨h, h2⟩ | ⟨h, h2⟩ | ⟨h, h2⟩
  ·exact kRmR_ok kRm_b0 (Nat.zero_le a) h hb
  ·exact kRmR_ok kRm_b1 h h2 hb
  ·exact kRmR_ok kRm_b2 h h2 hb
  ·exact kRmR_ok kRm_b3 h h2 hb
 ·exact kRmR_ok (List.all_eq_true.1 kRm_c F h) (Nat.zero_le a) (by omega) hb
 ·subst h
  have ha : a < 64 := ha
  rcases (by omega : a < 8 ∨ (8 ≤ a ∧ a < 16) ∨ (16 ≤ a ∧ a < 24) ∨ (24 ≤ a ∧ a < 32) ∨ (32 ≤ a ∧ a < 40) ∨ (40 ≤ a ∧ a < 48) ∨ (48 ≤ a ∧ a < 56) ∨ (56 ≤ a ∧ a < 64)) with h | ⟨h, h2⟩ | ⟨h, h2⟩ | ⟨h, h2⟩ | ⟨h, h2⟩ | ⟨h, h2⟩ | ⟨h, h2⟩ | ⟨h, h2⟩
  ·exact kRmR_ok kRm_d0 (Nat.zero_le a) h hb
  ·exact kRmR_ok kRm_d1 h h2 hb
  ·exact kRmR_ok kRm_d2 h h2 hb
  ·exact kRmR_ok kRm_d3 h h2 hb
  ·exact kRmR_ok kRm_d4 h h2 hb
  ·exact kRmR_ok kRm_d5 h h2 hb
  ·exact kRmR_ok kRm_d6 h h2 hb
  ·exact kRmR_ok kRm_d7 h h2 hb
theorem rmul_c {F : Gf} {b cap : Nat} {W : World} {a c : Nat} (ha : a < F.q) (hc : c < F.q) (h : FldAt F b cap W) : Calls Try.prog 72 #[FV F b cap, .int .i64 a, .int .i64 c] W fun e w' => e = .returned (.int .i64 (F.mul a c : Nat)) ∧ Below W.heap.size W w' := by
 rw [← rmul_e h.mem ha hc]
 exact rmul_w ha hc h
end Go.Proofs.Ytdafhhojiioifaa
