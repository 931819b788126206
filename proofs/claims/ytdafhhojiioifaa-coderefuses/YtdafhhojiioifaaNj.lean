/- Add, Sub, Neg, Mul as a field's. -/
import Derived.Test.YtdafhhojiioifaaNh1
import Derived.Test.YtdafhhojiioifaaNh2
import Derived.Test.YtdafhhojiioifaaNh3
import Derived.Test.YtdafhhojiioifaaEvY2
namespace Go.Proofs.Ytdafhhojiioifaa
open Go.RowKit Go.Fl Go.Shelf
set_option maxRecDepth 100000
set_option linter.unusedVariables false
set_option linter.unusedSimpArgs false
set_option linter.unusedSectionVars false
section
variable {F : Gf} {b cap : Nat} {W : World}
theorem ck2 {k : Gf → Bool} (hk : fds.all k = true) (hF : F ∈ fds) : k F = true := List.all_eq_true.1 hk F hF
theorem add_e (hF : F ∈ fds) (hp : 0 < F.p) {a c : Nat} (ha : a < F.q) (hc : c < F.q) : addT hp 1 a c = F.add a c := Nat.eq_of_beq_eq_true (allLt_ok (allLt_ok (kP_ok (ck2 kAdd_k hF) hp) a ha) c hc)
theorem sub_e (hF : F ∈ fds) (hp : 0 < F.p) {a c : Nat} (ha : a < F.q) (hc : c < F.q) : addT hp (F.p - 1) a c = F.sub a c := Nat.eq_of_beq_eq_true (allLt_ok (allLt_ok (kP_ok (ck2 kSub_k hF) hp) a ha) c hc)
theorem neg_e (hF : F ∈ fds) (hp : 0 < F.p) {a : Nat} (ha : a < F.q) : addT hp (F.p - 1) 0 a = F.neg a := Nat.eq_of_beq_eq_true (allLt_ok (kP_ok (ck2 kNeg_k hF) hp) a ha)
theorem mul_e (hF : F ∈ fds) (hp : 0 < F.p) {a c : Nat} (ha : a < F.q) (hc : c < F.q) : mulT F hp a c = F.mul a c := Nat.eq_of_beq_eq_true (allLt_ok (allLt_ok (kP_ok (ck2 kMul_k hF) hp) a ha) c hc)
theorem pow_sq (h : Ok F) {a : Nat} (ha : a ≠ 0) (k : Nat) : F.pow (F.mul a a) k = F.pow a (2 * k) := by
 rw [Ok.pow_nz (h.mul_ne ha ha), Ok.pow_nz ha, h.log_mul ha ha, ← Nat.two_mul]
 congr 1
 rw [Nat.mul_mod, Nat.mod_mod, ← Nat.mul_mod, Nat.mul_comm 2 (F.log a), Nat.mul_assoc]
theorem fmul_c {a c : Nat} (ha : a < F.q) (hc : c < F.q) (h : FldAt F b cap W) : Calls Try.prog 82 #[FV F b cap, .int .i64 a, .int .i64 c] W fun e w' => e = .returned (.int .i64 (F.mul a c : Nat)) ∧ Below W.heap.size W w' := by
 obtain ⟨h1, h2, h3, h4, h5, h6, h7⟩ := fd_small F h.mem
 have hp : 0 < F.p := by omega
 rw [← mul_e h.mem hp ha hc]
 exact mul_c (by omega) (by omega) h hp
theorem fadd_c {a c : Nat} (ha : a < F.q) (hc : c < F.q) (h : FldAt F b cap W) : Calls Try.prog 81 #[FV F b cap, .int .i64 a, .int .i64 c] W fun e w' => e = .returned (.int .i64 (F.add a c : Nat)) ∧ Below W.heap.size W w' := by
 obtain ⟨h1, h2, h3, h4, h5, h6, h7⟩ := fd_small F h.mem
 have hp : 0 < F.p := by omega
 rw [← add_e h.mem hp ha hc]
 obtain ⟨W0, hW0⟩ : ∃ W0, W.alloc (.cells #[.int .i64 F.p, .int .i64 F.e, FM F b cap] 53) = W0 := ⟨_, rfl⟩
 have hal : Below W.heap.size W W0 := by rw [← hW0]; exact (Below.refl _ _).alloc (Nat.le_refl _) _
 have HC : Hid (Calls Try.prog 98 #[FV F b cap, .int .i64 (a : Nat), .int .i64 (c : Nat), .int .i64 1] W0 fun e w' => e = .returned (.int .i64 (addT hp 1 a c : Nat)) ∧ Below W0.heap.size W0 w') := Lib.hid (addTimes_c (n := 1) (by omega) (by omega) (by decide) (h.below hal) hp)
 obtain ⟨f0, f1, f2⟩ : FB3 W.heap.size F b cap W0 := by rw [← hW0]; exact fb3_new W rfl
 have HB := Lib.hid hal
 clear hal h1 h2 h3 h4 h5 h6 h7
 go_enter Try.func81, Try.ntmps81
 go_wp2_with fail
 refine (HC.out).mono ?_
 rintro z w1 ⟨rfl, hb⟩
 have HB1 := Lib.hid (HB.out.trans (hb.mono HB.out.size))
 clear hb f0 f1 f2
 go_wp2
 go_ret
 exact ⟨rfl, HB1.out⟩
theorem fneg_c {a : Nat} (ha : a < F.q) (h : FldAt F b cap W) : Calls Try.prog 83 #[FV F b cap, .int .i64 a] W fun e w' => e = .returned (.int .i64 (F.neg a : Nat)) ∧ Below W.heap.size W w' := by
 obtain ⟨h1, h2, h3, h4, h5, h6, h7⟩ := fd_small F h.mem
 have hp : 0 < F.p := by omega
 rw [← neg_e h.mem hp ha]
 obtain ⟨W0, hW0⟩ : ∃ W0, W.alloc (.cells #[.int .i64 F.p, .int .i64 F.e, FM F b cap] 53) = W0 := ⟨_, rfl⟩
 have hal : Below W.heap.size W W0 := by rw [← hW0]; exact (Below.refl _ _).alloc (Nat.le_refl _) _
 obtain ⟨m, hm⟩ : ∃ m, F.p - 1 = m := ⟨_, rfl⟩
 have hmi : (F.p : Int) - 1 = (m : Int) := by omega
 rw [hm]
 have HC : Hid (Calls Try.prog 98 #[FV F b cap, .int .i64 0, .int .i64 (a : Nat), .int .i64 (m : Nat)] W0 fun e w' => e = .returned (.int .i64 (addT hp m 0 a : Nat)) ∧ Below W0.heap.size W0 w') := Lib.hid (addTimes_c (n := m) (x := 0) (y := a) (by omega) (by omega) (by omega) (h.below hal) hp)
 obtain ⟨f0, f1, f2⟩ : FB3 W.heap.size F b cap W0 := by rw [← hW0]; exact fb3_new W rfl
 have HB := Lib.hid hal
 clear hal h1 h3 h4 h5 h6 h7 hm
 go_enter Try.func83, Try.ntmps83
 go_wp2_with fail
 refine (HC.out).mono ?_
 rintro z w1 ⟨rfl, hb⟩
 have HB1 := Lib.hid (HB.out.trans (hb.mono HB.out.size))
 clear hb f0 f1 f2
 go_wp2
 go_ret
 exact ⟨rfl, HB1.out⟩
end
end Go.Proofs.Ytdafhhojiioifaa

/- Pow and Inv. -/
namespace Go.Proofs.Ytdafhhojiioifaa
open Go.RowKit Go.Fl Go.Shelf
set_option maxRecDepth 100000
set_option linter.unusedVariables false
set_option linter.unusedSimpArgs false
set_option linter.unusedSectionVars false
section
variable {F : Gf} {b cap : Nat} {W : World}
theorem pw_step {F : Gf} (h : Ok F) {pw a n r a0 : Nat} (ha : a ≠ 0) (haq : a < F.q) (hn : n % 2 = 1) (e : F.mul pw (F.pow a n) = F.pow a0 r) : F.mul (F.mul pw a) (F.pow (F.mul a a) (n / 2)) = F.pow a0 r := by
 rw [pow_sq h ha, h.mul_assoc, ← e]
 congr 1
 have h1 := h.pow_add ha 1 (2 * (n / 2))
 rw [h.pow_one ha haq] at h1
 rw [h1]
 congr 1
 omega
theorem pw_skip {F : Gf} (h : Ok F) {pw a n r a0 : Nat} (ha : a ≠ 0) (hn : n % 2 = 0) (e : F.mul pw (F.pow a n) = F.pow a0 r) : F.mul pw (F.pow (F.mul a a) (n / 2)) = F.pow a0 r := by
 rw [pow_sq h ha, ← e]
 congr 2
 omega
set_option maxHeartbeats 12800000 in
theorem pow_c {a : Nat} {z : Int} (ha : a < F.q) (hz : a ≠ 0) (hz1 : -1000000 ≤ z) (hz2 : z ≤ 1000000) (h : FldAt F b cap W) : Calls Try.prog 95 #[FV F b cap, .int .i64 (a : Nat), .int .i64 z] W fun e w' => e = .returned (.tuple #[.int .i64 (F.pow a (z % ((F.q - 1 : Nat) : Int)).toNat : Nat), .int .i64 0]) ∧ Below W.heap.size W w' := by
 obtain ⟨h1, h2, h3, h4, h5, h6, h7⟩ := fd_small F h.mem
 have hq2 : 2 ≤ F.q := by
  rw [← h5]
  exact Nat.le_trans h1 (Nat.le_self_pow (by omega) _)
 have HOK := Lib.hid (ok_mem h.mem)
 have HFA := Lib.hid h
 have hqz : ((F.q : Int) == 0) = false := by simp; omega
 have haz : ((a : Int) == 0) = false := by simp; omega
 obtain ⟨q, hq⟩ : ∃ q, F.q = q := ⟨_, rfl⟩
 obtain ⟨m, hm⟩ : ∃ m, q - 1 = m := ⟨_, rfl⟩
 have hmi : (q : Int) - 1 = (m : Int) := by omega
 obtain ⟨r, hr⟩ : ∃ r, (z % ((m : Nat) : Int)).toNat = r := ⟨_, rfl⟩
 have hm0 : 0 < m := by omega
 have hri : z % (m : Int) = (r : Int) := by
  have := Int.emod_nonneg z (show (m : Int) ≠ 0 by omega)
  omega
 have hrm : r < m := by
  have := Int.emod_lt_of_pos z (show (0 : Int) < (m : Int) by omega)
  omega
 have hmz : ((m : Int) == 0) = false := by simp; omega
 have htm : z.tmod (m : Int) = (r : Int) ∨ z.tmod (m : Int) = (r : Int) - (m : Int) ∧ 0 < m - r := by
  rw [Int.tmod_eq_emod, hri]
  split
  ·left; omega
  ·right; constructor <;> omega
 rw [hq] at ha hq2 h6 hqz
 rw [hq, hm, hr]
 have HAQ : Hid (a < F.q) := Lib.hid (by rw [hq]; exact ha)
 have HR : Hid (∃ t : Int, z.tmod (m : Int) = t ∧ ((t = (r : Int) ∧ ¬ t < 0) ∨ (t < 0 ∧ t + (m : Int) = (r : Int) ∧ -100 ≤ t))) := Lib.hid ⟨_, rfl, by
  rcases htm with e | ⟨e, e2⟩
  ·left; rw [e]; omega
  ·right; rw [e]; omega⟩
 obtain ⟨W0, hW0⟩ : ∃ W0, W.alloc (.cells #[.int .i64 F.p, .int .i64 F.e, FM F b cap] 53) = W0 := ⟨_, rfl⟩
 have HF0 : Hid (FB3 W.heap.size F b cap W0) := Lib.hid (by rw [← hW0]; exact fb3_new W rfl)
 have HB0 : Hid (Below W.heap.size W W0) := Lib.hid (by rw [← hW0]; exact (Below.refl _ _).alloc (Nat.le_refl _) _)
 have HQE := Lib.hid hq
 have hzz : IntKind.i64.wrap z = z := Go.IntWalk.i64_in _ (by omega)
 clear h h1 h2 h3 h4 h5 h7 hr hri htm hm
 obtain ⟨f0, f1, f2⟩ := HF0.out
 go_enter Try.func95, Try.ntmps95
 go_wp2_with fail
 clear hW0
 refine (size_c HFA.out.mem).mono ?_
 rintro x w1 ⟨rfl, hb⟩
 rw [HQE.out]
 have HF1 := Lib.hid (HF0.out.below hb)
 have HB1 := Lib.hid (HB0.out.trans (hb.mono HB0.out.size))
 clear hb HF0 HB0 f0 f1 f2
 obtain ⟨t, ht, hcase⟩ := HR.out
 have htb : -100 ≤ t ∧ t ≤ 100 := by omega
 have hwt : IntKind.i64.wrap t = t := Go.IntWalk.i64_in _ (by omega)
 have hmz2 : ¬ m = 0 := by omega
 have HLOOP : True := trivial
 rcases hcase with ⟨hc1, hc2⟩ | ⟨hc1, hc2, hc3⟩
 case' inl =>
  subst hc1
  go_wp2
 case' inr =>
  have hwr := w64 (n := r) (by omega)
  go_wp2
 all_goals
  go_loopw [9, 1, 2] (fun pw av nv wr => ∃ p a2 n : Nat, pw = .int .i64 (p : Nat) ∧ av = .int .i64 (a2 : Nat) ∧ nv = .int .i64 (n : Nat) ∧ n ≤ r ∧ Hid (p < F.q ∧ a2 < F.q ∧ a2 ≠ 0) ∧ Hid (F.mul p (F.pow a2 n) = F.pow a r) ∧ Hid (FB3 W.heap.size F b cap wr) ∧ Hid (Below W.heap.size W wr)) (fun _ _ nv _ => (intOf nv).toNat)
  case atStart =>
   exact ⟨1, a, r, rfl, rfl, by first | rfl | (refine congrArg _ ?_; omega), Nat.le_refl _, Lib.hid ⟨by rw [HQE.out]; omega, HAQ.out, hz⟩, Lib.hid (by rw [Ok.mul_comm, HOK.out.mul_one (HOK.out.pow_lt _ _)]), HF1, HB1⟩
  case round =>
   obtain ⟨p, a2, n, rfl, rfl, rfl, hnr, HPA, HE, HF, HB⟩ := hrel
   obtain ⟨f0, f1, f2⟩ := HF.out
   clear htb hwt
   by_cases hn : n = 0
   ·subst hn
    have HEE : Hid (p = F.pow a r) := Lib.hid (by rw [← HE.out, HOK.out.pow_zero HPA.out.2.2, HOK.out.mul_one HPA.out.1])
    go_wp2
    exact bodyPost_ret (v := .tuple #[.int .i64 (p : Nat), .int .i64 0]) (by simp [results, Try.results95, go_sem]) rfl ⟨by rw [HEE.out], HB.out⟩
   ·have hnp : (0 : Int) < (n : Int) := by omega
    obtain ⟨hh, hhe⟩ : ∃ k, n / 2 = k := ⟨_, rfl⟩
    have hh1 : (n : Int) / 2 = (hh : Int) := by omega
    have hh2 : (n : Int).tdiv 2 = (hh : Int) := by rw [Int.tdiv_eq_ediv_of_nonneg (by omega)]; exact hh1
    have hhl : hh < n := by omega
    by_cases ho : n % 2 = 1
    ·have ho1 : (n : Int) % 2 = 1 := by omega
     have ho2 : (n : Int).tmod 2 = 1 := by rw [Int.tmod_eq_emod_of_nonneg (by omega)]; exact ho1
     have HNX : Hid (F.mul (F.mul p a2) (F.pow (F.mul a2 a2) hh) = F.pow a r) := Lib.hid (by rw [← hhe]; exact pw_step HOK.out HPA.out.2.2 HPA.out.2.1 ho HE.out)
     clear ho hhe
     go_wp2_with fail
     refine (fmul_c HPA.out.1 HPA.out.2.1 (HFA.out.below HB.out)).mono ?_
     rintro x w2 ⟨rfl, hb⟩
     have HF2 := Lib.hid (HF.out.below hb)
     have HB2 := Lib.hid (HB.out.trans (hb.mono HB.out.size))
     clear hb f0 f1 f2
     obtain ⟨f0, f1, f2⟩ := HF2.out
     go_wp2_with fail
     refine (fmul_c HPA.out.2.1 HPA.out.2.1 (HFA.out.below HB2.out)).mono ?_
     rintro x w3 ⟨rfl, hb⟩
     have HF3 := Lib.hid (HF2.out.below hb)
     have HB3 := Lib.hid (HB2.out.trans (hb.mono HB2.out.size))
     clear hb f0 f1 f2
     go_wp2
     go_roundw
     case rel => exact ⟨F.mul p a2, F.mul a2 a2, hh, rfl, rfl, by go_num, by omega, Lib.hid ⟨HOK.out.mul_lt _ _, HOK.out.mul_lt _ _, HOK.out.mul_ne HPA.out.2.2 HPA.out.2.2⟩, HNX, HF3, HB3⟩
     case measure => (try simp [intOf]); (try omega)
    ·have ho1 : (n : Int) % 2 = 0 := by omega
     have ho2 : (n : Int).tmod 2 = 0 := by rw [Int.tmod_eq_emod_of_nonneg (by omega)]; exact ho1
     have HNX : Hid (F.mul p (F.pow (F.mul a2 a2) hh) = F.pow a r) := Lib.hid (by rw [← hhe]; exact pw_skip HOK.out HPA.out.2.2 (by omega) HE.out)
     clear ho hhe
     go_wp2_with fail
     refine (fmul_c HPA.out.2.1 HPA.out.2.1 (HFA.out.below HB.out)).mono ?_
     rintro x w3 ⟨rfl, hb⟩
     have HF3 := Lib.hid (HF.out.below hb)
     have HB3 := Lib.hid (HB.out.trans (hb.mono HB.out.size))
     clear hb f0 f1 f2
     go_wp2
     go_roundw
     case rel => exact ⟨p, F.mul a2 a2, hh, rfl, rfl, by go_num, by omega, Lib.hid ⟨HPA.out.1, HOK.out.mul_lt _ _, HOK.out.mul_ne HPA.out.2.2 HPA.out.2.2⟩, HNX, HF3, HB3⟩
     case measure => (try simp [intOf]); (try omega)
theorem neg1_mod {m : Nat} (hm : 0 < m) : ((-1 : Int) % (m : Int)).toNat = m - 1 := by
 have h1 : (-1 : Int) % (m : Int) = (m : Int) - 1 := by
  rw [Int.emod_def]
  have : (-1 : Int) / (m : Int) = -1 := by
   rw [Int.ediv_eq_iff_of_pos (by omega)]
   omega
  rw [this]; omega
 rw [h1]; omega
theorem finv_c {a : Nat} (ha : a < F.q) (hz : a ≠ 0) (h : FldAt F b cap W) : Calls Try.prog 75 #[FV F b cap, .int .i64 a] W fun e w' => e = .returned (.tuple #[.int .i64 (F.inv a : Nat), .int .i64 0]) ∧ Below W.heap.size W w' := by
 have ho := ok_mem h.mem
 have hq := ho.q2
 obtain ⟨W0, hW0⟩ : ∃ W0, W.alloc (.cells #[.int .i64 F.p, .int .i64 F.e, FM F b cap] 53) = W0 := ⟨_, rfl⟩
 have hal : Below W.heap.size W W0 := by rw [← hW0]; exact (Below.refl _ _).alloc (Nat.le_refl _) _
 have HC : Hid (Calls Try.prog 95 #[FV F b cap, .int .i64 (a : Nat), .int .i64 (-1)] W0 fun e w' => e = .returned (.tuple #[.int .i64 (F.inv a : Nat), .int .i64 0]) ∧ Below W0.heap.size W0 w') := Lib.hid (by
  have h1 := pow_c (z := -1) ha hz (by decide) (by decide) (h.below hal)
  rw [neg1_mod (by omega), show F.q - 1 - 1 = F.q - 2 by omega, ho.inv_pow hz ha] at h1
  exact h1)
 obtain ⟨f0, f1, f2⟩ : FB3 W.heap.size F b cap W0 := by rw [← hW0]; exact fb3_new W rfl
 have HB := Lib.hid hal
 clear hal ho hq
 go_enter Try.func75, Try.ntmps75
 go_wp2_with fail
 refine (HC.out).mono ?_
 rintro z w1 ⟨rfl, hb⟩
 have HB1 := Lib.hid (HB.out.trans (hb.mono HB.out.size))
 clear hb f0 f1 f2
 go_wp2
 exact bodyPost_ret (v := .tuple #[.int .i64 (F.inv a : Nat), .int .i64 0]) (by simp [results, Try.results75, go_sem]) rfl ⟨rfl, HB1.out⟩
end
end Go.Proofs.Ytdafhhojiioifaa
