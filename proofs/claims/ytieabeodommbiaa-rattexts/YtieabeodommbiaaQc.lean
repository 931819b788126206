/- Contracts of the reference's fractions, walked: its leaves. -/
import Derived.Test.YtieabeodommbiaaQe
namespace Go.Proofs.Ytieabeodommbiaa
open Go.RowKit
set_option maxHeartbeats 400000

theorem ret_i64 {a b : Int} (h : a = b) : Ending.returned (.int .i64 a) = .returned (.int .i64 b) := by rw [h]

theorem rsize_c (n : Int) (h0 : -9223372036854775807 ≤ n) (h1 : n ≤ 9223372036854775807) (w : World) :
    Calls Try.prog 40 #[.int .i64 n] w fun e w' => e = .returned (.int .i64 (absI n)) ∧ w = w' := by
  by_cases hn : n < 0
  · go_enter Try.func40, Try.ntmps40
    go_wp2
    go_ret
    refine ⟨ret_i64 ?_, rfl⟩
    unfold absI; rw [if_pos hn]
  · go_enter Try.func40, Try.ntmps40
    go_wp2
    go_ret
    refine ⟨ret_i64 ?_, rfl⟩
    unfold absI; rw [if_neg (by omega)]

theorem most_c (w : World) : Calls Try.prog 37 #[] w fun e w' => e = .returned (.int .i64 4611686018427387904) ∧ w = w' := by
  go_enter Try.func37, Try.ntmps37
  go_wp2
  go_ret
  exact ⟨rfl, rfl⟩

theorem rgcd_c (x y : Int) (hx : 0 ≤ x ∧ x ≤ 9223372036854775807) (hy : 0 ≤ y ∧ y ≤ 9223372036854775807) (w : World) :
    Calls Try.prog 39 #[.int .i64 x, .int .i64 y] w fun e w' => e = .returned (.int .i64 (Int.gcd x y)) ∧ w = w' := by
  go_enter Try.func39, Try.ntmps39
  go_wp2
  go_loop [0, 1] (fun u v => ∃ p q : Int, 0 ≤ p ∧ p ≤ 9223372036854775807 ∧ 0 ≤ q ∧ q ≤ 9223372036854775807 ∧ (Int.gcd p q : Int) = Int.gcd x y ∧ u = .int .i64 p ∧ v = .int .i64 q) (fun _ v => (intOf v).toNat)
  case atStart => exact ⟨x, y, hx.1, hx.2, hy.1, hy.2, rfl, rfl, rfl⟩
  case round =>
    obtain ⟨p, q, p0, p1, q0, q1, hg, rfl, rfl⟩ := hrel
    have H := Lib.hid hg
    by_cases hq : 1 ≤ q
    · have H2 := Lib.hid (gcd_step p q _ p0 q0 hg)
      have m0 : 0 ≤ p % q := Int.emod_nonneg p (by omega)
      have m1 : p % q < q := Int.emod_lt_of_pos p (by omega)
      clear hg
      go_wp2
      go_round
      case rel => exact ⟨q, p % q, by omega, by omega, by omega, by omega, H2.out, rfl, rfl⟩
      case measure => simp [intOf]; omega
    · obtain rfl : q = 0 := by omega
      clear hg
      go_wp2
      go_ret
      exact ⟨ret_i64 (by rw [← H.out]; simp; omega), rfl⟩

theorem half_c (n g : Int) (h0 : -9223372036854775807 ≤ n) (h1 : n ≤ 9223372036854775807) (hg : 1 ≤ g) (w : World) :
    Calls Try.prog 41 #[.int .i64 n, .int .i64 g] w fun e w' => e = .returned (.int .i64 (absI (n.tdiv g))) ∧ w = w' := by
  have b : -9223372036854775807 ≤ n.tdiv g ∧ n.tdiv g ≤ 9223372036854775807 := by
    have := Int.natAbs_tdiv_le_natAbs n g
    omega
  have hg0 : (g == 0) = false := by simp; omega
  have hgn : ¬ g = 0 := by omega
  go_enter Try.func41, Try.ntmps41
  go_wp2_with fail
  refine (rsize_c _ b.1 b.2 _).mono ?_
  rintro e w' ⟨rfl, rfl⟩
  go_wp2
  go_ret
  exact ⟨rfl, rfl⟩

theorem makein_0 (n : Int) (w : World) : Calls Try.prog 12 #[.int .i64 n, .int .i64 0] w fun e w' => e = .returned (.agg #[.int .i64 0, .int .i64 0, .int .i64 3]) ∧ Below w.heap.size w w' := by
  go_enter Try.func12, Try.ntmps12
  go_wp2
  refine bodyPost_ret (v := .agg #[.int .i64 0, .int .i64 0, .int .i64 3]) ?_ rfl ⟨rfl, (Below.refl _ _).alloc (Nat.le_refl _) _⟩
  simp [results, Try.results12, go_sem]

/-- what is left when powers of 2 have been divided out -/
def miN (a b : Int) : Int := if a = 0 then 0 else if a = -9223372036854775808 ∨ b = -9223372036854775808 then 0 else
  if 4611686018427387904 < absI (a.tdiv (Int.gcd (absI a) (absI b))) ∨ 4611686018427387904 < absI (b.tdiv (Int.gcd (absI a) (absI b))) then 0 else
  if decide (a < 0) != decide (b < 0) then -absI (a.tdiv (Int.gcd (absI a) (absI b))) else absI (a.tdiv (Int.gcd (absI a) (absI b)))
def miD (a b : Int) : Int := if a = 0 then 1 else if a = -9223372036854775808 ∨ b = -9223372036854775808 then 0 else
  if 4611686018427387904 < absI (a.tdiv (Int.gcd (absI a) (absI b))) ∨ 4611686018427387904 < absI (b.tdiv (Int.gcd (absI a) (absI b))) then 0 else absI (b.tdiv (Int.gcd (absI a) (absI b)))
def miE (a b : Int) : Int := if a = 0 then 0 else if a = -9223372036854775808 ∨ b = -9223372036854775808 then 2 else
  if 4611686018427387904 < absI (a.tdiv (Int.gcd (absI a) (absI b))) ∨ 4611686018427387904 < absI (b.tdiv (Int.gcd (absI a) (absI b))) then 2 else 0

/-- the outcome -/
def MI (n d : Int) (v : Value) : Prop := ∃ (a b : Int) (k : Nat), n = a * 2 ^ k ∧ d = b * 2 ^ k ∧ b ≠ 0 ∧ (a = 0 ∨ a % 2 = 1 ∨ b % 2 = 1) ∧ (-9223372036854775808 ≤ a ∧ a ≤ 9223372036854775807) ∧ (-9223372036854775808 ≤ b ∧ b ≤ 9223372036854775807) ∧
  v = .agg #[.int .i64 (miN a b), .int .i64 (miD a b), .int .i64 (miE a b)]
def MIpost (n d : Int) (w : World) (e : Ending) (w' : World) : Prop := ∃ v, MI n d v ∧ e = .returned v ∧ Below w.heap.size w w'

theorem tmod2 (a : Int) : (a.tmod 2 == 0) = decide (a % 2 = 0) := by
  rw [Bool.eq_iff_iff]; simp only [beq_iff_eq, decide_eq_true_eq]
  rw [← Int.dvd_iff_tmod_eq_zero, Int.dvd_iff_emod_eq_zero]

theorem half_even (a b n d : Int) (k : Nat) (e1 : n = a * 2 ^ k) (e2 : d = b * 2 ^ k) (ca : a % 2 = 0) (cb : b % 2 = 0) (hb0 : b ≠ 0) (ha : -9223372036854775808 ≤ a ∧ a ≤ 9223372036854775807) (hb : -9223372036854775808 ≤ b ∧ b ≤ 9223372036854775807) :
    n = a.tdiv 2 * 2 ^ (k + 1) ∧ d = b.tdiv 2 * 2 ^ (k + 1) ∧ b.tdiv 2 ≠ 0 ∧ (-9223372036854775808 ≤ a.tdiv 2 ∧ a.tdiv 2 ≤ 9223372036854775807) ∧ (-9223372036854775808 ≤ b.tdiv 2 ∧ b.tdiv 2 ≤ 9223372036854775807) := by
  obtain ⟨x, rfl⟩ : ∃ x, a = 2 * x := ⟨a / 2, by omega⟩
  obtain ⟨y, rfl⟩ : ∃ y, b = 2 * y := ⟨b / 2, by omega⟩
  rw [Int.mul_tdiv_cancel_left _ (by omega), Int.mul_tdiv_cancel_left _ (by omega), Int.pow_succ]
  refine ⟨by rw [e1]; grind, by rw [e2]; grind, by omega, by omega, by omega⟩
theorem half_less (a : Int) (ca : a % 2 = 0) (cz : a ≠ 0) : (intOf (.int .i64 (a.tdiv 2))).natAbs < (intOf (.int .i64 a)).natAbs := by
  obtain ⟨x, rfl⟩ : ∃ x, a = 2 * x := ⟨a / 2, by omega⟩
  rw [Int.mul_tdiv_cancel_left _ (by omega)]
  simp only [intOf]
  omega

set_option maxHeartbeats 16000000 in
theorem makein_1 (n d : Int) (hn : -9223372036854775808 ≤ n ∧ n ≤ 9223372036854775807) (hd : -9223372036854775808 ≤ d ∧ d ≤ 9223372036854775807) (h0 : d ≠ 0) (w : World) :
    Calls Try.prog 12 #[.int .i64 n, .int .i64 d] w (MIpost n d w) := by
  have c0 : (d == 0) = false := by simp [h0]
  go_enter Try.func12, Try.ntmps12
  go_wp2
  go_loop [5, 6] (fun x y => ∃ (a b : Int) (k : Nat), n = a * 2 ^ k ∧ d = b * 2 ^ k ∧ b ≠ 0 ∧ (-9223372036854775808 ≤ a ∧ a ≤ 9223372036854775807) ∧ (-9223372036854775808 ≤ b ∧ b ≤ 9223372036854775807) ∧ x = .int .i64 a ∧ y = .int .i64 b) (fun x _ => (intOf x).natAbs)
  case atStart => exact ⟨n, d, 0, by simp, by simp, h0, hn, hd, rfl, rfl⟩
  case round =>
    obtain ⟨a, b, k, e1, e2, hb0, ha, hb, rfl, rfl⟩ := hrel
    have E1 := Lib.hid e1
    have E2 := Lib.hid e2
    clear e1 e2 c0
    by_cases hc : a % 2 = 0 ∧ b % 2 = 0 ∧ a ≠ 0
    · obtain ⟨ca, cb, cz⟩ := hc
      have t1 : (a.tmod 2 == 0) = true := by rw [tmod2]; simpa using ca
      have t2 : (b.tmod 2 == 0) = true := by rw [tmod2]; simpa using cb
      have t3 : (a != 0) = true := by simpa using cz
      have R := Lib.hid (half_even a b n d k E1.out E2.out ca cb hb0 ha hb)
      have M := Lib.hid (half_less a ca cz)
      clear ca cb cz hb0
      go_wp2
      go_round
      case rel => exact ⟨a.tdiv 2, b.tdiv 2, k + 1, R.out.1, R.out.2.1, R.out.2.2.1, R.out.2.2.2.1, R.out.2.2.2.2, rfl, rfl⟩
      case measure => exact M.out
    · have OK : Hid (MI n d (.agg #[.int .i64 (miN a b), .int .i64 (miD a b), .int .i64 (miE a b)])) := Lib.hid ⟨a, b, k, E1.out, E2.out, hb0, by omega, ha, hb, rfl⟩
      clear E1 E2
      by_cases hz : a = 0
      · have F : Hid (miN a b = 0 ∧ miD a b = 1 ∧ miE a b = 0) := Lib.hid (by unfold miN miD miE; rw [if_pos hz, if_pos hz, if_pos hz]; simp)
        clear hc
        have z0 : (a == 0) = true := by simpa using hz
        have z1 : (a != 0) = false := by simpa using hz
        have t1 : (a.tmod 2 == 0) = true := by rw [tmod2]; simp; omega
        clear hz
        cases hb2 : (b.tmod 2 == 0)
        all_goals
          go_wp2
          refine bodyPost_ret (v := .agg #[.int .i64 (miN a b), .int .i64 (miD a b), .int .i64 (miE a b)]) ?_ rfl ⟨_, OK.out, rfl, (Below.refl _ _).alloc (Nat.le_refl _) _⟩
          simp [results, Try.results12, go_sem, F.out.1, F.out.2.1, F.out.2.2]
      have hz' : (a == 0) = false := by simpa using hz
      have hz2 : (a != 0) = true := by simpa using hz
      by_cases ca : a % 2 = 1
      · have t1 : (a.tmod 2 == 0) = false := by rw [tmod2]; simp; omega
        have t1e : (a % 2 == 0) = false := by simp; omega
        clear hc ca
        by_cases hl : a = -9223372036854775808 ∨ b = -9223372036854775808
        · have F : Hid (miN a b = 0 ∧ miD a b = 0 ∧ miE a b = 2) := Lib.hid (by unfold miN miD miE; rw [if_neg hz, if_neg hz, if_neg hz, if_pos hl, if_pos hl, if_pos hl]; simp)
          by_cases l1 : a = -9223372036854775808
          · have l1' : (a == -9223372036854775808) = true := by simpa using l1
            clear hl l1
            go_wp2
            refine bodyPost_ret (v := .agg #[.int .i64 (miN a b), .int .i64 (miD a b), .int .i64 (miE a b)]) ?_ rfl ⟨_, OK.out, rfl, (Below.refl _ _).alloc (Nat.le_refl _) _⟩
            simp [results, Try.results12, go_sem, F.out.1, F.out.2.1, F.out.2.2]
          · have l1' : (a == -9223372036854775808) = false := by simpa using l1
            have l2' : (b == -9223372036854775808) = true := by simpa using hl.resolve_left l1
            clear hl l1
            go_wp2
            refine bodyPost_ret (v := .agg #[.int .i64 (miN a b), .int .i64 (miD a b), .int .i64 (miE a b)]) ?_ rfl ⟨_, OK.out, rfl, (Below.refl _ _).alloc (Nat.le_refl _) _⟩
            simp [results, Try.results12, go_sem, F.out.1, F.out.2.1, F.out.2.2]
        · have l1' : (a == -9223372036854775808) = false := by simp; omega
          have l2' : (b == -9223372036854775808) = false := by simp; omega
          have ba := absI_natAbs a
          have bb := absI_natAbs b
          have gp : 1 ≤ (Int.gcd (absI a) (absI b) : Int) := by
            have : 0 < Int.gcd (absI a) (absI b) := Int.gcd_pos_of_ne_zero_left _ (by omega)
            omega
          have S1 := Lib.hid (rsize_c a (by omega) (by omega))
          have S2 := Lib.hid (rsize_c b (by omega) (by omega))
          have S3 := Lib.hid (rgcd_c (absI a) (absI b) (by omega) (by omega))
          have S4 := Lib.hid (half_c a (Int.gcd (absI a) (absI b)) (by omega) (by omega) gp)
          have S5 := Lib.hid (half_c b (Int.gcd (absI a) (absI b)) (by omega) (by omega) gp)
          have P0 : 0 ≤ absI (a.tdiv (Int.gcd (absI a) (absI b))) := by rw [absI_natAbs]; omega
          by_cases hP : 4611686018427387904 < absI (a.tdiv (Int.gcd (absI a) (absI b)))
          · have F : Hid (miN a b = 0 ∧ miD a b = 0 ∧ miE a b = 2) := Lib.hid (by unfold miN miD miE; rw [if_neg hz, if_neg hz, if_neg hz, if_neg hl, if_neg hl, if_neg hl, if_pos (.inl hP), if_pos (.inl hP), if_pos (.inl hP)]; simp)
            clear hl ba bb gp hz
            generalize Int.gcd (absI a) (absI b) = G at *
            generalize absI a = A at *
            generalize absI b = B at *
            generalize absI (a.tdiv G) = p at *
            generalize absI (b.tdiv G) = q at *
            go_wp2_with (first | (go_at_call 40; first | (with_reducible refine (S1.out _).mono ?_; rintro e w' ⟨rfl, rfl⟩) | (with_reducible refine (S2.out _).mono ?_; rintro e w' ⟨rfl, rfl⟩)) | (go_at_call 39; refine (S3.out _).mono ?_; rintro e w' ⟨rfl, rfl⟩) | (go_at_call 41; first | (with_reducible refine (S4.out _).mono ?_; rintro e w' ⟨rfl, rfl⟩) | (with_reducible refine (S5.out _).mono ?_; rintro e w' ⟨rfl, rfl⟩)) | (go_at_call 37; refine (most_c _).mono ?_; rintro e w' ⟨rfl, rfl⟩))
            refine bodyPost_ret (v := .agg #[.int .i64 (miN a b), .int .i64 (miD a b), .int .i64 (miE a b)]) ?_ rfl ⟨_, OK.out, rfl, (Below.refl _ _).alloc (Nat.le_refl _) _⟩
            simp [results, Try.results12, go_sem, F.out.1, F.out.2.1, F.out.2.2]
          · by_cases hQ : 4611686018427387904 < absI (b.tdiv (Int.gcd (absI a) (absI b)))
            · have F : Hid (miN a b = 0 ∧ miD a b = 0 ∧ miE a b = 2) := Lib.hid (by unfold miN miD miE; rw [if_neg hz, if_neg hz, if_neg hz, if_neg hl, if_neg hl, if_neg hl, if_pos (.inr hQ), if_pos (.inr hQ), if_pos (.inr hQ)]; simp)
              clear hl ba bb gp hz
              generalize Int.gcd (absI a) (absI b) = G at *
              generalize absI a = A at *
              generalize absI b = B at *
              generalize absI (a.tdiv G) = p at *
              generalize absI (b.tdiv G) = q at *
              go_wp2_with (first | (go_at_call 40; first | (with_reducible refine (S1.out _).mono ?_; rintro e w' ⟨rfl, rfl⟩) | (with_reducible refine (S2.out _).mono ?_; rintro e w' ⟨rfl, rfl⟩)) | (go_at_call 39; refine (S3.out _).mono ?_; rintro e w' ⟨rfl, rfl⟩) | (go_at_call 41; first | (with_reducible refine (S4.out _).mono ?_; rintro e w' ⟨rfl, rfl⟩) | (with_reducible refine (S5.out _).mono ?_; rintro e w' ⟨rfl, rfl⟩)) | (go_at_call 37; refine (most_c _).mono ?_; rintro e w' ⟨rfl, rfl⟩))
              refine bodyPost_ret (v := .agg #[.int .i64 (miN a b), .int .i64 (miD a b), .int .i64 (miE a b)]) ?_ rfl ⟨_, OK.out, rfl, (Below.refl _ _).alloc (Nat.le_refl _) _⟩
              simp [results, Try.results12, go_sem, F.out.1, F.out.2.1, F.out.2.2]
            · have hPQ : ¬ (4611686018427387904 < absI (a.tdiv (Int.gcd (absI a) (absI b))) ∨ 4611686018427387904 < absI (b.tdiv (Int.gcd (absI a) (absI b)))) := by omega
              have F0 : miD a b = absI (b.tdiv (Int.gcd (absI a) (absI b))) ∧ miE a b = 0 := by unfold miD miE; rw [if_neg hz, if_neg hz, if_neg hl, if_neg hl, if_neg hPQ, if_neg hPQ]; exact ⟨rfl, rfl⟩
              have F1 : miN a b = if decide (a < 0) != decide (b < 0) then -absI (a.tdiv (Int.gcd (absI a) (absI b))) else absI (a.tdiv (Int.gcd (absI a) (absI b))) := by unfold miN; rw [if_neg hz, if_neg hl, if_neg hPQ]
              by_cases sa : a < 0 <;> by_cases sb : b < 0
              all_goals
                simp only [sa, sb, decide_true, decide_false, bne_self_eq_false, Bool.false_eq_true, if_false, Bool.true_bne, Bool.not_false, if_true, Bool.false_bne] at F1
                have F := Lib.hid (And.intro F1 F0)
                clear hl ba bb gp hz F0 F1 hPQ
                generalize Int.gcd (absI a) (absI b) = G at *
                generalize absI a = A at *
                generalize absI b = B at *
                generalize absI (a.tdiv G) = p at *
                generalize absI (b.tdiv G) = q at *
                go_wp2_with (first | (go_at_call 40; first | (with_reducible refine (S1.out _).mono ?_; rintro e w' ⟨rfl, rfl⟩) | (with_reducible refine (S2.out _).mono ?_; rintro e w' ⟨rfl, rfl⟩)) | (go_at_call 39; refine (S3.out _).mono ?_; rintro e w' ⟨rfl, rfl⟩) | (go_at_call 41; first | (with_reducible refine (S4.out _).mono ?_; rintro e w' ⟨rfl, rfl⟩) | (with_reducible refine (S5.out _).mono ?_; rintro e w' ⟨rfl, rfl⟩)) | (go_at_call 37; refine (most_c _).mono ?_; rintro e w' ⟨rfl, rfl⟩))
                all_goals first
                  | (rename_i hh; exfalso; simp at hh; omega)
                  | (refine bodyPost_ret (v := .agg #[.int .i64 (miN a b), .int .i64 (miD a b), .int .i64 (miE a b)]) ?_ rfl ⟨_, OK.out, rfl, (Below.refl _ _).alloc (Nat.le_refl _) _⟩; simp [results, Try.results12, go_sem, F.out.1, F.out.2.1, F.out.2.2])
      · have t1 : (a.tmod 2 == 0) = true := by rw [tmod2]; simp; omega
        have t2 : (b.tmod 2 == 0) = false := by rw [tmod2]; simp; omega
        have t1e : (a % 2 == 0) = true := by simp; omega
        have t2e : (b % 2 == 0) = false := by simp; omega
        clear hc ca
        by_cases hl : a = -9223372036854775808 ∨ b = -9223372036854775808
        · have F : Hid (miN a b = 0 ∧ miD a b = 0 ∧ miE a b = 2) := Lib.hid (by unfold miN miD miE; rw [if_neg hz, if_neg hz, if_neg hz, if_pos hl, if_pos hl, if_pos hl]; simp)
          by_cases l1 : a = -9223372036854775808
          · have l1' : (a == -9223372036854775808) = true := by simpa using l1
            clear hl l1
            go_wp2
            refine bodyPost_ret (v := .agg #[.int .i64 (miN a b), .int .i64 (miD a b), .int .i64 (miE a b)]) ?_ rfl ⟨_, OK.out, rfl, (Below.refl _ _).alloc (Nat.le_refl _) _⟩
            simp [results, Try.results12, go_sem, F.out.1, F.out.2.1, F.out.2.2]
          · have l1' : (a == -9223372036854775808) = false := by simpa using l1
            have l2' : (b == -9223372036854775808) = true := by simpa using hl.resolve_left l1
            clear hl l1
            go_wp2
            refine bodyPost_ret (v := .agg #[.int .i64 (miN a b), .int .i64 (miD a b), .int .i64 (miE a b)]) ?_ rfl ⟨_, OK.out, rfl, (Below.refl _ _).alloc (Nat.le_refl _) _⟩
            simp [results, Try.results12, go_sem, F.out.1, F.out.2.1, F.out.2.2]
        · have l1' : (a == -9223372036854775808) = false := by simp; omega
          have l2' : (b == -9223372036854775808) = false := by simp; omega
          have ba := absI_natAbs a
          have bb := absI_natAbs b
          have gp : 1 ≤ (Int.gcd (absI a) (absI b) : Int) := by
            have : 0 < Int.gcd (absI a) (absI b) := Int.gcd_pos_of_ne_zero_left _ (by omega)
            omega
          have S1 := Lib.hid (rsize_c a (by omega) (by omega))
          have S2 := Lib.hid (rsize_c b (by omega) (by omega))
          have S3 := Lib.hid (rgcd_c (absI a) (absI b) (by omega) (by omega))
          have S4 := Lib.hid (half_c a (Int.gcd (absI a) (absI b)) (by omega) (by omega) gp)
          have S5 := Lib.hid (half_c b (Int.gcd (absI a) (absI b)) (by omega) (by omega) gp)
          have P0 : 0 ≤ absI (a.tdiv (Int.gcd (absI a) (absI b))) := by rw [absI_natAbs]; omega
          by_cases hP : 4611686018427387904 < absI (a.tdiv (Int.gcd (absI a) (absI b)))
          · have F : Hid (miN a b = 0 ∧ miD a b = 0 ∧ miE a b = 2) := Lib.hid (by unfold miN miD miE; rw [if_neg hz, if_neg hz, if_neg hz, if_neg hl, if_neg hl, if_neg hl, if_pos (.inl hP), if_pos (.inl hP), if_pos (.inl hP)]; simp)
            clear hl ba bb gp hz
            generalize Int.gcd (absI a) (absI b) = G at *
            generalize absI a = A at *
            generalize absI b = B at *
            generalize absI (a.tdiv G) = p at *
            generalize absI (b.tdiv G) = q at *
            go_wp2_with (first | (go_at_call 40; first | (with_reducible refine (S1.out _).mono ?_; rintro e w' ⟨rfl, rfl⟩) | (with_reducible refine (S2.out _).mono ?_; rintro e w' ⟨rfl, rfl⟩)) | (go_at_call 39; refine (S3.out _).mono ?_; rintro e w' ⟨rfl, rfl⟩) | (go_at_call 41; first | (with_reducible refine (S4.out _).mono ?_; rintro e w' ⟨rfl, rfl⟩) | (with_reducible refine (S5.out _).mono ?_; rintro e w' ⟨rfl, rfl⟩)) | (go_at_call 37; refine (most_c _).mono ?_; rintro e w' ⟨rfl, rfl⟩))
            refine bodyPost_ret (v := .agg #[.int .i64 (miN a b), .int .i64 (miD a b), .int .i64 (miE a b)]) ?_ rfl ⟨_, OK.out, rfl, (Below.refl _ _).alloc (Nat.le_refl _) _⟩
            simp [results, Try.results12, go_sem, F.out.1, F.out.2.1, F.out.2.2]
          · by_cases hQ : 4611686018427387904 < absI (b.tdiv (Int.gcd (absI a) (absI b)))
            · have F : Hid (miN a b = 0 ∧ miD a b = 0 ∧ miE a b = 2) := Lib.hid (by unfold miN miD miE; rw [if_neg hz, if_neg hz, if_neg hz, if_neg hl, if_neg hl, if_neg hl, if_pos (.inr hQ), if_pos (.inr hQ), if_pos (.inr hQ)]; simp)
              clear hl ba bb gp hz
              generalize Int.gcd (absI a) (absI b) = G at *
              generalize absI a = A at *
              generalize absI b = B at *
              generalize absI (a.tdiv G) = p at *
              generalize absI (b.tdiv G) = q at *
              go_wp2_with (first | (go_at_call 40; first | (with_reducible refine (S1.out _).mono ?_; rintro e w' ⟨rfl, rfl⟩) | (with_reducible refine (S2.out _).mono ?_; rintro e w' ⟨rfl, rfl⟩)) | (go_at_call 39; refine (S3.out _).mono ?_; rintro e w' ⟨rfl, rfl⟩) | (go_at_call 41; first | (with_reducible refine (S4.out _).mono ?_; rintro e w' ⟨rfl, rfl⟩) | (with_reducible refine (S5.out _).mono ?_; rintro e w' ⟨rfl, rfl⟩)) | (go_at_call 37; refine (most_c _).mono ?_; rintro e w' ⟨rfl, rfl⟩))
              refine bodyPost_ret (v := .agg #[.int .i64 (miN a b), .int .i64 (miD a b), .int .i64 (miE a b)]) ?_ rfl ⟨_, OK.out, rfl, (Below.refl _ _).alloc (Nat.le_refl _) _⟩
              simp [results, Try.results12, go_sem, F.out.1, F.out.2.1, F.out.2.2]
            · have hPQ : ¬ (4611686018427387904 < absI (a.tdiv (Int.gcd (absI a) (absI b))) ∨ 4611686018427387904 < absI (b.tdiv (Int.gcd (absI a) (absI b)))) := by omega
              have F0 : miD a b = absI (b.tdiv (Int.gcd (absI a) (absI b))) ∧ miE a b = 0 := by unfold miD miE; rw [if_neg hz, if_neg hz, if_neg hl, if_neg hl, if_neg hPQ, if_neg hPQ]; exact ⟨rfl, rfl⟩
              have F1 : miN a b = if decide (a < 0) != decide (b < 0) then -absI (a.tdiv (Int.gcd (absI a) (absI b))) else absI (a.tdiv (Int.gcd (absI a) (absI b))) := by unfold miN; rw [if_neg hz, if_neg hl, if_neg hPQ]
              by_cases sa : a < 0 <;> by_cases sb : b < 0
              all_goals
                simp only [sa, sb, decide_true, decide_false, bne_self_eq_false, Bool.false_eq_true, if_false, Bool.true_bne, Bool.not_false, if_true, Bool.false_bne] at F1
                have F := Lib.hid (And.intro F1 F0)
                clear hl ba bb gp hz F0 F1 hPQ
                generalize Int.gcd (absI a) (absI b) = G at *
                generalize absI a = A at *
                generalize absI b = B at *
                generalize absI (a.tdiv G) = p at *
                generalize absI (b.tdiv G) = q at *
                go_wp2_with (first | (go_at_call 40; first | (with_reducible refine (S1.out _).mono ?_; rintro e w' ⟨rfl, rfl⟩) | (with_reducible refine (S2.out _).mono ?_; rintro e w' ⟨rfl, rfl⟩)) | (go_at_call 39; refine (S3.out _).mono ?_; rintro e w' ⟨rfl, rfl⟩) | (go_at_call 41; first | (with_reducible refine (S4.out _).mono ?_; rintro e w' ⟨rfl, rfl⟩) | (with_reducible refine (S5.out _).mono ?_; rintro e w' ⟨rfl, rfl⟩)) | (go_at_call 37; refine (most_c _).mono ?_; rintro e w' ⟨rfl, rfl⟩))
                all_goals first
                  | (rename_i hh; exfalso; simp at hh; omega)
                  | (refine bodyPost_ret (v := .agg #[.int .i64 (miN a b), .int .i64 (miD a b), .int .i64 (miE a b)]) ?_ rfl ⟨_, OK.out, rfl, (Below.refl _ _).alloc (Nat.le_refl _) _⟩; simp [results, Try.results12, go_sem, F.out.1, F.out.2.1, F.out.2.2])

end Go.Proofs.Ytieabeodommbiaa
