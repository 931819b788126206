/- Contracts of the leaves of package rat, walked. -/
import Derived.Test.YtieabeodommbiaaChecked
import Derived.WalkKit
import Derived.ProofKit
import Derived.WalkLawsBesides
import Derived.WalkSpells
import Derived.Below
import Derived.Lib.Hide
import Derived.PlainAid
import Derived.WalkSmall
import Derived.Outline
import Derived.LoopTactic
import Derived.Deep.QuietTactic
import Derived.BigQuiet
import Derived.RegionTactic
namespace Go.Proofs.Ytieabeodommbiaa
open Go.RowKit
set_option maxHeartbeats 400000

def absI (n : Int) : Int := if n < 0 then -n else n
def hiW (V : Int) : Int := V / 18446744073709551616
def loW (V : Int) : Int := V % 18446744073709551616

theorem ret_u64 {a b : Int} (h : a = b) : Ending.returned (.int .u64 a) = .returned (.int .u64 b) := by rw [h]

theorem ret_bool {a b : Bool} (h : a = b) : Ending.returned (.bool a) = .returned (.bool b) := by rw [h]

theorem size_c (n : Int) (h0 : -9223372036854775808 ≤ n) (h1 : n ≤ 9223372036854775807) (w : World) :
    Calls Try.prog 53 #[.int .i64 n] w fun e w' => e = .returned (.int .u64 (absI n)) ∧ w = w' := by
  by_cases hn : n < 0
  · go_enter Try.func53, Try.ntmps53
    go_wp2
    go_ret
    refine ⟨ret_u64 ?_, rfl⟩
    rw [IntKind.wrap_u64, IntKind.wrap_u64]; unfold absI; rw [if_pos hn]; omega
  · go_enter Try.func53, Try.ntmps53
    go_wp2
    go_ret
    refine ⟨ret_u64 ?_, rfl⟩
    unfold absI; rw [if_neg (by omega)]

theorem and32 (a : Int) (h0 : 0 ≤ a) (h1 : a < 18446744073709551616) : bits BinOp.and IntKind.u64 a 4294967295 = a % 4294967296 := by
  have h := bits_and_u64_nat a.toNat 4294967295 (by omega) (by omega)
  rw [show (4294967295 : Nat) = 2 ^ 32 - 1 from rfl, Nat.and_two_pow_sub_one_eq_mod, Int.toNat_of_nonneg h0] at h
  have h2 : ((a.toNat % 2 ^ 32 : Nat) : Int) = a % 4294967296 := by omega
  exact h.trans h2

theorem mul_parts (a b : Int) : a * b = (a / 4294967296 * (b / 4294967296)) * 18446744073709551616 + (a / 4294967296 * (b % 4294967296) + a % 4294967296 * (b / 4294967296)) * 4294967296 + a % 4294967296 * (b % 4294967296) := by
  have ea : a = a / 4294967296 * 4294967296 + a % 4294967296 := by omega
  have eb : b = b / 4294967296 * 4294967296 + b % 4294967296 := by omega
  generalize a / 4294967296 = a1 at *
  generalize a % 4294967296 = a0 at *
  generalize b / 4294967296 = b1 at *
  generalize b % 4294967296 = b0 at *
  subst ea; subst eb
  grind

theorem mul_lt (x y : Int) (h0 : 0 ≤ x) (h1 : x ≤ 4294967295) (h2 : 0 ≤ y) (h3 : y ≤ 4294967295) : 0 ≤ x * y ∧ x * y ≤ 18446744065119617025 :=
  ⟨Int.mul_nonneg h0 h2, by have := Int.mul_le_mul h1 h3 h2 (by omega); omega⟩

theorem hi_parts (s p r q : Int) (hs : 0 ≤ s ∧ s ≤ 18446744065119617025) (hp : 0 ≤ p ∧ p ≤ 18446744065119617025) (hr : 0 ≤ r ∧ r ≤ 18446744065119617025) (hq : 0 ≤ q ∧ q ≤ 18446744065119617025) (h : s * 18446744073709551616 + (p + r) * 4294967296 + q < 340282366920938463463374607431768211456) :
    ((s + (p + q / 4294967296) / 4294967296) % 18446744073709551616 + (r + (p + q / 4294967296) % 4294967296) / 4294967296) % 18446744073709551616 = (s * 18446744073709551616 + (p + r) * 4294967296 + q) / 18446744073709551616 := by
  omega

theorem prod_hi (a b : Int) (h0 : 0 ≤ a) (h1 : a < 18446744073709551616) (h2 : 0 ≤ b) (h3 : b < 18446744073709551616) :
    IntKind.u64.wrap (IntKind.u64.wrap (IntKind.u64.wrap (a / 4294967296 * (b / 4294967296)) + IntKind.u64.wrap (IntKind.u64.wrap (a / 4294967296 * bits BinOp.and IntKind.u64 b 4294967295) +
      IntKind.u64.wrap (bits BinOp.and IntKind.u64 a 4294967295 * bits BinOp.and IntKind.u64 b 4294967295) / 4294967296) / 4294967296) +
      IntKind.u64.wrap (IntKind.u64.wrap (bits BinOp.and IntKind.u64 a 4294967295 * (b / 4294967296)) + bits BinOp.and IntKind.u64 (IntKind.u64.wrap (IntKind.u64.wrap (a / 4294967296 * bits BinOp.and IntKind.u64 b 4294967295) +
        IntKind.u64.wrap (bits BinOp.and IntKind.u64 a 4294967295 * bits BinOp.and IntKind.u64 b 4294967295) / 4294967296)) 4294967295) / 4294967296) = hiW (a * b) := by
  have ha : 0 ≤ a / 4294967296 ∧ a / 4294967296 ≤ 4294967295 ∧ 0 ≤ a % 4294967296 ∧ a % 4294967296 ≤ 4294967295 := by omega
  have hb : 0 ≤ b / 4294967296 ∧ b / 4294967296 ≤ 4294967295 ∧ 0 ≤ b % 4294967296 ∧ b % 4294967296 ≤ 4294967295 := by omega
  have hab : a * b < 340282366920938463463374607431768211456 := by
    have := Int.mul_le_mul (show a ≤ 18446744073709551615 by omega) (show b ≤ 18446744073709551615 by omega) h2 (by omega)
    omega
  rw [and32 a h0 h1, and32 b h2 h3]
  unfold hiW
  have hm := mul_parts a b
  rw [hm] at hab ⊢
  have hs := mul_lt (a / 4294967296) (b / 4294967296) ha.1 ha.2.1 hb.1 hb.2.1
  have hp := mul_lt (a / 4294967296) (b % 4294967296) ha.1 ha.2.1 hb.2.2.1 hb.2.2.2
  have hr := mul_lt (a % 4294967296) (b / 4294967296) ha.2.2.1 ha.2.2.2 hb.1 hb.2.1
  have hq := mul_lt (a % 4294967296) (b % 4294967296) ha.2.2.1 ha.2.2.2 hb.2.2.1 hb.2.2.2
  clear hm
  generalize a / 4294967296 * (b / 4294967296) = s at *
  generalize a / 4294967296 * (b % 4294967296) = p at *
  generalize a % 4294967296 * (b / 4294967296) = r at *
  generalize a % 4294967296 * (b % 4294967296) = q at *
  rw [IntWalk.u64_in s (by omega), IntWalk.u64_in p (by omega), IntWalk.u64_in r (by omega), IntWalk.u64_in q (by omega), IntWalk.u64_in (p + q / 4294967296) (by omega), and32 _ (by omega) (by omega),
    IntWalk.u64_in (s + (p + q / 4294967296) / 4294967296) (by omega), IntWalk.u64_in (r + (p + q / 4294967296) % 4294967296) (by omega), IntKind.wrap_u64]
  have := hi_parts s p r q hs hp hr hq hab
  omega

theorem product_c (a b : Int) (h0 : 0 ≤ a) (h1 : a < 18446744073709551616) (h2 : 0 ≤ b) (h3 : b < 18446744073709551616) (w : World) :
    Calls Try.prog 66 #[.int .u64 a, .int .u64 b] w fun e w' => e = .returned (.agg #[.int .u64 (hiW (a * b)), .int .u64 (loW (a * b))]) ∧ Below w.heap.size w w' := by
  have H := Lib.hid (prod_hi a b h0 h1 h2 h3)
  go_enter Try.func66, Try.ntmps66
  go_wp2
  refine bodyPost_ret (v := .agg #[.int .u64 (hiW (a * b)), .int .u64 (loW (a * b))]) ?_ rfl ⟨rfl, (Below.refl _ _).alloc (Nat.le_refl _) _⟩
  simp [results, Try.results66, go_sem]
  exact ⟨H.out, by rw [IntKind.wrap_u64]; rfl⟩

theorem negative_c (h l : Int) (h0 : 0 ≤ h) (h1 : h < 18446744073709551616) (w : World) :
    Calls Try.prog 56 #[.agg #[.int .u64 h, .int .u64 l]] w fun e w' => e = .returned (.bool (decide (9223372036854775808 ≤ h))) ∧ Below w.heap.size w w' := by
  go_enter Try.func56, Try.ntmps56
  go_wp2
  go_ret
  refine ⟨ret_bool ?_, (Below.refl _ _).alloc (Nat.le_refl _) _⟩
  rw [Bool.eq_iff_iff]; simp; omega

/-- a sum of two halves -/
theorem plus_lo (h1 l1 h2 l2 V : Int) (a1 : 0 ≤ l1 ∧ l1 < 18446744073709551616) (a2 : 0 ≤ l2 ∧ l2 < 18446744073709551616) (c : IntKind.u64.wrap (l1 + l2) < l1)
    (e : ∃ k : Int, V = (h1 + h2) * 18446744073709551616 + (l1 + l2) + k * 340282366920938463463374607431768211456) (hV : 0 ≤ V ∧ V < 340282366920938463463374607431768211456) :
    IntKind.u64.wrap (IntKind.u64.wrap (h1 + h2) + 1) = hiW V ∧ IntKind.u64.wrap (l1 + l2) = loW V := by
  obtain ⟨k, rfl⟩ := e
  simp only [IntKind.wrap_u64, hiW, loW] at *
  omega
theorem plus_hi (h1 l1 h2 l2 V : Int) (a1 : 0 ≤ l1 ∧ l1 < 18446744073709551616) (a2 : 0 ≤ l2 ∧ l2 < 18446744073709551616) (c : ¬ IntKind.u64.wrap (l1 + l2) < l1)
    (e : ∃ k : Int, V = (h1 + h2) * 18446744073709551616 + (l1 + l2) + k * 340282366920938463463374607431768211456) (hV : 0 ≤ V ∧ V < 340282366920938463463374607431768211456) :
    IntKind.u64.wrap (h1 + h2) = hiW V ∧ IntKind.u64.wrap (l1 + l2) = loW V := by
  obtain ⟨k, rfl⟩ := e
  simp only [IntKind.wrap_u64, hiW, loW] at *
  omega

theorem plus_c (h1 l1 h2 l2 V : Int) (a1 : 0 ≤ l1 ∧ l1 < 18446744073709551616) (a2 : 0 ≤ l2 ∧ l2 < 18446744073709551616)
    (e : ∃ k : Int, V = (h1 + h2) * 18446744073709551616 + (l1 + l2) + k * 340282366920938463463374607431768211456) (hV : 0 ≤ V ∧ V < 340282366920938463463374607431768211456) (w : World) :
    Calls Try.prog 54 #[.agg #[.int .u64 h1, .int .u64 l1], .agg #[.int .u64 h2, .int .u64 l2]] w fun e w' => e = .returned (.agg #[.int .u64 (hiW V), .int .u64 (loW V)]) ∧ Below w.heap.size w w' := by
  by_cases c : IntKind.u64.wrap (l1 + l2) < l1
  · have H := Lib.hid (plus_lo h1 l1 h2 l2 V a1 a2 c e hV)
    clear e hV a1 a2
    go_enter Try.func54, Try.ntmps54
    go_wp2
    refine bodyPost_ret (v := .agg #[.int .u64 (hiW V), .int .u64 (loW V)]) ?_ rfl ⟨rfl, ?_⟩
    · simp [results, Try.results54, go_sem]
      exact H.out
    · exact ((((Below.refl _ _).alloc (Nat.le_refl _) _).alloc (by simp) _).alloc (by simp; omega) _).alloc (by simp; omega) _
  · have H := Lib.hid (plus_hi h1 l1 h2 l2 V a1 a2 c e hV)
    have c' : l1 ≤ IntKind.u64.wrap (l1 + l2) := by omega
    clear e hV a1 a2 c
    go_enter Try.func54, Try.ntmps54
    go_wp2
    refine bodyPost_ret (v := .agg #[.int .u64 (hiW V), .int .u64 (loW V)]) ?_ rfl ⟨rfl, ?_⟩
    · simp [results, Try.results54, go_sem]
      exact H.out
    · exact ((((Below.refl _ _).alloc (Nat.le_refl _) _).alloc (by simp) _).alloc (by simp; omega) _).alloc (by simp; omega) _

end Go.Proofs.Ytieabeodommbiaa

/- Contracts of package rat, walked: minus, gcd. -/
namespace Go.Proofs.Ytieabeodommbiaa
open Go.RowKit
set_option maxHeartbeats 400000

theorem not64 (h : Int) (h0 : 0 ≤ h) (h1 : h < 18446744073709551616) : bits BinOp.xor IntKind.u64 IntKind.u64.max h = 18446744073709551615 - h := by
  have hm : IntKind.u64.max = 18446744073709551615 := by decide
  have key : (BitVec.ofInt 64 18446744073709551615 ^^^ BitVec.ofInt 64 h).toNat = 18446744073709551615 - h.toNat := by
    have e1 : BitVec.ofInt 64 18446744073709551615 = BitVec.allOnes 64 := by decide
    have e2 : (BitVec.ofInt 64 h).toNat = h.toNat := by rw [BitVec.toNat_ofInt]; omega
    rw [e1, BitVec.allOnes_xor, BitVec.toNat_not, e2]
  rw [hm]
  show IntKind.u64.wrap ((BitVec.ofInt 64 18446744073709551615 ^^^ BitVec.ofInt 64 h).toNat : Nat) = _
  rw [key, IntKind.wrap_u64]
  omega

theorem minus_c (h l V : Int) (a1 : 0 ≤ h ∧ h < 18446744073709551616) (a2 : 0 ≤ l ∧ l < 18446744073709551616) (e : ∃ k : Int, V = -(h * 18446744073709551616 + l) + k * 340282366920938463463374607431768211456)
    (hV : 0 ≤ V ∧ V < 340282366920938463463374607431768211456) (w : World) :
    Calls Try.prog 55 #[.agg #[.int .u64 h, .int .u64 l]] w fun e w' => e = .returned (.agg #[.int .u64 (hiW V), .int .u64 (loW V)]) ∧ Below w.heap.size w w' := by
  have H1 := Lib.hid (not64 h a1.1 a1.2)
  have H2 := Lib.hid (not64 l a2.1 a2.2)
  have P := Lib.hid (fun w => plus_c (18446744073709551615 - h) (18446744073709551615 - l) 0 1 V (by omega) (by omega) (by obtain ⟨k, hk⟩ := e; exact ⟨k - 1, by omega⟩) hV w)
  have hs : IntKind.u64.signed = false := rfl
  clear e hV a1 a2
  go_enter Try.func55, Try.ntmps55
  go_wp2_with fail
  rw [H1.out, H2.out]
  refine (P.out _).mono ?_
  rintro e w1 ⟨rfl, hb1⟩
  have hz : w.heap.size + 1 < w1.heap.size := by have := hb1.size; simp at this; omega
  have hc1 : w1.cell? ⟨w.heap.size + 1, 0, none⟩ = some (.int .u64 0) := by rw [hb1.cell (p := ⟨w.heap.size + 1, 0, none⟩) (by simp)]; simp
  have hc2 : w1.cell? ⟨w.heap.size + 1, 1, none⟩ = some (.int .u64 0) := by rw [hb1.cell (p := ⟨w.heap.size + 1, 1, none⟩) (by simp)]; simp
  have hf : ∀ o, w1.frozen? ⟨w.heap.size + 1, o, none⟩ = false := fun o => by rw [hb1.frozen (p := ⟨w.heap.size + 1, o, none⟩) (by simp)]; simp
  go_wp2
  refine bodyPost_ret (v := .agg #[.int .u64 (hiW V), .int .u64 (loW V)]) ?_ rfl ⟨rfl, ?_⟩
  · simp [results, Try.results55, go_sem, hc1, hc2]
  · exact (((((Below.refl _ _).alloc (Nat.le_refl _) _).alloc (by simp) _).trans (hb1.mono (by simp; omega))).setCell (by simp) _).setCell (by simp) _

theorem below_drewN (w : World) (n : Nat) : Below w.heap.size w (w.drewN n) := ⟨rfl, rfl, rfl, Nat.le_refl _, fun _ _ => rfl⟩

def gcdI (x y : Int) : Int := max (Int.gcd x y) 1
def gk (x y : Int) : Nat → Int
  | 0 => 0
  | 1 => x
  | _ => Int.gcd x y

theorem gcd_step (u v g : Int) (hu : 0 ≤ u) (hv : 0 ≤ v) (h : (Int.gcd u v : Int) = g) : (Int.gcd v (u % v) : Int) = g := by
  rw [← h]
  congr 1
  obtain ⟨m, rfl⟩ := Int.eq_ofNat_of_zero_le hu
  obtain ⟨n, rfl⟩ := Int.eq_ofNat_of_zero_le hv
  show Nat.gcd n (m % n) = Nat.gcd m n
  rw [Nat.gcd_comm m n, Nat.gcd_comm n (m % n), ← Nat.gcd_rec]

theorem gcd_c (x y : Int) (hx : 0 ≤ x ∧ x < 18446744073709551616) (hy : 0 ≤ y ∧ y < 18446744073709551616) (b off : Nat) (w : World) (c0 : w.cell? ⟨b, off, none⟩ = some (.int .u64 x)) (c1 : w.cell? ⟨b, off + 1, none⟩ = some (.int .u64 y)) :
    Calls Try.prog 62 #[.slice (some ⟨b, off, none⟩) 2 2] w fun e w' => e = .returned (.int .u64 (gcdI x y)) ∧ Below w.heap.size w w' := by
  go_enter Try.func62, Try.ntmps62
  go_wp2
  go_loopw [3, 8] (fun c i wr => ∃ k : Nat, k ≤ 2 ∧ i = .int .i64 k ∧ c = .int .u64 (gk x y k) ∧ ∃ n, wr = w.drewN n) (fun _ i _ => 2 - (intOf i).toNat)
  case atStart => exact ⟨0, by omega, rfl, rfl, 0, rfl⟩
  case round =>
    obtain ⟨k, hk, rfl, rfl, n, rfl⟩ := hrel
    rcases k with _ | _ | _ | k
    · go_wp2
      go_loopw [3, 5] (fun c v wr => ∃ p q : Int, 0 ≤ p ∧ p < 18446744073709551616 ∧ 0 ≤ q ∧ q < 18446744073709551616 ∧ (Int.gcd p q : Int) = gk x y 1 ∧ c = .int .u64 p ∧ v = .int .u64 q ∧ ∃ n, wr = w.drewN n) (fun _ v _ => (intOf v).toNat)
      case atStart => exact ⟨gk x y 0, x, by simp [gk], by simp [gk], hx.1, hx.2, by simp [gk]; omega, rfl, rfl, n, rfl⟩
      case round =>
        obtain ⟨p, q, p0, p1, q0, q1, hg, rfl, rfl, m, rfl⟩ := hrel
        have H := Lib.hid hg
        by_cases hq : 1 ≤ q
        · have H2 := Lib.hid (gcd_step p q _ p0 q0 hg)
          have hqn : (q != 0) = true := by rw [bne_iff_ne]; omega
          have m0 : 0 ≤ p % q := Int.emod_nonneg p (by omega)
          have m1 : p % q < q := Int.emod_lt_of_pos p (by omega)
          clear hg
          go_wp2
          go_quiet (fail)
          go_wp2
          go_roundw
          case rel => exact ⟨q, p % q, by omega, by omega, by omega, by omega, H2.out, rfl, rfl, _, World.drewN_drewN _ _ _⟩
          case measure => simp [intOf]; omega
        · obtain rfl : q = 0 := by omega
          have e : gk x y 1 = p := by rw [← hg]; simp; omega
          have E := Lib.hid e
          clear hg e
          go_wp2
          go_roundw
          case rel => exact ⟨1, by omega, by go_num, by rw [E.out], _, rfl⟩
          case measure => simp [intOf]
    · go_wp2
      go_loopw [3, 5] (fun c v wr => ∃ p q : Int, 0 ≤ p ∧ p < 18446744073709551616 ∧ 0 ≤ q ∧ q < 18446744073709551616 ∧ (Int.gcd p q : Int) = gk x y 2 ∧ c = .int .u64 p ∧ v = .int .u64 q ∧ ∃ n, wr = w.drewN n) (fun _ v _ => (intOf v).toNat)
      case atStart => exact ⟨gk x y 1, y, hx.1, hx.2, hy.1, hy.2, rfl, rfl, rfl, n, rfl⟩
      case round =>
        obtain ⟨p, q, p0, p1, q0, q1, hg, rfl, rfl, m, rfl⟩ := hrel
        have H := Lib.hid hg
        by_cases hq : 1 ≤ q
        · have H2 := Lib.hid (gcd_step p q _ p0 q0 hg)
          have hqn : (q != 0) = true := by rw [bne_iff_ne]; omega
          have m0 : 0 ≤ p % q := Int.emod_nonneg p (by omega)
          have m1 : p % q < q := Int.emod_lt_of_pos p (by omega)
          clear hg
          go_wp2
          go_quiet (fail)
          go_wp2
          go_roundw
          case rel => exact ⟨q, p % q, by omega, by omega, by omega, by omega, H2.out, rfl, rfl, _, World.drewN_drewN _ _ _⟩
          case measure => simp [intOf]; omega
        · obtain rfl : q = 0 := by omega
          have e : gk x y 2 = p := by rw [← hg]; simp; omega
          have E := Lib.hid e
          clear hg e
          go_wp2
          go_roundw
          case rel => exact ⟨2, by omega, by go_num, by rw [E.out], _, rfl⟩
          case measure => simp [intOf]
    · go_wp2
      · go_ret
        have h1 : gk x y 2 < 1 := by assumption
        exact ⟨ret_u64 (by unfold gcdI; simp only [gk] at h1; omega), below_drewN w n⟩
      · go_ret
        have h1 : 1 ≤ gk x y 2 := by assumption
        exact ⟨ret_u64 (by unfold gcdI; simp only [gk] at h1 ⊢; omega), below_drewN w n⟩
    · omega

end Go.Proofs.Ytieabeodommbiaa

/- The mathematics of long division. -/
namespace Go.Proofs.Ytieabeodommbiaa
set_option linter.unusedVariables false

theorem or64 (x y : Int) (i : Nat) (hy : 0 ≤ y) (hyi : y < 2 ^ i) (q : Int) (hq : 0 ≤ q) (hx : x = q * 2 ^ i) (hs : x + y < 18446744073709551616) : bits BinOp.or IntKind.u64 x y = x + y := by
  subst hx
  obtain ⟨q, rfl⟩ := Int.eq_ofNat_of_zero_le hq
  obtain ⟨y, rfl⟩ := Int.eq_ofNat_of_zero_le hy
  have hyi' : y < 2 ^ i := by exact_mod_cast hyi
  have e : 2 ^ i * q + y = 2 ^ i * q ||| y := Nat.two_pow_add_eq_or_of_lt hyi' q
  have hcast : ((q : Int) * 2 ^ i) = ((2 ^ i * q : Nat) : Int) := by rw [Int.natCast_mul, Int.natCast_pow, Int.mul_comm]; rfl
  rw [hcast] at hs ⊢
  generalize hz : 2 ^ i * q = z at *
  have t1 : (BitVec.ofInt 64 (z : Int)).toNat = z := by rw [BitVec.toNat_ofInt]; omega
  have t2 : (BitVec.ofInt 64 (y : Int)).toNat = y := by rw [BitVec.toNat_ofInt]; omega
  show IntKind.u64.wrap ((BitVec.ofInt 64 (z : Int) ||| BitVec.ofInt 64 (y : Int)).toNat : Nat) = _
  rw [BitVec.toNat_or, t1, t2, ← e, IntKind.wrap_u64]
  omega

/-- what has been looked at after k rounds -/
def dX (h1 l : Int) (k : Nat) : Int := h1 * 2 ^ k + l / 2 ^ (64 - k)
def dR (h1 l d : Int) (k : Nat) : Int := dX h1 l k % d
def dL (h1 l d : Int) (k : Nat) : Int := dX h1 l k / d * 2 ^ (64 - k)
def bitAt (l : Int) (k : Nat) : Int := l / 2 ^ (63 - k) % 2

theorem dX_succ (h1 l : Int) (k : Nat) (hk : k < 64) : dX h1 l (k + 1) = 2 * dX h1 l k + bitAt l k := by
  unfold dX bitAt
  have e1 : 64 - (k + 1) = 63 - k := by omega
  have e2 : 64 - k = 63 - k + 1 := by omega
  rw [e1, e2, Int.pow_succ, Int.pow_succ]
  have e3 : l / (2 ^ (63 - k) * 2) = l / 2 ^ (63 - k) / 2 := (Int.ediv_ediv_of_nonneg (Int.le_of_lt (Int.pow_pos (by omega)))).symm
  rw [e3]
  generalize l / 2 ^ (63 - k) = z
  generalize (2 : Int) ^ k = y
  have := Int.mul_assoc h1 y 2
  omega

theorem bitAt_01 (l : Int) (k : Nat) : 0 ≤ bitAt l k ∧ bitAt l k < 2 := by unfold bitAt; omega

theorem d_step (h1 l d : Int) (k : Nat) (hk : k < 64) (hd : 1 ≤ d) (h0 : 0 ≤ h1) (hl : 0 ≤ l) :
    (d ≤ 2 * dR h1 l d k + bitAt l k → dR h1 l d (k + 1) = 2 * dR h1 l d k + bitAt l k - d ∧ dL h1 l d (k + 1) = dL h1 l d k + 2 ^ (63 - k)) ∧
    (2 * dR h1 l d k + bitAt l k < d → dR h1 l d (k + 1) = 2 * dR h1 l d k + bitAt l k ∧ dL h1 l d (k + 1) = dL h1 l d k) := by
  unfold dR dL
  rw [dX_succ h1 l k hk]
  have hb := bitAt_01 l k
  generalize bitAt l k = b at *
  have hX := Int.mul_ediv_add_emod (dX h1 l k) d
  have r0 := Int.emod_nonneg (dX h1 l k) (show d ≠ 0 by omega)
  have r1 := Int.emod_lt_of_pos (dX h1 l k) (show 0 < d by omega)
  generalize dX h1 l k = X at *
  generalize X / d = Q at *
  generalize X % d = R at *
  have e2 : 64 - k = 63 - k + 1 := by omega
  have e1 : 64 - (k + 1) = 63 - k := by omega
  rw [e1, e2, Int.pow_succ]
  have hXe : 2 * X + b = d * (2 * Q) + (2 * R + b) := by rw [← hX]; grind
  constructor
  · intro hge
    have hXe2 : 2 * X + b = (2 * R + b - d) + d * (2 * Q + 1) := by rw [hXe]; grind
    have q1 : (2 * X + b) / d = 2 * Q + 1 := by
      rw [hXe2, Int.add_mul_ediv_left _ _ (by omega), Int.ediv_eq_zero_of_lt (by omega) (by omega)]; omega
    have q2 : (2 * X + b) % d = 2 * R + b - d := by
      rw [hXe2, Int.add_mul_emod_self_left, Int.emod_eq_of_lt (by omega) (by omega)]
    rw [q1, q2]
    exact ⟨rfl, by grind⟩
  · intro hlt
    have hXe2 : 2 * X + b = (2 * R + b) + d * (2 * Q) := by rw [hXe]; grind
    have q1 : (2 * X + b) / d = 2 * Q := by
      rw [hXe2, Int.add_mul_ediv_left _ _ (by omega), Int.ediv_eq_zero_of_lt (by omega) (by omega)]; omega
    have q2 : (2 * X + b) % d = 2 * R + b := by
      rw [hXe2, Int.add_mul_emod_self_left, Int.emod_eq_of_lt (by omega) (by omega)]
    rw [q1, q2]
    exact ⟨rfl, by grind⟩

theorem dR_bd (h1 l d : Int) (k : Nat) (hd : 1 ≤ d) : 0 ≤ dR h1 l d k ∧ dR h1 l d k < d :=
  ⟨Int.emod_nonneg _ (by omega), Int.emod_lt_of_pos _ (by omega)⟩

theorem dX_lt (h1 l d : Int) (k : Nat) (hk : k ≤ 64) (hd : 1 ≤ d) (h0 : 0 ≤ h1) (h1d : h1 < d) (hl : 0 ≤ l) (hl2 : l < 18446744073709551616) : 0 ≤ dX h1 l k ∧ dX h1 l k < d * 2 ^ k := by
  have p : (0 : Int) < 2 ^ k := Int.pow_pos (by omega)
  have p2 : (0 : Int) < 2 ^ (64 - k) := Int.pow_pos (by omega)
  have pp : (2 : Int) ^ (64 - k) * 2 ^ k = 18446744073709551616 := by rw [← Int.pow_add, show 64 - k + k = 64 by omega]; rfl
  have z0 : 0 ≤ l / 2 ^ (64 - k) := Int.ediv_nonneg hl (by omega)
  have z1 : l / 2 ^ (64 - k) < 2 ^ k := Int.ediv_lt_of_lt_mul p2 (by rw [Int.mul_comm, pp]; exact hl2)
  unfold dX
  generalize l / 2 ^ (64 - k) = z at *
  generalize (2 : Int) ^ k = y at *
  constructor
  · have := Int.mul_nonneg h0 (Int.le_of_lt p); omega
  · have := Int.mul_le_mul_of_nonneg_right (show h1 + 1 ≤ d by omega) (Int.le_of_lt p)
    rw [Int.add_mul] at this
    omega

theorem dL_bd (h1 l d : Int) (k : Nat) (hk : k ≤ 64) (hd : 1 ≤ d) (h0 : 0 ≤ h1) (h1d : h1 < d) (hl : 0 ≤ l) (hl2 : l < 18446744073709551616) : 0 ≤ dX h1 l k / d ∧ 0 ≤ dL h1 l d k ∧ dL h1 l d k + 2 ^ (64 - k) ≤ 18446744073709551616 := by
  obtain ⟨x0, x1⟩ := dX_lt h1 l d k hk hd h0 h1d hl hl2
  have p : (0 : Int) < 2 ^ k := Int.pow_pos (by omega)
  have p2 : (0 : Int) < 2 ^ (64 - k) := Int.pow_pos (by omega)
  have pp : (2 : Int) ^ k * 2 ^ (64 - k) = 18446744073709551616 := by rw [← Int.pow_add, show k + (64 - k) = 64 by omega]; rfl
  have q0 : 0 ≤ dX h1 l k / d := Int.ediv_nonneg x0 (by omega)
  have q1 : dX h1 l k / d < 2 ^ k := Int.ediv_lt_of_lt_mul (by omega) (by rw [Int.mul_comm]; exact x1)
  unfold dL
  generalize dX h1 l k / d = q at *
  have := Int.mul_le_mul_of_nonneg_right (show q + 1 ≤ 2 ^ k by omega) (Int.le_of_lt p2)
  rw [pp, Int.add_mul] at this
  exact ⟨q0, Int.mul_nonneg q0 (by omega), by omega⟩

theorem d_zero (h1 l d : Int) (h0 : 0 ≤ h1) (h1d : h1 < d) (hl : 0 ≤ l ∧ l < 18446744073709551616) : dR h1 l d 0 = h1 ∧ dL h1 l d 0 = 0 := by
  have e : dX h1 l 0 = h1 := by
    unfold dX
    rw [show (64 - 0 : Nat) = 64 from rfl, show (2 : Int) ^ 64 = 18446744073709551616 from rfl, Int.pow_zero]; omega
  unfold dR dL
  rw [e, Int.emod_eq_of_lt h0 h1d, Int.ediv_eq_zero_of_lt h0 h1d]
  exact ⟨rfl, Int.zero_mul _⟩

theorem d_end (h l d : Int) (hh : 0 ≤ h ∧ h < 18446744073709551616) (hl : 0 ≤ l ∧ l < 18446744073709551616) (hd : 1 ≤ d) :
    h / d = hiW ((h * 18446744073709551616 + l) / d) ∧ dL (h % d) l d 64 = loW ((h * 18446744073709551616 + l) / d) ∧ dR (h % d) l d 64 = (h * 18446744073709551616 + l) % d := by
  have r0 := Int.emod_nonneg h (show d ≠ 0 by omega)
  have r1 := Int.emod_lt_of_pos h (show 0 < d by omega)
  have x := dX_lt (h % d) l d 64 (by omega) hd r0 r1 hl.1 hl.2
  have ex : dX (h % d) l 64 = h % d * 18446744073709551616 + l := by
    unfold dX
    rw [show (2 : Int) ^ 64 = 18446744073709551616 from rfl, show (64 - 64 : Nat) = 0 from rfl, Int.pow_zero, Int.ediv_one]
  have hdm := Int.mul_ediv_add_emod h d
  unfold dL dR hiW loW
  rw [ex] at x ⊢
  have e : h * 18446744073709551616 + l = (h % d * 18446744073709551616 + l) + d * (h / d * 18446744073709551616) := by
    generalize h % d = r at *
    generalize h / d = q at *
    rw [← hdm]; grind
  rw [e, Int.add_mul_ediv_left _ _ (by omega), Int.add_mul_emod_self_left]
  have q0 : 0 ≤ (h % d * 18446744073709551616 + l) / d := Int.ediv_nonneg x.1 (by omega)
  have q1 : (h % d * 18446744073709551616 + l) / d < 18446744073709551616 := Int.ediv_lt_of_lt_mul (by omega) (by have := x.2; omega)
  generalize (h % d * 18446744073709551616 + l) / d = z at *
  simp
  omega

end Go.Proofs.Ytieabeodommbiaa

/- Contracts of package rat, walked: divide. -/
namespace Go.Proofs.Ytieabeodommbiaa
open Go.RowKit
set_option maxHeartbeats 1000000

theorem div_even (h l d : Int) (a1 : 0 ≤ h ∧ h < 18446744073709551616) (a2 : 0 ≤ l ∧ l < 18446744073709551616) (a3 : 1 ≤ d) (c : h % d = 0) :
    h / d = hiW ((h * 18446744073709551616 + l) / d) ∧ l / d = loW ((h * 18446744073709551616 + l) / d) ∧ l % d = (h * 18446744073709551616 + l) % d := by
  obtain ⟨q, rfl⟩ : ∃ q, h = d * q := ⟨h / d, by have := Int.mul_ediv_add_emod h d; omega⟩
  have e1 : (d * q * 18446744073709551616 + l) / d = q * 18446744073709551616 + l / d := by
    rw [Int.mul_assoc, Int.add_comm, Int.add_mul_ediv_left _ _ (by omega)]; omega
  have e2 : (d * q * 18446744073709551616 + l) % d = l % d := by
    rw [Int.mul_assoc, Int.add_comm, Int.add_mul_emod_self_left]
  have e3 : d * q / d = q := Int.mul_ediv_cancel_left _ (by omega)
  have b0 : 0 ≤ l / d := Int.ediv_nonneg a2.1 (by omega)
  have b1 : l / d ≤ l := Int.ediv_le_self d a2.1
  rw [e1, e2, e3]
  unfold hiW loW
  omega

theorem below_more {B : Nat} {a w : World} (h : Below B a w) (n : Nat) : Below B a (w.drewN n) := ⟨h.os, h.tape, h.output, h.size, h.block⟩

theorem set_pair (w : World) (A : Obj) (x y v : Value) (t : TypeId) (n : Nat) :
    (((w.alloc A).alloc (.cells #[x, y] t)).drewN (n + 1)).setCell ⟨w.heap.size + 1, 1, none⟩ v = ((w.alloc A).alloc (.cells #[x, v] t)).drewN (n + 1) := by
  show (((w.alloc A).alloc (.cells #[x, y] t)).setCell ⟨w.heap.size + 1, 1, none⟩ v).drewN (n + 1) = _
  rw [World.setCell_alloc_at _ _ _ _ _ (by simp)]
  rfl

theorem divide_c (h l d : Int) (a1 : 0 ≤ h ∧ h < 18446744073709551616) (a2 : 0 ≤ l ∧ l < 18446744073709551616) (a3 : 1 ≤ d ∧ d ≤ 9223372036854775808) (w : World) :
    Calls Try.prog 65 #[.agg #[.int .u64 h, .int .u64 l], .int .u64 d] w fun e w' => e = .returned (.tuple #[.agg #[.int .u64 (hiW ((h * 18446744073709551616 + l) / d)), .int .u64 (loW ((h * 18446744073709551616 + l) / d))], .int .u64 ((h * 18446744073709551616 + l) % d)]) ∧ Below w.heap.size w w' := by
  have m0 : 0 ≤ h % d := Int.emod_nonneg h (by omega)
  have m1 : h % d < d := Int.emod_lt_of_pos h (by omega)
  by_cases c : h % d = 0
  · have E := Lib.hid (div_even h l d a1 a2 a3.1 c)
    have c1 : (h % d == 0) = true := by simp [c]
    clear c
    go_enter Try.func65, Try.ntmps65
    go_wp2
    go_region
    go_wp2
    go_region
    go_wp2
    refine bodyPost_ret (v := .tuple #[.agg #[.int .u64 (hiW ((h * 18446744073709551616 + l) / d)), .int .u64 (loW ((h * 18446744073709551616 + l) / d))], .int .u64 ((h * 18446744073709551616 + l) % d)]) ?_ rfl ⟨rfl, ?_⟩
    · simp [results, Try.results65, go_sem]
      exact ⟨⟨E.out.1, E.out.2.1⟩, E.out.2.2⟩
    · exact ((((Below.refl _ _).alloc (Nat.le_refl _) _).alloc (by simp) _).drew).drew
  · have c1 : (h % d == 0) = false := by simp [c]
    clear c
    go_enter Try.func65, Try.ntmps65
    go_wp2
    go_region
    go_wp2
    go_loopw [5, 6] (fun r i wr => ∃ (k n : Nat), k ≤ 64 ∧ i = .int .i64 (63 - k) ∧ r = .int .u64 (dR (h % d) l d k) ∧ wr = (((w.alloc (.cells #[.int .u64 h, .int .u64 l] 67)).alloc (.cells #[.int .u64 (h / d), .int .u64 (dL (h % d) l d k)] 67)).drewN n)) (fun _ i _ => (intOf i + 1).toNat)
    case atStart => exact ⟨0, 1, by omega, rfl, (by rw [(d_zero _ l d m0 m1 a2).1]), (by rw [(d_zero _ l d m0 m1 a2).2]; rfl)⟩
    case round =>
      obtain ⟨k, n, hk, rfl, rfl, rfl⟩ := hrel
      obtain ⟨hR0, hR1⟩ := dR_bd (h % d) l d k a3.1
      by_cases hk2 : k < 64
      · have i0 : (0 : Int) ≤ 63 - k := by omega
        have i1 : (63 - k : Int) ≤ 63 := by omega
        obtain ⟨s1, s2⟩ := d_step (h % d) l d k hk2 a3.1 m0 a2.1
        obtain ⟨b0, b1⟩ := bitAt_01 l k
        have hor : bits BinOp.or IntKind.u64 (dR (h % d) l d k * 2) (bits BinOp.and IntKind.u64 (l / 2 ^ (63 - k)) 1) = 2 * dR (h % d) l d k + bitAt l k := by
          have z0 : 0 ≤ l / 2 ^ (63 - k) := Int.ediv_nonneg a2.1 (Int.le_of_lt (Int.pow_pos (by omega)))
          have z1 : l / 2 ^ (63 - k) ≤ l := Int.ediv_le_self _ a2.1
          rw [and_one_u64 _ z0 (by omega)]
          show bits BinOp.or IntKind.u64 (dR (h % d) l d k * 2) (bitAt l k) = _
          rw [or64 (dR (h % d) l d k * 2) (bitAt l k) 1 b0 (by omega) (dR (h % d) l d k) hR0 (by omega) (by omega)]
          omega
        have HO := Lib.hid hor
        have LO : Hid (bits BinOp.or IntKind.u64 (dL (h % d) l d k) (IntKind.u64.wrap (2 ^ (63 - k))) = dL (h % d) l d k + 2 ^ (63 - k)) := Lib.hid (by
          obtain ⟨q0, l0, l1⟩ := dL_bd (h % d) l d k hk a3.1 m0 m1 a2.1 a2.2
          have p0 : (0 : Int) < 2 ^ (63 - k) := Int.pow_pos (by omega)
          have p1 : (2 : Int) ^ (64 - k) = 2 ^ (63 - k) * 2 := by rw [show 64 - k = 63 - k + 1 by omega, Int.pow_succ]
          rw [IntWalk.u64_in _ (by omega)]
          exact or64 _ _ (64 - k) (by omega) (by omega) (dX (h % d) l k / d) q0 rfl (by omega))
        clear hor
        by_cases hge : d ≤ 2 * dR (h % d) l d k + bitAt l k
        · have S := Lib.hid (s1 hge)
          have HG : d ≤ bits BinOp.or IntKind.u64 (dR (h % d) l d k * 2) (bits BinOp.and IntKind.u64 (l / 2 ^ (63 - k)) 1) := by rw [HO.out]; exact hge
          clear s1 s2
          go_wp2
          go_region
          go_wp2
          refine ⟨⟨k + 1, n + 1, by omega, by go_num, ?_, ?_⟩, by simp [intOf]; omega⟩
          · rw [HO.out, IntWalk.u64_in _ (by omega), S.out.1]
          · rw [LO.out, S.out.2]
            exact set_pair _ _ _ _ _ _ _
        · have S := Lib.hid (s2 (by omega))
          have HG : bits BinOp.or IntKind.u64 (dR (h % d) l d k * 2) (bits BinOp.and IntKind.u64 (l / 2 ^ (63 - k)) 1) < d := by rw [HO.out]; omega
          clear s1 s2
          go_wp2
          refine ⟨⟨k + 1, n, by omega, by go_num, ?_, ?_⟩, by simp [intOf]; omega⟩
          · rw [HO.out, S.out.1]
          · rw [S.out.2]
      · obtain rfl : k = 64 := by omega
        have E := Lib.hid (d_end h l d a1 a2 a3.1)
        go_wp2
        refine bodyPost_ret (v := .tuple #[.agg #[.int .u64 (hiW ((h * 18446744073709551616 + l) / d)), .int .u64 (loW ((h * 18446744073709551616 + l) / d))], .int .u64 ((h * 18446744073709551616 + l) % d)]) ?_ rfl ⟨rfl, ?_⟩
        · simp [results, Try.results65, go_sem]
          exact ⟨⟨E.out.1, E.out.2.1⟩, E.out.2.2⟩
        · exact ((below_more (((Below.refl _ _).alloc (Nat.le_refl _) _).alloc (by simp) _) _).setCell (by simp) _).setCell (by simp) _

end Go.Proofs.Ytieabeodommbiaa
