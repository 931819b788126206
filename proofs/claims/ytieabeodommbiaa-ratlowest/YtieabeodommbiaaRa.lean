/- Contracts of the leaves of package rat, walked. -/
import Derived.Test.YtieabeodommbiaaChecked
import Derived.WalkKit
import Derived.ProofKit
import Derived.WalkLawsBesides
import Derived.WalkSpells
import Derived.Below
import Derived.Lib.Hide
import Derived.PlainAid
import Derived.WalkSmall
import Derived.Outline
namespace Go.Proofs.Ytieabeodommbiaa
open Go.RowKit
set_option maxHeartbeats 400000

def absI (n : Int) : Int := if n < 0 then -n else n
def hiW (V : Int) : Int := V / 18446744073709551616
def loW (V : Int) : Int := V % 18446744073709551616

theorem ret_u64 {a b : Int} (h : a = b) : Ending.returned (.int .u64 a) = .returned (.int .u64 b) := by rw [h]

theorem ret_bool {a b : Bool} (h : a = b) : Ending.returned (.bool a) = .returned (.bool b) := by rw [h]

theorem size_c (n : Int) (h0 : -9223372036854775808 ≤ n) (h1 : n ≤ 9223372036854775807) (w : World) :
    Calls Try.prog 53 #[.int .i64 n] w fun e w' => e = .returned (.int .u64 (absI n)) ∧ w = w' := by
  by_cases hn : n < 0
  · go_enter Try.func53, Try.ntmps53
    go_wp2
    go_ret
    refine ⟨ret_u64 ?_, rfl⟩
    rw [IntKind.wrap_u64, IntKind.wrap_u64]; unfold absI; rw [if_pos hn]; omega
  · go_enter Try.func53, Try.ntmps53
    go_wp2
    go_ret
    refine ⟨ret_u64 ?_, rfl⟩
    unfold absI; rw [if_neg (by omega)]

theorem and32 (a : Int) (h0 : 0 ≤ a) (h1 : a < 18446744073709551616) : bits BinOp.and IntKind.u64 a 4294967295 = a % 4294967296 := by
  have h := bits_and_u64_nat a.toNat 4294967295 (by omega) (by omega)
  rw [show (4294967295 : Nat) = 2 ^ 32 - 1 from rfl, Nat.and_two_pow_sub_one_eq_mod, Int.toNat_of_nonneg h0] at h
  have h2 : ((a.toNat % 2 ^ 32 : Nat) : Int) = a % 4294967296 := by omega
  exact h.trans h2

theorem mul_parts (a b : Int) : a * b = (a / 4294967296 * (b / 4294967296)) * 18446744073709551616 + (a / 4294967296 * (b % 4294967296) + a % 4294967296 * (b / 4294967296)) * 4294967296 + a % 4294967296 * (b % 4294967296) := by
  have ea : a = a / 4294967296 * 4294967296 + a % 4294967296 := by omega
  have eb : b = b / 4294967296 * 4294967296 + b % 4294967296 := by omega
  generalize a / 4294967296 = a1 at *
  generalize a % 4294967296 = a0 at *
  generalize b / 4294967296 = b1 at *
  generalize b % 4294967296 = b0 at *
  subst ea; subst eb
  grind

theorem mul_lt (x y : Int) (h0 : 0 ≤ x) (h1 : x ≤ 4294967295) (h2 : 0 ≤ y) (h3 : y ≤ 4294967295) : 0 ≤ x * y ∧ x * y ≤ 18446744065119617025 :=
  ⟨Int.mul_nonneg h0 h2, by have := Int.mul_le_mul h1 h3 h2 (by omega); omega⟩

theorem hi_parts (s p r q : Int) (hs : 0 ≤ s ∧ s ≤ 18446744065119617025) (hp : 0 ≤ p ∧ p ≤ 18446744065119617025) (hr : 0 ≤ r ∧ r ≤ 18446744065119617025) (hq : 0 ≤ q ∧ q ≤ 18446744065119617025) (h : s * 18446744073709551616 + (p + r) * 4294967296 + q < 340282366920938463463374607431768211456) :
    ((s + (p + q / 4294967296) / 4294967296) % 18446744073709551616 + (r + (p + q / 4294967296) % 4294967296) / 4294967296) % 18446744073709551616 = (s * 18446744073709551616 + (p + r) * 4294967296 + q) / 18446744073709551616 := by
  omega

theorem prod_hi (a b : Int) (h0 : 0 ≤ a) (h1 : a < 18446744073709551616) (h2 : 0 ≤ b) (h3 : b < 18446744073709551616) :
    IntKind.u64.wrap (IntKind.u64.wrap (IntKind.u64.wrap (a / 4294967296 * (b / 4294967296)) + IntKind.u64.wrap (IntKind.u64.wrap (a / 4294967296 * bits BinOp.and IntKind.u64 b 4294967295) +
      IntKind.u64.wrap (bits BinOp.and IntKind.u64 a 4294967295 * bits BinOp.and IntKind.u64 b 4294967295) / 4294967296) / 4294967296) +
      IntKind.u64.wrap (IntKind.u64.wrap (bits BinOp.and IntKind.u64 a 4294967295 * (b / 4294967296)) + bits BinOp.and IntKind.u64 (IntKind.u64.wrap (IntKind.u64.wrap (a / 4294967296 * bits BinOp.and IntKind.u64 b 4294967295) +
        IntKind.u64.wrap (bits BinOp.and IntKind.u64 a 4294967295 * bits BinOp.and IntKind.u64 b 4294967295) / 4294967296)) 4294967295) / 4294967296) = hiW (a * b) := by
  have ha : 0 ≤ a / 4294967296 ∧ a / 4294967296 ≤ 4294967295 ∧ 0 ≤ a % 4294967296 ∧ a % 4294967296 ≤ 4294967295 := by omega
  have hb : 0 ≤ b / 4294967296 ∧ b / 4294967296 ≤ 4294967295 ∧ 0 ≤ b % 4294967296 ∧ b % 4294967296 ≤ 4294967295 := by omega
  have hab : a * b < 340282366920938463463374607431768211456 := by
    have := Int.mul_le_mul (show a ≤ 18446744073709551615 by omega) (show b ≤ 18446744073709551615 by omega) h2 (by omega)
    omega
  rw [and32 a h0 h1, and32 b h2 h3]
  unfold hiW
  have hm := mul_parts a b
  rw [hm] at hab ⊢
  have hs := mul_lt (a / 4294967296) (b / 4294967296) ha.1 ha.2.1 hb.1 hb.2.1
  have hp := mul_lt (a / 4294967296) (b % 4294967296) ha.1 ha.2.1 hb.2.2.1 hb.2.2.2
  have hr := mul_lt (a % 4294967296) (b / 4294967296) ha.2.2.1 ha.2.2.2 hb.1 hb.2.1
  have hq := mul_lt (a % 4294967296) (b % 4294967296) ha.2.2.1 ha.2.2.2 hb.2.2.1 hb.2.2.2
  clear hm
  generalize a / 4294967296 * (b / 4294967296) = s at *
  generalize a / 4294967296 * (b % 4294967296) = p at *
  generalize a % 4294967296 * (b / 4294967296) = r at *
  generalize a % 4294967296 * (b % 4294967296) = q at *
  rw [IntWalk.u64_in s (by omega), IntWalk.u64_in p (by omega), IntWalk.u64_in r (by omega), IntWalk.u64_in q (by omega), IntWalk.u64_in (p + q / 4294967296) (by omega), and32 _ (by omega) (by omega),
    IntWalk.u64_in (s + (p + q / 4294967296) / 4294967296) (by omega), IntWalk.u64_in (r + (p + q / 4294967296) % 4294967296) (by omega), IntKind.wrap_u64]
  have := hi_parts s p r q hs hp hr hq hab
  omega

theorem product_c (a b : Int) (h0 : 0 ≤ a) (h1 : a < 18446744073709551616) (h2 : 0 ≤ b) (h3 : b < 18446744073709551616) (w : World) :
    Calls Try.prog 66 #[.int .u64 a, .int .u64 b] w fun e w' => e = .returned (.agg #[.int .u64 (hiW (a * b)), .int .u64 (loW (a * b))]) ∧ Below w.heap.size w w' := by
  have H := Lib.hid (prod_hi a b h0 h1 h2 h3)
  go_enter Try.func66, Try.ntmps66
  go_wp2
  refine bodyPost_ret (v := .agg #[.int .u64 (hiW (a * b)), .int .u64 (loW (a * b))]) ?_ rfl ⟨rfl, (Below.refl _ _).alloc (Nat.le_refl _) _⟩
  simp [results, Try.results66, go_sem]
  exact ⟨H.out, by rw [IntKind.wrap_u64]; rfl⟩

theorem negative_c (h l : Int) (h0 : 0 ≤ h) (h1 : h < 18446744073709551616) (w : World) :
    Calls Try.prog 56 #[.agg #[.int .u64 h, .int .u64 l]] w fun e w' => e = .returned (.bool (decide (9223372036854775808 ≤ h))) ∧ Below w.heap.size w w' := by
  go_enter Try.func56, Try.ntmps56
  go_wp2
  go_ret
  refine ⟨ret_bool ?_, (Below.refl _ _).alloc (Nat.le_refl _) _⟩
  rw [Bool.eq_iff_iff]; simp; omega

/-- a sum of two halves -/
theorem plus_lo (h1 l1 h2 l2 V : Int) (a1 : 0 ≤ l1 ∧ l1 < 18446744073709551616) (a2 : 0 ≤ l2 ∧ l2 < 18446744073709551616) (c : IntKind.u64.wrap (l1 + l2) < l1)
    (e : ∃ k : Int, V = (h1 + h2) * 18446744073709551616 + (l1 + l2) + k * 340282366920938463463374607431768211456) (hV : 0 ≤ V ∧ V < 340282366920938463463374607431768211456) :
    IntKind.u64.wrap (IntKind.u64.wrap (h1 + h2) + 1) = hiW V ∧ IntKind.u64.wrap (l1 + l2) = loW V := by
  obtain ⟨k, rfl⟩ := e
  simp only [IntKind.wrap_u64, hiW, loW] at *
  omega
theorem plus_hi (h1 l1 h2 l2 V : Int) (a1 : 0 ≤ l1 ∧ l1 < 18446744073709551616) (a2 : 0 ≤ l2 ∧ l2 < 18446744073709551616) (c : ¬ IntKind.u64.wrap (l1 + l2) < l1)
    (e : ∃ k : Int, V = (h1 + h2) * 18446744073709551616 + (l1 + l2) + k * 340282366920938463463374607431768211456) (hV : 0 ≤ V ∧ V < 340282366920938463463374607431768211456) :
    IntKind.u64.wrap (h1 + h2) = hiW V ∧ IntKind.u64.wrap (l1 + l2) = loW V := by
  obtain ⟨k, rfl⟩ := e
  simp only [IntKind.wrap_u64, hiW, loW] at *
  omega

theorem plus_c (h1 l1 h2 l2 V : Int) (a1 : 0 ≤ l1 ∧ l1 < 18446744073709551616) (a2 : 0 ≤ l2 ∧ l2 < 18446744073709551616)
    (e : ∃ k : Int, V = (h1 + h2) * 18446744073709551616 + (l1 + l2) + k * 340282366920938463463374607431768211456) (hV : 0 ≤ V ∧ V < 340282366920938463463374607431768211456) (w : World) :
    Calls Try.prog 54 #[.agg #[.int .u64 h1, .int .u64 l1], .agg #[.int .u64 h2, .int .u64 l2]] w fun e w' => e = .returned (.agg #[.int .u64 (hiW V), .int .u64 (loW V)]) ∧ Below w.heap.size w w' := by
  by_cases c : IntKind.u64.wrap (l1 + l2) < l1
  · have H := Lib.hid (plus_lo h1 l1 h2 l2 V a1 a2 c e hV)
    clear e hV a1 a2
    go_enter Try.func54, Try.ntmps54
    go_wp2
    refine bodyPost_ret (v := .agg #[.int .u64 (hiW V), .int .u64 (loW V)]) ?_ rfl ⟨rfl, ?_⟩
    · simp [results, Try.results54, go_sem]
      exact H.out
    · exact ((((Below.refl _ _).alloc (Nat.le_refl _) _).alloc (by simp) _).alloc (by simp; omega) _).alloc (by simp; omega) _
  · have H := Lib.hid (plus_hi h1 l1 h2 l2 V a1 a2 c e hV)
    have c' : l1 ≤ IntKind.u64.wrap (l1 + l2) := by omega
    clear e hV a1 a2 c
    go_enter Try.func54, Try.ntmps54
    go_wp2
    refine bodyPost_ret (v := .agg #[.int .u64 (hiW V), .int .u64 (loW V)]) ?_ rfl ⟨rfl, ?_⟩
    · simp [results, Try.results54, go_sem]
      exact H.out
    · exact ((((Below.refl _ _).alloc (Nat.le_refl _) _).alloc (by simp) _).alloc (by simp; omega) _).alloc (by simp; omega) _

end Go.Proofs.Ytieabeodommbiaa
