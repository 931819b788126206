/- Contracts of package rat, walked: minus, gcd. -/
import Derived.Test.YtieabeodommbiaaRa
import Derived.LoopTactic
import Derived.Deep.QuietTactic
import Derived.BigQuiet
namespace Go.Proofs.Ytieabeodommbiaa
open Go.RowKit
set_option maxHeartbeats 400000

theorem not64 (h : Int) (h0 : 0 ≤ h) (h1 : h < 18446744073709551616) : bits BinOp.xor IntKind.u64 IntKind.u64.max h = 18446744073709551615 - h := by
  have hm : IntKind.u64.max = 18446744073709551615 := by decide
  have key : (BitVec.ofInt 64 18446744073709551615 ^^^ BitVec.ofInt 64 h).toNat = 18446744073709551615 - h.toNat := by
    have e1 : BitVec.ofInt 64 18446744073709551615 = BitVec.allOnes 64 := by decide
    have e2 : (BitVec.ofInt 64 h).toNat = h.toNat := by rw [BitVec.toNat_ofInt]; omega
    rw [e1, BitVec.allOnes_xor, BitVec.toNat_not, e2]
  rw [hm]
  show IntKind.u64.wrap ((BitVec.ofInt 64 18446744073709551615 ^^^ BitVec.ofInt 64 h).toNat : Nat) = _
  rw [key, IntKind.wrap_u64]
  omega

theorem minus_c (h l V : Int) (a1 : 0 ≤ h ∧ h < 18446744073709551616) (a2 : 0 ≤ l ∧ l < 18446744073709551616) (e : ∃ k : Int, V = -(h * 18446744073709551616 + l) + k * 340282366920938463463374607431768211456)
    (hV : 0 ≤ V ∧ V < 340282366920938463463374607431768211456) (w : World) :
    Calls Try.prog 55 #[.agg #[.int .u64 h, .int .u64 l]] w fun e w' => e = .returned (.agg #[.int .u64 (hiW V), .int .u64 (loW V)]) ∧ Below w.heap.size w w' := by
  have H1 := Lib.hid (not64 h a1.1 a1.2)
  have H2 := Lib.hid (not64 l a2.1 a2.2)
  have P := Lib.hid (fun w => plus_c (18446744073709551615 - h) (18446744073709551615 - l) 0 1 V (by omega) (by omega) (by obtain ⟨k, hk⟩ := e; exact ⟨k - 1, by omega⟩) hV w)
  have hs : IntKind.u64.signed = false := rfl
  clear e hV a1 a2
  go_enter Try.func55, Try.ntmps55
  go_wp2_with fail
  rw [H1.out, H2.out]
  refine (P.out _).mono ?_
  rintro e w1 ⟨rfl, hb1⟩
  have hz : w.heap.size + 1 < w1.heap.size := by have := hb1.size; simp at this; omega
  have hc1 : w1.cell? ⟨w.heap.size + 1, 0, none⟩ = some (.int .u64 0) := by rw [hb1.cell (p := ⟨w.heap.size + 1, 0, none⟩) (by simp)]; simp
  have hc2 : w1.cell? ⟨w.heap.size + 1, 1, none⟩ = some (.int .u64 0) := by rw [hb1.cell (p := ⟨w.heap.size + 1, 1, none⟩) (by simp)]; simp
  have hf : ∀ o, w1.frozen? ⟨w.heap.size + 1, o, none⟩ = false := fun o => by rw [hb1.frozen (p := ⟨w.heap.size + 1, o, none⟩) (by simp)]; simp
  go_wp2
  refine bodyPost_ret (v := .agg #[.int .u64 (hiW V), .int .u64 (loW V)]) ?_ rfl ⟨rfl, ?_⟩
  · simp [results, Try.results55, go_sem, hc1, hc2]
  · exact (((((Below.refl _ _).alloc (Nat.le_refl _) _).alloc (by simp) _).trans (hb1.mono (by simp; omega))).setCell (by simp) _).setCell (by simp) _

theorem below_drewN (w : World) (n : Nat) : Below w.heap.size w (w.drewN n) := ⟨rfl, rfl, rfl, Nat.le_refl _, fun _ _ => rfl⟩

def gcdI (x y : Int) : Int := max (Int.gcd x y) 1
def gk (x y : Int) : Nat → Int
  | 0 => 0
  | 1 => x
  | _ => Int.gcd x y

theorem gcd_step (u v g : Int) (hu : 0 ≤ u) (hv : 0 ≤ v) (h : (Int.gcd u v : Int) = g) : (Int.gcd v (u % v) : Int) = g := by
  rw [← h]
  congr 1
  obtain ⟨m, rfl⟩ := Int.eq_ofNat_of_zero_le hu
  obtain ⟨n, rfl⟩ := Int.eq_ofNat_of_zero_le hv
  show Nat.gcd n (m % n) = Nat.gcd m n
  rw [Nat.gcd_comm m n, Nat.gcd_comm n (m % n), ← Nat.gcd_rec]

theorem gcd_c (x y : Int) (hx : 0 ≤ x ∧ x < 18446744073709551616) (hy : 0 ≤ y ∧ y < 18446744073709551616) (b off : Nat) (w : World) (c0 : w.cell? ⟨b, off, none⟩ = some (.int .u64 x)) (c1 : w.cell? ⟨b, off + 1, none⟩ = some (.int .u64 y)) :
    Calls Try.prog 62 #[.slice (some ⟨b, off, none⟩) 2 2] w fun e w' => e = .returned (.int .u64 (gcdI x y)) ∧ Below w.heap.size w w' := by
  go_enter Try.func62, Try.ntmps62
  go_wp2
  go_loopw [3, 8] (fun c i wr => ∃ k : Nat, k ≤ 2 ∧ i = .int .i64 k ∧ c = .int .u64 (gk x y k) ∧ ∃ n, wr = w.drewN n) (fun _ i _ => 2 - (intOf i).toNat)
  case atStart => exact ⟨0, by omega, rfl, rfl, 0, rfl⟩
  case round =>
    obtain ⟨k, hk, rfl, rfl, n, rfl⟩ := hrel
    rcases k with _ | _ | _ | k
    · go_wp2
      go_loopw [3, 5] (fun c v wr => ∃ p q : Int, 0 ≤ p ∧ p < 18446744073709551616 ∧ 0 ≤ q ∧ q < 18446744073709551616 ∧ (Int.gcd p q : Int) = gk x y 1 ∧ c = .int .u64 p ∧ v = .int .u64 q ∧ ∃ n, wr = w.drewN n) (fun _ v _ => (intOf v).toNat)
      case atStart => exact ⟨gk x y 0, x, by simp [gk], by simp [gk], hx.1, hx.2, by simp [gk]; omega, rfl, rfl, n, rfl⟩
      case round =>
        obtain ⟨p, q, p0, p1, q0, q1, hg, rfl, rfl, m, rfl⟩ := hrel
        have H := Lib.hid hg
        by_cases hq : 1 ≤ q
        · have H2 := Lib.hid (gcd_step p q _ p0 q0 hg)
          have hqn : (q != 0) = true := by rw [bne_iff_ne]; omega
          have m0 : 0 ≤ p % q := Int.emod_nonneg p (by omega)
          have m1 : p % q < q := Int.emod_lt_of_pos p (by omega)
          clear hg
          go_wp2
          go_quiet (fail)
          go_wp2
          go_roundw
          case rel => exact ⟨q, p % q, by omega, by omega, by omega, by omega, H2.out, rfl, rfl, _, World.drewN_drewN _ _ _⟩
          case measure => simp [intOf]; omega
        · obtain rfl : q = 0 := by omega
          have e : gk x y 1 = p := by rw [← hg]; simp; omega
          have E := Lib.hid e
          clear hg e
          go_wp2
          go_roundw
          case rel => exact ⟨1, by omega, by go_num, by rw [E.out], _, rfl⟩
          case measure => simp [intOf]
    · go_wp2
      go_loopw [3, 5] (fun c v wr => ∃ p q : Int, 0 ≤ p ∧ p < 18446744073709551616 ∧ 0 ≤ q ∧ q < 18446744073709551616 ∧ (Int.gcd p q : Int) = gk x y 2 ∧ c = .int .u64 p ∧ v = .int .u64 q ∧ ∃ n, wr = w.drewN n) (fun _ v _ => (intOf v).toNat)
      case atStart => exact ⟨gk x y 1, y, hx.1, hx.2, hy.1, hy.2, rfl, rfl, rfl, n, rfl⟩
      case round =>
        obtain ⟨p, q, p0, p1, q0, q1, hg, rfl, rfl, m, rfl⟩ := hrel
        have H := Lib.hid hg
        by_cases hq : 1 ≤ q
        · have H2 := Lib.hid (gcd_step p q _ p0 q0 hg)
          have hqn : (q != 0) = true := by rw [bne_iff_ne]; omega
          have m0 : 0 ≤ p % q := Int.emod_nonneg p (by omega)
          have m1 : p % q < q := Int.emod_lt_of_pos p (by omega)
          clear hg
          go_wp2
          go_quiet (fail)
          go_wp2
          go_roundw
          case rel => exact ⟨q, p % q, by omega, by omega, by omega, by omega, H2.out, rfl, rfl, _, World.drewN_drewN _ _ _⟩
          case measure => simp [intOf]; omega
        · obtain rfl : q = 0 := by omega
          have e : gk x y 2 = p := by rw [← hg]; simp; omega
          have E := Lib.hid e
          clear hg e
          go_wp2
          go_roundw
          case rel => exact ⟨2, by omega, by go_num, by rw [E.out], _, rfl⟩
          case measure => simp [intOf]
    · go_wp2
      · go_ret
        have h1 : gk x y 2 < 1 := by assumption
        exact ⟨ret_u64 (by unfold gcdI; simp only [gk] at h1; omega), below_drewN w n⟩
      · go_ret
        have h1 : 1 ≤ gk x y 2 := by assumption
        exact ⟨ret_u64 (by unfold gcdI; simp only [gk] at h1 ⊢; omega), below_drewN w n⟩
    · omega

end Go.Proofs.Ytieabeodommbiaa
