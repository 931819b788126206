/- The mathematics of long division. -/
import Derived.Test.YtieabeodommbiaaRb
namespace Go.Proofs.Ytieabeodommbiaa
set_option linter.unusedVariables false

theorem or64 (x y : Int) (i : Nat) (hy : 0 ≤ y) (hyi : y < 2 ^ i) (q : Int) (hq : 0 ≤ q) (hx : x = q * 2 ^ i) (hs : x + y < 18446744073709551616) : bits BinOp.or IntKind.u64 x y = x + y := by
  subst hx
  obtain ⟨q, rfl⟩ := Int.eq_ofNat_of_zero_le hq
  obtain ⟨y, rfl⟩ := Int.eq_ofNat_of_zero_le hy
  have hyi' : y < 2 ^ i := by exact_mod_cast hyi
  have e : 2 ^ i * q + y = 2 ^ i * q ||| y := Nat.two_pow_add_eq_or_of_lt hyi' q
  have hcast : ((q : Int) * 2 ^ i) = ((2 ^ i * q : Nat) : Int) := by rw [Int.natCast_mul, Int.natCast_pow, Int.mul_comm]; rfl
  rw [hcast] at hs ⊢
  generalize hz : 2 ^ i * q = z at *
  have t1 : (BitVec.ofInt 64 (z : Int)).toNat = z := by rw [BitVec.toNat_ofInt]; omega
  have t2 : (BitVec.ofInt 64 (y : Int)).toNat = y := by rw [BitVec.toNat_ofInt]; omega
  show IntKind.u64.wrap ((BitVec.ofInt 64 (z : Int) ||| BitVec.ofInt 64 (y : Int)).toNat : Nat) = _
  rw [BitVec.toNat_or, t1, t2, ← e, IntKind.wrap_u64]
  omega

/-- what has been looked at after k rounds -/
def dX (h1 l : Int) (k : Nat) : Int := h1 * 2 ^ k + l / 2 ^ (64 - k)
def dR (h1 l d : Int) (k : Nat) : Int := dX h1 l k % d
def dL (h1 l d : Int) (k : Nat) : Int := dX h1 l k / d * 2 ^ (64 - k)
def bitAt (l : Int) (k : Nat) : Int := l / 2 ^ (63 - k) % 2

theorem dX_succ (h1 l : Int) (k : Nat) (hk : k < 64) : dX h1 l (k + 1) = 2 * dX h1 l k + bitAt l k := by
  unfold dX bitAt
  have e1 : 64 - (k + 1) = 63 - k := by omega
  have e2 : 64 - k = 63 - k + 1 := by omega
  rw [e1, e2, Int.pow_succ, Int.pow_succ]
  have e3 : l / (2 ^ (63 - k) * 2) = l / 2 ^ (63 - k) / 2 := (Int.ediv_ediv_of_nonneg (Int.le_of_lt (Int.pow_pos (by omega)))).symm
  rw [e3]
  generalize l / 2 ^ (63 - k) = z
  generalize (2 : Int) ^ k = y
  have := Int.mul_assoc h1 y 2
  omega

theorem bitAt_01 (l : Int) (k : Nat) : 0 ≤ bitAt l k ∧ bitAt l k < 2 := by unfold bitAt; omega

theorem d_step (h1 l d : Int) (k : Nat) (hk : k < 64) (hd : 1 ≤ d) (h0 : 0 ≤ h1) (hl : 0 ≤ l) :
    (d ≤ 2 * dR h1 l d k + bitAt l k → dR h1 l d (k + 1) = 2 * dR h1 l d k + bitAt l k - d ∧ dL h1 l d (k + 1) = dL h1 l d k + 2 ^ (63 - k)) ∧
    (2 * dR h1 l d k + bitAt l k < d → dR h1 l d (k + 1) = 2 * dR h1 l d k + bitAt l k ∧ dL h1 l d (k + 1) = dL h1 l d k) := by
  unfold dR dL
  rw [dX_succ h1 l k hk]
  have hb := bitAt_01 l k
  generalize bitAt l k = b at *
  have hX := Int.mul_ediv_add_emod (dX h1 l k) d
  have r0 := Int.emod_nonneg (dX h1 l k) (show d ≠ 0 by omega)
  have r1 := Int.emod_lt_of_pos (dX h1 l k) (show 0 < d by omega)
  generalize dX h1 l k = X at *
  generalize X / d = Q at *
  generalize X % d = R at *
  have e2 : 64 - k = 63 - k + 1 := by omega
  have e1 : 64 - (k + 1) = 63 - k := by omega
  rw [e1, e2, Int.pow_succ]
  have hXe : 2 * X + b = d * (2 * Q) + (2 * R + b) := by rw [← hX]; grind
  constructor
  · intro hge
    have hXe2 : 2 * X + b = (2 * R + b - d) + d * (2 * Q + 1) := by rw [hXe]; grind
    have q1 : (2 * X + b) / d = 2 * Q + 1 := by
      rw [hXe2, Int.add_mul_ediv_left _ _ (by omega), Int.ediv_eq_zero_of_lt (by omega) (by omega)]; omega
    have q2 : (2 * X + b) % d = 2 * R + b - d := by
      rw [hXe2, Int.add_mul_emod_self_left, Int.emod_eq_of_lt (by omega) (by omega)]
    rw [q1, q2]
    exact ⟨rfl, by grind⟩
  · intro hlt
    have hXe2 : 2 * X + b = (2 * R + b) + d * (2 * Q) := by rw [hXe]; grind
    have q1 : (2 * X + b) / d = 2 * Q := by
      rw [hXe2, Int.add_mul_ediv_left _ _ (by omega), Int.ediv_eq_zero_of_lt (by omega) (by omega)]; omega
    have q2 : (2 * X + b) % d = 2 * R + b := by
      rw [hXe2, Int.add_mul_emod_self_left, Int.emod_eq_of_lt (by omega) (by omega)]
    rw [q1, q2]
    exact ⟨rfl, by grind⟩

theorem dR_bd (h1 l d : Int) (k : Nat) (hd : 1 ≤ d) : 0 ≤ dR h1 l d k ∧ dR h1 l d k < d :=
  ⟨Int.emod_nonneg _ (by omega), Int.emod_lt_of_pos _ (by omega)⟩

theorem dX_lt (h1 l d : Int) (k : Nat) (hk : k ≤ 64) (hd : 1 ≤ d) (h0 : 0 ≤ h1) (h1d : h1 < d) (hl : 0 ≤ l) (hl2 : l < 18446744073709551616) : 0 ≤ dX h1 l k ∧ dX h1 l k < d * 2 ^ k := by
  have p : (0 : Int) < 2 ^ k := Int.pow_pos (by omega)
  have p2 : (0 : Int) < 2 ^ (64 - k) := Int.pow_pos (by omega)
  have pp : (2 : Int) ^ (64 - k) * 2 ^ k = 18446744073709551616 := by rw [← Int.pow_add, show 64 - k + k = 64 by omega]; rfl
  have z0 : 0 ≤ l / 2 ^ (64 - k) := Int.ediv_nonneg hl (by omega)
  have z1 : l / 2 ^ (64 - k) < 2 ^ k := Int.ediv_lt_of_lt_mul p2 (by rw [Int.mul_comm, pp]; exact hl2)
  unfold dX
  generalize l / 2 ^ (64 - k) = z at *
  generalize (2 : Int) ^ k = y at *
  constructor
  · have := Int.mul_nonneg h0 (Int.le_of_lt p); omega
  · have := Int.mul_le_mul_of_nonneg_right (show h1 + 1 ≤ d by omega) (Int.le_of_lt p)
    rw [Int.add_mul] at this
    omega

theorem dL_bd (h1 l d : Int) (k : Nat) (hk : k ≤ 64) (hd : 1 ≤ d) (h0 : 0 ≤ h1) (h1d : h1 < d) (hl : 0 ≤ l) (hl2 : l < 18446744073709551616) : 0 ≤ dX h1 l k / d ∧ 0 ≤ dL h1 l d k ∧ dL h1 l d k + 2 ^ (64 - k) ≤ 18446744073709551616 := by
  obtain ⟨x0, x1⟩ := dX_lt h1 l d k hk hd h0 h1d hl hl2
  have p : (0 : Int) < 2 ^ k := Int.pow_pos (by omega)
  have p2 : (0 : Int) < 2 ^ (64 - k) := Int.pow_pos (by omega)
  have pp : (2 : Int) ^ k * 2 ^ (64 - k) = 18446744073709551616 := by rw [← Int.pow_add, show k + (64 - k) = 64 by omega]; rfl
  have q0 : 0 ≤ dX h1 l k / d := Int.ediv_nonneg x0 (by omega)
  have q1 : dX h1 l k / d < 2 ^ k := Int.ediv_lt_of_lt_mul (by omega) (by rw [Int.mul_comm]; exact x1)
  unfold dL
  generalize dX h1 l k / d = q at *
  have := Int.mul_le_mul_of_nonneg_right (show q + 1 ≤ 2 ^ k by omega) (Int.le_of_lt p2)
  rw [pp, Int.add_mul] at this
  exact ⟨q0, Int.mul_nonneg q0 (by omega), by omega⟩

theorem d_zero (h1 l d : Int) (h0 : 0 ≤ h1) (h1d : h1 < d) (hl : 0 ≤ l ∧ l < 18446744073709551616) : dR h1 l d 0 = h1 ∧ dL h1 l d 0 = 0 := by
  have e : dX h1 l 0 = h1 := by
    unfold dX
    rw [show (64 - 0 : Nat) = 64 from rfl, show (2 : Int) ^ 64 = 18446744073709551616 from rfl, Int.pow_zero]; omega
  unfold dR dL
  rw [e, Int.emod_eq_of_lt h0 h1d, Int.ediv_eq_zero_of_lt h0 h1d]
  exact ⟨rfl, Int.zero_mul _⟩

theorem d_end (h l d : Int) (hh : 0 ≤ h ∧ h < 18446744073709551616) (hl : 0 ≤ l ∧ l < 18446744073709551616) (hd : 1 ≤ d) :
    h / d = hiW ((h * 18446744073709551616 + l) / d) ∧ dL (h % d) l d 64 = loW ((h * 18446744073709551616 + l) / d) ∧ dR (h % d) l d 64 = (h * 18446744073709551616 + l) % d := by
  have r0 := Int.emod_nonneg h (show d ≠ 0 by omega)
  have r1 := Int.emod_lt_of_pos h (show 0 < d by omega)
  have x := dX_lt (h % d) l d 64 (by omega) hd r0 r1 hl.1 hl.2
  have ex : dX (h % d) l 64 = h % d * 18446744073709551616 + l := by
    unfold dX
    rw [show (2 : Int) ^ 64 = 18446744073709551616 from rfl, show (64 - 64 : Nat) = 0 from rfl, Int.pow_zero, Int.ediv_one]
  have hdm := Int.mul_ediv_add_emod h d
  unfold dL dR hiW loW
  rw [ex] at x ⊢
  have e : h * 18446744073709551616 + l = (h % d * 18446744073709551616 + l) + d * (h / d * 18446744073709551616) := by
    generalize h % d = r at *
    generalize h / d = q at *
    rw [← hdm]; grind
  rw [e, Int.add_mul_ediv_left _ _ (by omega), Int.add_mul_emod_self_left]
  have q0 : 0 ≤ (h % d * 18446744073709551616 + l) / d := Int.ediv_nonneg x.1 (by omega)
  have q1 : (h % d * 18446744073709551616 + l) / d < 18446744073709551616 := Int.ediv_lt_of_lt_mul (by omega) (by have := x.2; omega)
  generalize (h % d * 18446744073709551616 + l) / d = z at *
  simp
  omega

end Go.Proofs.Ytieabeodommbiaa
