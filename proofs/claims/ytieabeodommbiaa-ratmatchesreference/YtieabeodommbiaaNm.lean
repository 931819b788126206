/- The reference's floor. -/
import Derived.Test.YtieabeodommbiaaNc
namespace Go.Proofs.Ytieabeodommbiaa
open Go.RowKit
set_option maxRecDepth 100000
set_option linter.unusedVariables false
theorem floor_of {a b : Int} (hb : 1 ≤ b) : (a.tmod b < 0 → a / b = a.tdiv b - 1) ∧ (¬ a.tmod b < 0 → a / b = a.tdiv b) := by
  have h1 := Int.mul_tdiv_add_tmod a b
  have h2 := Int.mul_ediv_add_emod a b
  have h3 := Int.emod_nonneg a (show b ≠ 0 by omega)
  have h4 := Int.emod_lt_of_pos a (show 0 < b by omega)
  have h5 := Int.tmod_lt_of_pos a (show 0 < b by omega)
  have h6 : -b < a.tmod b := by
    have := Int.natAbs_tmod a b
    have h7 : a.natAbs % b.natAbs < b.natAbs := Nat.mod_lt _ (by omega)
    omega
  constructor
  · intro h
    refine (Int.ediv_emod_unique (r := a.tmod b + b) (q := a.tdiv b - 1) (show 0 < b by omega)).2 ⟨?_, by omega, by omega⟩ |>.1
    
    generalize a.tdiv b = q at *
    generalize a.tmod b = r at *
    grind
  · intro h
    refine (Int.ediv_emod_unique (r := a.tmod b) (q := a.tdiv b) (show 0 < b by omega)).2 ⟨?_, by omega, by omega⟩ |>.1
    omega
set_option maxHeartbeats 800000 in
theorem rfloor_c (a b : Int) (a0 : -4611686018427387904 ≤ a) (a1 : a ≤ 4611686018427387904) (b0 : 1 ≤ b) (b1 : b ≤ 4611686018427387904) (W : World) : Calls Try.prog 27 #[.agg #[.int .i64 a, .int .i64 b]] W fun e W' => e = .returned (.int .i64 (a / b)) ∧ Below W.heap.size W W' := by
  have hf := floor_of (a := a) b0
  have hq : -4611686018427387904 ≤ a / b ∧ a / b ≤ 4611686018427387904 := by
    exact ⟨Int.le_ediv_of_mul_le (by omega) (by omega), Int.ediv_le_of_le_mul (by omega) (by omega)⟩
  by_cases h : a.tmod b < 0
  · rw [hf.1 h] at hq ⊢
    have hn : a.tdiv b ≠ 0 ∨ True := .inr trivial
    clear hf hn
    go_enter Try.func27, Try.ntmps27
    go_wp2
    go_ret
    exact ⟨rfl, (Below.refl _ _).alloc (Nat.le_refl _) _⟩
  · rw [hf.2 h] at hq ⊢
    clear hf
    go_enter Try.func27, Try.ntmps27
    go_wp2
    go_ret
    exact ⟨rfl, (Below.refl _ _).alloc (Nat.le_refl _) _⟩
end Go.Proofs.Ytieabeodommbiaa
