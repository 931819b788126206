/- Powers with any exponent: evaluated with letters, a class of exponents at a time. -/
import Derived.Test.YtjphnpbknaedcaaAk
namespace Go.Proofs.Ytjphnpbknaedcaa
open Go.Ev Go.Fl
open Go.RowKit (Below)
set_option linter.unusedSectionVars false
set_option linter.unusedVariables false
variable {F : Gf}

theorem chain_ok' [R : Rho] (h : OpsOk F) {a n : Nat} (ha : a < F.q) (hz : a ≠ 0) (hρ : ∀ k, k < 15 → Rho.ρ k = ((rp F a n k : Nat) : Int)) : ∀ (m t r : Nat) (pw : AV), t + m ≤ 7 → r = n / 2 ^ t → r < 2 ^ m → Nu pw (F.pow a (n % 2 ^ t) : Nat) →
    (∀ G ∈ (chain F m t r pw).1, G.Holds Try.prog 23) ∧ Nu (chain F m t r pw).2 (F.pow a n : Nat) := by
  have hF := ok_mem h.mem
  have stop : ∀ (t r : Nat) (pw : AV), r = n / 2 ^ t → r = 0 → Nu pw (F.pow a (n % 2 ^ t) : Nat) → Nu pw (F.pow a n : Nat) := by
    intro t r pw hr h0 hp
    have : n < 2 ^ t := by
      rw [h0] at hr
      rcases Nat.div_eq_zero_iff.1 hr.symm with h | h
      · exact absurd h (Nat.ne_of_gt (Nat.two_pow_pos t))
      · exact h
    rwa [Nat.mod_eq_of_lt this] at hp
  intro m
  induction m with
  | zero =>
    intro t r pw _ hr hlt hp
    exact ⟨fun G hG => (by cases hG), stop t r pw hr (by simpa using hlt) hp⟩
  | succ m ih =>
    intro t r pw htm hr hlt hp
    unfold chain
    split
    · rename_i h0
      exact ⟨fun G hG => (by cases hG), stop t r pw hr h0 hp⟩
    · rename_i h0
      have p1 : ∀ k, 1 ≤ F.pow a k := fun k => Nat.pos_of_ne_zero (hF.pow_ne hz k)
      have p2 : ∀ k, F.pow a k ≤ F.q - 1 := fun k => by have := hF.pow_lt a k; omega
      have hA : Nu (lv (2 * t) 1 (F.q - 1)) (F.pow a (2 ^ t) : Nat) := by
        refine lv_nu ?_ (p1 _) (p2 _)
        rw [hρ _ (by omega)]
        unfold rp
        rw [if_pos (by omega), show 2 * t / 2 = t by omega]
      have hS : Nu (lv (2 * t + 2) 1 (F.q - 1)) (F.mul (F.pow a (2 ^ t)) (F.pow a (2 ^ t)) : Nat) := by
        rw [hF.pow_add hz]
        refine lv_nu ?_ (p1 _) (p2 _)
        rw [hρ _ (by omega)]
        unfold rp
        rw [if_pos (by omega), show (2 * t + 2) / 2 = t + 1 by omega, show 2 ^ t + 2 ^ t = 2 ^ (t + 1) by rw [Nat.pow_succ]; omega]
      have hm2 : n % 2 ^ (t + 1) = n % 2 ^ t + 2 ^ t * (r % 2) := by rw [Nat.pow_succ, Nat.mod_mul, hr]
      have hO : r % 2 = 1 → Nu (lv (2 * t + 1) 1 (F.q - 1)) (F.pow a (n % 2 ^ (t + 1)) : Nat) := fun _ => by
        refine lv_nu ?_ (p1 _) (p2 _)
        rw [hρ _ (by omega)]
        unfold rp
        rw [if_neg (by omega), show (2 * t + 1) / 2 = t by omega]
      have hN : Nu (if r % 2 = 1 then lv (2 * t + 1) 1 (F.q - 1) else pw) (F.pow a (n % 2 ^ (t + 1)) : Nat) := by
        split
        · rename_i h; exact hO h
        · rename_i h
          rw [hm2, show r % 2 = 0 by omega, Nat.mul_zero, Nat.add_zero]; exact hp
      obtain ⟨k1, k2⟩ := ih (t + 1) (r / 2) _ (by omega) (by rw [hr, Nat.pow_succ, Nat.div_div_eq_div_mul]) (by rw [Nat.pow_succ] at hlt; omega) hN
      refine ⟨fun G hG => ?_, k2⟩
      simp only [List.mem_append, List.mem_cons] at hG
      rcases hG with h' | h' | h'
      · split at h'
        · rename_i ho
          rw [List.mem_singleton.1 h']
          refine fMul h (hF.pow_lt a _) (hF.pow_lt a _) hp hA ?_
          have := hO ho
          rwa [hm2, ho, Nat.mul_one, ← hF.pow_add hz] at this
        · cases h'
      · rw [h']
        exact fMul h (hF.pow_lt a _) (hF.pow_lt a _) hA hA hS
      · exact k1 G h'

/-- the exponents (q - 1) u + r and -(q - 1) u - r -/
def eP (F : Gf) (r : Nat) : AV := .sym .i64 (.bin .add (.bin .mul (.lit (Int.ofNat (F.q - 1))) (.var 99 0 (Int.ofNat (9223372036854775807 / (F.q - 1))))) (.lit (Int.ofNat r))) (Int.ofNat r) 9223372036854775807
def eM (F : Gf) (r : Nat) : AV := .sym .i64 (.bin .sub (.lit (-Int.ofNat r)) (.bin .mul (.lit (Int.ofNat (F.q - 1))) (.var 99 0 (Int.ofNat (9223372036854775808 / (F.q - 1)))))) (-9223372036854775808) (-Int.ofNat r)
def rM (F : Gf) (r : Nat) : Nat := if r = 0 then 0 else F.q - 1 - r
noncomputable def chkPP (F : Gf) (r : Nat) : Bool := chkP 29 [lv 0 1 (F.q - 1), eP F r] r F
noncomputable def chkPM (F : Gf) (r : Nat) : Bool := chkP 29 [lv 0 1 (F.q - 1), eM F r] (rM F r) F
/-- the exponents from lo on -/
noncomputable def chkPs (F : Gf) (lo n : Nat) : Bool := allLt n fun k => chkPP F (lo + k) && chkPM F (lo + k)
abbrev zP : AV := .sym .i64 (.var 98 1 9223372036854775807) 1 9223372036854775807
abbrev zM : AV := .sym .i64 (.var 98 (-9223372036854775808) (-1)) (-9223372036854775808) (-1)
noncomputable def chkZs (F : Gf) : Bool := chkZ 29 [I 0, zP] (.tup [I 0, I 0]) F && (chkZ 29 [I 0, I 0] (.tup [I 1, I 0]) F && chkZ 29 [I 0, zM] (.tup [I 0, I 3]) F)
end Go.Proofs.Ytjphnpbknaedcaa
