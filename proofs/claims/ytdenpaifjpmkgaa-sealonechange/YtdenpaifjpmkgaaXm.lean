/- Lists that differ in one number, or in one byte, have different digests. -/
import Derived.Test.YtdenpaifjpmkgaaXb
namespace Go.Proofs.Ytdenpaifjpmkgaa
open Go.Ev
set_option linter.unusedVariables false
set_option maxRecDepth 100000

theorem bv_inj {a b : Int} (ha : u64 a) (hb : u64 b) (h : bv a = bv b) : a = b := by rw [← nu_bv ha, ← nu_bv hb, h]
theorem stepI_inj {h w v : Int} (hw : u64 w) (hv : u64 v) (e : stepI h w = stepI h v) : w = v := bv_inj hw hv (step_inj (nu_inj e))
theorem stepI_inj' {h g w : Int} (hh : u64 h) (hg : u64 g) (e : stepI h w = stepI g w) : h = g := bv_inj hh hg (step_inj' (nu_inj e))

theorem words_ne {l l' : List Int} {i : Nat} (hl : l.length = l'.length) (hi : i < l.length) (h1 : ∀ n ∈ l, i64 n) (h2 : ∀ n ∈ l', i64 n) (hs : ∀ j, j ≠ i → l.getD j 0 = l'.getD j 0) (hne : l.getD i 0 ≠ l'.getD i 0) : wF0 l ≠ wF0 l' := by
  have before : ∀ j, j ≤ i → wF0 (l.take j) = wF0 (l'.take j) := by
    intro j
    induction j with
    | zero => intro _; simp
    | succ j ih =>
      intro hj
      rw [wF0_succ (by omega), wF0_succ (by omega), ih (by omega), hs j (by omega)]
  have m64 : ∀ n : Int, u64 (n % 18446744073709551616) := fun n => by unfold u64; omega
  have behind : ∀ d, i + 1 + d ≤ l.length → wF0 (l.take (i + 1 + d)) ≠ wF0 (l'.take (i + 1 + d)) := by
    intro d
    induction d with
    | zero =>
      intro _ e
      rw [Nat.add_zero, wF0_succ hi, wF0_succ (by omega), before i (Nat.le_refl _)] at e
      have := stepI_inj (m64 _) (m64 _) e
      have a1 : i64 (l.getD i 0) := h1 _ (by simp [List.getD, hi])
      have a2 : i64 (l'.getD i 0) := h2 _ (by simp [List.getD, show i < l'.length by omega])
      unfold i64 at a1 a2
      omega
    | succ d ih =>
      intro hd e
      rw [← Nat.add_assoc, wF0_succ (by omega), wF0_succ (by omega), hs (i + 1 + d) (by omega)] at e
      exact ih (by omega) (stepI_inj' (wF0_u64 _) (wF0_u64 _) e)
  have := behind (l.length - (i + 1)) (by omega)
  rw [show i + 1 + (l.length - (i + 1)) = l.length by omega, List.take_length, hl, List.take_length] at this
  exact this

theorem or_add {g x : Int} {r : Nat} (hr : r < 8) (h0 : 0 ≤ g) (h1 : g < 256 ^ r) (hx : byt x) : orI g (shlI x ((8 * r : Nat) : Int)) = g + x * 256 ^ r ∧ g + x * 256 ^ r < 256 ^ (r + 1) := by
  obtain ⟨a, rfl⟩ := Int.eq_ofNat_of_zero_le h0
  obtain ⟨b, rfl⟩ := Int.eq_ofNat_of_zero_le hx.1
  have hb : b ≤ 255 := by have := hx.2; omega
  have hpow : ∀ n : Nat, (256 : Nat) ^ n = 2 ^ (8 * n) := fun n => by rw [Nat.pow_mul]
  have ha : a < 256 ^ r := by exact_mod_cast h1
  have hlt : a + b * 256 ^ r < 256 ^ (r + 1) := by
    rw [Nat.pow_succ]
    have : b * 256 ^ r ≤ 255 * 256 ^ r := Nat.mul_le_mul_right _ hb
    omega
  have hle : (256 : Nat) ^ (r + 1) ≤ 256 ^ 8 := Nat.pow_le_pow_right (by omega) (by omega)
  have h64 : (256 : Nat) ^ 8 = 18446744073709551616 := by decide
  have hsh : shlI (b : Int) ((8 * r : Nat) : Int) = ((b * 256 ^ r : Nat) : Int) := by
    unfold shlI wapp
    have e1 : ((8 * r : Nat) : Int).toNat = 8 * r := by omega
    simp only [IntKind.bits]
    rw [e1, Nat.min_eq_left (by omega)]
    have : (b : Int) * 2 ^ (8 * r) = ((b * 256 ^ r : Nat) : Int) := by rw [hpow]; push_cast; rfl
    rw [this]
    exact IntWalk.u64_in _ (by have : b * 256 ^ r < 18446744073709551616 := by omega
                               omega)
  rw [hsh]
  refine ⟨?_, by exact_mod_cast hlt⟩
  have a64 : a < 18446744073709551616 := by omega
  have b64 : b * 256 ^ r < 18446744073709551616 := by omega
  show IntKind.u64.wrap ((BitVec.ofInt 64 (a : Int) ||| BitVec.ofInt 64 ((b * 256 ^ r : Nat) : Int)).toNat : Int) = _
  have e2 : (BitVec.ofInt 64 (a : Int) ||| BitVec.ofInt 64 ((b * 256 ^ r : Nat) : Int)).toNat = a + b * 256 ^ r := by
    rw [BitVec.toNat_or, BitVec.toNat_ofInt, BitVec.toNat_ofInt]
    have c1 : ((a : Int) % ((2 ^ 64 : Nat) : Int)).toNat = a := by omega
    have c2 : (((b * 256 ^ r : Nat) : Int) % ((2 ^ 64 : Nat) : Int)).toNat = b * 256 ^ r := by omega
    rw [c1, c2, Nat.or_comm]
    have := Nat.shiftLeft_add_eq_or_of_lt (b := a) (i := 8 * r) (by rw [← hpow]; exact ha) b
    rw [Nat.shiftLeft_eq, ← hpow] at this
    rw [← this]; omega
  rw [e2]
  have := IntWalk.u64_in ((a + b * 256 ^ r : Nat) : Int) (by omega)
  rw [this]; push_cast; rfl

section
variable {l : List Int} (hb : ∀ n ∈ l, byt n)
include hb
theorem get_byt (j : Nat) : byt (l.getD j 0) := by
  by_cases h : j < l.length
  · exact hb _ (by simp [List.getD, h])
  · simp [List.getD, List.getElem?_eq_none (Nat.le_of_not_lt h), byt]
/-- a group so far is small -/
theorem grp (j : Nat) (hj : j ≤ l.length) : 0 ≤ (bSt l j).2 ∧ (bSt l j).2 < 256 ^ (j % 8) := by
  induction j with
  | zero => exact ⟨Int.le_refl _, by show (0 : Int) < 256 ^ (0 % 8); decide⟩
  | succ j ih =>
    obtain ⟨i1, i2⟩ := ih (by omega)
    simp only [bSt]
    split
    · rename_i h7
      have h8 : j % 8 ≠ 7 := fun h => by unfold qX at h7; rw [if_pos h] at h7; omega
      obtain ⟨o1, o2⟩ := or_add (by omega) i1 i2 (get_byt hb j)
      show 0 ≤ orI _ _ ∧ orI _ _ < _
      rw [o1, show (j + 1) % 8 = j % 8 + 1 by omega]
      have hp : (0 : Int) < 256 ^ (j % 8) := Int.pow_pos (by omega)
      have := Int.mul_nonneg (get_byt hb j).1 (Int.le_of_lt hp)
      exact ⟨by omega, o2⟩
    · exact ⟨Int.le_refl _, Int.pow_pos (by omega)⟩
end

theorem bytes_ne {l l' : List Int} {i : Nat} (hl : l.length = l'.length) (hi : i < l.length) (h1 : ∀ n ∈ l, byt n) (h2 : ∀ n ∈ l', byt n) (hs : ∀ j, j ≠ i → l.getD j 0 = l'.getD j 0) (hne : l.getD i 0 ≠ l'.getD i 0) : bF0 l ≠ bF0 l' := by
  have before : ∀ j, j ≤ i → bSt l j = bSt l' j := by
    intro j
    induction j with
    | zero => intro _; rfl
    | succ j ih =>
      intro hj
      simp only [bSt]
      rw [ih (by omega), hs j (by omega), hl]
  have behind : ∀ d, i + 1 + d ≤ l.length → ((bSt l (i + 1 + d)).1 = (bSt l' (i + 1 + d)).1 ∧ (bSt l (i + 1 + d)).2 ≠ (bSt l' (i + 1 + d)).2) ∨ ((bSt l (i + 1 + d)).1 ≠ (bSt l' (i + 1 + d)).1 ∧ (bSt l (i + 1 + d)).2 = (bSt l' (i + 1 + d)).2) := by
    intro d
    induction d with
    | zero =>
      intro _
      simp only [bSt]
      rw [← hl, ← before i (Nat.le_refl _)]
      obtain ⟨i1, i2⟩ := grp h1 i (by omega)
      obtain ⟨o1, _⟩ := or_add (by omega) i1 i2 (get_byt h1 i)
      obtain ⟨o2, _⟩ := or_add (by omega) i1 i2 (get_byt h2 i)
      have hp : (0 : Int) < 256 ^ (i % 8) := Int.pow_pos (by omega)
      have hG : orI (bSt l i).2 (shlI (l.getD i 0) ((8 * (i % 8) : Nat) : Int)) ≠ orI (bSt l i).2 (shlI (l'.getD i 0) ((8 * (i % 8) : Nat) : Int)) := fun e => by
        rw [o1, o2] at e
        have e' : l.getD i 0 * 256 ^ (i % 8) = l'.getD i 0 * 256 ^ (i % 8) := by omega
        exact hne (Int.eq_of_mul_eq_mul_right (by omega) e')
      split
      · exact .inl ⟨rfl, hG⟩
      · exact .inr ⟨fun e => hG (stepI_inj (orI_u64 _ _) (orI_u64 _ _) e), rfl⟩
    | succ d ih =>
      intro hd
      have ih := ih (by omega)
      rw [← Nat.add_assoc]
      simp only [bSt]
      rw [← hl, ← hs (i + 1 + d) (by omega)]
      obtain ⟨i1, i2⟩ := grp h1 (i + 1 + d) (by omega)
      obtain ⟨j1, j2⟩ := grp h2 (i + 1 + d) (by omega)
      obtain ⟨o1, _⟩ := or_add (by omega) i1 i2 (get_byt h1 (i + 1 + d))
      obtain ⟨o2, _⟩ := or_add (by omega) j1 j2 (get_byt h1 (i + 1 + d))
      rcases ih with ⟨a1, a2⟩ | ⟨a1, a2⟩
      · have hG : orI (bSt l (i + 1 + d)).2 (shlI (l.getD (i + 1 + d) 0) ((8 * ((i + 1 + d) % 8) : Nat) : Int)) ≠ orI (bSt l' (i + 1 + d)).2 (shlI (l.getD (i + 1 + d) 0) ((8 * ((i + 1 + d) % 8) : Nat) : Int)) := fun e => by
          rw [o1, o2] at e; exact a2 (by omega)
        split
        · exact .inl ⟨a1, hG⟩
        · refine .inr ⟨fun e => ?_, rfl⟩
          simp only at e
          rw [a1] at e
          exact hG (stepI_inj (orI_u64 _ _) (orI_u64 _ _) e)
      · split
        · exact .inr ⟨a1, by simp only; rw [a2]⟩
        · refine .inr ⟨fun e => ?_, rfl⟩
          simp only at e
          rw [a2] at e
          exact a1 (stepI_inj' (bSt_u64 _ _).1 (bSt_u64 _ _).1 e)
  have last := behind (l.length - (i + 1)) (by omega)
  rw [show i + 1 + (l.length - (i + 1)) = l.length by omega] at last
  have z : ∀ m : List Int, 0 < m.length → (bSt m m.length).2 = 0 := fun m hm => by
    obtain ⟨n, hn⟩ : ∃ n, m.length = n + 1 := ⟨m.length - 1, by omega⟩
    rw [hn]
    simp only [bSt]
    have : ¬ qX m.length n < 7 := by unfold qX; split <;> (try split) <;> omega
    rw [if_neg this]
  rcases last with ⟨_, a2⟩ | ⟨a1, _⟩
  · exact absurd (by rw [z l (by omega)]; rw [hl, z l' (by omega)]) a2
  · unfold bF0; rw [← hl]; exact a1
end Go.Proofs.Ytdenpaifjpmkgaa
