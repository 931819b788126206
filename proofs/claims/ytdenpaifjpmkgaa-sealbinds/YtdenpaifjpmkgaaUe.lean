/- Trees of digests: two paths to one root. -/
import Derived.Test.YtdenpaifjpmkgaaUa
namespace Go.Proofs.Ytdenpaifjpmkgaa
set_option linter.unusedVariables false

/-- what comes of a leaf, a path and its sides, after so many steps -/
def upsF (v : Int) (P S : List Int) : Nat → Int
  | 0 => v
  | j + 1 => upI (upsF v P S j) (P.getD j 0) (decide (S.getD j 0 ≠ 0))
theorem ups_u64 {v : Int} {P S : List Int} (hv : u64 v) : ∀ j, u64 (upsF v P S j)
  | 0 => hv
  | j + 1 => upI_u64 _ _ _
theorem ups_app (v : Int) (P S : List Int) (y z : Int) : ∀ j, j ≤ P.length → j ≤ S.length → upsF v (P ++ [y]) (S ++ [z]) j = upsF v P S j
  | 0, _, _ => rfl
  | j + 1, h1, h2 => by
    have e1 : (P ++ [y]).getD j 0 = P.getD j 0 := by simp [List.getD, List.getElem?_append_left (show j < P.length by omega)]
    have e2 : (S ++ [z]).getD j 0 = S.getD j 0 := by simp [List.getD, List.getElem?_append_left (show j < S.length by omega)]
    simp only [upsF]
    rw [ups_app v P S y z j (by omega) (by omega), e1, e2]
theorem climb_ups {n i : Nat} {v : Int} {P : List Int} (h1 : 1 ≤ n) (hl : P.length = depN n i) : (climbL n i v P).1 = upsF v P (sideL n i) (depN n i) := by
  induction n using Nat.strongRecOn generalizing i P with
  | ind n ih =>
    by_cases h2 : n < 2
    · rw [depN_1 h2, climb_1 (.inl h2)]; rfl
    · have hb := hf_bd (show 2 ≤ n by omega)
      have hne : P ≠ [] := fun e => by
        rw [e] at hl
        by_cases hi : i < hf n
        · rw [depN_l (by omega) hi] at hl; simp at hl
        · rw [depN_r (by omega) hi] at hl; simp at hl
      obtain ⟨X, y, rfl⟩ := snoc_of hne
      rw [List.length_append, List.length_singleton] at hl
      by_cases hi : i < hf n
      · rw [depN_l (by omega) hi] at hl ⊢
        rw [climb_l (by omega) hi, side_l (by omega) hi, ih (hf n) hb.2.1 hb.1 (P := X) (by omega)]
        have hs := side_len (hf n) i
        simp only [upsF]
        rw [ups_app _ _ _ _ _ _ (by omega) (by omega)]
        have e1 : (X ++ [y]).getD (depN (hf n) i) 0 = y := by rw [← show X.length = depN (hf n) i by omega]; simp [List.getD]
        have e2 : (sideL (hf n) i ++ [(1 : Int)]).getD (depN (hf n) i) 0 = 1 := by rw [← hs]; simp [List.getD]
        rw [e1, e2]; rfl
      · rw [depN_r (by omega) hi] at hl ⊢
        rw [climb_r (by omega) hi, side_r (by omega) hi, ih (n - hf n) (by omega) (by omega) (P := X) (by omega)]
        have hs := side_len (n - hf n) (i - hf n)
        simp only [upsF]
        rw [ups_app _ _ _ _ _ _ (by omega) (by omega)]
        have e1 : (X ++ [y]).getD (depN (n - hf n) (i - hf n)) 0 = y := by rw [← show X.length = depN (n - hf n) (i - hf n) by omega]; simp [List.getD]
        have e2 : (sideL (n - hf n) (i - hf n) ++ [(0 : Int)]).getD (depN (n - hf n) (i - hf n)) 0 = 0 := by rw [← hs]; simp [List.getD]
        rw [e1, e2]; rfl

/-! ### two paths -/
section
variable (a b : Int) (P Q S : List Int)
/-- here two different pairs have one join -/
def Coll (j : Nat) : Prop := (upsF a P S j ≠ upsF b Q S j ∨ P.getD j 0 ≠ Q.getD j 0) ∧ upsF a P S (j + 1) = upsF b Q S (j + 1)
/-- how the round goes: 0: both are the same, 1: the digests differ, 2: what came differs -/
def kindN (j : Nat) : Nat := if upsF a P S j = upsF b Q S j then (if P.getD j 0 = Q.getD j 0 then 0 else 1) else 2
def sideN (j : Nat) : Nat := if S.getD j 0 ≠ 0 then 0 else 1
def clsN (j : Nat) : Nat := 2 * kindN a b P Q S j + sideN S j
variable {a b P Q S}
theorem sideN_lt (j : Nat) : sideN S j < 2 := by unfold sideN; split <;> omega
theorem no_coll_back {d : Nat} (h : ∀ j, j < d → ¬ Coll a b P Q S j) (e : upsF a P S d = upsF b Q S d) : ∀ j, j ≤ d → upsF a P S j = upsF b Q S j := by
  intro j hj
  obtain ⟨k, rfl⟩ : ∃ k, d = j + k := ⟨d - j, by omega⟩
  clear hj
  induction k generalizing j with
  | zero => exact e
  | succ k ih =>
    have := ih (j + 1) (by rw [show j + 1 + k = j + (k + 1) by omega]; exact h) (by rw [show j + 1 + k = j + (k + 1) by omega]; exact e)
    exact Classical.byContradiction fun hn => h j (by omega) ⟨.inl hn, this⟩
/-- what came differs from then on -/
theorem no_coll_on {j : Nat} (h : ¬ Coll a b P Q S j) (hk : kindN a b P Q S j ≠ 0) : upsF a P S (j + 1) ≠ upsF b Q S (j + 1) := by
  intro e
  refine h ⟨?_, e⟩
  unfold kindN at hk
  by_cases h1 : upsF a P S j = upsF b Q S j
  · rw [if_pos h1] at hk
    by_cases h2 : P.getD j 0 = Q.getD j 0
    · rw [if_pos h2] at hk; omega
    · exact .inr h2
  · exact .inl h1
theorem kind_same {j : Nat} (h : kindN a b P Q S j = 0) : upsF a P S (j + 1) = upsF b Q S (j + 1) := by
  unfold kindN at h
  by_cases h1 : upsF a P S j = upsF b Q S j
  · rw [if_pos h1] at h
    by_cases h2 : P.getD j 0 = Q.getD j 0
    · simp only [upsF]; rw [h1, h2]
    · rw [if_neg h2] at h; omega
  · rw [if_neg h1] at h; omega
theorem kind_2 {j : Nat} : kindN a b P Q S j = 2 ↔ upsF a P S j ≠ upsF b Q S j := by
  unfold kindN
  by_cases h1 : upsF a P S j = upsF b Q S j
  · rw [if_pos h1]
    constructor
    · intro h; split at h <;> omega
    · intro h; exact absurd h1 h
  · rw [if_neg h1]; exact ⟨fun _ => h1, fun _ => rfl⟩
theorem kind_lt (j : Nat) : kindN a b P Q S j < 3 := by unfold kindN; split <;> (try split) <;> omega
end
end Go.Proofs.Ytdenpaifjpmkgaa
