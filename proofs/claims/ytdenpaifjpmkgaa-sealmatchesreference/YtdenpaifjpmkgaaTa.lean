/- Trees of digests: plain mathematics. -/
import Derived.Test.YtdenpaifjpmkgaaSb
namespace Go.Proofs.Ytdenpaifjpmkgaa
open Go.Ev
set_option linter.unusedVariables false

theorem tU (h w : Int) : u64 (stepI h w) := nu_u64 _
theorem tInj {h w v : Int} (hw : u64 w) (hv : u64 v) (e : stepI h w = stepI h v) : w = v := by
  have := step_inj (nu_inj e)
  rw [← nu_bv hw, ← nu_bv hv, this]
theorem tInj' {h g w : Int} (hh : u64 h) (hg : u64 g) (e : stepI h w = stepI g w) : h = g := by
  have := step_inj' (nu_inj e)
  rw [← nu_bv hh, ← nu_bv hg, this]

abbrev J0 : Int := 1785686382
def joinI (a b : Int) : Int := stepI (stepI J0 a) b
theorem joinI_u64 (a b : Int) : u64 (joinI a b) := tU _ _
theorem joinI_l {a b c : Int} (ha : u64 a) (hb : u64 b) (e : joinI a c = joinI b c) : a = b := tInj ha hb (tInj' (tU _ _) (tU _ _) e)
theorem joinI_r {a b c : Int} (ha : u64 a) (hb : u64 b) (e : joinI c a = joinI c b) : a = b := tInj ha hb e

def hf (n : Nat) : Nat := 2 ^ Nat.log2 (n - 1)
theorem hf_bd {n : Nat} (h : 2 ≤ n) : 1 ≤ hf n ∧ hf n < n ∧ n ≤ 2 * hf n := by
  have h1 : hf n ≤ n - 1 := Nat.log2_self_le (by omega)
  have h2 : n - 1 < 2 ^ (Nat.log2 (n - 1) + 1) := Nat.lt_log2_self
  have h3 : 0 < 2 ^ Nat.log2 (n - 1) := Nat.pow_pos (by omega)
  rw [Nat.pow_succ] at h2
  unfold hf at *
  omega
theorem hf_class {n : Nat} (h : 2 ≤ n) (h2 : n ≤ 512) : ∃ j, j < 9 ∧ 2 ^ j + 1 ≤ n ∧ n ≤ 2 ^ (j + 1) ∧ hf n = 2 ^ j := by
  refine ⟨Nat.log2 (n - 1), (Nat.log2_lt (by omega)).2 (by omega), ?_, ?_, rfl⟩
  · have := hf_bd h; unfold hf at this; omega
  · have := hf_bd h; unfold hf at this; rw [Nat.pow_succ]; omega

def rootL (l : List Int) : Int :=
  if h : l.length < 2 then l.getD 0 0 else joinI (rootL (l.take (hf l.length))) (rootL (l.drop (hf l.length)))
termination_by l.length
decreasing_by
  · have := hf_bd (show 2 ≤ l.length by omega); simp; omega
  · have := hf_bd (show 2 ≤ l.length by omega); simp; omega
theorem rootL_1 {l : List Int} (h : l.length < 2) : rootL l = l.getD 0 0 := by rw [rootL, dif_pos h]
theorem rootL_2 {l : List Int} (h : 2 ≤ l.length) : rootL l = joinI (rootL (l.take (hf l.length))) (rootL (l.drop (hf l.length))) := by rw [rootL, dif_neg (by omega)]
theorem getD_u64 {l : List Int} (h : ∀ x ∈ l, u64 x) (i : Nat) : u64 (l.getD i 0) := by
  by_cases hi : i < l.length
  · exact h _ (by simp [List.getD, hi])
  · simp [List.getD, List.getElem?_eq_none (Nat.le_of_not_lt hi), u64]
theorem rootL_u64 {l : List Int} (h : ∀ x ∈ l, u64 x) : u64 (rootL l) := by
  by_cases h2 : l.length < 2
  · rw [rootL_1 h2]; exact getD_u64 h 0
  · rw [rootL_2 (by omega)]; exact joinI_u64 _ _

def pathL (l : List Int) (i : Nat) : List Int :=
  if h : l.length < 2 then [] else
    if i < hf l.length then pathL (l.take (hf l.length)) i ++ [rootL (l.drop (hf l.length))] else pathL (l.drop (hf l.length)) (i - hf l.length) ++ [rootL (l.take (hf l.length))]
termination_by l.length
decreasing_by
  · have := hf_bd (show 2 ≤ l.length by omega); simp; omega
  · have := hf_bd (show 2 ≤ l.length by omega); simp; omega
theorem pathL_1 {l : List Int} {i : Nat} (h : l.length < 2) : pathL l i = [] := by rw [pathL, dif_pos h]
theorem pathL_l {l : List Int} {i : Nat} (h : 2 ≤ l.length) (hi : i < hf l.length) : pathL l i = pathL (l.take (hf l.length)) i ++ [rootL (l.drop (hf l.length))] := by rw [pathL, dif_neg (by omega), if_pos hi]
theorem pathL_r {l : List Int} {i : Nat} (h : 2 ≤ l.length) (hi : ¬ i < hf l.length) : pathL l i = pathL (l.drop (hf l.length)) (i - hf l.length) ++ [rootL (l.take (hf l.length))] := by rw [pathL, dif_neg (by omega), if_neg hi]

def depN (n i : Nat) : Nat :=
  if h : n < 2 then 0 else if i < hf n then depN (hf n) i + 1 else depN (n - hf n) (i - hf n) + 1
termination_by n
decreasing_by
  · have := hf_bd (show 2 ≤ n by omega); omega
  · have := hf_bd (show 2 ≤ n by omega); omega
theorem depN_1 {n i : Nat} (h : n < 2) : depN n i = 0 := by rw [depN, dif_pos h]
theorem depN_l {n i : Nat} (h : 2 ≤ n) (hi : i < hf n) : depN n i = depN (hf n) i + 1 := by rw [depN, dif_neg (by omega), if_pos hi]
theorem depN_r {n i : Nat} (h : 2 ≤ n) (hi : ¬ i < hf n) : depN n i = depN (n - hf n) (i - hf n) + 1 := by rw [depN, dif_neg (by omega), if_neg hi]

theorem hf_pow (j : Nat) : hf (2 ^ (j + 1)) = 2 ^ j := by
  unfold hf
  have h0 : 0 < 2 ^ j := Nat.pow_pos (by omega)
  have hp : 2 ^ (j + 1) = 2 * 2 ^ j := by rw [Nat.pow_succ]; omega
  have : Nat.log2 (2 ^ (j + 1) - 1) = j := by
    have a : 2 ^ j ≤ 2 ^ (j + 1) - 1 := by omega
    have b : 2 ^ (j + 1) - 1 < 2 ^ (j + 1) := by omega
    exact (Nat.log2_eq_iff (by omega)).2 ⟨a, b⟩
  rw [this]
/-- a whole tree has the same depth everywhere -/
theorem dep_pow : ∀ (j i : Nat), i < 2 ^ j → depN (2 ^ j) i = j
  | 0, i, _ => depN_1 (by simp)
  | j + 1, i, hi => by
    have h0 : 0 < 2 ^ j := Nat.pow_pos (by omega)
    have hp : 2 ^ (j + 1) = 2 * 2 ^ j := by rw [Nat.pow_succ]; omega
    by_cases hlt : i < 2 ^ j
    · rw [depN_l (by omega) (by rw [hf_pow]; exact hlt), hf_pow, dep_pow j i hlt]
    · rw [depN_r (by omega) (by rw [hf_pow]; exact hlt), hf_pow, show 2 ^ (j + 1) - 2 ^ j = 2 ^ j by omega, dep_pow j _ (by omega)]
theorem dep_le : ∀ (j n i : Nat), n ≤ 2 ^ j → depN n i ≤ j
  | 0, n, i, h => by rw [depN_1 (by simp at h; omega)]; exact Nat.le_refl _
  | j + 1, n, i, h => by
    by_cases h2 : n < 2
    · rw [depN_1 h2]; omega
    · have hb := hf_bd (show 2 ≤ n by omega)
      have hle : hf n ≤ 2 ^ j := by
        unfold hf
        refine Nat.pow_le_pow_right (by omega) ?_
        have := (Nat.log2_lt (n := n - 1) (k := j + 1) (by omega)).2 (by omega)
        omega
      by_cases hi : i < hf n
      · rw [depN_l (by omega) hi]; have := dep_le j (hf n) i hle; omega
      · rw [depN_r (by omega) hi]; have := dep_le j (n - hf n) (i - hf n) (by omega); omega

theorem path_len (l : List Int) (i : Nat) : (pathL l i).length = depN l.length i := by
  generalize hn : l.length = n
  induction n using Nat.strongRecOn generalizing l i with
  | ind n ih =>
    by_cases h2 : n < 2
    · rw [pathL_1 (by omega), depN_1 h2]; rfl
    · have hb := hf_bd (show 2 ≤ n by omega)
      subst hn
      by_cases hi : i < hf l.length
      · rw [pathL_l (by omega) hi, depN_l (by omega) hi, List.length_append, ih (hf l.length) hb.2.1 (l.take (hf l.length)) i (by simp; omega)]; rfl
      · rw [pathL_r (by omega) hi, depN_r (by omega) hi, List.length_append, ih (l.length - hf l.length) (by omega) (l.drop (hf l.length)) (i - hf l.length) (by simp)]; rfl
theorem path_u64 {l : List Int} (h : ∀ x ∈ l, u64 x) (i : Nat) : ∀ x ∈ pathL l i, u64 x := by
  generalize hn : l.length = n
  induction n using Nat.strongRecOn generalizing l i with
  | ind n ih =>
    by_cases h2 : n < 2
    · rw [pathL_1 (by omega)]; simp
    · have hb := hf_bd (show 2 ≤ n by omega)
      subst hn
      have ht : ∀ x ∈ l.take (hf l.length), u64 x := fun x hx => h x (List.mem_of_mem_take hx)
      have hd : ∀ x ∈ l.drop (hf l.length), u64 x := fun x hx => h x (List.mem_of_mem_drop hx)
      intro x hx
      by_cases hi : i < hf l.length
      · rw [pathL_l (by omega) hi] at hx
        rcases List.mem_append.1 hx with hx | hx
        · exact ih (hf l.length) hb.2.1 ht i (by simp; omega) x hx
        · rw [List.mem_singleton.1 hx]; exact rootL_u64 hd
      · rw [pathL_r (by omega) hi] at hx
        rcases List.mem_append.1 hx with hx | hx
        · exact ih (l.length - hf l.length) (by omega) hd (i - hf l.length) (by simp) x hx
        · rw [List.mem_singleton.1 hx]; exact rootL_u64 ht

/-- what comes of a leaf and a path -/
def climbL (n i : Nat) (v : Int) (P : List Int) : Int × Bool :=
  if h : n < 2 ∨ P = [] then (v, decide (n = 1) && P.isEmpty) else
    if i < hf n then (joinI (climbL (hf n) i v P.dropLast).1 (P.getLastD 0), (climbL (hf n) i v P.dropLast).2)
    else (joinI (P.getLastD 0) (climbL (n - hf n) (i - hf n) v P.dropLast).1, (climbL (n - hf n) (i - hf n) v P.dropLast).2)
termination_by n
decreasing_by
  all_goals (have := hf_bd (show 2 ≤ n by omega); omega)
theorem climb_1 {n i : Nat} {v : Int} {P : List Int} (h : n < 2 ∨ P = []) : climbL n i v P = (v, decide (n = 1) && P.isEmpty) := by rw [climbL, dif_pos h]
theorem climb_l {n i : Nat} {v y : Int} {P : List Int} (h : 2 ≤ n) (hi : i < hf n) : climbL n i v (P ++ [y]) = (joinI (climbL (hf n) i v P).1 y, (climbL (hf n) i v P).2) := by
  rw [climbL, dif_neg (by simp; omega), if_pos hi]; simp
theorem climb_r {n i : Nat} {v y : Int} {P : List Int} (h : 2 ≤ n) (hi : ¬ i < hf n) : climbL n i v (P ++ [y]) = (joinI y (climbL (n - hf n) (i - hf n) v P).1, (climbL (n - hf n) (i - hf n) v P).2) := by
  rw [climbL, dif_neg (by simp; omega), if_neg hi]; simp

theorem climb_u64 {n i : Nat} {v : Int} {P : List Int} (hv : u64 v) : u64 (climbL n i v P).1 := by
  by_cases h : n < 2 ∨ P = []
  · rw [climb_1 h]; exact hv
  · rw [climbL, dif_neg h]
    split <;> exact joinI_u64 _ _

theorem climb_path (l : List Int) (i : Nat) (hi : i < l.length) : climbL l.length i (l.getD i 0) (pathL l i) = (rootL l, true) := by
  generalize hn : l.length = n
  induction n using Nat.strongRecOn generalizing l i with
  | ind n ih =>
    by_cases h2 : n < 2
    · rw [pathL_1 (by omega), climb_1 (.inl h2), rootL_1 (by omega)]
      have : i = 0 := by omega
      subst this
      simp; omega
    · have hb := hf_bd (show 2 ≤ n by omega)
      subst hn
      by_cases h : i < hf l.length
      · have hl : (l.take (hf l.length)).length = hf l.length := by simp; omega
        have := ih (hf l.length) hb.2.1 (l.take (hf l.length)) i (by omega) hl
        rw [show (l.take (hf l.length)).getD i 0 = l.getD i 0 by simp [List.getD, List.getElem?_take_of_lt h]] at this
        rw [pathL_l (by omega) h, climb_l (by omega) h, this, rootL_2 (l := l) (by omega)]
      · have hl : (l.drop (hf l.length)).length = l.length - hf l.length := by simp
        have := ih (l.length - hf l.length) (by omega) (l.drop (hf l.length)) (i - hf l.length) (by omega) hl
        rw [show (l.drop (hf l.length)).getD (i - hf l.length) 0 = l.getD i 0 by simp [List.getD, show hf l.length + (i - hf l.length) = i by omega]] at this
        rw [pathL_r (by omega) h, climb_r (by omega) h, this, rootL_2 (l := l) (by omega)]

theorem snoc_of {P : List Int} (h : P ≠ []) : ∃ X y, P = X ++ [y] := ⟨P.dropLast, P.getLast h, (List.dropLast_concat_getLast h).symm⟩

theorem climb_ok {n i : Nat} {v : Int} {P : List Int} (h1 : 1 ≤ n) : (climbL n i v P).2 = decide (P.length = depN n i) := by
  induction n using Nat.strongRecOn generalizing i P with
  | ind n ih =>
    by_cases h2 : n < 2
    · rw [climb_1 (.inl h2), depN_1 h2]
      have : n = 1 := by omega
      cases P <;> simp [this]
    · have hb := hf_bd (show 2 ≤ n by omega)
      by_cases hp : P = []
      · rw [climb_1 (.inr hp)]
        subst hp
        by_cases hi : i < hf n
        · rw [depN_l (by omega) hi]; simp; omega
        · rw [depN_r (by omega) hi]; simp; omega
      · obtain ⟨X, y, rfl⟩ := snoc_of hp
        by_cases hi : i < hf n
        · rw [climb_l (by omega) hi, depN_l (by omega) hi, ih (hf n) hb.2.1 hb.1]; simp
        · rw [climb_r (by omega) hi, depN_r (by omega) hi, ih (n - hf n) (by omega) (by omega)]; simp

theorem climb_leaf {n i : Nat} {a b : Int} {P : List Int} (h1 : 1 ≤ n) (ha : u64 a) (hb' : u64 b) (e : (climbL n i a P).1 = (climbL n i b P).1) : a = b := by
  induction n using Nat.strongRecOn generalizing i P with
  | ind n ih =>
    by_cases h2 : n < 2 ∨ P = []
    · rw [climb_1 h2, climb_1 h2] at e; exact e
    · have hb := hf_bd (show 2 ≤ n by omega)
      obtain ⟨X, y, rfl⟩ := snoc_of (fun h => h2 (.inr h))
      by_cases hi : i < hf n
      · rw [climb_l (by omega) hi, climb_l (by omega) hi] at e
        exact ih (hf n) hb.2.1 hb.1 (joinI_l (climb_u64 ha) (climb_u64 hb') e)
      · rw [climb_r (by omega) hi, climb_r (by omega) hi] at e
        exact ih (n - hf n) (by omega) (by omega) (joinI_r (climb_u64 ha) (climb_u64 hb') e)

theorem climb_at {n i t : Nat} {a x : Int} {P : List Int} (h1 : 1 ≤ n) (ha : u64 a) (hx : u64 x) (hP : ∀ y ∈ P, u64 y) (hl : P.length ≤ depN n i) (ht : t < P.length) (e : (climbL n i a P).1 = (climbL n i a (P.set t x)).1) : x = P.getD t 0 := by
  induction n using Nat.strongRecOn generalizing i P with
  | ind n ih =>
    by_cases h2 : n < 2
    · rw [depN_1 h2] at hl; omega
    · have hb := hf_bd (show 2 ≤ n by omega)
      obtain ⟨X, y, rfl⟩ := snoc_of (P := P) (fun h => by rw [h] at ht; simp at ht)
      have hX : ∀ y ∈ X, u64 y := fun z hz => hP z (List.mem_append_left _ hz)
      have hy : u64 y := hP y (by simp)
      rw [List.length_append, List.length_singleton] at ht hl
      by_cases htl : t < X.length
      · rw [List.set_append_left _ _ htl] at e
        rw [show (X ++ [y]).getD t 0 = X.getD t 0 by simp [List.getD, List.getElem?_append_left htl]]
        by_cases hi : i < hf n
        · rw [climb_l (by omega) hi, climb_l (by omega) hi] at e
          rw [depN_l (by omega) hi] at hl
          exact ih (hf n) hb.2.1 hb.1 hX (by omega) htl (joinI_l (climb_u64 ha) (climb_u64 ha) e)
        · rw [climb_r (by omega) hi, climb_r (by omega) hi] at e
          rw [depN_r (by omega) hi] at hl
          exact ih (n - hf n) (by omega) (by omega) hX (by omega) htl (joinI_r (climb_u64 ha) (climb_u64 ha) e)
      · have ht' : t = X.length := by omega
        subst ht'
        rw [show (X ++ [y]).getD X.length 0 = y by simp [List.getD]]
        rw [show (X ++ [y]).set X.length x = X ++ [x] by simp] at e
        by_cases hi : i < hf n
        · rw [climb_l (by omega) hi, climb_l (by omega) hi] at e
          exact (joinI_r hy hx e).symm
        · rw [climb_r (by omega) hi, climb_r (by omega) hi] at e
          exact (joinI_l hy hx e).symm

/-- one digest changed: the same path at its place -/
theorem path_set (l : List Int) (i : Nat) (v : Int) : pathL (l.set i v) i = pathL l i := by
  generalize hn : l.length = n
  induction n using Nat.strongRecOn generalizing l i with
  | ind n ih =>
    by_cases h2 : n < 2
    · rw [pathL_1 (l := l) (by omega), pathL_1 (by simp; omega)]
    · have hb := hf_bd (show 2 ≤ n by omega)
      subst hn
      by_cases h : i < hf l.length
      · rw [pathL_l (l := l) (by omega) h, pathL_l (by simp; omega) (by simpa using h)]
        rw [List.length_set, List.drop_set_of_lt h, List.take_set]
        rw [ih (hf l.length) hb.2.1 (l.take (hf l.length)) i (by simp; omega)]
      · rw [pathL_r (l := l) (by omega) h, pathL_r (by simp; omega) (by simpa using h)]
        rw [List.length_set, List.drop_set, if_neg h, List.take_set_of_le (by omega)]
        rw [ih (l.length - hf l.length) (by omega) (l.drop (hf l.length)) (i - hf l.length) (by simp)]
theorem climb_set (l : List Int) (i : Nat) (v : Int) (hi : i < l.length) : climbL l.length i v (pathL l i) = (rootL (l.set i v), true) := by
  have := climb_path (l.set i v) i (by simpa using hi)
  rw [List.length_set, path_set] at this
  rwa [show (l.set i v).getD i 0 = v by simp [List.getD, hi]] at this
theorem root_set {l : List Int} {i : Nat} {v : Int} (hi : i < l.length) (hl : ∀ x ∈ l, u64 x) (hv : u64 v) : rootL l = rootL (l.set i v) ↔ v = l.getD i 0 := by
  constructor
  · intro h
    have a := climb_path l i hi
    have b := climb_set l i v hi
    rw [← h] at b
    exact (climb_leaf (n := l.length) (i := i) (P := pathL l i) (by omega) (getD_u64 hl i) hv (by rw [a, b])).symm
  · intro h
    rw [h, show l.set i (l.getD i 0) = l by
      apply List.ext_getElem (by simp)
      intro j h1 h2
      rw [List.getElem_set]; split
      · rename_i e; subst e; simp [List.getD, hi]
      · rfl]
end Go.Proofs.Ytdenpaifjpmkgaa
