/- The digest of a list of bytes: its loop, for all lists. -/
import Derived.Test.YtdenpaifjpmkgaaXa
namespace Go.Proofs.Ytdenpaifjpmkgaa
open Go.Ev
open Go.RowKit (Below)
set_option maxRecDepth 100000
set_option linter.unusedVariables false
set_option linter.unusedSectionVars false

def orI (a b : Int) : Int := wapp .or .u64 a b
def shlI (a b : Int) : Int := wapp .shl .u64 a b
/-- the class of round j -/
def qX (n j : Nat) : Nat := if j % 8 = 7 then 7 else if j + 1 < n then j % 8 else 8 + j % 8
/-- the digest and the group before round j -/
def bSt (l : List Int) : Nat → Int × Int
  | 0 => (W1, 0)
  | j + 1 => if qX l.length j < 7 then ((bSt l j).1, orI (bSt l j).2 (shlI (l.getD j 0) (8 * (j % 8) : Nat)))
    else (stepI (bSt l j).1 (orI (bSt l j).2 (shlI (l.getD j 0) (8 * (j % 8) : Nat))), 0)
def bF0 (l : List Int) : Int := (bSt l l.length).1

theorem orI_u64 (a b : Int) : u64 (orI a b) := by
  letI : Rho := rhoN (fun _ => 0)
  have h := wrap_rng .u64 ((BitVec.ofInt 64 a ||| BitVec.ofInt 64 b).toNat)
  exact h
theorem u64_0 : u64 0 := ⟨by decide, by decide⟩
theorem u64_W1 : u64 W1 := ⟨by decide, by decide⟩
theorem bSt_u64 (l : List Int) (j : Nat) : u64 (bSt l j).1 ∧ u64 (bSt l j).2 := by
  induction j with
  | zero => simp only [bSt]; exact ⟨u64_W1, u64_0⟩
  | succ j ih =>
    simp only [bSt]
    split
    · exact ⟨ih.1, orI_u64 _ _⟩
    · exact ⟨stepI_u64 _ _, u64_0⟩

def numX (l : List Int) (off cap j : Nat) (i : Nat) : Int :=
  if i = 0 then l.length else if i = 1 then cap else if i = 2 then off else if i = 41 then bF0 l else if i = 51 then (j / 8 : Nat) else if i = 60 then l.getD j 0 else if i = 70 then (bSt l j).1 else if i = 71 then (bSt l j).2 else 0
@[reducible] def rX (l : List Int) (off cap j : Nat) : Rho := mkRho (numX l off cap j) (fun _ => (off, l))
def byt (n : Int) : Prop := 0 ≤ n ∧ n ≤ 255
theorem agX {l : List Int} {off cap : Nat} (j k : Nat) : Agree 40 (rX l off cap j) (rX l off cap k) :=
  mk_agree (by omega) (fun i hi => by unfold numX; (repeat' split) <;> first | rfl | omega) (fun _ _ => rfl)

theorem IX_eval {l : List Int} {off cap j r : Nat} (h : j % 8 = r) : @SX.eval (rX l off cap j) (IX r) = (j : Int) := by
  show (8 : Int) * @Rho.ρ (rX l off cap j) 51 + (Int.ofNat r) = _
  rw [mk_num (by omega)]
  simp [numX]; omega
theorem IX_ok {l : List Int} {off cap j r : Nat} (hj : j ≤ 1099511627776) : @SX.ok (rX l off cap j) (IX r) := by
  refine ⟨⟨trivial, ?_⟩, trivial⟩
  show (0 : Int) ≤ @Rho.ρ (rX l off cap j) 51 ∧ @Rho.ρ (rX l off cap j) 51 ≤ (1099511627776 : Int)
  rw [mk_num (by omega)]; simp [numX]; omega

section
variable {l : List Int} {off cap : Nat} (hl : l.length ≤ 1099511627776) (hi : ∀ n ∈ l, byt n)
include hl hi
theorem qX_lt {j : Nat} (hj : j < l.length) : qX l.length j < 15 ∧ qX l.length j % 8 = j % 8 ∧ (qX l.length j < 7 ↔ j % 8 ≠ 7 ∧ j + 1 < l.length) := by
  unfold qX
  split
  · omega
  · split <;> omega

theorem tX_ok {j : Nat} (hj : j < l.length) : @KnowOk (rX l off cap j) (tX (qX l.length j)).know := by
  obtain ⟨q1, q2, q3⟩ := qX_lt hl hi hj
  have e2 : @SX.eval (rX l off cap j) lnX = (l.length : Int) := mk_num (by omega)
  have e1 : @SX.eval (rX l off cap j) (IX (qX l.length j % 8)) = (j : Int) := IX_eval q2.symm
  have hT : tX (qX l.length j) = { cmps := (.lss, IX (qX l.length j % 8), lnX, true) :: (if Nat.beq (qX l.length j) 7 then [] else [(.lss, IX (qX l.length j % 8), .bin .sub lnX (.lit 1), Nat.blt (qX l.length j) 7)]), cells := [(0, .int .u8, .bin .add ofX (IX (qX l.length j % 8)), u8A)] } := by
    unfold tX; rw [if_pos (by simpa using q1)]
  rw [hT]
  refine KTab.ok { cmps := ?_, cells := ?_ }
  · intro x hx
    rcases List.mem_cons.1 hx with rfl | hx
    · refine ⟨by simp [cmpNo], fun _ _ => ?_⟩
      show some (decide (@SX.eval (rX l off cap j) (IX (qX l.length j % 8)) < @SX.eval (rX l off cap j) lnX)) = some true
      rw [e1, e2]; simp; omega
    · by_cases h7 : qX l.length j = 7
      · rw [h7] at hx; cases hx
      · rw [if_neg (by simpa using h7)] at hx
        obtain rfl := List.mem_singleton.1 hx
        refine ⟨by simp [cmpNo], fun _ _ => ?_⟩
        show some (decide (@SX.eval (rX l off cap j) (IX (qX l.length j % 8)) < @SX.eval (rX l off cap j) lnX - 1)) = some (Nat.blt (qX l.length j) 7)
        rw [e1, e2]
        have hb : Nat.blt (qX l.length j) 7 = decide (qX l.length j < 7) := by
          cases h : Nat.blt (qX l.length j) 7 with
          | true => rw [Nat.blt_eq] at h; simp [h]
          | false =>
            have : ¬ qX l.length j < 7 := fun h2 => by rw [← Nat.blt_eq] at h2; rw [h2] at h; cases h
            simp [this]
        rw [hb]
        congr 1
        have h8 : j % 8 ≠ 7 := fun h8 => h7 (by unfold qX; rw [if_pos h8])
        have : (qX l.length j < 7) ↔ ((j : Int) < (l.length : Int) - 1) := by rw [q3]; omega
        simp only [this]
  · intro x hx _
    obtain rfl := List.mem_singleton.1 hx
    have g : @lel (rX l off cap j) 0 j = l.getD j 0 := mk_el (by omega) j
    have hg : byt (l.getD j 0) := hi _ (by simp [List.getD, hj])
    refine cell_i64 (i := j) ?_ ?_ (by rw [g]; exact mk_num (by omega)) (by rw [g]; exact hg.1) (by rw [g]; exact hg.2)
    · rw [mk_skip (by omega)]
      show @Rho.ρ (rX l off cap j) 2 + @SX.eval (rX l off cap j) (IX (qX l.length j % 8)) = _
      rw [e1, mk_num (by omega)]; simp [numX]
    · rw [mk_len (by omega)]; exact hj

theorem tX_last {q : Nat} (hq : q = 15 + l.length % 8) : @KnowOk (rX l off cap l.length) (tX q).know := by
  have e2 : @SX.eval (rX l off cap l.length) lnX = (l.length : Int) := mk_num (by omega)
  have hT : tX q = { cmps := [(.lss, IX (q - 15), lnX, false)] } := by
    unfold tX; rw [if_neg (by simp; omega)]
  rw [hT]
  refine KTab.ok { cmps := ?_ }
  intro x hx
  obtain rfl := List.mem_singleton.1 hx
  refine ⟨by simp [cmpNo], fun _ _ => ?_⟩
  show some (decide (@SX.eval (rX l off cap l.length) (IX (q - 15)) < @SX.eval (rX l off cap l.length) lnX)) = some false
  rw [IX_eval (show l.length % 8 = q - 15 by omega), e2]; simp

/-- which template holds before round j -/
theorem at46 {j : Nat} (hj : j ≤ l.length) (hlt : j < l.length ∨ j = 0) : lpX.at' (qX l.length) j = if j < 8 then j else 8 + j % 8 := by
  induction j with
  | zero => rfl
  | succ j ih =>
    have hj' : j < l.length := by omega
    have ih := ih (by omega) (.inl hj')
    have hs : j + 1 < l.length := by omega
    have hq : qX l.length j = if j % 8 = 7 then 7 else j % 8 := by unfold qX; rw [if_pos hs]
    show lpX.nx (lpX.at' (qX l.length) j) (qX l.length j) = _
    rw [ih, hq]
    show (if Nat.blt (if j % 8 = 7 then 7 else j % 8) 7 then (if j < 8 then j else 8 + j % 8) + 1 else if Nat.beq (if j % 8 = 7 then 7 else j % 8) 7 then 8 else (if j % 8 = 7 then 7 else j % 8) + 8) = _
    by_cases h7 : j % 8 = 7
    · simp only [h7, if_true]
      have : Nat.blt 7 7 = false := rfl
      rw [this]
      simp only [Bool.false_eq_true, if_false]
      have : Nat.beq 7 7 = true := rfl
      rw [this, if_pos rfl]
      split <;> omega
    · simp only [h7, if_false]
      have : Nat.blt (j % 8) 7 = true := by rw [Nat.blt_eq]; omega
      rw [this, if_pos rfl]
      split <;> split <;> omega

theorem rOf_last : rOf (lpX.at' (qX l.length) l.length) = l.length % 8 := by
  cases hn : l.length with
  | zero => rfl
  | succ n =>
    have h := at46 hl hi (j := n) (by omega) (.inl (by omega))
    rw [hn] at h
    have hq : qX (n + 1) n = if n % 8 = 7 then 7 else 8 + n % 8 := by unfold qX; rw [if_neg (show ¬ n + 1 < n + 1 by omega)]
    show rOf (lpX.nx (lpX.at' (qX (n + 1)) n) (qX (n + 1) n)) = _
    rw [h, hq]
    show rOf (if Nat.blt (if n % 8 = 7 then 7 else 8 + n % 8) 7 then (if n < 8 then n else 8 + n % 8) + 1 else if Nat.beq (if n % 8 = 7 then 7 else 8 + n % 8) 7 then 8 else (if n % 8 = 7 then 7 else 8 + n % 8) + 8) = _
    by_cases h7 : n % 8 = 7
    · simp only [h7, if_true]
      have g1 : Nat.blt 7 7 = false := rfl
      have g2 : Nat.beq 7 7 = true := rfl
      rw [g1, g2]
      simp only [Bool.false_eq_true, if_false, if_true]
      show 0 = _
      omega
    · simp only [h7, if_false]
      have h1 : Nat.blt (8 + n % 8) 7 = false := by
        cases h : Nat.blt (8 + n % 8) 7 with
        | false => rfl
        | true => rw [Nat.blt_eq] at h; omega
      have h2 : Nat.beq (8 + n % 8) 7 = false := by
        cases h : Nat.beq (8 + n % 8) 7 with
        | false => rfl
        | true => rw [Nat.beq_eq] at h; omega
      rw [h1, h2]
      simp only [Bool.false_eq_true, if_false]
      unfold rOf
      have h3 : Nat.blt (8 + n % 8 + 8) 16 = false := by
        cases h : Nat.blt (8 + n % 8 + 8) 16 with
        | false => rfl
        | true => rw [Nat.blt_eq] at h; omega
      rw [h3]
      simp only [Bool.false_eq_true, if_false]
      omega

theorem may46 {j : Nat} (hj : j < l.length) : qX l.length j ∈ lpX.cls ∧ lpX.may (lpX.at' (qX l.length) j) (qX l.length j) = true := by
  obtain ⟨q1, q2, q3⟩ := qX_lt hl hi hj
  refine ⟨by simp only [lpX, List.mem_cons, List.not_mem_nil, or_false]; omega, ?_⟩
  rw [at46 hl hi (by omega) (.inl hj)]
  show (Nat.blt (if j < 8 then j else 8 + j % 8) 16 && Nat.beq ((if j < 8 then j else 8 + j % 8) % 8) (qX l.length j % 8)) = true
  rw [Bool.and_eq_true, Nat.blt_eq, Nat.beq_eq, q2]
  split <;> omega

theorem loopX : SAtX Try.prog (.loop w46) (rX l off cap 0) (roT 36 pre46) (roS pre46) (.exit 0) (rX l off cap 0) (lpX.res (lpX.at' (qX l.length) l.length)).1 sE46 := by
  have hmem := lpX.at_idx (qX l.length) (K := l.length) lpX_chk (fun j hj => may46 hl hi hj) l.length (Nat.le_refl _)
  have n0 : ∀ j, @Rho.ρ (rX l off cap j) 70 = (bSt l j).1 := fun j => by rw [mk_num (by omega)]; simp [numX]
  have n1 : ∀ j, @Rho.ρ (rX l off cap j) 71 = (bSt l j).2 := fun j => by rw [mk_num (by omega)]; simp [numX]
  have n6 : ∀ j, @Rho.ρ (rX l off cap j) 60 = l.getD j 0 := fun j => by rw [mk_num (by omega)]; simp [numX]
  have hB : B40 = 1099511627776 := rfl
  have gr : ∀ j r, r = j % 8 → @SX.eval (rX l off cap j) (grX r) = orI (bSt l j).2 (shlI (l.getD j 0) (8 * (j % 8) : Nat)) := fun j r hr => by
    subst hr
    show wapp .or .u64 (@Rho.ρ (rX l off cap j) 71) (wapp .shl .u64 (@Rho.ρ (rX l off cap j) 60) _) = _
    rw [n1, n6]; rfl
  have ix : ∀ j r r2, j < l.length → r = j % 8 → r2 = (j + 1) % 8 → @SX.ok (rX l off cap (j + 1)) (IX r2) ∧ @SX.eval (rX l off cap (j + 1)) (IX r2) = @SX.eval (rX l off cap j) (.bin .add (IX r) (.lit 1)) ∧ 0 ≤ @SX.eval (rX l off cap (j + 1)) (IX r2) ∧ @SX.eval (rX l off cap (j + 1)) (IX r2) ≤ B40 := fun j r r2 hj hr hr2 => by
    have a1 : @SX.eval (rX l off cap (j + 1)) (IX r2) = ((j + 1 : Nat) : Int) := IX_eval hr2.symm
    have a2 : @SX.eval (rX l off cap j) (IX r) = (j : Int) := IX_eval hr.symm
    have a3 : @SX.eval (rX l off cap j) (.bin .add (IX r) (.lit 1)) = @SX.eval (rX l off cap j) (IX r) + 1 := rfl
    exact ⟨IX_ok (by omega), by rw [a1, a3, a2]; omega, by rw [a1]; omega, by rw [a1]; omega⟩
  have h := lpX.sound (K := l.length) (q := qX l.length) (R := rX l off cap 0) (J := fun j => rX l off cap j) (@fit (rX l off cap 0)) lpX_chk lpX_loops (fun j _ => @noOrc_ok (rX l off cap j) _) (fun j hj => may46 hl hi hj)
    (fun j hj => tX_ok hl hi hj) (tX_last hl hi (by show 15 + rOf _ = _; rw [rOf_last hl hi])) (fun j _ => agX 0 j) ?_ (fun x hx => by cases hx) ?_ (fun j _ x hx => by cases hx) ?_ (fun x hx => by cases hx)
  · rw [lpX.all_of fin46 hmem, lpX.all_of res46 hmem] at h
    exact h
  · intro x hx
    simp only [lpX, List.mem_cons, List.not_mem_nil, or_false] at hx
    rcases hx with rfl | rfl | rfl
    · have a1 : @SX.eval (rX l off cap 0) (IX 0) = ((0 : Nat) : Int) := IX_eval rfl
      exact ⟨IX_ok (by omega), by rw [a1]; rfl, by rw [a1]; exact Int.le_refl _, by rw [a1]; decide⟩
    · exact ob_var (v := 0) (by rw [n1]; rfl) rfl (by omega) (by decide)
    · exact ob_var (v := W1) (by rw [n0]; rfl) rfl (by decide) (by decide)
  · intro j hj x hx
    obtain ⟨q1, q2, q3⟩ := qX_lt hl hi hj
    obtain ⟨u1, u2⟩ := bSt_u64 l (j + 1)
    have hx : x ∈ (if Nat.blt (qX l.length j) 7 then [(IX (qX l.length j % 8 + 1), .bin .add (IX (qX l.length j % 8)) (.lit 1), 0, B40), (.var 71 0 MU, grX (qX l.length j % 8), 0, MU), (.var 70 0 MU, .var 70 0 MU, 0, MU)]
      else [(IX ((qX l.length j % 8 + 1) % 8), .bin .add (IX (qX l.length j % 8)) (.lit 1), 0, B40), (.var 71 0 MU, .lit 0, 0, MU), (.var 70 0 MU, stepX (.var 70 0 MU) (grX (qX l.length j % 8)), 0, MU)]) := hx
    by_cases h7 : qX l.length j < 7
    · have hs : bSt l (j + 1) = ((bSt l j).1, orI (bSt l j).2 (shlI (l.getD j 0) (8 * (j % 8) : Nat))) := by simp only [bSt, if_pos h7]
      rw [if_pos (by rw [Nat.blt_eq]; exact h7)] at hx
      rw [hs] at u1 u2
      simp only [List.mem_cons, List.not_mem_nil, or_false] at hx
      rcases hx with rfl | rfl | rfl
      · exact ix j _ _ hj q2 (by omega)
      · exact ob_var (by rw [n1, hs]) (gr j _ q2) u2.1 u2.2
      · exact ob_var (by rw [n0, hs]) (n0 j) u1.1 u1.2
    · have hs : bSt l (j + 1) = (stepI (bSt l j).1 (orI (bSt l j).2 (shlI (l.getD j 0) (8 * (j % 8) : Nat))), 0) := by simp only [bSt, if_neg h7]
      rw [if_neg (by rw [Nat.blt_eq]; exact h7)] at hx
      rw [hs] at u1 u2
      simp only [List.mem_cons, List.not_mem_nil, or_false] at hx
      rcases hx with rfl | rfl | rfl
      · exact ix j _ _ hj q2 (by omega)
      · exact ob_var (v := 0) (by rw [n1, hs]) rfl u2.1 u2.2
      · refine ob_var (by rw [n0, hs]) ?_ u1.1 u1.2
        rw [@stepX_eval (rX l off cap j), gr j _ q2]
        show stepI (@Rho.ρ (rX l off cap j) 70) _ = _
        rw [n0]
  · intro x hx
    obtain rfl := List.mem_singleton.1 hx
    have g := (bSt_u64 l l.length).1
    exact ob_var (v := bF0 l) (by rw [mk_num (by omega)]; simp [numX]) (n0 l.length) g.1 g.2
end
end Go.Proofs.Ytdenpaifjpmkgaa
