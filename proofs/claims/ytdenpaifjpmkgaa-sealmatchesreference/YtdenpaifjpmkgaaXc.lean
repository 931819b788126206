/- The digest of a list of bytes: its loop. -/
import Derived.Test.YtdenpaifjpmkgaaWc
namespace Go.Proofs.Ytdenpaifjpmkgaa
open Go.Ev
set_option maxRecDepth 100000

abbrev uX : SX := .var 51 0 B40
noncomputable abbrev IX (r : Nat) : SX := .bin .add (.bin .mul (.lit 8) uX) (.lit (Int.ofNat r))
noncomputable abbrev u8A : AV := .sym .u8 (.var 60 0 255) 0 255
noncomputable def tX (q : Nat) : KTab :=
  if Nat.blt q 15 then { cmps := (.lss, IX (q % 8), lnX, true) :: (if Nat.beq q 7 then [] else [(.lss, IX (q % 8), .bin .sub lnX (.lit 1), Nat.blt q 7)]), cells := [(0, .int .u8, .bin .add ofX (IX (q % 8)), u8A)] }
  else { cmps := [(.lss, IX (q - 15), lnX, false)] }
noncomputable def w46 : Code := inLoop (bodyOf 46)
noncomputable abbrev row0b : Option ABlk := some { elem := 5, cells := [], ro := true, tl := some (0, .int .u8) }
noncomputable def xH (h : AV) : List (Option ABlk) := [row0b, some { elem := 59, cells := [h], ro := false }, some { elem := 23, cells := [slA 0], ro := false }]
noncomputable def fdX : List AV := [.fn 46 [] [.ptr 2 0], .fn 32 [.ptr 1 0] [], undefA, .ptr 3 0, undefA, .fn 46 [] [.ptr 2 0], undefA, undefA, undefA, undefA]
noncomputable def s46 (h : AV) (lo : Nat) : St := { heap := xH h ++ [some { elem := 60, cells := [.fn 32 [.ptr 1 0] []], ro := false }], lo := lo, nd := 0, loops := [{ tmps := fdX, params := [6], assign := rgA (bodyOf 35), body := rgB (bodyOf 35), stat := .ready }] }
abbrev W1 : Int := 1818321765
noncomputable def pre46a : Option (AExit × T3 × St) := (@evF noKnow Try.prog noOrc 5000).code 36 (hd (bodyOf 46)) (ofL ([.yield 0, .ptr 2 0] ++ List.replicate 34 undefA)) (s46 (.int .u64 W1) 4)
noncomputable def pre46 : Option (AExit × T3 × St) := (@evF noKnow Try.prog noOrc 5000).code 36 (hd (tlC (bodyOf 46))) (ofL (roT 36 pre46a)) (roS pre46a)
noncomputable abbrev grX (r : Nat) : SX := .wop .or .u64 (.var 71 0 MU) (.wop .shl .u64 (.var 60 0 255) (.lit (Int.ofNat (8 * r))))
def rOf (i : Nat) : Nat := if Nat.blt i 16 then i % 8 else i - 15
noncomputable def lpX : LoopD where
  P := Try.prog
  orc := noOrc
  kn := fun q => (tX q).know
  N := 36
  c := w46
  m := 40
  g := fun i => { gS := [(8, .sym .i64 (IX (rOf i)) 0 B40), (3, u64A 71)], gH := [(1, [u64A 70])] }
  t0 := roT 36 pre46
  s0 := roS pre46
  ob0 := [(IX 0, .lit 0, 0, B40), (.var 71 0 MU, .lit 0, 0, MU), (.var 70 0 MU, .lit W1, 0, MU)]
  src := [(0, 0), (1, 1), (2, 2), (3, 3), (4, 4), (5, 5), (6, 6), (7, 7), (8, 0), (9, 1), (10, 2), (11, 3), (12, 4), (13, 5), (14, 6), (0, 8), (1, 9), (2, 10), (3, 11), (4, 12), (5, 13), (6, 14)]
  nx := fun i q => if Nat.blt q 7 then i + 1 else if Nat.beq q 7 then 8 else q + 8
  cls := [0, 1, 2, 3, 4, 5, 6, 7, 8, 9, 10, 11, 12, 13, 14]
  may := fun i q => Nat.blt i 16 && Nat.beq (i % 8) (q % 8)
  ob := fun q => if Nat.blt q 7 then [(IX (q % 8 + 1), .bin .add (IX (q % 8)) (.lit 1), 0, B40), (.var 71 0 MU, grX (q % 8), 0, MU), (.var 70 0 MU, .var 70 0 MU, 0, MU)]
    else [(IX ((q % 8 + 1) % 8), .bin .add (IX (q % 8)) (.lit 1), 0, B40), (.var 71 0 MU, .lit 0, 0, MU), (.var 70 0 MU, stepX (.var 70 0 MU) (grX (q % 8)), 0, MU)]
  lst := fun i => 15 + rOf i
  gF := { gS := [(8, .top), (3, .top)], gH := [(1, [u64A 41])] }
  obF := [(.var 41 0 MU, .var 70 0 MU, 0, MU)]
theorem lpX_chk : lpX.chk = true := by kernel_rfl
theorem lpX_loops : lpX.Loops := lpX.loops_of (by kernel_rfl) (by kernel_rfl)
noncomputable def sE46 : St := { heap := xH (u64A 41) ++ [some { elem := 60, cells := [.fn 32 [.ptr 1 0] []], ro := false }], lo := 0, nd := 0, loops := [{ tmps := fdX, params := [6], assign := rgA (bodyOf 35), body := rgB (bodyOf 35), stat := .ready }] }
theorem fin46 : lpX.idx.map (fun i => roE (lpX.fin i)) = lpX.idx.map (fun _ => .exit 0) := by kernel_rfl
theorem res46 : lpX.idx.map (fun i => (lpX.res i).2) = lpX.idx.map (fun _ => sE46) := by kernel_rfl
theorem w46_body : bodyOf 46 = .seq (hd (bodyOf 46)) (.seq (hd (tlC (bodyOf 46))) (.block 0 (.loop w46))) := by kernel_rfl
end Go.Proofs.Ytdenpaifjpmkgaa

/- The digest of a list of bytes: its loop, for all lists. -/
namespace Go.Proofs.Ytdenpaifjpmkgaa
open Go.Ev
open Go.RowKit (Below)
set_option maxRecDepth 100000
set_option linter.unusedVariables false
set_option linter.unusedSectionVars false

def orI (a b : Int) : Int := wapp .or .u64 a b
def shlI (a b : Int) : Int := wapp .shl .u64 a b
/-- the class of round j -/
def qX (n j : Nat) : Nat := if j % 8 = 7 then 7 else if j + 1 < n then j % 8 else 8 + j % 8
/-- the digest and the group before round j -/
def bSt (l : List Int) : Nat → Int × Int
  | 0 => (W1, 0)
  | j + 1 => if qX l.length j < 7 then ((bSt l j).1, orI (bSt l j).2 (shlI (l.getD j 0) (8 * (j % 8) : Nat)))
    else (stepI (bSt l j).1 (orI (bSt l j).2 (shlI (l.getD j 0) (8 * (j % 8) : Nat))), 0)
def bF0 (l : List Int) : Int := (bSt l l.length).1

theorem orI_u64 (a b : Int) : u64 (orI a b) := by
  letI : Rho := rhoN (fun _ => 0)
  have h := wrap_rng .u64 ((BitVec.ofInt 64 a ||| BitVec.ofInt 64 b).toNat)
  exact h
theorem u64_0 : u64 0 := ⟨by decide, by decide⟩
theorem u64_W1 : u64 W1 := ⟨by decide, by decide⟩
theorem bSt_u64 (l : List Int) (j : Nat) : u64 (bSt l j).1 ∧ u64 (bSt l j).2 := by
  induction j with
  | zero => simp only [bSt]; exact ⟨u64_W1, u64_0⟩
  | succ j ih =>
    simp only [bSt]
    split
    · exact ⟨ih.1, orI_u64 _ _⟩
    · exact ⟨stepI_u64 _ _, u64_0⟩

def numX (l : List Int) (off cap j : Nat) (i : Nat) : Int :=
  if i = 0 then l.length else if i = 1 then cap else if i = 2 then off else if i = 41 then bF0 l else if i = 51 then (j / 8 : Nat) else if i = 60 then l.getD j 0 else if i = 70 then (bSt l j).1 else if i = 71 then (bSt l j).2 else 0
@[reducible] def rX (l : List Int) (off cap j : Nat) : Rho := mkRho (numX l off cap j) (fun _ => (off, l))
def byt (n : Int) : Prop := 0 ≤ n ∧ n ≤ 255
theorem agX {l : List Int} {off cap : Nat} (j k : Nat) : Agree 40 (rX l off cap j) (rX l off cap k) :=
  mk_agree (by omega) (fun i hi => by unfold numX; (repeat' split) <;> first | rfl | omega) (fun _ _ => rfl)

theorem IX_eval {l : List Int} {off cap j r : Nat} (h : j % 8 = r) : @SX.eval (rX l off cap j) (IX r) = (j : Int) := by
  show (8 : Int) * @Rho.ρ (rX l off cap j) 51 + (Int.ofNat r) = _
  rw [mk_num (by omega)]
  simp [numX]; omega
theorem IX_ok {l : List Int} {off cap j r : Nat} (hj : j ≤ 1099511627776) : @SX.ok (rX l off cap j) (IX r) := by
  refine ⟨⟨trivial, ?_⟩, trivial⟩
  show (0 : Int) ≤ @Rho.ρ (rX l off cap j) 51 ∧ @Rho.ρ (rX l off cap j) 51 ≤ (1099511627776 : Int)
  rw [mk_num (by omega)]; simp [numX]; omega

section
variable {l : List Int} {off cap : Nat} (hl : l.length ≤ 1099511627776) (hi : ∀ n ∈ l, byt n)
include hl hi
theorem qX_lt {j : Nat} (hj : j < l.length) : qX l.length j < 15 ∧ qX l.length j % 8 = j % 8 ∧ (qX l.length j < 7 ↔ j % 8 ≠ 7 ∧ j + 1 < l.length) := by
  unfold qX
  split
  · omega
  · split <;> omega

theorem tX_ok {j : Nat} (hj : j < l.length) : @KnowOk (rX l off cap j) (tX (qX l.length j)).know := by
  obtain ⟨q1, q2, q3⟩ := qX_lt hl hi hj
  have e2 : @SX.eval (rX l off cap j) lnX = (l.length : Int) := mk_num (by omega)
  have e1 : @SX.eval (rX l off cap j) (IX (qX l.length j % 8)) = (j : Int) := IX_eval q2.symm
  have hT : tX (qX l.length j) = { cmps := (.lss, IX (qX l.length j % 8), lnX, true) :: (if Nat.beq (qX l.length j) 7 then [] else [(.lss, IX (qX l.length j % 8), .bin .sub lnX (.lit 1), Nat.blt (qX l.length j) 7)]), cells := [(0, .int .u8, .bin .add ofX (IX (qX l.length j % 8)), u8A)] } := by
    unfold tX; rw [if_pos (by simpa using q1)]
  rw [hT]
  refine KTab.ok { cmps := ?_, cells := ?_ }
  · intro x hx
    rcases List.mem_cons.1 hx with rfl | hx
    · refine ⟨by simp [cmpNo], fun _ _ => ?_⟩
      show some (decide (@SX.eval (rX l off cap j) (IX (qX l.length j % 8)) < @SX.eval (rX l off cap j) lnX)) = some true
      rw [e1, e2]; simp; omega
    · by_cases h7 : qX l.length j = 7
      · rw [h7] at hx; cases hx
      · rw [if_neg (by simpa using h7)] at hx
        obtain rfl := List.mem_singleton.1 hx
        refine ⟨by simp [cmpNo], fun _ _ => ?_⟩
        show some (decide (@SX.eval (rX l off cap j) (IX (qX l.length j % 8)) < @SX.eval (rX l off cap j) lnX - 1)) = some (Nat.blt (qX l.length j) 7)
        rw [e1, e2]
        have hb : Nat.blt (qX l.length j) 7 = decide (qX l.length j < 7) := by
          cases h : Nat.blt (qX l.length j) 7 with
          | true => rw [Nat.blt_eq] at h; simp [h]
          | false =>
            have : ¬ qX l.length j < 7 := fun h2 => by rw [← Nat.blt_eq] at h2; rw [h2] at h; cases h
            simp [this]
        rw [hb]
        congr 1
        have h8 : j % 8 ≠ 7 := fun h8 => h7 (by unfold qX; rw [if_pos h8])
        have : (qX l.length j < 7) ↔ ((j : Int) < (l.length : Int) - 1) := by rw [q3]; omega
        simp only [this]
  · intro x hx _
    obtain rfl := List.mem_singleton.1 hx
    have g : @lel (rX l off cap j) 0 j = l.getD j 0 := mk_el (by omega) j
    have hg : byt (l.getD j 0) := hi _ (by simp [List.getD, hj])
    refine cell_i64 (i := j) ?_ ?_ (by rw [g]; exact mk_num (by omega)) (by rw [g]; exact hg.1) (by rw [g]; exact hg.2)
    · rw [mk_skip (by omega)]
      show @Rho.ρ (rX l off cap j) 2 + @SX.eval (rX l off cap j) (IX (qX l.length j % 8)) = _
      rw [e1, mk_num (by omega)]; simp [numX]
    · rw [mk_len (by omega)]; exact hj

theorem tX_last {q : Nat} (hq : q = 15 + l.length % 8) : @KnowOk (rX l off cap l.length) (tX q).know := by
  have e2 : @SX.eval (rX l off cap l.length) lnX = (l.length : Int) := mk_num (by omega)
  have hT : tX q = { cmps := [(.lss, IX (q - 15), lnX, false)] } := by
    unfold tX; rw [if_neg (by simp; omega)]
  rw [hT]
  refine KTab.ok { cmps := ?_ }
  intro x hx
  obtain rfl := List.mem_singleton.1 hx
  refine ⟨by simp [cmpNo], fun _ _ => ?_⟩
  show some (decide (@SX.eval (rX l off cap l.length) (IX (q - 15)) < @SX.eval (rX l off cap l.length) lnX)) = some false
  rw [IX_eval (show l.length % 8 = q - 15 by omega), e2]; simp

/-- which template holds before round j -/
theorem at46 {j : Nat} (hj : j ≤ l.length) (hlt : j < l.length ∨ j = 0) : lpX.at' (qX l.length) j = if j < 8 then j else 8 + j % 8 := by
  induction j with
  | zero => rfl
  | succ j ih =>
    have hj' : j < l.length := by omega
    have ih := ih (by omega) (.inl hj')
    have hs : j + 1 < l.length := by omega
    have hq : qX l.length j = if j % 8 = 7 then 7 else j % 8 := by unfold qX; rw [if_pos hs]
    show lpX.nx (lpX.at' (qX l.length) j) (qX l.length j) = _
    rw [ih, hq]
    show (if Nat.blt (if j % 8 = 7 then 7 else j % 8) 7 then (if j < 8 then j else 8 + j % 8) + 1 else if Nat.beq (if j % 8 = 7 then 7 else j % 8) 7 then 8 else (if j % 8 = 7 then 7 else j % 8) + 8) = _
    by_cases h7 : j % 8 = 7
    · simp only [h7, if_true]
      have : Nat.blt 7 7 = false := rfl
      rw [this]
      simp only [Bool.false_eq_true, if_false]
      have : Nat.beq 7 7 = true := rfl
      rw [this, if_pos rfl]
      split <;> omega
    · simp only [h7, if_false]
      have : Nat.blt (j % 8) 7 = true := by rw [Nat.blt_eq]; omega
      rw [this, if_pos rfl]
      split <;> split <;> omega

theorem rOf_last : rOf (lpX.at' (qX l.length) l.length) = l.length % 8 := by
  cases hn : l.length with
  | zero => rfl
  | succ n =>
    have h := at46 hl hi (j := n) (by omega) (.inl (by omega))
    rw [hn] at h
    have hq : qX (n + 1) n = if n % 8 = 7 then 7 else 8 + n % 8 := by unfold qX; rw [if_neg (show ¬ n + 1 < n + 1 by omega)]
    show rOf (lpX.nx (lpX.at' (qX (n + 1)) n) (qX (n + 1) n)) = _
    rw [h, hq]
    show rOf (if Nat.blt (if n % 8 = 7 then 7 else 8 + n % 8) 7 then (if n < 8 then n else 8 + n % 8) + 1 else if Nat.beq (if n % 8 = 7 then 7 else 8 + n % 8) 7 then 8 else (if n % 8 = 7 then 7 else 8 + n % 8) + 8) = _
    by_cases h7 : n % 8 = 7
    · simp only [h7, if_true]
      have g1 : Nat.blt 7 7 = false := rfl
      have g2 : Nat.beq 7 7 = true := rfl
      rw [g1, g2]
      simp only [Bool.false_eq_true, if_false, if_true]
      show 0 = _
      omega
    · simp only [h7, if_false]
      have h1 : Nat.blt (8 + n % 8) 7 = false := by
        cases h : Nat.blt (8 + n % 8) 7 with
        | false => rfl
        | true => rw [Nat.blt_eq] at h; omega
      have h2 : Nat.beq (8 + n % 8) 7 = false := by
        cases h : Nat.beq (8 + n % 8) 7 with
        | false => rfl
        | true => rw [Nat.beq_eq] at h; omega
      rw [h1, h2]
      simp only [Bool.false_eq_true, if_false]
      unfold rOf
      have h3 : Nat.blt (8 + n % 8 + 8) 16 = false := by
        cases h : Nat.blt (8 + n % 8 + 8) 16 with
        | false => rfl
        | true => rw [Nat.blt_eq] at h; omega
      rw [h3]
      simp only [Bool.false_eq_true, if_false]
      omega

theorem may46 {j : Nat} (hj : j < l.length) : qX l.length j ∈ lpX.cls ∧ lpX.may (lpX.at' (qX l.length) j) (qX l.length j) = true := by
  obtain ⟨q1, q2, q3⟩ := qX_lt hl hi hj
  refine ⟨by simp only [lpX, List.mem_cons, List.not_mem_nil, or_false]; omega, ?_⟩
  rw [at46 hl hi (by omega) (.inl hj)]
  show (Nat.blt (if j < 8 then j else 8 + j % 8) 16 && Nat.beq ((if j < 8 then j else 8 + j % 8) % 8) (qX l.length j % 8)) = true
  rw [Bool.and_eq_true, Nat.blt_eq, Nat.beq_eq, q2]
  split <;> omega

theorem loopX : SAtX Try.prog (.loop w46) (rX l off cap 0) (roT 36 pre46) (roS pre46) (.exit 0) (rX l off cap 0) (lpX.res (lpX.at' (qX l.length) l.length)).1 sE46 := by
  have hmem := lpX.at_idx (qX l.length) (K := l.length) lpX_chk (fun j hj => may46 hl hi hj) l.length (Nat.le_refl _)
  have n0 : ∀ j, @Rho.ρ (rX l off cap j) 70 = (bSt l j).1 := fun j => by rw [mk_num (by omega)]; simp [numX]
  have n1 : ∀ j, @Rho.ρ (rX l off cap j) 71 = (bSt l j).2 := fun j => by rw [mk_num (by omega)]; simp [numX]
  have n6 : ∀ j, @Rho.ρ (rX l off cap j) 60 = l.getD j 0 := fun j => by rw [mk_num (by omega)]; simp [numX]
  have hB : B40 = 1099511627776 := rfl
  have gr : ∀ j r, r = j % 8 → @SX.eval (rX l off cap j) (grX r) = orI (bSt l j).2 (shlI (l.getD j 0) (8 * (j % 8) : Nat)) := fun j r hr => by
    subst hr
    show wapp .or .u64 (@Rho.ρ (rX l off cap j) 71) (wapp .shl .u64 (@Rho.ρ (rX l off cap j) 60) _) = _
    rw [n1, n6]; rfl
  have ix : ∀ j r r2, j < l.length → r = j % 8 → r2 = (j + 1) % 8 → @SX.ok (rX l off cap (j + 1)) (IX r2) ∧ @SX.eval (rX l off cap (j + 1)) (IX r2) = @SX.eval (rX l off cap j) (.bin .add (IX r) (.lit 1)) ∧ 0 ≤ @SX.eval (rX l off cap (j + 1)) (IX r2) ∧ @SX.eval (rX l off cap (j + 1)) (IX r2) ≤ B40 := fun j r r2 hj hr hr2 => by
    have a1 : @SX.eval (rX l off cap (j + 1)) (IX r2) = ((j + 1 : Nat) : Int) := IX_eval hr2.symm
    have a2 : @SX.eval (rX l off cap j) (IX r) = (j : Int) := IX_eval hr.symm
    have a3 : @SX.eval (rX l off cap j) (.bin .add (IX r) (.lit 1)) = @SX.eval (rX l off cap j) (IX r) + 1 := rfl
    exact ⟨IX_ok (by omega), by rw [a1, a3, a2]; omega, by rw [a1]; omega, by rw [a1]; omega⟩
  have h := lpX.sound (K := l.length) (q := qX l.length) (R := rX l off cap 0) (J := fun j => rX l off cap j) (@fit (rX l off cap 0)) lpX_chk lpX_loops (fun j _ => @noOrc_ok (rX l off cap j) _) (fun j hj => may46 hl hi hj)
    (fun j hj => tX_ok hl hi hj) (tX_last hl hi (by show 15 + rOf _ = _; rw [rOf_last hl hi])) (fun j _ => agX 0 j) ?_ (fun x hx => by cases hx) ?_ (fun j _ x hx => by cases hx) ?_ (fun x hx => by cases hx)
  · rw [lpX.all_of fin46 hmem, lpX.all_of res46 hmem] at h
    exact h
  · intro x hx
    simp only [lpX, List.mem_cons, List.not_mem_nil, or_false] at hx
    rcases hx with rfl | rfl | rfl
    · have a1 : @SX.eval (rX l off cap 0) (IX 0) = ((0 : Nat) : Int) := IX_eval rfl
      exact ⟨IX_ok (by omega), by rw [a1]; rfl, by rw [a1]; exact Int.le_refl _, by rw [a1]; decide⟩
    · exact ob_var (v := 0) (by rw [n1]; rfl) rfl (by omega) (by decide)
    · exact ob_var (v := W1) (by rw [n0]; rfl) rfl (by decide) (by decide)
  · intro j hj x hx
    obtain ⟨q1, q2, q3⟩ := qX_lt hl hi hj
    obtain ⟨u1, u2⟩ := bSt_u64 l (j + 1)
    have hx : x ∈ (if Nat.blt (qX l.length j) 7 then [(IX (qX l.length j % 8 + 1), .bin .add (IX (qX l.length j % 8)) (.lit 1), 0, B40), (.var 71 0 MU, grX (qX l.length j % 8), 0, MU), (.var 70 0 MU, .var 70 0 MU, 0, MU)]
      else [(IX ((qX l.length j % 8 + 1) % 8), .bin .add (IX (qX l.length j % 8)) (.lit 1), 0, B40), (.var 71 0 MU, .lit 0, 0, MU), (.var 70 0 MU, stepX (.var 70 0 MU) (grX (qX l.length j % 8)), 0, MU)]) := hx
    by_cases h7 : qX l.length j < 7
    · have hs : bSt l (j + 1) = ((bSt l j).1, orI (bSt l j).2 (shlI (l.getD j 0) (8 * (j % 8) : Nat))) := by simp only [bSt, if_pos h7]
      rw [if_pos (by rw [Nat.blt_eq]; exact h7)] at hx
      rw [hs] at u1 u2
      simp only [List.mem_cons, List.not_mem_nil, or_false] at hx
      rcases hx with rfl | rfl | rfl
      · exact ix j _ _ hj q2 (by omega)
      · exact ob_var (by rw [n1, hs]) (gr j _ q2) u2.1 u2.2
      · exact ob_var (by rw [n0, hs]) (n0 j) u1.1 u1.2
    · have hs : bSt l (j + 1) = (stepI (bSt l j).1 (orI (bSt l j).2 (shlI (l.getD j 0) (8 * (j % 8) : Nat))), 0) := by simp only [bSt, if_neg h7]
      rw [if_neg (by rw [Nat.blt_eq]; exact h7)] at hx
      rw [hs] at u1 u2
      simp only [List.mem_cons, List.not_mem_nil, or_false] at hx
      rcases hx with rfl | rfl | rfl
      · exact ix j _ _ hj q2 (by omega)
      · exact ob_var (v := 0) (by rw [n1, hs]) rfl u2.1 u2.2
      · refine ob_var (by rw [n0, hs]) ?_ u1.1 u1.2
        rw [@stepX_eval (rX l off cap j), gr j _ q2]
        show stepI (@Rho.ρ (rX l off cap j) 70) _ = _
        rw [n0]
  · intro x hx
    obtain rfl := List.mem_singleton.1 hx
    have g := (bSt_u64 l l.length).1
    exact ob_var (v := bF0 l) (by rw [mk_num (by omega)]; simp [numX]) (n0 l.length) g.1 g.2
end
end Go.Proofs.Ytdenpaifjpmkgaa

/- The digest of a list of bytes: Bytes as a fact. -/
namespace Go.Proofs.Ytdenpaifjpmkgaa
open Go.Ev
open Go.RowKit (Below)
set_option maxRecDepth 100000
set_option linter.unusedVariables false
set_option linter.unusedSectionVars false

theorem f46_at : Try.prog.funcs[46]? = some Try.f46 := by kernel_rfl
theorem f46_body : Try.f46.body = some (bodyOf 46) := by kernel_rfl
theorem f46_res : Try.f46.results.toList = [] := by kernel_rfl
theorem f46_tmps : Try.f46.ntmps = 36 := by kernel_rfl
noncomputable def fdArgsX : List AV := [.fn 46 [] [.ptr 2 0], .fn 32 [.ptr 1 0] []]
noncomputable def sFdX (lo : Nat) : St := { heap := xH (.int .u64 W1), lo := lo, loops := [], nd := 0 }
noncomputable def fdX0 : Option (AExit × T3 × St) := (@evF noKnow Try.prog noOrc 5000).code 10 (hd (bodyOf 35)) (ofL (fdArgsX ++ List.replicate 8 undefA)) (sFdX 3)
noncomputable def fdX1 : Option (AExit × T3 × St) := (@evF noKnow Try.prog noOrc 5000).code 10 (hd (tlC (bodyOf 35))) (ofL (roT 10 fdX0)) (roS fdX0)
theorem fdX1_t : roT 10 fdX1 = fdX := by kernel_rfl
theorem fdX1_s : roS fdX1 = { s46 (.int .u64 W1) 3 with loops := [] } := by kernel_rfl
noncomputable def sOutX : St := setStat { sE46 with lo := min 3 0 } 0 .over
noncomputable def xfFeedX : XF := { f := 35, args := fdArgsX, s := sFdX 1, v := .tup [], s' := { sOutX with lo := min 1 sOutX.lo } }

section
variable {l : List Int} {off cap : Nat} (hl : l.length ≤ 1099511627776) (hi : ∀ n ∈ l, byt n)
include hl hi
theorem call46 : @CallAt (rX l off cap 0) Try.prog 46 [.yield 0, .ptr 2 0] (s46 (.int .u64 W1) 3) (.tup []) { sE46 with lo := min 3 0 } := by
  letI := rX l off cap 0
  have x0 : SAtX Try.prog (hd (bodyOf 46)) (rX l off cap 0) ([.yield 0, .ptr 2 0] ++ List.replicate 34 undefA) (s46 (.int .u64 W1) 4) (roE pre46a) (rX l off cap 0) (roT 36 pre46a) (roS pre46a) :=
    @sat_run Try.prog noOrc (rX l off cap 0) noKnow noKnow_ok fit (noOrc_ok _) 36 _ _ _ _ rfl (by kernel_rfl)
  have x1 : SAtX Try.prog (hd (tlC (bodyOf 46))) (rX l off cap 0) (roT 36 pre46a) (roS pre46a) (roE pre46) (rX l off cap 0) (roT 36 pre46) (roS pre46) :=
    @sat_run Try.prog noOrc (rX l off cap 0) noKnow noKnow_ok fit (noOrc_ok _) 36 _ _ _ _ rfl (by kernel_rfl)
  rw [show roE pre46a = .normal by kernel_rfl] at x0
  rw [show roE pre46 = .normal by kernel_rfl] at x1
  have x2 := x0.seq (x1.seq (loopX (off := off) (cap := cap) hl hi).block)
  rw [← w46_body] at x2
  exact call_at (s := s46 (.int .u64 W1) 3) f46_at f46_body (by rw [f46_tmps]; exact x2.to) (.inl rfl) (no_res f46_res _ _) (by show 0 < 4; omega)

theorem call35X : @CallAt (rX l off cap 0) Try.prog 35 fdArgsX (sFdX 1) (.tup []) { sOutX with lo := min 1 sOutX.lo } := by
  letI := rX l off cap 0
  have x0 : SAtX Try.prog (hd (bodyOf 35)) (rX l off cap 0) (fdArgsX ++ List.replicate 8 undefA) (sFdX 3) (roE fdX0) (rX l off cap 0) (roT 10 fdX0) (roS fdX0) :=
    @sat_run Try.prog noOrc (rX l off cap 0) noKnow noKnow_ok fit (noOrc_ok _) 10 _ _ _ _ rfl (by kernel_rfl)
  have x1 : SAtX Try.prog (hd (tlC (bodyOf 35))) (rX l off cap 0) (roT 10 fdX0) (roS fdX0) (roE fdX1) (rX l off cap 0) (roT 10 fdX1) (roS fdX1) :=
    @sat_run Try.prog noOrc (rX l off cap 0) noKnow noKnow_ok fit (noOrc_ok _) 10 _ _ _ _ rfl (by kernel_rfl)
  rw [show roE fdX0 = .normal by kernel_rfl] at x0
  rw [show roE fdX1 = .normal by kernel_rfl, fdX1_t, fdX1_s] at x1
  have x2 : SAt Try.prog (.rangeFunc (.tmp 5) #[6] (rgA (bodyOf 35)) (rgB (bodyOf 35))) fdX { s46 (.int .u64 W1) 3 with loops := [] } .normal fdX sOutX :=
    range_at (P := Try.prog) fit (s := { s46 (.int .u64 W1) 3 with loops := [] }) (g := 46) (l1 := []) (l2 := [.ptr 2 0]) rfl (call46 (off := off) (cap := cap) hl hi) rfl
  have x3 := x0.seq (x1.seq (SAtX.blockN (id := 0) (SAtX.of x2)))
  rw [← f35_parts] at x3
  exact call_at (s := sFdX 1) f35_at f35_body (by rw [f35_tmps]; exact x3.to) (.inl rfl) (no_res f35_res _ _) (by show 0 < 3; omega)

/-- the fact, in letters -/
noncomputable def fctX : Fct := ⟨[slA 0], [{ elem := 5, cells := [], ro := true, tl := some (0, .int .u8) }], .sym .u64 (stepX (.var 41 0 MU) lnX) 0 MU, [], []⟩
omit hl hi in
theorem fctX_got : fctX.got ((@evF noKnow Try.prog (orcX [xfFeedX]) 5000).call 17 fctX.args fctX.st) = true := by kernel_rfl
omit hl hi in
theorem fctX_good : fctX.good = true := by kernel_rfl
theorem bytesR : @Fct.Holds (rX l off cap 0) Try.prog 17 fctX := by
  letI := rX l off cap 0
  refine @Fct.holds (rX l off cap 0) Try.prog (orcX [xfFeedX]) noKnow noKnow_ok fit (orcX_ok fun x hx => ?_) 5000 17 fctX fctX_good fctX_got
  obtain rfl := List.mem_singleton.1 hx
  exact call35X (off := off) (cap := cap) hl hi
end

/-- the digest of a list of numbers -/
def bI (l : List Int) : Int := stepI (bF0 l) l.length

/-- slices of numbers, as they stand: Words' contract -/
theorem bytes_c {l : List Int} (hl : l.length ≤ 1099511627776) (hi : ∀ n ∈ l, byt n) {W : World} {b off cap fz1 fz2 : Nat} {c : Array Value} {e0 : TypeId} (hcap : l.length ≤ cap) (hc : W.heap[b]? = some (.cells c e0 (fz1, fz2))) (hcl : ∀ i, i < l.length → c[off + i]? = some (.int .u8 (l.getD i 0))) :
    Calls Try.prog 17 #[.slice (some ⟨b, off, none⟩) l.length cap] W fun e W' => e = .returned (.int .u64 (bI l)) ∧ Below W.heap.size W W' := by
  letI := rX l off cap 0
  have h := bytesR (off := off) (cap := cap) hl hi
  let π : Inj := fun i => if i = 0 then some (b, c.size) else none
  have hw : WR W.heap.size π [] fctX.st W := {
    dom := fun i x hx => by
      simp only [π] at hx
      split at hx
      · rename_i h0; subst h0; show 0 < 1; omega
      · cases hx
    blk := fun i A hA => by
      have hi0 : i = 0 := by
        have := (List.getElem?_eq_some_iff.1 hA).1
        have : i < 1 := this
        omega
      subst hi0
      obtain rfl : A = { elem := 5, cells := [], ro := true, tl := some (0, .int .u8) } := by
        have : some (some ({ elem := 5, cells := [], ro := true, tl := some (0, .int .u8) } : ABlk)) = some (some A) := hA
        exact (Option.some.inj (Option.some.inj this)).symm
      refine ⟨b, c.size, c, (e0, fz1, fz2), rfl, hc, rfl, (fun h => nomatch h), LR.nil, fun k d hk i hi => ?_⟩
      simp only [Option.some.injEq, Prod.mk.injEq] at hk
      obtain ⟨rfl, rfl⟩ := hk
      rw [mk_len (by omega)] at hi
      rw [mk_skip (by omega), mk_val (by omega)]
      exact hcl i hi
    inj := fun i j A A' b n m h1 h2 h3 => by
      have hi0 : i = 0 := by
        have := (List.getElem?_eq_some_iff.1 h1).1
        have : i < 1 := this
        omega
      have hj0 : j = 0 := by
        have := (List.getElem?_eq_some_iff.1 h2).1
        have : j < 1 := this
        omega
      intro _ _; omega
    lsz := rfl
    linj := fun l l' L h => by simp at h
    loop := fun l r h => by cases h }
  have e0 : lnX.eval = (l.length : Int) := mk_num (by omega)
  have e1 : cpX.eval = (cap : Int) := mk_num (by omega)
  have e2 : ofX.eval = (off : Int) := mk_num (by omega)
  have hargs : LR π [] fctX.args #[Value.slice (some ⟨b, off, none⟩) l.length cap].toList := by
    refine LR.cons ?_ LR.nil
    have so : SlOk ofX lnX cpX := by
      refine ⟨trivial, ?_, trivial, by rw [e2]; omega, by rw [e0]; omega, by rw [e0, e1]; omega⟩
      show (0 : Int) ≤ Rho.ρ 0 ∧ Rho.ρ 0 ≤ (1099511627776 : Int); rw [show Rho.ρ 0 = (l.length : Int) from e0]; omega
    have := VR.slsEx (π := π) (lm := []) (b := 0) (b' := b) (n := c.size) so rfl
    rw [e0, e1, e2] at this
    simpa using this
  refine (Fct.calls h rfl hw hargs).mono ?_
  rintro e W' ⟨rfl, hb⟩
  refine ⟨?_, hb⟩
  show Ending.returned (.int .u64 (stepX (.var 41 0 MU) lnX).eval) = _
  rw [stepX_eval, e0, show (SX.var 41 0 MU).eval = bF0 l from mk_num (by omega)]
  rfl

/-- Words as a fact, of any slice that a list stands in -/
theorem bytes_fct {R : Rho} {l : List Int} (hl : l.length ≤ 1099511627776) (hi : ∀ n ∈ l, byt n) {off len cap : SX} {ex : Bool} {k : Nat} {v : AV} (hlen : len.eval = (l.length : Int)) (h1 : lskip k ≤ off.eval.toNat) (h2 : off.eval.toNat + l.length ≤ lskip k + llen k)
    (hv : ∀ i, i < l.length → lval k (.int .u8) (off.eval.toNat - lskip k + i) = .int .u8 (l.getD i 0)) (v1 : v.lone = true) (v2 : v.vl0 = .int .u64 (bI l)) (v3 : v.fine0) :
    (Fct.mk [.sls 0 off len cap ex] [{ elem := 5, cells := [], ro := true, tl := some (k, .int .u8) }] v [] []).Holds Try.prog 17 := by
  refine fct_of rfl rfl ?_ (lone_flat v1) (lone_fine v1 v3) (by kernel_rfl) (fun π w vs hw hr => ?_)
  · show (true && ((true && true) && (all2 _ v && (true && (true && true))))) = true
    rw [lone_all2 v1]; rfl
  · obtain ⟨c, ws, hvs, r1, r2⟩ := LR.uncons hr
    obtain rfl := r2.nil_inv
    obtain rfl : vs = #[c] := by rw [← Array.toList_inj, hvs]
    obtain ⟨so, b', n, cap', hp, rfl, hex⟩ := VR.sls_inv r1
    obtain ⟨cs, fz, g1, g2, _, _, g4⟩ := hw.at (i := 0) (A := { elem := 5, cells := [], ro := true, tl := some (k, .int .u8) }) rfl hp
    have n3 := so.n3
    have n2 := so.n2
    have e1 : len.eval.toNat = l.length := by omega
    rw [e1]
    have := bytes_c hl hi (W := w) (b := b') (off := off.eval.toNat) (cap := cap') (c := cs) (e0 := fz.1) (fz1 := fz.2.1) (fz2 := fz.2.2) (by rcases hex with ⟨_, h⟩ | ⟨_, h, _⟩ <;> omega) g1 (fun i hi' => by
      rw [show off.eval.toNat + i = lskip k + (off.eval.toNat - lskip k + i) by omega, g4 k (.int .u8) rfl _ (by omega)]
      rw [hv i hi'])
    refine this.mono ?_
    rintro e W' ⟨he, hb⟩
    refine ⟨?_, hb⟩
    rw [he, lone_vl v1, v2]
end Go.Proofs.Ytdenpaifjpmkgaa
