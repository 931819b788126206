/- Trees of digests: two paths to one root; SealBinds: what is known in a round. -/
import Derived.Test.YtdenpaifjpmkgaaUc
namespace Go.Proofs.Ytdenpaifjpmkgaa
open Go.Ev
open Go.RowKit (Below)
set_option maxRecDepth 100000
set_option linter.unusedVariables false
set_option linter.unusedSectionVars false

/-- what comes of a leaf, a path and its sides, after so many steps -/
def upsF (v : Int) (P S : List Int) : Nat → Int
  | 0 => v
  | j + 1 => upI (upsF v P S j) (P.getD j 0) (decide (S.getD j 0 ≠ 0))
theorem ups_u64 {v : Int} {P S : List Int} (hv : u64 v) : ∀ j, u64 (upsF v P S j)
  | 0 => hv
  | j + 1 => upI_u64 _ _ _
theorem ups_app (v : Int) (P S : List Int) (y z : Int) : ∀ j, j ≤ P.length → j ≤ S.length → upsF v (P ++ [y]) (S ++ [z]) j = upsF v P S j
  | 0, _, _ => rfl
  | j + 1, h1, h2 => by
    have e1 : (P ++ [y]).getD j 0 = P.getD j 0 := by simp [List.getD, List.getElem?_append_left (show j < P.length by omega)]
    have e2 : (S ++ [z]).getD j 0 = S.getD j 0 := by simp [List.getD, List.getElem?_append_left (show j < S.length by omega)]
    simp only [upsF]
    rw [ups_app v P S y z j (by omega) (by omega), e1, e2]
theorem climb_ups {n i : Nat} {v : Int} {P : List Int} (h1 : 1 ≤ n) (hl : P.length = depN n i) : (climbL n i v P).1 = upsF v P (sideL n i) (depN n i) := by
  induction n using Nat.strongRecOn generalizing i P with
  | ind n ih =>
    by_cases h2 : n < 2
    · rw [depN_1 h2, climb_1 (.inl h2)]; rfl
    · have hb := hf_bd (show 2 ≤ n by omega)
      have hne : P ≠ [] := fun e => by
        rw [e] at hl
        by_cases hi : i < hf n
        · rw [depN_l (by omega) hi] at hl; simp at hl
        · rw [depN_r (by omega) hi] at hl; simp at hl
      obtain ⟨X, y, rfl⟩ := snoc_of hne
      rw [List.length_append, List.length_singleton] at hl
      by_cases hi : i < hf n
      · rw [depN_l (by omega) hi] at hl ⊢
        rw [climb_l (by omega) hi, side_l (by omega) hi, ih (hf n) hb.2.1 hb.1 (P := X) (by omega)]
        have hs := side_len (hf n) i
        simp only [upsF]
        rw [ups_app _ _ _ _ _ _ (by omega) (by omega)]
        have e1 : (X ++ [y]).getD (depN (hf n) i) 0 = y := by rw [← show X.length = depN (hf n) i by omega]; simp [List.getD]
        have e2 : (sideL (hf n) i ++ [(1 : Int)]).getD (depN (hf n) i) 0 = 1 := by rw [← hs]; simp [List.getD]
        rw [e1, e2]; rfl
      · rw [depN_r (by omega) hi] at hl ⊢
        rw [climb_r (by omega) hi, side_r (by omega) hi, ih (n - hf n) (by omega) (by omega) (P := X) (by omega)]
        have hs := side_len (n - hf n) (i - hf n)
        simp only [upsF]
        rw [ups_app _ _ _ _ _ _ (by omega) (by omega)]
        have e1 : (X ++ [y]).getD (depN (n - hf n) (i - hf n)) 0 = y := by rw [← show X.length = depN (n - hf n) (i - hf n) by omega]; simp [List.getD]
        have e2 : (sideL (n - hf n) (i - hf n) ++ [(0 : Int)]).getD (depN (n - hf n) (i - hf n)) 0 = 0 := by rw [← hs]; simp [List.getD]
        rw [e1, e2]; rfl

/-! ### two paths -/
section
variable (a b : Int) (P Q S : List Int)
/-- here two different pairs have one join -/
def Coll (j : Nat) : Prop := (upsF a P S j ≠ upsF b Q S j ∨ P.getD j 0 ≠ Q.getD j 0) ∧ upsF a P S (j + 1) = upsF b Q S (j + 1)
/-- how the round goes: 0: both are the same, 1: the digests differ, 2: what came differs -/
def kindN (j : Nat) : Nat := if upsF a P S j = upsF b Q S j then (if P.getD j 0 = Q.getD j 0 then 0 else 1) else 2
def sideN (j : Nat) : Nat := if S.getD j 0 ≠ 0 then 0 else 1
def clsN (j : Nat) : Nat := 2 * kindN a b P Q S j + sideN S j
variable {a b P Q S}
theorem sideN_lt (j : Nat) : sideN S j < 2 := by unfold sideN; split <;> omega
theorem no_coll_back {d : Nat} (h : ∀ j, j < d → ¬ Coll a b P Q S j) (e : upsF a P S d = upsF b Q S d) : ∀ j, j ≤ d → upsF a P S j = upsF b Q S j := by
  intro j hj
  obtain ⟨k, rfl⟩ : ∃ k, d = j + k := ⟨d - j, by omega⟩
  clear hj
  induction k generalizing j with
  | zero => exact e
  | succ k ih =>
    have := ih (j + 1) (by rw [show j + 1 + k = j + (k + 1) by omega]; exact h) (by rw [show j + 1 + k = j + (k + 1) by omega]; exact e)
    exact Classical.byContradiction fun hn => h j (by omega) ⟨.inl hn, this⟩
/-- what came differs from then on -/
theorem no_coll_on {j : Nat} (h : ¬ Coll a b P Q S j) (hk : kindN a b P Q S j ≠ 0) : upsF a P S (j + 1) ≠ upsF b Q S (j + 1) := by
  intro e
  refine h ⟨?_, e⟩
  unfold kindN at hk
  by_cases h1 : upsF a P S j = upsF b Q S j
  · rw [if_pos h1] at hk
    by_cases h2 : P.getD j 0 = Q.getD j 0
    · rw [if_pos h2] at hk; omega
    · exact .inr h2
  · exact .inl h1
theorem kind_same {j : Nat} (h : kindN a b P Q S j = 0) : upsF a P S (j + 1) = upsF b Q S (j + 1) := by
  unfold kindN at h
  by_cases h1 : upsF a P S j = upsF b Q S j
  · rw [if_pos h1] at h
    by_cases h2 : P.getD j 0 = Q.getD j 0
    · simp only [upsF]; rw [h1, h2]
    · rw [if_neg h2] at h; omega
  · rw [if_neg h1] at h; omega
theorem kind_2 {j : Nat} : kindN a b P Q S j = 2 ↔ upsF a P S j ≠ upsF b Q S j := by
  unfold kindN
  by_cases h1 : upsF a P S j = upsF b Q S j
  · rw [if_pos h1]
    constructor
    · intro h; split at h <;> omega
    · intro h; exact absurd h1 h
  · rw [if_neg h1]; exact ⟨fun _ => h1, fun _ => rfl⟩
theorem kind_lt (j : Nat) : kindN a b P Q S j < 3 := by unfold kindN; split <;> (try split) <;> omega
end

/-! ### rounds -/
def upN (g h p q : Int) (j : Nat) (x : Nat) : Int :=
  if x = 140 then g else if x = 141 then h else if x = 144 then p else if x = 145 then q else if x = 146 then j else if x = 150 then upI g p true else if x = 151 then upI g p false else if x = 152 then upI h q true else if x = 153 then upI h q false else 0
theorem upN_at (g h p q : Int) (j : Nat) : upN g h p q j 140 = g ∧ upN g h p q j 141 = h ∧ upN g h p q j 144 = p ∧ upN g h p q j 145 = q ∧ upN g h p q j 146 = j ∧ upN g h p q j 150 = upI g p true ∧ upN g h p q j 151 = upI g p false ∧ upN g h p q j 152 = upI h q true ∧ upN g h p q j 153 = upI h q false := by
  refine ⟨?_, ?_, ?_, ?_, ?_, ?_, ?_, ?_, ?_⟩ <;> simp [upN]
/-- other numbers for the loop's letters -/
@[reducible] def bJ (R : Rho) (f : Nat → Int) : Rho := ⟨fun x => if 140 ≤ x ∧ x < 154 then f x else @Rho.ρ R x⟩
section
variable {R : Rho} {f : Nat → Int}
theorem bJ_at {x : Nat} (h : 140 ≤ x ∧ x < 154) : @Rho.ρ (bJ R f) x = f x := if_pos h
theorem bJ_ne {x : Nat} (h : ¬ (140 ≤ x ∧ x < 154)) : @Rho.ρ (bJ R f) x = @Rho.ρ R x := if_neg h
theorem bJ_lst (k t : Nat) : @Rho.ρ (bJ R f) (lix k t) = @Rho.ρ R (lix k t) := bJ_ne (by unfold lix; omega)
theorem bJ_agree : Agree 100 R (bJ R f) := ⟨fun a ha => (bJ_ne (by omega)).symm, fun k t _ => (bJ_lst k t).symm⟩
theorem bJ_skip (k : Nat) : @lskip (bJ R f) k = @lskip R k := by unfold lskip; rw [bJ_lst]
theorem bJ_len (k : Nat) : @llen (bJ R f) k = @llen R k := by unfold llen; rw [bJ_lst]
theorem bJ_val (k : Nat) (d : EK) (i : Nat) : @lval (bJ R f) k d i = @lval R k d i := by unfold lval lel; rw [bJ_lst]
end

/-- the path given -/
def bQ (I : InT) : List Int := I.l.take (min I.l.length I.d)
def bS (I : InT) : List Int := sideL I.n I.i
def bG (I : InT) (j : Nat) : Int := upsF (I.G.getD I.i 0) I.P (bS I) j
def bH (I : InT) (j : Nat) : Int := upsF I.v (bQ I) (bS I) j
@[reducible] def bK (I : InT) (j : Nat) : Rho := bJ I.R (upN (bG I j) (bH I j) (I.P.getD j 0) ((bQ I).getD j 0) j)

section
variable {I : InT} {j : Nat}
theorem k140 : @Rho.ρ (bK I j) 140 = bG I j := (bJ_at (by omega)).trans (upN_at _ _ _ _ _).1
theorem k141 : @Rho.ρ (bK I j) 141 = bH I j := (bJ_at (by omega)).trans (upN_at _ _ _ _ _).2.1
theorem k144 : @Rho.ρ (bK I j) 144 = I.P.getD j 0 := (bJ_at (by omega)).trans (upN_at _ _ _ _ _).2.2.1
theorem k145 : @Rho.ρ (bK I j) 145 = (bQ I).getD j 0 := (bJ_at (by omega)).trans (upN_at _ _ _ _ _).2.2.2.1
theorem k146 : @Rho.ρ (bK I j) 146 = (j : Int) := (bJ_at (by omega)).trans (upN_at _ _ _ _ _).2.2.2.2.1
theorem k150 : @Rho.ρ (bK I j) 150 = upI (bG I j) (I.P.getD j 0) true := (bJ_at (by omega)).trans (upN_at _ _ _ _ _).2.2.2.2.2.1
theorem k151 : @Rho.ρ (bK I j) 151 = upI (bG I j) (I.P.getD j 0) false := (bJ_at (by omega)).trans (upN_at _ _ _ _ _).2.2.2.2.2.2.1
theorem k152 : @Rho.ρ (bK I j) 152 = upI (bH I j) ((bQ I).getD j 0) true := (bJ_at (by omega)).trans (upN_at _ _ _ _ _).2.2.2.2.2.2.2.1
theorem k153 : @Rho.ρ (bK I j) 153 = upI (bH I j) ((bQ I).getD j 0) false := (bJ_at (by omega)).trans (upN_at _ _ _ _ _).2.2.2.2.2.2.2.2
theorem k19 : @Rho.ρ (bK I j) 19 = (I.d : Int) := by rw [bJ_ne (by omega), t_num (by omega)]; rfl
theorem bG_succ : bG I (j + 1) = upI (bG I j) (I.P.getD j 0) (decide ((bS I).getD j 0 ≠ 0)) := rfl
theorem bH_succ : bH I (j + 1) = upI (bH I j) ((bQ I).getD j 0) (decide ((bS I).getD j 0 ≠ 0)) := rfl

variable (h : I.Ok)
include h
theorem bQ_u : ∀ x ∈ bQ I, u64 x := fun x hx => h.u x (List.mem_of_mem_take hx)
theorem bG_u (j : Nat) : u64 (bG I j) := ups_u64 (t_lA h) j
theorem bH_u (j : Nat) : u64 (bH I j) := ups_u64 h.v j
theorem bS_len : (bS I).length = I.d := side_len _ _
theorem rOrc (j : Nat) : @OrcOk (bK I j) Try.prog (orcOf upFs) := by
  have g0 : @Is0 (bK I j) (dA 140) (.int .u64 (bG I j)) := @Is0.dig (bK I j) _ _ k140 (bG_u h j)
  have h0 : @Is0 (bK I j) (dA 141) (.int .u64 (bH I j)) := @Is0.dig (bK I j) _ _ k141 (bH_u h j)
  have p0 : @Is0 (bK I j) (dA 144) (.int .u64 (I.P.getD j 0)) := @Is0.dig (bK I j) _ _ k144 (getD_u64 (t_Pu h) j)
  have q0 : @Is0 (bK I j) (dA 145) (.int .u64 ((bQ I).getD j 0)) := @Is0.dig (bK I j) _ _ k145 (getD_u64 (bQ_u h) j)
  refine @orcOf_ok (bK I j) _ _ ⟨fun F hF => ?_, trivial⟩
  simp only [List.mem_cons, List.not_mem_nil, or_false] at hF
  rcases hF with rfl | rfl | rfl | rfl
  · exact up_fct (bG_u h j) (getD_u64 (t_Pu h) j) g0 p0 (@Is0.dig (bK I j) _ _ k150 (upI_u64 _ _ _))
  · exact up_fct (bG_u h j) (getD_u64 (t_Pu h) j) g0 p0 (@Is0.dig (bK I j) _ _ k151 (upI_u64 _ _ _))
  · exact up_fct (bH_u h j) (getD_u64 (bQ_u h) j) h0 q0 (@Is0.dig (bK I j) _ _ k152 (upI_u64 _ _ _))
  · exact up_fct (bH_u h j) (getD_u64 (bQ_u h) j) h0 q0 (@Is0.dig (bK I j) _ _ k153 (upI_u64 _ _ _))
end

theorem rTab_mem {a p q : Nat} (hq : q < 10) {x : BinOp × SX × SX × Bool} (hx : x ∈ (rTab a p q).cmps) : x = (.lss, jL, dpL, true) ∨ x = (.lss, jL, ptX a p, true) ∨ x = (.neq, dX 140, dX 141, Nat.beq (q / 2) 2 || Nat.beq (q / 2) 4) ∨
    (¬ (q / 2 = 2 ∨ q / 2 = 4) ∧ (x = (.neq, dX 144, dX 145, !Nat.beq (q / 2) 0) ∨ x = (.eql, dX 144, dX 145, Nat.beq (q / 2) 0))) ∨
    (q / 2 ≠ 0 ∧ x = (.eql, dX (if Nat.beq (q % 2) 0 then 150 else 151), dX (if Nat.beq (q % 2) 0 then 152 else 153), Nat.beq (q / 2) 3 || Nat.beq (q / 2) 4)) := by
  unfold rTab at hx
  rw [if_neg (by simp; omega)] at hx
  simp only [List.mem_append, List.mem_cons, List.not_mem_nil, or_false] at hx
  rcases hx with ((hx | hx | hx) | hx) | hx
  · exact .inl hx
  · exact .inr (.inl hx)
  · exact .inr (.inr (.inl hx))
  · by_cases h1 : (Nat.beq (q / 2) 2 || Nat.beq (q / 2) 4) = true
    · rw [if_pos h1] at hx; cases hx
    · rw [if_neg h1] at hx
      simp only [Bool.or_eq_true, Nat.beq_eq] at h1
      simp only [List.mem_cons, List.not_mem_nil, or_false] at hx
      exact .inr (.inr (.inr (.inl ⟨h1, hx⟩)))
  · by_cases h1 : Nat.beq (q / 2) 0 = true
    · rw [if_pos h1] at hx; cases hx
    · rw [if_neg h1] at hx
      simp only [Nat.beq_eq] at h1
      exact .inr (.inr (.inr (.inr ⟨h1, List.mem_singleton.1 hx⟩)))
theorem rTab_cells {a p q : Nat} (hq : q < 10) : (rTab a p q).cells = [(54, .int .u64, jL, dA 144), (55, .bool, jL, .bool (Nat.beq (q % 2) 0)), (0, .int .u64, .bin .add (.free 2) jL, dA 145)] := by
  unfold rTab
  rw [if_neg (by simp; omega)]
theorem rTab_rest {a p q : Nat} : (rTab a p q).puts = [] ∧ (rTab a p q).apps = [] ∧ (rTab a p q).reps = [] ∧ (rTab a p q).cpys = [] := by
  unfold rTab
  split <;> exact ⟨rfl, rfl, rfl, rfl⟩
theorem bool_iff {p : Prop} {b c : Bool} (h1 : b = true ↔ p) (h2 : c = true ↔ p) : b = c := by
  rw [Bool.eq_iff_iff, h1, h2]

section
variable {I : InT} (h : I.Ok)
include h
theorem rKnow {a p q j : Nat} (hq : q < 10) (hQ : (bQ I).length = I.d) (hpt : @SX.eval I.R (ptX a p) = (I.d : Int)) (hpk : @SX.eval (bK I j) (ptX a p) = @SX.eval I.R (ptX a p)) (hj : j < I.d) (hsd : Nat.beq (q % 2) 0 = decide ((bS I).getD j 0 ≠ 0))
    (h1 : (q / 2 = 2 ∨ q / 2 = 4) ↔ bG I j ≠ bH I j) (h2 : ¬ (q / 2 = 2 ∨ q / 2 = 4) → (q / 2 = 0 ↔ I.P.getD j 0 = (bQ I).getD j 0)) (h3 : q / 2 ≠ 0 → ((q / 2 = 3 ∨ q / 2 = 4) ↔ bG I (j + 1) = bH I (j + 1))) : @KnowOk (bK I j) (rTab a p q).know := by
  have hd := t_d h
  obtain ⟨r1, r2, r3, r4⟩ := rTab_rest (a := a) (p := p) (q := q)
  have eD : @SX.eval (bK I j) dpL = (I.d : Int) := k19
  have eJ : @SX.eval (bK I j) jL = (j : Int) := k146
  have hcl : ∀ x ∈ (rTab a p q).cells, @SX.ok (bK I j) x.2.2.1 → ∃ i : Nat, @SX.eval (bK I j) x.2.2.1 = ((@lskip (bK I j) x.1 + i : Nat) : Int) ∧ i < @llen (bK I j) x.1 ∧ ∀ π lm, @VR (bK I j) π lm x.2.2.2 (@lval (bK I j) x.1 x.2.1 i) := by
    intro x hx _
    rw [rTab_cells hq] at hx
    simp only [List.mem_cons, List.not_mem_nil, or_false] at hx
    rcases hx with rfl | rfl | rfl
    · have hP : LetL (bK I j) 54 I.P := by
        have := t_let (I := I) (k := 54) (l := I.P) (by omega) rfl
        exact ⟨by rw [bJ_skip, this.s], by rw [bJ_len, this.n], fun i => by rw [bJ_val, this.v]⟩
      exact t_cell h (bK I j) hP (by rw [t_PL h]; exact hj) eJ k144 (getD_u64 (t_Pu h) j)
    · refine ⟨j, ?_, ?_, fun π lm => ?_⟩
      · show @SX.eval (bK I j) jL = _
        rw [eJ, bJ_skip, mk_skip (by omega)]
        show (j : Int) = ((0 + j : Nat) : Int)
        omega
      · show j < _
        rw [bJ_len, mk_len (by omega)]
        show j < (sideL I.n I.i).length
        rw [side_len]; exact hj
      · show @VR (bK I j) π lm (.bool (Nat.beq (q % 2) 0)) _
        rw [bJ_val, mk_val (by omega), hsd]
        exact @VR.bool (bK I j) π lm _
    · have eF : @SX.eval (bK I j) (.free 2) = (I.off : Int) := by
        show @Rho.ρ (bK I j) 2 = _
        rw [bJ_ne (by omega), t_num (by omega)]; rfl
      refine ⟨j, ?_, ?_, fun π lm => ?_⟩
      · show @SX.eval (bK I j) (.free 2) + @SX.eval (bK I j) jL = _
        rw [eF, eJ, bJ_skip, mk_skip (by omega)]
        exact (Int.natCast_add _ _).symm
      · show j < _
        rw [bJ_len, mk_len (by omega)]
        show j < I.l.length
        unfold bQ at hQ
        rw [List.length_take] at hQ
        omega
      · show @VR (bK I j) π lm (dA 145) _
        rw [bJ_val, mk_val (by omega)]
        have q0 : @Is0 (bK I j) (dA 145) (.int .u64 ((bQ I).getD j 0)) := @Is0.dig (bK I j) _ _ k145 (getD_u64 (bQ_u h) j)
        have := @vl0_rel (bK I j) π lm _ (@Is0.l (bK I j) _ _ q0) (@Is0.f (bK I j) _ _ q0)
        rw [@Is0.v (bK I j) _ _ q0] at this
        have e : (bQ I).getD j 0 = I.l.getD j 0 := by
          unfold bQ at hQ ⊢
          rw [List.length_take] at hQ
          simp [List.getD, List.getElem?_take_of_lt (show j < min I.l.length I.d by omega)]
        rw [e] at this
        exact this
  refine KTab.ok { cmps := ?_, cells := hcl, puts := fun x hx => absurd hx (by rw [r1]; exact List.not_mem_nil), apps := fun x hx => absurd hx (by rw [r2]; exact List.not_mem_nil), reps := fun x hx => absurd hx (by rw [r3]; exact List.not_mem_nil), cpys := r4 }
  intro x hx
  rcases rTab_mem hq hx with rfl | rfl | rfl | ⟨hn, rfl | rfl⟩ | ⟨hn, rfl⟩
  · refine ⟨by simp [cmpNo], fun _ _ => ?_⟩
    show some (decide (@SX.eval (bK I j) jL < @SX.eval (bK I j) dpL)) = some true
    rw [eJ, eD]; simp only [Option.some.injEq, decide_eq_true_eq]; omega
  · refine ⟨by simp [cmpNo], fun _ _ => ?_⟩
    show some (decide (@SX.eval (bK I j) jL < @SX.eval (bK I j) (ptX a p))) = some true
    rw [eJ, hpk, hpt]; simp only [Option.some.injEq, decide_eq_true_eq]; omega
  · refine ⟨by simp [cmpNo], fun _ _ => ?_⟩
    show some (@Rho.ρ (bK I j) 140 != @Rho.ρ (bK I j) 141) = _
    rw [k140, k141]
    exact congrArg some (bool_iff (p := bG I j ≠ bH I j) (by simp) (by simp only [Bool.or_eq_true, Nat.beq_eq]; exact h1))
  · refine ⟨by simp [cmpNo], fun _ _ => ?_⟩
    show some (@Rho.ρ (bK I j) 144 != @Rho.ρ (bK I j) 145) = _
    rw [k144, k145]
    refine congrArg some (bool_iff (p := I.P.getD j 0 ≠ (bQ I).getD j 0) (by simp) ?_)
    rw [Ne, ← h2 hn, Bool.not_eq_true', ← Bool.not_eq_true, Nat.beq_eq]
  · refine ⟨by simp [cmpNo], fun _ _ => ?_⟩
    show some (@Rho.ρ (bK I j) 144 == @Rho.ρ (bK I j) 145) = _
    rw [k144, k145]
    refine congrArg some (bool_iff (p := I.P.getD j 0 = (bQ I).getD j 0) (by simp) ?_)
    rw [← h2 hn, Nat.beq_eq]
  · have h3' := h3 hn
    rw [bG_succ, bH_succ, ← hsd] at h3'
    refine ⟨by simp [cmpNo], fun _ _ => ?_⟩
    show some (@Rho.ρ (bK I j) (if Nat.beq (q % 2) 0 then 150 else 151) == @Rho.ρ (bK I j) (if Nat.beq (q % 2) 0 then 152 else 153)) = _
    refine congrArg some (bool_iff (p := q / 2 = 3 ∨ q / 2 = 4) ?_ (by simp))
    rw [h3', beq_iff_eq]
    cases hb : Nat.beq (q % 2) 0
    · show @Rho.ρ (bK I j) 151 = @Rho.ρ (bK I j) 153 ↔ _
      rw [k151, k153]
    · show @Rho.ρ (bK I j) 150 = @Rho.ρ (bK I j) 152 ↔ _
      rw [k150, k152]
theorem rKnow10 {a p : Nat} : @KnowOk (bK I I.d) (rTab a p 10).know := by
  refine KTab.ok { cmps := ?_ }
  intro x hx
  obtain rfl := List.mem_singleton.1 hx
  refine ⟨by simp [cmpNo], fun _ _ => ?_⟩
  show some (decide (@Rho.ρ (bK I I.d) 146 < @Rho.ρ (bK I I.d) 19)) = some false
  rw [k146, k19]; simp
end
end Go.Proofs.Ytdenpaifjpmkgaa
