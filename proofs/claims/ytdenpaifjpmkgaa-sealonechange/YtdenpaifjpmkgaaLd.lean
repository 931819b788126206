/- SealOneChange: what is known beforehand is so. -/
import Derived.Test.YtdenpaifjpmkgaaLb
import Derived.Test.YtdenpaifjpmkgaaXm
namespace Go.Proofs.Ytdenpaifjpmkgaa
open Go.Ev
open Go.RowKit (Below)
set_option maxRecDepth 100000
set_option linter.unusedVariables false
set_option linter.unusedSectionVars false

theorem wI_eq {l : List Int} {i : Nat} {v : Int} (hi : i < l.length) (h1 : ∀ n ∈ l, i64 n) (hv : i64 v) : (wI l == wI (l.set i v)) = decide (l.getD i 0 = v) := by
  by_cases h : l.getD i 0 = v
  · have : l.set i v = l := by
      apply List.ext_getElem (by simp)
      intro j h1 h2
      rw [List.getElem_set]; split
      · rename_i e; subst e; rw [← h]; simp [List.getD, hi]
      · rfl
    rw [this, decide_eq_true h]; simp
  · have hne : wF0 l ≠ wF0 (l.set i v) := words_ne (i := i) (by simp) hi h1
      (fun n hn => by rcases List.mem_or_eq_of_mem_set hn with e | e; exact h1 n e; exact e ▸ hv)
      (fun j hj => by simp [List.getD, List.getElem?_set_ne (Ne.symm hj)]) (by simpa [List.getD, hi] using h)
    have : wI l ≠ wI (l.set i v) := fun e => by
      unfold wI at e
      rw [List.length_set] at e
      exact hne (stepI_inj' (wF0_u64 _) (wF0_u64 _) e)
    rw [decide_eq_false h]; simpa using this
theorem bI_eq {l : List Int} {i : Nat} {v : Int} (hi : i < l.length) (h1 : ∀ n ∈ l, byt n) (hv : byt v) : (bI l == bI (l.set i v)) = decide (l.getD i 0 = v) := by
  by_cases h : l.getD i 0 = v
  · have : l.set i v = l := by
      apply List.ext_getElem (by simp)
      intro j h1 h2
      rw [List.getElem_set]; split
      · rename_i e; subst e; rw [← h]; simp [List.getD, hi]
      · rfl
    rw [this, decide_eq_true h]; simp
  · have hne : bF0 l ≠ bF0 (l.set i v) := bytes_ne (i := i) (by simp) hi h1
      (fun n hn => by rcases List.mem_or_eq_of_mem_set hn with e | e; exact h1 n e; exact e ▸ hv)
      (fun j hj => by simp [List.getD, List.getElem?_set_ne (Ne.symm hj)]) (by simpa [List.getD, hi] using h)
    have : bI l ≠ bI (l.set i v) := fun e => by
      unfold bI at e
      rw [List.length_set] at e
      exact hne (stepI_inj' (bSt_u64 _ _).1 (bSt_u64 _ _).1 e)
    rw [decide_eq_false h]; simpa using this

/-- what an input holds -/
structure In where
  l : List Int
  b : List Int
  cL : Nat
  oL : Nat
  cB : Nat
  oB : Nat
  z : Nat → Int
namespace In
variable (I : In)
def iL : Nat := (I.z 3 % I.l.length).toNat
def iB : Nat := (I.z 3 % I.b.length).toNat
def vL : Int := wapp .add .i64 (I.z 0) 0
def vB : Int := wapp .add .u8 (I.z 0) 0
def num : Nat → Int
  | 0 => I.l.length
  | 1 => I.cL
  | 2 => I.oL
  | 3 => I.b.length
  | 4 => I.cB
  | 5 => I.oB
  | 6 => I.z 0
  | 7 => I.z 1
  | 8 => I.z 2
  | 9 => I.z 3
  | 20 => wI I.l
  | 21 => wI (I.l.set I.iL I.vL)
  | 22 => bI I.b
  | 23 => bI (I.b.set I.iB I.vB)
  | 30 => I.l.getD I.iL 0
  | 31 => I.b.getD I.iB 0
  | _ => 0
def ls : Nat → Nat × List Int
  | 0 => (I.oL, I.l)
  | 1 => (I.oB, I.b)
  | 2 => (0, I.l)
  | 3 => (0, I.l.set I.iL I.vL)
  | 4 => (0, I.b)
  | 5 => (0, I.b.set I.iB I.vB)
  | _ => (0, [])
@[reducible] def R : Rho := mkRho I.num I.ls
structure Ok : Prop where
  l : ∀ n ∈ I.l, i64 n
  b : ∀ n ∈ I.b, byt n
  z : ∀ i, u64 (I.z i)
end In
variable {I : In}
theorem vL_i64 (I : In) : i64 I.vL := by
  show i64 (IntKind.i64.wrap (I.z 0 + 0))
  rw [IntKind.wrap_i64]; unfold i64; omega
theorem vB_byt (I : In) : byt I.vB := by
  show byt (IntKind.u8.wrap (I.z 0 + 0))
  rw [IntKind.wrap_u8]; unfold byt; omega
theorem modN {z n : Int} (h : u64 z) (hn : 0 < n) : z.tmod n = ((z % n).toNat : Int) ∧ ((z % n).toNat : Int) < n := by
  unfold u64 at h
  rw [Int.tmod_eq_emod_of_nonneg h.1]
  have := Int.emod_lt_of_pos z hn
  have := Int.emod_nonneg z (show n ≠ 0 by omega)
  omega
theorem eq_ok {x y : Int} {p : Prop} [Decidable p] (h : x = y ↔ p) : cmpI .eql x y = some (decide p) := by
  show some (x == y) = _
  congr 1
  by_cases hp : p
  · rw [decide_eq_true hp]; simpa using h.2 hp
  · rw [decide_eq_false hp]; simpa using fun e => hp (h.1 e)
theorem mem_if {α : Type} {x : α} {a : Nat} {l : List α} (h : x ∈ (if Nat.beq a 1 then l else [])) : a = 1 ∧ x ∈ l := by
  split at h
  · rename_i e; exact ⟨Nat.eq_of_beq_eq_true e, h⟩
  · cases h
theorem set_eq {l : List Int} {i : Nat} {v : Int} (h : i < l.length) : (l.set i v).getD i 0 = v := by simp [List.getD, h]
theorem set_ne {l : List Int} {i j : Nat} {v : Int} (h : j ≠ i) : (l.set i v).getD j 0 = l.getD j 0 := by simp [List.getD, List.getElem?_set_ne (Ne.symm h)]

section
variable (hz : I.Ok)
include hz
theorem iL_lt (h0 : 0 < I.l.length) : I.iL < I.l.length := by
  have := (modN (hz.z 3) (show (0 : Int) < I.l.length by omega)).2
  unfold In.iL; omega
theorem iB_lt (h0 : 0 < I.b.length) : I.iB < I.b.length := by
  have := (modN (hz.z 3) (show (0 : Int) < I.b.length by omega)).2
  unfold In.iB; omega
theorem arL_eval (h0 : 0 < I.l.length) : @SX.eval I.R arL = ((I.iL : Nat) : Int) := by
  show (@Rho.ρ I.R 9).tmod (@Rho.ρ I.R 0) = _
  rw [mk_num (by omega), mk_num (by omega)]
  exact (modN (hz.z 3) (show (0 : Int) < I.l.length by omega)).1
theorem arB_eval (h0 : 0 < I.b.length) : @SX.eval I.R arB = ((I.iB : Nat) : Int) := by
  show (@Rho.ρ I.R 9).tmod (@Rho.ρ I.R 3) = _
  rw [mk_num (by omega), mk_num (by omega)]
  exact (modN (hz.z 3) (show (0 : Int) < I.b.length by omega)).1
theorem getL (j : Nat) : i64 (I.l.getD j 0) := by
  by_cases h : j < I.l.length
  · exact hz.l _ (by simp [List.getD, h])
  · simp [List.getD, List.getElem?_eq_none (Nat.le_of_not_lt h), i64]
theorem z_ok (i : Nat) (hi : i < 4) : @SX.eval I.R (zX i) = I.z i := by
  show @Rho.ρ I.R (6 + i) = _
  rw [mk_num (by omega)]
  match i, hi with
  | 0, _ => rfl
  | 1, _ => rfl
  | 2, _ => rfl
  | 3, _ => rfl
theorem cmps_ok {a b : Nat} (ha : a = 1 → 0 < I.l.length) (hb : b = 1 → 0 < I.b.length) :
    ∀ x ∈ (tabL a b (decide (I.z 0 = I.z 2)) (decide (I.z 1 = I.z 2)) (decide (I.z 0 = I.z 1)) (decide (I.l.getD I.iL 0 = I.vL)) (decide (I.b.getD I.iB 0 = I.vB))).cmps,
      cmpNo x.1 ≠ 0 ∧ (@SX.ok I.R x.2.1 → @SX.ok I.R x.2.2.1 → cmpI x.1 (@SX.eval I.R x.2.1) (@SX.eval I.R x.2.2.1) = some x.2.2.2) := by
  have e0 := z_ok hz 0 (by omega)
  have e1 := z_ok hz 1 (by omega)
  have e2 := z_ok hz 2 (by omega)
  intro x hx
  rcases List.mem_append.1 hx with hx | hx
  · simp only [tabJ, List.mem_cons, List.not_mem_nil, or_false] at hx
    rcases hx with rfl | rfl | rfl | rfl | rfl | rfl
    · refine ⟨by simp [cmpNo], fun _ _ => eq_ok ?_⟩
      simp only [@stepX_eval I.R]
      rw [e0, e1, e2]
      exact ⟨fun h => stepI_inj (hz.z 0) (hz.z 2) (stepI_inj' (stepI_u64 _ _) (stepI_u64 _ _) h), fun h => by rw [h]⟩
    · refine ⟨by simp [cmpNo], fun _ _ => eq_ok ?_⟩
      simp only
      rw [e0, e2]
    · refine ⟨by simp [cmpNo], fun _ _ => eq_ok ?_⟩
      simp only [@stepX_eval I.R]
      rw [e0, e1, e2]
      exact ⟨fun h => stepI_inj (hz.z 1) (hz.z 2) h, fun h => by rw [h]⟩
    · refine ⟨by simp [cmpNo], fun _ _ => eq_ok ?_⟩
      simp only
      rw [e1, e2]
    · refine ⟨by simp [cmpNo], fun _ _ => eq_ok ?_⟩
      simp only [@stepX_eval I.R]
      rw [e0, e1]
      exact ⟨fun h => stepI_inj' (hz.z 0) (hz.z 1) h, fun h => by rw [h]⟩
    · refine ⟨by simp [cmpNo], fun _ _ => eq_ok ?_⟩
      simp only
      rw [e0, e1]
  · rcases List.mem_append.1 hx with hx | hx
    · obtain ⟨h1, hx⟩ := mem_if hx
      have hl := ha h1
      have hw := wI_eq (iL_lt hz hl) hz.l (vL_i64 I)
      have d0 : @SX.eval I.R (dX 0) = wI I.l := mk_num (by omega)
      have d1 : @SX.eval I.R (dX 1) = wI (I.l.set I.iL I.vL) := mk_num (by omega)
      have hw' : wI I.l = wI (I.l.set I.iL I.vL) ↔ I.l.getD I.iL 0 = I.vL := by
        constructor
        · intro h; rw [← h] at hw; simpa using hw.symm
        · intro h; rw [decide_eq_true h] at hw; simpa using hw
      simp only [tabS, List.mem_cons, List.not_mem_nil, or_false] at hx
      rcases hx with rfl | rfl | rfl | rfl
      · refine ⟨by simp [cmpNo], fun _ _ => ?_⟩
        show some (decide (@SX.eval I.R arL < @Rho.ρ I.R 0)) = some true
        rw [arL_eval hz hl, mk_num (by omega)]
        have := iL_lt hz hl
        simp only [In.num]; simp; omega
      · refine ⟨by simp [cmpNo], fun _ _ => eq_ok ?_⟩
        simp only
        rw [d0, d1]; exact hw'
      · refine ⟨by simp [cmpNo], fun _ _ => eq_ok ?_⟩
        show @Rho.ρ I.R 30 = wapp .add .i64 (@Rho.ρ I.R 6) 0 ↔ _
        rw [mk_num (by omega), mk_num (by omega)]
        exact Iff.rfl
      · refine ⟨by simp [cmpNo], fun _ _ => eq_ok ?_⟩
        simp only [@stepX_eval I.R]
        rw [e1, d0, d1]
        exact ⟨fun h => hw'.1 (stepI_inj (stepI_u64 _ _) (stepI_u64 _ _) h), fun h => by rw [← hw'.2 h]⟩
    · obtain ⟨h1, hx⟩ := mem_if hx
      have hl := hb h1
      have hw := bI_eq (iB_lt hz hl) hz.b (vB_byt I)
      have d0 : @SX.eval I.R (dX 2) = bI I.b := mk_num (by omega)
      have d1 : @SX.eval I.R (dX 3) = bI (I.b.set I.iB I.vB) := mk_num (by omega)
      have hw' : bI I.b = bI (I.b.set I.iB I.vB) ↔ I.b.getD I.iB 0 = I.vB := by
        constructor
        · intro h; rw [← h] at hw; simpa using hw.symm
        · intro h; rw [decide_eq_true h] at hw; simpa using hw
      simp only [tabU, List.mem_cons, List.not_mem_nil, or_false] at hx
      rcases hx with rfl | rfl | rfl
      · refine ⟨by simp [cmpNo], fun _ _ => ?_⟩
        show some (decide (@SX.eval I.R arB < @Rho.ρ I.R 3)) = some true
        rw [arB_eval hz hl, mk_num (by omega)]
        have := iB_lt hz hl
        simp only [In.num]; simp; omega
      · refine ⟨by simp [cmpNo], fun _ _ => eq_ok ?_⟩
        simp only
        rw [d0, d1]; exact hw'
      · refine ⟨by simp [cmpNo], fun _ _ => eq_ok ?_⟩
        show @Rho.ρ I.R 31 = wapp .add .u8 (@Rho.ρ I.R 6) 0 ↔ _
        rw [mk_num (by omega), mk_num (by omega)]
        exact Iff.rfl
end
end Go.Proofs.Ytdenpaifjpmkgaa
