/- The digest of a list of numbers: what Words answers. -/
import Derived.Test.YtdenpaifjpmkgaaWa
namespace Go.Proofs.Ytdenpaifjpmkgaa
open Go.Ev
open Go.RowKit (Below)
set_option maxRecDepth 100000
set_option linter.unusedVariables false
set_option linter.unusedSectionVars false

/-- digests so far -/
def wF0 (l : List Int) : Int := l.foldl (fun h n => stepI h (n % 18446744073709551616)) W0
/-- numbers for the letters: of a list at a place, with a capacity -/
def numW (l : List Int) (off cap j : Nat) (i : Nat) : Int :=
  if i = 0 then l.length else if i = 1 then cap else if i = 2 then off else if i = 41 then wF0 l else if i = 50 then j else if i = 60 then l.getD j 0 else if i = 70 then wF0 (l.take j) else 0
@[reducible] def rW (l : List Int) (off cap j : Nat) : Rho := mkRho (numW l off cap j) (fun _ => (off, l))
def i64 (n : Int) : Prop := -9223372036854775808 ≤ n ∧ n ≤ 9223372036854775807

theorem stepI_u64 (h w : Int) : u64 (stepI h w) := nu_u64 _
theorem wF0_u64 (l : List Int) : u64 (wF0 l) := by
  unfold wF0
  rcases List.eq_nil_or_concat l with rfl | ⟨m, x, rfl⟩
  · exact ⟨by decide, by decide⟩
  · rw [List.concat_eq_append, List.foldl_append]; exact stepI_u64 _ _
theorem wF0_succ {l : List Int} {j : Nat} (h : j < l.length) : wF0 (l.take (j + 1)) = stepI (wF0 (l.take j)) (l.getD j 0 % 18446744073709551616) := by
  unfold wF0
  rw [List.take_succ_eq_append_getElem h, List.foldl_append]
  simp [h]

theorem agW {l : List Int} {off cap : Nat} (j k : Nat) : Agree 40 (rW l off cap j) (rW l off cap k) :=
  mk_agree (by omega) (fun i hi => by unfold numW; (repeat' split) <;> first | rfl | omega) (fun _ _ => rfl)

theorem lW_at (K : Nat) : lpW.at' (fun _ => 0) K = 0 ∨ lpW.at' (fun _ => 0) K = 1 := by cases K with
  | zero => exact .inl rfl
  | succ K => exact .inr rfl

section
variable {l : List Int} {off cap : Nat} (hl : l.length ≤ 1099511627776) (hi : ∀ n ∈ l, i64 n)
include hl hi
theorem kW_ok {j : Nat} {b : Bool} (hj : if b then j < l.length else j = l.length) : @KnowOk (rW l off cap j) (kW b) := by
  refine KTab.ok { cmps := ?_, cells := ?_ }
  · intro x hx
    obtain rfl := List.mem_singleton.1 hx
    refine ⟨by simp [cmpNo], fun _ _ => ?_⟩
    have e1 : @SX.eval (rW l off cap j) inX = (j : Int) := mk_num (by omega)
    have e2 : @SX.eval (rW l off cap j) lnX = (l.length : Int) := mk_num (by omega)
    show some (decide (@SX.eval (rW l off cap j) inX < @SX.eval (rW l off cap j) lnX)) = some b
    rw [e1, e2]
    cases b <;> simp at hj <;> simp <;> omega
  · intro x hx _
    cases b with
    | false => simp [tW] at hx
    | true =>
      simp at hj
      obtain rfl : x = (0, .int .i64, .bin .add ofX inX, i64A 60) := by simpa [tW] using hx
      have g : @lel (rW l off cap j) 0 j = l.getD j 0 := mk_el (by omega) j
      have hg : i64 (l.getD j 0) := hi _ (by simp [List.getD, hj])
      refine cell_i64 (i := j) ?_ ?_ (by rw [g]; exact mk_num (by omega)) (by rw [g]; exact hg.1) (by rw [g]; exact hg.2)
      · rw [mk_skip (by omega)]
        show @Rho.ρ (rW l off cap j) 2 + @Rho.ρ (rW l off cap j) 50 = _
        rw [mk_num (by omega), mk_num (by omega)]; simp [numW]
      · rw [mk_len (by omega)]; exact hj

theorem loopW : SAtX Try.prog (.loop w45) (rW l off cap 0) (roT 17 pre45) (roS pre45) (.exit 0) (rW l off cap 0) (lpW.res (lpW.at' (fun _ => 0) l.length)).1 (sE (u64A 41) 0) := by
  have h := lpW.sound (K := l.length) (q := fun _ => 0) (R := rW l off cap 0) (J := fun j => rW l off cap j) (@fit (rW l off cap 0)) lpW_chk lpW_loops (fun j _ => @noOrc_ok (rW l off cap j) _) (fun j _ => ⟨List.mem_singleton.2 rfl, rfl⟩)
    (fun j hj => kW_ok hl hi (b := true) (by simpa using hj)) (kW_ok hl hi (b := false) (by simp)) (fun j _ => agW 0 j) ?_ (fun x hx => by cases hx) ?_ (fun j _ x hx => by cases hx) ?_ (fun x hx => by cases hx)
  · rw [fin_exit _ (lW_at _), res_st _ (lW_at _)] at h
    exact h
  · intro x hx
    simp only [lpW, List.mem_cons, List.not_mem_nil, or_false] at hx
    rcases hx with rfl | rfl
    · exact ob_var (v := 0) (by rw [mk_num (by omega)]; simp [numW]) rfl (by omega) (by decide)
    · exact ob_var (v := W0) (by rw [mk_num (by omega)]; simp [numW, wF0]) rfl (by decide) (by decide)
  · intro j hj x hx
    simp only [lpW, List.mem_cons, List.not_mem_nil, or_false] at hx
    rcases hx with rfl | rfl
    · have hB : B40 = 1099511627776 := rfl
      have e : @SX.eval (rW l off cap j) (.bin .add inX (.lit 1)) = (j : Int) + 1 := by
        show @Rho.ρ (rW l off cap j) 50 + 1 = _
        rw [mk_num (by omega)]; simp [numW]
      exact ob_var (v := (j : Int) + 1) (by rw [mk_num (by omega)]; simp [numW]) e (by omega) (by omega)
    · have e : @SX.eval (rW l off cap j) stepO = wF0 (l.take (j + 1)) := by
        rw [@stepX_eval (rW l off cap j), wF0_succ hj]
        have e1 : @SX.eval (rW l off cap j) (.var 70 0 MU) = wF0 (l.take j) := by show @Rho.ρ (rW l off cap j) 70 = _; rw [mk_num (by omega)]; simp [numW]
        have e2 : @SX.eval (rW l off cap j) (.wop .add .u64 (.var 60 (-9223372036854775808) 9223372036854775807) (.lit 0)) = l.getD j 0 % 18446744073709551616 := by
          show wapp .add .u64 (@Rho.ρ (rW l off cap j) 60) 0 = _
          rw [mk_num (by omega)]
          simp [numW, wapp, IntKind.wrap, IntKind.bits, IntKind.signed]
        rw [e1, e2]
      have g := wF0_u64 (l.take (j + 1))
      exact ob_var (v := wF0 (l.take (j + 1))) (by rw [mk_num (by omega)]; simp [numW]) e g.1 g.2
  · intro x hx
    obtain rfl := List.mem_singleton.1 hx
    have g := wF0_u64 l
    exact ob_var (v := wF0 l) (by rw [mk_num (by omega)]; simp [numW]) (by show @Rho.ρ (rW l off cap l.length) 70 = _; rw [mk_num (by omega)]; simp [numW]) g.1 g.2
end
end Go.Proofs.Ytdenpaifjpmkgaa
