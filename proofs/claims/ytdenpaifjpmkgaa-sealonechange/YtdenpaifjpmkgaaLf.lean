/- SealOneChange: the law as a fact, whatever the lists. -/
import Derived.Test.YtdenpaifjpmkgaaLe
import Derived.Test.YtdenpaifjpmkgaaLc1
import Derived.Test.YtdenpaifjpmkgaaLc2
import Derived.Test.YtdenpaifjpmkgaaLc3
import Derived.Test.YtdenpaifjpmkgaaLc4
import Derived.Test.YtdenpaifjpmkgaaLc5
import Derived.Test.YtdenpaifjpmkgaaLc6
namespace Go.Proofs.Ytdenpaifjpmkgaa
open Go.Ev
open Go.RowKit (Below)
set_option maxRecDepth 100000
set_option linter.unusedVariables false
set_option linter.unusedSectionVars false

theorem hb9 : hasBody Try.prog 9 = true := by kernel_rfl
theorem hb15 : hasBody Try.prog 15 = true := by kernel_rfl
theorem ex_fact [Rho] : exF.Holds Try.prog 9 := fct_flat (by rfl) rfl rfl (lone_fine rfl trivial) hb9 (fun w => ex_c w)

/-- how a list is told: 0: empty, 1: not, 4: nil -/
def Way (a : Nat) (l : List Int) : Prop := (a = 0 ∧ l = []) ∨ (a = 1 ∧ 0 < l.length ∧ l.length ≤ 200) ∨ (a = 4 ∧ l = [])

section
variable {I : In} (hz : I.Ok)
include hz
theorem dig {n : Nat} {v : Int} (hn : n < 1000000) (hv : I.num n = v) (hu : u64 v) : (AV.sym .u64 (.var n 0 MU) 0 MU).lone = true ∧ @AV.vl0 I.R (.sym .u64 (.var n 0 MU) 0 MU) = .int .u64 v ∧ @AV.fine0 I.R (.sym .u64 (.var n 0 MU) 0 MU) := by
  have e : @Rho.ρ I.R n = v := by rw [mk_num hn, hv]
  refine ⟨rfl, ?_, ?_⟩
  · show Value.int .u64 (@Rho.ρ I.R n) = _
    rw [e]
  · show ((0 : Int) ≤ @Rho.ρ I.R n ∧ @Rho.ρ I.R n ≤ MU) ∧ (0 : Int) ≤ @Rho.ρ I.R n ∧ @Rho.ρ I.R n ≤ MU
    rw [e]; exact ⟨hu, hu⟩
theorem odd_i64 : ∀ n ∈ I.l.set I.iL I.vL, i64 n := fun n hn => by
  rcases List.mem_or_eq_of_mem_set hn with e | e
  · exact hz.l n e
  · exact e ▸ vL_i64 I
theorem odd_byt : ∀ n ∈ I.b.set I.iB I.vB, byt n := fun n hn => by
  rcases List.mem_or_eq_of_mem_set hn with e | e
  · exact hz.b n e
  · exact e ▸ vB_byt I
theorem facts_ok {a b : Nat} (ha : Way a I.l) (hb : Way b I.b) : @FactsOk I.R Try.prog (factsL a b) := by
  letI := I.R
  have e2 : @SX.eval I.R (.free 2) = (I.oL : Int) := mk_num (by omega)
  have e5 : @SX.eval I.R (.free 5) = (I.oB : Int) := mk_num (by omega)
  have s0 : @lskip I.R 0 = I.oL := mk_skip (by omega)
  have s1 : @lskip I.R 1 = I.oB := mk_skip (by omega)
  have s3 : @lskip I.R 3 = 0 := mk_skip (by omega)
  have s5 : @lskip I.R 5 = 0 := mk_skip (by omega)
  have n0 : @llen I.R 0 = I.l.length := mk_len (by omega)
  have n1 : @llen I.R 1 = I.b.length := mk_len (by omega)
  have n3 : @llen I.R 3 = (I.l.set I.iL I.vL).length := mk_len (by omega)
  have n5 : @llen I.R 5 = (I.b.set I.iB I.vB).length := mk_len (by omega)
  refine ⟨fun F hF => ?_, fun F hF => ?_, fun F hF => ?_, trivial⟩
  · obtain rfl := List.mem_singleton.1 hF
    exact ex_fact
  · by_cases h4 : a = 4
    · subst h4
      have hl : I.l = [] := by rcases ha with ⟨h, _⟩ | ⟨h, _⟩ | ⟨_, h⟩; omega; omega; exact h
      obtain rfl := List.mem_singleton.1 hF
      obtain ⟨v1, v2, v3⟩ := dig hz (n := 20) (v := wI I.l) (by omega) rfl (stepI_u64 _ _)
      refine fct_flat (by kernel_rfl) rfl rfl (lone_fine v1 v3) hb15 (fun w => ?_)
      rw [lone_vl v1, v2, hl]
      exact run_open (args := [.nilSlice]) fit (noOrc_ok _) nil_run ⟨trivial, trivial⟩ w
    · have hn : @SX.eval I.R (nl a) = (I.l.length : Int) := by
        rcases ha with ⟨rfl, h⟩ | ⟨rfl, _⟩ | ⟨h, _⟩
        · rw [h]; rfl
        · exact mk_num (by omega)
        · exact absurd h h4
      have hl : I.l.length ≤ 200 := by
        rcases ha with ⟨_, h⟩ | ⟨_, _, h⟩ | ⟨_, h⟩
        · rw [h]; simp
        · exact h
        · rw [h]; simp
      have hF : F ∈ [tFact 0 (.free 2) (nl a) (.free 1) true 0, tFact 3 (.lit 0) (nl a) (nl a) false 1] := by
        have : Nat.beq a 4 = false := by
          cases h : Nat.beq a 4 with
          | false => rfl
          | true => exact absurd (Nat.eq_of_beq_eq_true h) h4
        simpa [this] using hF
      rcases List.mem_cons.1 hF with rfl | hF
      · obtain ⟨v1, v2, v3⟩ := dig hz (n := 20) (v := wI I.l) (by omega) rfl (stepI_u64 _ _)
        refine words_fct (R := I.R) (l := I.l) (by omega) hz.l hn (by rw [e2, s0]; omega) (by rw [e2, s0, n0]; omega) (fun i hi => ?_) v1 v2 v3
        rw [e2, s0, mk_val (by omega)]
        show Value.int .i64 (I.l.getD _ 0) = _
        congr 2; omega
      · obtain rfl := List.mem_singleton.1 hF
        obtain ⟨v1, v2, v3⟩ := dig hz (n := 21) (v := wI (I.l.set I.iL I.vL)) (by omega) rfl (stepI_u64 _ _)
        have e0 : @SX.eval I.R (.lit 0) = 0 := rfl
        refine words_fct (R := I.R) (l := I.l.set I.iL I.vL) (by simp; omega) (odd_i64 hz) (by simpa using hn) (by rw [e0, s3]; omega) (by rw [e0, s3, n3]; omega) (fun i hi => ?_) v1 v2 v3
        rw [e0, s3, mk_val (by omega)]
        show Value.int .i64 ((I.l.set I.iL I.vL).getD _ 0) = _
        congr 2; omega
  · by_cases h4 : b = 4
    · subst h4
      have hF : F ∈ ([] : List Fct) := hF
      cases hF
    · have hn : @SX.eval I.R (nb b) = (I.b.length : Int) := by
        rcases hb with ⟨rfl, h⟩ | ⟨rfl, _⟩ | ⟨h, _⟩
        · rw [h]; rfl
        · exact mk_num (by omega)
        · exact absurd h h4
      have hl : I.b.length ≤ 200 := by
        rcases hb with ⟨_, h⟩ | ⟨_, _, h⟩ | ⟨_, h⟩
        · rw [h]; simp
        · exact h
        · rw [h]; simp
      have hF : F ∈ [uFact 1 (.free 5) (nb b) (.free 4) true 2, uFact 5 (.lit 0) (nb b) (nb b) false 3] := by
        have : Nat.beq b 4 = false := by
          cases h : Nat.beq b 4 with
          | false => rfl
          | true => exact absurd (Nat.eq_of_beq_eq_true h) h4
        simpa [this] using hF
      rcases List.mem_cons.1 hF with rfl | hF
      · obtain ⟨v1, v2, v3⟩ := dig hz (n := 22) (v := bI I.b) (by omega) rfl (stepI_u64 _ _)
        refine bytes_fct (R := I.R) (l := I.b) (by omega) hz.b hn (by rw [e5, s1]; omega) (by rw [e5, s1, n1]; omega) (fun i hi => ?_) v1 v2 v3
        rw [e5, s1, mk_val (by omega)]
        show Value.int .u8 (I.b.getD _ 0) = _
        congr 2; omega
      · obtain rfl := List.mem_singleton.1 hF
        obtain ⟨v1, v2, v3⟩ := dig hz (n := 23) (v := bI (I.b.set I.iB I.vB)) (by omega) rfl (stepI_u64 _ _)
        have e0 : @SX.eval I.R (.lit 0) = 0 := rfl
        refine bytes_fct (R := I.R) (l := I.b.set I.iB I.vB) (by simp; omega) (odd_byt hz) (by simpa using hn) (by rw [e0, s5]; omega) (by rw [e0, s5, n5]; omega) (fun i hi => ?_) v1 v2 v3
        rw [e0, s5, mk_val (by omega)]
        show Value.int .u8 ((I.b.set I.iB I.vB).getD _ 0) = _
        congr 2; omega

theorem law_holds {a b : Nat} (ha : Way a I.l) (hb : Way b I.b) : @Fct.Holds I.R Try.prog 5 (lawF a b) := by
  letI := I.R
  have ht := tab_ok hz (a := a) (b := b) (fun h => by rcases ha with ⟨h', _⟩ | ⟨_, h', _⟩ | ⟨h', _⟩; omega; exact h'; omega) (fun h => by rcases hb with ⟨h', _⟩ | ⟨_, h', _⟩ | ⟨h', _⟩; omega; exact h'; omega)
  refine @Fct.holds I.R Try.prog (orcOf (factsL a b)) (tabL a b (decide (I.z 0 = I.z 2)) (decide (I.z 1 = I.z 2)) (decide (I.z 0 = I.z 1)) (decide (I.l.getD I.iL 0 = I.vL)) (decide (I.b.getD I.iB 0 = I.vB))).know (KTab.ok ht) fit (orcOf_ok (facts_ok hz ha hb)) 5000 5 (lawF a b) ?_ ?_
  · rcases ha with ⟨rfl, _⟩ | ⟨rfl, _⟩ | ⟨rfl, _⟩ <;> rcases hb with ⟨rfl, _⟩ | ⟨rfl, _⟩ | ⟨rfl, _⟩ <;> kernel_rfl
  · show got a b _ _ _ _ _ = true
    generalize decide (I.z 0 = I.z 2) = p
    generalize decide (I.z 1 = I.z 2) = q
    generalize decide (I.z 0 = I.z 1) = r
    generalize decide (I.l.getD I.iL 0 = I.vL) = s
    generalize decide (I.b.getD I.iB 0 = I.vB) = t
    rcases ha with ⟨rfl, _⟩ | ⟨rfl, _⟩ | ⟨rfl, _⟩ <;> rcases hb with ⟨rfl, _⟩ | ⟨rfl, _⟩ | ⟨rfl, _⟩
    · exact got_42 p q r
    · cases t; exact got_41 p q r; exact got_40 p q r
    · exact got_60 p q r
    · cases s; exact got_31 p q r; exact got_30 p q r
    · cases s <;> cases t
      · exact got_21 p q r
      · exact got_20 p q r
      · exact got_11 p q r
      · exact got_10 p q r
    · cases s; exact got_62 p q r; exact got_61 p q r
    · exact got_50 p q r
    · cases t; exact got_52 p q r; exact got_51 p q r
    · exact got_63 p q r
end
end Go.Proofs.Ytdenpaifjpmkgaa
