/- SealSteps, evaluated with letters: whatever is equal and greater. -/
import Derived.Test.YtdenpaifjpmkgaaSb
namespace Go.Proofs.Ytdenpaifjpmkgaa
open Go.RowKit (Below)
open Go.Ev
set_option maxRecDepth 100000

/-- k: 0 the same, 1 greater by the letter i, 2 less by it -/
noncomputable def relX (b : SX) (i k : Nat) : SX := match k with | 0 => b | 1 => .bin .add b (.var i 1 MU) | _ => .bin .sub b (.var i 1 MU)
noncomputable abbrev su (e : SX) : AV := .sym .u64 e 0 MU
abbrev F2 (x y v : AV) : Fct := ⟨[x, y], [], v, [], []⟩
noncomputable abbrev bX : SX := .var 1 0 MU
noncomputable abbrev cX (k : Nat) : SX := relX bX 2 k
noncomputable abbrev aX (k l : Nat) : SX := relX (cX k) 0 l
noncomputable abbrev xX : SX := .var 3 0 MU
noncomputable abbrev uX : SX := .var 6 0 MU
noncomputable def stepsFacts (k l y z : Nat) : List (FuncId × List Fct) :=
  [(9, [⟨[], [], .bool true, [], []⟩]),
   (11, [F2 (su (aX k l)) (su bX) (su xX), F2 (su (aX k l)) (su (cX k)) (su (relX xX 4 y)), F2 (su (cX k)) (su bX) (su (relX xX 5 z)), F2 (su (aX k l)) (su uX) (su (cX k))]),
   (13, [F2 (su (aX k l)) (su xX) (su bX), F2 (su (aX k l)) (su (cX k)) (su uX)])]
noncomputable def stepsRun (k l y z : Nat) : Bool := okRun Try.prog (orcOf (stepsFacts k l y z)) 4 [su (aX k l), su bX, su (cX k)] (.bool true)
/-- equal arguments have equal results, and others others -/
def fitsK (k y : Nat) : Bool := (k == 0) == (y == 0)
noncomputable def allRuns : Bool := [0, 1, 2].all fun k => [0, 1, 2].all fun l => [0, 1, 2].all fun y => [0, 1, 2].all fun z => !(fitsK k y && fitsK l z) || stepsRun k l y z
theorem all_runs : allRuns = true := by kernel_rfl

theorem all4 {f : Nat → Nat → Nat → Nat → Bool} (h : ([0, 1, 2].all fun k => [0, 1, 2].all fun l => [0, 1, 2].all fun y => [0, 1, 2].all fun z => f k l y z) = true)
    {k l y z : Nat} (hk : k ∈ [0, 1, 2]) (hl : l ∈ [0, 1, 2]) (hy : y ∈ [0, 1, 2]) (hz : z ∈ [0, 1, 2]) : f k l y z = true := by
  simp only [List.all_eq_true] at h
  exact h k hk l hl y hy z hz
theorem or_pick {p q : Bool} (h : (!p || q) = true) (hp : p = true) : q = true := by subst hp; simpa using h
theorem steps_run {k l y z : Nat} (hk : k ∈ [0, 1, 2]) (hl : l ∈ [0, 1, 2]) (hy : y ∈ [0, 1, 2]) (hz : z ∈ [0, 1, 2]) (h : (fitsK k y && fitsK l z) = true) : okRun Try.prog (orcOf (stepsFacts k l y z)) 4 [su (aX k l), su bX, su (cX k)] (.bool true) = true :=
  or_pick (q := stepsRun k l y z) (all4 (f := fun k l y z => !(fitsK k y && fitsK l z) || stepsRun k l y z) all_runs hk hl hy hz) h

end Go.Proofs.Ytdenpaifjpmkgaa
