/- RatOrder, evaluated with letters. -/
import Derived.Test.YtieabeodommbiaaQj
namespace Go.Proofs.Ytieabeodommbiaa
open Go.Ev

abbrev oS (i : Nat) : AV := .sym .i64 (.bin .add (.var i (-4611686018427387904) 4611686018427387904) (.var 12 1 9223372036854775808)) (-4611686018427387904) 4611686018427387904
abbrev oT (i : Nat) : AV := .sym .i64 (.bin .add (.var i 1 4611686018427387904) (.var 12 1 9223372036854775808)) 1 4611686018427387904
/-- the two fractions, by what differs -/
noncomputable def oA (k : Nat) : AV := match k with | 2 => .agg [oS 8, aD 7] | 4 => .agg [aN 6, oT 9] | _ => fr 6
noncomputable def oB (k : Nat) : AV := match k with | 1 => .agg [oS 6, aD 9] | 2 => fr 8 | 3 => .agg [aN 6, oT 7] | 4 => .agg [aN 6, aD 9] | _ => fr 6
noncomputable def oC (cq : Nat) : AV := .agg [if cq == 0 then lt .i64 10 (-4611686018427387904) 0 else lt .i64 10 1 4611686018427387904, aD 11]
def sg (l : Bool) : Int := if l then -1 else 1
noncomputable def oD (l d : Bool) : AV := if d then .agg [if l then lt .i64 13 (-4611686018427387904) (-1) else lt .i64 13 1 4611686018427387904, aD 14, .int .i64 0] else R false 13
noncomputable def oT2 (st : Nat) : AV := if st == 2 then resA 23 else R (st == 0) 17
noncomputable def oP (cq : Nat) : AV := if cq == 0 then resA 26 else R (!(cq == 3)) 19
noncomputable def oQ (cq : Nat) : AV := if cq == 0 || cq == 3 then resA 29 else R (cq == 1) 21
noncomputable def orderFacts (k : Nat) (l : Bool) (m : Int) (d : Bool) (st cq : Nat) : List (FuncId × List Fct) :=
  [(10, [⟨[], [], .bool true, [], []⟩]),
   (15, [F2 (xs 0) (xs 1) (oA k), F2 (xs 2) (xs 3) (oB k), F2 (xs 4) (xs 5) (oC cq)]),
   (24, F2 (oA k) (oA k) (.int .i64 0) :: F2 (oA k) (oB k) (.int .i64 (sg l)) :: F2 (oB k) (oA k) (.int .i64 (-(sg l))) :: F2 (oB k) (oC cq) (.int .i64 m) ::
     (cif (if l then decide (m ≤ 0) else decide (0 ≤ m)) (F2 (oA k) (oC cq) (.int .i64 (sg l))) ++ (cif (st == 0) (F2 (fr 15) (fr 17) (.int .i64 (sg l))) ++ cif (cq == 1) (F2 (fr 19) (fr 21) (.int .i64 (sg l)))))),
   (18, [F2 (oA k) (oB k) (oD l d)]),
   (16, [F2 (oA k) (oC cq) (R (!(st == 2)) 15), F2 (oB k) (oC cq) (oT2 st)]),
   (20, [F2 (oA k) (oC cq) (oP cq), F2 (oB k) (oC cq) (oQ cq)])]
def ms : List Int := [-1, 0, 1]
def sts : List Nat := [0, 1, 2]
def cqs : List Nat := [0, 1, 2, 3]
noncomputable def orderRun (k : Nat) (l : Bool) (m : Int) (d : Bool) (st cq : Nat) : Bool := okRun Try.prog (orcOf (orderFacts k l m d st cq)) 5 [xp 0, xp 2, xp 4] (.bool true)
noncomputable def orderRuns (k : Nat) (l : Bool) : Bool := ms.all fun m => bools.all fun d => sts.all fun st => cqs.all fun cq => orderRun k l m d st cq

/-- equal fractions -/
noncomputable def sameFacts (m : Int) (s p cp : Bool) : List (FuncId × List Fct) :=
  let C := oC (if cp then 1 else 0)
  [(10, [⟨[], [], .bool true, [], []⟩]),
   (15, [F2 (xs 0) (xs 1) (fr 6), F2 (xs 2) (xs 3) (fr 6), F2 (xs 4) (xs 5) C]),
   (24, F2 (fr 6) (fr 6) (.int .i64 0) :: F2 (fr 6) C (.int .i64 m) :: (cif s (F2 (fr 15) (fr 15) (.int .i64 0)) ++ cif p (F2 (fr 19) (fr 19) (.int .i64 0)))),
   (18, [F2 (fr 6) (fr 6) zR]),
   (16, [F2 (fr 6) C (R s 15)]),
   (20, [F2 (fr 6) C (R p 19)])]
noncomputable def sameRun (m : Int) (s p cp : Bool) : Bool := okRun Try.prog (orcOf (sameFacts m s p cp)) 5 [xp 0, xp 2, xp 4] (.bool true)
theorem same_runs : (ms.all fun m => bools.all fun s => bools.all fun p => bools.all fun cp => sameRun m s p cp) = true := by kernel_rfl

end Go.Proofs.Ytieabeodommbiaa
