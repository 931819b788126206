/- SealOpens, evaluated with letters. -/
import Derived.Test.YtdenpaifjpmkgaaTg
namespace Go.Proofs.Ytdenpaifjpmkgaa
open Go.Ev
set_option maxRecDepth 100000
set_option linter.unusedVariables false

/-- the third number: d times the letter 16, and t -/
noncomputable def k2A (d t : Nat) : AV := match d with
  | 0 => k16 18
  | d + 1 => .sym .u16 (.bin .add (.bin .mul (.lit ((d + 1 : Nat) : Int)) (.var 16 0 65535)) (.lit (t : Int))) 0 65535
noncomputable def oTabL (d t : Nat) (s r : Bool) : KTab where
  cmps := [(.lss, iX 300, gX 300, true), (.geq, iX 300, gX 300, false), (.neq, dX 22, dX 20, !s), (.eql, dX 17, dX 21, s)] ++ (match d with
    | 0 => [(.eql, gX 300, .lit 1, true)]
    | _ + 1 => [(.neq, dX 24, dX 20, !r), (.eql, dX 17, dX (4 + t), r)])
  cells := [(50, .int .u64, iX 300, dA 21)]
noncomputable def longF (d : Nat) : Fct := ⟨[nA 300, iA 300, dA 21, .slice 0 0 (d + 1) (d + 1) false 1], [{ elem := 24, cells := cells4 d ++ [dA 17], ro := true }], .tup [dA 25, .bool false], [], []⟩
noncomputable def oddF (d t : Nat) : Fct := ⟨[nA 300, iA 300, dA 21, .slice 0 0 d d false 1], [{ elem := 24, cells := (cells4 d).set t (dA 17), ro := true }], .tup [dA 24, .bool true], [], []⟩
noncomputable def shortF (d : Nat) : Fct := ⟨[nA 300, iA 300, dA 21, .slice 0 0 (d - 1) d false 1], [{ elem := 24, cells := cells4 d, ro := true }], .tup [dA 26, .bool false], [], []⟩
noncomputable def oFacts (a d t : Nat) : List (FuncId × List Fct) := [(9, [exF]), (10, [gFct a 300]), (40, [oFct 300 50 d]), (23, [rFct 300 50 20]),
  (48, [kFct 300 21 20 true (pathV d 0) (cells4 d), kFct 300 17 22 true (pathV d 0) (cells4 d), longF d] ++ (match d with | 0 => [] | d + 1 => [oddF (d + 1) t, shortF (d + 1)]))]
noncomputable def oLaw (a d t : Nat) : Fct := ⟨[gL a, .agg [k16 3, k16 15, k2A d t], dA 17], gOld a, .bool true, [], []⟩
noncomputable def oGotS (a d t : Nat) (s r : Bool) : Bool := (oLaw a d t).good && (oLaw a d t).got ((@evF (oTabL d t s r).know Try.prog (orcOf (oFacts a d t)) 5000).call 6 (oLaw a d t).args (oLaw a d t).st)
noncomputable def oGotT (a d t : Nat) : Bool := (oGotS a d t true true && oGotS a d t true false) && (oGotS a d t false true && oGotS a d t false false)
noncomputable def oGotD (a d : Nat) : Bool := (List.range (max d 1)).all (oGotT a d)
end Go.Proofs.Ytdenpaifjpmkgaa
