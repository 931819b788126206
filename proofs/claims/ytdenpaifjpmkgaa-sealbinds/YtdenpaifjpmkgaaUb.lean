/- SealBinds, evaluated with letters. -/
import Derived.Test.YtdenpaifjpmkgaaUa
namespace Go.Proofs.Ytdenpaifjpmkgaa
open Go.Ev
set_option maxRecDepth 100000
set_option linter.unusedVariables false

/-- letters besides: 19: the depth; 27: what comes of the path given; 28: the place's number; in the loop 140, 141: what comes of both paths so far, 144, 145: their next digests, 146: how many rounds, 150 .. 153: what comes next, by the sides -/
noncomputable abbrev dpL : SX := .var 19 1 9
/-- how long the path given is told -/
noncomputable def lnB (a : Nat) : SX := match a with | 2 => .var 0 1 300 | _ => .var 0 1 I63
/-- the path: q: 0: the list, 1: its beginning -/
noncomputable def ptX (a q : Nat) : SX := match q with | 0 => lnB a | _ => dpL
noncomputable def opL : Fct := ⟨[gSl 60 0, iA 60], [rowD 50], .tup [.sls 1 (.lit 0) dpL dpL false, .int .i64 0], [1], [{ elem := 24, cells := [], ro := false, tl := some (54, .int .u64) }]⟩
/-- the path as climb gets it: one digest (z), a list that is empty or nil, or not -/
noncomputable def clF (z : Bool) (a q : Nat) (ok : Bool) : Fct := match a with
  | 0 => ⟨[nA 60, iA 60, dA 17, .nilSlice], [], .tup [dA 27, .bool ok], [], []⟩
  | 1 => ⟨[nA 60, iA 60, dA 17, .sls 0 (.free 2) (.lit 0) (.free 1) true], [rowD 0], .tup [dA 27, .bool ok], [], []⟩
  | _ => ⟨[nA 60, iA 60, dA 17, .sls 0 (.free 2) (if z then .lit 0 else ptX a q) (.free 1) true], [rowD 0], .tup [dA 27, .bool ok], [], []⟩
/-- z: one digest; q: the list is not longer (0) or longer (1) than the path; c: is the root found; e: are both leaves the same; m: is the list's length the path's -/
noncomputable def bTab (z : Bool) (a q : Nat) (c e m : Bool) : KTab where
  cmps := [(.lss, iX 60, gX 60, true), (.geq, iX 60, gX 60, false), (.neq, dX 27, dX 20, !c), (.eql, dX 21, dX 17, e)] ++ (if z || Nat.ble a 1 then [] else
    [(.lss, dpL, lnB a, Nat.beq q 1), (.leq, ptX a q, lnB a, true), (.neq, lnB a, dpL, !m)])
  cells := [(50, .int .u64, iX 60, dA 21)]
noncomputable def bFacts (z : Bool) (a q : Nat) (ok : Bool) : List (FuncId × List Fct) := [(9, [exF]), (10, [gFct a 60]), (40, [if z then oFct 60 50 0 else opL]), (23, [rFct 60 50 20]), (48, [clF z a q ok]), (30, [if z then sd0 (nA 60) (iA 60) else sdF (nA 60) (iA 60) dpL 55])]
noncomputable def xIA : AV := .sym .i64 (.var 28 (-9223372036854775808) I63) (-9223372036854775808) 9223372036854775807
noncomputable def bLaw (a : Nat) : Fct := ⟨[gL a, .agg [k16 3, k16 15], .agg [xIA, dA 17]], gOld a, .bool true, [], []⟩
/-- where the law ends before its loop has a round -/
noncomputable def bGot (z : Bool) (a q : Nat) (ok c e m : Bool) : Bool := (bLaw a).good && (bLaw a).got ((@evF (bTab z a q c e m).know Try.prog (orcOf (bFacts z a q ok)) 5000).call 8 (bLaw a).args (bLaw a).st)
theorem bGot_z : ([0, 1, 2, 3].all fun a => bGot true a 1 true true true false && bGot true a 1 true false false false) = true := by kernel_rfl
theorem bGot_a : ([0, 1].all fun a => bGot false a 0 false true true false && (bGot false a 0 false true false false && (bGot false a 0 false false true false && bGot false a 0 false false false false))) = true := by kernel_rfl
end Go.Proofs.Ytdenpaifjpmkgaa
