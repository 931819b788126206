/- SealOneChange, evaluated with letters. -/
import Derived.Test.YtdenpaifjpmkgaaXc
namespace Go.Proofs.Ytdenpaifjpmkgaa
open Go.Ev
set_option maxRecDepth 100000
set_option linter.unusedVariables false

/-- letters: 0, 1, 2: length, capacity, place of the numbers; 3, 4, 5: of the bytes; 6 to 9: the array; 20 to 23: digests; 30, 31: the elements that change -/
abbrev I63 : Int := 9223372036854775807
noncomputable def nl : Nat → SX
  | 0 => .lit 0
  | 1 => .var 0 1 200
  | 2 => .var 0 201 I63
  | _ => .var 0 0 200
noncomputable def nb : Nat → SX
  | 0 => .lit 0
  | 1 => .var 3 1 200
  | 2 => .var 3 201 I63
  | _ => .var 3 0 I63
noncomputable abbrev zX (i : Nat) : SX := .var (6 + i) 0 MU
noncomputable abbrev dX (i : Nat) : SX := .var (20 + i) 0 MU
abbrev zA (i : Nat) : AV := .sym .u64 (.var (6 + i) 0 MU) 0 MU
abbrev rowT (k : Nat) : ABlk := { elem := 3, cells := [], ro := true, tl := some (k, .int .i64) }
abbrev rowU (k : Nat) : ABlk := { elem := 5, cells := [], ro := true, tl := some (k, .int .u8) }
noncomputable def lA (a : Nat) : AV := if Nat.beq a 4 then .nilSlice else .sls 0 (.free 2) (nl a) (.free 1) true
noncomputable def bA (b : Nat) : AV := if Nat.beq b 4 then .nilSlice else .sls 1 (.free 5) (nb b) (.free 4) true
/-- the rows: where the numbers' slice is nil the bytes' row stands in its place too -/
def rows (a b : Nat) : List ABlk := if Nat.beq b 4 then (if Nat.beq a 4 then [] else [rowT 0]) else if Nat.beq a 4 then [rowU 1, rowU 1] else [rowT 0, rowU 1]
noncomputable abbrev arL : SX := .bin .rem (.var 9 0 MU) (nl 1)
noncomputable abbrev arB : SX := .bin .rem (.var 9 0 MU) (nb 1)
noncomputable abbrev jX (a b : SX) : SX := stepX (stepX (.lit 1785686382) a) b
noncomputable abbrev eL : SX := .var 30 (-9223372036854775808) I63
noncomputable abbrev eB : SX := .var 31 0 255
noncomputable abbrev oL : SX := .wop .add .i64 (.var 6 0 MU) (.lit 0)
noncomputable abbrev oB : SX := .wop .add .u8 (.var 6 0 MU) (.lit 0)
noncomputable abbrev zI : AV := .sym .i64 oL (-9223372036854775808) 9223372036854775807
noncomputable abbrev zB : AV := .sym .u8 oB 0 255
noncomputable abbrev tFact (k : Nat) (off len cap : SX) (ex : Bool) (n : Nat) : Fct := ⟨[.sls 0 off len cap ex], [rowT k], .sym .u64 (dX n) 0 MU, [], []⟩
noncomputable abbrev uFact (k : Nat) (off len cap : SX) (ex : Bool) (n : Nat) : Fct := ⟨[.sls 0 off len cap ex], [rowU k], .sym .u64 (dX n) 0 MU, [], []⟩
noncomputable abbrev nilF : Fct := ⟨[.nilSlice], [], .sym .u64 (dX 0) 0 MU, [], []⟩
abbrev exF : Fct := ⟨[], [], .bool true, [], []⟩
noncomputable def factsL (a b : Nat) : List (FuncId × List Fct) := [(9, [exF]),
  (15, if Nat.beq a 4 then [nilF] else [tFact 0 (.free 2) (nl a) (.free 1) true 0, tFact 3 (.lit 0) (nl a) (nl a) false 1]),
  (17, if Nat.beq b 4 then [] else [uFact 1 (.free 5) (nb b) (.free 4) true 2, uFact 5 (.lit 0) (nb b) (nb b) false 3])]
noncomputable def tabJ (p q r : Bool) : List (BinOp × SX × SX × Bool) := [
    (.eql, jX (zX 0) (zX 1), jX (zX 2) (zX 1), p), (.eql, zX 0, zX 2, p),
    (.eql, jX (zX 0) (zX 1), jX (zX 0) (zX 2), q), (.eql, zX 1, zX 2, q),
    (.eql, stepX (zX 0) (dX 0), stepX (zX 1) (dX 0), r), (.eql, zX 0, zX 1, r)]
noncomputable def tabS (s : Bool) : List (BinOp × SX × SX × Bool) := [(.lss, arL, nl 1, true), (.eql, dX 0, dX 1, s), (.eql, eL, oL, s), (.eql, stepX (zX 1) (dX 0), stepX (zX 1) (dX 1), s)]
noncomputable def tabU (t : Bool) : List (BinOp × SX × SX × Bool) := [(.lss, arB, nb 1, true), (.eql, dX 2, dX 3, t), (.eql, eB, oB, t)]
noncomputable def tabL (a b : Nat) (p q r s t : Bool) : KTab where
  cmps := tabJ p q r ++ ((if Nat.beq a 1 then tabS s else []) ++ (if Nat.beq b 1 then tabU t else []))
  cells := (if Nat.beq a 1 then [(0, .int .i64, .bin .add (.free 2) arL, .sym .i64 eL (-9223372036854775808) I63), (3, .int .i64, arL, zI)] else []) ++ (if Nat.beq b 1 then [(1, .int .u8, .bin .add (.free 5) arB, .sym .u8 eB 0 255), (5, .int .u8, arB, zB)] else [])
  puts := (if Nat.beq a 1 then [(2, .int .i64, arL, zI, 3)] else []) ++ (if Nat.beq b 1 then [(4, .int .u8, arB, zB, 5)] else [])
  apps := (if Nat.beq a 1 then [(.int .i64, .cells [], .lst 0 (.free 2) (nl 1), 2)] else []) ++ (if Nat.beq b 1 then [(.int .u8, .cells [], .lst 1 (.free 5) (nb 1), 4)] else [])
noncomputable def lawF (a b : Nat) : Fct := ⟨[lA a, bA b, .agg [zA 0, zA 1, zA 2, zA 3]], rows a b, .bool true, [], []⟩
noncomputable def got (a b : Nat) (p q r s t : Bool) : Bool := (lawF a b).got ((@evF (tabL a b p q r s t).know Try.prog (orcOf (factsL a b)) 5000).call 5 (lawF a b).args (lawF a b).st)
noncomputable def gotN (a b : Nat) : Bool := (lawF a b).got ((@evF noKnow Try.prog (orcOf [(9, [exF])]) 5000).call 5 (lawF a b).args (lawF a b).st)
theorem got_long : gotN 2 3 = true := by kernel_rfl
theorem got_long' : gotN 3 2 = true := by kernel_rfl
theorem got_long4 : gotN 2 4 = true := by kernel_rfl
theorem got_long4' : gotN 4 2 = true := by kernel_rfl
theorem nil_run : okRun Try.prog noOrc 15 [.nilSlice] (.int .u64 (wI [])) = true := by kernel_rfl
end Go.Proofs.Ytdenpaifjpmkgaa
