/- FieldPowers, evaluated with letters. -/
import Derived.Test.YtjphnpbknaedcaaCb
namespace Go.Proofs.Ytjphnpbknaedcaa
open Go.Ev Go.Fl

section
variable (F : Gf)
abbrev q2 (x y v : AV) : Fct := ⟨[fA F, x, y], fOld F, .tup [v, I 0], [], []⟩
/-- an element of order k; k = 0: the element 0 -/
def wA (k : Nat) : AV := if k = 0 then I 0 else if k = 1 then I 1 else if F.q = 3 then I 2 else lv 0 2 (F.q - 1)
abbrev wL (i : Nat) : AV := lv i 1 (F.q - 1)
abbrev yM : AV := .sym .i64 (.var 22 (-32768) 32767) (-32768) 32767
abbrev yN : AV := .sym .i64 (.var 23 (-32768) 32767) (-32768) 32767
abbrev yS : AV := .sym .i64 (.bin .add (.var 22 (-32768) 32767) (.var 23 (-32768) 32767)) (-65536) 65534
/-- concrete elements -/
def mulC (rest : List Fct) : List AV → List Fct
  | [_, .int _ (.ofNat a), .int _ (.ofNat b)] => if Nat.blt a F.q && Nat.blt b F.q then [f2 F (I a) (I b) (I (F.mul a b))] else []
  | _ => rest
def ordC (rest : List Fct) : List AV → List Fct
  | [_, .int _ (.ofNat b)] => if Nat.blt b F.q then [f1 F (I b) (I (Gf_ord F b))] else []
  | _ => rest
/-- the power n of an element of order k, at least 1 -/
def powF (k n : Nat) : List Fct :=
  if Nat.beq n F.q then [q2 F (wA F k) (I F.q) (wA F k)] else if Nat.beq n 0 then [q2 F (wA F k) (I 0) (I 1)] else if Nat.beq n k then [q2 F (wA F k) (I k) (I 1)] else if Nat.blt n k then [q2 F (wA F k) (I n) (lv (100 + n) 2 (F.q - 1))] else []
def powC (k : Nat) (rest : List Fct) : List AV → List Fct
  | [_, _, .int _ (.ofNat n)] => powF F k n
  | _ => rest
def pwFacts (i k : Nat) : List (FuncId × (List AV → List Fct)) :=
  [(9, fun _ => [examplesF]), (14, fun _ => [ofF i F]),
   (29, if k = 0 then fun _ => [q2 F (I 0) (I F.q) (I 0), q2 F (I 0) (I 0) (I 1)] else powC F k [q2 F (wA F k) yS (wL F 4), q2 F (wA F k) yM (wL F 5), q2 F (wA F k) yN (wL F 6)]),
   (33, fun _ => [⟨[fA F], fOld F, I F.g, [], []⟩]),
   (23, mulC F [f2 F (wL F 5) (wL F 6) (wL F 4)]),
   (31, ordC F [f1 F (wA F k) (I k)])]
def wX (k : Nat) : AV := if k = 0 then byteX F.q 21 (.lit 0) 0 else if k = 1 then byteX F.q 21 (.lit 1) 1 else if F.q = 3 then byteX F.q 21 (.lit 2) 2 else byteX F.q 21 (.var 0 2 (Int.ofNat (F.q - 1))) 2
def pwArg (i k : Nat) : List AV := [.agg [byteI i, wX F k], .sym .i16 (.var 22 (-32768) 32767) (-32768) 32767, .sym .i16 (.var 23 (-32768) 32767) (-32768) 32767]
noncomputable def pwRun (i k : Nat) : Bool := okRun Try.prog (orcOf2 (pwFacts F i k)) 5 (pwArg F i k) (.bool true)
end
noncomputable def pwAll (x : Gf × Nat) : Bool := pwRun x.1 x.2 0 && (divs x.1).all (pwRun x.1 x.2)
end Go.Proofs.Ytjphnpbknaedcaa
