/- FieldRefuses, cut in two: how it is evaluated. -/
import Derived.Test.YtjphnpbknaedcaaAk
import Derived.Test.YtjphnpbknaedcaaMdA
import Derived.Test.YtjphnpbknaedcaaMdC
import Derived.Test.YtjphnpbknaedcaaEvN3
namespace Go.Proofs.Ytjphnpbknaedcaa
open Go.Ev Go.Fl

noncomputable def rBody : Code := (Try.f8.body).getD .skip
def fMin : Int := -9223372036854775808
def fMax : Int := 9223372036854775807
abbrev nG : AV := .sym .i64 (.var 30 (-9223372036854775808) 9223372036854775807) (-9223372036854775808) 9223372036854775807
abbrev xG0 : AV := .sym .u8 (.var 31 0 255) 0 255
abbrev xG1 : AV := .sym .u8 (.var 32 0 255) 0 255
abbrev xG : AV := .agg [xG0, xG1]
def xBlk (l : List AV) : ABlk := { elem := 42, cells := l, ro := false }
def mkFs : List Fct := sizes.map makeF
def rLA : List (FuncId × List Fct) := [(9, [examplesF]), (10, mkFs)]
def rArgs (q : AV) : List AV := [q, nG, xG]
noncomputable def runA (q : AV) : Option (T3 × St) := runListF (evF Try.prog (orcOf rLA) 5000).code 178 (splitSeq 7 rBody).1 (ofL (rArgs q ++ List.replicate 175 undefA)) st0
/-- the classes of numbers: less than 2, more than 64, no power of a prime, a power of a prime -/
def qRep : Nat → AV
  | 0 => .sym .i64 (.var 40 (-9223372036854775808) 1) (-9223372036854775808) 1
  | 1 => .sym .i64 (.var 40 65 9223372036854775807) 65 9223372036854775807
  | 2 => I 6
  | _ => I 2
noncomputable def tmpl (c : Nat) : List AV := match runA (qRep c) with
  | some (t, _) => (toL t 178).map genS
  | none => []
def keepL : List (Nat × AV) := [(1, nG), (2, xG), (5, .ptr 0 0)]
noncomputable def chkA (c : Nat) (q : AV) : Bool := match runA q with
  | some (t, s) => genL keepL 0 (toL t 178) (tmpl c) && (Nat.beq s.nd 0 && (s.loops.isEmpty && (Nat.ble s.heap.length 8 && (match nthD none s.heap 0 with
    | some A => beqB A (xBlk [xG0, xG1])
    | none => false))))
  | none => false
def clsOf (q : Nat) : Nat := if sizes.contains q then 3 else 2

/-! what is left -/
def nS : Nat → AV
  | 0 => .sym .i64 (.var 33 (-9223372036854775808) (-1)) (-9223372036854775808) (-1)
  | 1 => I 0
  | _ => .sym .i64 (.var 33 1 9223372036854775807) 1 9223372036854775807
def rX (k : Nat) : AV := byteX 5 21 (.lit (Int.ofNat k)) k
def newS (n x : AV) (i : Nat) (t : AV) : AV := if Nat.beq i 1 then n else if Nat.beq i 2 then x else if Nat.beq i 5 then .ptr 0 0 else t
noncomputable def tsB (c : Nat) (n x : AV) : List AV := ((tmpl c).zipIdx 0).map fun y => newS n x y.2 y.1
def sB (l : List AV) : St := { heap := some (xBlk l) :: List.replicate 7 none, lo := 0, loops := [], nd := 0 }
def rLB (F : Gf) (i : Nat) : List (FuncId × List Fct) := [(14, [ofF i F]), (10, mkFs)]
noncomputable def chkB (c sg k : Nat) (x : Gf × Nat) : Bool :=
  match (evF Try.prog (orcOf (rLB x.1 x.2)) 5000).code 178 (splitSeq 7 rBody).2 (ofL (tsB c (nS sg) (.agg [byteI x.2, rX k]))) (sB [byteI x.2, rX k]) with
  | some (.ret, t, _) => beq2 (t.get 6) (.bool true)
  | _ => false
noncomputable def chkBs (c : Nat) (x : Gf × Nat) : Bool := allLt 3 fun sg => allLt 5 fun k => chkB c sg k x
end Go.Proofs.Ytjphnpbknaedcaa
