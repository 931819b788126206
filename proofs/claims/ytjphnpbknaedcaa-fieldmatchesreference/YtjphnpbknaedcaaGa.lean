/- The reference's powers: a loop whose number of rounds is a letter. -/
import Derived.Test.YtjphnpbknaedcaaAk
import Derived.Test.YtjphnpbknaedcaaEvN4
namespace Go.Proofs.Ytjphnpbknaedcaa
open Go.Ev Go.Fl

noncomputable def pBody : Code := (Try.f30.body).getD .skip
/-- what comes before a loop, the loop's body, what comes behind -/
def loopOf : Code → Code × Code × Code
  | .seq (.seq a (.block 0 (.loop c))) r => (a, c, r)
  | _ => (.skip, .skip, .skip)
noncomputable def pPre : List Code := (splitSeq 6 pBody).1 ++ [(loopOf (splitSeq 6 pBody).2).1]
noncomputable def pLoop : Code := (loopOf (splitSeq 6 pBody).2).2.1
noncomputable def pEnd : Code := (loopOf (splitSeq 6 pBody).2).2.2

section
variable (F : Gf)
/-- exponents that are not negative, and negative ones with and without rest -/
def pN : Nat → AV
  | 0 => .sym .i64 (.bin .add (.bin .mul (.lit (Int.ofNat (F.q - 1))) (.var 42 0 (Int.ofNat (9223372036854775807 / (F.q - 1))))) (.var 40 0 (Int.ofNat (F.q - 2)))) 1 9223372036854775807
  | 1 => .sym .i64 (.bin .sub (.lit 0) (.bin .mul (.lit (Int.ofNat (F.q - 1))) (.var 42 1 (Int.ofNat (9223372036854775808 / (F.q - 1)))))) (-9223372036854775808) (-1)
  | _ => .sym .i64 (.bin .sub (.var 43 (-Int.ofNat (F.q - 2)) (-1)) (.bin .mul (.lit (Int.ofNat (F.q - 1))) (.var 42 0 (Int.ofNat (9223372036854775808 / (F.q - 1)))))) (-9223372036854775808) (-1)
def pArgs (c : Nat) : List AV := [fA F, lv 0 1 (F.q - 1), pN F c]
noncomputable def pRun (c : Nat) : Option (T3 × St) := runListF (evF Try.prog noOrc 5000).code 39 pPre (ofL (pArgs F c ++ List.replicate 36 undefA)) { heap := (fOld F).map some, lo := 1, loops := [], nd := 0 }
/-- the number of rounds, as it comes out -/
def pK : Nat → AV
  | 0 => lv 40 0 (F.q - 2)
  | 1 => I 0
  | _ => .sym .i64 (.bin .sub (.bin .add (.var 43 (-Int.ofNat (F.q - 2)) (-1)) (.lit (Int.ofNat F.q))) (.lit 1)) 1 (Int.ofNat (F.q - 2))
/-- i rounds are done; as many are left as letter 51 says -/
abbrev pI : AV := .sym .i64 (.var 50 0 62) 0 62
abbrev pM : AV := .sym .i64 (.bin .add (.var 50 0 62) (.var 51 1 62)) 1 62
abbrev pI1 : AV := .sym .i64 (.bin .add (.var 50 0 62) (.lit 1)) 1 63
abbrev pO (k : Nat) : AV := lv k 1 (F.q - 1)
abbrev pA : AV := lv 0 1 (F.q - 1)
def keepP (k o i : AV) : List (Nat × AV) := [(1, pA F), (3, .ptr 1 0), (8, k), (9, o), (10, i)]
def newP (k o i : AV) (j : Nat) (t : AV) : AV := if Nat.beq j 1 then pA F else if Nat.beq j 3 then .ptr 1 0 else if Nat.beq j 8 then k else if Nat.beq j 9 then o else if Nat.beq j 10 then i else t
def setP (l : List AV) (k o i : AV) : List AV := (l.zipIdx 0).map fun y => newP F k o i y.2 y.1
def sP : St := { heap := [some { elem := 3, cells := F.mod.map I, ro := true }, some { elem := 26, cells := [I F.p, I F.e, .slice 0 0 F.e F.e false 1], ro := false }], lo := 1, loops := [], nd := 0 }
def sameSt (s : St) : Bool := match s.heap with
  | [some A, some B] => beqB A { elem := 3, cells := F.mod.map I, ro := true } && (beqB B { elem := 26, cells := [I F.p, I F.e, .slice 0 0 F.e F.e false 1], ro := false } && (Nat.beq s.lo 1 && (Nat.beq s.nd 0 && s.loops.isEmpty)))
  | _ => false
def pFacts : List (FuncId × List Fct) := [(24, [f2 F (pO F 52) (pA F) (pO F 53)])]
noncomputable def tP0 (c : Nat) : List AV := match pRun F c with | some (t, _) => (toL t 39).map genS | none => []
noncomputable def rP (l : List AV) : Option (AExit × T3 × St) := (evF Try.prog (orcOf (pFacts F)) 5000).code 39 pLoop (ofL (setP F l pM (pO F 52) pI)) (sP F)
noncomputable def tP1 (c : Nat) : List AV := match rP F (tP0 F c) with | some (_, t, _) => (toL t 39).map genS | none => []
noncomputable def chkPre (c : Nat) : Bool := match pRun F c with
  | some (t, s) => genL (keepP F (pK F c) (I 1) (I 0)) 0 (toL t 39) (tP0 F c) && sameSt F s
  | none => false
noncomputable def chkRd (c : Nat) (l : List AV) : Bool := match rP F l with
  | some (.normal, t, s) => genL (keepP F pM (pO F 53) pI1) 0 (toL t 39) (tP1 F c) && sameSt F s
  | _ => false
noncomputable def chkLt (l : List AV) : Bool := match (evF Try.prog noOrc 5000).code 39 pLoop (ofL (setP F l pI (pO F 52) pI)) (sP F) with
  | some (.exit 0, t, s) => (match (evF Try.prog noOrc 5000).code 39 pEnd t s with
    | some (.ret, t2, s2) => genL [(6, pO F 52), (7, I 0)] 0 (toL t2 39) ((toL t2 39).map genS) && (s2.loops.isEmpty && Nat.beq s2.nd 0)
    | _ => false)
  | _ => false
noncomputable def chkPw (c : Nat) : Bool := chkPre F c && (chkRd F c (tP0 F c) && (chkRd F c (tP1 F c) && (chkLt F (tP0 F c) && chkLt F (tP1 F c))))
end
end Go.Proofs.Ytjphnpbknaedcaa
