/- FieldMatchesReference, cut in two: how it is evaluated. -/
import Derived.Test.YtjphnpbknaedcaaAk
import Derived.Test.YtjphnpbknaedcaaCc
import Derived.Test.YtjphnpbknaedcaaGd
import Derived.Test.YtjphnpbknaedcaaEvN3
namespace Go.Proofs.Ytjphnpbknaedcaa
open Go.Ev Go.Fl

noncomputable def mBody : Code := (Try.f3.body).getD .skip
abbrev nM3 : AV := .sym .i64 (.var 30 (-9223372036854775808) 9223372036854775807) (-9223372036854775808) 9223372036854775807
abbrev xM0 : AV := .sym .u8 (.var 31 0 255) 0 255
abbrev xM1 : AV := .sym .u8 (.var 32 0 255) 0 255
abbrev xM2 : AV := .sym .u8 (.var 33 0 255) 0 255
abbrev xM3 : AV := .sym .u8 (.var 34 0 255) 0 255
abbrev xM : AV := .agg [xM0, xM1, xM2, xM3]
def xBlkM (l : List AV) : ABlk := { elem := 22, cells := l, ro := false }
def mkFs3 : List Fct := sizes.map makeF
def mLA : List (FuncId × List Fct) := [(9, [examplesF]), (10, mkFs3), (11, rmk.map rmakeF), (45, partsFs)]
def mArgs (q : AV) : List AV := [q, xM, nM3]
noncomputable def runM (q : AV) : Option (T3 × St) := runListF (evF Try.prog (orcOf mLA) 5000).code 199 (splitSeq 6 mBody).1 (ofL (mArgs q ++ List.replicate 196 undefA)) st0
/-- the classes of numbers: no size of a field (less than 2, more than 64, between), a size -/
def qRepM : Nat → AV
  | 0 => .sym .i64 (.var 40 (-9223372036854775808) 1) (-9223372036854775808) 1
  | 1 => .sym .i64 (.var 40 65 9223372036854775807) 65 9223372036854775807
  | _ => I 2
noncomputable def tmplM (c : Nat) : List AV := match runM (if Nat.beq c 0 then qRepM 0 else I 2) with
  | some (t, _) => (toL t 199).map genS
  | none => []
def keepM : List (Nat × AV) := [(1, xM), (2, nM3), (4, .ptr 0 0)]
noncomputable def chkMA (c : Nat) (q : AV) : Bool := match runM q with
  | some (t, s) => genL keepM 0 (toL t 199) (tmplM c) && (Nat.beq s.nd 0 && (s.loops.isEmpty && (Nat.ble s.heap.length 8 && (match nthD none s.heap 0 with
    | some A => beqB A (xBlkM [xM0, xM1, xM2, xM3])
    | none => false))))
  | none => false
def clsM (q : Nat) : Nat := if sizes.contains q then 1 else 0

/-! what is left -/
section
variable (F : Gf)
abbrev mL (i : Nat) : AV := lv i 0 (F.q - 1)
abbrev eL (i : Nat) : AV := .sym .i64 (.var i 0 3) 0 3
def mX1 : AV := byteX F.q 21 (.var 0 0 (Int.ofNat (F.q - 1))) 0
def mX2 : AV := byteX F.q 22 (.var 1 0 (Int.ofNat (F.q - 1))) 0
def mX3 (k : Nat) : AV := byteX 5 23 (.lit (Int.ofNat k)) k
abbrev iM : Fct := ⟨[fA F, mL F 0], fOld F, .tup [mL F 7, eL 12], [], []⟩
abbrev pM3 : Fct := ⟨[fA F, mL F 0, nM3], fOld F, .tup [mL F 8, eL 11], [], []⟩
abbrev gM : Fct := ⟨[fA F], fOld F, I F.g, [], []⟩
def mLB (i : Nat) : List (FuncId × List Fct) :=
  [(14, [ofF i F]), (15, [szF F]), (10, mkFs3), (11, rmk.map rmakeF), (45, partsFs),
   (19, [f2 F (mL F 0) (mL F 1) (mL F 3)]), (20, [f2 F (mL F 0) (mL F 1) (mL F 3)]),
   (21, [f2 F (mL F 0) (mL F 1) (mL F 4)]), (22, [f2 F (mL F 0) (mL F 1) (mL F 4)]),
   (23, [f2 F (mL F 0) (mL F 1) (mL F 5)]), (24, [f2 F (mL F 0) (mL F 1) (mL F 5)]),
   (25, [f1 F (mL F 0) (mL F 6)]), (26, [f1 F (mL F 0) (mL F 6)]),
   (27, [iM F]), (28, [iM F]), (29, [pM3 F]), (30, [pM3 F]),
   (31, [f1 F (mL F 0) (mL F 9)]), (32, [f1 F (mL F 0) (mL F 9)]),
   (33, [gM F]), (34, [gM F]),
   (35, [f1 F (mL F 0) (mL F 10)]), (36, [f1 F (mL F 0) (mL F 10)])]
end
def newM (x : AV) (i : Nat) (t : AV) : AV := if Nat.beq i 1 then x else if Nat.beq i 2 then nM3 else if Nat.beq i 4 then .ptr 0 0 else t
noncomputable def tsM (c : Nat) (x : AV) : List AV := ((tmplM c).zipIdx 0).map fun y => newM x y.2 y.1
def sM (l : List AV) : St := { heap := some (xBlkM l) :: List.replicate 7 none, lo := 0, loops := [], nd := 0 }
def xsM (F : Gf) (i k : Nat) : List AV := [byteI i, mX1 F, mX2 F, mX3 k]
noncomputable def chkMB (c k : Nat) (x : Gf × Nat) : Bool :=
  match (evF Try.prog (orcOf (mLB x.1 x.2)) 5000).code 199 (splitSeq 6 mBody).2 (ofL (tsM c (.agg (xsM x.1 x.2 k)))) (sM (xsM x.1 x.2 k)) with
  | some (.ret, t, _) => beq2 (t.get 6) (.bool true)
  | _ => false
noncomputable def chkMs (c : Nat) (x : Gf × Nat) : Bool := allLt 5 fun k => chkMB c k x
end Go.Proofs.Ytjphnpbknaedcaa
