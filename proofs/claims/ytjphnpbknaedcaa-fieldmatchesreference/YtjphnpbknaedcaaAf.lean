/- FieldAxioms, evaluated with letters. -/
import Derived.Test.YtjphnpbknaedcaaAd
import Derived.Test.YtjphnpbknaedcaaAe
import Derived.Test.YtjphnpbknaedcaaMe
namespace Go.Proofs.Ytjphnpbknaedcaa
open Go.Ev Go.Fl

abbrev f2 (F : Gf) (x y v : AV) : Fct := ⟨[fA F, x, y], fOld F, v, [], []⟩
abbrev f1 (F : Gf) (x v : AV) : Fct := ⟨[fA F, x], fOld F, v, [], []⟩
noncomputable def cif (c : Bool) (F : Fct) : List Fct := bif c then [F] else []

section
variable (F : Gf) (za zb : Bool)
noncomputable abbrev aA : AV := bif za then I 0 else lv 0 1 (F.q - 1)
noncomputable abbrev aB : AV := bif zb then I 0 else lv 1 1 (F.q - 1)
abbrev aC : AV := lv 2 0 (F.q - 1)
noncomputable abbrev aS : AV := bif zb then aA F za else bif za then aB F zb else lv 3 0 (F.q - 1)
noncomputable abbrev aP : AV := bif za || zb then I 0 else lv 4 1 (F.q - 1)
abbrev aS6 : AV := lv 6 0 (F.q - 1)
noncomputable abbrev aS5 : AV := bif za then aS6 F else lv 5 0 (F.q - 1)
noncomputable abbrev aP7 : AV := bif zb then I 0 else lv 7 0 (F.q - 1)
noncomputable abbrev aP8 : AV := bif za || zb then I 0 else lv 8 0 (F.q - 1)
noncomputable abbrev aP9 : AV := bif za then I 0 else lv 9 0 (F.q - 1)
noncomputable abbrev aP10 : AV := bif za then aP7 F zb else bif zb then aP9 F za else lv 10 0 (F.q - 1)
noncomputable abbrev aN : AV := bif za then I 0 else lv 11 0 (F.q - 1)
abbrev aI : AV := lv 12 1 (F.q - 1)
noncomputable abbrev aJ : AV := bif za then .tup [I 0, I 3] else .tup [aI F, I 0]

noncomputable def axFacts (i : Nat) : List (FuncId × List Fct) :=
  [(9, [examplesF]), (14, [ofF i F]),
   (19, [f2 F (aA F za) (aB F zb) (aS F za zb), f2 F (aB F zb) (aA F za) (aS F za zb), f2 F (aS F za zb) (aC F) (aS6 F), f2 F (aB F zb) (aC F) (aS5 F za), f2 F (aA F za) (aS5 F za) (aS6 F),
      f2 F (aP9 F za) (aP7 F zb) (aP10 F za zb), f2 F (aA F za) (I 0) (aA F za), f2 F (aA F za) (aN F za) (I 0)]),
   (21, [f2 F (aS F za zb) (aB F zb) (aA F za)]),
   (23, f2 F (aA F za) (aB F zb) (aP F za zb) :: f2 F (aB F zb) (aA F za) (aP F za zb) :: f2 F (aP F za zb) (aC F) (aP8 F za zb) :: f2 F (aB F zb) (aC F) (aP7 F zb) :: f2 F (aA F za) (aP7 F zb) (aP8 F za zb) :: f2 F (aS F za zb) (aC F) (aP10 F za zb) ::
      f2 F (aA F za) (aC F) (aP9 F za) :: f2 F (aA F za) (I 1) (aA F za) :: f2 F (aA F za) (I 0) (I 0) :: cif (!za) (f2 F (aA F za) (aI F) (I 1))),
   (25, [f1 F (aA F za) (aN F za)]),
   (27, [f1 F (aA F za) (aJ F za)])]
noncomputable def byteZ (z : Bool) (i j : Nat) : AV := bif z then byteX F.q i (.lit 0) 0 else byteX F.q i (.var j 1 (Int.ofNat (F.q - 1))) 1
noncomputable def axArg (i : Nat) : AV := .agg [byteI i, byteZ F za 21 0, byteZ F zb 22 1, byteX F.q 23 (.var 2 0 (Int.ofNat (F.q - 1))) 0]
noncomputable def axRun (i : Nat) : Bool := okRun Try.prog (orcOf (axFacts F za zb i)) 4 [axArg F za zb i] (.bool true)
end
noncomputable def axAll (x : Gf × Nat) : Bool := (axRun x.1 false false x.2 && axRun x.1 false true x.2) && (axRun x.1 true false x.2 && axRun x.1 true true x.2)
/-- the field with two elements: no letters for elements -/
noncomputable def axArg2 (a b c : Nat) : AV := .agg [byteI 0, byteX 2 21 (.lit (Int.ofNat a)) a, byteX 2 22 (.lit (Int.ofNat b)) b, byteX 2 23 (.lit (Int.ofNat c)) c]
noncomputable def axFacts2 : List (FuncId × List Fct) := [(9, [examplesF]), (14, [ofF 0 ⟨2, 1, 2, 1, [0], 1, 0⟩])]
noncomputable def axRun2 (a b c : Nat) : Bool := okRun Try.prog (orcOf axFacts2) 4 [axArg2 a b c] (.bool true)
end Go.Proofs.Ytjphnpbknaedcaa
