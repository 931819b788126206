/- RatField, evaluated with letters. -/
import Derived.Test.YtieabeodommbiaaQb
namespace Go.Proofs.Ytieabeodommbiaa
open Go.Ev

abbrev xs (i : Nat) : AV := lt .i64 i (-9223372036854775808) 9223372036854775807
abbrev xp (i : Nat) : AV := .agg [xs i, xs (i + 1)]
/-- a fraction that is 0, positive, negative -/
noncomputable def bN (k : Nat) : AV := match k with | 0 => .int .i64 0 | 1 => lt .i64 8 1 4611686018427387904 | _ => lt .i64 8 (-4611686018427387904) (-1)
noncomputable abbrev bF (k : Nat) : AV := .agg [bN k, aD 9]
abbrev zF : AV := .agg [.int .i64 0, .int .i64 1]
abbrev oF : AV := .agg [.int .i64 1, .int .i64 1]
abbrev zR : AV := .agg [.int .i64 0, .int .i64 1, .int .i64 0]
noncomputable def R (c : Bool) (i : Nat) : AV := if c then .agg [aN i, aD (i + 1), .int .i64 0] else .agg [.int .i64 0, .int .i64 0, .int .i64 2]
abbrev F2 (x y v : AV) : Fct := ⟨[x, y], [], v, [], []⟩
noncomputable def cif (c : Bool) (F : Fct) : List Fct := if c then [F] else []
noncomputable def fieldFacts (k : Nat) (s t p q r L : Bool) : List (FuncId × List Fct) :=
  [(10, [⟨[], [], .bool true, [], []⟩]),
   (15, [F2 (xs 0) (xs 1) (fr 6), F2 (xs 2) (xs 3) (bF k), F2 (xs 4) (xs 5) (fr 10)]),
   (16, F2 (fr 6) (bF k) (R s 12) :: F2 (bF k) (fr 6) (R s 12) :: F2 (fr 6) zF (R true 6) :: F2 (bF k) (fr 10) (R t 16) :: (cif s (F2 (fr 12) (fr 10) (resA 18)) ++ (cif t (F2 (fr 6) (fr 16) (resA 18)) ++ cif (r && q) (F2 (fr 26) (fr 21) (R L 28))))),
   (18, F2 (fr 6) (fr 6) zR :: cif s (F2 (fr 12) (bF k) (R true 6))),
   (20, F2 (fr 6) (bF k) (R p 14) :: F2 (bF k) (fr 6) (R p 14) :: F2 (fr 6) oF (R true 6) :: F2 (fr 6) zF zR :: F2 (bF k) (fr 10) (R q 21) :: F2 (fr 6) (fr 10) (R r 26) :: (cif p (F2 (fr 14) (fr 10) (resA 23)) ++ (cif q (F2 (fr 6) (fr 21) (resA 23)) ++ cif s (F2 (fr 12) (fr 10) (R L 28))))),
   (22, cif (p && !(k == 0)) (F2 (fr 14) (bF k) (R true 6)))]
noncomputable def bools : List Bool := [true, false]
noncomputable def runOf (k : Nat) (s t : Bool) : Bool := bools.all fun p => bools.all fun q => bools.all fun r => bools.all fun L => okRun Try.prog (orcOf (fieldFacts k s t p q r L)) 4 [xp 0, xp 2, xp 4] (.bool true)

end Go.Proofs.Ytieabeodommbiaa
