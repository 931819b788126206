/- What is known of calls: Make. -/
import Derived.Test.YtjphnpbknaedcaaMa
namespace Go.Proofs.Ytjphnpbknaedcaa
open Go.Ev
set_option linter.unusedSectionVars false
variable [Rho]

def modOf (q : Nat) : List Nat :=
  match q with
  | 4 => [1, 1]
  | 8 => [1, 1, 0]
  | 9 => [1, 0]
  | 16 => [1, 1, 0, 0]
  | 25 => [2, 0]
  | 27 => [1, 2, 0]
  | 32 => [1, 0, 1, 0, 0]
  | 49 => [1, 0]
  | 64 => [1, 1, 0, 0, 0, 0]
  | _ => [0]

def makeF (q : Nat) : Fct :=
  { args := [I q], old := [], v := .tup [.agg [I (leastOf q), I (modOf q).length, .slice 2 0 (modOf q).length (modOf q).length false 1], I 0], sel := [2], new := [{ elem := 3, cells := (modOf q).map I, ro := false }] }

end Go.Proofs.Ytjphnpbknaedcaa
