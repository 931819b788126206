/- What is known of calls: products of polynomials. -/
import Derived.Test.YtjphnpbknaedcaaMa
namespace Go.Proofs.Ytjphnpbknaedcaa
open Go.Ev

def monicL (p : Nat) : Nat → Nat → List Nat
  | _, 0 => [1]
  | n, d + 1 => n % p :: monicL p (n / p) d

def coefOf (p : Nat) (x y : List Nat) (j : Nat) : Nat := (List.range (j + 1)).foldl (fun a i => a + x.getD i 0 * y.getD (j - i) 0) 0 % p
def numberOf (p : Nat) (x y : List Nat) : Nat := (List.range (x.length + y.length - 2)).foldl (fun a j => a + coefOf p x y j * p ^ j) 0

def ints (ro : Bool) (l : List Nat) : ABlk := { elem := 3, cells := l.map I, ro := ro }

def monicF (p d n : Nat) : Fct :=
  { args := [I p, I n, I d], old := [], v := .slice (2 * (d + 1)) 0 (d + 1) (d + 1) false 1, sel := [2 * (d + 1)], new := [ints false (monicL p n d)] }

def timesOf (p : Nat) (x y : List Nat) : Fct :=
  { args := [I p, .slice 0 0 x.length x.length false 1, .slice 1 0 y.length y.length false 1], old := [ints true x, ints true y], v := I (numberOf p x y), sel := [], new := [] }

def timesF (p e d i k : Nat) : Fct := timesOf p (monicL p i d) (monicL p k (e - d))

/-- monic polynomials of degree d -/
def monics (p d m : Nat) : List Fct := (List.range m).map (monicF p d)
/-- products of the i-th to the (i + n)-th of degree d by m of degree e - d -/
def timess (p e d m : Nat) (is : List Nat) : List Fct := is.flatMap fun i => (List.range m).map fun k => timesF p e d i k

end Go.Proofs.Ytjphnpbknaedcaa
