/- What is known of calls: the parts of a number, the orders, fields. -/
import Derived.Test.YtjphnpbknaedcaaEvU
import Derived.Test.YtjphnpbknaedcaaEvNo
import Derived.Test.YtjphnpbknaedcaaProg
import Derived.WalkKit
namespace Go.Proofs.Ytjphnpbknaedcaa
open Go.Ev
set_option linter.unusedSectionVars false
variable [Rho]

theorem fit : Fit Try.prog := fit_of (by kernel_rfl)

abbrev I (n : Nat) : AV := .int .i64 (Int.ofNat n)

def leastOf (q : Nat) : Nat := ((List.range' 2 63).find? (fun p => q % p == 0)).getD 0
def expoOf (q p : Nat) : Nat := ((List.range' 1 6).find? (fun e => p ^ e == q)).getD 0

def partsF (q : Nat) : Fct :=
  { args := [I q], old := [], v := .agg (match expoOf q (leastOf q) with | 0 => [I 0, I 0] | e => [I (leastOf q), I e]), sel := [], new := [] }

noncomputable def chk (orc : Orc) (f : FuncId) (F : Fct) : Bool := F.good && F.got ((evF Try.prog orc 5000).call f F.args F.st)

theorem chk_ok {orc : Orc} {f : FuncId} {F : Fct} (ho : OrcOk Try.prog orc) (h : chk orc f F = true) : F.Holds Try.prog f := by
  simp only [chk, Bool.and_eq_true] at h
  exact Fct.holds fit ho h.1 h.2

theorem chkAll_ok {orc : Orc} {f : FuncId} {l : List Fct} (ho : OrcOk Try.prog orc) (h : l.all (chk orc f) = true) : ∀ F ∈ l, F.Holds Try.prog f := by
  simp only [List.all_eq_true] at h
  exact fun F hF => chk_ok ho (h F hF)

def partsFs : List Fct := (List.range' 2 15).map partsF ++ ((List.range' 17 15).map partsF ++ ((List.range' 32 15).map partsF ++ (List.range' 47 18).map partsF))

/-- the numbers of elements -/
def sizes : List Nat := [2, 3, 4, 5, 7, 8, 9, 11, 13, 16, 17, 19, 23, 25, 27, 29, 31, 32, 37, 41, 43, 47, 49, 53, 59, 61, 64]

def ordersF : Fct := { args := [], old := [], v := .slice 54 0 27 27 false 1, sel := [54], new := [{ elem := 3, cells := sizes.map I, ro := false }] }

end Go.Proofs.Ytjphnpbknaedcaa
