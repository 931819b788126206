/- The reference's fields: what Make and Of return. -/
import Derived.Test.YtjphnpbknaedcaaAa
namespace Go.Proofs.Ytjphnpbknaedcaa
open Go.Ev Go.Fl
set_option linter.unusedSectionVars false
variable [Rho]
/-- with each field the place of its modulus among the rows that Make makes -/
def rmk : List (Gf × Nat) := fds.zip [4, 4, 33, 4, 4, 41, 15, 4, 4, 49, 4, 4, 4, 24, 85, 4, 4, 87, 4, 4, 4, 4, 15, 4, 4, 4, 65]
def fV (F : Gf) (b : Nat) : AV := .agg [I F.p, I F.e, .slice b 0 F.e F.e false 1]
def fB (F : Gf) : ABlk := { elem := 3, cells := F.mod.map I, ro := false }
def rmakeF (x : Gf × Nat) : Fct := ⟨[I x.1.q], [], .tup [fV x.1 x.2, I 0], [x.2], [fB x.1]⟩
/-- a byte whose rest by n is the value of r -/
def byteX (n : Nat) (i : Nat) (r : SX) (lo : Nat) : AV := .sym .u8 (.bin .add (.bin .mul (.lit (Int.ofNat n)) (.var i 0 (Int.ofNat (255 / n)))) r) (Int.ofNat lo) 255
def byteI (i : Nat) : AV := byteX 27 20 (.lit (Int.ofNat i)) i
def ofF (i : Nat) (F : Gf) : Fct := ⟨[byteI i], [], fV F 2, [2], [fB F]⟩
end Go.Proofs.Ytjphnpbknaedcaa
