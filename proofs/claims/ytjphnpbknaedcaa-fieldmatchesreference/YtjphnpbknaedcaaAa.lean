/- Contracts of the field's operations: how they are evaluated with letters. -/
import Derived.Test.YtjphnpbknaedcaaEvZ
import Derived.Test.YtjphnpbknaedcaaMa
namespace Go.Proofs.Ytjphnpbknaedcaa
open Go.Ev Go.Fl
open Go.RowKit (Below)
set_option linter.unusedSectionVars false

abbrev fA (F : Gf) : AV := .agg [I F.p, I F.e, .slice 0 0 F.e F.e false 1]
abbrev fOld (F : Gf) : List ABlk := [{ elem := 3, cells := F.mod.map I, ro := true }]
abbrev fSt (F : Gf) : St := { heap := (fOld F).map some, lo := 0, loops := [], nd := 0 }
abbrev lv (i lo hi : Nat) : AV := .sym .i64 (.var i (Int.ofNat lo) (Int.ofNat hi)) (Int.ofNat lo) (Int.ofNat hi)

/-- bounds of the numbers with so many digits -/
def ways (F : Gf) : List (Nat × Nat) := (0, 0) :: (List.range F.e).map fun k => (F.p ^ k, F.p ^ (k + 1) - 1)
noncomputable def waysOk (F : Gf) : Bool := allLt F.q fun a => (ways F).any fun w => Nat.ble w.1 a && Nat.ble a w.2

/-- digit k -/
def dig (p : Nat) : Nat → Nat → Nat
  | 0, a => Nat.mod a p
  | k + 1, a => dig p k (Nat.div a p)
def quoX (p : Nat) (x : SX) : Nat → SX
  | 0 => x
  | k + 1 => .bin .quo (quoX p x k) (.lit (Int.ofNat p))
def digV (F : Gf) (x : SX) (k : Nat) : AV := if k < F.e then .sym .i64 (.bin .rem (quoX F.p x k) (.lit (Int.ofNat F.p))) 0 (Int.ofNat (F.p - 1)) else I 0
def exV (F : Gf) (x : SX) : AV := .agg ((List.range 7).map (digV F x))
def digN (F : Gf) (k a : Nat) : Nat := if k < F.e then dig F.p k a else 0

/-- the cells are f k, f (k + 1), .. -/
noncomputable def cellsOk (la ha lb hb : Nat) (f : Nat → Nat → Nat → Nat) : Nat → Nat → List AV → Bool
  | _, 0, [] => true
  | k, n + 1, v :: l => bif numOk v la ha lb hb (f k) then cellsOk la ha lb hb f (k + 1) n l else false
  | _, _, _ => false
noncomputable def aggOk (n la ha lb hb : Nat) (f : Nat → Nat → Nat → Nat) (r : Option (AV × St × Bool)) : Bool :=
  match r with
  | some (.agg l, _, _) => cellsOk la ha lb hb f 0 n l
  | _ => false
noncomputable def chkEx (F : Gf) : Bool := bif waysOk F then (ways F).all fun w => aggOk 7 w.1 w.2 0 0 (fun k a _ => digN F k a) ((evF Try.prog noOrc 5000).call 52 [I F.p, lv 0 w.1 w.2] st0) else false

abbrev exF (F : Gf) : Fct := ⟨[I F.p, lv 0 0 (F.q - 1)], [], exV F (.var 0 0 (Int.ofNat (F.q - 1))), [], []⟩
abbrev Lx (F : Gf) : List (FuncId × List Fct) := [(52, [exF F])]

noncomputable def nOk (la ha lb hb : Nat) (f : Nat → Nat → Nat) (r : Option (AV × St × Bool)) : Bool :=
  match r with
  | some (v, _, _) => numOk v la ha lb hb f
  | none => false
noncomputable def chk2 (f : FuncId) (op : Gf → Nat → Nat → Nat) (F : Gf) : Bool :=
  (ways F).all fun w => nOk 0 (F.q - 1) w.1 w.2 (op F) ((evF Try.prog (orcOf (Lx F)) 5000).call f [fA F, lv 0 0 (F.q - 1), lv 1 w.1 w.2] (fSt F))
/-- of one element: the letter 1 -/
noncomputable def chk1 (f : FuncId) (op : Gf → Nat → Nat) (F : Gf) : Bool :=
  (ways F).all fun w => nOk 0 0 w.1 w.2 (fun _ b => op F b) ((evF Try.prog noOrc 5000).call f [fA F, lv 1 w.1 w.2] (fSt F))

def primes : List Gf := fds.filter fun F => F.e == 1
def mids : List Gf := fds.filter fun F => !(F.e == 1) && (!(F.q == 49) && !(F.q == 64))
def fdOf (q : Nat) : List Gf := fds.filter fun F => F.q == q
theorem split {φ : Gf → Bool} (h1 : primes.all φ = true) (h2 : mids.all φ = true) (h3 : (fdOf 49).all φ = true) (h4 : (fdOf 64).all φ = true) : ∀ F ∈ fds, φ F = true := by
  intro F hF
  simp only [List.all_eq_true, primes, mids, fdOf, List.mem_filter] at h1 h2 h3 h4
  cases k1 : F.e == 1
  · cases k3 : F.q == 49
    · cases k4 : F.q == 64
      · exact h2 F ⟨hF, by rw [k1, k3, k4]; rfl⟩
      · exact h4 F ⟨hF, k4⟩
    · exact h3 F ⟨hF, k3⟩
  · exact h1 F ⟨hF, k1⟩
end Go.Proofs.Ytjphnpbknaedcaa
