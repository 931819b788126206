/-
  No cell of these rows narrows 'for every input' (looked for: loops, veiled, ifaces, maps, wideKeys, modest, calm, conditions, laid).
  DERIVED. THE GIVEN ROWS OF THIS SEAT. 7 by the template 'for every input the law returns true; each argument reads behind the call as it read before'; 0 by the template 'total and deterministic' (their statements: YtllecfhfhcmpaaaTotals.lean).
  GIVEN WITH THE SEED: the statements are not yours to turn. If you find one false, say at which input.
  Laid BY PROGRAM, IN A SANDBOX (cutbox-rows.mjs): the forced cells as the released guide's own fill.sh prints them over the translation 9e8efc3ef9e6bb5a… (all of the seat's roots in one cut). By AI agents, Wed Nov 11 2026. No macro, syntax, notation, axiom, sorry.
-/
import Derived.Test.YtllecfhfhcmpaaaChecked
import GoSem.Claim
import GoSem.ClaimJoined
import GoSem.ClaimMapViews
import Derived.JoinedTies
import Derived.KernelRfl
namespace Go.Proofs.Ytllecfhfhcmpaaa
/- THE CELL 'sum', in the pinned program and in every row, IS THE sha256 OF THE DUMP (.gsa) THAT YtllecfhfhcmpaaaProg.lean LOADS. Nothing in Lean hashes anything: it is a label: what it is worth is what the hold of that sum in a sandbox is worth. -/
noncomputable def Try.pinned : Pinned := { name := "ytllecfhfhcmpaaa", sum := "9e8efc3ef9e6bb5a619610904a916435cbfb06de156bf95435c6b8c8bd7efa5e", checked := Try.checked }
namespace Rows
def none {H : Type} : Left H := { results := [], args := [] }

/-- 'plexuslaw04.PolyMatchesReference': WHATEVER THE INPUT: true; the input reads as it did. -/
def polyMatchesReferenceSpec : ChangeSpec := { name := "polyMatchesReference", fn := fun _ => fun
  | [d1, d2, d3] => { results := [.lit (.bool true)], args := [d1, d2, d3] }
  | _ => none }
def polyMatchesReferenceRow : OpenClaim := { program := "ytllecfhfhcmpaaa", sum := "9e8efc3ef9e6bb5a619610904a916435cbfb06de156bf95435c6b8c8bd7efa5e", func := "plexus/plexuslaw04.PolyMatchesReference", spec := "polyMatchesReference", unfollowed := true, recurses := true, apart := false }
def PolyMatchesReferenceSaid : Prop := polyMatchesReferenceRow.holds Try.pinned (OpenSpec.ofChange polyMatchesReferenceSpec)

/-- ITS FALSE NEIGHBOUR: 'it returns false'. Refute it at one input. -/
def polyMatchesReferenceWrong : ChangeSpec := { name := "polyMatchesReference", fn := fun _ => fun
  | [d1, d2, d3] => { results := [.lit (.bool false)], args := [d1, d2, d3] }
  | _ => none }
def PolyMatchesReferenceWrongFalsely : Prop := polyMatchesReferenceRow.holds Try.pinned (OpenSpec.ofChange polyMatchesReferenceWrong)

/-- 'plexuslaw04.PolyRing': WHATEVER THE INPUT: true; the input reads as it did. -/
def polyRingSpec : ChangeSpec := { name := "polyRing", fn := fun _ => fun
  | [d1, d2] => { results := [.lit (.bool true)], args := [d1, d2] }
  | _ => none }
def polyRingRow : OpenClaim := { program := "ytllecfhfhcmpaaa", sum := "9e8efc3ef9e6bb5a619610904a916435cbfb06de156bf95435c6b8c8bd7efa5e", func := "plexus/plexuslaw04.PolyRing", spec := "polyRing", unfollowed := true, recurses := true, apart := false }
def PolyRingSaid : Prop := polyRingRow.holds Try.pinned (OpenSpec.ofChange polyRingSpec)

/-- ITS FALSE NEIGHBOUR: 'it returns false'. Refute it at one input. -/
def polyRingWrong : ChangeSpec := { name := "polyRing", fn := fun _ => fun
  | [d1, d2] => { results := [.lit (.bool false)], args := [d1, d2] }
  | _ => none }
def PolyRingWrongFalsely : Prop := polyRingRow.holds Try.pinned (OpenSpec.ofChange polyRingWrong)

/-- 'plexuslaw04.PolyDivides': WHATEVER THE INPUT: true; the input reads as it did. -/
def polyDividesSpec : ChangeSpec := { name := "polyDivides", fn := fun _ => fun
  | [d] => { results := [.lit (.bool true)], args := [d] }
  | _ => none }
def polyDividesRow : OpenClaim := { program := "ytllecfhfhcmpaaa", sum := "9e8efc3ef9e6bb5a619610904a916435cbfb06de156bf95435c6b8c8bd7efa5e", func := "plexus/plexuslaw04.PolyDivides", spec := "polyDivides", unfollowed := true, recurses := true, apart := false }
def PolyDividesSaid : Prop := polyDividesRow.holds Try.pinned (OpenSpec.ofChange polyDividesSpec)

/-- ITS FALSE NEIGHBOUR: 'it returns false'. Refute it at one input. -/
def polyDividesWrong : ChangeSpec := { name := "polyDivides", fn := fun _ => fun
  | [d] => { results := [.lit (.bool false)], args := [d] }
  | _ => none }
def PolyDividesWrongFalsely : Prop := polyDividesRow.holds Try.pinned (OpenSpec.ofChange polyDividesWrong)

/-- 'plexuslaw04.PolyGcd': WHATEVER THE INPUT: true; the input reads as it did. -/
def polyGcdSpec : ChangeSpec := { name := "polyGcd", fn := fun _ => fun
  | [d] => { results := [.lit (.bool true)], args := [d] }
  | _ => none }
def polyGcdRow : OpenClaim := { program := "ytllecfhfhcmpaaa", sum := "9e8efc3ef9e6bb5a619610904a916435cbfb06de156bf95435c6b8c8bd7efa5e", func := "plexus/plexuslaw04.PolyGcd", spec := "polyGcd", unfollowed := true, recurses := true, apart := false }
def PolyGcdSaid : Prop := polyGcdRow.holds Try.pinned (OpenSpec.ofChange polyGcdSpec)

/-- ITS FALSE NEIGHBOUR: 'it returns false'. Refute it at one input. -/
def polyGcdWrong : ChangeSpec := { name := "polyGcd", fn := fun _ => fun
  | [d] => { results := [.lit (.bool false)], args := [d] }
  | _ => none }
def PolyGcdWrongFalsely : Prop := polyGcdRow.holds Try.pinned (OpenSpec.ofChange polyGcdWrong)

/-- 'plexuslaw04.PolyRoots': WHATEVER THE INPUT: true; the input reads as it did. -/
def polyRootsSpec : ChangeSpec := { name := "polyRoots", fn := fun _ => fun
  | [d1, d2] => { results := [.lit (.bool true)], args := [d1, d2] }
  | _ => none }
def polyRootsRow : OpenClaim := { program := "ytllecfhfhcmpaaa", sum := "9e8efc3ef9e6bb5a619610904a916435cbfb06de156bf95435c6b8c8bd7efa5e", func := "plexus/plexuslaw04.PolyRoots", spec := "polyRoots", unfollowed := true, recurses := true, apart := false }
def PolyRootsSaid : Prop := polyRootsRow.holds Try.pinned (OpenSpec.ofChange polyRootsSpec)

/-- ITS FALSE NEIGHBOUR: 'it returns false'. Refute it at one input. -/
def polyRootsWrong : ChangeSpec := { name := "polyRoots", fn := fun _ => fun
  | [d1, d2] => { results := [.lit (.bool false)], args := [d1, d2] }
  | _ => none }
def PolyRootsWrongFalsely : Prop := polyRootsRow.holds Try.pinned (OpenSpec.ofChange polyRootsWrong)

/-- 'plexuslaw04.PolyInterpolates': WHATEVER THE INPUT: true; the input reads as it did. -/
def polyInterpolatesSpec : ChangeSpec := { name := "polyInterpolates", fn := fun _ => fun
  | [d1, d2] => { results := [.lit (.bool true)], args := [d1, d2] }
  | _ => none }
def polyInterpolatesRow : OpenClaim := { program := "ytllecfhfhcmpaaa", sum := "9e8efc3ef9e6bb5a619610904a916435cbfb06de156bf95435c6b8c8bd7efa5e", func := "plexus/plexuslaw04.PolyInterpolates", spec := "polyInterpolates", unfollowed := true, recurses := true, apart := false }
def PolyInterpolatesSaid : Prop := polyInterpolatesRow.holds Try.pinned (OpenSpec.ofChange polyInterpolatesSpec)

/-- ITS FALSE NEIGHBOUR: 'it returns false'. Refute it at one input. -/
def polyInterpolatesWrong : ChangeSpec := { name := "polyInterpolates", fn := fun _ => fun
  | [d1, d2] => { results := [.lit (.bool false)], args := [d1, d2] }
  | _ => none }
def PolyInterpolatesWrongFalsely : Prop := polyInterpolatesRow.holds Try.pinned (OpenSpec.ofChange polyInterpolatesWrong)

/-- 'plexuslaw04.PolyMinimal': WHATEVER THE INPUT: true; the input reads as it did. -/
def polyMinimalSpec : ChangeSpec := { name := "polyMinimal", fn := fun _ => fun
  | [d1, d2] => { results := [.lit (.bool true)], args := [d1, d2] }
  | _ => none }
def polyMinimalRow : OpenClaim := { program := "ytllecfhfhcmpaaa", sum := "9e8efc3ef9e6bb5a619610904a916435cbfb06de156bf95435c6b8c8bd7efa5e", func := "plexus/plexuslaw04.PolyMinimal", spec := "polyMinimal", unfollowed := true, recurses := true, apart := false }
def PolyMinimalSaid : Prop := polyMinimalRow.holds Try.pinned (OpenSpec.ofChange polyMinimalSpec)

/-- ITS FALSE NEIGHBOUR: 'it returns false'. Refute it at one input. -/
def polyMinimalWrong : ChangeSpec := { name := "polyMinimal", fn := fun _ => fun
  | [d1, d2] => { results := [.lit (.bool false)], args := [d1, d2] }
  | _ => none }
def PolyMinimalWrongFalsely : Prop := polyMinimalRow.holds Try.pinned (OpenSpec.ofChange polyMinimalWrong)

/- THE SECOND FORM. 'bulk': how many values and letters a reading holds, each counted each time it is reached (what is shared counts as often as it is met; a slice's spare places count too). A statement '..UptoSaid' is the law's where the arguments, and the package variables that the reading takes, are together of bulk at most 1048576: NARROWER than '..Said'. Prove '..Said' where nothing that the law and all that it calls make is longer than what came in: it says more and counts as full. Else prove '..UptoSaid'. A law counts once. -/
mutual
def uptoBulk {H : Type} : DataW H → Nat
  | .lit (.string bytes) => bytes.length + 1
  | .lit _ => 1
  | .nil => 1
  | .ptr d => uptoBulk d + 1
  | .slice elems spare => uptoBulkAll elems + uptoBulkAll spare + 1
  | .agg parts => uptoBulkAll parts + 1
  | .iface _ d => uptoBulk d + 1
  | .map entries => uptoBulkEntries entries + 1
  | .held _ => 1
def uptoBulkAll {H : Type} : List (DataW H) → Nat
  | [] => 0
  | d :: r => uptoBulk d + uptoBulkAll r
def uptoBulkEntries {H : Type} : List (Lit × DataW H) → Nat
  | [] => 0
  | x :: r => uptoBulkEntry x + uptoBulkEntries r
def uptoBulkEntry {H : Type} : Lit × DataW H → Nat
  | (.string bytes, d) => bytes.length + uptoBulk d + 1
  | (_, d) => uptoBulk d + 1
 end
def uptoSmall : (H : Type) → List (DataW H) → Bool := fun _ ds => decide (uptoBulkAll ds ≤ 1048576)
def OpenSpec.upto (s : _root_.Go.ChangeSpec) : _root_.Go.OpenSpec := { _root_.Go.OpenSpec.ofChange s with cond := some uptoSmall }

/-- 'plexuslaw04.PolyMatchesReference', WHERE WHAT IT READS IS OF BULK AT MOST 1048576: true; the input reads as it did. -/
def polyMatchesReferenceUptoRow : OpenClaim := { program := "ytllecfhfhcmpaaa", sum := "9e8efc3ef9e6bb5a619610904a916435cbfb06de156bf95435c6b8c8bd7efa5e", func := "plexus/plexuslaw04.PolyMatchesReference", spec := "polyMatchesReference", unfollowed := true, recurses := true, apart := false, narrowed := true }
def PolyMatchesReferenceUptoSaid : Prop := polyMatchesReferenceUptoRow.holds Try.pinned (OpenSpec.upto polyMatchesReferenceSpec)

/-- 'plexuslaw04.PolyRing', WHERE WHAT IT READS IS OF BULK AT MOST 1048576: true; the input reads as it did. -/
def polyRingUptoRow : OpenClaim := { program := "ytllecfhfhcmpaaa", sum := "9e8efc3ef9e6bb5a619610904a916435cbfb06de156bf95435c6b8c8bd7efa5e", func := "plexus/plexuslaw04.PolyRing", spec := "polyRing", unfollowed := true, recurses := true, apart := false, narrowed := true }
def PolyRingUptoSaid : Prop := polyRingUptoRow.holds Try.pinned (OpenSpec.upto polyRingSpec)

/-- 'plexuslaw04.PolyDivides', WHERE WHAT IT READS IS OF BULK AT MOST 1048576: true; the input reads as it did. -/
def polyDividesUptoRow : OpenClaim := { program := "ytllecfhfhcmpaaa", sum := "9e8efc3ef9e6bb5a619610904a916435cbfb06de156bf95435c6b8c8bd7efa5e", func := "plexus/plexuslaw04.PolyDivides", spec := "polyDivides", unfollowed := true, recurses := true, apart := false, narrowed := true }
def PolyDividesUptoSaid : Prop := polyDividesUptoRow.holds Try.pinned (OpenSpec.upto polyDividesSpec)

/-- 'plexuslaw04.PolyGcd', WHERE WHAT IT READS IS OF BULK AT MOST 1048576: true; the input reads as it did. -/
def polyGcdUptoRow : OpenClaim := { program := "ytllecfhfhcmpaaa", sum := "9e8efc3ef9e6bb5a619610904a916435cbfb06de156bf95435c6b8c8bd7efa5e", func := "plexus/plexuslaw04.PolyGcd", spec := "polyGcd", unfollowed := true, recurses := true, apart := false, narrowed := true }
def PolyGcdUptoSaid : Prop := polyGcdUptoRow.holds Try.pinned (OpenSpec.upto polyGcdSpec)

/-- 'plexuslaw04.PolyRoots', WHERE WHAT IT READS IS OF BULK AT MOST 1048576: true; the input reads as it did. -/
def polyRootsUptoRow : OpenClaim := { program := "ytllecfhfhcmpaaa", sum := "9e8efc3ef9e6bb5a619610904a916435cbfb06de156bf95435c6b8c8bd7efa5e", func := "plexus/plexuslaw04.PolyRoots", spec := "polyRoots", unfollowed := true, recurses := true, apart := false, narrowed := true }
def PolyRootsUptoSaid : Prop := polyRootsUptoRow.holds Try.pinned (OpenSpec.upto polyRootsSpec)

/-- 'plexuslaw04.PolyInterpolates', WHERE WHAT IT READS IS OF BULK AT MOST 1048576: true; the input reads as it did. -/
def polyInterpolatesUptoRow : OpenClaim := { program := "ytllecfhfhcmpaaa", sum := "9e8efc3ef9e6bb5a619610904a916435cbfb06de156bf95435c6b8c8bd7efa5e", func := "plexus/plexuslaw04.PolyInterpolates", spec := "polyInterpolates", unfollowed := true, recurses := true, apart := false, narrowed := true }
def PolyInterpolatesUptoSaid : Prop := polyInterpolatesUptoRow.holds Try.pinned (OpenSpec.upto polyInterpolatesSpec)

/-- 'plexuslaw04.PolyMinimal', WHERE WHAT IT READS IS OF BULK AT MOST 1048576: true; the input reads as it did. -/
def polyMinimalUptoRow : OpenClaim := { program := "ytllecfhfhcmpaaa", sum := "9e8efc3ef9e6bb5a619610904a916435cbfb06de156bf95435c6b8c8bd7efa5e", func := "plexus/plexuslaw04.PolyMinimal", spec := "polyMinimal", unfollowed := true, recurses := true, apart := false, narrowed := true }
def PolyMinimalUptoSaid : Prop := polyMinimalUptoRow.holds Try.pinned (OpenSpec.upto polyMinimalSpec)

end Rows
end Go.Proofs.Ytllecfhfhcmpaaa
