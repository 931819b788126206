/-
  No cell of these rows narrows 'for every input' (looked for: loops, veiled, ifaces, maps, wideKeys, modest, calm, conditions, laid).
  DERIVED. THE GIVEN ROWS OF THIS SEAT. 7 by the template 'for every input the law returns true; each argument reads behind the call as it read before'; 0 by the template 'total and deterministic' (their statements: YtieabeodommbiaaTotals.lean).
  GIVEN WITH THE SEED: the statements are not yours to turn. If you find one false, say at which input.
  Laid BY PROGRAM, IN A SANDBOX (cutbox-rows.mjs): the forced cells as the released guide's own fill.sh prints them over the translation 96e27dfba8f0d852… (all of the seat's roots in one cut). By AI agents, Wed Nov 11 2026. No macro, syntax, notation, axiom, sorry.
-/
import Derived.Test.YtieabeodommbiaaChecked
import GoSem.Claim
import GoSem.ClaimJoined
import GoSem.ClaimMapViews
import Derived.JoinedTies
import Derived.KernelRfl
namespace Go.Proofs.Ytieabeodommbiaa
/- THE CELL 'sum', in the pinned program and in every row, IS THE sha256 OF THE DUMP (.gsa) THAT YtieabeodommbiaaProg.lean LOADS. Nothing in Lean hashes anything: it is a label: what it is worth is what the hold of that sum in a sandbox is worth. -/
noncomputable def Try.pinned : Pinned := { name := "ytieabeodommbiaa", sum := "96e27dfba8f0d852652016a665185d6879d25875970ed0101a6c65d112998165", checked := Try.checked }
namespace Rows
def none {H : Type} : Left H := { results := [], args := [] }

/-- 'plexuslaw02.RatMatchesReference': WHATEVER THE INPUT: true; the input reads as it did. -/
def ratMatchesReferenceSpec : ChangeSpec := { name := "ratMatchesReference", fn := fun _ => fun
  | [d1, d2] => { results := [.lit (.bool true)], args := [d1, d2] }
  | _ => none }
def ratMatchesReferenceRow : OpenClaim := { program := "ytieabeodommbiaa", sum := "96e27dfba8f0d852652016a665185d6879d25875970ed0101a6c65d112998165", func := "plexus/plexuslaw02.RatMatchesReference", spec := "ratMatchesReference", recurses := true, apart := false }
def RatMatchesReferenceSaid : Prop := ratMatchesReferenceRow.holds Try.pinned (OpenSpec.ofChange ratMatchesReferenceSpec)

/-- ITS FALSE NEIGHBOUR: 'it returns false'. Refute it at one input. -/
def ratMatchesReferenceWrong : ChangeSpec := { name := "ratMatchesReference", fn := fun _ => fun
  | [d1, d2] => { results := [.lit (.bool false)], args := [d1, d2] }
  | _ => none }
def RatMatchesReferenceWrongFalsely : Prop := ratMatchesReferenceRow.holds Try.pinned (OpenSpec.ofChange ratMatchesReferenceWrong)

/-- 'plexuslaw02.RatField': WHATEVER THE INPUT: true; the input reads as it did. -/
def ratFieldSpec : ChangeSpec := { name := "ratField", fn := fun _ => fun
  | [d1, d2, d3] => { results := [.lit (.bool true)], args := [d1, d2, d3] }
  | _ => none }
def ratFieldRow : OpenClaim := { program := "ytieabeodommbiaa", sum := "96e27dfba8f0d852652016a665185d6879d25875970ed0101a6c65d112998165", func := "plexus/plexuslaw02.RatField", spec := "ratField", apart := false }
def RatFieldSaid : Prop := ratFieldRow.holds Try.pinned (OpenSpec.ofChange ratFieldSpec)

/-- ITS FALSE NEIGHBOUR: 'it returns false'. Refute it at one input. -/
def ratFieldWrong : ChangeSpec := { name := "ratField", fn := fun _ => fun
  | [d1, d2, d3] => { results := [.lit (.bool false)], args := [d1, d2, d3] }
  | _ => none }
def RatFieldWrongFalsely : Prop := ratFieldRow.holds Try.pinned (OpenSpec.ofChange ratFieldWrong)

/-- 'plexuslaw02.RatOrder': WHATEVER THE INPUT: true; the input reads as it did. -/
def ratOrderSpec : ChangeSpec := { name := "ratOrder", fn := fun _ => fun
  | [d1, d2, d3] => { results := [.lit (.bool true)], args := [d1, d2, d3] }
  | _ => none }
def ratOrderRow : OpenClaim := { program := "ytieabeodommbiaa", sum := "96e27dfba8f0d852652016a665185d6879d25875970ed0101a6c65d112998165", func := "plexus/plexuslaw02.RatOrder", spec := "ratOrder", apart := false }
def RatOrderSaid : Prop := ratOrderRow.holds Try.pinned (OpenSpec.ofChange ratOrderSpec)

/-- ITS FALSE NEIGHBOUR: 'it returns false'. Refute it at one input. -/
def ratOrderWrong : ChangeSpec := { name := "ratOrder", fn := fun _ => fun
  | [d1, d2, d3] => { results := [.lit (.bool false)], args := [d1, d2, d3] }
  | _ => none }
def RatOrderWrongFalsely : Prop := ratOrderRow.holds Try.pinned (OpenSpec.ofChange ratOrderWrong)

/-- 'plexuslaw02.RatLowest': WHATEVER THE INPUT: true; the input reads as it did. -/
def ratLowestSpec : ChangeSpec := { name := "ratLowest", fn := fun _ => fun
  | [d1, d2, d3] => { results := [.lit (.bool true)], args := [d1, d2, d3] }
  | _ => none }
def ratLowestRow : OpenClaim := { program := "ytieabeodommbiaa", sum := "96e27dfba8f0d852652016a665185d6879d25875970ed0101a6c65d112998165", func := "plexus/plexuslaw02.RatLowest", spec := "ratLowest", apart := false }
def RatLowestSaid : Prop := ratLowestRow.holds Try.pinned (OpenSpec.ofChange ratLowestSpec)

/-- ITS FALSE NEIGHBOUR: 'it returns false'. Refute it at one input. -/
def ratLowestWrong : ChangeSpec := { name := "ratLowest", fn := fun _ => fun
  | [d1, d2, d3] => { results := [.lit (.bool false)], args := [d1, d2, d3] }
  | _ => none }
def RatLowestWrongFalsely : Prop := ratLowestRow.holds Try.pinned (OpenSpec.ofChange ratLowestWrong)

/-- 'plexuslaw02.RatRounds': WHATEVER THE INPUT: true; the input reads as it did. -/
def ratRoundsSpec : ChangeSpec := { name := "ratRounds", fn := fun _ => fun
  | [d1, d2] => { results := [.lit (.bool true)], args := [d1, d2] }
  | _ => none }
def ratRoundsRow : OpenClaim := { program := "ytieabeodommbiaa", sum := "96e27dfba8f0d852652016a665185d6879d25875970ed0101a6c65d112998165", func := "plexus/plexuslaw02.RatRounds", spec := "ratRounds", apart := false }
def RatRoundsSaid : Prop := ratRoundsRow.holds Try.pinned (OpenSpec.ofChange ratRoundsSpec)

/-- ITS FALSE NEIGHBOUR: 'it returns false'. Refute it at one input. -/
def ratRoundsWrong : ChangeSpec := { name := "ratRounds", fn := fun _ => fun
  | [d1, d2] => { results := [.lit (.bool false)], args := [d1, d2] }
  | _ => none }
def RatRoundsWrongFalsely : Prop := ratRoundsRow.holds Try.pinned (OpenSpec.ofChange ratRoundsWrong)

/-- 'plexuslaw02.RatTexts': WHATEVER THE INPUT: true; the input reads as it did. -/
def ratTextsSpec : ChangeSpec := { name := "ratTexts", fn := fun _ => fun
  | [d1, d2, d3] => { results := [.lit (.bool true)], args := [d1, d2, d3] }
  | _ => none }
def ratTextsRow : OpenClaim := { program := "ytieabeodommbiaa", sum := "96e27dfba8f0d852652016a665185d6879d25875970ed0101a6c65d112998165", func := "plexus/plexuslaw02.RatTexts", spec := "ratTexts", recurses := true, apart := false }
def RatTextsSaid : Prop := ratTextsRow.holds Try.pinned (OpenSpec.ofChange ratTextsSpec)

/-- ITS FALSE NEIGHBOUR: 'it returns false'. Refute it at one input. -/
def ratTextsWrong : ChangeSpec := { name := "ratTexts", fn := fun _ => fun
  | [d1, d2, d3] => { results := [.lit (.bool false)], args := [d1, d2, d3] }
  | _ => none }
def RatTextsWrongFalsely : Prop := ratTextsRow.holds Try.pinned (OpenSpec.ofChange ratTextsWrong)

/-- 'plexuslaw02.RatLimits': WHATEVER THE INPUT: true; the input reads as it did. -/
def ratLimitsSpec : ChangeSpec := { name := "ratLimits", fn := fun _ => fun
  | [d1, d2, d3] => { results := [.lit (.bool true)], args := [d1, d2, d3] }
  | _ => none }
def ratLimitsRow : OpenClaim := { program := "ytieabeodommbiaa", sum := "96e27dfba8f0d852652016a665185d6879d25875970ed0101a6c65d112998165", func := "plexus/plexuslaw02.RatLimits", spec := "ratLimits", apart := false }
def RatLimitsSaid : Prop := ratLimitsRow.holds Try.pinned (OpenSpec.ofChange ratLimitsSpec)

/-- ITS FALSE NEIGHBOUR: 'it returns false'. Refute it at one input. -/
def ratLimitsWrong : ChangeSpec := { name := "ratLimits", fn := fun _ => fun
  | [d1, d2, d3] => { results := [.lit (.bool false)], args := [d1, d2, d3] }
  | _ => none }
def RatLimitsWrongFalsely : Prop := ratLimitsRow.holds Try.pinned (OpenSpec.ofChange ratLimitsWrong)

/- THE SECOND FORM. 'bulk': how many values and letters a reading holds, each counted each time it is reached (what is shared counts as often as it is met; a slice's spare places count too). A statement '..UptoSaid' is the law's where the arguments, and the package variables that the reading takes, are together of bulk at most 1048576: NARROWER than '..Said'. Prove '..Said' where nothing that the law and all that it calls make is longer than what came in: it says more and counts as full. Else prove '..UptoSaid'. A law counts once. -/
mutual
def uptoBulk {H : Type} : DataW H → Nat
  | .lit (.string bytes) => bytes.length + 1
  | .lit _ => 1
  | .nil => 1
  | .ptr d => uptoBulk d + 1
  | .slice elems spare => uptoBulkAll elems + uptoBulkAll spare + 1
  | .agg parts => uptoBulkAll parts + 1
  | .iface _ d => uptoBulk d + 1
  | .map entries => uptoBulkEntries entries + 1
  | .held _ => 1
def uptoBulkAll {H : Type} : List (DataW H) → Nat
  | [] => 0
  | d :: r => uptoBulk d + uptoBulkAll r
def uptoBulkEntries {H : Type} : List (Lit × DataW H) → Nat
  | [] => 0
  | x :: r => uptoBulkEntry x + uptoBulkEntries r
def uptoBulkEntry {H : Type} : Lit × DataW H → Nat
  | (.string bytes, d) => bytes.length + uptoBulk d + 1
  | (_, d) => uptoBulk d + 1
 end
def uptoSmall : (H : Type) → List (DataW H) → Bool := fun _ ds => decide (uptoBulkAll ds ≤ 1048576)
def OpenSpec.upto (s : _root_.Go.ChangeSpec) : _root_.Go.OpenSpec := { _root_.Go.OpenSpec.ofChange s with cond := some uptoSmall }

/-- 'plexuslaw02.RatMatchesReference', WHERE WHAT IT READS IS OF BULK AT MOST 1048576: true; the input reads as it did. -/
def ratMatchesReferenceUptoRow : OpenClaim := { program := "ytieabeodommbiaa", sum := "96e27dfba8f0d852652016a665185d6879d25875970ed0101a6c65d112998165", func := "plexus/plexuslaw02.RatMatchesReference", spec := "ratMatchesReference", recurses := true, apart := false, narrowed := true }
def RatMatchesReferenceUptoSaid : Prop := ratMatchesReferenceUptoRow.holds Try.pinned (OpenSpec.upto ratMatchesReferenceSpec)

/-- 'plexuslaw02.RatField', WHERE WHAT IT READS IS OF BULK AT MOST 1048576: true; the input reads as it did. -/
def ratFieldUptoRow : OpenClaim := { program := "ytieabeodommbiaa", sum := "96e27dfba8f0d852652016a665185d6879d25875970ed0101a6c65d112998165", func := "plexus/plexuslaw02.RatField", spec := "ratField", apart := false, narrowed := true }
def RatFieldUptoSaid : Prop := ratFieldUptoRow.holds Try.pinned (OpenSpec.upto ratFieldSpec)

/-- 'plexuslaw02.RatOrder', WHERE WHAT IT READS IS OF BULK AT MOST 1048576: true; the input reads as it did. -/
def ratOrderUptoRow : OpenClaim := { program := "ytieabeodommbiaa", sum := "96e27dfba8f0d852652016a665185d6879d25875970ed0101a6c65d112998165", func := "plexus/plexuslaw02.RatOrder", spec := "ratOrder", apart := false, narrowed := true }
def RatOrderUptoSaid : Prop := ratOrderUptoRow.holds Try.pinned (OpenSpec.upto ratOrderSpec)

/-- 'plexuslaw02.RatLowest', WHERE WHAT IT READS IS OF BULK AT MOST 1048576: true; the input reads as it did. -/
def ratLowestUptoRow : OpenClaim := { program := "ytieabeodommbiaa", sum := "96e27dfba8f0d852652016a665185d6879d25875970ed0101a6c65d112998165", func := "plexus/plexuslaw02.RatLowest", spec := "ratLowest", apart := false, narrowed := true }
def RatLowestUptoSaid : Prop := ratLowestUptoRow.holds Try.pinned (OpenSpec.upto ratLowestSpec)

/-- 'plexuslaw02.RatRounds', WHERE WHAT IT READS IS OF BULK AT MOST 1048576: true; the input reads as it did. -/
def ratRoundsUptoRow : OpenClaim := { program := "ytieabeodommbiaa", sum := "96e27dfba8f0d852652016a665185d6879d25875970ed0101a6c65d112998165", func := "plexus/plexuslaw02.RatRounds", spec := "ratRounds", apart := false, narrowed := true }
def RatRoundsUptoSaid : Prop := ratRoundsUptoRow.holds Try.pinned (OpenSpec.upto ratRoundsSpec)

/-- 'plexuslaw02.RatTexts', WHERE WHAT IT READS IS OF BULK AT MOST 1048576: true; the input reads as it did. -/
def ratTextsUptoRow : OpenClaim := { program := "ytieabeodommbiaa", sum := "96e27dfba8f0d852652016a665185d6879d25875970ed0101a6c65d112998165", func := "plexus/plexuslaw02.RatTexts", spec := "ratTexts", recurses := true, apart := false, narrowed := true }
def RatTextsUptoSaid : Prop := ratTextsUptoRow.holds Try.pinned (OpenSpec.upto ratTextsSpec)

/-- 'plexuslaw02.RatLimits', WHERE WHAT IT READS IS OF BULK AT MOST 1048576: true; the input reads as it did. -/
def ratLimitsUptoRow : OpenClaim := { program := "ytieabeodommbiaa", sum := "96e27dfba8f0d852652016a665185d6879d25875970ed0101a6c65d112998165", func := "plexus/plexuslaw02.RatLimits", spec := "ratLimits", apart := false, narrowed := true }
def RatLimitsUptoSaid : Prop := ratLimitsUptoRow.holds Try.pinned (OpenSpec.upto ratLimitsSpec)

end Rows
end Go.Proofs.Ytieabeodommbiaa
