/- A slice of digests as an argument of a law. -/
import Derived.Test.YtdenpaifjpmkgaaTk0
import Derived.Test.YtdenpaifjpmkgaaEvSl
import Derived.Test.YtdenpaifjpmkgaaEvK2
import Derived.WalkKit
import Derived.ProofKit
import Derived.OpenShut
namespace Go.Proofs.Ytdenpaifjpmkgaa
open Go.ChangeShapes Go.WideShapes Go.ChangeAt Go.RowKit
set_option linter.unusedVariables false

theorem own : ownKnob Try.prog.godebug = none := by kernel_rfl
theorem u25 : Try.prog.underlying 25 = some (.slice 24) := by kernel_rfl
theorem u24 : Try.prog.underlying 24 = some (.int .u64) := by kernel_rfl
theorem u53 : Try.prog.underlying 53 = some (.array 2 50) := by kernel_rfl
theorem u51 : Try.prog.underlying 51 = some (.array 3 50) := by kernel_rfl
theorem u50 : Try.prog.underlying 50 = some (.int .u16) := by kernel_rfl
theorem c53 : Try.prog.cellsOf 53 = 2 := by kernel_rfl
theorem c51 : Try.prog.cellsOf 51 = 3 := by kernel_rfl
theorem c50 : Try.prog.cellsOf 50 = 1 := by kernel_rfl
theorem c24 : Try.prog.cellsOf 24 = 1 := by kernel_rfl

theorem bdU {a : Int} (h : (Lit.int .u64 a).wf = true) : u64 a := by
  simp only [Lit.wf, Bool.and_eq_true, decide_eq_true_eq] at h
  simp [IntKind.min, IntKind.max, IntKind.bits, IntKind.signed] at h
  unfold u64
  omega
theorem bd16 {a : Int} (h : (Lit.int .u16 a).wf = true) : 0 ≤ a ∧ a ≤ 65535 := by
  simp only [Lit.wf, Bool.and_eq_true, decide_eq_true_eq] at h
  simp [IntKind.min, IntKind.max, IntKind.bits, IntKind.signed] at h
  omega

/-- a slice as the law wants it, and as it reads when the law has answered -/
structure ArgT {H : Type} (enc : TypeId × Value → H) (W : World) (v : Value) (d : DataW H) (p : List MemPlace) (off cap : Nat) (l : List Int) (n : Bool) : Prop where
  u : ∀ x ∈ l, u64 x
  len : l.length ≤ 9223372036854775807
  given : GivenT W off cap l n v
  shut : ∀ W', Below W.heap.size W W' → ∀ sp : Nat → Bool, (∀ q ∈ p, sp q.block = true) → DataW.Trod enc Try.prog W' 0 sp true 25 v d p

theorem argT {H : Type} {enc : TypeId × Value → H} {W : World} {b0 : Nat} {v : Value} {d : DataW H} {p : List MemPlace}
    (hv : Value.okWide Try.prog W .any b0 25 v) (h : DataW.Trod enc Try.prog W 0 (fun _ => true) true 25 v d p) : ∃ off cap l n, ArgT enc W v d p off cap l n := by
  rcases Go.Ev.open_sl u25 u24 c24 hv h with ⟨rfl, rfl, rfl⟩ | ⟨b, off, len, cap, zs, rfl, hb, hl, hm, hz, rfl, rfl, hcell, hw, c, e', fz, hh, hcs⟩
  · exact ⟨0, 0, [], true, fun x hx => by simp at hx, by simp, .nil rfl, fun W' _ sp _ => Go.Ev.shut_nil u25⟩
  · have hlen : (zs.take len).length = len := by rw [List.length_take]; omega
    have hmax : cap ≤ 9223372036854775807 := Nat.le_trans hm (by decide)
    refine ⟨off, cap, zs.take len, false, fun x hx => bdU (hw x (List.mem_of_mem_take hx)), by omega, ?_, fun W' hg sp hsp => Go.Ev.shut_sl u25 u24 c24 hb hl hm hz hcell hw hg hsp⟩
    have : GivenT W off cap (zs.take len) false (.slice (some ⟨b, off, none⟩) (zs.take len).length cap) := .at (c := c) {
      cap := by omega
      blk := ⟨e', fz, hh⟩
      u := fun x hx => bdU (hw x (List.mem_of_mem_take hx))
      cell := fun i hi => by
        rw [hcs i (by omega)]
        congr 2
        simp [List.getD, show i < len by omega] }
    rw [hlen] at this
    exact this
end Go.Proofs.Ytdenpaifjpmkgaa
