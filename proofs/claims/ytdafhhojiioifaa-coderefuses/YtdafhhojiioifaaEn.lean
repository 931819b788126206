/- A list of integers as an argument. -/
import Derived.Test.YtdafhhojiioifaaDe
namespace Go.Proofs.Ytdafhhojiioifaa
open Go.ChangeShapes Go.WideShapes Go.ChangeAt Go.RowKit
set_option maxRecDepth 100000
set_option linter.unusedVariables false
set_option linter.unusedSimpArgs false
set_option linter.unusedSectionVars false

theorem u39i : Try.prog.underlying 39 = some (.slice 3) := by kernel_rfl
theorem u3i : Try.prog.underlying 3 = some (.int .i64) := by kernel_rfl
theorem cl3i : Try.prog.cellsOf 3 = 1 := by kernel_rfl
/-- integers as the law wants them, and as they read when the law has answered -/
structure ArgI {H : Type} (enc : TypeId × Value → H) (W : World) (v : Value) (d : DataW H) (p : List MemPlace) (Z : List Int) (l : Nat) (a : Option Addr) (c : Nat) : Prop where
 is : v = .slice a l c
 len : Z.length = l
 given : NI Z W (.slice a l c)
 shut : ∀ W', Below W.heap.size W W' → ∀ sp : Nat → Bool, (∀ q ∈ p, sp q.block = true) → DataW.Trod enc Try.prog W' 0 sp true 39 v d p
theorem argI {H : Type} {enc : TypeId × Value → H} {W : World} {b0 : Nat} {v : Value} {d : DataW H} {p : List MemPlace}
  (hv : Value.okWide Try.prog W .any b0 39 v) (h : DataW.Trod enc Try.prog W 0 (fun _ => true) true 39 v d p) : ∃ Z l a c, ArgI enc W v d p Z l a c := by
 rcases Go.Ev.open_sl u39i u3i cl3i hv h with ⟨rfl, rfl, rfl⟩ | ⟨b, off, len, cap, zs, rfl, hb, hl, hm, hz, rfl, rfl, hcell, hw, c, e', fz, hh, hcs⟩
 ·exact ⟨[], 0, none, 0, rfl, rfl, .inl ⟨rfl, rfl⟩, fun W' _ sp _ => Go.Ev.shut_nil u39i⟩
 ·have hlen : (zs.take len).length = len := by rw [List.length_take]; omega
  refine ⟨zs.take len, len, some ⟨b, off, none⟩, cap, rfl, hlen, .inr ⟨b, off, cap, by rw [hlen], by rw [hlen]; exact hl, hb, fun t ht => ?_⟩, fun W' hg sp hsp => Go.Ev.shut_sl u39i u3i cl3i hb hl hm hz hcell hw hg hsp⟩
  rw [hlen] at ht
  rw [hcell t (by omega), List.getD_eq_getElem?_getD, List.getD_eq_getElem?_getD, List.getElem?_take_of_lt ht]
end Go.Proofs.Ytdafhhojiioifaa
