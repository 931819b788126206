/- A []uint16 as an argument: how long it may be; an array of two bytes. -/
import Derived.Test.YteeofijcndgbfaaTt
import Derived.Test.YteeofijcndgbfaaEvK2
import Derived.SizedLaws
namespace Go.Proofs.Yteeofijcndgbfaa
open Go.ChangeShapes Go.WideShapes Go.ChangeAt Go.RowKit
set_option linter.unusedVariables false
set_option maxRecDepth 100000
theorem by70 : Try.prog.bytesOf 70 = 2 := by kernel_rfl
theorem u69 : Try.prog.underlying 69 = some (.array 2 5) := by kernel_rfl
theorem cl69 : Try.prog.cellsOf 69 = 2 := by kernel_rfl
/-- where it lies, and its room -/
theorem argS {H : Type} {enc : TypeId × Value → H} {W : World} {b0 : Nat} {v : Value} {d : DataW H} {p : List MemPlace}
  (hv : Value.okWide Try.prog W .any b0 22 v) (h : DataW.Trod enc Try.prog W 0 (fun _ => true) true 22 v d p) :
  ∃ l a c, ArgN enc W v d p l a c ∧ ((a = none ∧ l = 0 ∧ c = 0) ∨ ∃ b o, a = some ⟨b, o, none⟩ ∧ b < W.heap.size) ∧
   ∀ (ts : List TypeId) (ds : List (DataW H)) (j : Nat), (DataW.weightsEach Try.prog ts ds).all (· ≤ reachBytes) = true → ts[j]? = some 22 → ds[j]? = some d → l * 2 ≤ reachBytes := by
 rcases Go.Ev.open_sl u22 u70 cl70 hv h with ⟨rfl, rfl, rfl⟩ | ⟨b, off, len, cap, zs, rfl, hb, hl, hm, hz, rfl, rfl, hcell, hw, c, e', fz, hh, hcs⟩
 ·exact ⟨0, none, 0, ⟨rfl, by simp, .inl ⟨rfl, none, 0, rfl⟩, fun W' _ sp _ => Go.Ev.shut_nil u22⟩, .inl ⟨rfl, rfl, rfl⟩, fun _ _ _ _ _ _ => by simp⟩
 ·refine ⟨len, some ⟨b, off, none⟩, cap, ⟨rfl, by omega, .inr ⟨b, off, cap, rfl, hb, fun t ht => ?_⟩, fun W' hg sp hsp => Go.Ev.shut_sl u22 u70 cl70 hb hl hm hz hcell hw hg hsp⟩, .inr ⟨b, off, rfl, hb⟩, fun ts ds j h1 h2 h3 => ?_⟩
  ·have ht2 : t < zs.length := by omega
   obtain ⟨n, hn, hn2⟩ := bd16 (hw zs[t] (List.getElem_mem _))
   refine ⟨n, hn2, ?_⟩
   rw [hcell t ht2, List.getD_eq_getElem?_getD, List.getElem?_eq_getElem ht2, Option.getD_some, hn]
  ·have := sized_slice h1 h2 h3 u22
   rw [by70] at this
   simp only [lits, List.length_map, List.length_take, List.length_drop] at this
   omega
end Go.Proofs.Yteeofijcndgbfaa
