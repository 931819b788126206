/- A slice of integers as an argument. -/
import Derived.ChangeSlices
import Derived.WalkKit
import Derived.ProofKit
import Derived.OpenShut
import Derived.Below
namespace Go.Ev
open Go.ChangeShapes Go.WideShapes Go.ChangeAt Go.RowKit
set_option linter.unusedVariables false

/-- a slice: the block that it lies in -/
structure SlIn (w : World) (k : IntKind) (b off len cap : Nat) (l : List Int) : Prop where
 cap : l.length ≤ cap
 len : l.length = len
 blk : ∃ c e fz, w.heap[b]? = some (.cells c e fz) ∧ ∀ i, i < l.length → c[off + i]? = some (.int k (l.getD i 0))

section
variable {H : Type} {enc : TypeId × Value → H} {P : Program} {w : World}
theorem open_sl {b0 : Nat} {t e : TypeId} {k : IntKind} {v : Value} {d : DataW H} {p : List MemPlace} (ht : P.underlying t = some (.slice e)) (he : P.underlying e = some (.int k)) (hc : P.cellsOf e = 1)
  (hv : Value.okWide P w .any b0 t v) (h : DataW.Trod enc P w 0 (fun _ => true) true t v d p) :
  (v = .slice none 0 0 ∧ d = .nil ∧ p = []) ∨ ∃ (b off len cap : Nat) (zs : List Int), v = .slice (some ⟨b, off, none⟩) len cap ∧ b < w.heap.size ∧ len ≤ cap ∧ cap ≤ maxLen ∧ zs.length = cap ∧
   d = .slice (lits k (zs.take len)) (lits k (zs.drop len)) ∧ p = MemPlace.row ⟨b, off, none⟩ zs.length ∧ (∀ i, i < zs.length → w.cell? ⟨b, off + i, none⟩ = some (.int k (zs.getD i 0))) ∧
   (∀ n ∈ zs, (Lit.int k n).wf = true) ∧ ∃ c e fz, w.heap[b]? = some (.cells c e fz) ∧ ∀ i, i < zs.length → c[off + i]? = some (.int k (zs.getD i 0)) := by
 obtain ⟨a, len, cap, rfl⟩ := okWide_slice ht hv
 obtain ⟨fuel, hf⟩ := h
 rcases open_ints ht he hc hf with ⟨hcs, hx⟩ | ⟨a', len', cap', zs, hcs, hb, hl, hm, hz, hx, hcell, hw⟩
 ·left
  simp only [Value.cells] at hcs
  simp only [Prod.mk.injEq] at hx
  exact ⟨by simpa using hcs, hx.1, hx.2⟩
 ·right
  have hcs' : Value.slice a len cap = .slice (some a') len' cap' := by simpa [Value.cells] using hcs
  obtain ⟨rfl, rfl, rfl⟩ := Value.slice.inj hcs'
  simp only [if_true] at hz
  have hv' : Cell.ok P w .any b0 t (.slice (some a') len cap) := by simpa [Value.okWide, ht, Cell.okWide] using hv
  simp only [Cell.ok, ht] at hv'
  obtain ⟨_, _, _, hs, row, cells, hsh, _⟩ := hv'
  obtain ⟨b, off, sp⟩ := a'
  obtain rfl : sp = none := hs
  simp only [Prod.mk.injEq] at hx
  have hblk : ∃ c e fz, w.heap[b]? = some (.cells c e fz) := by
   unfold World.shape? at hsh
   split at hsh
   ·rename_i c e fz hh; exact ⟨_, _, _, hh⟩
   ·cases hsh
  obtain ⟨c, e', fz, hh⟩ := hblk
  have hcell' : ∀ i, i < zs.length → w.cell? ⟨b, off + i, none⟩ = some (.int k (zs.getD i 0)) := fun i hi => by have h1 := hcell i hi; rw [add_plain] at h1; exact h1
  refine ⟨b, off, len, cap, zs, rfl, ?_, hl, hm, hz, hx.1, hx.2, hcell', hw, c, e', fz, hh, fun i hi => ?_⟩
  ·exact (Array.getElem?_eq_some_iff.1 hh).1
  ·have := hcell' i hi
   unfold World.cell? at this
   simpa [hh] using this

theorem shut_sl {w' : World} {t e : TypeId} {k : IntKind} {b off len cap : Nat} {zs : List Int} {sp : Nat → Bool} (ht : P.underlying t = some (.slice e)) (he : P.underlying e = some (.int k)) (hc : P.cellsOf e = 1)
  (hb : b < w.heap.size) (hl : len ≤ cap) (hm : cap ≤ maxLen) (hz : zs.length = cap) (hcell : ∀ i, i < zs.length → w.cell? ⟨b, off + i, none⟩ = some (.int k (zs.getD i 0))) (hw : ∀ n ∈ zs, (Lit.int k n).wf = true)
  (hg : Below w.heap.size w w') (hsp : ∀ q ∈ MemPlace.row ⟨b, off, none⟩ zs.length, sp q.block = true) :
  DataW.Trod enc P w' 0 sp true t (.slice (some ⟨b, off, none⟩) len cap) (.slice (lits k (zs.take len)) (lits k (zs.drop len))) (MemPlace.row ⟨b, off, none⟩ zs.length) := by
 refine ⟨2, shut_ints' 0 ht he hc (Nat.zero_le _) hl hm ?_ (fun i hi => by rw [hg.cell hb]; exact hcell i hi) hw⟩
 by_cases h0 : cap = 0
 ·split <;> omega
 ·have : sp b = true := hsp (.cell b off) (MemPlace.mem_row.2 ⟨0, by omega, by simp⟩)
  rw [if_pos this]; exact hz
theorem shut_nil {w' : World} {t e : TypeId} {sp : Nat → Bool} (ht : P.underlying t = some (.slice e)) : DataW.Trod enc P w' 0 sp true t (.slice none 0 0) .nil [] := by
 refine ⟨1, ?_⟩
 rw [DataW.trod_step]
 unfold DataW.trodStep
 simp [ht, Value.cells]
end
end Go.Ev
