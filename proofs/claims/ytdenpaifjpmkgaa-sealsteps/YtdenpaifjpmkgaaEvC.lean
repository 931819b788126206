/- Worlds: rows of cells, loads, stores; the relation of a state and a world; a step's frame. -/
import Derived.Test.YtdenpaifjpmkgaaEvB
namespace Go.Ev
open Go.RowKit (Below)
set_option linter.unusedSectionVars false
variable [Rho]

def upd (w : World) (b : Nat) (o : Obj) : World := { w with heap := w.heap.setIfInBounds b o }

theorem upd_heap (w : World) (b : Nat) (o : Obj) (r : Nat) : (upd w b o).heap[r]? = if b = r ∧ b < w.heap.size then some o else w.heap[r]? := by
  simp only [upd, Array.getElem?_setIfInBounds]
  by_cases h : b = r
  · subst h
    by_cases h2 : b < w.heap.size
    · simp [h2]
    · simp [h2]
  · simp [h]

theorem upd_size (w : World) (b : Nat) (o : Obj) : (upd w b o).heap.size = w.heap.size := by simp [upd]

theorem lt_of_some {w : World} {b : Nat} {o : Obj} (h : w.heap[b]? = some o) : b < w.heap.size := (Array.getElem?_eq_some_iff.1 h).1

theorem cell_of {w : World} {b off : Nat} {c : Array Value} {e : TypeId} {fz : Nat × Nat} (h : w.heap[b]? = some (.cells c e fz)) : w.cell? ⟨b, off, none⟩ = c[off]? := by
  simp [World.cell?, h]

theorem frozen_of {w : World} {b off : Nat} {c : Array Value} {e : TypeId} (h : w.heap[b]? = some (.cells c e (0, 0))) : w.frozen? ⟨b, off, none⟩ = false := by
  simp [World.frozen?, h]

theorem setCell_of {w : World} {b off : Nat} {c : Array Value} {e : TypeId} {fz : Nat × Nat} (h : w.heap[b]? = some (.cells c e fz)) (v : Value) :
    w.setCell ⟨b, off, none⟩ v = upd w b (.cells (c.setIfInBounds off v) e fz) := by
  have hb := lt_of_some h
  have hh : w.heap[b] = .cells c e fz := by
    have := Array.getElem?_eq_getElem hb; rw [h] at this; exact (Option.some.inj this).symm
  simp only [World.setCell, upd]
  congr 1
  apply Array.ext
  · simp
  · intro i h1 h2
    simp only [Array.getElem_modify]
    by_cases hi : b = i
    · subst hi; simp [hh]
    · rw [Array.getElem_setIfInBounds_ne (by simpa using h1) hi]; simp [hi]

theorem upd_upd (w : World) (b : Nat) (o p : Obj) : upd (upd w b o) b p = upd w b p := by
  simp [upd, Array.setIfInBounds_setIfInBounds]

theorem run_typeInfo' {P : Program} {t : TypeId} {i : TypeInfo} (h : P.info? t = some i) (w : World) : (typeInfo t).run P w = .ok i w := by
  simp [typeInfo, h]

theorem run_sizeOf' {P : Program} {t : TypeId} {n : Nat} (h : sizeA P t = some n) (w : World) : (sizeOf t).run P w = .ok n w := by
  simp only [sizeA, Option.map_eq_some_iff] at h
  obtain ⟨i, hi, rfl⟩ := h
  simp [sizeOf, run_typeInfo' hi]

theorem run_isAgg' {P : Program} {t : TypeId} {b : Bool} (h : isAggA P t = some b) (w : World) : (isAgg t).run P w = .ok b w := by
  simp only [isAggA] at h
  split at h <;> simp at h <;> subst h <;> rename_i hu
  · simp [isAgg, run_underlying hu]
  · simp [isAgg, run_underlying hu]
  · rename_i d h1 h2
    simp only [isAgg, Sem.run_bind, run_underlying hu, Result.andThen_ok]
    rfl

theorem addr_add (b off n : Nat) : (⟨b, off, none⟩ : Addr).add n = ⟨b, off + n, none⟩ := by
  unfold Addr.add; split
  · rename_i h; subst h; rfl
  · rfl

theorem run_loadCellsFrom {P : Program} {w : World} {b off : Nat} {c : Array Value} {e : TypeId} {fz : Nat × Nat} (h : w.heap[b]? = some (.cells c e fz)) :
    ∀ (n i : Nat) (acc : Array Value), off + i + n ≤ c.size → (loadCellsFrom ⟨b, off, none⟩ i n acc).run P w = .ok (acc ++ ((c.toList.drop (off + i)).take n).toArray) w := by
  intro n
  induction n with
  | zero => intro i acc _; simp [loadCellsFrom]
  | succ n ih =>
    intro i acc hle
    have hlt : off + i < c.size := by omega
    simp only [loadCellsFrom, Sem.run_bind, run_load, addr_add, cell_of h, Array.getElem?_eq_getElem hlt, Result.andThen_ok]
    rw [ih (i + 1) _ (by omega)]
    congr 1
    have hd : c.toList.drop (off + i) = c[off + i] :: c.toList.drop (off + (i + 1)) := by
      rw [List.drop_eq_getElem_cons (by simpa using hlt)]
      rfl
    rw [hd, List.take_succ_cons, Array.push_eq_append, Array.append_assoc]
    congr 1
    simp

theorem run_loadCells {P : Program} {w : World} {b off n : Nat} {c : Array Value} {e : TypeId} {fz : Nat × Nat} (h : w.heap[b]? = some (.cells c e fz)) (hle : off + n ≤ c.size) :
    (loadCells ⟨b, off, none⟩ n).run P w = .ok ((c.toList.drop off).take n).toArray w := by
  have := run_loadCellsFrom (P := P) h (off := off) n 0 #[] (by omega)
  simpa [loadCells] using this

/-- the row with vs written at off -/
def pasteV (c : Array Value) (off : Nat) (vs : List Value) : Array Value := (c.toList.take off ++ (vs ++ c.toList.drop (off + vs.length))).toArray

theorem list_paste_step {α : Type} {l : List α} {k : Nat} (h : k < l.length) (v : α) (vs : List α) :
    (l.set k v).take (k + 1) ++ (vs ++ (l.set k v).drop (k + 1 + vs.length)) = l.take k ++ ((v :: vs) ++ l.drop (k + (v :: vs).length)) := by
  have e1 : (l.set k v).take (k + 1) = l.take k ++ [v] := by
    rw [List.take_succ_eq_append_getElem (by simpa using h), List.getElem_set_self]
    congr 1
    rw [List.take_set_of_le (Nat.le_refl _)]
  have e2 : (l.set k v).drop (k + 1 + vs.length) = l.drop (k + (v :: vs).length) := by
    rw [List.drop_set_of_lt (by omega)]
    rw [List.length_cons]; congr 1; omega
  rw [e1, e2]; simp

theorem pasteV_step {c : Array Value} {k : Nat} (h : k < c.size) (v : Value) (vs : List Value) : pasteV (c.setIfInBounds k v) (k + 1) vs = pasteV c k (v :: vs) := by
  simp only [pasteV, Array.toList_setIfInBounds]
  rw [list_paste_step (by simpa using h)]

theorem run_storeCells {P : Program} {e : TypeId} {b off : Nat} : ∀ (vs : List Value) (i : Nat) (w : World) (c : Array Value), (∀ v ∈ vs, v.oneCell' = true) →
    w.heap[b]? = some (.cells c e (0, 0)) → off + i + vs.length ≤ c.size → (storeCells ⟨b, off, none⟩ vs i).run P w = .ok () (upd w b (.cells (pasteV c (off + i) vs) e (0, 0))) := by
  intro vs
  induction vs with
  | nil =>
    intro i w c _ h _
    have hu : upd w b (.cells (pasteV c (off + i) []) e (0, 0)) = w := by
      have hb := lt_of_some h
      have hp : pasteV c (off + i) [] = c := by simp [pasteV]
      rw [hp]
      have : w.heap.setIfInBounds b (.cells c e (0, 0)) = w.heap := by
        apply Array.ext
        · simp
        · intro j h1 h2
          by_cases hj : b = j
          · subst hj
            rw [Array.getElem_setIfInBounds_self]
            have := Array.getElem?_eq_getElem hb; rw [h] at this; exact Option.some.inj this
          · rw [Array.getElem_setIfInBounds_ne (by simpa using h1) hj]
      simp only [upd, this]
    rw [hu]; rfl
  | cons v vs ih =>
    intro i w c hv h hle
    simp only [List.length_cons] at hle
    have hlt : off + i < c.size := by omega
    have hs : (store ((⟨b, off, none⟩ : Addr).add i) v).run P w = .ok () (upd w b (.cells (c.setIfInBounds (off + i) v) e (0, 0))) := by
      rw [addr_add, run_store P w _ v .plain (hv v (by simp)), cell_of h, Array.getElem?_eq_getElem hlt]
      simp only [frozen_of h, setCell_of h]
      rfl
    have h2 : (upd w b (.cells (c.setIfInBounds (off + i) v) e (0, 0))).heap[b]? = some (.cells (c.setIfInBounds (off + i) v) e (0, 0)) := by
      rw [upd_heap]; simp [lt_of_some h]
    simp only [storeCells, Sem.run_bind, hs, Result.andThen_ok]
    rw [ih (i + 1) _ _ (fun x hx => hv x (by simp [hx])) h2 (by simp; omega), upd_upd]
    rw [show off + (i + 1) = off + i + 1 from by omega, pasteV_step hlt]

end Go.Ev
