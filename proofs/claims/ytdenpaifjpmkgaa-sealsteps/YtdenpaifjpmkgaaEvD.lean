/- The relation of a state and a world; transitions. -/
import Derived.Test.YtdenpaifjpmkgaaEvC
namespace Go.Ev
open Go.RowKit (Below)
set_option linter.unusedSectionVars false
variable [Rho]

theorem nthD_eq {α : Type} (d : α) : ∀ (l : List α) (n : Nat), nthD d l n = (l[n]?).getD d
  | [], n => by simp [nthD]
  | a :: l, 0 => by simp [nthD]
  | a :: l, n + 1 => by simp [nthD, nthD_eq d l n]

theorem setNth_eq {α : Type} (v : α) : ∀ (l : List α) (n : Nat), setNth v l n = l.set n v
  | [], n => by simp [setNth]
  | a :: l, 0 => by simp [setNth]
  | a :: l, n + 1 => by simp [setNth, setNth_eq v l n]

theorem blockAt_some {s : St} {b : Nat} {A : ABlk} : blockAt s b = some A ↔ s.heap[b]? = some (some A) := by
  simp only [blockAt, nthD_eq]
  cases s.heap[b]? with
  | none => simp
  | some o => simp

def LStat.rel : LStat → LoopState → Option Code → Prop
  | .ready, .ready, none => True
  | .busy, .busy, none => True
  | .done c, .done, some c' => c = c'
  | .over, _, _ => True
  | _, _, _ => False

structure WR (B : Nat) (π : Inj) (lm : List Nat) (s : St) (w : World) : Prop where
  dom : ∀ i x, π i = some x → i < s.heap.length
  blk : ∀ i A, s.heap[i]? = some (some A) → ∃ b n c fz, π i = some (b, n) ∧ w.heap[b]? = some (.cells c A.elem fz) ∧ c.size = n ∧
    (A.ro = false → fz = (0, 0) ∧ B ≤ b) ∧ LR π lm A.cells (c.toList.take A.cells.length)
  inj : ∀ i j A A' b n m, s.heap[i]? = some (some A) → s.heap[j]? = some (some A') → A.ro = false → π i = some (b, n) → π j = some (b, m) → i = j
  lsz : lm.length = s.loops.length
  linj : ∀ (l l' L : Nat), lm[l]? = some L → lm[l']? = some L → l = l'
  loop : ∀ (l : Nat) (r : ALoop), s.loops[l]? = some r → ∃ (L : Nat) (fn : FuncId) (D : Nat) (ts : Array Value) (st : LoopState) (pd : Option Code), lm[l]? = some L ∧
    w.heap[L]? = some (.loop { state := st, pending := pd, fn, tmps := ts, params := r.params.toArray, assign := r.assign, body := r.body, defers := D }) ∧
    r.stat.rel st pd ∧ LR π lm r.tmps ts.toList

/-- From one world to a later one. -/
structure Tr (π π' : Inj) (lm lm' : List Nat) (s s' : St) (w w' : World) : Prop where
  os : w'.os = w.os
  tape : w'.tape = w.tape
  output : w'.output = w.output
  size : w.heap.size ≤ w'.heap.size
  keep : ∀ (r : Nat), r < w.heap.size → (∀ i A n, s.heap[i]? = some (some A) → A.ro = false → π i ≠ some (r, n)) → r ∉ lm → w'.heap[r]? = w.heap[r]?
  low : ∀ i A b n, s.heap[i]? = some (some A) → i < s'.lo → π i = some (b, n) → w'.heap[b]? = w.heap[b]?
  same : ∀ i, i < s.heap.length → i < s'.lo → s'.heap[i]? = s.heap[i]?
  lkeep : s'.nd = s.nd → ∀ (L : Nat), L ∈ lm → w'.heap[L]? = w.heap[L]?
  lo_le : s'.lo ≤ s.lo
  nd_le : s.nd ≤ s'.nd
  le : π.le π'
  old : ∀ i, i < s.heap.length → π' i = π i
  len : s.heap.length ≤ s'.heap.length
  liv : ∀ i A', i < s.heap.length → s'.heap[i]? = some (some A') → ∃ A, s.heap[i]? = some (some A) ∧ A.ro = A'.ro
  new : ∀ i b n, s.heap.length ≤ i → π' i = some (b, n) → w.heap.size ≤ b ∨ ∃ j A m, s.heap[j]? = some (some A) ∧ A.ro = false ∧ π j = some (b, m)
  lmx : ∃ t, lm' = lm ++ t ∧ ∀ (L : Nat), L ∈ t → w.heap.size ≤ L

theorem Tr.refl (π : Inj) (lm : List Nat) {s : St} (w : World) (hd : ∀ i x, π i = some x → i < s.heap.length) : Tr π π lm lm s s w w where
  os := rfl
  tape := rfl
  output := rfl
  size := Nat.le_refl _
  keep := fun _ _ _ _ => rfl
  low := fun _ _ _ _ _ _ _ => rfl
  same := fun _ _ _ => rfl
  lkeep := fun _ _ _ => rfl
  lo_le := Nat.le_refl _
  nd_le := Nat.le_refl _
  le := Inj.le_refl _
  old := fun _ _ => rfl
  len := Nat.le_refl _
  liv := fun i A' _ h => ⟨A', h, rfl⟩
  new := fun i b n hi h => absurd (hd _ _ h) (by omega)
  lmx := ⟨[], by simp, by simp⟩

theorem Tr.lmono {π π' : Inj} {lm lm' : List Nat} {s s' : St} {w w' : World} (h : Tr π π' lm lm' s s' w w') (i x : Nat) (hi : lm[i]? = some x) : lm'[i]? = some x := by
  obtain ⟨t, rfl, _⟩ := h.lmx
  rw [List.getElem?_append_left (List.getElem?_eq_some_iff.1 hi).1]; exact hi

theorem Tr.vr {π π' : Inj} {lm lm' : List Nat} {s s' : St} {w w' : World} (h : Tr π π' lm lm' s s' w w') {v : AV} {c : Value} (hv : VR π lm v c) : VR π' lm' v c :=
  hv.mono h.le h.lmono

theorem Tr.lr {π π' : Inj} {lm lm' : List Nat} {s s' : St} {w w' : World} (h : Tr π π' lm lm' s s' w w') {l : List AV} {vs : List Value} (hv : LR π lm l vs) : LR π' lm' l vs :=
  hv.mono h.le h.lmono

theorem Tr.trans {π π' π'' : Inj} {lm lm' lm'' : List Nat} {s s' s'' : St} {w w' w'' : World}
    (h : Tr π π' lm lm' s s' w w') (k : Tr π' π'' lm' lm'' s' s'' w' w'') : Tr π π'' lm lm'' s s'' w w'' := by
  obtain ⟨t1, e1, g1⟩ := h.lmx
  obtain ⟨t2, e2, g2⟩ := k.lmx
  have hlen := h.len
  have hsz := h.size
  refine ⟨k.os.trans h.os, k.tape.trans h.tape, k.output.trans h.output, Nat.le_trans h.size k.size, ?_, ?_, ?_, ?_, Nat.le_trans k.lo_le h.lo_le, Nat.le_trans h.nd_le k.nd_le,
    h.le.trans k.le, ?_, Nat.le_trans h.len k.len, ?_, ?_, ?_⟩
  · intro r hr hi hl
    rw [← h.keep r hr hi hl]
    refine k.keep r (by omega) ?_ ?_
    · intro i A n hA hro hp
      by_cases hlt : i < s.heap.length
      · obtain ⟨A0, hA0, hr0⟩ := h.liv i A hlt hA
        rw [h.old i hlt] at hp
        exact hi i A0 n hA0 (hr0.trans hro) hp
      · rcases h.new i r n (by omega) hp with h1 | ⟨j, A0, m, h1, h2, h3⟩
        · omega
        · exact hi j A0 m h1 h2 h3
    · rw [e1]; intro hm
      rcases List.mem_append.1 hm with h1 | h1
      · exact hl h1
      · have := g1 r h1; omega
  · intro i A b n hA hlo hp
    have hlt : i < s.heap.length := (List.getElem?_eq_some_iff.1 hA).1
    have hl1 : i < s'.lo := Nat.lt_of_lt_of_le hlo k.lo_le
    rw [← h.low i A b n hA hl1 hp]
    exact k.low i A b n (by rw [h.same i hlt hl1]; exact hA) hlo (h.le _ _ hp)
  · intro i hlt hlo
    have hl1 : i < s'.lo := Nat.lt_of_lt_of_le hlo k.lo_le
    rw [← h.same i hlt hl1]
    exact k.same i (by omega) hlo
  · intro hnd L hL
    have a := h.nd_le
    have b := k.nd_le
    have hL' : L ∈ lm' := by rw [e1]; exact List.mem_append_left _ hL
    rw [k.lkeep (by omega) L hL', h.lkeep (by omega) L hL]
  · intro i hi
    rw [k.old i (by omega), h.old i hi]
  · intro i A' hi hA'
    obtain ⟨A1, h1, r1⟩ := k.liv i A' (by omega) hA'
    obtain ⟨A0, h0, r0⟩ := h.liv i A1 hi h1
    exact ⟨A0, h0, r0.trans r1⟩
  · intro i b n hi hp
    by_cases hlt : i < s'.heap.length
    · rw [k.old i hlt] at hp
      exact h.new i b n hi hp
    · rcases k.new i b n (by omega) hp with h1 | ⟨j, A, m, h1, h2, h3⟩
      · exact .inl (by omega)
      · by_cases hj : j < s.heap.length
        · obtain ⟨A0, hA0, hr0⟩ := h.liv j A hj h1
          rw [h.old j hj] at h3
          exact .inr ⟨j, A0, m, hA0, hr0.trans h2, h3⟩
        · exact h.new j b m (by omega) h3
  · exact ⟨t1 ++ t2, by rw [e2, e1, List.append_assoc], fun L hL => by
      rcases List.mem_append.1 hL with h1 | h1
      · exact g1 L h1
      · have := g2 L h1; omega⟩

end Go.Ev
