/- Stores and new rows; operations that do nothing with memory, or read it. -/
import Derived.Test.YtdenpaifjpmkgaaEvD
namespace Go.Ev
open Go.RowKit (Below)
set_option linter.unusedSectionVars false
variable [Rho]

variable {P : Program} {B : Nat} {π : Inj} {lm : List Nat} {s : St} {w : World}

theorem AV.one_rel {v : AV} {c : Value} (h : v.one = true) (r : VR π lm v c) : c.oneCell' = true := by
  cases r <;> simp [AV.one] at h <;> rfl

theorem all_one {l : List AV} {vs : List Value} (h : l.all AV.one = true) (r : LR π lm l vs) : ∀ v ∈ vs, v.oneCell' = true := by
  intro v hv
  obtain ⟨i, hi, rfl⟩ := List.getElem_of_mem hv
  have hi' : i < l.length := r.1 ▸ hi
  exact AV.one_rel (List.all_eq_true.1 h _ (List.getElem_mem hi')) (r.2 i hi' hi)

theorem paste_some {l : List AV} {off : Nat} {vs cs : List AV} (h : paste l off vs = some cs) :
    off + vs.length ≤ l.length ∧ cs = l.take off ++ (vs ++ l.drop (off + vs.length)) ∧ cs.length = l.length := by
  unfold paste at h
  split at h
  · rename_i hle
    have := Option.some.inj h
    subst this
    exact ⟨hle, rfl, by simp; omega⟩
  · cases h

theorem take_paste {α : Type} {l vs : List α} {off m : Nat} (h1 : off + vs.length ≤ m) :
    (l.take off ++ (vs ++ l.drop (off + vs.length))).take m = (l.take m).take off ++ (vs ++ (l.take m).drop (off + vs.length)) ∨ l.length < m := by
  by_cases hl : l.length < m
  · exact .inr hl
  · left
    apply List.ext_getElem?
    intro j
    rw [List.getElem?_take]
    have lt1 : (l.take off).length = off := by simp; omega
    have lt2 : ((l.take m).take off).length = off := by simp; omega
    by_cases hj : j < off
    · rw [if_pos (by omega), List.getElem?_append_left (by omega), List.getElem?_append_left (by omega), List.getElem?_take_of_lt hj, List.getElem?_take_of_lt hj, List.getElem?_take_of_lt (by omega)]
    · rw [List.getElem?_append_right (l₁ := (l.take m).take off) (by omega), lt2, List.getElem?_append_right (by omega), lt1]
      by_cases hv : j - off < vs.length
      · rw [if_pos (by omega), List.getElem?_append_left hv, List.getElem?_append_left hv]
      · rw [List.getElem?_append_right (by omega), List.getElem?_append_right (by omega), List.getElem?_drop, List.getElem?_drop]
        have e : off + vs.length + (j - off - vs.length) = j := by omega
        rw [e, List.getElem?_take]

theorem WR.at (h : WR B π lm s w) {i : Nat} {A : ABlk} (hA : s.heap[i]? = some (some A)) {b n : Nat} (hp : π i = some (b, n)) :
    ∃ c fz, w.heap[b]? = some (.cells c A.elem fz) ∧ c.size = n ∧ (A.ro = false → fz = (0, 0) ∧ B ≤ b) ∧ LR π lm A.cells (c.toList.take A.cells.length) := by
  obtain ⟨b', n', c, fz, h1, h2⟩ := h.blk i A hA
  rw [hp] at h1
  obtain ⟨rfl, rfl⟩ := Prod.mk.inj (Option.some.inj h1)
  exact ⟨c, fz, h2⟩

theorem WR.store (h : WR B π lm s w) {b b' n : Nat} {A : ABlk} (hA : s.heap[b]? = some (some A)) (hro : A.ro = false) (hp : π b = some (b', n)) {c : Array Value}
    (hc : w.heap[b']? = some (.cells c A.elem (0, 0))) {off : Nat} {avs : List AV} {vs : List Value} (hv : LR π lm avs vs) {cs : List AV} (hpaste : paste A.cells off avs = some cs) :
    WR B π lm { s with heap := setNth (some { A with cells := cs }) s.heap b, lo := min s.lo b } (upd w b' (.cells (pasteV c off vs) A.elem (0, 0))) ∧
    Tr π π lm lm s { s with heap := setNth (some { A with cells := cs }) s.heap b, lo := min s.lo b } w (upd w b' (.cells (pasteV c off vs) A.elem (0, 0))) := by
  obtain ⟨hle, hcs, hlen⟩ := paste_some hpaste
  obtain ⟨c0, fz0, hc0, hsz, hrw, hl⟩ := h.at hA hp
  rw [hc] at hc0
  obtain ⟨rfl, -, -⟩ := Obj.cells.inj (Option.some.inj hc0)
  have hb' : b' < w.heap.size := lt_of_some hc
  have hb : b < s.heap.length := (List.getElem?_eq_some_iff.1 hA).1
  have hAc : A.cells.length ≤ c.toList.length := by have := hl.1; simp at this; simp; omega
  have hvl : avs.length = vs.length := hv.1
  have hheap : ∀ i, (setNth (some { A with cells := cs }) s.heap b)[i]? = if b = i then some (some { A with cells := cs }) else s.heap[i]? := by
    intro i
    rw [setNth_eq, List.getElem?_set]
    by_cases hi : b = i
    · subst hi; simp [hb]
    · simp [hi]
  have other : ∀ r, r ≠ b' → (upd w b' (.cells (pasteV c off vs) A.elem (0, 0))).heap[r]? = w.heap[r]? := fun r hr => by
    rw [upd_heap]; simp [Ne.symm hr]
  have oneBlk : ∀ i A' b1 n1, s.heap[i]? = some (some A') → i ≠ b → π i = some (b1, n1) → b1 ≠ b' := fun i A' b1 n1 h1 h2 h3 e => by
    subst e
    exact h2 (h.inj b i A A' b1 n n1 hA h1 hro hp h3).symm
  constructor
  · refine ⟨fun i x hx => by rw [setNth_eq]; simp; exact h.dom i x hx, ?_, ?_, h.lsz, h.linj, ?_⟩
    · intro i A' hA'
      simp only [hheap] at hA'
      by_cases hi : b = i
      · subst hi
        simp at hA'
        subst hA'
        refine ⟨b', n, pasteV c off vs, (0, 0), hp, ?_, ?_, fun _ => ⟨rfl, (hrw hro).2⟩, ?_⟩
        · rw [upd_heap]; simp [hb']
        · have hq : off + vs.length ≤ c.size := by have := hAc; simp at this; omega
          simp [pasteV]; omega
        · simp only [pasteV, hlen]
          rcases take_paste (l := c.toList) (vs := vs) (off := off) (m := A.cells.length) (by omega) with e | e
          · rw [e, hcs, hvl]
            exact (hl.take off).append (hv.append (hl.drop _))
          · omega
      · simp [hi] at hA'
        obtain ⟨b1, n1, c1, fz1, h1, h2, h3⟩ := h.blk i A' hA'
        exact ⟨b1, n1, c1, fz1, h1, by rw [other b1 (oneBlk i A' b1 n1 hA' (Ne.symm hi) h1)]; exact h2, h3⟩
    · intro i j A1 A2 b1 n1 m1 h1 h2 h3 h4 h5
      simp only [hheap] at h1 h2
      have g1 : ∃ A1', s.heap[i]? = some (some A1') ∧ A1'.ro = false := by
        by_cases hi : b = i
        · subst hi; exact ⟨A, hA, hro⟩
        · simp [hi] at h1; exact ⟨A1, h1, h3⟩
      have g2 : ∃ A2', s.heap[j]? = some (some A2') := by
        by_cases hi : b = j
        · subst hi; exact ⟨A, hA⟩
        · simp [hi] at h2; exact ⟨A2, h2⟩
      obtain ⟨A1', k1, k2⟩ := g1
      obtain ⟨A2', k3⟩ := g2
      exact h.inj i j A1' A2' b1 n1 m1 k1 k3 k2 h4 h5
    · intro l r hr
      obtain ⟨L, fn, D, ts, st, pd, h1, h2, h3⟩ := h.loop l r hr
      have : L ≠ b' := fun e => by subst e; rw [hc] at h2; cases h2
      exact ⟨L, fn, D, ts, st, pd, h1, by rw [other L this]; exact h2, h3⟩
  · refine ⟨rfl, rfl, rfl, by rw [upd_size]; exact Nat.le_refl _, ?_, ?_, ?_, ?_, Nat.min_le_left _ _, Nat.le_refl _, Inj.le_refl _, fun _ _ => rfl, by rw [setNth_eq]; simp, ?_, ?_, ⟨[], by simp, by simp⟩⟩
    · intro r hr h1 _
      exact other r (fun e => by subst e; exact h1 b A n hA hro hp)
    · intro i A' b1 n1 h1 h2 h3
      have : i ≠ b := by simp at h2; omega
      exact other b1 (oneBlk i A' b1 n1 h1 this h3)
    · intro i hi h2
      simp only [hheap]
      simp at h2
      rw [if_neg (by omega)]
    · intro _ L hL
      obtain ⟨l, hl1, rfl⟩ := List.getElem_of_mem hL
      obtain ⟨r, hr⟩ : ∃ r, s.loops[l]? = some r := ⟨_, List.getElem?_eq_getElem (h.lsz ▸ hl1)⟩
      obtain ⟨L', fn, D, ts, st, pd, h1, h2, h3⟩ := h.loop l r hr
      rw [List.getElem?_eq_getElem hl1] at h1
      obtain rfl := Option.some.inj h1
      exact other _ (fun e => by rw [e, hc] at h2; cases h2)
    · intro i A' hi hA'
      simp only [hheap] at hA'
      by_cases hi : b = i
      · subst hi; simp at hA'; subst hA'; exact ⟨A, hA, rfl⟩
      · simp [hi] at hA'; exact ⟨A', hA', rfl⟩
    · intro i b1 n1 hi hx
      have := h.dom i _ hx; omega

/-- one more block known -/
def Inj.more (π : Inj) (i : Nat) (x : Nat × Nat) : Inj := fun j => if j = i then some x else π j

theorem Inj.le_more {π : Inj} {i : Nat} {x : Nat × Nat} (h : π i = none) : π.le (π.more i x) := fun j y hj => by
  unfold Inj.more; split
  · rename_i e; subst e; rw [h] at hj; cases hj
  · exact hj

theorem WR.free (h : WR B π lm s w) : π s.heap.length = none := by
  cases hp : π s.heap.length with
  | none => rfl
  | some x => exact absurd (h.dom _ _ hp) (by omega)

theorem heap_push (w : World) (o : Obj) (r : Nat) (hr : r < w.heap.size) : ({ w with heap := w.heap.push o } : World).heap[r]? = w.heap[r]? := by
  simp only [Array.getElem?_push]; rw [if_neg (by omega)]

theorem WR.new (h : WR B π lm s w) (hB : B ≤ w.heap.size) (e : TypeId) {cs : List AV} {c : Array Value} (hc : LR π lm cs (c.toList.take cs.length)) :
    WR B (π.more s.heap.length (w.heap.size, c.size)) lm (newBlk s e cs) { w with heap := w.heap.push (.cells c e) } ∧
    Tr π (π.more s.heap.length (w.heap.size, c.size)) lm lm s (newBlk s e cs) w { w with heap := w.heap.push (.cells c e) } := by
  have hle := Inj.le_more (x := (w.heap.size, c.size)) h.free
  have hold : ∀ i, i < s.heap.length → (π.more s.heap.length (w.heap.size, c.size)) i = π i := fun i hi => by
    unfold Inj.more; rw [if_neg (by omega)]
  have hheap : ∀ i A, (newBlk s e cs).heap[i]? = some (some A) → (i < s.heap.length ∧ s.heap[i]? = some (some A)) ∨ (i = s.heap.length ∧ A = { elem := e, cells := cs, ro := false }) := by
    intro i A hA
    simp only [newBlk] at hA
    by_cases hi : i < s.heap.length
    · rw [List.getElem?_append_left hi] at hA; exact .inl ⟨hi, hA⟩
    · rw [List.getElem?_append_right (by omega)] at hA
      have : i - s.heap.length = 0 := by
        rcases Nat.eq_zero_or_pos (i - s.heap.length) with h0 | h0
        · exact h0
        · rw [List.getElem?_eq_none (by simp; omega)] at hA; cases hA
      rw [this] at hA
      simp at hA
      exact .inr ⟨by omega, hA.symm⟩
  have hb0 : ∀ i A, s.heap[i]? = some (some A) → ∀ b n, π i = some (b, n) → b < w.heap.size := fun i A hA b n hp => by
    obtain ⟨c1, fz, h1, _⟩ := h.at hA hp
    exact lt_of_some h1
  constructor
  · refine ⟨?_, ?_, ?_, h.lsz, h.linj, ?_⟩
    · intro i x hx
      simp only [newBlk, List.length_append, List.length_singleton]
      unfold Inj.more at hx
      split at hx
      · omega
      · have := h.dom i x hx; omega
    · intro i A hA
      rcases hheap i A hA with ⟨hi, hA'⟩ | ⟨rfl, rfl⟩
      · obtain ⟨b, n, c1, fz, h1, h2, h3, h4, h5⟩ := h.blk i A hA'
        exact ⟨b, n, c1, fz, by rw [hold i hi]; exact h1, by rw [heap_push _ _ _ (lt_of_some h2)]; exact h2, h3, h4, h5.mono hle (fun _ _ x => x)⟩
      · refine ⟨w.heap.size, c.size, c, (0, 0), by simp [Inj.more], by simp, rfl, fun _ => ⟨rfl, hB⟩, hc.mono hle (fun _ _ x => x)⟩
    · intro i j A A' b n m h1 h2 h3 h4 h5
      rcases hheap i A h1 with ⟨hi, hA⟩ | ⟨rfl, rfl⟩ <;> rcases hheap j A' h2 with ⟨hj, hA'⟩ | ⟨rfl, rfl⟩
      · rw [hold i hi] at h4; rw [hold j hj] at h5
        exact h.inj i j A A' b n m hA hA' h3 h4 h5
      · rw [hold i hi] at h4
        have := hb0 i A hA b n h4
        simp [Inj.more] at h5; omega
      · rw [hold j hj] at h5
        have := hb0 j A' hA' b m h5
        simp [Inj.more] at h4; omega
      · rfl
    · intro l r hr
      obtain ⟨L, fn, D, ts, st, pd, h1, h2, h3, h4⟩ := h.loop l r hr
      exact ⟨L, fn, D, ts, st, pd, h1, by rw [heap_push _ _ _ (lt_of_some h2)]; exact h2, h3, h4.mono hle (fun _ _ x => x)⟩
  · refine ⟨rfl, rfl, rfl, by simp, fun r hr _ _ => heap_push _ _ _ hr, ?_, ?_, ?_, Nat.le_refl _, Nat.le_refl _, hle, hold, by simp [newBlk], ?_, ?_, ⟨[], by simp, by simp⟩⟩
    · intro i A b n hA _ hp
      exact heap_push _ _ _ (hb0 i A hA b n hp)
    · intro i hi _
      simp only [newBlk]; rw [List.getElem?_append_left hi]
    · intro _ L hL
      obtain ⟨l, hl1, rfl⟩ := List.getElem_of_mem hL
      obtain ⟨r, hr⟩ : ∃ r, s.loops[l]? = some r := ⟨_, List.getElem?_eq_getElem (h.lsz ▸ hl1)⟩
      obtain ⟨L', fn, D, ts, st, pd, h1, h2, h3⟩ := h.loop l r hr
      rw [List.getElem?_eq_getElem hl1] at h1
      obtain rfl := Option.some.inj h1
      exact heap_push _ _ _ (lt_of_some h2)
    · intro i A' hi hA'
      rcases hheap i A' hA' with ⟨_, hA⟩ | ⟨rfl, _⟩
      · exact ⟨A', hA, rfl⟩
      · omega
    · intro i b n hi hx
      unfold Inj.more at hx
      split at hx
      · left
        obtain ⟨rfl, _⟩ := Prod.mk.inj (Option.some.inj hx); exact Nat.le_refl _
      · have := h.dom i _ hx; omega

end Go.Ev
