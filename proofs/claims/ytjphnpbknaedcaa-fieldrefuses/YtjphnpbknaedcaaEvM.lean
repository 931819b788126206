/- append. -/
import Derived.Test.YtjphnpbknaedcaaEvI
import Derived.Laws.BytesString
import Derived.LoopNIn
import Derived.RangeFuncCalls
namespace Go.Ev
open Go.RowKit (Below)
set_option linter.unusedSectionVars false
variable [Rho]

variable {P : Program} {B : Nat} {π : Inj} {lm : List Nat} {s : St} {w : World} {ts : List AV} {a : Act}

theorem WR.heapEq (h : WR B π lm s w) {w' : World} (e : w'.heap = w.heap) : WR B π lm s w' :=
  ⟨h.dom, by rw [e]; exact h.blk, h.inj, h.lsz, h.linj, by rw [e]; exact h.loop⟩

theorem Tr.heapEq (h : WR B π lm s w) {w' : World} (e : w'.heap = w.heap) (h1 : w'.os = w.os) (h2 : w'.tape = w.tape) (h3 : w'.output = w.output) : Tr π π lm lm s s w w' :=
  { Tr.refl π lm w h.dom with
    os := h1, tape := h2, output := h3, size := by rw [e]; exact Nat.le_refl _
    keep := fun r _ _ _ => by rw [e]
    low := fun i A b n _ _ _ => by rw [e]
    lkeep := fun _ L _ => by rw [e] }

/-- a block gives way to another one over the same row, or over none -/
theorem WR.adopt (h : WR B π lm s w) {b b' m : Nat} {A : ABlk} (hA : s.heap[b]? = some (some A)) (hro : A.ro = false) (hp : π b = some (b', m)) {c d : Array Value} {e : TypeId}
    (hc : w.heap[b']? = some (.cells c A.elem (0, 0))) (hd : d.size = m) {cs : List AV} (hl : LR π lm cs (d.toList.take cs.length)) :
    WR B (π.more s.heap.length (b', m)) lm { newBlk { s with heap := setNth none s.heap b, lo := min s.lo b } e cs with lo := min s.lo b } (upd w b' (.cells d e (0, 0))) ∧
    Tr π (π.more s.heap.length (b', m)) lm lm s { newBlk { s with heap := setNth none s.heap b, lo := min s.lo b } e cs with lo := min s.lo b } w (upd w b' (.cells d e (0, 0))) := by
  have hle := Inj.le_more (x := (b', m)) h.free
  have hb : b < s.heap.length := (List.getElem?_eq_some_iff.1 hA).1
  have hb' : b' < w.heap.size := lt_of_some hc
  have hBb : B ≤ b' := by
    obtain ⟨c0, fz, _, _, hrw, _⟩ := h.at hA hp
    exact (hrw hro).2
  have hold : ∀ i, i < s.heap.length → (π.more s.heap.length (b', m)) i = π i := fun i hi => by
    unfold Inj.more; rw [if_neg (by omega)]
  have hheap : ∀ (i : Nat) (A1 : ABlk), ((setNth none s.heap b) ++ [some { elem := e, cells := cs, ro := false }])[i]? = some (some A1) →
      (i < s.heap.length ∧ i ≠ b ∧ s.heap[i]? = some (some A1)) ∨ (i = s.heap.length ∧ A1 = { elem := e, cells := cs, ro := false }) := by
    intro i A1 h1
    rw [setNth_eq] at h1
    by_cases hi : i < s.heap.length
    · rw [List.getElem?_append_left (by simpa using hi), List.getElem?_set] at h1
      by_cases hib : b = i
      · subst hib; simp [hb] at h1
      · simp [hib] at h1; exact .inl ⟨hi, Ne.symm hib, h1⟩
    · rw [List.getElem?_append_right (by simp; omega)] at h1
      have : i - (s.heap.set b none).length = 0 := by
        rcases Nat.eq_zero_or_pos (i - (s.heap.set b none).length) with h0 | h0
        · exact h0
        · rw [List.getElem?_eq_none (by simp only [List.length_singleton]; omega)] at h1; cases h1
      rw [this] at h1
      simp at h1 this
      exact .inr ⟨by omega, h1.symm⟩
  have other : ∀ r, r ≠ b' → (upd w b' (.cells d e (0, 0))).heap[r]? = w.heap[r]? := fun r hr => by
    rw [upd_heap]; simp [Ne.symm hr]
  have oneBlk : ∀ i A' b1 n1, s.heap[i]? = some (some A') → i ≠ b → π i = some (b1, n1) → b1 ≠ b' := fun i A' b1 n1 h1 h2 h3 e => by
    subst e
    exact h2 (h.inj b i A A' b1 m n1 hA h1 hro hp h3).symm
  constructor
  · refine ⟨?_, ?_, ?_, h.lsz, h.linj, ?_⟩
    · intro i x hx
      simp only [newBlk, List.length_append, List.length_singleton, setNth_eq, List.length_set]
      unfold Inj.more at hx
      split at hx
      · omega
      · have := h.dom i x hx; omega
    · intro i A1 h1
      rcases hheap i A1 h1 with ⟨hi, hib, hA1⟩ | ⟨rfl, rfl⟩
      · obtain ⟨b1, n1, c1, fz, k1, k2, k3, k4, k5⟩ := h.blk i A1 hA1
        exact ⟨b1, n1, c1, fz, by rw [hold i hi]; exact k1, by rw [other b1 (oneBlk i A1 b1 n1 hA1 hib k1)]; exact k2, k3, k4, k5.mono hle (fun _ _ x => x)⟩
      · exact ⟨b', m, d, (0, 0), by simp [Inj.more], by rw [upd_heap]; simp [hb'], hd, fun _ => ⟨rfl, hBb⟩, hl.mono hle (fun _ _ x => x)⟩
    · intro i j A1 A2 b1 n1 m1 h1 h2 h3 h4 h5
      rcases hheap i A1 h1 with ⟨hi, hib, hA1⟩ | ⟨rfl, rfl⟩ <;> rcases hheap j A2 h2 with ⟨hj, hjb, hA2⟩ | ⟨rfl, rfl⟩
      · rw [hold i hi] at h4; rw [hold j hj] at h5
        exact h.inj i j A1 A2 b1 n1 m1 hA1 hA2 h3 h4 h5
      · rw [hold i hi] at h4
        simp [Inj.more] at h5
        exact absurd h5.1.symm (oneBlk i A1 b1 n1 hA1 hib h4)
      · rw [hold j hj] at h5
        simp [Inj.more] at h4
        exact absurd h4.1.symm (oneBlk j A2 b1 m1 hA2 hjb h5)
      · rfl
    · intro l r hr
      obtain ⟨L, fn, D, ts, st, pd, h1, h2, h3, h4⟩ := h.loop l r hr
      have : L ≠ b' := fun e => by subst e; rw [hc] at h2; cases h2
      exact ⟨L, fn, D, ts, st, pd, h1, by rw [other L this]; exact h2, h3, h4.mono hle (fun _ _ x => x)⟩
  · refine ⟨rfl, rfl, rfl, by rw [upd_size]; exact Nat.le_refl _, ?_, ?_, ?_, ?_, Nat.min_le_left _ _, Nat.le_refl _, hle, hold, by simp [newBlk, setNth_eq], ?_, ?_, ⟨[], by simp, by simp⟩⟩
    · intro r hr h1 _
      exact other r (fun e => by subst e; exact h1 b A m hA hro hp)
    · intro i A' b1 n1 h1 h2 h3
      have : i ≠ b := by simp at h2; omega
      exact other b1 (oneBlk i A' b1 n1 h1 this h3)
    · intro i hi h2
      simp at h2
      simp only [newBlk, setNth_eq]
      rw [List.getElem?_append_left (by simpa using hi), List.getElem?_set_ne (by omega)]
    · intro _ L hL
      obtain ⟨l, hl1, rfl⟩ := List.getElem_of_mem hL
      obtain ⟨r, hr⟩ : ∃ r, s.loops[l]? = some r := ⟨_, List.getElem?_eq_getElem (h.lsz ▸ hl1)⟩
      obtain ⟨L', fn, D, ts, st, pd, h1, h2, h3⟩ := h.loop l r hr
      rw [List.getElem?_eq_getElem hl1] at h1
      obtain rfl := Option.some.inj h1
      exact other _ (fun e => by rw [e, hc] at h2; cases h2)
    · intro i A' hi hA'
      rcases hheap i A' hA' with ⟨_, _, hA⟩ | ⟨rfl, _⟩
      · exact ⟨A', hA, rfl⟩
      · omega
    · intro i b1 n1 hi hx
      unfold Inj.more at hx
      split at hx
      · obtain ⟨rfl, _⟩ := Prod.mk.inj (Option.some.inj hx)
        exact .inr ⟨b, A, m, hA, hro, hp⟩
      · have := h.dom i _ hx; omega

theorem WR.kill (h : WR B π lm s w) {b : Nat} {A : ABlk} (hA : s.heap[b]? = some (some A)) :
    WR B π lm { s with heap := setNth none s.heap b, lo := min s.lo b } w ∧ Tr π π lm lm s { s with heap := setNth none s.heap b, lo := min s.lo b } w w := by
  have hb : b < s.heap.length := (List.getElem?_eq_some_iff.1 hA).1
  have hheap : ∀ (i : Nat) (A1 : ABlk), (setNth none s.heap b)[i]? = some (some A1) → s.heap[i]? = some (some A1) := by
    intro i A1 h1
    rw [setNth_eq, List.getElem?_set] at h1
    by_cases hib : b = i
    · subst hib; simp [hb] at h1
    · simpa [hib] using h1
  constructor
  · exact ⟨fun i x hx => by rw [setNth_eq]; simpa using h.dom i x hx, fun i A1 h1 => h.blk i A1 (hheap i A1 h1), fun i j A1 A2 b1 n1 m1 h1 h2 => h.inj i j A1 A2 b1 n1 m1 (hheap i A1 h1) (hheap j A2 h2), h.lsz, h.linj, h.loop⟩
  · exact { Tr.refl π lm w h.dom with
      low := fun _ _ _ _ _ _ _ => rfl
      same := fun i hi h2 => by
        simp at h2
        simp only [setNth_eq]
        rw [List.getElem?_set_ne (by omega)]
      lkeep := fun _ _ _ => rfl
      lo_le := Nat.min_le_left _ _
      nd_le := Nat.le_refl _
      len := by rw [setNth_eq]; simp
      liv := fun i A' _ h1 => ⟨A', hheap i A' h1, rfl⟩ }

theorem growBy_le (newLen : Nat) : ∀ (r c : Nat), Builtin.growBy newLen r c ≤ max c (newLen + (newLen + 768) / 4)
  | 0, c => by simp only [Builtin.growBy]; omega
  | r + 1, c => by
    simp only [Builtin.growBy]
    split
    · omega
    · have := growBy_le newLen r (c + (c + 768) / 4)
      omega

theorem nextslicecap_le {newLen oldCap : Nat} (h : oldCap < newLen) : Builtin.nextslicecap newLen oldCap ≤ 2 * newLen + 192 := by
  unfold Builtin.nextslicecap
  split
  · omega
  · split
    · omega
    · have := growBy_le newLen 4 oldCap
      omega

theorem len_rel {y : AV} {c : Value} {n : Nat} (h : lenA y = some n) (r : VR π lm y c) (w : World) : (Builtin.lenOf c).run P w = .ok n w := by
  cases r <;> simp [lenA] at h <;> subst h <;> rfl

theorem first_rel {y : AV} {c : Value} {es n : Nat} {l : List AV} (hw : WR B π lm s w) (h : firstA s es n y = some l) (r : VR π lm y c) :
    ∃ vs, (∀ w' : World, w'.heap = w.heap → (Builtin.firstCells es n c).run P w' = .ok vs w') ∧ LR π lm l vs.toList := by
  cases y with
  | slice b off len cap ex es' =>
    obtain ⟨b', m, cap', hp, rfl, _⟩ := VR.slice_inv r
    simp only [firstA] at h
    split at h
    · rename_i A hA
      rw [blockAt_some] at hA
      obtain ⟨c, fz, hc, hsz, _, hl⟩ := hw.at hA hp
      obtain ⟨hle, rfl⟩ := cut_some h
      have hAc : A.cells.length ≤ c.size := by have := hl.1; simp at this; omega
      refine ⟨_, fun w' e' => run_loadCells (by rw [e']; exact hc) (by omega), ?_⟩
      have := (hl.drop off).take (n * es)
      rw [drop_take_take hle] at this
      exact this
    · cases h
  | nilSlice =>
    simp [firstA] at h
    subst h
    cases r
    exact ⟨#[], fun _ _ => rfl, .nil⟩
  | _ => simp [firstA] at h

theorem bytes_some {t : TypeId} {n : Nat} (h : bytesA P t = some n) : ∃ i, P.info? t = some i ∧ i.bytes = n := by
  simpa [bytesA, Option.map_eq_some_iff] using h

/-- the part of an append that makes a new row -/
theorem run_grow {e : TypeId} {es bs need cap : Nat} {z : AV} (hz : zeroA P e = some z) (hzl : z.cells.length = es) (hbs : bytesA P e = some bs)     (old new : Array Value) (hs : old.size + new.size = need * es) (mo mn : Sem (Array Value)) (hmo : ∀ w' : World, w'.heap = w.heap → mo.run P w' = .ok old w') (hmn : ∀ w' : World, w'.heap = w.heap → mn.run P w' = .ok new w') :
    ∃ (d : Array Value) (cap' : Nat), need ≤ cap' ∧ d.size = cap' * es ∧ d.toList.take (need * es) = old.toList ++ new.toList ∧
      (do
        let newCap ← choose (.appendCap need cap e)
        askRoom (newCap * (← typeInfo e).bytes)
        let o ← mo
        let n ← mn
        let rest := Builtin.zeroCells (← zeroValue e).cells (newCap - need)
        pure (Value.slice (some (← newRow e (o ++ n ++ rest))) need newCap) : Sem Value).run P w =
      .ok (.slice (some ⟨w.heap.size, 0, none⟩) need cap') { w with heap := w.heap.push (.cells d e), drawn := w.drawn + 1 } := by
  obtain ⟨i, hi, rfl⟩ := bytes_some hbs
  obtain ⟨u, hzu, hv⟩ := zero_rel (π := fun _ => none) (lm := []) hz ({ w with drawn := w.drawn + 1 } : World)
  have husz : u.cells.size = es := by have := hv.cells.1; simp at this; omega
  refine ⟨old ++ new ++ Builtin.zeroCells u.cells ((need + w.tape w.drawn (.appendCap need cap e) % (2 ^ 63 - need)) - need), need + w.tape w.drawn (.appendCap need cap e) % (2 ^ 63 - need), by omega, ?_, ?_, ?_⟩
  · have : (Builtin.zeroCells u.cells ((need + w.tape w.drawn (.appendCap need cap e) % (2 ^ 63 - need)) - need)).size = ((need + w.tape w.drawn (.appendCap need cap e) % (2 ^ 63 - need)) - need) * es := by
      simp [Builtin.zeroCells, husz]
    simp only [Array.size_append, this, hs]
    rw [← Nat.add_mul]; congr 1; omega
  · simp only [Array.toList_append]
    rw [List.take_append_of_le_length (by simp; omega), List.take_of_length_le (by simp; omega)]
  · simp only [Sem.run_bind, run_choose, Question.forced, Bool.false_eq_true, if_false, Question.cut, Result.andThen_ok, run_typeInfo' hi, run_askRoom, hmo ({ w with drawn := w.drawn + 1 } : World) rfl,
      hmn ({ w with drawn := w.drawn + 1 } : World) rfl, hzu, newRow, run_newObj, Sem.run_pure]

/-- append within the capacity -/
theorem run_append_fits {st xt : TypeId} {e e' : TypeId} {es n len cap : Nat} {base : Option Addr} {cy : Value} {vs : Array Value} (ty : TypeId) (ats : Array TypeId) (a0 : ats[0]? = some st) (a1 : ats[1]? = some xt)
    (hu : P.underlying st = some (.slice e)) (hu' : P.underlying xt = some (.slice e')) (hes : sizeA P e = some es) (hn : (Builtin.lenOf cy).run P w = .ok n w) (hf : (Builtin.firstCells es n cy).run P w = .ok vs w)
    (hle : len + n ≤ cap) : (Builtin.append_ ats ty #[.slice base len cap, cy]).run P w =
      (do
        if let some a := base then storeCells (a.add (len * es)) vs.toList
        pure (Value.slice base (len + n) cap) : Sem Value).run P w := by
  simp only [Builtin.append_, a0, a1, Sem.run_bind, run_underlying hu, run_underlying hu', run_sizeOf' hes, Result.andThen_ok, List.getElem?_toArray, List.getElem?_cons_zero, List.getElem?_cons_succ, Sem.run_pure,
    Bool.false_eq_true, if_false, hn, Bool.not_false, if_true, if_pos hle, hf]
  cases base <;> rfl

theorem run_append_grows {st xt : TypeId} {e e' : TypeId} {es bs n len cap : Nat} {base : Option Addr} {cy : Value} (ty : TypeId) (ats : Array TypeId) (a0 : ats[0]? = some st) (a1 : ats[1]? = some xt)
    (hu : P.underlying st = some (.slice e)) (hu' : P.underlying xt = some (.slice e')) (hes : sizeA P e = some es) (hbs : bytesA P e = some bs) (hb0 : bs ≠ 0) (hn : (Builtin.lenOf cy).run P w = .ok n w)
    (hgt : ¬ len + n ≤ cap) (hsmall : (len + n) * bs ≤ 2 ^ 40) : (Builtin.append_ ats ty #[.slice base len cap, cy]).run P w =
      (do
        let newCap ← choose (.appendCap (len + n) cap e)
        askRoom (newCap * (← typeInfo e).bytes)
        let o ← Builtin.firstCells es len (.slice base len cap)
        let n' ← Builtin.firstCells es n cy
        let rest := Builtin.zeroCells (← zeroValue e).cells (newCap - (len + n))
        pure (Value.slice (some (← newRow e (o ++ n' ++ rest))) (len + n) newCap) : Sem Value).run P w := by
  obtain ⟨i, hi, rfl⟩ := bytes_some hbs
  have h1 : ¬ (((len + n : Nat) : Int) > IntKind.i64.max ∧ (False ∨ i.bytes = 0)) := fun h => by rcases h.2 with h2 | h2 <;> first | exact h2.elim | exact hb0 h2
  have h2 : ¬ Builtin.nextslicecap (len + n) cap * i.bytes > 2 ^ 48 := by
    have hm : Builtin.nextslicecap (len + n) cap ≤ 2 * (len + n) + 192 := nextslicecap_le (by omega)
    have h3 : Builtin.nextslicecap (len + n) cap * i.bytes ≤ (2 * (len + n) + 192) * i.bytes := Nat.mul_le_mul_right _ hm
    have h4 : (2 * (len + n) + 192) * i.bytes ≤ 194 * ((len + n) * i.bytes) := by
      rw [← Nat.mul_assoc]
      exact Nat.mul_le_mul_right _ (by omega)
    omega
  simp only [Builtin.append_, a0, a1, Sem.run_bind, run_underlying hu, run_underlying hu', run_sizeOf' hes, Result.andThen_ok, List.getElem?_toArray, List.getElem?_cons_zero, List.getElem?_cons_succ, Sem.run_pure,
    Bool.false_eq_true, if_false, hn, Bool.not_false, if_true, if_neg hgt, run_typeInfo' hi, if_neg h1, if_neg h2]

theorem Tr.withDrawn {π π' : Inj} {lm lm' : List Nat} {s s' : St} {w w1 w' : World} (h : Tr π π' lm lm' s s' w1 w') (e : w1.heap = w.heap) (h1 : w1.os = w.os) (h2 : w1.tape = w.tape) (h3 : w1.output = w.output) :
    Tr π π' lm lm' s s' w w' :=
  ⟨h.os.trans h1, h.tape.trans h2, h.output.trans h3, by have := h.size; rw [e] at this; exact this, by have := h.keep; rw [e] at this; exact this, by have := h.low; rw [e] at this; exact this, h.same,
    by have := h.lkeep; rw [e] at this; exact this, h.lo_le, h.nd_le, h.le, h.old, h.len, h.liv, by have := h.new; rw [e] at this; exact this, by have := h.lmx; rw [e] at this; exact this⟩

theorem append_rel {st xt : TypeId} {x y v : AV} {cx cy : Value} {s' : St} (ty : TypeId) (hw : WR B π lm s w) (hB : B ≤ w.heap.size) (h : appendA P s st xt x y = some (v, s')) (hx : VR π lm x cx) (hy : VR π lm y cy)
    (ats : Array TypeId) (hats : ats.toList = [st, xt]) : ∃ c w' π', (Builtin.append_ ats ty #[cx, cy]).run P w = .ok c w' ∧ VR π' lm v c ∧ WR B π' lm s' w' ∧ Tr π π' lm lm s s' w w' := by
  unfold appendA at h
  split at h
  · rename_i e e' hu hu'
    split at h
    · rename_i es bs n z hes hbs hlen hz
      split at h
      · cases h
      · rename_i hne
        simp only [not_or, Decidable.not_not] at hne
        obtain ⟨hes0, hbs0, hzl⟩ := hne
        split at h
        · cases h
        · rename_i new hnew
          have a0 : ats[0]? = some st := by rw [← Array.getElem?_toList, hats]; rfl
          have a1 : ats[1]? = some xt := by rw [← Array.getElem?_toList, hats]; rfl
          obtain ⟨vs, hvs, hvr⟩ := first_rel (P := P) hw hnew hy
          have fits : ∀ {base : Option Addr} {len cap : Nat}, len + n ≤ cap → (Builtin.append_ ats ty #[.slice base len cap, cy]).run P w =
              (do
                if let some a := base then storeCells (a.add (len * es)) vs.toList
                pure (Value.slice base (len + n) cap) : Sem Value).run P w := fun hle =>
            run_append_fits ty ats a0 a1 hu hu' hes (len_rel hlen hy w) (hvs w rfl) hle
          -- a new row
          have grows : ∀ {base : Option Addr} {len cap : Nat} {old : List AV} {ov : Array Value} {s1 : St}, ¬ len + n ≤ cap → (len + n) * bs ≤ 2 ^ 40 → 
              (∀ w' : World, w'.heap = w.heap → (Builtin.firstCells es len (.slice base len cap)).run P w' = .ok ov w') → LR π lm old ov.toList → old.length + new.length = (len + n) * es → WR B π lm s1 w → Tr π π lm lm s s1 w w → s1.heap.length = s.heap.length →
              ∃ c w' π', (Builtin.append_ ats ty #[.slice base len cap, cy]).run P w = .ok c w' ∧ VR π' lm (.slice s.heap.length 0 (len + n) (len + n) false es) c ∧
                WR B π' lm (newBlk s1 e (old ++ new)) w' ∧ Tr π π' lm lm s (newBlk s1 e (old ++ new)) w w' := by
            intro base len cap old ov s1 hgt hsmall hov2 holr hsum hw1 htr hlen1
            have hsz : ov.size + vs.size = (len + n) * es := by have a := holr.1; have b := hvr.1; simp at a b; omega
            obtain ⟨d, cap', k1, k2, k3, k4⟩ := run_grow (w := w) (cap := cap) hz hzl hbs ov vs hsz _ _ hov2 hvs
            have hnewl : LR π lm (old ++ new) (d.toList.take (old ++ new).length) := by
              rw [List.length_append, hsum, k3]
              exact holr.append hvr
            have hw2 : WR B π lm s1 ({ w with drawn := w.drawn + 1 } : World) := hw1.heapEq rfl
            obtain ⟨m1, m2⟩ := hw2.new (by simpa using hB) e hnewl
            refine ⟨_, _, _, by rw [run_append_grows ty ats a0 a1 hu hu' hes hbs hbs0 (len_rel hlen hy w) hgt hsmall]; exact k4, ?_, m1, ?_⟩
            · refine .sliceIn (n := d.size) ?_ k1 (by rw [k2]; simp)
              simp [Inj.more, hlen1]
            · exact htr.trans (m2.withDrawn rfl rfl rfl rfl)
          have hnl : new.length = n * es := by
            cases y with
            | slice b off len cap ex es' =>
              simp only [firstA] at hnew
              split at hnew
              · obtain ⟨hle, rfl⟩ := cut_some hnew
                simp; omega
              · cases hnew
            | nilSlice => simp [firstA] at hnew; simp [lenA] at hlen; subst hnew; subst hlen; simp
            | _ => simp [firstA] at hnew
          split at h
          · have hcx : cx = .slice none 0 0 := by cases hx; rfl
            subst hcx
            split at h
            · rename_i hn0
              simp at h
              obtain ⟨rfl, rfl⟩ := h
              subst hn0
              refine ⟨.slice none 0 0, w, π, ?_, .nilSlice, hw, Tr.refl _ _ _ hw.dom⟩
              rw [fits (by omega)]; rfl
            · rename_i hn0
              split at h
              · cases h
              · rename_i hsm
                simp at h
                obtain ⟨rfl, rfl⟩ := h
                have := grows (base := none) (len := 0) (cap := 0) (old := []) (ov := #[]) (s1 := s) (by omega) (by simpa using Nat.le_of_not_lt hsm) (fun _ _ => rfl) .nil (by simpa using hnl) hw (Tr.refl _ _ _ hw.dom) rfl
                simpa using this
          · rename_i b off len cap ex es'
            obtain ⟨b', m, cap', hp, rfl, hex⟩ := VR.slice_inv hx
            have hcap : cap ≤ cap' := by rcases hex with ⟨_, h⟩ | ⟨_, h, _⟩ <;> omega
            split at h
            · cases h
            · rename_i hee
              simp only [ne_eq, Decidable.not_not] at hee
              subst hee
              split at h
              · rename_i hle
                simp only [Option.map_eq_some_iff, Prod.mk.injEq] at h
                obtain ⟨s1, hs1, rfl, rfl⟩ := h
                obtain ⟨w', k1, k2, k3⟩ := storeCells_rel (P := P) hw hs1 hvr hp
                refine ⟨.slice (some ⟨b', off, none⟩) (len + n) cap', w', π, ?_, ?_, k2, k3⟩
                · rw [fits (by omega)]
                  simp [addr_add, k1]
                · rcases hex with ⟨rfl, rfl⟩ | ⟨rfl, h1, h2⟩
                  · exact .sliceEx hp
                  · exact .sliceIn hp h1 h2
              · rename_i hgt
                split at h
                · cases h
                · rename_i hsm
                  split at h
                  · cases h
                  · rename_i old hold
                    obtain ⟨ov, hov, holr⟩ := first_rel (P := P) hw hold hx
                    have hol : old.length = len * es' := by
                      simp only [firstA] at hold
                      split at hold
                      · obtain ⟨hle, rfl⟩ := cut_some hold
                        simp; omega
                      · cases hold
                    have hsum : old.length + new.length = (len + n) * es' := by rw [hol, hnl, Nat.add_mul]
                    split at h
                    · rename_i hx1
                      simp at h
                      obtain ⟨rfl, rfl⟩ := h
                      rcases hex with ⟨_, rfl⟩ | ⟨h1, _⟩
                      · exact grows hgt (Nat.le_of_not_lt hsm) hov holr hsum hw (Tr.refl _ _ _ hw.dom) rfl
                      · rw [h1] at hx1; cases hx1
                    · rename_i hx1
                      split at h
                      · rename_i h0
                        subst h0
                        split at h
                        · rename_i A hA
                          rw [blockAt_some] at hA
                          split at h
                          · cases h
                          · rename_i hro
                            simp only [not_or, Bool.not_eq_true, ne_eq, Decidable.not_not] at hro
                            obtain ⟨hro, hel, hone⟩ := hro
                            simp at h
                            obtain ⟨rfl, rfl⟩ := h
                            rcases hex with ⟨h1, _⟩ | ⟨_, h1, h2⟩
                            · exact absurd h1 hx1
                            · by_cases hfit : len + n ≤ cap'
                              · obtain ⟨c, fz, hc, hsz, hrw, hl⟩ := hw.at hA hp
                                obtain ⟨rfl, hBb⟩ := hrw hro
                                subst hel
                                have hvl : vs.size = n * es' := by have := hvr.1; simp at this; omega
                                have hcs : cap' * es' = (len + n) * es' + (cap' - (len + n)) * es' := by rw [← Nat.add_mul]; congr 1; omega
                                have hmul : (len + n) * es' = len * es' + n * es' := Nat.add_mul _ _ _
                                have hco : c.size = cap' * es' := by omega
                                have hov1 := hov w rfl
                                have hov3 : (Builtin.firstCells es' len (.slice (some ⟨b', 0, none⟩) len cap')).run P w = .ok _ w := run_loadCells hc (show 0 + len * es' ≤ c.size by omega)
                                rw [hov3] at hov1
                                obtain rfl := (Result.ok.inj hov1).1
                                have hst := run_storeCells (P := P) (e := A.elem) (b := b') (off := len * es') vs.toList 0 w c (all_one (by simpa using hone) hvr) hc (by simp; omega)
                                have hdl : LR π lm (old ++ new) ((pasteV c (len * es') vs.toList).toList.take (old ++ new).length) := by
                                  have e1 : (pasteV c (len * es') vs.toList).toList.take (old ++ new).length = (c.toList.drop 0).take (len * es') ++ vs.toList := by
                                    rw [List.length_append, hsum]
                                    simp only [pasteV, List.drop_zero]
                                    rw [← List.append_assoc, List.take_append_of_le_length (by simp; omega), List.take_of_length_le (by simp; omega)]
                                  rw [e1]
                                  exact holr.append hvr
                                obtain ⟨m1, m2⟩ := hw.adopt hA hro hp hc (d := pasteV c (len * es') vs.toList) (e := A.elem) (by simp [pasteV]; omega) hdl
                                refine ⟨.slice (some ⟨b', 0, none⟩) (len + n) cap', _, _, ?_, .sliceIn (n := m) (by simp [Inj.more]) hfit h2, m1, m2⟩
                                rw [fits hfit]
                                simp only [addr_add, Nat.zero_add, Sem.run_bind] at hst ⊢
                                simp [hst]
                              · obtain ⟨k1, k2⟩ := hw.kill hA
                                exact grows hfit (Nat.le_of_not_lt hsm) hov holr hsum k1 k2 (by simp [setNth_eq])
                        · cases h
                      · cases h
          · cases h
    · cases h
  · cases h

theorem bytesOf_rel : ∀ {cs : List AV} {ns : List Int} {vs : List Value}, bytesOf cs = some ns → LR π lm cs vs → vs = ns.map (Value.int .u8)
  | [], ns, vs, h, r => by simp [bytesOf] at h; subst h; rw [r.nil_inv]; rfl
  | v :: l, ns, vs, h, r => by
    obtain ⟨c, ws, rfl, hv, ht⟩ := r.uncons
    unfold bytesOf at h
    split at h
    · rename_i h1; cases h1
    · rename_i n l' h1
      obtain ⟨rfl, rfl⟩ := List.cons.inj h1
      simp only [Option.map_eq_some_iff] at h
      obtain ⟨ms, h2, rfl⟩ := h
      rw [hv.int_inv, bytesOf_rel h2 ht]; rfl
    · cases h

theorem op_str {o : Oper} {src dst : TypeId} {x : Operand} {u v : AV} (ho : o.op = .convert src dst x) (hw : WR B π lm s w) (hx : eval ts x = some u) (h : strA P s src dst u = some v)
    (r : LR π lm ts a.tmps.toList) : OpOk P B π lm s w o a v s := by
  unfold strA at h
  split at h
  · rename_i e b off len cap ex es hs hd
    split at h
    · rename_i A he hA
      split at h
      · rename_i cs hcut
        simp only [Option.map_eq_some_iff] at h
        obtain ⟨ns, hns, rfl⟩ := h
        obtain ⟨b', m, cap', hp, hc, _⟩ := VR.slice_inv (eval_rel hx r)
        rw [blockAt_some] at hA
        obtain ⟨c, fz, hcell, hsz, _, hl⟩ := hw.at hA hp
        obtain ⟨hle, rfl⟩ := cut_some hcut
        have hAc : A.cells.length ≤ c.size := by have := hl.1; simp at this; omega
        have hrow := (hl.drop off).take len
        rw [drop_take_take hle] at hrow
        have e1 := bytesOf_rel hns hrow
        refine .still hw (c := .string (ns.foldl (fun r n => r.push (UInt8.ofNat n.toNat)) ByteArray.empty)) ?_ (.str _)
        have hld : (loadCells ⟨b', off, none⟩ len).run P w = .ok (ns.map (Value.int .u8)).toArray w := by
          rw [run_loadCells hcell (by omega), e1]
        simp [execOp, ho, hc, run_convert_bytes_string w src dst e _ _ _ hs he hd, run_bytesToString w _ len cap' ns hld]
      · cases h
    · cases h
  · cases h

end Go.Ev

/- Operations, all; calls. -/
namespace Go.Ev
open Go.RowKit (Below)
set_option linter.unusedSectionVars false
variable [Rho]

variable {P : Program} {B : Nat} {π : Inj} {lm : List Nat} {s : St} {w : World} {ts : List AV} {a : Act}

theorem evals_two {xs : Array Operand} {x y : AV} (h : evals ts xs.toList = some [x, y]) (r : LR π lm ts a.tmps.toList) : ∃ cx cy, xs.map a.eval = #[cx, cy] ∧ VR π lm x cx ∧ VR π lm y cy := by
  have := evals_rel h r
  obtain ⟨cx, ws, e1, h1, h2⟩ := this.uncons
  obtain ⟨cy, ws', e2, h3, h4⟩ := h2.uncons
  have := h4.nil_inv
  subst this; subst e2
  refine ⟨cx, cy, ?_, h1, h3⟩
  apply Array.toList_inj.1
  rw [Array.toList_map, e1]

theorem evals_one {xs : Array Operand} {x : AV} (h : evals ts xs.toList = some [x]) (r : LR π lm ts a.tmps.toList) : ∃ cx, xs.map a.eval = #[cx] ∧ VR π lm x cx := by
  have := evals_rel h r
  obtain ⟨cx, ws, e1, h1, h2⟩ := this.uncons
  have := h2.nil_inv
  subst this
  refine ⟨cx, ?_, h1⟩
  apply Array.toList_inj.1
  rw [Array.toList_map, e1]

theorem pick_u {op : BinOp} {k : IntKind} {m n : Int} {u : AV} (hop : op = .gtr ∨ op = .lss) (h : intBin op k m n = some u) : ∃ b, u = .bool b := by
  rcases hop with rfl | rfl <;> simp only [intBin, Option.some.injEq] at h <;> exact ⟨_, h.symm⟩

theorem pick_rel {op : BinOp} {x y v : AV} {cx cy : Value} (hop : op = .gtr ∨ op = .lss) (h : pickA op x y = some v) (hx : VR π lm x cx) (hy : VR π lm y cy) :
    ∃ k n m b, cx = .int k n ∧ cy = .int k m ∧ intBin op k m n = some (.bool b) ∧ VR π lm v (if b then cy else cx) := by
  unfold pickA at h
  split at h
  · rename_i hb
    simp only [Option.some.injEq] at h; subst h
    obtain ⟨k, n, m, u, rfl, rfl, h1, h2⟩ := symBin_ok hb hy hx
    obtain ⟨b, rfl⟩ := pick_u hop h1
    have hv := h2 _ (.bool b)
    cases hv
    exact ⟨k, m, n, true, rfl, rfl, h1, hy⟩
  · rename_i hb
    simp only [Option.some.injEq] at h; subst h
    obtain ⟨k, n, m, u, rfl, rfl, h1, h2⟩ := symBin_ok hb hy hx
    obtain ⟨b, rfl⟩ := pick_u hop h1
    have hv := h2 _ (.bool b)
    cases hv
    exact ⟨k, m, n, false, rfl, rfl, h1, hx⟩
  · cases h

theorem op_builtin {o : Oper} {c : Call} {b : Builtin} {args : List AV} {v : AV} {s' : St} {k : Nat} (ho : o.op = .call c) (hc : c.callee = .builtin b) (hw : WR B π lm s w) (hB : B ≤ w.heap.size)
    (hargs : evals ts c.args.toList = some args) (h : builtinA P s b c.argTypes.toList args = some (v, s', k)) (r : LR π lm ts a.tmps.toList) : OpOk P B π lm s w o a v s' := by
  unfold builtinA at h
  split at h
  · rename_i t x heq
    split at h
    · rename_i e n hu hn
      simp at h
      obtain ⟨rfl, rfl, rfl⟩ := h
      obtain ⟨cx, e1, hx⟩ := evals_one hargs r
      have a0 : c.argTypes[0]? = some t := by rw [← Array.getElem?_toList, heq]; rfl
      refine .still hw (c := .int .i64 n) ?_ (.int _ _)
      have : ∃ A cap, cx = .slice A n cap := by
        cases hx <;> simp [lenA] at hn <;> subst hn <;> exact ⟨_, _, rfl⟩
      obtain ⟨A, cap, rfl⟩ := this
      simp [execOp, ho, resolve, hc, invoke, builtin, Builtin.len_, a0, e1, run_underlying hu, goInt]
    · cases h
  · rename_i st xt x y heq
    simp only [Option.map_eq_some_iff, Prod.mk.injEq, Prod.exists] at h
    obtain ⟨v', s1, h, rfl, rfl, rfl⟩ := h
    obtain ⟨cx, cy, e1, hx, hy⟩ := evals_two hargs r
    obtain ⟨cv, w', π', k1, k2, k3, k4⟩ := append_rel (P := P) o.type hw hB h hx hy c.argTypes heq
    refine ⟨_, cv, w', π', ?_, .inl rfl, k2, k3, k4⟩
    simp [execOp, ho, resolve, hc, invoke, builtin, e1, k1]
  · rename_i x y heq
    simp only [Option.map_eq_some_iff, Prod.mk.injEq] at h
    obtain ⟨v', h, rfl, rfl, rfl⟩ := h
    obtain ⟨cx, cy, e1, hx, hy⟩ := evals_two hargs r
    obtain ⟨k, n, m, b, rfl, rfl, h1, h2⟩ := pick_rel (by first | exact .inl rfl | exact .inr rfl) h hx hy
    simp only [intBin, Option.some.injEq, AV.bool.injEq] at h1
    refine .still hw ?_ h2
    subst h1
    by_cases hl : n < m <;> simp [execOp, ho, resolve, hc, invoke, builtin, e1, Builtin.max_, Builtin.max2, hl]
  · rename_i x y heq
    simp only [Option.map_eq_some_iff, Prod.mk.injEq] at h
    obtain ⟨v', h, rfl, rfl, rfl⟩ := h
    obtain ⟨cx, cy, e1, hx, hy⟩ := evals_two hargs r
    obtain ⟨k, n, m, b, rfl, rfl, h1, h2⟩ := pick_rel (by first | exact .inl rfl | exact .inr rfl) h hx hy
    simp only [intBin, Option.some.injEq, AV.bool.injEq] at h1
    refine .still hw ?_ h2
    subst h1
    by_cases hl : m < n <;> simp [execOp, ho, resolve, hc, invoke, builtin, e1, Builtin.min_, Builtin.min2, hl]
  · cases h

theorem evOp_val {o : Oper} {v : AV} {s' : St} {k : Nat} (hw : WR B π lm s w) (hB : B ≤ w.heap.size) (r : LR π lm ts a.tmps.toList) (h : evOp P ts o s = some (.val v s' k)) :
    OpOk P B π lm s w o a v s' ∧ ∀ c, o.op ≠ .defer c := by
  have hpure : (pureOp P ts o).map (ORes.val · s 0) = some (ORes.val v s' k) → OpOk P B π lm s w o a v s' := fun h => by
    simp only [Option.map_eq_some_iff, ORes.val.injEq] at h
    obtain ⟨v', h1, rfl, rfl, _⟩ := h
    exact op_pure hw h1 r
  unfold evOp at h
  split at h
  all_goals (rename_i ho)
  · -- move
    simp only [Option.map_eq_some_iff, ORes.val.injEq] at h
    obtain ⟨v', h1, rfl, rfl, _⟩ := h
    exact ⟨.still hw (c := a.eval _) (by simp [execOp, ho]) (eval_rel h1 r), by simp [ho]⟩
  · -- assign
    simp only [Option.map_eq_some_iff, ORes.val.injEq] at h
    obtain ⟨v', h1, rfl, rfl, _⟩ := h
    exact ⟨.still hw (c := a.eval _) (by simp [execOp, ho]) (eval_rel h1 r), by simp [ho]⟩
  · -- pick
    split at h
    · rename_i t ht
      simp only [Option.map_eq_some_iff, ORes.val.injEq] at h
      obtain ⟨v', h1, rfl, rfl, _⟩ := h
      have hb := VR.bool_inv (eval_rel ht r)
      have hv := eval_rel h1 r
      refine ⟨.still hw (c := a.eval _) ?_ hv, by simp [ho]⟩
      cases t <;> simp [execOp, ho, hb, asBool]
    · cases h
  · -- binOp
    simp only [Option.map_eq_some_iff, ORes.val.injEq] at h
    obtain ⟨v', h1, rfl, rfl, _⟩ := h
    exact ⟨op_binS ho hw h1 r, by simp [ho]⟩
  · -- convert
    unfold convA at h
    split at h
    · rename_i v' h1
      simp only [Option.some.injEq, ORes.val.injEq] at h
      obtain ⟨rfl, rfl, _⟩ := h
      exact ⟨op_convS ho hw h1 r, by simp [ho]⟩
    · split at h
      · rename_i u hx
        simp only [Option.map_eq_some_iff, ORes.val.injEq] at h
        obtain ⟨v', h1, rfl, rfl, _⟩ := h
        exact ⟨op_str ho hw hx h1 r, by simp [ho]⟩
      · cases h
  · -- unOp
    simp only [Option.map_eq_some_iff, ORes.val.injEq] at h
    obtain ⟨v', h1, rfl, rfl, _⟩ := h
    exact ⟨op_unS ho hw h1 r, by simp [ho]⟩
  · -- nilCheck
    split at h
    · rename_i b off hx
      simp only [Option.some.injEq, ORes.val.injEq] at h
      obtain ⟨rfl, rfl, _⟩ := h
      exact ⟨op_nilCheck ho hw hx r, by simp [ho]⟩
    · simp only [Option.map_eq_some_iff, ORes.val.injEq] at h
      obtain ⟨v', h1, rfl, rfl, _⟩ := h
      exact ⟨op_pure hw h1 r, by simp [ho]⟩
  · -- load
    split at h
    · rename_i b off hx
      simp only [Option.map_eq_some_iff, ORes.val.injEq] at h
      obtain ⟨v', h1, rfl, rfl, _⟩ := h
      exact ⟨op_load ho hw hx h1 r, by simp [ho]⟩
    · cases h
  · -- store
    split at h
    · rename_i b off x n hx hy hn
      split at h
      · rename_i hl
        simp only [Option.map_eq_some_iff, ORes.val.injEq] at h
        obtain ⟨s1, h1, rfl, rfl, _⟩ := h
        exact ⟨op_store ho hw hx hy hn hl h1 r, by simp [ho]⟩
      · cases h
    · cases h
  · -- fieldAddr
    split at h
    · rename_i fs b off hu hx
      split at h
      · rename_i fd hf
        split at h
        · rename_i n hn
          split at h
          · cases h
          · rename_i h0
            simp only [Option.some.injEq, ORes.val.injEq] at h
            obtain ⟨rfl, rfl, _⟩ := h
            exact ⟨op_fieldAddr ho hw hx hu hf hn h0 r, by simp [ho]⟩
        · cases h
      · cases h
    · cases h
  · -- indexAddr
    split at h
    · rename_i len e b off kk n hu hx hi
      split at h
      · rename_i es hn
        split at h
        · rename_i hr
          simp only [Option.some.injEq, ORes.val.injEq] at h
          obtain ⟨rfl, rfl, _⟩ := h
          exact ⟨op_indexArr ho hw hx hi hu hn hr r, by simp [ho]⟩
        · cases h
      · cases h
    · rename_i e b off len cap ex es' kk n hu hx hi
      split at h
      · rename_i es hn
        split at h
        · rename_i hr
          simp only [Option.some.injEq, ORes.val.injEq] at h
          obtain ⟨rfl, rfl, _⟩ := h
          exact ⟨op_indexSl ho hw hx hi hu hn hr r, by simp [ho]⟩
        · cases h
      · cases h
    · cases h
  · -- alloc
    simp only [Option.map_eq_some_iff, ORes.val.injEq] at h
    obtain ⟨z, h1, rfl, rfl, _⟩ := h
    exact ⟨op_alloc ho hw hB h1, by simp [ho]⟩
  · -- box
    simp only [Option.map_eq_some_iff, ORes.val.injEq] at h
    obtain ⟨z, h1, rfl, rfl, _⟩ := h
    exact ⟨op_box ho hw hB h1 r, by simp [ho]⟩
  · -- build
    split at h
    · rename_i ps hps
      simp only [Option.map_eq_some_iff, ORes.val.injEq] at h
      obtain ⟨z, h1, rfl, rfl, _⟩ := h
      exact ⟨op_build ho hw hps h1 r, by simp [ho]⟩
    · cases h
  · -- buildSlice
    split at h
    · rename_i e hu
      split at h
      · rename_i es z ps hn hz hps
        split at h
        · cases h
        · rename_i hc
          simp only [not_or, ne_eq, Decidable.not_not] at hc
          simp only [Option.map_eq_some_iff, ORes.val.injEq] at h
          obtain ⟨cs, h1, rfl, rfl, _⟩ := h
          exact ⟨op_buildSlice ho hw hB hu hn hz hps hc.1 hc.2 h1 r, by simp [ho]⟩
      · cases h
    · cases h
  · -- makeSlice
    split at h
    · rename_i e hu
      split at h
      · rename_i es bs z k1 n k2 m hn hb hz hx hy
        split at h
        · rename_i hc
          simp only [Option.some.injEq, ORes.val.injEq] at h
          obtain ⟨rfl, rfl, _⟩ := h
          exact ⟨op_makeSlice ho hw hB hu hn hb hz hx hy hc.1 hc.2.1 hc.2.2.1 hc.2.2.2.1 hc.2.2.2.2 r, by simp [ho]⟩
        · cases h
      · cases h
    · cases h
  · -- makeFunc
    split at h
    · rename_i f l1 l2 h1 h2
      simp only [Option.some.injEq, ORes.val.injEq] at h
      obtain ⟨rfl, rfl, _⟩ := h
      exact ⟨op_makeFunc ho hw h1 h2 r, by simp [ho]⟩
    · cases h
  · -- slice
    split at h
    · rename_i v0 l hh hx hl hhi
      split at h
      · rename_i r' hr
        simp only [Option.some.injEq, ORes.val.injEq] at h
        obtain ⟨rfl, rfl, _⟩ := h
        exact ⟨op_slice ho hw hx hl hhi hr r, by simp [ho]⟩
      · exact ⟨hpure h, by simp [ho]⟩
    · cases h
  · -- extract
    split at h
    · rename_i vs hx
      split at h
      · rename_i v0 hv
        simp only [Option.some.injEq, ORes.val.injEq] at h
        obtain ⟨rfl, rfl, _⟩ := h
        exact ⟨op_extract ho hw hx hv r, by simp [ho]⟩
      · cases h
    · cases h
  · -- call
    split at h
    · rename_i b hc
      split at h
      · rename_i args hargs
        split at h
        · rename_i v0 s0 k0 hb
          simp only [Option.some.injEq, ORes.val.injEq] at h
          obtain ⟨rfl, rfl, _⟩ := h
          exact ⟨op_builtin ho hc hw hB hargs hb r, by simp [ho]⟩
        · exact ⟨hpure h, by simp [ho]⟩
      · cases h
    · split at h
      · cases h
      · cases h
      · cases h
    · cases h
  · -- others
    refine ⟨hpure h, ?_⟩
    intro c hc
    simp only [Option.map_eq_some_iff] at h
    obtain ⟨v', h1, _⟩ := h
    unfold pureOp at h1
    rw [hc] at h1
    simp [plainOp] at h1

theorem call_run {g : FuncId} {fn : Func} {body : Code} (hg : P.funcs[g]? = some fn) (hb : fn.body = some body) (hname : fn.name ≠ "runtime.NumGoroutine") (args : Array Value) (w : World) :
    (callFunc g args).run P w = .ok (.enter g args) w := by
  simp [callFunc, hg, hname, hb]

theorem not_call {α : Type} {x : Option α} {f : α → AV} {st : α → St} {k : Nat} {R : ORes} (hR : ∀ v s k, R ≠ .val v s k) (h : x.map (fun v => ORes.val (f v) (st v) k) = some R) : False := by
  cases x with
  | none => cases h
  | some v => simp only [Option.map_some, Option.some.injEq] at h; exact hR _ _ _ h.symm

theorem evOp_other {o : Oper} {R : ORes} (hR : ∀ v s k, R ≠ .val v s k) (h : evOp P ts o s = some R) :
    ∃ c f xs, o.op = .call c ∧ c.callee = .value f ∧ evals ts c.args.toList = some xs ∧
      ((∃ g l1 l2, eval ts f = some (.fn g l1 l2) ∧ R = .call g (l1 ++ (xs ++ l2))) ∨ (∃ l, eval ts f = some (.yield l) ∧ R = .round l xs)) := by
  unfold evOp convA at h
  split at h
  case h_20 =>
    rename_i c ho
    split at h
    · split at h
      · split at h
        · simp only [Option.some.injEq] at h; exact (hR _ _ _ h.symm).elim
        · exact (not_call hR h).elim
      · cases h
    · rename_i f hf
      split at h
      · rename_i g l1 l2 xs h1 h2
        simp only [Option.some.injEq] at h
        exact ⟨c, f, xs, ho, hf, h2, .inl ⟨g, l1, l2, h1, h.symm⟩⟩
      · rename_i l xs h1 h2
        simp only [Option.some.injEq] at h
        exact ⟨c, f, xs, ho, hf, h2, .inr ⟨l, h1, h.symm⟩⟩
      · cases h
    · cases h
  all_goals
    exfalso
    first
    | exact not_call hR h
    | ((repeat' split at h) <;> first | (cases h; done) | exact not_call hR h | exact hR _ _ _ (Option.some.inj h).symm)

theorem VR.fn_inv {f : FuncId} {l1 l2 : List AV} {c : Value} (h : VR π lm (.fn f l1 l2) c) : ∃ a1 a2, c = .func (.func f) a1 a2 ∧ LR π lm l1 a1.toList ∧ LR π lm l2 a2.toList := by
  cases h with
  | fn f s1 h1 s2 h2 => exact ⟨_, _, rfl, ⟨s1, h1⟩, ⟨s2, h2⟩⟩

theorem VR.yield_inv {l : Nat} {c : Value} (h : VR π lm (.yield l) c) : ∃ L, lm[l]? = some L ∧ c = .func (.yield L) #[] #[] := by
  cases h with
  | yield h => exact ⟨_, h, rfl⟩

theorem evOp_call {o : Oper} {g : FuncId} {args : List AV} {fn : Func} {body : Code} (r : LR π lm ts a.tmps.toList) (h : evOp P ts o s = some (.call g args)) (hg : P.funcs[g]? = some fn)
    (hb : fn.body = some body) (hname : fn.name ≠ "runtime.NumGoroutine") (w : World) :
    (∃ vs, (execOp a.eval o).run P w = .ok (.enter g vs) w ∧ LR π lm args vs.toList) ∧ ∀ c, o.op ≠ .defer c := by
  obtain ⟨c, f, xs, ho, hc, hxs, ⟨g', l1, l2, hf, he⟩ | ⟨l, _, he⟩⟩ := evOp_other (by simp) h
  · cases he
    obtain ⟨a1, a2, h1, h2, h3⟩ := VR.fn_inv (eval_rel hf r)
    have hx := evals_rel hxs r
    refine ⟨⟨a1 ++ c.args.map a.eval ++ a2, ?_, ?_⟩, by simp [ho]⟩
    · simp [execOp, ho, resolve, hc, h1, Deferred.ofValue, invoke, call_run hg hb hname]
    · simp only [Array.toList_append, Array.toList_map, List.append_assoc]
      exact h2.append (hx.append h3)
  · cases he

theorem evOp_round {o : Oper} {l : Nat} {args : List AV} (r : LR π lm ts a.tmps.toList) (h : evOp P ts o s = some (.round l args)) (hw : WR B π lm s w) {rec : ALoop} (hl : s.loops[l]? = some rec)
    (hlen : args.length = rec.params.length) :
    (∃ (L : Nat) (fn : FuncId) (D : Nat) (tv : Array Value) (st : LoopState) (pd : Option Code) (vs : Array Value), lm[l]? = some L ∧
      w.heap[L]? = some (.loop { state := st, pending := pd, fn, tmps := tv, params := rec.params.toArray, assign := rec.assign, body := rec.body, defers := D }) ∧ rec.stat.rel st pd ∧ LR π lm rec.tmps tv.toList ∧
      (execOp a.eval o).run P w = .ok (.round L fn ((rec.params.toArray.zip vs).foldl (fun tmps (t, a) => tmps.setIfInBounds t a) tv) rec.assign rec.body) w ∧ LR π lm args vs.toList) ∧ ∀ c, o.op ≠ .defer c := by
  obtain ⟨c, f, xs, ho, hc, hxs, ⟨g', l1, l2, hf, he⟩ | ⟨l', hf, he⟩⟩ := evOp_other (by simp) h
  · cases he
  · cases he
    obtain ⟨L, h1, h2⟩ := VR.yield_inv (eval_rel hf r)
    have hx := evals_rel hxs r
    obtain ⟨L', fn, D, tv, st, pd, k1, k2, k3, k4⟩ := hw.loop l rec hl
    rw [h1] at k1
    obtain rfl := Option.some.inj k1
    refine ⟨⟨L, fn, D, tv, st, pd, c.args.map a.eval, h1, k2, k3, k4, ?_, by rw [Array.toList_map]; exact hx⟩, by simp [ho]⟩
    have hs : (c.args.map a.eval).size = rec.params.toArray.size := by have := hx.1; simp at this; simp; omega
    have := run_yield (P := P) (args := c.args.map a.eval) k2 hs
    simp only [execOp, ho, resolve, hc, h2, Deferred.ofValue, invoke, Sem.run_bind, Sem.run_pure, Result.andThen_ok, Array.empty_append, this]

end Go.Ev

/- The evaluator is right: what it needs of itself; lists of operations. -/
namespace Go.Ev
open Go.RowKit (Below)
set_option linter.unusedSectionVars false
variable [Rho]

def Fr (ro : Option Nat) : Fence := { Fence.wide with round := ro }

def EX : AExit → Exit → Prop
  | .normal, .normal => True
  | .exit i, .exit j => i = j
  | .goto i, .goto j => i = j
  | .ret, .ret => True
  | _, _ => False

def mark (D : Nat) : Deferred := { target := .collected D, args := #[] }

/-- the marks that loops over functions have left -/
def Mk (w : World) (a a' : Act) (w' : World) : Prop :=
  ∃ Ds : List Nat, a'.defers = Ds.map mark ++ a.defers ∧ Ds.Nodup ∧ ∀ D, D ∈ Ds → w.heap.size ≤ D ∧ w'.heap[D]? = some (.deferred (some []))

def Post (B : Nat) (π : Inj) (lm : List Nat) (s : St) (w : World) (a : Act) (e : AExit) (ts' : List AV) (s' : St) : Exit → Act → World → Prop :=
  fun x a' w' => EX e x ∧ ∃ π' lm', WR B π' lm' s' w' ∧ LR π' lm' ts' a'.tmps.toList ∧ Tr π π' lm lm' s s' w w' ∧ Mk w a a' w'

def CallPost (B : Nat) (π : Inj) (lm : List Nat) (s : St) (w : World) (v : AV) (s' : St) : Ending → World → Prop :=
  fun e w' => ∃ c π' lm', e = .returned c ∧ VR π' lm' v c ∧ WR B π' lm' s' w' ∧ Tr π π' lm lm' s s' w w'

def RoundPost (B : Nat) (π : Inj) (lm : List Nat) (s : St) (w : World) (b : Bool) (s' : St) : Ending → World → Prop :=
  fun e w' => ∃ π' lm', e = .returned (.bool b) ∧ WR B π' lm' s' w' ∧ Tr π π' lm lm' s s' w w'

def SCall (P : Program) (call : FuncId → List AV → St → Option (AV × St × Bool)) : Prop :=
  ∀ f args s v s' q, call f args s = some (v, s', q) → (∃ fn body, P.funcs[f]? = some fn ∧ fn.body = some body) ∧ (q = true → s' = s) ∧
    ∀ B π lm w (vs : Array Value) N ro, WR B π lm s w → B ≤ w.heap.size → LR π lm args vs.toList → CallsIn (Fr ro) N P f vs w (CallPost B π lm s w v s')

def SRound (P : Program) (round : Nat → List AV → St → Option (Bool × St)) : Prop :=
  ∀ l args s b s', round l args s = some (b, s') → ∃ r : ALoop, s.loops[l]? = some r ∧ r.stat = .ready ∧ args.length = r.params.length ∧
    ∀ B π lm w (vs : Array Value) N ro (L : Nat) (fn : FuncId) (D : Nat) (tv : Array Value), WR B π lm s w → B ≤ w.heap.size → LR π lm args vs.toList → lm[l]? = some L →
      w.heap[L]? = some (.loop { state := .ready, pending := none, fn, tmps := tv, params := r.params.toArray, assign := r.assign, body := r.body, defers := D }) → LR π lm r.tmps tv.toList →
      RoundIn (Fr ro) N P L fn ((r.params.toArray.zip vs).foldl (fun tmps (t, a) => tmps.setIfInBounds t a) tv) r.assign r.body w (RoundPost B π lm s w b s')

def SCode (P : Program) (code : Code → List AV → St → Option (AExit × List AV × St)) : Prop :=
  ∀ c ts s e ts' s', code c ts s = some (e, ts', s') → ∀ B π lm w (a : Act) N ro, WR B π lm s w → B ≤ w.heap.size → LR π lm ts a.tmps.toList → (∀ L0, ro = some L0 → L0 ∈ lm) →
    c.wpIn (Fr ro) N P (Post B π lm s w a e ts' s') a w

variable {P : Program} {B : Nat} {π : Inj} {lm : List Nat} {s : St} {w : World} {ts : List AV} {a : Act}

theorem bool_slot {d : Tmp} (r : LR π lm ts a.tmps.toList) (b : Bool) : (∃ v, ts[d]? = some v ∧ v = .bool b) ↔ a.tmps[d]? = some (.bool b) := by
  constructor
  · rintro ⟨v, h, rfl⟩
    obtain ⟨c, hc, hv⟩ := r.get h
    rw [Array.getElem?_toList] at hc
    rw [hc, hv.bool_inv]
  · intro h
    cases hd : ts[d]? with
    | none =>
      have := r.none hd
      rw [Array.getElem?_toList, h] at this; cases this
    | some v =>
      obtain ⟨c, hc, hv⟩ := r.get hd
      rw [Array.getElem?_toList, h] at hc
      obtain rfl := Option.some.inj hc
      refine ⟨v, rfl, ?_⟩
      cases hv with
      | bool b => rfl
      | top h hb => exact absurd rfl (hb _)

theorem wanted_rel {ops : Array Oper} {o : Oper} (r : LR π lm ts a.tmps.toList) : Region.wanted o (yielded ops a.tmps) = wantedA ops.toList o ts := by
  unfold Region.wanted wantedA
  cases hg : o.guard with
  | none => rfl
  | some g =>
    obtain ⟨j, want⟩ := g
    simp only [Array.getElem?_toList]
    unfold yielded
    cases hd : (ops[j]?).bind (·.dst) with
    | none => simp
    | some d =>
      simp only [Option.bind_some]
      cases ht : ts[d]? with
      | none =>
        have := r.none ht
        rw [Array.getElem?_toList] at this
        rw [this]; simp
      | some v =>
        obtain ⟨c, hc, hv⟩ := r.get ht
        rw [Array.getElem?_toList] at hc
        rw [hc]
        cases hv with
        | top h hb =>
          cases c with
          | bool b => exact absurd rfl (hb b)
          | _ => simp
        | _ => simp

theorem Mk.refl (w : World) (a : Act) (w' : World) : Mk w a a w' := ⟨[], by simp, by simp, by simp⟩

theorem Mk.same {w w' : World} {a a' : Act} (h : a'.defers = a.defers) : Mk w a a' w' := ⟨[], by simp [h], by simp, by simp⟩

theorem WR.not_img (h : WR B π lm s w) {D : Nat} {x : Option (List Deferred)} (hD : w.heap[D]? = some (.deferred x)) : (∀ i A n, s.heap[i]? = some (some A) → A.ro = false → π i ≠ some (D, n)) ∧ D ∉ lm := by
  constructor
  · intro i A n hA _ hp
    obtain ⟨c, fz, hc, _⟩ := h.at hA hp
    rw [hD] at hc; cases hc
  · intro hm
    obtain ⟨l, hl, rfl⟩ := List.getElem_of_mem hm
    obtain ⟨r, hr⟩ : ∃ r, s.loops[l]? = some r := ⟨_, List.getElem?_eq_getElem (h.lsz ▸ hl)⟩
    obtain ⟨L', fn, D', ts, st, pd, h1, h2, h3⟩ := h.loop l r hr
    rw [List.getElem?_eq_getElem hl] at h1
    obtain rfl := Option.some.inj h1
    rw [hD] at h2; cases h2

theorem Mk.trans {π' : Inj} {lm' : List Nat} {s' : St} {w w1 w2 : World} {a a1 a2 : Act} (h : Mk w a a1 w1) (k : Mk w1 a1 a2 w2) (hw : WR B π lm s w1) (ht : Tr π π' lm lm' s s' w1 w2) (hsz : w.heap.size ≤ w1.heap.size) :
    Mk w a a2 w2 := by
  obtain ⟨D1, e1, n1, g1⟩ := h
  obtain ⟨D2, e2, n2, g2⟩ := k
  refine ⟨D2 ++ D1, by rw [e2, e1]; simp, ?_, ?_⟩
  · rw [List.nodup_append]
    refine ⟨n2, n1, fun x hx y hy e => ?_⟩
    subst e
    have := (g2 x hx).1
    have := lt_of_some (g1 x hy).2
    omega
  · intro D hD
    rcases List.mem_append.1 hD with hD | hD
    · exact ⟨by have := (g2 D hD).1; omega, (g2 D hD).2⟩
    · obtain ⟨k1, k2⟩ := hw.not_img (g1 D hD).2
      exact ⟨(g1 D hD).1, by rw [ht.keep D (lt_of_some (g1 D hD).2) k1 k2]; exact (g1 D hD).2⟩

theorem put_defers (a : Act) (dst : Option Tmp) (v : Value) : (a.put dst v).defers = a.defers := by cases dst <;> rfl

theorem semAt_exec {ro : Option Nat} {ρ : Operand → Value} {o : Oper} (h : ∀ c, o.op ≠ .defer c) : o.semAt ro ρ = execOp ρ o := Oper.semAt_eq ro ρ o h

/-- one operation -/
theorem one_sound {rec : Ev} (hname : ∀ (f : Nat) (fn : Func), P.funcs[f]? = some fn → fn.name ≠ "runtime.NumGoroutine") (hc : SCall P rec.call) (hr : SRound P rec.round) {o : Oper} {v : AV} {s' : St}
    (h : evOneV P rec o ts s = some (v, s')) (hw : WR B π lm s w) (hB : B ≤ w.heap.size) (r : LR π lm ts a.tmps.toList) (N : Nat) (ro : Option Nat) (K : Act → World → Prop) (Q : Exit → Act → World → Prop)
    (hK : ∀ c w' π' lm', VR π' lm' v c → WR B π' lm' s' w' → Tr π π' lm lm' s s' w w' → K (a.put o.dst c) w') :
    o.wpIn (Fr ro) N P a w K Q := by
  refine ⟨fun _ _ => trivial, ?_⟩
  unfold evOneV at h
  split at h
  · rename_i v s1 k hop
    simp only [Option.some.injEq, Prod.mk.injEq] at h
    obtain ⟨rfl, rfl⟩ := h
    obtain ⟨⟨nx, c, w', π', k1, k2, k3, k4, k5⟩, hd⟩ := evOp_val hw hB r hop
    rw [semAt_exec hd, k1]
    have hfin : K (a.put o.dst c) w' := hK _ _ π' lm k3 k4 k5
    rcases k2 with rfl | ⟨rfl, rfl⟩
    · exact hfin
    · exact hfin
  · rename_i f args hop
    split at h
    · rename_i v s1 q hcall
      simp only [Option.some.injEq, Prod.mk.injEq] at h
      obtain ⟨rfl, rfl⟩ := h
      obtain ⟨⟨fn, body, h1, h2⟩, _, h3⟩ := hc _ _ _ _ _ _ hcall
      obtain ⟨⟨vs, k1, k2⟩, hd⟩ := evOp_call r hop h1 h2 (hname f fn h1) w
      rw [semAt_exec hd, k1]
      refine ⟨fun hh => by simp [Fr, Fence.wide] at hh, (h3 B π lm w vs (N - 1) ro hw hB k2).mono ?_⟩
      rintro e w' ⟨c, π', lm', rfl, m1, m2, m3⟩
      exact hK _ _ π' lm' m1 m2 m3
    · cases h
  · rename_i l args hop
    split at h
    · rename_i b s1 hround
      simp only [Option.some.injEq, Prod.mk.injEq] at h
      obtain ⟨rfl, rfl⟩ := h
      obtain ⟨rr, h1, h2, h3, h4⟩ := hr _ _ _ _ _ hround
      obtain ⟨⟨L, fn, D, tv, st, pd, vs, k1, k2, k3, k4, k5, k6⟩, hd⟩ := evOp_round r hop hw h1 h3
      rw [semAt_exec hd, k5]
      have hst : st = .ready ∧ pd = none := by
        rw [h2] at k3
        cases st <;> cases pd <;> simp [LStat.rel] at k3 ⊢
      obtain ⟨rfl, rfl⟩ := hst
      refine ⟨fun hh => by simp [Fr, Fence.wide] at hh, (h4 B π lm w vs (N - 1) ro L fn D tv hw hB k6 k1 k2 k4).mono ?_⟩
      rintro e w' ⟨π', lm', rfl, m2, m3⟩
      exact hK _ _ π' lm' (.bool b) m2 m3
    · cases h
  · cases h

theorem ops_sound {rec : Ev} (hname : ∀ (f : Nat) (fn : Func), P.funcs[f]? = some fn → fn.name ≠ "runtime.NumGoroutine") (hc : SCall P rec.call) (hr : SRound P rec.round) (ops : Array Oper) (N : Nat) (ro : Option Nat)
    (Q : Exit → Act → World → Prop) {ts' : List AV} {s' : St} : ∀ (rest : List Oper) (k : Nat) (ts : List AV) (s : St) (π : Inj) (lm : List Nat) (w : World) (a : Act), (∀ (j : Nat), rest[j]? = ops[k + j]?) →
    evOps P rec ops.toList rest ts s = some (ts', s') → WR B π lm s w → B ≤ w.heap.size → LR π lm ts a.tmps.toList →
    (∀ a' w' π' lm', WR B π' lm' s' w' → LR π' lm' ts' a'.tmps.toList → Tr π π' lm lm' s s' w w' → a'.defers = a.defers → Q .normal a' w') →
    wpOpsIn (Fr ro) N P ops Q (List.range' k rest.length) a w := by
  intro rest
  induction rest with
  | nil =>
    intro k ts s π lm w a _ h hw _ r hQ
    simp only [evOps, Option.some.injEq, Prod.mk.injEq] at h
    obtain ⟨rfl, rfl⟩ := h
    simp only [List.length_nil, List.range'_zero, wpOpsIn]
    exact hQ a w π lm hw r (Tr.refl _ _ _ hw.dom) rfl
  | cons o rest ih =>
    intro k ts s π lm w a hops h hw hB r hQ
    have ho : ops[k]? = some o := by have := hops 0; simpa using this.symm
    have hrest : ∀ (j : Nat), rest[j]? = ops[k + 1 + j]? := fun j => by
      have := hops (j + 1)
      simp only [List.getElem?_cons_succ] at this
      rw [this]; congr 1; omega
    simp only [List.length_cons, List.range'_succ, wpOpsIn, ho]
    rw [wanted_rel r]
    simp only [evOps] at h
    split at h
    · rename_i hwant
      rw [if_pos hwant]
      split at h
      · rename_i v1 s1 hone
        refine one_sound hname hc hr hone hw hB r N ro _ Q ?_
        intro c w1 π1 lm1 k0 k1 k3
        refine ih (k + 1) _ s1 π1 lm1 w1 _ hrest h k1 (Nat.le_trans hB k3.size) (put_rel (k3.lr r) k0) ?_
        intro a2 w2 π2 lm2 m1 m2 m3 m4
        exact hQ a2 w2 π2 lm2 m1 m2 (k3.trans m3) (m4.trans (put_defers _ _ _))
      · cases h
    · rename_i hwant
      rw [if_neg hwant]
      refine ⟨fun _ _ => trivial, ih (k + 1) _ s π lm w _ hrest h hw hB (put_rel r .undef) ?_⟩
      intro a2 w2 π2 lm2 m1 m2 m3 m4
      exact hQ a2 w2 π2 lm2 m1 m2 m3 (m4.trans (put_defers _ _ _))

end Go.Ev

/- Loops over functions: their records; results. -/
namespace Go.Ev
open Go.RowKit (Below)
set_option linter.unusedSectionVars false
variable [Rho]

variable {P : Program} {B : Nat} {π : Inj} {lm : List Nat} {s : St} {w : World} {ts : List AV} {a : Act}

theorem putObj_heap (w : World) (b : Nat) (o : Obj) (r : Nat) : (w.putObj b o).heap[r]? = if b = r ∧ b < w.heap.size then some o else w.heap[r]? := upd_heap w b o r
theorem putObj_other {w : World} {b r : Nat} {o : Obj} (h : r ≠ b) : (w.putObj b o).heap[r]? = w.heap[r]? := by
  rw [putObj_heap]; simp [Ne.symm h]
theorem putObj_size (w : World) (b : Nat) (o : Obj) : (w.putObj b o).heap.size = w.heap.size := upd_size w b o

theorem WR.congr {s' : St} (h : WR B π lm s w) (h1 : s'.heap = s.heap) (h2 : s'.loops = s.loops) : WR B π lm s' w :=
  ⟨by rw [h1]; exact h.dom, by rw [h1]; exact h.blk, by rw [h1]; exact h.inj, by rw [h2]; exact h.lsz, h.linj, by rw [h2]; exact h.loop⟩

theorem WR.img_lt (h : WR B π lm s w) {i : Nat} {A : ABlk} (hA : s.heap[i]? = some (some A)) {b n : Nat} (hp : π i = some (b, n)) : b < w.heap.size := by
  obtain ⟨c, fz, hc, _⟩ := h.at hA hp
  exact lt_of_some hc

theorem WR.loop_lt (h : WR B π lm s w) {L : Nat} (hL : L ∈ lm) : ∃ r, w.heap[L]? = some (.loop r) := by
  obtain ⟨l, hl1, rfl⟩ := List.getElem_of_mem hL
  obtain ⟨r, hr⟩ : ∃ r, s.loops[l]? = some r := ⟨_, List.getElem?_eq_getElem (h.lsz ▸ hl1)⟩
  obtain ⟨L', fn, D, ts, st, pd, h1, h2, h3⟩ := h.loop l r hr
  rw [List.getElem?_eq_getElem hl1] at h1
  obtain rfl := Option.some.inj h1
  exact ⟨_, h2⟩

/-- a block that is no row of the state's is changed -/
theorem WR.putOther (h : WR B π lm s w) {D : Nat} {o : Obj} (h1 : ∀ i A n, s.heap[i]? = some (some A) → π i ≠ some (D, n)) (h2 : D ∉ lm) : WR B π lm s (w.putObj D o) := by
  refine ⟨h.dom, ?_, h.inj, h.lsz, h.linj, ?_⟩
  · intro i A hA
    obtain ⟨b, n, c, fz, k1, k2, k3⟩ := h.blk i A hA
    exact ⟨b, n, c, fz, k1, by rw [putObj_other (fun e => h1 i A n hA (by rw [← e]; exact k1))]; exact k2, k3⟩
  · intro l r hr
    obtain ⟨L, fn, D', ts, st, pd, k1, k2, k3⟩ := h.loop l r hr
    exact ⟨L, fn, D', ts, st, pd, k1, by rw [putObj_other (fun e => h2 (by rw [← e]; exact List.mem_of_getElem? k1))]; exact k2, k3⟩

/-- a block is changed that was not there before -/
theorem Tr.putNew {π' : Inj} {lm' : List Nat} {s' s'' : St} {w' : World} (h : Tr π π' lm lm' s s' w w') (hw : WR B π lm s w) {D : Nat} {o : Obj} (hD : w.heap.size ≤ D) (e1 : s''.heap = s'.heap) (e2 : s''.lo = s'.lo) (e3 : s''.nd = s'.nd) :
    Tr π π' lm lm' s s'' w (w'.putObj D o) := by
  have hne : ∀ r, r < w.heap.size → (w'.putObj D o).heap[r]? = w'.heap[r]? := fun r hr => putObj_other (by omega)
  refine ⟨h.os, h.tape, h.output, by rw [putObj_size]; exact h.size, fun r hr h1 h2 => by rw [hne r hr]; exact h.keep r hr h1 h2, ?_, by rw [e1, e2]; exact h.same, ?_, by rw [e2]; exact h.lo_le, by rw [e3]; exact h.nd_le, h.le, h.old,
    by rw [e1]; exact h.len, by rw [e1]; exact h.liv, h.new, h.lmx⟩
  · intro i A b n hA hlo hp
    rw [hne b (hw.img_lt hA hp)]
    exact h.low i A b n hA (by rw [← e2]; exact hlo) hp
  · intro hnd L hL
    obtain ⟨r, hr⟩ := hw.loop_lt hL
    rw [hne L (lt_of_some hr)]
    exact h.lkeep (by rw [← e3]; exact hnd) L hL

theorem setStat_heap (s : St) (l : Nat) (x : LStat) : (setStat s l x).heap = s.heap := by unfold setStat; split <;> rfl
theorem setStat_lo (s : St) (l : Nat) (x : LStat) : (setStat s l x).lo = s.lo := by unfold setStat; split <;> rfl
theorem setStat_nd (s : St) (l : Nat) (x : LStat) : (setStat s l x).nd = s.nd := by unfold setStat; split <;> rfl
theorem setStat_loops {s : St} {l : Nat} {r : ALoop} (h : s.loops[l]? = some r) (x : LStat) (j : Nat) : (setStat s l x).loops[j]? = if l = j then some { r with stat := x } else s.loops[j]? := by
  have hl := (List.getElem?_eq_some_iff.1 h).1
  simp only [setStat, h, setNth_eq, List.getElem?_set]
  by_cases hj : l = j
  · subst hj; simp [hl]
  · simp [hj]

theorem WR.setStat (h : WR B π lm s w) {l L : Nat} {r : ALoop} (hr : s.loops[l]? = some r) (hL : lm[l]? = some L) (x : LStat) {fn : FuncId} {D : Nat} {tv : Array Value} {st : LoopState} {pd : Option Code} (hrel : x.rel st pd)
    (hts : LR π lm r.tmps tv.toList) : WR B π lm (setStat s l x) (w.putObj L (.loop { state := st, pending := pd, fn, tmps := tv, params := r.params.toArray, assign := r.assign, body := r.body, defers := D })) := by
  have hmem : L ∈ lm := List.mem_of_getElem? hL
  obtain ⟨r0, hr0⟩ := h.loop_lt hmem
  refine ⟨by rw [setStat_heap]; exact h.dom, ?_, by rw [setStat_heap]; exact h.inj, ?_, h.linj, ?_⟩
  · rw [setStat_heap]
    intro i A hA
    obtain ⟨b, n, c, fz, k1, k2, k3⟩ := h.blk i A hA
    exact ⟨b, n, c, fz, k1, by rw [putObj_other (fun e => by rw [e, hr0] at k2; cases k2)]; exact k2, k3⟩
  · rw [h.lsz]; unfold Ev.setStat; rw [hr]; simp [setNth_eq]
  · intro j r' hr'
    rw [setStat_loops hr] at hr'
    by_cases hj : l = j
    · subst hj
      simp at hr'
      subst hr'
      exact ⟨L, fn, D, tv, st, pd, hL, by rw [putObj_heap]; simp [lt_of_some hr0], hrel, hts⟩
    · simp [hj] at hr'
      obtain ⟨L', fn', D', ts', st', pd', k1, k2, k3⟩ := h.loop j r' hr'
      exact ⟨L', fn', D', ts', st', pd', k1, by rw [putObj_other (fun e => hj (h.linj l j L hL (by rw [← e]; exact k1)))]; exact k2, k3⟩

/-- a loop's record is changed before and behind -/
theorem Tr.around {π' : Inj} {lm' : List Nat} {s1 sb s2 s' : St} {w1 w3 : World} {L : Nat} {o1 o2 : Obj} (h : Tr π π' lm lm' sb s2 (w1.putObj L o1) w3) (hw : WR B π lm s1 w1) (hL : L ∈ lm)
    (e1 : sb.heap = s1.heap) (e2 : sb.lo = s1.lo) (e3 : sb.nd = s1.nd) (e4 : s'.heap = s2.heap) (e5 : s'.lo = s2.lo) (e6 : s2.nd ≤ s'.nd)
    (hs : s'.nd = s1.nd → (w3.putObj L o2).heap[L]? = w1.heap[L]?) : Tr π π' lm lm' s1 s' w1 (w3.putObj L o2) := by
  obtain ⟨r0, hr0⟩ := hw.loop_lt hL
  have hsz := h.size
  rw [putObj_size] at hsz
  refine ⟨h.os, h.tape, h.output, by rw [putObj_size]; exact hsz, ?_, ?_, by rw [e4, e5, ← e1]; exact h.same, ?_, by rw [e5, ← e2]; exact h.lo_le, by rw [← e3]; exact Nat.le_trans h.nd_le e6, h.le,
    by rw [← e1]; exact h.old, by rw [← e1, e4]; exact h.len, by rw [← e1, e4]; exact h.liv, ?_, ?_⟩
  · intro r hr h1 h2
    have hne : r ≠ L := fun e => h2 (e ▸ hL)
    rw [putObj_other hne, h.keep r (by rw [putObj_size]; exact hr) (by rw [e1]; exact h1) h2, putObj_other hne]
  · intro i A b n hA hlo hp
    have hne : b ≠ L := fun e => by
      obtain ⟨c, fz, hc, _⟩ := hw.at hA hp
      rw [e, hr0] at hc; cases hc
    rw [putObj_other hne, h.low i A b n (by rw [e1]; exact hA) (by rw [← e5]; exact hlo) hp, putObj_other hne]
  · intro hnd L' hL'
    by_cases hne : L' = L
    · subst hne; exact hs hnd
    · have := h.nd_le
      rw [putObj_other hne, h.lkeep (by omega) L' hL', putObj_other hne]
  · intro i b n hi hp
    have := h.new i b n (by rw [e1]; exact hi) hp
    rw [putObj_size, e1] at this
    exact this
  · have := h.lmx
    rw [putObj_size] at this
    exact this

theorem WR.pushLoop (h : WR B π lm s w) {w1 : World} (hext : ∀ r, r < w.heap.size → w1.heap[r]? = w.heap[r]?) (hsz : w.heap.size ≤ w1.heap.size) (h1 : w1.os = w.os) (h2 : w1.tape = w.tape) (h3 : w1.output = w.output)
    {L : Nat} (hL : w.heap.size ≤ L) {r : ALoop} {fn : FuncId} {D : Nat} {tv : Array Value}
    (hobj : w1.heap[L]? = some (.loop { state := .ready, pending := none, fn, tmps := tv, params := r.params.toArray, assign := r.assign, body := r.body, defers := D })) (hts : LR π lm r.tmps tv.toList) (hst : r.stat = .ready) :
    WR B π (lm ++ [L]) { s with loops := s.loops ++ [r] } w1 ∧ Tr π π lm (lm ++ [L]) s { s with loops := s.loops ++ [r] } w w1 := by
  have hlm : ∀ (i x : Nat), lm[i]? = some x → (lm ++ [L])[i]? = some x := fun i x hi => by
    rw [List.getElem?_append_left (List.getElem?_eq_some_iff.1 hi).1]; exact hi
  have hlt : ∀ (i x : Nat), lm[i]? = some x → x < w.heap.size := fun i x hi => by
    obtain ⟨r, hr⟩ := h.loop_lt (List.mem_of_getElem? hi); exact lt_of_some hr
  have hnew : ∀ (i x : Nat), (lm ++ [L])[i]? = some x → (i < lm.length ∧ lm[i]? = some x) ∨ (i = lm.length ∧ x = L) := fun i x hi => by
    by_cases hi' : i < lm.length
    · rw [List.getElem?_append_left hi'] at hi; exact .inl ⟨hi', hi⟩
    · rw [List.getElem?_append_right (by omega)] at hi
      have h0 : i - lm.length = 0 := by
        rcases Nat.eq_zero_or_pos (i - lm.length) with h0 | h0
        · exact h0
        · rw [List.getElem?_eq_none (by simp; omega)] at hi; cases hi
      rw [h0] at hi; simp at hi
      exact .inr ⟨by omega, hi.symm⟩
  constructor
  · refine ⟨h.dom, ?_, h.inj, by simp [h.lsz], ?_, ?_⟩
    · intro i A hA
      obtain ⟨b, n, c, fz, k1, k2, k3, k4, k5⟩ := h.blk i A hA
      exact ⟨b, n, c, fz, k1, by rw [hext b (lt_of_some k2)]; exact k2, k3, k4, k5.mono (Inj.le_refl _) hlm⟩
    · intro l l' x hl hl'
      rcases hnew l x hl with ⟨a1, a2⟩ | ⟨a1, a2⟩ <;> rcases hnew l' x hl' with ⟨b1, b2⟩ | ⟨b1, b2⟩
      · exact h.linj l l' x a2 b2
      · have := hlt l x a2; omega
      · have := hlt l' x b2; omega
      · omega
    · intro l r' hr'
      simp only at hr'
      by_cases hi' : l < s.loops.length
      · rw [List.getElem?_append_left hi'] at hr'
        obtain ⟨L', fn', D', ts', st', pd', k1, k2, k3, k4⟩ := h.loop l r' hr'
        exact ⟨L', fn', D', ts', st', pd', hlm _ _ k1, by rw [hext L' (lt_of_some k2)]; exact k2, k3, k4.mono (Inj.le_refl _) hlm⟩
      · rw [List.getElem?_append_right (by omega)] at hr'
        have h0 : l - s.loops.length = 0 := by
          rcases Nat.eq_zero_or_pos (l - s.loops.length) with h0 | h0
          · exact h0
          · rw [List.getElem?_eq_none (by simp; omega)] at hr'; cases hr'
        rw [h0] at hr'; simp at hr'
        subst hr'
        have hl : l = lm.length := by rw [h.lsz]; omega
        subst hl
        exact ⟨L, fn, D, tv, .ready, none, by simp, hobj, by rw [hst]; trivial, hts.mono (Inj.le_refl _) hlm⟩
  · exact { Tr.refl π lm w h.dom with
      os := h1, tape := h2, output := h3, size := hsz
      keep := fun r hr _ _ => hext r hr
      low := fun i A b n hA _ hp => hext b (h.img_lt hA hp)
      lkeep := fun _ L' hL' => by obtain ⟨r, hr⟩ := h.loop_lt hL'; exact hext L' (lt_of_some hr)
      lo_le := Nat.le_refl _
      nd_le := Nat.le_refl _
      liv := fun i A' _ hA => ⟨A', hA, rfl⟩
      lmx := ⟨[L], rfl, fun x hx => by simp at hx; subst hx; exact hL⟩ }

theorem params_rel : ∀ {ps : List Tmp} {xs : List AV} {vs : List Value} {tl : List AV} {tv : Array Value}, LR π lm tl tv.toList → LR π lm xs vs →
    LR π lm (putParams tl ps xs) ((ps.zip vs).foldl (fun (tmps : Array Value) (x : Tmp × Value) => tmps.setIfInBounds x.1 x.2) tv).toList := by
  intro ps
  induction ps with
  | nil => intro xs vs tl tv ht _; simpa [putParams] using ht
  | cons p ps ih =>
    intro xs vs tl tv ht hx
    cases xs with
    | nil => rw [hx.nil_inv]; simpa [putParams] using ht
    | cons x xs =>
      obtain ⟨c, ws, rfl, h1, h2⟩ := hx.uncons
      simp only [putParams, List.zip_cons_cons, List.foldl_cons]
      refine ih ?_ h2
      rw [setNth_eq, Array.toList_setIfInBounds]
      exact ht.set p h1

theorem params_rel' {ps : List Tmp} {xs : List AV} {vs tv : Array Value} {tl : List AV} (ht : LR π lm tl tv.toList) (hx : LR π lm xs vs.toList) :
    LR π lm (putParams tl ps xs) ((ps.toArray.zip vs).foldl (fun tmps (t, a) => tmps.setIfInBounds t a) tv).toList := by
  have := params_rel (ps := ps) ht hx
  rw [← Array.foldl_toList, Array.toList_zip]
  exact this

theorem sc_self {v : AV} {u : Value} (h : v.sc = some u) (π : Inj) (lm : List Nat) : VR π lm v u := by
  cases v <;> simp [AV.sc] at h <;> subst h <;> constructor

theorem optMap_sc_self {l : List AV} {vs : List Value} (h : optMap AV.sc l = some vs) (π : Inj) (lm : List Nat) : LR π lm l vs := by
  induction l generalizing vs with
  | nil => simp [optMap] at h; subst h; exact .nil
  | cons v l ih =>
    simp only [optMap] at h
    split at h
    · rename_i u us hu hus
      simp at h; subst h
      exact LR.cons (sc_self hu π lm) (ih hus)
    · cases h

theorem toV_self {v : AV} {u : Value} (h : v.toV = some u) (π : Inj) (lm : List Nat) : VR π lm v u := by
  cases v with
  | agg l =>
    simp only [AV.toV, Option.map_eq_some_iff] at h
    obtain ⟨vs, h1, rfl⟩ := h
    exact .agg' (optMap_sc_self h1 π lm)
  | _ => simp only [AV.toV] at h; exact sc_self h π lm

theorem lone_rel {π' : Inj} {lm' : List Nat} {v : AV} {c : Value} (h : v.lone = true) (hv : VR π' lm' v c) (π : Inj) (lm : List Nat) : VR π lm v c := by
  cases v with
  | sym k e lo hi => cases hv with
    | sym h0 h1 h2 => exact .sym h0 h1 h2
  | _ =>
    simp only [AV.lone] at h
    obtain ⟨u, hu⟩ := Option.isSome_iff_exists.1 h
    rw [AV.sc_rel hu hv]
    exact sc_self hu π lm

theorem flat1_rel {π' : Inj} {lm' : List Nat} {v : AV} {c : Value} (h : v.flat1 = true) (hv : VR π' lm' v c) (π : Inj) (lm : List Nat) : VR π lm v c := by
  cases v with
  | agg l =>
    cases hv with
    | agg hs hl =>
      simp only [AV.flat1, List.all_eq_true] at h
      exact .agg hs (fun i p q => lone_rel (h _ (List.getElem_mem p)) (hl i p q) π lm)
  | _ => simp only [AV.flat1] at h; exact lone_rel h hv π lm

theorem flat_rel {π' : Inj} {lm' : List Nat} {v : AV} {c : Value} (h : v.flat = true) (hv : VR π' lm' v c) (π : Inj) (lm : List Nat) : VR π lm v c := by
  cases v with
  | tup l =>
    obtain ⟨vs, rfl, hl⟩ := VR.tup_inv hv
    simp only [AV.flat, List.all_eq_true] at h
    exact .tup' ⟨hl.1, fun i p q => flat1_rel (h _ (List.getElem_mem p)) (hl.2 i p q) π lm⟩
  | _ => simp only [AV.flat] at h; exact flat1_rel h hv π lm

def resG (tv : Array Value) : ResultVar → Sem Value
  | .tmp t => pure (tv.getD t undef)
  | .cell x t => do loadVar t (← asAddr (tv.getD x undef))

theorem results_eq (fn : Func) (tv : Array Value) : results fn tv = (do
    let vs ← fn.results.mapM (resG tv)
    pure (if h : vs.size = 1 then vs[0] else .tuple vs)) := by
  unfold results
  congr 1

theorem results_rel {fn : Func} {v : AV} (hw : WR B π lm s w) (r : LR π lm ts a.tmps.toList) (h : resultsA P fn ts s = some v) : ∃ c, (results fn a.tmps).run P w = .ok c w ∧ VR π lm v c := by
  have slot : ∀ t, VR π lm (nthD undefA ts t) (a.tmps.getD t undef) := fun t => eval_rel (x := .tmp t) rfl r
  have key : ∀ (l : List ResultVar) (vs : List AV), optMap (resultA P ts s) l = some vs → ∃ cs : List Value, (l.mapM (resG a.tmps)).run P w = .ok cs w ∧ LR π lm vs cs := by
    intro l
    induction l with
    | nil => intro vs h; simp [optMap] at h; subst h; exact ⟨[], by simp, .nil⟩
    | cons x l ih =>
      intro vs h
      simp only [optMap] at h
      split at h
      · rename_i u us hu hus
        simp at h; subst h
        obtain ⟨cs, h1, h2⟩ := ih us hus
        have : ∃ c, (resG a.tmps x).run P w = .ok c w ∧ VR π lm u c := by
          cases x with
          | tmp t => simp [resultA] at hu; subst hu; exact ⟨_, rfl, slot t⟩
          | cell x t =>
            simp only [resultA] at hu
            split at hu
            · rename_i b off hb
              have := slot x
              rw [hb] at this
              obtain ⟨b', n, hp, hc⟩ := VR.ptr_inv this
              obtain ⟨c, k1, k2⟩ := load_rel (P := P) hw hu hp
              exact ⟨c, by simp [resG, hc, asAddr, k1], k2⟩
            · cases hu
        obtain ⟨c, k1, k2⟩ := this
        refine ⟨c :: cs, ?_, LR.cons k2 h2⟩
        rw [List.mapM_cons]
        simp only [Sem.run_bind, k1, Result.andThen_ok, h1, Sem.run_pure]
      · cases h
  have fin : ∀ vs, optMap (resultA P ts s) fn.results.toList = some vs → ∃ cs : List Value, (fn.results.mapM (resG a.tmps)).run P w = .ok cs.toArray w ∧ LR π lm vs cs := fun vs hvs => by
    obtain ⟨cs, h1, h2⟩ := key _ _ hvs
    refine ⟨cs, ?_, h2⟩
    rw [Array.mapM_eq_mapM_toList]
    simp only [Sem.run_map, h1, Result.andThen_ok]
  rw [results_eq]
  unfold resultsA at h
  split at h
  · rename_i v' hv'
    simp at h; subst h
    obtain ⟨cs, h1, h2⟩ := fin _ hv'
    obtain ⟨c, ws, rfl, h3, h4⟩ := h2.uncons
    have := h4.nil_inv
    subst this
    refine ⟨c, ?_, h3⟩
    rw [Sem.run_bind, h1]
    simp
  · rename_i vs hne hvs
    simp at h; subst h
    obtain ⟨cs, h1, h2⟩ := fin _ hvs
    have hlen : cs.length ≠ 1 := fun e => by
      have := h2.1
      rw [e] at this
      match vs, this, hne with
      | [v], _, hne => exact hne v rfl
    refine ⟨.tuple cs.toArray, ?_, .tup' h2⟩
    rw [Sem.run_bind, h1]
    simp [hlen]
  · cases h

end Go.Ev
