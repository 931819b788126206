/- append. -/
import Derived.Test.YtdenpaifjpmkgaaEvI
import Derived.Laws.BytesString
namespace Go.Ev
open Go.RowKit (Below)
set_option linter.unusedSectionVars false
variable [Rho]

variable {P : Program} {B : Nat} {π : Inj} {lm : List Nat} {s : St} {w : World} {ts : List AV} {a : Act}

theorem WR.heapEq (h : WR B π lm s w) {w' : World} (e : w'.heap = w.heap) : WR B π lm s w' :=
  ⟨h.dom, by rw [e]; exact h.blk, h.inj, h.lsz, h.linj, by rw [e]; exact h.loop⟩

theorem Tr.heapEq (h : WR B π lm s w) {w' : World} (e : w'.heap = w.heap) (h1 : w'.os = w.os) (h2 : w'.tape = w.tape) (h3 : w'.output = w.output) : Tr π π lm lm s s w w' :=
  { Tr.refl π lm w h.dom with
    os := h1, tape := h2, output := h3, size := by rw [e]; exact Nat.le_refl _
    keep := fun r _ _ _ => by rw [e]
    low := fun i A b n _ _ _ => by rw [e]
    lkeep := fun _ L _ => by rw [e] }

/-- a block gives way to another one over the same row, or over none -/
theorem WR.adopt (h : WR B π lm s w) {b b' m : Nat} {A : ABlk} (hA : s.heap[b]? = some (some A)) (hro : A.ro = false) (hp : π b = some (b', m)) {c d : Array Value} {e : TypeId}
    (hc : w.heap[b']? = some (.cells c A.elem (0, 0))) (hd : d.size = m) {cs : List AV} (hl : LR π lm cs (d.toList.take cs.length)) :
    WR B (π.more s.heap.length (b', m)) lm { newBlk { s with heap := setNth none s.heap b, lo := min s.lo b } e cs with lo := min s.lo b } (upd w b' (.cells d e (0, 0))) ∧
    Tr π (π.more s.heap.length (b', m)) lm lm s { newBlk { s with heap := setNth none s.heap b, lo := min s.lo b } e cs with lo := min s.lo b } w (upd w b' (.cells d e (0, 0))) := by
  have hle := Inj.le_more (x := (b', m)) h.free
  have hb : b < s.heap.length := (List.getElem?_eq_some_iff.1 hA).1
  have hb' : b' < w.heap.size := lt_of_some hc
  have hBb : B ≤ b' := by
    obtain ⟨c0, fz, _, _, hrw, _⟩ := h.at hA hp
    exact (hrw hro).2
  have hold : ∀ i, i < s.heap.length → (π.more s.heap.length (b', m)) i = π i := fun i hi => by
    unfold Inj.more; rw [if_neg (by omega)]
  have hheap : ∀ (i : Nat) (A1 : ABlk), ((setNth none s.heap b) ++ [some { elem := e, cells := cs, ro := false }])[i]? = some (some A1) →
      (i < s.heap.length ∧ i ≠ b ∧ s.heap[i]? = some (some A1)) ∨ (i = s.heap.length ∧ A1 = { elem := e, cells := cs, ro := false }) := by
    intro i A1 h1
    rw [setNth_eq] at h1
    by_cases hi : i < s.heap.length
    · rw [List.getElem?_append_left (by simpa using hi), List.getElem?_set] at h1
      by_cases hib : b = i
      · subst hib; simp [hb] at h1
      · simp [hib] at h1; exact .inl ⟨hi, Ne.symm hib, h1⟩
    · rw [List.getElem?_append_right (by simp; omega)] at h1
      have : i - (s.heap.set b none).length = 0 := by
        rcases Nat.eq_zero_or_pos (i - (s.heap.set b none).length) with h0 | h0
        · exact h0
        · rw [List.getElem?_eq_none (by simp only [List.length_singleton]; omega)] at h1; cases h1
      rw [this] at h1
      simp at h1 this
      exact .inr ⟨by omega, h1.symm⟩
  have other : ∀ r, r ≠ b' → (upd w b' (.cells d e (0, 0))).heap[r]? = w.heap[r]? := fun r hr => by
    rw [upd_heap]; simp [Ne.symm hr]
  have oneBlk : ∀ i A' b1 n1, s.heap[i]? = some (some A') → i ≠ b → π i = some (b1, n1) → b1 ≠ b' := fun i A' b1 n1 h1 h2 h3 e => by
    subst e
    exact h2 (h.inj b i A A' b1 m n1 hA h1 hro hp h3).symm
  constructor
  · refine ⟨?_, ?_, ?_, h.lsz, h.linj, ?_⟩
    · intro i x hx
      simp only [newBlk, List.length_append, List.length_singleton, setNth_eq, List.length_set]
      unfold Inj.more at hx
      split at hx
      · omega
      · have := h.dom i x hx; omega
    · intro i A1 h1
      rcases hheap i A1 h1 with ⟨hi, hib, hA1⟩ | ⟨rfl, rfl⟩
      · obtain ⟨b1, n1, c1, fz, k1, k2, k3, k4, k5⟩ := h.blk i A1 hA1
        exact ⟨b1, n1, c1, fz, by rw [hold i hi]; exact k1, by rw [other b1 (oneBlk i A1 b1 n1 hA1 hib k1)]; exact k2, k3, k4, k5.mono hle (fun _ _ x => x)⟩
      · exact ⟨b', m, d, (0, 0), by simp [Inj.more], by rw [upd_heap]; simp [hb'], hd, fun _ => ⟨rfl, hBb⟩, hl.mono hle (fun _ _ x => x)⟩
    · intro i j A1 A2 b1 n1 m1 h1 h2 h3 h4 h5
      rcases hheap i A1 h1 with ⟨hi, hib, hA1⟩ | ⟨rfl, rfl⟩ <;> rcases hheap j A2 h2 with ⟨hj, hjb, hA2⟩ | ⟨rfl, rfl⟩
      · rw [hold i hi] at h4; rw [hold j hj] at h5
        exact h.inj i j A1 A2 b1 n1 m1 hA1 hA2 h3 h4 h5
      · rw [hold i hi] at h4
        simp [Inj.more] at h5
        exact absurd h5.1.symm (oneBlk i A1 b1 n1 hA1 hib h4)
      · rw [hold j hj] at h5
        simp [Inj.more] at h4
        exact absurd h4.1.symm (oneBlk j A2 b1 m1 hA2 hjb h5)
      · rfl
    · intro l r hr
      obtain ⟨L, fn, D, ts, st, pd, h1, h2, h3, h4⟩ := h.loop l r hr
      have : L ≠ b' := fun e => by subst e; rw [hc] at h2; cases h2
      exact ⟨L, fn, D, ts, st, pd, h1, by rw [other L this]; exact h2, h3, h4.mono hle (fun _ _ x => x)⟩
  · refine ⟨rfl, rfl, rfl, by rw [upd_size]; exact Nat.le_refl _, ?_, ?_, ?_, ?_, Nat.min_le_left _ _, Nat.le_refl _, hle, hold, by simp [newBlk, setNth_eq], ?_, ?_, ⟨[], by simp, by simp⟩⟩
    · intro r hr h1 _
      exact other r (fun e => by subst e; exact h1 b A m hA hro hp)
    · intro i A' b1 n1 h1 h2 h3
      have : i ≠ b := by simp at h2; omega
      exact other b1 (oneBlk i A' b1 n1 h1 this h3)
    · intro i hi h2
      simp at h2
      simp only [newBlk, setNth_eq]
      rw [List.getElem?_append_left (by simpa using hi), List.getElem?_set_ne (by omega)]
    · intro _ L hL
      obtain ⟨l, hl1, rfl⟩ := List.getElem_of_mem hL
      obtain ⟨r, hr⟩ : ∃ r, s.loops[l]? = some r := ⟨_, List.getElem?_eq_getElem (h.lsz ▸ hl1)⟩
      obtain ⟨L', fn, D, ts, st, pd, h1, h2, h3⟩ := h.loop l r hr
      rw [List.getElem?_eq_getElem hl1] at h1
      obtain rfl := Option.some.inj h1
      exact other _ (fun e => by rw [e, hc] at h2; cases h2)
    · intro i A' hi hA'
      rcases hheap i A' hA' with ⟨_, _, hA⟩ | ⟨rfl, _⟩
      · exact ⟨A', hA, rfl⟩
      · omega
    · intro i b1 n1 hi hx
      unfold Inj.more at hx
      split at hx
      · obtain ⟨rfl, _⟩ := Prod.mk.inj (Option.some.inj hx)
        exact .inr ⟨b, A, m, hA, hro, hp⟩
      · have := h.dom i _ hx; omega

theorem WR.kill (h : WR B π lm s w) {b : Nat} {A : ABlk} (hA : s.heap[b]? = some (some A)) :
    WR B π lm { s with heap := setNth none s.heap b, lo := min s.lo b } w ∧ Tr π π lm lm s { s with heap := setNth none s.heap b, lo := min s.lo b } w w := by
  have hb : b < s.heap.length := (List.getElem?_eq_some_iff.1 hA).1
  have hheap : ∀ (i : Nat) (A1 : ABlk), (setNth none s.heap b)[i]? = some (some A1) → s.heap[i]? = some (some A1) := by
    intro i A1 h1
    rw [setNth_eq, List.getElem?_set] at h1
    by_cases hib : b = i
    · subst hib; simp [hb] at h1
    · simpa [hib] using h1
  constructor
  · exact ⟨fun i x hx => by rw [setNth_eq]; simpa using h.dom i x hx, fun i A1 h1 => h.blk i A1 (hheap i A1 h1), fun i j A1 A2 b1 n1 m1 h1 h2 => h.inj i j A1 A2 b1 n1 m1 (hheap i A1 h1) (hheap j A2 h2), h.lsz, h.linj, h.loop⟩
  · exact { Tr.refl π lm w h.dom with
      low := fun _ _ _ _ _ _ _ => rfl
      same := fun i hi h2 => by
        simp at h2
        simp only [setNth_eq]
        rw [List.getElem?_set_ne (by omega)]
      lkeep := fun _ _ _ => rfl
      lo_le := Nat.min_le_left _ _
      nd_le := Nat.le_refl _
      len := by rw [setNth_eq]; simp
      liv := fun i A' _ h1 => ⟨A', hheap i A' h1, rfl⟩ }

theorem growBy_le (newLen : Nat) : ∀ (r c : Nat), Builtin.growBy newLen r c ≤ max c (newLen + (newLen + 768) / 4)
  | 0, c => by simp only [Builtin.growBy]; omega
  | r + 1, c => by
    simp only [Builtin.growBy]
    split
    · omega
    · have := growBy_le newLen r (c + (c + 768) / 4)
      omega

theorem nextslicecap_le {newLen oldCap : Nat} (h : oldCap < newLen) : Builtin.nextslicecap newLen oldCap ≤ 2 * newLen + 192 := by
  unfold Builtin.nextslicecap
  split
  · omega
  · split
    · omega
    · have := growBy_le newLen 4 oldCap
      omega

theorem len_rel {y : AV} {c : Value} {n : Nat} (h : lenA y = some n) (r : VR π lm y c) (w : World) : (Builtin.lenOf c).run P w = .ok n w := by
  cases r <;> simp [lenA] at h <;> subst h <;> rfl

theorem first_rel {y : AV} {c : Value} {es n : Nat} {l : List AV} (hw : WR B π lm s w) (h : firstA s es n y = some l) (r : VR π lm y c) :
    ∃ vs, (∀ w' : World, w'.heap = w.heap → (Builtin.firstCells es n c).run P w' = .ok vs w') ∧ LR π lm l vs.toList := by
  cases y with
  | slice b off len cap ex es' =>
    obtain ⟨b', m, cap', hp, rfl, _⟩ := VR.slice_inv r
    simp only [firstA] at h
    split at h
    · rename_i A hA
      rw [blockAt_some] at hA
      obtain ⟨c, fz, hc, hsz, _, hl⟩ := hw.at hA hp
      obtain ⟨hle, rfl⟩ := cut_some h
      have hAc : A.cells.length ≤ c.size := by have := hl.1; simp at this; omega
      refine ⟨_, fun w' e' => run_loadCells (by rw [e']; exact hc) (by omega), ?_⟩
      have := (hl.drop off).take (n * es)
      rw [drop_take_take hle] at this
      exact this
    · cases h
  | nilSlice =>
    simp [firstA] at h
    subst h
    cases r
    exact ⟨#[], fun _ _ => rfl, .nil⟩
  | _ => simp [firstA] at h

theorem bytes_some {t : TypeId} {n : Nat} (h : bytesA P t = some n) : ∃ i, P.info? t = some i ∧ i.bytes = n := by
  simpa [bytesA, Option.map_eq_some_iff] using h

/-- the part of an append that makes a new row -/
theorem run_grow {e : TypeId} {es bs need cap : Nat} {z : AV} (hz : zeroA P e = some z) (hzl : z.cells.length = es) (hbs : bytesA P e = some bs)     (old new : Array Value) (hs : old.size + new.size = need * es) (mo mn : Sem (Array Value)) (hmo : ∀ w' : World, w'.heap = w.heap → mo.run P w' = .ok old w') (hmn : ∀ w' : World, w'.heap = w.heap → mn.run P w' = .ok new w') :
    ∃ (d : Array Value) (cap' : Nat), need ≤ cap' ∧ d.size = cap' * es ∧ d.toList.take (need * es) = old.toList ++ new.toList ∧
      (do
        let newCap ← choose (.appendCap need cap e)
        askRoom (newCap * (← typeInfo e).bytes)
        let o ← mo
        let n ← mn
        let rest := Builtin.zeroCells (← zeroValue e).cells (newCap - need)
        pure (Value.slice (some (← newRow e (o ++ n ++ rest))) need newCap) : Sem Value).run P w =
      .ok (.slice (some ⟨w.heap.size, 0, none⟩) need cap') { w with heap := w.heap.push (.cells d e), drawn := w.drawn + 1 } := by
  obtain ⟨i, hi, rfl⟩ := bytes_some hbs
  obtain ⟨u, hzu, hv⟩ := zero_rel (π := fun _ => none) (lm := []) hz ({ w with drawn := w.drawn + 1 } : World)
  have husz : u.cells.size = es := by have := hv.cells.1; simp at this; omega
  refine ⟨old ++ new ++ Builtin.zeroCells u.cells ((need + w.tape w.drawn (.appendCap need cap e) % (2 ^ 63 - need)) - need), need + w.tape w.drawn (.appendCap need cap e) % (2 ^ 63 - need), by omega, ?_, ?_, ?_⟩
  · have : (Builtin.zeroCells u.cells ((need + w.tape w.drawn (.appendCap need cap e) % (2 ^ 63 - need)) - need)).size = ((need + w.tape w.drawn (.appendCap need cap e) % (2 ^ 63 - need)) - need) * es := by
      simp [Builtin.zeroCells, husz]
    simp only [Array.size_append, this, hs]
    rw [← Nat.add_mul]; congr 1; omega
  · simp only [Array.toList_append]
    rw [List.take_append_of_le_length (by simp; omega), List.take_of_length_le (by simp; omega)]
  · simp only [Sem.run_bind, run_choose, Question.forced, Bool.false_eq_true, if_false, Question.cut, Result.andThen_ok, run_typeInfo' hi, run_askRoom, hmo ({ w with drawn := w.drawn + 1 } : World) rfl,
      hmn ({ w with drawn := w.drawn + 1 } : World) rfl, hzu, newRow, run_newObj, Sem.run_pure]

/-- append within the capacity -/
theorem run_append_fits {st xt : TypeId} {e e' : TypeId} {es n len cap : Nat} {base : Option Addr} {cy : Value} {vs : Array Value} (ty : TypeId) (ats : Array TypeId) (a0 : ats[0]? = some st) (a1 : ats[1]? = some xt)
    (hu : P.underlying st = some (.slice e)) (hu' : P.underlying xt = some (.slice e')) (hes : sizeA P e = some es) (hn : (Builtin.lenOf cy).run P w = .ok n w) (hf : (Builtin.firstCells es n cy).run P w = .ok vs w)
    (hle : len + n ≤ cap) : (Builtin.append_ ats ty #[.slice base len cap, cy]).run P w =
      (do
        if let some a := base then storeCells (a.add (len * es)) vs.toList
        pure (Value.slice base (len + n) cap) : Sem Value).run P w := by
  simp only [Builtin.append_, a0, a1, Sem.run_bind, run_underlying hu, run_underlying hu', run_sizeOf' hes, Result.andThen_ok, List.getElem?_toArray, List.getElem?_cons_zero, List.getElem?_cons_succ, Sem.run_pure,
    Bool.false_eq_true, if_false, hn, Bool.not_false, if_true, if_pos hle, hf]
  cases base <;> rfl

theorem run_append_grows {st xt : TypeId} {e e' : TypeId} {es bs n len cap : Nat} {base : Option Addr} {cy : Value} (ty : TypeId) (ats : Array TypeId) (a0 : ats[0]? = some st) (a1 : ats[1]? = some xt)
    (hu : P.underlying st = some (.slice e)) (hu' : P.underlying xt = some (.slice e')) (hes : sizeA P e = some es) (hbs : bytesA P e = some bs) (hb0 : bs ≠ 0) (hn : (Builtin.lenOf cy).run P w = .ok n w)
    (hgt : ¬ len + n ≤ cap) (hsmall : (len + n) * bs ≤ 2 ^ 40) : (Builtin.append_ ats ty #[.slice base len cap, cy]).run P w =
      (do
        let newCap ← choose (.appendCap (len + n) cap e)
        askRoom (newCap * (← typeInfo e).bytes)
        let o ← Builtin.firstCells es len (.slice base len cap)
        let n' ← Builtin.firstCells es n cy
        let rest := Builtin.zeroCells (← zeroValue e).cells (newCap - (len + n))
        pure (Value.slice (some (← newRow e (o ++ n' ++ rest))) (len + n) newCap) : Sem Value).run P w := by
  obtain ⟨i, hi, rfl⟩ := bytes_some hbs
  have h1 : ¬ (((len + n : Nat) : Int) > IntKind.i64.max ∧ (False ∨ i.bytes = 0)) := fun h => by rcases h.2 with h2 | h2 <;> first | exact h2.elim | exact hb0 h2
  have h2 : ¬ Builtin.nextslicecap (len + n) cap * i.bytes > 2 ^ 48 := by
    have hm : Builtin.nextslicecap (len + n) cap ≤ 2 * (len + n) + 192 := nextslicecap_le (by omega)
    have h3 : Builtin.nextslicecap (len + n) cap * i.bytes ≤ (2 * (len + n) + 192) * i.bytes := Nat.mul_le_mul_right _ hm
    have h4 : (2 * (len + n) + 192) * i.bytes ≤ 194 * ((len + n) * i.bytes) := by
      rw [← Nat.mul_assoc]
      exact Nat.mul_le_mul_right _ (by omega)
    omega
  simp only [Builtin.append_, a0, a1, Sem.run_bind, run_underlying hu, run_underlying hu', run_sizeOf' hes, Result.andThen_ok, List.getElem?_toArray, List.getElem?_cons_zero, List.getElem?_cons_succ, Sem.run_pure,
    Bool.false_eq_true, if_false, hn, Bool.not_false, if_true, if_neg hgt, run_typeInfo' hi, if_neg h1, if_neg h2]

theorem Tr.withDrawn {π π' : Inj} {lm lm' : List Nat} {s s' : St} {w w1 w' : World} (h : Tr π π' lm lm' s s' w1 w') (e : w1.heap = w.heap) (h1 : w1.os = w.os) (h2 : w1.tape = w.tape) (h3 : w1.output = w.output) :
    Tr π π' lm lm' s s' w w' :=
  ⟨h.os.trans h1, h.tape.trans h2, h.output.trans h3, by have := h.size; rw [e] at this; exact this, by have := h.keep; rw [e] at this; exact this, by have := h.low; rw [e] at this; exact this, h.same,
    by have := h.lkeep; rw [e] at this; exact this, h.lo_le, h.nd_le, h.le, h.old, h.len, h.liv, by have := h.new; rw [e] at this; exact this, by have := h.lmx; rw [e] at this; exact this⟩

theorem append_rel {st xt : TypeId} {x y v : AV} {cx cy : Value} {s' : St} (ty : TypeId) (hw : WR B π lm s w) (hB : B ≤ w.heap.size) (h : appendA P s st xt x y = some (v, s')) (hx : VR π lm x cx) (hy : VR π lm y cy)
    (ats : Array TypeId) (hats : ats.toList = [st, xt]) : ∃ c w' π', (Builtin.append_ ats ty #[cx, cy]).run P w = .ok c w' ∧ VR π' lm v c ∧ WR B π' lm s' w' ∧ Tr π π' lm lm s s' w w' := by
  unfold appendA at h
  split at h
  · rename_i e e' hu hu'
    split at h
    · rename_i es bs n z hes hbs hlen hz
      split at h
      · cases h
      · rename_i hne
        simp only [not_or, Decidable.not_not] at hne
        obtain ⟨hes0, hbs0, hzl⟩ := hne
        split at h
        · cases h
        · rename_i new hnew
          have a0 : ats[0]? = some st := by rw [← Array.getElem?_toList, hats]; rfl
          have a1 : ats[1]? = some xt := by rw [← Array.getElem?_toList, hats]; rfl
          obtain ⟨vs, hvs, hvr⟩ := first_rel (P := P) hw hnew hy
          have fits : ∀ {base : Option Addr} {len cap : Nat}, len + n ≤ cap → (Builtin.append_ ats ty #[.slice base len cap, cy]).run P w =
              (do
                if let some a := base then storeCells (a.add (len * es)) vs.toList
                pure (Value.slice base (len + n) cap) : Sem Value).run P w := fun hle =>
            run_append_fits ty ats a0 a1 hu hu' hes (len_rel hlen hy w) (hvs w rfl) hle
          -- a new row
          have grows : ∀ {base : Option Addr} {len cap : Nat} {old : List AV} {ov : Array Value} {s1 : St}, ¬ len + n ≤ cap → (len + n) * bs ≤ 2 ^ 40 → 
              (∀ w' : World, w'.heap = w.heap → (Builtin.firstCells es len (.slice base len cap)).run P w' = .ok ov w') → LR π lm old ov.toList → old.length + new.length = (len + n) * es → WR B π lm s1 w → Tr π π lm lm s s1 w w → s1.heap.length = s.heap.length →
              ∃ c w' π', (Builtin.append_ ats ty #[.slice base len cap, cy]).run P w = .ok c w' ∧ VR π' lm (.slice s.heap.length 0 (len + n) (len + n) false es) c ∧
                WR B π' lm (newBlk s1 e (old ++ new)) w' ∧ Tr π π' lm lm s (newBlk s1 e (old ++ new)) w w' := by
            intro base len cap old ov s1 hgt hsmall hov2 holr hsum hw1 htr hlen1
            have hsz : ov.size + vs.size = (len + n) * es := by have a := holr.1; have b := hvr.1; simp at a b; omega
            obtain ⟨d, cap', k1, k2, k3, k4⟩ := run_grow (w := w) (cap := cap) hz hzl hbs ov vs hsz _ _ hov2 hvs
            have hnewl : LR π lm (old ++ new) (d.toList.take (old ++ new).length) := by
              rw [List.length_append, hsum, k3]
              exact holr.append hvr
            have hw2 : WR B π lm s1 ({ w with drawn := w.drawn + 1 } : World) := hw1.heapEq rfl
            obtain ⟨m1, m2⟩ := hw2.new (by simpa using hB) e hnewl
            refine ⟨_, _, _, by rw [run_append_grows ty ats a0 a1 hu hu' hes hbs hbs0 (len_rel hlen hy w) hgt hsmall]; exact k4, ?_, m1, ?_⟩
            · refine .sliceIn (n := d.size) ?_ k1 (by rw [k2]; simp)
              simp [Inj.more, hlen1]
            · exact htr.trans (m2.withDrawn rfl rfl rfl rfl)
          have hnl : new.length = n * es := by
            cases y with
            | slice b off len cap ex es' =>
              simp only [firstA] at hnew
              split at hnew
              · obtain ⟨hle, rfl⟩ := cut_some hnew
                simp; omega
              · cases hnew
            | nilSlice => simp [firstA] at hnew; simp [lenA] at hlen; subst hnew; subst hlen; simp
            | _ => simp [firstA] at hnew
          split at h
          · have hcx : cx = .slice none 0 0 := by cases hx; rfl
            subst hcx
            split at h
            · rename_i hn0
              simp at h
              obtain ⟨rfl, rfl⟩ := h
              subst hn0
              refine ⟨.slice none 0 0, w, π, ?_, .nilSlice, hw, Tr.refl _ _ _ hw.dom⟩
              rw [fits (by omega)]; rfl
            · rename_i hn0
              split at h
              · cases h
              · rename_i hsm
                simp at h
                obtain ⟨rfl, rfl⟩ := h
                have := grows (base := none) (len := 0) (cap := 0) (old := []) (ov := #[]) (s1 := s) (by omega) (by simpa using Nat.le_of_not_lt hsm) (fun _ _ => rfl) .nil (by simpa using hnl) hw (Tr.refl _ _ _ hw.dom) rfl
                simpa using this
          · rename_i b off len cap ex es'
            obtain ⟨b', m, cap', hp, rfl, hex⟩ := VR.slice_inv hx
            have hcap : cap ≤ cap' := by rcases hex with ⟨_, h⟩ | ⟨_, h, _⟩ <;> omega
            split at h
            · cases h
            · rename_i hee
              simp only [ne_eq, Decidable.not_not] at hee
              subst hee
              split at h
              · rename_i hle
                simp only [Option.map_eq_some_iff, Prod.mk.injEq] at h
                obtain ⟨s1, hs1, rfl, rfl⟩ := h
                obtain ⟨w', k1, k2, k3⟩ := storeCells_rel (P := P) hw hs1 hvr hp
                refine ⟨.slice (some ⟨b', off, none⟩) (len + n) cap', w', π, ?_, ?_, k2, k3⟩
                · rw [fits (by omega)]
                  simp [addr_add, k1]
                · rcases hex with ⟨rfl, rfl⟩ | ⟨rfl, h1, h2⟩
                  · exact .sliceEx hp
                  · exact .sliceIn hp h1 h2
              · rename_i hgt
                split at h
                · cases h
                · rename_i hsm
                  split at h
                  · cases h
                  · rename_i old hold
                    obtain ⟨ov, hov, holr⟩ := first_rel (P := P) hw hold hx
                    have hol : old.length = len * es' := by
                      simp only [firstA] at hold
                      split at hold
                      · obtain ⟨hle, rfl⟩ := cut_some hold
                        simp; omega
                      · cases hold
                    have hsum : old.length + new.length = (len + n) * es' := by rw [hol, hnl, Nat.add_mul]
                    split at h
                    · rename_i hx1
                      simp at h
                      obtain ⟨rfl, rfl⟩ := h
                      rcases hex with ⟨_, rfl⟩ | ⟨h1, _⟩
                      · exact grows hgt (Nat.le_of_not_lt hsm) hov holr hsum hw (Tr.refl _ _ _ hw.dom) rfl
                      · rw [h1] at hx1; cases hx1
                    · rename_i hx1
                      split at h
                      · rename_i h0
                        subst h0
                        split at h
                        · rename_i A hA
                          rw [blockAt_some] at hA
                          split at h
                          · cases h
                          · rename_i hro
                            simp only [not_or, Bool.not_eq_true, ne_eq, Decidable.not_not] at hro
                            obtain ⟨hro, hel, hone⟩ := hro
                            simp at h
                            obtain ⟨rfl, rfl⟩ := h
                            rcases hex with ⟨h1, _⟩ | ⟨_, h1, h2⟩
                            · exact absurd h1 hx1
                            · by_cases hfit : len + n ≤ cap'
                              · obtain ⟨c, fz, hc, hsz, hrw, hl⟩ := hw.at hA hp
                                obtain ⟨rfl, hBb⟩ := hrw hro
                                subst hel
                                have hvl : vs.size = n * es' := by have := hvr.1; simp at this; omega
                                have hcs : cap' * es' = (len + n) * es' + (cap' - (len + n)) * es' := by rw [← Nat.add_mul]; congr 1; omega
                                have hmul : (len + n) * es' = len * es' + n * es' := Nat.add_mul _ _ _
                                have hco : c.size = cap' * es' := by omega
                                have hov1 := hov w rfl
                                have hov3 : (Builtin.firstCells es' len (.slice (some ⟨b', 0, none⟩) len cap')).run P w = .ok _ w := run_loadCells hc (show 0 + len * es' ≤ c.size by omega)
                                rw [hov3] at hov1
                                obtain rfl := (Result.ok.inj hov1).1
                                have hst := run_storeCells (P := P) (e := A.elem) (b := b') (off := len * es') vs.toList 0 w c (all_one (by simpa using hone) hvr) hc (by simp; omega)
                                have hdl : LR π lm (old ++ new) ((pasteV c (len * es') vs.toList).toList.take (old ++ new).length) := by
                                  have e1 : (pasteV c (len * es') vs.toList).toList.take (old ++ new).length = (c.toList.drop 0).take (len * es') ++ vs.toList := by
                                    rw [List.length_append, hsum]
                                    simp only [pasteV, List.drop_zero]
                                    rw [← List.append_assoc, List.take_append_of_le_length (by simp; omega), List.take_of_length_le (by simp; omega)]
                                  rw [e1]
                                  exact holr.append hvr
                                obtain ⟨m1, m2⟩ := hw.adopt hA hro hp hc (d := pasteV c (len * es') vs.toList) (e := A.elem) (by simp [pasteV]; omega) hdl
                                refine ⟨.slice (some ⟨b', 0, none⟩) (len + n) cap', _, _, ?_, .sliceIn (n := m) (by simp [Inj.more]) hfit h2, m1, m2⟩
                                rw [fits hfit]
                                simp only [addr_add, Nat.zero_add, Sem.run_bind] at hst ⊢
                                simp [hst]
                              · obtain ⟨k1, k2⟩ := hw.kill hA
                                exact grows hfit (Nat.le_of_not_lt hsm) hov holr hsum k1 k2 (by simp [setNth_eq])
                        · cases h
                      · cases h
          · cases h
    · cases h
  · cases h

theorem bytesOf_rel : ∀ {cs : List AV} {ns : List Int} {vs : List Value}, bytesOf cs = some ns → LR π lm cs vs → vs = ns.map (Value.int .u8)
  | [], ns, vs, h, r => by simp [bytesOf] at h; subst h; rw [r.nil_inv]; rfl
  | v :: l, ns, vs, h, r => by
    obtain ⟨c, ws, rfl, hv, ht⟩ := r.uncons
    unfold bytesOf at h
    split at h
    · rename_i h1; cases h1
    · rename_i n l' h1
      obtain ⟨rfl, rfl⟩ := List.cons.inj h1
      simp only [Option.map_eq_some_iff] at h
      obtain ⟨ms, h2, rfl⟩ := h
      rw [hv.int_inv, bytesOf_rel h2 ht]; rfl
    · cases h

theorem op_str {o : Oper} {src dst : TypeId} {x : Operand} {u v : AV} (ho : o.op = .convert src dst x) (hw : WR B π lm s w) (hx : eval ts x = some u) (h : strA P s src dst u = some v)
    (r : LR π lm ts a.tmps.toList) : OpOk P B π lm s w o a v s := by
  unfold strA at h
  split at h
  · rename_i e b off len cap ex es hs hd
    split at h
    · rename_i A he hA
      split at h
      · rename_i cs hcut
        simp only [Option.map_eq_some_iff] at h
        obtain ⟨ns, hns, rfl⟩ := h
        obtain ⟨b', m, cap', hp, hc, _⟩ := VR.slice_inv (eval_rel hx r)
        rw [blockAt_some] at hA
        obtain ⟨c, fz, hcell, hsz, _, hl⟩ := hw.at hA hp
        obtain ⟨hle, rfl⟩ := cut_some hcut
        have hAc : A.cells.length ≤ c.size := by have := hl.1; simp at this; omega
        have hrow := (hl.drop off).take len
        rw [drop_take_take hle] at hrow
        have e1 := bytesOf_rel hns hrow
        refine .still hw (c := .string (ns.foldl (fun r n => r.push (UInt8.ofNat n.toNat)) ByteArray.empty)) ?_ (.str _)
        have hld : (loadCells ⟨b', off, none⟩ len).run P w = .ok (ns.map (Value.int .u8)).toArray w := by
          rw [run_loadCells hcell (by omega), e1]
        simp [execOp, ho, hc, run_convert_bytes_string w src dst e _ _ _ hs he hd, run_bytesToString w _ len cap' ns hld]
      · cases h
    · cases h
  · cases h

end Go.Ev
