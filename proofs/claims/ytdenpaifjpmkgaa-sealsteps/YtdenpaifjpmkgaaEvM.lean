/- Loops over functions: their records; results. -/
import Derived.Test.YtdenpaifjpmkgaaEvL
namespace Go.Ev
open Go.RowKit (Below)
set_option linter.unusedSectionVars false
variable [Rho]

variable {P : Program} {B : Nat} {π : Inj} {lm : List Nat} {s : St} {w : World} {ts : List AV} {a : Act}

theorem putObj_heap (w : World) (b : Nat) (o : Obj) (r : Nat) : (w.putObj b o).heap[r]? = if b = r ∧ b < w.heap.size then some o else w.heap[r]? := upd_heap w b o r
theorem putObj_other {w : World} {b r : Nat} {o : Obj} (h : r ≠ b) : (w.putObj b o).heap[r]? = w.heap[r]? := by
  rw [putObj_heap]; simp [Ne.symm h]
theorem putObj_size (w : World) (b : Nat) (o : Obj) : (w.putObj b o).heap.size = w.heap.size := upd_size w b o

theorem WR.congr {s' : St} (h : WR B π lm s w) (h1 : s'.heap = s.heap) (h2 : s'.loops = s.loops) : WR B π lm s' w :=
  ⟨by rw [h1]; exact h.dom, by rw [h1]; exact h.blk, by rw [h1]; exact h.inj, by rw [h2]; exact h.lsz, h.linj, by rw [h2]; exact h.loop⟩

theorem WR.img_lt (h : WR B π lm s w) {i : Nat} {A : ABlk} (hA : s.heap[i]? = some (some A)) {b n : Nat} (hp : π i = some (b, n)) : b < w.heap.size := by
  obtain ⟨c, fz, hc, _⟩ := h.at hA hp
  exact lt_of_some hc

theorem WR.loop_lt (h : WR B π lm s w) {L : Nat} (hL : L ∈ lm) : ∃ r, w.heap[L]? = some (.loop r) := by
  obtain ⟨l, hl1, rfl⟩ := List.getElem_of_mem hL
  obtain ⟨r, hr⟩ : ∃ r, s.loops[l]? = some r := ⟨_, List.getElem?_eq_getElem (h.lsz ▸ hl1)⟩
  obtain ⟨L', fn, D, ts, st, pd, h1, h2, h3⟩ := h.loop l r hr
  rw [List.getElem?_eq_getElem hl1] at h1
  obtain rfl := Option.some.inj h1
  exact ⟨_, h2⟩

/-- a block that is no row of the state's is changed -/
theorem WR.putOther (h : WR B π lm s w) {D : Nat} {o : Obj} (h1 : ∀ i A n, s.heap[i]? = some (some A) → π i ≠ some (D, n)) (h2 : D ∉ lm) : WR B π lm s (w.putObj D o) := by
  refine ⟨h.dom, ?_, h.inj, h.lsz, h.linj, ?_⟩
  · intro i A hA
    obtain ⟨b, n, c, fz, k1, k2, k3⟩ := h.blk i A hA
    exact ⟨b, n, c, fz, k1, by rw [putObj_other (fun e => h1 i A n hA (by rw [← e]; exact k1))]; exact k2, k3⟩
  · intro l r hr
    obtain ⟨L, fn, D', ts, st, pd, k1, k2, k3⟩ := h.loop l r hr
    exact ⟨L, fn, D', ts, st, pd, k1, by rw [putObj_other (fun e => h2 (by rw [← e]; exact List.mem_of_getElem? k1))]; exact k2, k3⟩

/-- a block is changed that was not there before -/
theorem Tr.putNew {π' : Inj} {lm' : List Nat} {s' s'' : St} {w' : World} (h : Tr π π' lm lm' s s' w w') (hw : WR B π lm s w) {D : Nat} {o : Obj} (hD : w.heap.size ≤ D) (e1 : s''.heap = s'.heap) (e2 : s''.lo = s'.lo) (e3 : s''.nd = s'.nd) :
    Tr π π' lm lm' s s'' w (w'.putObj D o) := by
  have hne : ∀ r, r < w.heap.size → (w'.putObj D o).heap[r]? = w'.heap[r]? := fun r hr => putObj_other (by omega)
  refine ⟨h.os, h.tape, h.output, by rw [putObj_size]; exact h.size, fun r hr h1 h2 => by rw [hne r hr]; exact h.keep r hr h1 h2, ?_, by rw [e1, e2]; exact h.same, ?_, by rw [e2]; exact h.lo_le, by rw [e3]; exact h.nd_le, h.le, h.old,
    by rw [e1]; exact h.len, by rw [e1]; exact h.liv, h.new, h.lmx⟩
  · intro i A b n hA hlo hp
    rw [hne b (hw.img_lt hA hp)]
    exact h.low i A b n hA (by rw [← e2]; exact hlo) hp
  · intro hnd L hL
    obtain ⟨r, hr⟩ := hw.loop_lt hL
    rw [hne L (lt_of_some hr)]
    exact h.lkeep (by rw [← e3]; exact hnd) L hL

theorem setStat_heap (s : St) (l : Nat) (x : LStat) : (setStat s l x).heap = s.heap := by unfold setStat; split <;> rfl
theorem setStat_lo (s : St) (l : Nat) (x : LStat) : (setStat s l x).lo = s.lo := by unfold setStat; split <;> rfl
theorem setStat_nd (s : St) (l : Nat) (x : LStat) : (setStat s l x).nd = s.nd := by unfold setStat; split <;> rfl
theorem setStat_loops {s : St} {l : Nat} {r : ALoop} (h : s.loops[l]? = some r) (x : LStat) (j : Nat) : (setStat s l x).loops[j]? = if l = j then some { r with stat := x } else s.loops[j]? := by
  have hl := (List.getElem?_eq_some_iff.1 h).1
  simp only [setStat, h, setNth_eq, List.getElem?_set]
  by_cases hj : l = j
  · subst hj; simp [hl]
  · simp [hj]

theorem WR.setStat (h : WR B π lm s w) {l L : Nat} {r : ALoop} (hr : s.loops[l]? = some r) (hL : lm[l]? = some L) (x : LStat) {fn : FuncId} {D : Nat} {tv : Array Value} {st : LoopState} {pd : Option Code} (hrel : x.rel st pd)
    (hts : LR π lm r.tmps tv.toList) : WR B π lm (setStat s l x) (w.putObj L (.loop { state := st, pending := pd, fn, tmps := tv, params := r.params.toArray, assign := r.assign, body := r.body, defers := D })) := by
  have hmem : L ∈ lm := List.mem_of_getElem? hL
  obtain ⟨r0, hr0⟩ := h.loop_lt hmem
  refine ⟨by rw [setStat_heap]; exact h.dom, ?_, by rw [setStat_heap]; exact h.inj, ?_, h.linj, ?_⟩
  · rw [setStat_heap]
    intro i A hA
    obtain ⟨b, n, c, fz, k1, k2, k3⟩ := h.blk i A hA
    exact ⟨b, n, c, fz, k1, by rw [putObj_other (fun e => by rw [e, hr0] at k2; cases k2)]; exact k2, k3⟩
  · rw [h.lsz]; unfold Ev.setStat; rw [hr]; simp [setNth_eq]
  · intro j r' hr'
    rw [setStat_loops hr] at hr'
    by_cases hj : l = j
    · subst hj
      simp at hr'
      subst hr'
      exact ⟨L, fn, D, tv, st, pd, hL, by rw [putObj_heap]; simp [lt_of_some hr0], hrel, hts⟩
    · simp [hj] at hr'
      obtain ⟨L', fn', D', ts', st', pd', k1, k2, k3⟩ := h.loop j r' hr'
      exact ⟨L', fn', D', ts', st', pd', k1, by rw [putObj_other (fun e => hj (h.linj l j L hL (by rw [← e]; exact k1)))]; exact k2, k3⟩

/-- a loop's record is changed before and behind -/
theorem Tr.around {π' : Inj} {lm' : List Nat} {s1 sb s2 s' : St} {w1 w3 : World} {L : Nat} {o1 o2 : Obj} (h : Tr π π' lm lm' sb s2 (w1.putObj L o1) w3) (hw : WR B π lm s1 w1) (hL : L ∈ lm)
    (e1 : sb.heap = s1.heap) (e2 : sb.lo = s1.lo) (e3 : sb.nd = s1.nd) (e4 : s'.heap = s2.heap) (e5 : s'.lo = s2.lo) (e6 : s2.nd ≤ s'.nd)
    (hs : s'.nd = s1.nd → (w3.putObj L o2).heap[L]? = w1.heap[L]?) : Tr π π' lm lm' s1 s' w1 (w3.putObj L o2) := by
  obtain ⟨r0, hr0⟩ := hw.loop_lt hL
  have hsz := h.size
  rw [putObj_size] at hsz
  refine ⟨h.os, h.tape, h.output, by rw [putObj_size]; exact hsz, ?_, ?_, by rw [e4, e5, ← e1]; exact h.same, ?_, by rw [e5, ← e2]; exact h.lo_le, by rw [← e3]; exact Nat.le_trans h.nd_le e6, h.le,
    by rw [← e1]; exact h.old, by rw [← e1, e4]; exact h.len, by rw [← e1, e4]; exact h.liv, ?_, ?_⟩
  · intro r hr h1 h2
    have hne : r ≠ L := fun e => h2 (e ▸ hL)
    rw [putObj_other hne, h.keep r (by rw [putObj_size]; exact hr) (by rw [e1]; exact h1) h2, putObj_other hne]
  · intro i A b n hA hlo hp
    have hne : b ≠ L := fun e => by
      obtain ⟨c, fz, hc, _⟩ := hw.at hA hp
      rw [e, hr0] at hc; cases hc
    rw [putObj_other hne, h.low i A b n (by rw [e1]; exact hA) (by rw [← e5]; exact hlo) hp, putObj_other hne]
  · intro hnd L' hL'
    by_cases hne : L' = L
    · subst hne; exact hs hnd
    · have := h.nd_le
      rw [putObj_other hne, h.lkeep (by omega) L' hL', putObj_other hne]
  · intro i b n hi hp
    have := h.new i b n (by rw [e1]; exact hi) hp
    rw [putObj_size, e1] at this
    exact this
  · have := h.lmx
    rw [putObj_size] at this
    exact this

theorem WR.pushLoop (h : WR B π lm s w) {w1 : World} (hext : ∀ r, r < w.heap.size → w1.heap[r]? = w.heap[r]?) (hsz : w.heap.size ≤ w1.heap.size) (h1 : w1.os = w.os) (h2 : w1.tape = w.tape) (h3 : w1.output = w.output)
    {L : Nat} (hL : w.heap.size ≤ L) {r : ALoop} {fn : FuncId} {D : Nat} {tv : Array Value}
    (hobj : w1.heap[L]? = some (.loop { state := .ready, pending := none, fn, tmps := tv, params := r.params.toArray, assign := r.assign, body := r.body, defers := D })) (hts : LR π lm r.tmps tv.toList) (hst : r.stat = .ready) :
    WR B π (lm ++ [L]) { s with loops := s.loops ++ [r] } w1 ∧ Tr π π lm (lm ++ [L]) s { s with loops := s.loops ++ [r] } w w1 := by
  have hlm : ∀ (i x : Nat), lm[i]? = some x → (lm ++ [L])[i]? = some x := fun i x hi => by
    rw [List.getElem?_append_left (List.getElem?_eq_some_iff.1 hi).1]; exact hi
  have hlt : ∀ (i x : Nat), lm[i]? = some x → x < w.heap.size := fun i x hi => by
    obtain ⟨r, hr⟩ := h.loop_lt (List.mem_of_getElem? hi); exact lt_of_some hr
  have hnew : ∀ (i x : Nat), (lm ++ [L])[i]? = some x → (i < lm.length ∧ lm[i]? = some x) ∨ (i = lm.length ∧ x = L) := fun i x hi => by
    by_cases hi' : i < lm.length
    · rw [List.getElem?_append_left hi'] at hi; exact .inl ⟨hi', hi⟩
    · rw [List.getElem?_append_right (by omega)] at hi
      have h0 : i - lm.length = 0 := by
        rcases Nat.eq_zero_or_pos (i - lm.length) with h0 | h0
        · exact h0
        · rw [List.getElem?_eq_none (by simp; omega)] at hi; cases hi
      rw [h0] at hi; simp at hi
      exact .inr ⟨by omega, hi.symm⟩
  constructor
  · refine ⟨h.dom, ?_, h.inj, by simp [h.lsz], ?_, ?_⟩
    · intro i A hA
      obtain ⟨b, n, c, fz, k1, k2, k3, k4, k5⟩ := h.blk i A hA
      exact ⟨b, n, c, fz, k1, by rw [hext b (lt_of_some k2)]; exact k2, k3, k4, k5.mono (Inj.le_refl _) hlm⟩
    · intro l l' x hl hl'
      rcases hnew l x hl with ⟨a1, a2⟩ | ⟨a1, a2⟩ <;> rcases hnew l' x hl' with ⟨b1, b2⟩ | ⟨b1, b2⟩
      · exact h.linj l l' x a2 b2
      · have := hlt l x a2; omega
      · have := hlt l' x b2; omega
      · omega
    · intro l r' hr'
      simp only at hr'
      by_cases hi' : l < s.loops.length
      · rw [List.getElem?_append_left hi'] at hr'
        obtain ⟨L', fn', D', ts', st', pd', k1, k2, k3, k4⟩ := h.loop l r' hr'
        exact ⟨L', fn', D', ts', st', pd', hlm _ _ k1, by rw [hext L' (lt_of_some k2)]; exact k2, k3, k4.mono (Inj.le_refl _) hlm⟩
      · rw [List.getElem?_append_right (by omega)] at hr'
        have h0 : l - s.loops.length = 0 := by
          rcases Nat.eq_zero_or_pos (l - s.loops.length) with h0 | h0
          · exact h0
          · rw [List.getElem?_eq_none (by simp; omega)] at hr'; cases hr'
        rw [h0] at hr'; simp at hr'
        subst hr'
        have hl : l = lm.length := by rw [h.lsz]; omega
        subst hl
        exact ⟨L, fn, D, tv, .ready, none, by simp, hobj, by rw [hst]; trivial, hts.mono (Inj.le_refl _) hlm⟩
  · exact { Tr.refl π lm w h.dom with
      os := h1, tape := h2, output := h3, size := hsz
      keep := fun r hr _ _ => hext r hr
      low := fun i A b n hA _ hp => hext b (h.img_lt hA hp)
      lkeep := fun _ L' hL' => by obtain ⟨r, hr⟩ := h.loop_lt hL'; exact hext L' (lt_of_some hr)
      lo_le := Nat.le_refl _
      nd_le := Nat.le_refl _
      liv := fun i A' _ hA => ⟨A', hA, rfl⟩
      lmx := ⟨[L], rfl, fun x hx => by simp at hx; subst hx; exact hL⟩ }

theorem params_rel : ∀ {ps : List Tmp} {xs : List AV} {vs : List Value} {tl : List AV} {tv : Array Value}, LR π lm tl tv.toList → LR π lm xs vs →
    LR π lm (putParams tl ps xs) ((ps.zip vs).foldl (fun (tmps : Array Value) (x : Tmp × Value) => tmps.setIfInBounds x.1 x.2) tv).toList := by
  intro ps
  induction ps with
  | nil => intro xs vs tl tv ht _; simpa [putParams] using ht
  | cons p ps ih =>
    intro xs vs tl tv ht hx
    cases xs with
    | nil => rw [hx.nil_inv]; simpa [putParams] using ht
    | cons x xs =>
      obtain ⟨c, ws, rfl, h1, h2⟩ := hx.uncons
      simp only [putParams, List.zip_cons_cons, List.foldl_cons]
      refine ih ?_ h2
      rw [setNth_eq, Array.toList_setIfInBounds]
      exact ht.set p h1

theorem params_rel' {ps : List Tmp} {xs : List AV} {vs tv : Array Value} {tl : List AV} (ht : LR π lm tl tv.toList) (hx : LR π lm xs vs.toList) :
    LR π lm (putParams tl ps xs) ((ps.toArray.zip vs).foldl (fun tmps (t, a) => tmps.setIfInBounds t a) tv).toList := by
  have := params_rel (ps := ps) ht hx
  rw [← Array.foldl_toList, Array.toList_zip]
  exact this

theorem sc_self {v : AV} {u : Value} (h : v.sc = some u) (π : Inj) (lm : List Nat) : VR π lm v u := by
  cases v <;> simp [AV.sc] at h <;> subst h <;> constructor

theorem optMap_sc_self {l : List AV} {vs : List Value} (h : optMap AV.sc l = some vs) (π : Inj) (lm : List Nat) : LR π lm l vs := by
  induction l generalizing vs with
  | nil => simp [optMap] at h; subst h; exact .nil
  | cons v l ih =>
    simp only [optMap] at h
    split at h
    · rename_i u us hu hus
      simp at h; subst h
      exact LR.cons (sc_self hu π lm) (ih hus)
    · cases h

theorem toV_self {v : AV} {u : Value} (h : v.toV = some u) (π : Inj) (lm : List Nat) : VR π lm v u := by
  cases v with
  | agg l =>
    simp only [AV.toV, Option.map_eq_some_iff] at h
    obtain ⟨vs, h1, rfl⟩ := h
    exact .agg' (optMap_sc_self h1 π lm)
  | _ => simp only [AV.toV] at h; exact sc_self h π lm

theorem lone_rel {π' : Inj} {lm' : List Nat} {v : AV} {c : Value} (h : v.lone = true) (hv : VR π' lm' v c) (π : Inj) (lm : List Nat) : VR π lm v c := by
  cases v with
  | sym k e lo hi => cases hv with
    | sym h0 h1 h2 => exact .sym h0 h1 h2
  | _ =>
    simp only [AV.lone] at h
    obtain ⟨u, hu⟩ := Option.isSome_iff_exists.1 h
    rw [AV.sc_rel hu hv]
    exact sc_self hu π lm

theorem flat1_rel {π' : Inj} {lm' : List Nat} {v : AV} {c : Value} (h : v.flat1 = true) (hv : VR π' lm' v c) (π : Inj) (lm : List Nat) : VR π lm v c := by
  cases v with
  | agg l =>
    cases hv with
    | agg hs hl =>
      simp only [AV.flat1, List.all_eq_true] at h
      exact .agg hs (fun i p q => lone_rel (h _ (List.getElem_mem p)) (hl i p q) π lm)
  | _ => simp only [AV.flat1] at h; exact lone_rel h hv π lm

theorem flat_rel {π' : Inj} {lm' : List Nat} {v : AV} {c : Value} (h : v.flat = true) (hv : VR π' lm' v c) (π : Inj) (lm : List Nat) : VR π lm v c := by
  cases v with
  | tup l =>
    obtain ⟨vs, rfl, hl⟩ := VR.tup_inv hv
    simp only [AV.flat, List.all_eq_true] at h
    exact .tup' ⟨hl.1, fun i p q => flat1_rel (h _ (List.getElem_mem p)) (hl.2 i p q) π lm⟩
  | _ => simp only [AV.flat] at h; exact flat1_rel h hv π lm

def resG (tv : Array Value) : ResultVar → Sem Value
  | .tmp t => pure (tv.getD t undef)
  | .cell x t => do loadVar t (← asAddr (tv.getD x undef))

theorem results_eq (fn : Func) (tv : Array Value) : results fn tv = (do
    let vs ← fn.results.mapM (resG tv)
    pure (if h : vs.size = 1 then vs[0] else .tuple vs)) := by
  unfold results
  congr 1

theorem results_rel {fn : Func} {v : AV} (hw : WR B π lm s w) (r : LR π lm ts a.tmps.toList) (h : resultsA P fn ts s = some v) : ∃ c, (results fn a.tmps).run P w = .ok c w ∧ VR π lm v c := by
  have slot : ∀ t, VR π lm (nthD undefA ts t) (a.tmps.getD t undef) := fun t => eval_rel (x := .tmp t) rfl r
  have key : ∀ (l : List ResultVar) (vs : List AV), optMap (resultA P ts s) l = some vs → ∃ cs : List Value, (l.mapM (resG a.tmps)).run P w = .ok cs w ∧ LR π lm vs cs := by
    intro l
    induction l with
    | nil => intro vs h; simp [optMap] at h; subst h; exact ⟨[], by simp, .nil⟩
    | cons x l ih =>
      intro vs h
      simp only [optMap] at h
      split at h
      · rename_i u us hu hus
        simp at h; subst h
        obtain ⟨cs, h1, h2⟩ := ih us hus
        have : ∃ c, (resG a.tmps x).run P w = .ok c w ∧ VR π lm u c := by
          cases x with
          | tmp t => simp [resultA] at hu; subst hu; exact ⟨_, rfl, slot t⟩
          | cell x t =>
            simp only [resultA] at hu
            split at hu
            · rename_i b off hb
              have := slot x
              rw [hb] at this
              obtain ⟨b', n, hp, hc⟩ := VR.ptr_inv this
              obtain ⟨c, k1, k2⟩ := load_rel (P := P) hw hu hp
              exact ⟨c, by simp [resG, hc, asAddr, k1], k2⟩
            · cases hu
        obtain ⟨c, k1, k2⟩ := this
        refine ⟨c :: cs, ?_, LR.cons k2 h2⟩
        rw [List.mapM_cons]
        simp only [Sem.run_bind, k1, Result.andThen_ok, h1, Sem.run_pure]
      · cases h
  have fin : ∀ vs, optMap (resultA P ts s) fn.results.toList = some vs → ∃ cs : List Value, (fn.results.mapM (resG a.tmps)).run P w = .ok cs.toArray w ∧ LR π lm vs cs := fun vs hvs => by
    obtain ⟨cs, h1, h2⟩ := key _ _ hvs
    refine ⟨cs, ?_, h2⟩
    rw [Array.mapM_eq_mapM_toList]
    simp only [Sem.run_map, h1, Result.andThen_ok]
  rw [results_eq]
  unfold resultsA at h
  split at h
  · rename_i v' hv'
    simp at h; subst h
    obtain ⟨cs, h1, h2⟩ := fin _ hv'
    obtain ⟨c, ws, rfl, h3, h4⟩ := h2.uncons
    have := h4.nil_inv
    subst this
    refine ⟨c, ?_, h3⟩
    rw [Sem.run_bind, h1]
    simp
  · rename_i vs hne hvs
    simp at h; subst h
    obtain ⟨cs, h1, h2⟩ := fin _ hvs
    have hlen : cs.length ≠ 1 := fun e => by
      have := h2.1
      rw [e] at this
      match vs, this, hne with
      | [v], _, hne => exact hne v rfl
    refine ⟨.tuple cs.toArray, ?_, .tup' h2⟩
    rw [Sem.run_bind, h1]
    simp [hlen]
  · cases h

end Go.Ev
