/- Rows that a function has made may change their places from round to round: loops that make memory. -/
import Derived.Test.YtdenpaifjpmkgaaEvN8
namespace Go.Ev
open Go.RowKit (Below)
set_option linter.unusedSectionVars false
set_option linter.unusedVariables false

/-- from a function's first state, which has h rows, to a later one: what is above h may have other places -/
structure TrH (h : Nat) (π π' : Inj) (lm lm' : List Nat) (s s' : St) (w w' : World) : Prop where
  os : w'.os = w.os
  tape : w'.tape = w.tape
  output : w'.output = w.output
  size : w.heap.size ≤ w'.heap.size
  keep : ∀ (r : Nat), r < w.heap.size → (∀ i A n, s.heap[i]? = some (some A) → A.ro = false → π i ≠ some (r, n)) → r ∉ lm → w'.heap[r]? = w.heap[r]?
  low : ∀ i A b n, i < h → s.heap[i]? = some (some A) → i < s'.lo → π i = some (b, n) → w'.heap[b]? = w.heap[b]?
  same : ∀ i, i < h → i < s'.lo → s'.heap[i]? = s.heap[i]?
  lkeep : s'.nd = s.nd → ∀ (L : Nat), L ∈ lm → w'.heap[L]? = w.heap[L]?
  lo_le : s'.lo ≤ s.lo
  nd_le : s.nd ≤ s'.nd
  old : ∀ i, i < h → π' i = π i
  len : h ≤ s'.heap.length
  liv : ∀ i A', i < h → s'.heap[i]? = some (some A') → ∃ A, s.heap[i]? = some (some A) ∧ A.ro = A'.ro
  new : ∀ i b n, h ≤ i → π' i = some (b, n) → w.heap.size ≤ b ∨ ∃ j A m, s.heap[j]? = some (some A) ∧ A.ro = false ∧ π j = some (b, m)
  lmx : ∃ t, lm' = lm ++ t ∧ ∀ (L : Nat), L ∈ t → w.heap.size ≤ L

theorem TrH.refl {h : Nat} (π : Inj) (lm : List Nat) {s : St} (w : World) (hs : s.heap.length = h) (hd : ∀ i x, π i = some x → i < s.heap.length) : TrH h π π lm lm s s w w where
  os := rfl
  tape := rfl
  output := rfl
  size := Nat.le_refl _
  keep := fun _ _ _ _ => rfl
  low := fun _ _ _ _ _ _ _ _ => rfl
  same := fun _ _ _ => rfl
  lkeep := fun _ _ _ => rfl
  lo_le := Nat.le_refl _
  nd_le := Nat.le_refl _
  old := fun _ _ => rfl
  len := by omega
  liv := fun i A' _ h => ⟨A', h, rfl⟩
  new := fun i b n hi h => absurd (hd _ _ h) (by omega)
  lmx := ⟨[], by simp, by simp⟩

theorem TrH.more {h : Nat} {π π' π'' : Inj} {lm lm' lm'' : List Nat} {s s' s'' : St} {w w' w'' : World}
    (t : TrH h π π' lm lm' s s' w w') (k : Tr π' π'' lm' lm'' s' s'' w' w'') : TrH h π π'' lm lm'' s s'' w w'' := by
  obtain ⟨t1, e1, g1⟩ := t.lmx
  obtain ⟨t2, e2, g2⟩ := k.lmx
  have hlen := t.len
  have hsz := t.size
  refine ⟨k.os.trans t.os, k.tape.trans t.tape, k.output.trans t.output, Nat.le_trans t.size k.size, ?_, ?_, ?_, ?_, Nat.le_trans k.lo_le t.lo_le, Nat.le_trans t.nd_le k.nd_le,
    ?_, Nat.le_trans t.len k.len, ?_, ?_, ?_⟩
  · intro r hr hi hl
    rw [← t.keep r hr hi hl]
    refine k.keep r (by omega) ?_ ?_
    · intro i A n hA hro hp
      by_cases hlt : i < h
      · obtain ⟨A0, hA0, hr0⟩ := t.liv i A hlt hA
        rw [t.old i hlt] at hp
        exact hi i A0 n hA0 (hr0.trans hro) hp
      · rcases t.new i r n (by omega) hp with h1 | ⟨j, A0, m, h1, h2, h3⟩
        · omega
        · exact hi j A0 m h1 h2 h3
    · rw [e1]; intro hm
      rcases List.mem_append.1 hm with h1 | h1
      · exact hl h1
      · have := g1 r h1; omega
  · intro i A b n hlt hA hlo hp
    have hl1 : i < s'.lo := Nat.lt_of_lt_of_le hlo k.lo_le
    rw [← t.low i A b n hlt hA hl1 hp]
    exact k.low i A b n (by rw [t.same i hlt hl1]; exact hA) hlo (by rw [t.old i hlt]; exact hp)
  · intro i hlt hlo
    have hl1 : i < s'.lo := Nat.lt_of_lt_of_le hlo k.lo_le
    rw [← t.same i hlt hl1]
    exact k.same i (by omega) hlo
  · intro hnd L hL
    have a := t.nd_le
    have b := k.nd_le
    have hL' : L ∈ lm' := by rw [e1]; exact List.mem_append_left _ hL
    rw [k.lkeep (by omega) L hL', t.lkeep (by omega) L hL]
  · intro i hi
    rw [k.old i (by omega), t.old i hi]
  · intro i A' hi hA'
    obtain ⟨A1, h1, r1⟩ := k.liv i A' (by omega) hA'
    obtain ⟨A0, h0, r0⟩ := t.liv i A1 hi h1
    exact ⟨A0, h0, r0.trans r1⟩
  · intro i b n hi hp
    by_cases hlt : i < s'.heap.length
    · rw [k.old i hlt] at hp
      exact t.new i b n hi hp
    · rcases k.new i b n (by omega) hp with h1 | ⟨j, A, m, h1, h2, h3⟩
      · exact .inl (by omega)
      · by_cases hj : j < h
        · obtain ⟨A0, hA0, hr0⟩ := t.liv j A hj h1
          rw [t.old j hj] at h3
          exact .inr ⟨j, A0, m, hA0, hr0.trans h2, h3⟩
        · exact t.new j b m (by omega) h3
  · exact ⟨t1 ++ t2, by rw [e2, e1, List.append_assoc], fun L hL => by
      rcases List.mem_append.1 hL with h1 | h1
      · exact g1 L h1
      · have := g2 L h1; omega⟩

theorem TrH.to {π π' : Inj} {lm lm' : List Nat} {s s' : St} {w w' : World} (t : TrH s.heap.length π π' lm lm' s s' w w') (hd : ∀ i x, π i = some x → i < s.heap.length) : Tr π π' lm lm' s s' w w' where
  os := t.os
  tape := t.tape
  output := t.output
  size := t.size
  keep := t.keep
  low := fun i A b n hA hlo hp => t.low i A b n (List.getElem?_eq_some_iff.1 hA).1 hA hlo hp
  same := t.same
  lkeep := t.lkeep
  lo_le := t.lo_le
  nd_le := t.nd_le
  le := fun i x hx => by rw [t.old i (hd i x hx)]; exact hx
  old := t.old
  len := t.len
  liv := t.liv
  new := t.new
  lmx := t.lmx

/-! ### code, seen from the function's first state -/
section
variable {P : Program}

def PostH (h B : Nat) (π0 : Inj) (lm0 : List Nat) (s0 : St) (w0 : World) (a0 : Act) (e : AExit) (R : Rho) (ts' : List AV) (s' : St) : Exit → Act → World → Prop :=
  fun x a' w' => EX e x ∧ ∃ π' lm', @WR R B π' lm' s' w' ∧ @LR R π' lm' ts' a'.tmps.toList ∧ TrH h π0 π' lm0 lm' s0 s' w0 w' ∧ Mk w0 a0 a' w'

structure Base (h B : Nat) (π0 : Inj) (lm0 : List Nat) (s0 : St) (w0 : World) (a0 : Act) (R : Rho) (π : Inj) (lm : List Nat) (ts : List AV) (s : St) (w : World) (a : Act) (ro : Option Nat) : Prop where
  hB : B ≤ w0.heap.size
  tr : TrH h π0 π lm0 lm s0 s w0 w
  mks : Mk w0 a0 a w
  wr : @WR R B π lm s w
  lr : @LR R π lm ts a.tmps.toList
  ro : ∀ L0, ro = some L0 → L0 ∈ lm0

def SAtF (P : Program) (h : Nat) (c : Code) (R1 : Rho) (ts : List AV) (s : St) (e : AExit) (R2 : Rho) (ts' : List AV) (s' : St) : Prop :=
  ∀ B π0 lm0 s0 w0 a0 π lm w a N ro, Base h B π0 lm0 s0 w0 a0 R1 π lm ts s w a ro → c.wpIn (Fr ro) N P (PostH h B π0 lm0 s0 w0 a0 e R2 ts' s') a w

def SRnF (P : Program) (h : Nat) (c : Code) (n : Nat) (R1 : Rho) (ts : List AV) (s : St) (e : AExit) (R2 : Rho) (ts' : List AV) (s' : St) : Prop :=
  ∀ B π0 lm0 s0 w0 a0 π lm w a N ro, Base h B π0 lm0 s0 w0 a0 R1 π lm ts s w a ro → Code.roundsIn (Fr ro) N P c (PostH h B π0 lm0 s0 w0 a0 e R2 ts' s') n a w

variable {h : Nat} {R1 R2 R3 : Rho} {c : Code} {ts ts1 ts2 tsA tsB ts' : List AV} {s s1 s2 sA sB s' : St} {e : AExit}

theorem SAtF.of (k : SAtX P c R1 ts s e R2 ts' s') : SAtF P h c R1 ts s e R2 ts' s' := by
  intro B π0 lm0 s0 w0 a0 π lm w a N ro b
  obtain ⟨t, e1, g1⟩ := b.tr.lmx
  refine wpIn_mono (k B π lm w a N ro b.wr (Nat.le_trans b.hB b.tr.size) b.lr (fun L0 hr => by rw [e1]; exact List.mem_append_left _ (b.ro L0 hr))) ?_
  rintro x a' w' ⟨hx, π', lm', k2, k3, k4, k5⟩
  exact ⟨hx, π', lm', k2, k3, b.tr.more k4, (by letI := R1; exact Mk.trans b.mks k5 b.wr k4 b.tr.size)⟩

theorem SAtF.seq {x y : Code} (h1 : SAtF P h x R1 ts s .normal R2 ts1 s1) (h2 : SAtF P h y R2 ts1 s1 e R3 ts2 s2) : SAtF P h (.seq x y) R1 ts s e R3 ts2 s2 := by
  intro B π0 lm0 s0 w0 a0 π lm w a N ro b
  refine wpIn_seq ?_
  refine wpIn_mono (h1 B π0 lm0 s0 w0 a0 π lm w a N ro b) ?_
  rintro z a1 w1 ⟨hx, π1, lm1, k1, k2, k3, k4⟩
  obtain rfl := hx.normal
  exact h2 B π0 lm0 s0 w0 a0 π1 lm1 w1 a1 N ro ⟨b.hB, k3, k4, k1, k2, b.ro⟩

theorem SRnF.more {n : Nat} (h1 : SAtF P h c R1 ts s .normal R2 ts1 s1) (h2 : SRnF P h c n R2 ts1 s1 e R3 ts2 s2) : SRnF P h c (n + 1) R1 ts s e R3 ts2 s2 := by
  intro B π0 lm0 s0 w0 a0 π lm w a N ro b
  rw [roundsIn_succ]
  refine wpIn_mono (h1 B π0 lm0 s0 w0 a0 π lm w a N ro b) ?_
  rintro z a1 w1 ⟨hx, π1, lm1, k1, k2, k3, k4⟩
  obtain rfl := hx.normal
  exact h2 B π0 lm0 s0 w0 a0 π1 lm1 w1 a1 N ro ⟨b.hB, k3, k4, k1, k2, b.ro⟩

theorem SRnF.last (h1 : SAtF P h c R1 ts s e R2 ts1 s1) (he : e ≠ .normal) : SRnF P h c 1 R1 ts s e R2 ts1 s1 := by
  intro B π0 lm0 s0 w0 a0 π lm w a N ro b
  rw [roundsIn_succ]
  refine wpIn_mono (h1 B π0 lm0 s0 w0 a0 π lm w a N ro b) ?_
  intro x a1 w1 hp
  cases x with
  | normal =>
    have : e = .normal := by
      have := hp.1
      cases e <;> first | rfl | exact this.elim
    exact absurd this he
  | _ => exact hp

theorem SRnF.loop {n : Nat} (k : SRnF P h c n R1 ts s e R2 ts1 s1) : SAtF P h (.loop c) R1 ts s e R2 ts1 s1 :=
  fun B π0 lm0 s0 w0 a0 π lm w a N ro b => wpIn_loop_rounds n (k B π0 lm0 s0 w0 a0 π lm w a N ro b)

theorem SAtF.block {id : Nat} (k : SAtF P h c R1 ts s (.exit id) R2 ts1 s1) : SAtF P h (.block id c) R1 ts s .normal R2 ts1 s1 := by
  intro B π0 lm0 s0 w0 a0 π lm w a N ro b
  refine wpIn_block ?_
  refine wpIn_mono (k B π0 lm0 s0 w0 a0 π lm w a N ro b) ?_
  rintro z a1 w1 ⟨hx, hp⟩
  cases z with
  | exit j =>
    have hj : id = j := hx
    subst hj
    simp only [Exit.inBlock, if_true]
    exact ⟨trivial, hp⟩
  | _ => exact hx.elim

/-- other letters, other places -/
def Moved (h : Nat) (R1 R2 : Rho) (ts : List AV) (s : St) (ts' : List AV) (s' : St) : Prop :=
  ∀ B π0 lm0 s0 w0 π lm w vs, TrH h π0 π lm0 lm s0 s w0 w → @WR R1 B π lm s w → @LR R1 π lm ts vs → ∃ π', @WR R2 B π' lm s' w ∧ @LR R2 π' lm ts' vs ∧ TrH h π0 π' lm0 lm s0 s' w0 w

theorem Moved.of (k : Turned R1 R2 ts s ts' s') : Moved h R1 R2 ts s ts' s' := by
  intro B π0 lm0 s0 w0 π lm w vs t hw hl
  obtain ⟨g1, g2, g3⟩ := k B π lm w vs hw hl
  exact ⟨π, g2, g1, t.more g3⟩
theorem Moved.trans (k1 : Moved h R1 R2 ts s ts1 s1) (k2 : Moved h R2 R3 ts1 s1 ts2 s2) : Moved h R1 R3 ts s ts2 s2 := by
  intro B π0 lm0 s0 w0 π lm w vs t hw hl
  obtain ⟨π1, g1, g2, g3⟩ := k1 B π0 lm0 s0 w0 π lm w vs t hw hl
  exact k2 B π0 lm0 s0 w0 π1 lm w vs g3 g1 g2

theorem SAtF.post (k : SAtF P h c R1 ts s e R2 tsA sA) (g : Moved h R2 R3 tsA sA tsB sB) : SAtF P h c R1 ts s e R3 tsB sB := by
  intro B π0 lm0 s0 w0 a0 π lm w a N ro b
  refine wpIn_mono (k B π0 lm0 s0 w0 a0 π lm w a N ro b) ?_
  rintro x a1 w1 ⟨hx, π', lm', k1, k2, k3, k4⟩
  obtain ⟨π2, g1, g2, g3⟩ := g B π0 lm0 s0 w0 π' lm' w1 _ k3 k1 k2
  exact ⟨hx, π2, lm', g1, g2, g3, k4⟩
theorem SAtF.pre (k : SAtF P h c R2 tsB sB e R3 ts' s') (g : Moved h R1 R2 tsA sA tsB sB) : SAtF P h c R1 tsA sA e R3 ts' s' := by
  intro B π0 lm0 s0 w0 a0 π lm w a N ro b
  obtain ⟨π2, g1, g2, g3⟩ := g B π0 lm0 s0 w0 π lm w _ b.tr b.wr b.lr
  exact k B π0 lm0 s0 w0 a0 π2 lm w a N ro ⟨b.hB, g3, b.mks, g1, g2, b.ro⟩

theorem SAtF.to {R : Rho} (k : SAtF P s.heap.length c R ts s e R ts' s') : @SAt R P c ts s e ts' s' := by
  letI := R
  intro B π lm w a N ro hw hB r hro
  refine wpIn_mono (k B π lm s w a π lm w a N ro ⟨hB, TrH.refl π lm w rfl hw.dom, Mk.refl w a w, hw, r, hro⟩) ?_
  rintro x a1 w1 ⟨hx, π', lm', k1, k2, k3, k4⟩
  exact ⟨hx, π', lm', k1, k2, k3.to hw.dom, k4⟩
end

/-! ### other places for rows -/
/-- the rows below m stay; behind them come those of sel -/
def renI (m : Nat) (sel : List Nat) (b : Nat) : Nat := if Nat.blt b m then b else m + posOf b sel
def renC (m : Nat) (sel : List Nat) (v : AV) : AV := if refsLt m v then v else ren2 (renI m sel) v
def renS (m : Nat) (sel : List Nat) (v : AV) : AV := if refsLt m v then v else if all2 (inS m sel) v then ren2 (renI m sel) v else .top
def okS (m : Nat) (sel : List Nat) (v : AV) : Bool := refsLt m v || (all2 (inS m sel) v || (match v with | .agg _ => false | .bool _ => false | _ => true))
def okC (m : Nat) (sel : List Nat) (v : AV) : Bool := refsLt m v || all2 (inS m sel) v
def renBk (m : Nat) (sel : List Nat) (A : ABlk) : ABlk := { A with cells := A.cells.map (renC m sel) }
def renOk (m : Nat) (sel : List Nat) (ts : List AV) (s : St) : Bool :=
  ts.all (okS m sel) && (s.heap.all (fun b => match b with | some A => A.cells.all (okC m sel) | none => true) && (nodupB sel && (sel.all (fun b => Nat.ble m b) && (Nat.ble m s.heap.length && s.loops.all fun r => refsLtL m r.tmps))))
/-- only the rows that are kept need be in order -/
def renH (m : Nat) (sel : List Nat) (s : St) : List (Option ABlk) := (s.heap.take m).map (fun b => b.map (renBk m sel)) ++ sel.map fun i => (nthD none s.heap i).map (renBk m sel)
def renSt (m : Nat) (sel : List Nat) (s : St) : St := { s with heap := renH m sel s, lo := 0 }
def renOk' (m : Nat) (sel : List Nat) (ts : List AV) (s : St) : Bool :=
  ts.all (okS m sel) && ((((s.heap.take m) ++ sel.map fun i => nthD none s.heap i).all (fun b => match b with | some A => A.cells.all (okC m sel) | none => true)) && (nodupB sel && (sel.all (fun b => Nat.ble m b) && (Nat.ble m s.heap.length && s.loops.all fun r => refsLtL m r.tmps))))

section
variable [Rho] {m : Nat} {sel : List Nat} {π : Inj} {lm : List Nat}
def renπ (m : Nat) (sel : List Nat) (π : Inj) : Inj := fun i => if i < m then π i else (sel[i - m]?).bind π

theorem renπ_cut : (π.cut m).le (renπ m sel π) := fun i x hx => by
  simp only [Inj.cut] at hx
  split at hx
  · rename_i hi; simp only [renπ, if_pos hi]; exact hx
  · cases hx
theorem renπ_of (hn : nodupB sel = true) {b : Nat} {y : Nat × Nat} (hb : inS m sel b = true) (hy : π b = some y) : renπ m sel π (renI m sel b) = some y := by
  simp only [inS, Bool.or_eq_true, Nat.blt_eq, List.contains_eq_mem, decide_eq_true_eq] at hb
  by_cases hlt : b < m
  · simp only [renI]
    rw [if_pos (by simpa using hlt)]
    simp only [renπ, if_pos hlt]; exact hy
  · have hm := hb.resolve_left hlt
    simp only [renI]
    rw [if_neg (by simpa using hlt)]
    simp only [renπ]
    rw [if_neg (by omega), show m + posOf b sel - m = posOf b sel by omega, posOf_ok hm]
    exact hy
theorem renC_rel (hn : nodupB sel = true) {v : AV} {c : Value} (h : okC m sel v = true) (r : VR π lm v c) : VR (renπ m sel π) lm (renC m sel v) c := by
  unfold renC
  unfold okC at h
  split
  · rename_i hv; exact (refs_cut r hv).mono renπ_cut (fun _ _ h => h)
  · rename_i hv
    simp only [Bool.or_eq_true] at h
    exact ren2_rel (fun b y hb hy => renπ_of hn hb hy) (h.resolve_left hv) r
theorem renS_rel (hn : nodupB sel = true) {v : AV} {c : Value} (h : okS m sel v = true) (r : VR π lm v c) : VR (renπ m sel π) lm (renS m sel v) c := by
  unfold renS
  unfold okS at h
  split
  · rename_i hv; exact (refs_cut r hv).mono renπ_cut (fun _ _ h => h)
  · rename_i hv
    split
    · rename_i h2; exact ren2_rel (fun b y hb hy => renπ_of hn hb hy) h2 r
    · rename_i h2
      simp only [Bool.or_eq_true] at h
      have h3 := (h.resolve_left hv).resolve_left h2
      have := top_rel (a := v) (by cases v <;> first | rfl | (simp at h3)) r
      cases this with
      | top h hb => exact .top h hb
theorem renL_rel {f : AV → AV} {ok : AV → Bool} {π' : Inj} (hf : ∀ v c, ok v = true → VR π lm v c → VR π' lm (f v) c) {l : List AV} {cs : List Value} (h : l.all ok = true) (r : LR π lm l cs) : LR π' lm (l.map f) cs := by
  simp only [List.all_eq_true] at h
  exact ⟨by simpa using r.1, fun i p q => by
    rw [List.getElem_map]
    exact hf _ _ (h _ (List.getElem_mem _)) (r.2 i (by simpa using p) q)⟩

theorem renH_get {s : St} (hm : m ≤ s.heap.length) {i : Nat} {T : ABlk} (hT : (renH m sel s)[i]? = some (some T)) :
    ∃ j A, s.heap[j]? = some (some A) ∧ T = renBk m sel A ∧ (i < m ∧ j = i ∨ m ≤ i ∧ sel[i - m]? = some j) := by
  unfold renH at hT
  have hl : ((s.heap.take m).map (fun b => b.map (renBk m sel))).length = m := by simp; omega
  by_cases hi : i < m
  · rw [List.getElem?_append_left (by omega), List.getElem?_map, List.getElem?_take_of_lt hi] at hT
    cases hh : s.heap[i]? with
    | none => rw [hh] at hT; cases hT
    | some o =>
      rw [hh] at hT
      cases o with
      | none => simp at hT
      | some A =>
        simp only [Option.map_some, Option.some.injEq] at hT
        exact ⟨i, A, hh, hT.symm, .inl ⟨hi, rfl⟩⟩
  · rw [List.getElem?_append_right (by omega), hl, List.getElem?_map] at hT
    cases hj : sel[i - m]? with
    | none => rw [hj] at hT; cases hT
    | some j =>
      rw [hj] at hT
      simp only [Option.map_some, Option.some.injEq, nthD_eq] at hT
      cases hh : s.heap[j]? with
      | none => rw [hh] at hT; simp at hT
      | some o =>
        rw [hh] at hT
        cases o with
        | none => simp at hT
        | some A =>
          simp only [Option.getD_some, Option.map_some, Option.some.injEq] at hT
          exact ⟨j, A, hh, hT.symm, .inr ⟨by omega, rfl⟩⟩

theorem moved_ren {R : Rho} {h : Nat} {ts : List AV} {s : St} (hhm : h ≤ m) (hk : renOk' m sel ts s = true) : Moved h R R ts s (ts.map (renS m sel)) (renSt m sel s) := by
  letI := R
  simp only [renOk', Bool.and_eq_true, Nat.ble_eq] at hk
  obtain ⟨k1, k2, k3, k4, k5, k6⟩ := hk
  simp only [List.all_eq_true, Nat.ble_eq] at k4 k6
  intro B π0 lm0 s0 w0 π lm w vs t hw hl
  have cellsOk : ∀ i T, (renH m sel s)[i]? = some (some T) → ∃ j A, s.heap[j]? = some (some A) ∧ T = renBk m sel A ∧ A.cells.all (okC m sel) = true ∧ renπ m sel π i = π j ∧ (i < m ∧ j = i ∨ m ≤ i ∧ sel[i - m]? = some j) := by
    intro i T hT
    obtain ⟨j, A, h1, h2, h3⟩ := renH_get k5 hT
    refine ⟨j, A, h1, h2, ?_, ?_, h3⟩
    · have hm : some A ∈ (s.heap.take m) ++ sel.map fun i => nthD none s.heap i := by
        rcases h3 with ⟨a, rfl⟩ | ⟨a, b⟩
        · exact List.mem_append_left _ (List.mem_of_getElem? (by rw [List.getElem?_take_of_lt a]; exact h1))
        · refine List.mem_append_right _ (List.mem_map.2 ⟨j, List.mem_of_getElem? b, ?_⟩)
          rw [nthD_eq, h1]; rfl
      exact List.all_eq_true.1 k2 _ hm
    · rcases h3 with ⟨a, rfl⟩ | ⟨a, b⟩
      · simp only [renπ, if_pos a]
      · simp only [renπ]
        rw [if_neg (by omega), b]; rfl
  refine ⟨renπ m sel π, ?_, renL_rel (fun v c hv r => renS_rel k3 hv r) k1 hl, ?_⟩
  · exact {
      dom := fun i x hx => by
        show i < (renH m sel s).length
        simp only [renH, List.length_append, List.length_map, List.length_take]
        simp only [renπ] at hx
        split at hx
        · omega
        · cases hj : sel[i - m]? with
          | none => rw [hj] at hx; cases hx
          | some j => have := (List.getElem?_eq_some_iff.1 hj).1; omega
      blk := fun i T hT => by
        obtain ⟨j, A, h1, rfl, h3, h4, _⟩ := cellsOk i T hT
        obtain ⟨b, n, c, fz, g1, g2, g3, g4, g5, g6⟩ := hw.blk j A h1
        refine ⟨b, n, c, fz, by rw [h4]; exact g1, g2, g3, g4, ?_, g6⟩
        have := renL_rel (f := renC m sel) (fun v c hv r => renC_rel k3 hv r) h3 g5
        simpa [renBk] using this
      inj := fun i i' T T' b n n' e1 e2 e3 e4 e5 => by
        obtain ⟨j, A, h1, rfl, _, h4, h5⟩ := cellsOk i T e1
        obtain ⟨j', A', h1', rfl, _, h4', h5'⟩ := cellsOk i' T' e2
        rw [h4] at e4
        rw [h4'] at e5
        have hj := hw.inj j j' A A' b n n' h1 h1' e3 e4 e5
        subst hj
        rcases h5 with ⟨a, a2⟩ | ⟨a, a2⟩ <;> rcases h5' with ⟨b1, b2⟩ | ⟨b1, b2⟩
        · omega
        · have := k4 _ (List.mem_of_getElem? b2); omega
        · have := k4 _ (List.mem_of_getElem? a2); omega
        · have := nodupB_ok k3 _ _ _ a2 b2; omega
      lsz := hw.lsz
      linj := hw.linj
      loop := fun l r hr => by
        obtain ⟨L, fn, D, tv, st, pd, g1, g2, g3, g4⟩ := hw.loop l r hr
        exact ⟨L, fn, D, tv, st, pd, g1, g2, g3, (refsL_cut g4 (k6 r (List.mem_of_getElem? hr))).mono renπ_cut (fun _ _ h => h)⟩ }
  · exact {
      os := t.os, tape := t.tape, output := t.output, size := t.size, keep := t.keep
      low := fun i A b n _ _ hlo => absurd hlo (Nat.not_lt_zero _)
      same := fun i _ hlo => absurd hlo (Nat.not_lt_zero _)
      lkeep := t.lkeep
      lo_le := Nat.zero_le _
      nd_le := t.nd_le
      old := fun i hi => by simp only [renπ]; rw [if_pos (by omega)]; exact t.old i hi
      len := by
        show h ≤ (renH m sel s).length
        simp only [renH, List.length_append, List.length_map, List.length_take]; omega
      liv := fun i T hi hT => by
        obtain ⟨j, A, h1, rfl, _, _, h5⟩ := cellsOk i T hT
        rcases h5 with ⟨_, rfl⟩ | ⟨h5, _⟩
        · exact t.liv j A hi h1
        · omega
      new := fun i b n hi hp => by
        simp only [renπ] at hp
        split at hp
        · exact t.new i b n hi hp
        · cases hj : sel[i - m]? with
          | none => rw [hj] at hp; cases hp
          | some j =>
            rw [hj] at hp
            have := k4 _ (List.mem_of_getElem? hj)
            exact t.new j b n (by omega) hp
      lmx := t.lmx }
end

/-! ### a row whose cells are known becomes a list letter's -/
def liftV (i : Nat) : AV → AV
  | .slice b off len cap ex es => if Nat.beq b i && (Nat.beq es 1 && Nat.ble len cap) then .sls b (.lit off) (.lit len) (.lit cap) ex else .slice b off len cap ex es
  | v => v
def liftB (k : Nat) (d : EK) (A : ABlk) : ABlk := { A with cells := [], tl := some (k, d) }
def liftSt (i k : Nat) (d : EK) (s : St) : St := { s with heap := s.heap.modify i (fun b => b.map (liftB k d)), lo := 0 }
def liftOk (i : Nat) (cs : List AV) (s : St) : Bool := match nthD none s.heap i with
  | some A => A.cells.all AV.lone && (sameL A.cells cs && A.tl.isNone)
  | none => false
/-- the list letter k stands for these values -/
def Stnd (R : Rho) (k : Nat) (d : EK) (cs : List AV) : Prop := @lskip R k = 0 ∧ @llen R k = cs.length ∧ ∀ i (h : i < cs.length), @lval R k d i = @AV.vl0 R cs[i]

theorem liftV_rel [Rho] {π : Inj} {lm : List Nat} {i : Nat} {v : AV} {c : Value} (r : VR π lm v c) : VR π lm (liftV i v) c := by
  cases v with
  | slice b off len cap ex es =>
    show VR π lm (if Nat.beq b i && (Nat.beq es 1 && Nat.ble len cap) then .sls b (.lit off) (.lit len) (.lit cap) ex else .slice b off len cap ex es) c
    by_cases hc : (Nat.beq b i && (Nat.beq es 1 && Nat.ble len cap)) = true
    · rw [if_pos hc]
      simp only [Bool.and_eq_true, Nat.beq_eq, Nat.ble_eq] at hc
      obtain ⟨rfl, rfl, hle⟩ := hc
      have so : SlOk (.lit (off : Int)) (.lit (len : Int)) (.lit (cap : Int)) := ⟨trivial, trivial, trivial, Int.natCast_nonneg _, Int.natCast_nonneg _, by simp only [SX.eval]; omega⟩
      cases r with
      | sliceEx hp =>
        have := VR.slsEx (π := π) (lm := lm) so hp
        simpa [SX.eval] using this
      | sliceIn hp hc hn =>
        rename_i cap'
        have := VR.slsIn (π := π) (lm := lm) (cap' := cap') so hp (by simp only [SX.eval]; omega) (by simp only [SX.eval]; omega)
        simpa [SX.eval] using this
    · rw [if_neg hc]; exact r
  | _ => exact r

theorem liftSt_get {i k : Nat} {d : EK} {s : St} {j : Nat} {T : ABlk} (h : (liftSt i k d s).heap[j]? = some (some T)) : ∃ A, s.heap[j]? = some (some A) ∧ (j = i ∧ T = liftB k d A ∨ j ≠ i ∧ T = A) := by
  simp only [liftSt, List.getElem?_modify] at h
  cases hh : s.heap[j]? with
  | none => rw [hh] at h; simp at h
  | some o =>
    rw [hh] at h
    cases o with
    | none => by_cases e : i = j <;> simp [e] at h
    | some A =>
      by_cases e : i = j
      · simp [e] at h
        exact ⟨A, rfl, .inl ⟨e.symm, h.symm⟩⟩
      · simp [e] at h
        exact ⟨A, rfl, .inr ⟨fun x => e x.symm, h.symm⟩⟩

theorem moved_lift {R : Rho} {h i k : Nat} {d : EK} {cs : List AV} {ts : List AV} {s : St} (hk : liftOk i cs s = true) (hs : Stnd R k d cs) : Moved h R R ts s (ts.map (liftV i)) (liftSt i k d s) := by
  letI := R
  intro B π0 lm0 s0 w0 π lm w vs t hw hl
  refine ⟨π, ?_, ⟨by simpa using hl.1, fun j p q => by rw [List.getElem_map]; exact liftV_rel (hl.2 j (by simpa using p) q)⟩, ?_⟩
  · exact {
      dom := fun j x hx => by
        have := hw.dom j x hx
        simpa [liftSt] using this
      blk := fun j T hT => by
        obtain ⟨A, h1, h2⟩ := liftSt_get hT
        obtain ⟨b, n, c, fz, g1, g2, g3, g4, g5, g6⟩ := hw.blk j A h1
        rcases h2 with ⟨rfl, rfl⟩ | ⟨_, rfl⟩
        · refine ⟨b, n, c, fz, g1, g2, g3, g4, LR.nil, fun k2 d2 hkd t ht => ?_⟩
          simp only [liftB, Option.some.injEq, Prod.mk.injEq] at hkd
          obtain ⟨rfl, rfl⟩ := hkd
          unfold liftOk at hk
          rw [nthD_eq, h1] at hk
          simp only [Option.getD_some, Bool.and_eq_true, List.all_eq_true] at hk
          obtain ⟨k1, k3, _⟩ := hk
          obtain rfl := sameL_ok k3
          obtain ⟨s1, s2, s3⟩ := hs
          rw [s2] at ht
          have hlen := g5.1
          simp only [List.length_take, Array.length_toList] at hlen
          have hr := g5.2 t ht (by simp; omega)
          have := vl0_eq (k1 _ (List.getElem_mem ht)) hr
          rw [s1, Nat.zero_add, s3 t ht, ← this]
          rw [List.getElem_take, ← Array.getElem?_toList]
          exact List.getElem?_eq_getElem _
        · exact ⟨b, n, c, fz, g1, g2, g3, g4, g5, g6⟩
      inj := fun j j' T T' b n n' e1 e2 e3 e4 e5 => by
        obtain ⟨A, h1, h2⟩ := liftSt_get e1
        obtain ⟨A', h1', _⟩ := liftSt_get e2
        refine hw.inj j j' A A' b n n' h1 h1' ?_ e4 e5
        rcases h2 with ⟨_, rfl⟩ | ⟨_, rfl⟩
        · exact e3
        · exact e3
      lsz := hw.lsz
      linj := hw.linj
      loop := hw.loop }
  · exact {
      os := t.os, tape := t.tape, output := t.output, size := t.size, keep := t.keep
      low := fun i A b n _ _ hlo => absurd hlo (Nat.not_lt_zero _)
      same := fun i _ hlo => absurd hlo (Nat.not_lt_zero _)
      lkeep := t.lkeep
      lo_le := Nat.zero_le _
      nd_le := t.nd_le
      old := t.old
      len := by have := t.len; simpa [liftSt] using this
      liv := fun j T hj hT => by
        obtain ⟨A, h1, h2⟩ := liftSt_get hT
        obtain ⟨A0, a1, a2⟩ := t.liv j A hj h1
        refine ⟨A0, a1, ?_⟩
        rcases h2 with ⟨_, rfl⟩ | ⟨_, rfl⟩
        · exact a2
        · exact a2
      new := t.new
      lmx := t.lmx }

/-! ### a loop as data, with rows that change their places -/
structure LoopR extends LoopD where
  /-- the function's rows at its beginning -/
  h : Nat
  /-- the rows below stay where they are -/
  kp : Nat
  /-- which rows above are kept behind a round, by template and class -/
  sel : Nat → Nat → List Nat
  /-- behind that: a row that becomes a list letter's, its cells -/
  lf : Nat → Nat → Option (Nat × Nat × EK × List AV) := fun _ _ => none
  /-- may the last round come where this template holds -/
  fm : Nat → Bool := fun _ => true

namespace LoopR
variable (L : LoopR)
def run (q : Nat) (x : List AV × St) : Option (AExit × T3 × St) := L.toLoopD.run q x
def outQ (p q : Nat) (r : Option (AExit × T3 × St)) : List AV × St := ((roT L.N r).map (renS L.kp (L.sel p q)), renSt L.kp (L.sel p q) (roS r))
def outR (p q : Nat) (r : Option (AExit × T3 × St)) : List AV × St := match L.lf p q with
  | none => L.outQ p q r
  | some (i, k, d, _) => ((L.outQ p q r).1.map (liftV i), liftSt i k d (L.outQ p q r).2)
def lfOk (p q : Nat) (x : List AV × St) : Bool := match L.lf p q with
  | none => true
  | some (i, _, _, cs) => liftOk i cs x.2
def more (l : List (List AV × St)) : List (Nat × Nat) → List (List AV × St)
  | [] => l
  | (p, q) :: r => more (l ++ [L.gen (L.g l.length) (L.outR p q (L.run q (nthD ([], roS none) l p)))]) r
/-- the templates -/
def tms : List (List AV × St) := L.more [L.gen (L.g 0) (L.t0, L.s0)] L.src
def tm (i : Nat) : List AV × St := nthD ([], roS none) L.tms i
def fin (i : Nat) : Option (AExit × T3 × St) := L.run (L.lst i) (L.tm i)
def res (i : Nat) : List AV × St := L.gen L.gF (LoopD.out L.toLoopD (L.fin i))
def chk : Bool :=
  Nat.ble L.h L.kp && (Nat.ble L.N 512 && (codeIn L.N L.c && (Nat.beq L.t0.length L.N && (L.chkT (L.t0, L.s0) (L.tm 0) L.ob0 L.lo0 &&
    (L.idx.all (fun i => L.cls.all fun q => !(L.may i q) || (Nat.ble (L.nx i q) L.src.length && (LoopD.isN (L.run q (L.tm i)) && (renOk' L.kp (L.sel i q) (roT L.N (L.run q (L.tm i))) (roS (L.run q (L.tm i))) && (L.lfOk i q (L.outQ i q (L.run q (L.tm i))) &&
        L.chkT (L.outR i q (L.run q (L.tm i))) (L.tm (L.nx i q)) (L.ob q) (L.lo q)))))) &&
      (L.idx.all (fun i => Nat.beq (L.tm i).1.length L.N && (!(L.fm i) || (LoopD.isX (L.fin i) && L.chkT (LoopD.out L.toLoopD (L.fin i)) (L.res i) L.obF L.loF)))))))))
def at' (q : Nat → Nat) : Nat → Nat
  | 0 => 0
  | j + 1 => L.nx (at' q j) (q j)
def Loops : Prop := (∀ i ∈ L.idx, ∀ q ∈ L.cls, L.may i q = true → (L.tm (L.nx i q)).2.loops = (roS (L.run q (L.tm i))).loops) ∧ (L.tm 0).2.loops = L.s0.loops

theorem at_idx (q : Nat → Nat) {K : Nat} (hc : L.chk = true) (hq : ∀ j, j < K → q j ∈ L.cls ∧ L.may (L.at' q j) (q j) = true) : ∀ j, j ≤ K → L.at' q j ∈ L.idx := by
  simp only [chk, Bool.and_eq_true, List.all_eq_true] at hc
  obtain ⟨_, _, _, _, _, c5, _⟩ := hc
  intro j
  induction j with
  | zero => intro _; simp [at', LoopD.idx]
  | succ j ih =>
    intro hj
    have h1 := c5 _ (ih (by omega)) _ (hq j (by omega)).1
    rw [(hq j (by omega)).2] at h1
    simp only [Bool.not_true, Bool.false_or, Bool.and_eq_true] at h1
    have h2 := h1.1
    rw [Nat.ble_eq] at h2
    simp only [at', LoopD.idx, List.mem_range]; omega

theorem sound {K : Nat} {q : Nat → Nat} {R : Rho} {J : Nat → Rho} (hP : Fit L.P) (hc : L.chk = true) (hl : L.Loops) (ho : ∀ j, j ≤ K → @OrcOk (J j) L.P L.orc) (hq : ∀ j, j < K → q j ∈ L.cls ∧ L.may (L.at' q j) (q j) = true)
    (k1 : ∀ j, j < K → @KnowOk (J j) (L.kn (q j))) (k0 : @KnowOk (J K) (L.kn (L.lst (L.at' q K)))) (ag : ∀ j, j ≤ K → Agree L.m R (J j)) (o0 : Obs R (J 0) L.ob0) (l0 : LObs R (J 0) L.lo0)
    (oj : ∀ j, j < K → Obs (J j) (J (j + 1)) (L.ob (q j))) (lj : ∀ j, j < K → LObs (J j) (J (j + 1)) (L.lo (q j))) (oF : Obs (J K) R L.obF) (lF : LObs (J K) R L.loF)
    (lo' : ∀ j, j < K → ∀ i k d cs, L.lf (L.at' q j) (q j) = some (i, k, d, cs) → Stnd (J j) k d cs) (hfm : L.fm (L.at' q K) = true) :
    SAtF L.P L.h (.loop L.c) R L.t0 L.s0 (roE (L.fin (L.at' q K))) R (L.res (L.at' q K)).1 (L.res (L.at' q K)).2 := by
  have hidx := L.at_idx q hc hq
  simp only [chk, Bool.and_eq_true, List.all_eq_true] at hc
  obtain ⟨c0, c1, c2, c3, c4, c5, c6⟩ := hc
  rw [Nat.ble_eq] at c0
  have len : ∀ i, i ∈ L.idx → (L.tm i).1.length = L.N := fun i hi => by have := (c6 i hi).1; rwa [Nat.beq_eq] at this
  have agj : ∀ j k, j ≤ K → k ≤ K → Agree L.m (J j) (J k) := fun j k hj hk =>
    ⟨fun i hi => by rw [← (ag j hj).num i hi, (ag k hk).num i hi], fun a i ha => by rw [← (ag j hj).lst a i ha, (ag k hk).lst a i ha]⟩
  have agR : Agree L.m (J K) R := ⟨fun i hi => ((ag K (Nat.le_refl _)).num i hi).symm, fun a i ha => ((ag K (Nat.le_refl _)).lst a i ha).symm⟩
  -- a round
  have step : ∀ j, j < K → SAtF L.P L.h L.c (J j) (L.tm (L.at' q j)).1 (L.tm (L.at' q j)).2 .normal (J (j + 1)) (L.tm (L.at' q (j + 1))).1 (L.tm (L.at' q (j + 1))).2 := by
    intro j hj
    have hi := hidx j (by omega)
    have c5' := c5 _ hi _ (hq j hj).1
    rw [(hq j hj).2] at c5'
    simp only [Bool.not_true, Bool.false_or, Bool.and_eq_true] at c5'
    obtain ⟨_, d2, d4, d5, d3⟩ := c5'
    have hN : (L.run (q j) (L.tm (L.at' q j))).isSome = true ∧ roE (L.run (q j) (L.tm (L.at' q j))) = .normal := by
      unfold LoopD.isN at d2
      split at d2
      · rename_i h; rw [h]; exact ⟨rfl, rfl⟩
      · cases d2
    have := (@run_at L.P L.orc (J j) (L.kn (q j)) (k1 j hj) hP (ho j (by omega)) L.N L.c _ _ _ c1 c2 (len _ hi) rfl hN.1).1
    unfold run LoopD.run at hN
    rw [hN.2] at this
    have m2 : Moved L.h (J j) (J j) (L.outQ (L.at' q j) (q j) (L.run (q j) (L.tm (L.at' q j)))).1 (L.outQ (L.at' q j) (q j) (L.run (q j) (L.tm (L.at' q j)))).2 (L.outR (L.at' q j) (q j) (L.run (q j) (L.tm (L.at' q j)))).1 (L.outR (L.at' q j) (q j) (L.run (q j) (L.tm (L.at' q j)))).2 := by
      unfold outR
      unfold lfOk at d5
      cases hlf : L.lf (L.at' q j) (q j) with
      | none => intro B π0 lm0 s0 w0 π lm w vs t hw hl; exact ⟨π, hw, hl, t⟩
      | some x =>
        obtain ⟨i, k, d, cs⟩ := x
        rw [hlf] at d5
        exact moved_lift d5 (lo' j hj i k d cs hlf)
    exact (((SAtF.of this).post (moved_ren (R := J j) c0 d4)).post m2).post (Moved.of (chkTurn_ok (agj j (j + 1) (by omega) (by omega)) d3 ((hl.1 _ hi _ (hq j hj).1 (hq j hj).2).trans (by unfold outR; split <;> rfl)) (oj j hj) (lj j hj)))
  have hiK := hidx K (Nat.le_refl _)
  obtain ⟨_, x23⟩ := c6 _ hiK
  rw [hfm] at x23
  simp only [Bool.not_true, Bool.false_or, Bool.and_eq_true] at x23
  obtain ⟨x2, x3⟩ := x23
  have hX : (L.fin (L.at' q K)).isSome = true ∧ roE (L.fin (L.at' q K)) ≠ .normal := by
    unfold LoopD.isX at x2
    split at x2
    · rename_i h; rw [h]; exact ⟨rfl, by simp [roE]⟩
    · rename_i h; rw [h]; exact ⟨rfl, by simp [roE]⟩
    · cases x2
  have last := (@run_at L.P L.orc (J K) (L.kn (L.lst (L.at' q K))) k0 hP (ho K (Nat.le_refl _)) L.N L.c _ _ _ c1 c2 (len _ hiK) rfl hX.1).1
  have last2 := last.turn (R3 := R) (chkTurn_ok agR x3 rfl oF lF)
  have key : ∀ (d j : Nat), j + d = K → SRnF L.P L.h L.c (d + 1) (J j) (L.tm (L.at' q j)).1 (L.tm (L.at' q j)).2 (roE (L.fin (L.at' q K))) R (L.res (L.at' q K)).1 (L.res (L.at' q K)).2 := by
    intro d
    induction d with
    | zero =>
      intro j h
      rw [Nat.add_zero] at h
      subst h
      exact SRnF.last (SAtF.of last2) hX.2
    | succ d ih =>
      intro j h
      exact SRnF.more (step j (by omega)) (ih (j + 1) (by omega))
  have loop := (key K 0 (by omega)).loop
  exact SAtF.pre loop (Moved.of (chkTurn_ok (ag 0 (by omega)) c4 hl.2 o0 l0))
def pairs : List (Nat × Nat) := L.idx.flatMap fun i => (L.cls.filter (L.may i)).map fun q => (i, q)
theorem loops_of (h : L.pairs.map (fun p => (L.tm (L.nx p.1 p.2)).2.loops) = L.pairs.map (fun p => (roS (L.run p.2 (L.tm p.1))).loops)) (h0 : (L.tm 0).2.loops = L.s0.loops) : L.Loops := by
  refine ⟨fun i hi q hq hm => ?_, h0⟩
  have := List.map_inj_left.1 h (i, q) (by
    simp only [pairs, List.mem_flatMap, List.mem_map, List.mem_filter]
    exact ⟨i, hi, q, ⟨hq, hm⟩, rfl⟩)
  exact this
end LoopR

/-! ### other numbers for single letters -/
@[reducible] def setN (R : Rho) (i : Nat) (n : Int) : Rho := ⟨fun a => if a = i then n else @Rho.ρ R a⟩
@[reducible] def setL (R : Rho) (k : Nat) (l : List Int) : Rho := ⟨fun a => if 1000000 ≤ a ∧ (a - 1000000) % 1000 = k then
    (if (a - 1000000) / 1000 = 0 then (l.length : Int) else if (a - 1000000) / 1000 = 1 then 0 else l.getD ((a - 1000000) / 1000 - 2) 0) else @Rho.ρ R a⟩
section
variable {R : Rho}
theorem setN_at {i : Nat} {n : Int} : @Rho.ρ (setN R i n) i = n := if_pos rfl
theorem setN_ne {i a : Nat} {n : Int} (h : a ≠ i) : @Rho.ρ (setN R i n) a = @Rho.ρ R a := if_neg h
theorem setN_lst {i : Nat} {n : Int} (h : i < 1000000) (k t : Nat) : @Rho.ρ (setN R i n) (lix k t) = @Rho.ρ R (lix k t) := setN_ne (by unfold lix; omega)
theorem setL_num {k : Nat} {l : List Int} {a : Nat} (h : a < 1000000) : @Rho.ρ (setL R k l) a = @Rho.ρ R a := if_neg (by omega)
theorem setL_ne {k k' : Nat} {l : List Int} (h : k' ≠ k) (hk : k' < 1000) (t : Nat) : @Rho.ρ (setL R k l) (lix k' t) = @Rho.ρ R (lix k' t) := if_neg (by unfold lix; omega)
theorem setL_at {k : Nat} {l : List Int} (hk : k < 1000) (t : Nat) : @Rho.ρ (setL R k l) (lix k t) = if t = 0 then (l.length : Int) else if t = 1 then 0 else l.getD (t - 2) 0 := by
  have h1 : (lix k t - 1000000) / 1000 = t := by unfold lix; omega
  have h2 : 1000000 ≤ lix k t ∧ (lix k t - 1000000) % 1000 = k := by unfold lix; omega
  show (if _ then _ else _) = _
  rw [if_pos h2, h1]
theorem setL_len {k : Nat} {l : List Int} (hk : k < 1000) : @llen (setL R k l) k = l.length := by unfold llen; rw [setL_at hk]; rfl
theorem setL_skip {k : Nat} {l : List Int} (hk : k < 1000) : @lskip (setL R k l) k = 0 := by unfold lskip; rw [setL_at hk]; rfl
theorem setL_val {k : Nat} {l : List Int} (hk : k < 1000) (d : EK) (i : Nat) : @lval (setL R k l) k d i = d.val (l.getD i 0) := by
  unfold lval lel; rw [setL_at hk, if_neg (by omega), if_neg (by omega)]; rfl
end

/-! ### calls, from one evaluation -/
theorem call_of {P : Program} {orc : Orc} {R : Rho} [Know] [KnowOk] (hP : Fit P) (ho : OrcOk P orc) {n : Nat} {f : FuncId} {args : List AV} {s : St} {v : AV} {s' : St}
    (h : (match (evF P orc n).call f args s with | some (v1, s1, _) => v1.same v && sameSt s1 s' | none => false) = true) : @CallAt R P f args s v s' := by
  split at h
  · rename_i v1 s1 q e
    simp only [Bool.and_eq_true] at h
    obtain rfl := AV.same_ok h.1
    obtain rfl := sameSt_ok h.2
    have h1 := (evF_sim P orc n).call _ _ _ _ e
    obtain ⟨k1, _, _, _⟩ := ev_sound ho hP.mix hP.name n
    obtain ⟨g1, _, g2⟩ := k1 _ _ _ _ _ _ h1
    exact ⟨g1, g2⟩
  · cases h

/-- a fact, of what is known of the body -/
theorem holds_at {P : Program} [Rho] {f : FuncId} {fn : Func} {body : Code} {F : Fct} {e : AExit} {tsC : List AV} {sC : St} (hf : P.funcs[f]? = some fn) (hb : fn.body = some body)
    (hs : SAt P body (F.args ++ List.replicate (fn.ntmps - F.args.length) undefA) { heap := F.old.map some, lo := F.old.length, loops := [], nd := 0 } e tsC sC) (he : e = .normal ∨ e = .ret) (hr : resultsA P fn tsC sC = some F.v)
    (hn : chkNew sC.heap F.sel F.new = true) (hlo : sC.lo < F.old.length ∨ F.old.length ≤ sC.lo ∧ (sC.nd == 0) = false ∨ F.v.flat = false) (hg : F.good = true) : F.Holds P f := by
  classical
  let rc : Ev := { code := fun c ts s => if c = body ∧ ts = F.args ++ List.replicate (fn.ntmps - F.args.length) undefA ∧ s = { heap := F.old.map some, lo := F.old.length, loops := [], nd := 0 } then some (e, tsC, sC) else none, call := fun _ _ _ => none, round := fun _ _ _ => none }
  have hc : SCode P rc.code := by
    intro c ts s e' ts' s' h
    simp only [rc] at h
    split at h
    · rename_i hh
      obtain ⟨rfl, rfl, rfl⟩ := hh
      simp only [Option.some.injEq, Prod.mk.injEq] at h
      obtain ⟨rfl, rfl, rfl⟩ := h
      exact hs
    · cases h
  have hcall : ∃ lo, evCall P rc f F.args F.st = some (F.v, { sC with lo := lo }, false) := by
    unfold evCall
    rw [hf]
    simp only [hb]
    have : rc.code body (F.args ++ List.replicate (fn.ntmps - F.args.length) undefA) { F.st with lo := F.st.heap.length } = some (e, tsC, sC) := by
      simp only [rc, Fct.st, List.length_map]
      rw [if_pos ⟨trivial, trivial, trivial⟩]
    rw [this]
    have hcc : (decide (F.st.heap.length ≤ sC.lo) && sC.nd == F.st.nd && F.v.flat) = false := by
      simp only [Fct.st, List.length_map]
      rcases hlo with h | h | h
      · rw [decide_eq_false (by omega)]; rfl
      · rw [h.2]; simp
      · rw [h]; simp
    refine ⟨min F.st.lo sC.lo, ?_⟩
    rcases he with rfl | rfl <;> simp only [hr] <;> rw [if_neg (by rw [hcc]; exact Bool.false_ne_true)]
  obtain ⟨lo, hcall⟩ := hcall
  exact ⟨⟨fn, body, hf, hb⟩, hg, { sC with lo := lo }, hn, fun w vs N π hw hl => (call_sound hc f F.args _ F.v _ false hcall).2.2 w.heap.size π [] w vs N none hw (Nat.le_refl _) hl⟩

/-- one value more -/
theorem app_snoc {R : Rho} {k k' : Nat} {kd : IntKind} {l : List Int} {len : SX} {v : AV} {x : Int} (s0 : @lskip R k = 0) (n0 : @llen R k = l.length) (v0 : ∀ i, @lval R k (.int kd) i = .int kd (l.getD i 0)) (hl : @SX.eval R len = (l.length : Int))
    (s1 : @lskip R k' = 0) (n1 : @llen R k' = l.length + 1) (v1 : ∀ i, @lval R k' (.int kd) i = .int kd ((l ++ [x]).getD i 0)) (hv : @AV.vl0 R v = .int kd x) :
    @lskip R k' = 0 ∧ @lvals R k' (.int kd) = @descV R (.int kd) (.lst k (.lit 0) len) ++ @descV R (.int kd) (.cells [v]) ∧ @descIn R (.lst k (.lit 0) len) ∧ @descIn R (.cells [v]) := by
  letI := R
  refine ⟨s1, ?_, ?_, trivial⟩
  · have e0 : (SX.lit 0).eval.toNat = 0 := rfl
    have e1 : (List.range l.length).map (lval k' (.int kd)) = (List.range l.length).map (fun i => lval k (.int kd) (0 - lskip k + i)) := List.map_congr_left fun i hi => by
      have := List.mem_range.1 hi
      rw [v1, s0, v0, Nat.sub_self, Nat.zero_add]
      have e : (l ++ [x]).getD i 0 = l.getD i 0 := by simp [List.getD, List.getElem?_append_left this]
      rw [e]
    have e2 : lval k' (.int kd) l.length = .int kd x := by
      have e : (l ++ [x]).getD l.length 0 = x := by simp [List.getD]
      rw [v1, e]
    simp only [lvals, descV]
    rw [n1, hl, e0, List.range_succ, List.map_append, Int.toNat_natCast, List.map_cons, List.map_nil, List.map_cons, List.map_nil, hv, e1, e2]
  · have e0 : (SX.lit 0).eval.toNat = 0 := rfl
    simp only [descIn]
    rw [s0, n0, hl, e0]; omega

/-- rows without loops, under letters that agree -/
theorem WR.stab {m : Nat} {R1 R2 : Rho} (hA : Agree m R1 R2) {B : Nat} {π : Inj} {lm : List Nat} {s : St} {w : World} (hl : s.loops = []) (hc : s.heap.all (fun b => match b with | some A => stabL m A.cells && (match A.tl with | some (k, _) => Nat.blt k m | none => true) | none => true) = true)
    (h : @WR R1 B π lm s w) : @WR R2 B π lm s w := by
  simp only [List.all_eq_true] at hc
  refine @WR.mk R2 B π lm s w (@WR.dom R1 B π lm s w h) (fun i A hA' => ?_) (@WR.inj R1 B π lm s w h) (@WR.lsz R1 B π lm s w h) (@WR.linj R1 B π lm s w h) (fun l r hr => by rw [hl] at hr; simp at hr)
  obtain ⟨b, n, c, fz, h1, h2, h3, h4, h5, h6⟩ := @WR.blk R1 B π lm s w h i A hA'
  have hk := hc _ (List.mem_of_getElem? hA')
  simp only [Bool.and_eq_true] at hk
  refine ⟨b, n, c, fz, h1, h2, h3, h4, ⟨h5.1, fun j p q => stab_turn hA (h5.2 j p q) (stabL_get hk.1 j p)⟩, fun k d hkd i hi => ?_⟩
  have hlt : k < m := by have := hk.2; rw [hkd] at this; simpa using this
  have e0 : @llen R2 k = @llen R1 k := by unfold llen; rw [hA.lst k 0 hlt]
  have e3 : @lskip R2 k = @lskip R1 k := by unfold lskip; rw [hA.lst k 1 hlt]
  have e4 : @lval R2 k d i = @lval R1 k d i := by unfold lval lel; rw [hA.lst k (i + 2) hlt]
  rw [e3, e4]
  exact h6 k d hkd i (by rw [← e0]; exact hi)
end Go.Ev
