/- A range over an iterator that itself ranges over a function: the iterator may turn blocks that are no cells, what it hands over may lie in memory, and the body says which blocks are its own. -/
import Derived.RangeFuncNested
import Derived.RangeFuncBound
import Derived.RangeFuncCalls
import Derived.RangeFuncFrom
import Derived.Lib.Hide
namespace Go.Sq
open Go.RowKit
set_option linter.unusedVariables false
set_option linter.unusedSectionVars false
/-- what a round may change: its own blocks, and what is new; what is its own then was so before, or is new -/
structure KB (Ow : World → Nat → Prop) (W W' : World) : Prop where
 os : W'.os = W.os
 tape : W'.tape = W.tape
 output : W'.output = W.output
 size : W.heap.size ≤ W'.heap.size
 same : ∀ k, k < W.heap.size → ¬ Ow W k → W'.heap[k]? = W.heap[k]?
 ow : ∀ k, Ow W' k → Ow W k ∨ W.heap.size ≤ k
theorem KB.refl (Ow : World → Nat → Prop) (W : World) : KB Ow W W := ⟨rfl, rfl, rfl, Nat.le_refl _, fun _ _ _ => rfl, fun _ h => .inl h⟩
theorem KB.trans {Ow : World → Nat → Prop} {A B C : World} (h : KB Ow A B) (k : KB Ow B C) : KB Ow A C :=
 ⟨k.os.trans h.os, k.tape.trans h.tape, k.output.trans h.output, Nat.le_trans h.size k.size, fun i hi ho => (k.same i (Nat.lt_of_lt_of_le hi h.size) fun e => (h.ow i e).elim ho fun e => absurd hi (by omega)).trans (h.same i hi ho), fun i e => (k.ow i e).elim (h.ow i) fun e => .inr (Nat.le_trans h.size e)⟩
/-- the blocks that are a loop's own are cells, and no other step makes more of them -/
structure OwOk {β : Type} (Ow : World → Nat → Prop) (J : β → World → Prop) : Prop where
 cells : ∀ s W k, J s W → Ow W k → ∃ c e f, W.heap[k]? = some (Obj.cells c e f)
 mono : ∀ s W W' row, J s W → W.grownBy W' row → (∀ r, row = some r → ¬ Ow W r) → ∀ k, Ow W' k → Ow W k
theorem OwOk.not {β : Type} {Ow : World → Nat → Prop} {J : β → World → Prop} (h : OwOk Ow J) {s : β} {W : World} (hj : J s W) {l : Nat} {o : Obj} (hl : W.heap[l]? = some o) (ho : o.isCells = false) : ¬ Ow W l := fun e => by
 obtain ⟨c, e, f, h1⟩ := h.cells s W l hj e
 rw [hl] at h1
 cases h1
 cases ho
theorem OwOk.lt {β : Type} {Ow : World → Nat → Prop} {J : β → World → Prop} (h : OwOk Ow J) {s : β} {W : World} (hj : J s W) {k : Nat} (e : Ow W k) : k < W.heap.size := by
 obtain ⟨c, e, f, h1⟩ := h.cells s W k hj e
 exact (Array.getElem?_eq_some_iff.1 h1).1
theorem below_none {W W' : World} (h : Below W.heap.size W W') : W.grownBy W' none := ⟨h.os, h.tape, h.output, h.size, fun k hk _ => h.block k hk⟩
theorem KB.own {β : Type} {Ow : World → Nat → Prop} {J : β → World → Prop} (h : OwOk Ow J) {s : β} {W W' : World} (hj : J s W) (hb : Below W.heap.size W W') : KB Ow W W' :=
 ⟨hb.os, hb.tape, hb.output, hb.size, fun k hk _ => hb.block k hk, fun k e => .inl (h.mono s W W' none hj (below_none hb) (fun r e => by cases e) k e)⟩
theorem KB.grow {β : Type} {Ow : World → Nat → Prop} {J : β → World → Prop} (hO : OwOk Ow J) {s : β} {W A A' : World} {row : Option Nat} (hj : J s A) (h : KB Ow W A) (hg : A.grownBy A' row) (hr : ∀ r, row = some r → W.heap.size ≤ r ∧ ∃ o : Obj, A.heap[r]? = some o ∧ o.isCells = false) : KB Ow W A' :=
 ⟨hg.os.trans h.os, hg.tape.trans h.tape, hg.output.trans h.output, Nat.le_trans h.size hg.size, fun k hk ho => (hg.block k (Nat.lt_of_lt_of_le hk h.size) fun e => by have := (hr k e.symm).1; omega).trans (h.same k hk ho),
  fun k e => h.ow k (hO.mono s A A' row hj hg (fun r er => by obtain ⟨_, o, h1, h2⟩ := hr r er; exact hO.not hj h1 h2) k e)⟩
theorem OwnFrom.up {β : Type} {B B' : Nat} {I : β → World → Prop} (h : OwnFrom B I) (hb : B ≤ B') : OwnFrom B' I := fun s W W' row hs hg hr => h s W W' row hs hg fun r e => ⟨Nat.le_trans hb (hr r e).1, (hr r e).2⟩
/-- what a round that leaves the loop may change: records of loops that lay below B0, too -/
structure KX (Ow : World → Nat → Prop) (B0 : Nat) (W W' : World) : Prop where
 size : W.heap.size ≤ W'.heap.size
 same : ∀ k o, W.heap[k]? = some o → ¬ Ow W k → B0 ≤ k ∨ o.isCells = true → W'.heap[k]? = some o
theorem KX.mono {Ow : World → Nat → Prop} {A B : Nat} {W W' : World} (h : KX Ow A W W') (hab : A ≤ B) : KX Ow B W W' := ⟨h.size, fun k o h1 h2 h3 => h.same k o h1 h2 (h3.imp_left fun e => Nat.le_trans hab e)⟩
theorem KB.kx {Ow : World → Nat → Prop} {B : Nat} {W W' W'' : World} (h : KB Ow W W') (k : KX Ow B W' W'') : KX Ow B W W'' :=
 ⟨Nat.le_trans h.size k.size, fun i o h1 h2 h3 => k.same i o ((h.same i (Array.getElem?_eq_some_iff.1 h1).1 h2).trans h1) (fun e => (h.ow i e).elim h2 fun e => absurd (Array.getElem?_eq_some_iff.1 h1).1 (by omega)) h3⟩
theorem KB.x {Ow : World → Nat → Prop} {B : Nat} {W W' : World} (h : KB Ow W W') : KX Ow B W W' := ⟨h.size, fun i o h1 h2 _ => (h.same i (Array.getElem?_eq_some_iff.1 h1).1 h2).trans h1⟩
/-- **AN ITERATOR's CONTRACT** -/
def SeqW {α : Type} (F : Fence) (n : Nat) (P : Program) (g : Nat) (lb : Array Value) (encs : α → Array Value) (E : (World → Nat → Prop) → α → World → Prop) (X : Nat → Prop) (S Sp : List α → Prop) (N : Nat) (w : World) : Prop :=
 ∀ (l : Nat) (Ow : World → Nat → Prop) (J Jx : List α → World → Prop) (W : World), Below w.heap.size w W → OwnFrom W.heap.size J → OwnFrom W.heap.size Jx → OwOk Ow J → (∀ k, k < w.heap.size → Ow W k → X k) →
  (∀ m pre x W1, J pre W1 → E Ow x W1 → pre.length < N → YieldAt F m P l (encs x) W1 fun e W' =>
   (e = .returned (.bool true) ∧ J (pre ++ [x]) W' ∧ KB Ow W1 W') ∨ (e = .returned (.bool false) ∧ Jx (pre ++ [x]) W' ∧ KX Ow W.heap.size W1 W')) →
  J [] W →
  CallsIn F n P g (#[.func (.yield l) #[] #[]] ++ lb) W fun e W' => (∃ v, e = .returned v) ∧ ((∃ xs, S xs ∧ J xs W') ∨ (∃ pre, Sp pre ∧ Jx pre W'))
/-- how a round's body may be left -/
def postW {α : Type} (B0 : Nat) (Ow : World → Nat → Prop) (I : List α → World → Prop) (Ix : Code → List α → World → Prop) (xs : List α) (W : World) : Exit → Act → World → Prop
 | .normal, _, W' => KB Ow W W' ∧ I xs W'
 | .ret, _, W' => KX Ow B0 W W' ∧ Ix .ret xs W'
 | .exit id, _, W' => KX Ow B0 W W' ∧ Ix (.exit id) xs W'
 | .goto t, _, W' => KX Ow B0 W W' ∧ Ix (.goto t) xs W'
 | .panic _, _, _ => False
 | .outgrown, _, _ => False
theorem room_any {F : Fence} (hd : F.depth = none) (k : Nat) : F.room k := fun d h => by rw [hd] at h; cases h
theorem round_any {F : Fence} (hd : F.depth = none) {m m' : Nat} {P : Program} {l : Nat} {f : FuncId} {tmps : Array Value} {assign body : Code} {w : World} {R : Ending → World → Prop}
  (h : RoundIn F m P l f tmps assign body w R) : RoundIn F m' P l f tmps assign body w R := ⟨h.1, fun c cs _ => h.2 c cs (room_any hd _)⟩
variable {F : Fence} {n : Nat} {P : Program}
theorem wpIn_rangeFunc_W {α : Type} {g : Operand} {ps : Array Tmp} {assign body : Code} {Q : Exit → Act → World → Prop} {a : Act} {w : World}
  (hro : F.round = none) (hd : F.depth = none) (h1 : 1 ≤ n) {gf : Nat} {lb : Array Value} (hg : a.eval g = .func (.func gf) #[] lb) (hFg : F.fn gf) (eg : ∀ args w, (callFunc gf args).run P w = .ok (.enter gf args) w)
  {encs : α → Array Value} {E : (World → Nat → Prop) → α → World → Prop} {X : Nat → Prop} {S Sp : List α → Prop} {N : Nat} {w0 : World} (hseq : SeqW F (n - 1) P gf lb encs E X S Sp N w0) (hb0 : Below w0.heap.size w0 w) (hps : ∀ x, (encs x).size = ps.size)
  (Ow : World → Nat → Prop) (I : List α → World → Prop) (Ix : Code → List α → World → Prop) (hI : OwnFrom w.heap.size I) (hIx : ∀ c, OwnFrom w.heap.size (Ix c)) (hOw : OwOk Ow I) (hX : ∀ k, k < w0.heap.size → Ow w k → X k)
  (hE : ∀ s x W W' row, I s W → E Ow x W → W.grownBy W' row → (∀ r, row = some r → ∃ o : Obj, W.heap[r]? = some o ∧ o.isCells = false) → E Ow x W')
  (h0 : I [] w) (a₁ : α → Act)
  (hassign : ∀ (l : Nat) (x : α) (W : World) (K : Act → World → Prop), K (a₁ x) W →
   assign.wpIn (F.inRound l) (n - 1 - 1) P (Exit.then K (fun _ _ _ => False)) { tmps := (ps.zip (encs x)).foldl (fun t (p, v) => t.setIfInBounds p v) a.tmps, defers := [] } W)
  (hbody : ∀ (l : Nat) (pre : List α) (x : α) (W : World), w.heap.size ≤ l → I pre W → E Ow x W → pre.length < N → body.wpIn (F.inRound l) (n - 1 - 1) P (postW w.heap.size Ow I Ix (pre ++ [x]) W) (a₁ x) W)
  (hdone : ∀ (D : Nat) (xs : List α) (W : World), w.heap.size ≤ D → S xs → I xs W → W.heap[D]? = some (.deferred (some [])) → Q .normal { a with defers := { target := .collected D, args := #[] } :: a.defers } W)
  (hstop : ∀ (D : Nat) (c : Code) (pre : List α) (W : World), w.heap.size ≤ D → Sp pre → Ix c pre W → W.heap[D]? = some (.deferred (some [])) → c.wpIn F n P Q { a with defers := { target := .collected D, args := #[] } :: a.defers } W) :
  (Code.rangeFunc g ps assign body).wpIn F n P Q a w := by
 refine wpIn_rangeFunc ?_
 intro fn hfn
 rw [hro]
 obtain ⟨rec, hrec⟩ : ∃ rec : LoopState → Option Code → Loop, rec = fun st pe => { state := st, pending := pe, fn, tmps := a.tmps, params := ps, assign, body, defers := w.heap.size } := ⟨_, rfl⟩
 obtain ⟨B, hB⟩ : ∃ B, w.heap.size = B := ⟨_, rfl⟩
 obtain ⟨W1, hW1⟩ : ∃ W1, (w.alloc (.deferred (some []))).alloc (.loop (rec .ready none)) = W1 := ⟨_, rfl⟩
 have gw : w.grownBy W1 none := by
  rw [← hW1]
  exact below_none (((Below.refl _ w).alloc (Nat.le_refl _) _).alloc (by simp) _)
 have s1 : W1.heap.size = B + 2 := by rw [← hW1, ← hB]; simp
 have L1 : W1.heap[B + 1]? = some (.loop (rec .ready none)) := by
  have := World.alloc_heap_new (w.alloc (.deferred (some []))) (.loop (rec .ready none))
  rw [World.size_alloc, hB] at this
  rw [← hW1]; exact this
 have K1 : W1.heap[B]? = some (.deferred (some [])) := by
  rw [← hW1, ← hB]; exact (Below.heap_alloc _ _ _ (by simp)).trans (World.alloc_heap_new w _)
 have I1 : I [] W1 := hI [] w W1 none h0 gw fun r e => by cases e
 have b1 : Below w0.heap.size w0 W1 := by
  rw [← hW1]; exact hb0.trans ((((Below.refl _ w).alloc (Nat.le_refl _) _).alloc (by simp) _).mono hb0.size)
 refine ⟨B + 1, [{ target := .collected B, args := #[] }], W1, { target := .fn (.func gf) lb, args := #[.func (.yield (B + 1)) #[] #[]] }, W1, gf, #[.func (.yield (B + 1)) #[] #[]] ++ lb, W1, ?_, ?_, ?_, ?_, fun _ => h1, ?_⟩
 ·rw [← hW1, hrec, ← hB]; exact run_enterLoop_outer _ _ _ _ _
 ·simp only [resolve, hg]
  simp [go_sem]
 ·intro f' hf'; simp [Target.leads] at hf'; subst hf'; exact hFg
 ·simp [invoke, go_sem, eg]
 -- a block that lies behind those of the loop's own is neither of them
 have keep : ∀ {A A' : World} {row : Option Nat} {k : Nat} {o : Obj}, A.grownBy A' row → (∀ r, row = some r → W1.heap.size ≤ r) → k < W1.heap.size → A.heap[k]? = some o → A'.heap[k]? = some o := fun {A A' row k o} hg' hr hk h =>
  (hg'.block k (Array.getElem?_eq_some_iff.1 h).1 fun e => by have := hr k e.symm; omega).trans h
 have far : ∀ {A : World} {row : Option Nat}, (∀ r, row = some r → W1.heap.size ≤ r ∧ ∃ o : Obj, A.heap[r]? = some o ∧ o.isCells = false) → (∀ r, row = some r → w.heap.size ≤ r ∧ ∃ o : Obj, A.heap[r]? = some o ∧ o.isCells = false) := fun hr r e => ⟨by have := (hr r e).1; omega, (hr r e).2⟩
 have turn : ∀ {A : World} {pre : List α} {o o' : Obj}, I pre A → A.heap[B + 1]? = some o → o.isCells = false → I pre (A.putObj (B + 1) o') := fun hi hl ho => hI.putObj _ hi (by omega) hl ho
 have owt : ∀ {A : World} {pre : List α} {o o' : Obj}, I pre A → A.heap[B + 1]? = some o → o.isCells = false → ∀ k, Ow (A.putObj (B + 1) o') k → Ow A k := fun {A pre o o'} hi hl ho k e =>
  hOw.mono pre A _ (some (B + 1)) hi (grownBy_putObj' A (B + 1) o') (fun r er => by cases er; exact hOw.not hi hl ho) k e
 refine (hseq (B + 1) Ow (fun pre W => I pre W ∧ W.heap[B + 1]? = some (.loop (rec .ready none)) ∧ W.heap[B]? = some (.deferred (some [])))
  (fun pre W => ∃ c, Ix c pre W ∧ W.heap[B + 1]? = some (.loop (rec .done (some c))) ∧ W.heap[B]? = some (.deferred (some []))) W1 b1
  (fun s A A' row hs hg' hr => ⟨hI s A A' row hs.1 hg' (far hr), keep hg' (fun r e => (hr r e).1) (by omega) hs.2.1, keep hg' (fun r e => (hr r e).1) (by omega) hs.2.2⟩)
  (fun s A A' row hs hg' hr => by
   obtain ⟨c, hc, hl, hk⟩ := hs
   exact ⟨c, hIx c s A A' row hc hg' (far hr), keep hg' (fun r e => (hr r e).1) (by omega) hl, keep hg' (fun r e => (hr r e).1) (by omega) hk⟩)
  ⟨fun s A k hs => hOw.cells s A k hs.1, fun s A A' row hs => hOw.mono s A A' row hs.1⟩
  (fun k hk e => hX k hk (hOw.mono [] w W1 none h0 gw (fun r e => by cases e) k e)) ?_ ⟨I1, L1, K1⟩).mono ?_
 ·-- one round
  rintro m pre x W ⟨hi, hl, hk⟩ hx hlen
  have hlt : B + 1 < W.heap.size := (Array.getElem?_eq_some_iff.1 hl).1
  have hy := run_yield (P := P) (args := encs x) hl (by rw [hrec]; exact hps x)
  rw [hrec] at hy
  obtain ⟨Wb, hWb⟩ : ∃ Wb, W.putObj (B + 1) (.loop { rec .ready none with state := .busy }) = Wb := ⟨_, rfl⟩
  have lb' : Wb.heap[B + 1]? = some (.loop { rec .ready none with state := .busy }) := by rw [← hWb]; exact World.putObj_heap_same hlt
  have kb' : Wb.heap[B]? = some (.deferred (some [])) := by rw [← hWb]; exact (World.putObj_heap_other (by omega)).trans hk
  have ib : I pre Wb := by rw [← hWb]; exact turn hi hl rfl
  have gb : W.grownBy Wb (some (B + 1)) := by rw [← hWb]; exact grownBy_putObj' W (B + 1) _
  have eb : E Ow x Wb := hE pre x W Wb (some (B + 1)) hi hx gb fun r e => by cases e; exact ⟨_, hl, rfl⟩
  have ob : ∀ k, Ow Wb k → Ow W k := by rw [← hWb]; exact owt hi hl rfl
  refine ⟨fn, _, assign, body, hy, round_any hd (roundIn_of_wpIn (n := n - 1 - 1) hfn (hassign _ x W _ ⟨_, by rw [run_beginRound hl (by rw [hrec])], ?_⟩))⟩
  rw [hWb]
  refine wpIn_mono (hbody _ pre x Wb (by omega) ib eb hlen) ?_
  have fin : ∀ (jump : Option Code) (W3 : World), KX Ow w.heap.size Wb W3 →
    (Instr.endRound (B + 1) jump).run P W3 = .ok (.bool jump.isNone) (W3.putObj (B + 1) (.loop (rec (if jump.isNone then .ready else .done) jump))) ∧
    W3.heap[B + 1]? = some (.loop { rec .ready none with state := .busy }) ∧
    (W3.putObj (B + 1) (.loop (rec (if jump.isNone then .ready else .done) jump))).heap[B + 1]? = some (.loop (rec (if jump.isNone then .ready else .done) jump)) ∧
    (W3.putObj (B + 1) (.loop (rec (if jump.isNone then .ready else .done) jump))).heap[B]? = some (.deferred (some [])) := fun jump W3 hk3 => by
   have hl3 := hk3.same (B + 1) _ lb' (hOw.not ib lb' rfl) (.inl (by omega))
   have hk4 := hk3.same B _ kb' (hOw.not ib kb' rfl) (.inl (by omega))
   have := run_endRound (P := P) jump hl3
   rw [hrec] at this ⊢
   exact ⟨this, by rw [hrec] at hl3; exact hl3, World.putObj_heap_same (Array.getElem?_eq_some_iff.1 hl3).1, (World.putObj_heap_other (by omega)).trans hk4⟩
  have gx : ∀ (W3 : World) (o' : Obj), KX Ow w.heap.size Wb W3 → KX Ow W1.heap.size W (W3.putObj (B + 1) o') := fun W3 o' hk3 => by
   have g4 : W3.grownBy (W3.putObj (B + 1) o') (some (B + 1)) := grownBy_putObj' _ _ _
   refine ⟨Nat.le_trans gb.size (Nat.le_trans hk3.size g4.size), fun k o h1 h2 h3 => ?_⟩
   have hne : k ≠ B + 1 := fun e => by
    subst e
    rw [hl] at h1
    cases h1
    rcases h3 with h3 | h3
    ·omega
    ·cases h3
   have h4 := (gb.block k (Array.getElem?_eq_some_iff.1 h1).1 fun e => hne (by injection e)).trans h1
   have h5 := hk3.same k o h4 (fun e => h2 (ob k e)) (h3.imp_left fun e => by omega)
   exact (g4.block k (Array.getElem?_eq_some_iff.1 h5).1 fun e => hne (by injection e)).trans h5
  rintro e a3 W3 hp
  cases e with
  | normal =>
   obtain ⟨hk3, hi3⟩ := hp
   obtain ⟨hr, hl3, hl4, hk4⟩ := fin none W3 hk3.x
   have g4 : W3.grownBy (W3.putObj (B + 1) (.loop (rec .ready none))) (some (B + 1)) := grownBy_putObj' _ _ _
   refine ⟨_, _, hr, .inl ⟨rfl, ⟨turn hi3 hl3 rfl, hl4, hk4⟩, ?_⟩⟩
   refine ⟨g4.os.trans (hk3.os.trans gb.os), g4.tape.trans (hk3.tape.trans gb.tape), g4.output.trans (hk3.output.trans gb.output), Nat.le_trans gb.size (Nat.le_trans hk3.size g4.size), fun k hk0 ho => ?_, fun k e => ?_⟩
   ·by_cases ek : k = B + 1
    ·rw [ek]; exact hl4.trans hl.symm
    ·refine (g4.block k (Nat.lt_of_lt_of_le hk0 (Nat.le_trans gb.size hk3.size)) fun e => ek (by injection e)).trans ?_
     exact (hk3.same k (Nat.lt_of_lt_of_le hk0 gb.size) fun e => ho (ob k e)).trans (gb.block k hk0 fun e => ek (by injection e))
   ·exact (hk3.ow k (owt hi3 hl3 rfl k e)).elim (fun e => .inl (ob k e)) fun e => .inr (Nat.le_trans gb.size e)
  | ret =>
   obtain ⟨hk3, hi3⟩ := hp
   obtain ⟨hr, hl3, hl4, hk4⟩ := fin (some .ret) W3 hk3
   exact ⟨_, _, hr, .inr ⟨rfl, ⟨.ret, (hIx _).putObj _ hi3 (by omega) hl3 rfl, hl4, hk4⟩, gx _ _ hk3⟩⟩
  | exit id =>
   obtain ⟨hk3, hi3⟩ := hp
   obtain ⟨hr, hl3, hl4, hk4⟩ := fin (some (.exit id)) W3 hk3
   exact ⟨_, _, hr, .inr ⟨rfl, ⟨.exit id, (hIx _).putObj _ hi3 (by omega) hl3 rfl, hl4, hk4⟩, gx _ _ hk3⟩⟩
  | goto t =>
   obtain ⟨hk3, hi3⟩ := hp
   obtain ⟨hr, hl3, hl4, hk4⟩ := fin (some (.goto t)) W3 hk3
   exact ⟨_, _, hr, .inr ⟨rfl, ⟨.goto t, (hIx _).putObj _ hi3 (by omega) hl3 rfl, hl4, hk4⟩, gx _ _ hk3⟩⟩
  | panic ch => exact hp.elim
  | outgrown => exact hp.elim
 ·-- behind the iterator
  rintro e W2 ⟨⟨v, rfl⟩, (⟨xs, hS, hi, hl, hk⟩ | ⟨pre, hSp, c, hi, hl, hk⟩)⟩
  ·exact ⟨none, _, by have := run_endLoop (P := P) hl (by rw [hrec]; simp); rw [hrec] at this; exact this, hdone B xs _ (by omega) hS (turn hi hl rfl) ((World.putObj_heap_other (by omega)).trans hk)⟩
  ·exact ⟨some c, _, by have := run_endLoop (P := P) hl (by rw [hrec]; simp); rw [hrec] at this; exact this, hstop B c pre _ (by omega) hSp ((hIx c).putObj _ hi (by omega) hl rfl) ((World.putObj_heap_other (by omega)).trans hk)⟩
end Go.Sq
