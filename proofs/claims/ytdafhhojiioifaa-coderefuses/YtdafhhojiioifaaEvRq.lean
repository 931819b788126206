/- Drawn regions inside a fence whose last operations call yield: what stands in front of these is walked as everywhere. -/
import Derived.Test.YtdafhhojiioifaaEvRm
import Derived.Test.YtdafhhojiioifaaEvRo
namespace Go.Rg
open Go.RowKit
set_option linter.unusedVariables false
set_option linter.unusedSectionVars false
/-- the fence of a function, or that of a round -/
def Wd (F : Fence) : Prop := F = Fence.wide ∨ ∃ l, F = Fence.wide.inRound l
theorem Wd.fn {F : Fence} (h : Wd F) (f : FuncId) : F.fn f := by rcases h with rfl | ⟨l, rfl⟩ <;> exact trivial
theorem Wd.depth {F : Fence} (h : Wd F) : F.depth = none := by rcases h with rfl | ⟨l, rfl⟩ <;> rfl
theorem Wd.calls {F : Fence} (h : Wd F) {n : Nat} {P : Program} {f : FuncId} {args : Array Value} {w : World} {R : Ending → World → Prop} (hc : Calls P f args w R) : CallsIn F n P f args w R := by
 rcases h with rfl | ⟨l, rfl⟩
 ·exact callsIn_wide.2 hc
 ·exact CallsIn.inRound l (callsIn_wide.2 hc)
def thenQ (T : Act → World → Prop) (Q : Exit → Act → World → Prop) : Exit → Act → World → Prop
 | .normal, a, w => T a w
 | e, a, w => Q e a w
theorem oper_pre {F : Fence} (hW : Wd F) {P : Program} {n : Nat} {o : Oper} {a : Act} {w : World} {next T : Act → World → Prop} {Q : Exit → Act → World → Prop} (hd : ∀ c, o.op ≠ .defer c) (h : o.wp P a w next (thenQ T Q)) : o.wpIn F n P a w next Q := by
 refine ⟨fun f _ => hW.fn f, ?_⟩
 have hdp : F.depth.isSome = true → 1 ≤ n := fun h => by rw [hW.depth] at h; cases h
 have e : o.semAt F.round a.eval = execOp a.eval o := Oper.semAt_eq _ _ _ hd
 have hL : LetsOut (thenQ T Q) → LetsOut Q := fun ⟨a, w, h⟩ => ⟨a, w, h⟩
 rw [e]
 unfold Oper.wp at h
 generalize (execOp a.eval o).run P w = r at *
 cases r with
 | ok x w' =>
  cases x with
  | value v => exact h
  | skip => exact h
  | defer d => exact h
  | enter f args => exact ⟨hdp, (hW.calls h).mono fun e w'' he => by
    cases e with
    | returned v => exact he
    | panicked c => exact he
    | outgrown => exact hL he⟩
  | row rw args =>
   refine ⟨hdp, fun c cs _ => ?_⟩
   obtain ⟨v, w', r, s⟩ := h c cs
   refine ⟨v, w', r, ?_⟩
   rcases hW with rfl | ⟨l, rfl⟩
   ·exact stepsIn_wide.2 s
   ·exact stepsIn_wide.2 s
  | _ => exact h.elim
 | halt x w' =>
  cases x with
  | panic v => exact h
  | _ => exact h.elim
/-- R: which of the first operations may have come up -/
def preOk (ops : Array Oper) (y r : Nat) (R : List (List Bool)) : Bool :=
 (ops.toList.all fun o => o.guard.isNone) && ((ops.extract 0 y).toList.all fun o => match o.op with | .defer _ => false | _ => true) && decide (ops.size = y + r) && R.contains (List.replicate y false) &&
 R.all fun L => decide (L.length = y) && (L.all id || (decide (Region.ready .any ops (L ++ List.replicate r false).toArray = Region.ready .any (ops.extract 0 y) L.toArray) && (!(Region.ready .any ops (L ++ List.replicate r false).toArray).isEmpty && (Region.ready .any ops (L ++ List.replicate r false).toArray).all fun i => decide (i < y) && (!(L.getD i true) && R.contains (L.set i true)))))
theorem count_set : ∀ {L : List Bool} {i : Nat}, i < L.length → L.getD i true = false → (L.set i true).count false + 1 = L.count false
 | [], i, h, _ => by simp at h
 | b :: L, 0, _, h => by
  have : b = false := h
  subst this
  simp
 | b :: L, i + 1, hi, h => by
  have := count_set (L := L) (i := i) (by simpa using hi) h
  simp only [List.set_cons_succ, List.count_cons]
  omega
theorem wanted_none {ops : Array Oper} {o : Oper} {t : Array Value} (h : o.guard = none) : Region.wanted o (yielded ops t) = true := by simp [Region.wanted, h]
theorem pre_any {F : Fence} (hW : Wd F) {n : Nat} {P : Program} {ops : Array Oper} {Q : Exit → Act → World → Prop} {y r : Nat} {Rs : List (List Bool)} (hok : preOk ops y r Rs = true) (hQ : ¬ LetsOut Q) :
  ∀ (fuel : Nat) (L : List Bool) (a : Act) (w : World), Rs.contains L = true → L.length = y → L.count false = fuel →
   wpAny P .any (ops.extract 0 y) (thenQ (wpAnyIn F n P .any ops Q r (List.replicate y true ++ List.replicate r false).toArray) Q) fuel L.toArray a w → wpAnyIn F n P .any ops Q (fuel + r) (L ++ List.replicate r false).toArray a w := by
 unfold preOk at hok
 simp only [Bool.and_eq_true, List.all_eq_true] at hok
 obtain ⟨⟨⟨⟨hg, hnd⟩, hsz⟩, -⟩, hm⟩ := hok
 have hsz : ops.size = y + r := of_decide_eq_true hsz
 have hQ' : ¬ LetsOut (thenQ (wpAnyIn F n P .any ops Q r (List.replicate y true ++ List.replicate r false).toArray) Q) := fun ⟨a, w, h⟩ => hQ ⟨a, w, h⟩
 intro fuel
 induction fuel with
 | zero =>
  intro L a w hR hl hc h
  have : L = List.replicate y true := List.eq_replicate_iff.2 ⟨hl, fun b hb => by
   cases b with
   | true => rfl
   | false => exact absurd hc (by have := List.count_pos_iff.2 hb; omega)⟩
  rw [Nat.zero_add, this]
  exact h.2
 | succ fuel ih =>
  intro L a w hR hl hc h
  have hne : L.all id = false := by
   cases hb : L.all id with
   | false => rfl
   | true =>
    rw [List.all_eq_true] at hb
    have : L.count false = 0 := List.count_eq_zero.2 fun h => by have := hb _ h; cases this
    omega
  have hmL := (hm L (by simpa using hR)).2
  rw [hne] at hmL
  simp only [Bool.false_eq_true, false_or, Bool.or_eq_true] at hmL
  simp only [Bool.and_eq_true, List.all_eq_true] at hmL
  obtain ⟨e1, e2, e3⟩ := hmL
  have e1 := of_decide_eq_true e1
  rw [show fuel + 1 + r = (fuel + r) + 1 by omega]
  refine ⟨fun e => ?_, fun i hi => ?_⟩
  ·rw [e] at e2; simp at e2
  ·have h3 := e3 i hi
   simp only [decide_eq_true_eq, Bool.not_eq_true'] at h3
   obtain ⟨hiy, h3, h4⟩ := h3
   have h2 := h.2 i (by rw [← e1]; exact hi)
   have hio : i < ops.size := by omega
   have hx : (ops.extract 0 y)[i]? = some ops[i] := by rw [Array.getElem?_extract]; simp; omega
   have ho : ops[i]? = some ops[i] := Array.getElem?_eq_getElem hio
   unfold wpOp at h2
   rw [hx] at h2
   dsimp only at h2
   have hgi : (ops[i]).guard = none := by
    have := hg (ops[i]) (by rw [Array.mem_toList_iff]; exact Array.getElem_mem hio)
    simpa using this
   rw [if_pos (wanted_none hgi)] at h2
   unfold wpOpIn
   rw [ho]
   dsimp only
   rw [if_pos (wanted_none hgi)]
   have hndi : ∀ c, (ops[i]).op ≠ .defer c := fun c e => by
    have := hnd (ops[i]) (by rw [Array.mem_toList_iff]; exact Array.mem_of_getElem? hx)
    rw [e] at this
    cases this
   refine oper_pre hW hndi (Oper.wp_mono (fun a' w' h' => ?_) (h2.resolve_right fun h => hQ' h.2))
   have hs : (L ++ List.replicate r false).toArray.setIfInBounds i true = (L.set i true ++ List.replicate r false).toArray := by
    rw [List.setIfInBounds_toArray, List.set_append_left _ _ (by omega)]
   rw [hs]
   refine ih (L.set i true) a' w' h4 (by rw [List.length_set, hl]) ?_ ?_
   ·have := count_set (L := L) (i := i) (by omega) h3
    omega
   ·rw [List.setIfInBounds_toArray] at h'
    exact h'
/-- only an ordinary end -/
def noQ (Q : Exit → Act → World → Prop) : Exit → Act → World → Prop
 | .normal, a, w => Q .normal a w
 | _, _, _ => False
/-- THE REGION: its first y operations in any order, as everywhere; then the others, inside the fence -/
theorem in_region_yield {F : Fence} (hW : Wd F) {P : Program} {ops : Array Oper} {pre : Array Oper} {Q : Exit → Act → World → Prop} {S : World → Prop} {n id y r : Nat} {Rs : List (List Bool)} {a : Act} {w : World} (hm : P.follows .mixedOrders = true) (hok : preOk ops y r Rs = true) (hpre : ops.extract 0 y = pre) (hS : S w.drew)
  (h : S w.drew → wpAnyH P .any pre (thenQ (wpAnyIn F n P .any ops (noQ Q) r (List.replicate y true ++ List.replicate r false).toArray) (noQ Q)) S y (Array.replicate y false) a w.drew) : (Code.region id ops true).wpIn F n P Q a w := by
 subst hpre
 refine Code.wpIn_mono (Q := noQ Q) (fun e a w h => by cases e <;> first | exact h | exact h.elim) (wpIn_region_any hm ?_)
 have hsz : ops.size = y + r := by
  unfold preOk at hok
  simp only [Bool.and_eq_true] at hok
  exact of_decide_eq_true hok.1.1.2
 have := pre_any (n := n) (P := P) (Q := noQ Q) hW hok (fun ⟨a, w, h⟩ => h) y (List.replicate y false) a w.drew (by unfold preOk at hok; simp only [Bool.and_eq_true] at hok; exact hok.1.2) (by simp) (by simp) (by
  have h1 := wpAny_of_held _ _ _ _ (h hS)
  rwa [show (List.replicate y false).toArray = Array.replicate y false from by simp])
 rw [hsz, show Array.replicate (y + r) false = (List.replicate y false ++ List.replicate r false).toArray from by simp [List.replicate_append_replicate]]
 exact this
/-- an operation that calls yield -/
theorem yield_step {F : Fence} (hW : Wd F) {n m : Nat} {P : Program} {o : Oper} {a : Act} {w : World} {K : Act → World → Prop} {Q : Exit → Act → World → Prop} {t x : Operand} {ty : TypeId} {l : Nat} {v : Value} {R : Ending → World → Prop}
  (ho : o.op = .call { callee := .value t, args := #[x], argTypes := #[ty] }) (ht : a.eval t = .func (.yield l) #[] #[]) (hx : a.eval x = v) (hy : YieldAt F m P l #[v] w R) (hR : ∀ e w', R e w' → ∃ u, e = .returned u ∧ K (a.put o.dst u) w') : o.wpIn F n P a w K Q := by
 obtain ⟨fn, tmps, assign, body, h1, h2⟩ := hy
 refine ⟨fun f _ => hW.fn f, ?_⟩
 have e : o.semAt F.round a.eval = execOp a.eval o := Oper.semAt_eq _ _ _ (fun c e => by rw [ho] at e; cases e)
 rw [e]
 have hrun : (execOp a.eval o).run P w = .ok (.round l fn tmps assign body) w := by
  simp [execOp, ho, resolve, invoke, ht, hx, h1, Deferred.ofValue]
 rw [hrun]
 refine ⟨fun h => (by rw [hW.depth] at h; cases h), (Sq.round_any hW.depth h2).mono fun e w' he => ?_⟩
 obtain ⟨u, rfl, hk⟩ := hR e w' he
 exact hk
/-- the last operations, one after another -/
theorem last_step {F : Fence} {n : Nat} {P : Program} {ops : Array Oper} {Q : Exit → Act → World → Prop} {fuel i : Nat} {listed : Array Bool} {a : Act} {w : World} {o : Oper} (hr : Region.ready .any ops listed = [i]) (ho : ops[i]? = some o) (hg : o.guard = none)
  (h : o.wpIn F n P a w (wpAnyIn F n P .any ops Q fuel (listed.setIfInBounds i true)) Q) : wpAnyIn F n P .any ops Q (fuel + 1) listed a w := by
 refine ⟨fun e => (by rw [hr] at e; cases e), fun k hk => ?_⟩
 rw [hr, List.mem_singleton] at hk
 subst hk
 unfold wpOpIn
 rw [ho]
 dsimp only
 rw [if_pos (wanted_none hg)]
 exact h
theorem last_done {F : Fence} {n : Nat} {P : Program} {ops : Array Oper} {Q : Exit → Act → World → Prop} {listed : Array Bool} {a : Act} {w : World} (hr : Region.ready .any ops listed = []) (h : Q .normal a w) : wpAnyIn F n P .any ops (noQ Q) 0 listed a w := ⟨hr, h⟩
/-- several ways into one end: the first way says what the end is -/
theorem share5 {A B C D E : Type} {H T : A → B → C → D → E → Prop} {goal : Prop} (ways : (∀ a b c d e, H a b c d e → T a b c d e) → goal) (rest : ∀ a b c d e, H a b c d e → T a b c d e) : goal := ways rest
end Go.Rg

/- Drawn regions that end with a store into what they read: the operations in front in any order, then the store. -/
namespace Go.Rg
open Go.RowKit
set_option linter.unusedVariables false
set_option linter.unusedSectionVars false
theorem oper_then {P : Program} {o : Oper} {a : Act} {w : World} {next T : Act → World → Prop} {Q : Exit → Act → World → Prop} (h : o.wp P a w next (thenQ T Q)) : o.wp P a w next Q := by
 have hL : LetsOut (thenQ T Q) → LetsOut Q := fun ⟨a, w, h⟩ => ⟨a, w, h⟩
 unfold Oper.wp at *
 generalize (execOp a.eval o).run P w = r at *
 cases r with
 | ok x w' =>
  cases x with
  | enter f args => exact h.mono (fun e w'' he => by
    cases e with
    | returned v => exact he
    | panicked c => exact he
    | outgrown => exact hL he)
  | _ => exact h
 | halt x w' =>
  cases x with
  | panic v => exact h
  | _ => exact h
theorem pre_anyP {P : Program} {ops : Array Oper} {Q : Exit → Act → World → Prop} {y r : Nat} {Rs : List (List Bool)} (hok : preOk ops y r Rs = true) (hQ : ¬ LetsOut Q) :
  ∀ (fuel : Nat) (L : List Bool) (a : Act) (w : World), Rs.contains L = true → L.length = y → L.count false = fuel →
   wpAny P .any (ops.extract 0 y) (thenQ (wpAny P .any ops Q r (List.replicate y true ++ List.replicate r false).toArray) Q) fuel L.toArray a w → wpAny P .any ops Q (fuel + r) (L ++ List.replicate r false).toArray a w := by
 unfold preOk at hok
 simp only [Bool.and_eq_true, List.all_eq_true] at hok
 obtain ⟨⟨⟨⟨hg, hnd⟩, hsz⟩, -⟩, hm⟩ := hok
 have hsz : ops.size = y + r := of_decide_eq_true hsz
 have hQ' : ¬ LetsOut (thenQ (wpAny P .any ops Q r (List.replicate y true ++ List.replicate r false).toArray) Q) := fun ⟨a, w, h⟩ => hQ ⟨a, w, h⟩
 intro fuel
 induction fuel with
 | zero =>
  intro L a w hR hl hc h
  have : L = List.replicate y true := List.eq_replicate_iff.2 ⟨hl, fun b hb => by
   cases b with
   | true => rfl
   | false => exact absurd hc (by have := List.count_pos_iff.2 hb; omega)⟩
  rw [Nat.zero_add, this]
  exact h.2
 | succ fuel ih =>
  intro L a w hR hl hc h
  have hne : L.all id = false := by
   cases hb : L.all id with
   | false => rfl
   | true =>
    rw [List.all_eq_true] at hb
    have : L.count false = 0 := List.count_eq_zero.2 fun h => by have := hb _ h; cases this
    omega
  have hmL := (hm L (by simpa using hR)).2
  rw [hne] at hmL
  simp only [Bool.false_eq_true, false_or, Bool.or_eq_true] at hmL
  simp only [Bool.and_eq_true, List.all_eq_true] at hmL
  obtain ⟨e1, e2, e3⟩ := hmL
  have e1 := of_decide_eq_true e1
  rw [show fuel + 1 + r = (fuel + r) + 1 by omega]
  refine ⟨fun e => ?_, fun i hi => ?_⟩
  ·rw [e] at e2; simp at e2
  ·have h3 := e3 i hi
   simp only [decide_eq_true_eq, Bool.not_eq_true'] at h3
   obtain ⟨hiy, h3, h4⟩ := h3
   have h2 := h.2 i (by rw [← e1]; exact hi)
   have hio : i < ops.size := by omega
   have hx : (ops.extract 0 y)[i]? = some ops[i] := by rw [Array.getElem?_extract]; simp; omega
   have ho : ops[i]? = some ops[i] := Array.getElem?_eq_getElem hio
   unfold wpOp at h2
   rw [hx] at h2
   dsimp only at h2
   have hgi : (ops[i]).guard = none := by
    have := hg (ops[i]) (by rw [Array.mem_toList_iff]; exact Array.getElem_mem hio)
    simpa using this
   rw [if_pos (wanted_none hgi)] at h2
   unfold wpOp
   rw [ho]
   dsimp only
   rw [if_pos (wanted_none hgi)]
   have hndi : ∀ c, (ops[i]).op ≠ .defer c := fun c e => by
    have := hnd (ops[i]) (by rw [Array.mem_toList_iff]; exact Array.mem_of_getElem? hx)
    rw [e] at this
    cases this
   refine Or.inl (oper_then (Oper.wp_mono (fun a' w' h' => ?_) (h2.resolve_right fun h => hQ' h.2)))
   have hs : (L ++ List.replicate r false).toArray.setIfInBounds i true = (L.set i true ++ List.replicate r false).toArray := by
    rw [List.setIfInBounds_toArray, List.set_append_left _ _ (by omega)]
   rw [hs]
   refine ih (L.set i true) a' w' h4 (by rw [List.length_set, hl]) ?_ ?_
   ·have := count_set (L := L) (i := i) (by omega) h3
    omega
   ·rw [List.setIfInBounds_toArray] at h'
    exact h'
/-- THE REGION: its first y operations in any order; then the others -/
theorem region_last {P : Program} {ops : Array Oper} {pre : Array Oper} {Q : Exit → Act → World → Prop} {S : World → Prop} {id y r : Nat} {Rs : List (List Bool)} {a : Act} {w : World} (hm : P.follows .mixedOrders = true) (hok : preOk ops y r Rs = true) (hpre : ops.extract 0 y = pre) (hS : S w.drew)
 (h : S w.drew → wpAnyH P .any pre (thenQ (wpAny P .any ops (noQ Q) r (List.replicate y true ++ List.replicate r false).toArray) (noQ Q)) S y (Array.replicate y false) a w.drew) : (Code.region id ops true).wp P Q a w := by
 subst hpre
 refine Code.wp_mono (Q := noQ Q) (fun e a w h => by cases e <;> first | exact h | exact h.elim) (wp_region_any hm ?_)
 have hsz : ops.size = y + r := by
  unfold preOk at hok
  simp only [Bool.and_eq_true] at hok
  exact of_decide_eq_true hok.1.1.2
 have := pre_anyP (P := P) (Q := noQ Q) hok (fun ⟨a, w, h⟩ => h) y (List.replicate y false) a w.drew (by unfold preOk at hok; simp only [Bool.and_eq_true] at hok; exact hok.1.2) (by simp) (by simp) (by
  have h1 := wpAny_of_held _ _ _ _ (h hS)
  rwa [show (List.replicate y false).toArray = Array.replicate y false from by simp])
 rw [hsz, show Array.replicate (y + r) false = (List.replicate y false ++ List.replicate r false).toArray from by simp [List.replicate_append_replicate]]
 exact this
theorem last_stepP {P : Program} {ops : Array Oper} {Q : Exit → Act → World → Prop} {fuel i : Nat} {listed : Array Bool} {a : Act} {w : World} {o : Oper} (hr : Region.ready .any ops listed = [i]) (ho : ops[i]? = some o) (hg : o.guard = none)
  (h : o.wp P a w (wpAny P .any ops Q fuel (listed.setIfInBounds i true)) Q) : wpAny P .any ops Q (fuel + 1) listed a w := by
 refine ⟨fun e => (by rw [hr] at e; cases e), fun k hk => ?_⟩
 rw [hr, List.mem_singleton] at hk
 subst hk
 unfold wpOp
 rw [ho]
 dsimp only
 rw [if_pos (wanted_none hg)]
 exact .inl h
theorem last_doneP {P : Program} {ops : Array Oper} {Q : Exit → Act → World → Prop} {listed : Array Bool} {a : Act} {w : World} (hr : Region.ready .any ops listed = []) (h : Q .normal a w) : wpAny P .any ops (noQ Q) 0 listed a w := ⟨hr, h⟩
end Go.Rg
