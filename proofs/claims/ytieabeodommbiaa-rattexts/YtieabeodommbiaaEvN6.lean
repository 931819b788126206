/- Calls that are known where they stand; loops over functions; numbers and lists for the letters. -/
import Derived.Test.YtieabeodommbiaaEvN5
namespace Go.Ev
open Go.RowKit (Below)
set_option linter.unusedSectionVars false

section
variable [Rho] {P : Program}
/-- the call, made here, does this -/
def CallAt (P : Program) (f : FuncId) (args : List AV) (s : St) (v : AV) (s' : St) : Prop :=
  (∃ fn body, P.funcs[f]? = some fn ∧ fn.body = some body) ∧
    ∀ B π lm w (vs : Array Value) N ro, WR B π lm s w → B ≤ w.heap.size → LR π lm args vs.toList → CallsIn (Fr ro) N P f vs w (CallPost B π lm s w v s')

theorem call_at {f : FuncId} {fn : Func} {body : Code} {args : List AV} {s : St} {e : AExit} {tsC : List AV} {sC : St} {v : AV} (hf : P.funcs[f]? = some fn) (hb : fn.body = some body)
    (hs : SAt P body (args ++ List.replicate (fn.ntmps - args.length) undefA) { s with lo := s.heap.length } e tsC sC) (he : e = .normal ∨ e = .ret) (hr : resultsA P fn tsC sC = some v) (hlo : sC.lo < s.heap.length) :
    CallAt P f args s v { sC with lo := min s.lo sC.lo } := by
  classical
  let rc : Ev := { code := fun c ts s0 => if c = body ∧ ts = args ++ List.replicate (fn.ntmps - args.length) undefA ∧ s0 = { s with lo := s.heap.length } then some (e, tsC, sC) else none, call := fun _ _ _ => none, round := fun _ _ _ => none }
  have hc : SCode P rc.code := by
    intro c ts s0 e' ts' s' h
    simp only [rc] at h
    split at h
    · rename_i hh
      obtain ⟨rfl, rfl, rfl⟩ := hh
      simp only [Option.some.injEq, Prod.mk.injEq] at h
      obtain ⟨rfl, rfl, rfl⟩ := h
      exact hs
    · cases h
  have hcall : evCall P rc f args s = some (v, { sC with lo := min s.lo sC.lo }, false) := by
    unfold evCall
    rw [hf]
    simp only [hb]
    have : rc.code body (args ++ List.replicate (fn.ntmps - args.length) undefA) { s with lo := s.heap.length } = some (e, tsC, sC) := by
      simp only [rc]
      rw [if_pos ⟨trivial, trivial, trivial⟩]
    rw [this]
    have hn : ¬ (s.heap.length ≤ sC.lo) := by omega
    rcases he with rfl | rfl <;> simp [hr, hn]
  have := call_sound hc _ _ _ _ _ _ hcall
  exact ⟨this.1, this.2.2⟩

theorem range_at (hP : Fit P) {f : Operand} {ps : Array Tmp} {assign body : Code} {ts : List AV} {s s' : St} {g : FuncId} {l1 l2 : List AV} {v : AV} (hf : eval ts f = some (.fn g l1 l2))
    (hc : CallAt P g (l1 ++ (.yield s.loops.length :: l2)) { s with loops := s.loops ++ [{ tmps := ts, params := ps.toList, assign, body, stat := .ready }] } v s') (hst : statAt s' s.loops.length = some .ready) :
    SAt P (.rangeFunc f ps assign body) ts s .normal ts (setStat s' s.loops.length .over) := by
  classical
  let rc : Ev := { code := fun _ _ _ => none, call := fun f' args' s0 => if f' = g ∧ args' = l1 ++ (.yield s.loops.length :: l2) ∧ s0 = { s with loops := s.loops ++ [{ tmps := ts, params := ps.toList, assign, body, stat := .ready }] } then some (v, s', false) else none, round := fun _ _ _ => none }
  have hcall : SCall P rc.call := by
    intro f' args' s0 v' s1 q h
    simp only [rc] at h
    split at h
    · rename_i hh
      obtain ⟨rfl, rfl, rfl⟩ := hh
      simp only [Option.some.injEq, Prod.mk.injEq] at h
      obtain ⟨rfl, rfl, rfl⟩ := h
      exact ⟨hc.1, (fun h => nomatch h), hc.2⟩
    · cases h
  have hev : evCode P rc (.rangeFunc f ps assign body) ts s = some (.normal, ts, setStat s' s.loops.length .over) := by
    simp only [evCode, hf]
    have : rc.call g (l1 ++ (.yield s.loops.length :: l2)) { s with loops := s.loops ++ [{ tmps := ts, params := ps.toList, assign, body, stat := .ready }] } = some (v, s', false) := by
      simp only [rc]
      rw [if_pos ⟨trivial, trivial, trivial⟩]
    rw [this]
    simp only [hst]
  intro B π lm w a N ro hw hB r hro
  exact range_sound hP.name hcall hev N ro hw hB r hro
end

theorem SAtX.blockN {P : Program} {R1 R2 : Rho} {c : Code} {id : Nat} {ts ts1 : List AV} {s s1 : St} (h : SAtX P c R1 ts s .normal R2 ts1 s1) : SAtX P (.block id c) R1 ts s .normal R2 ts1 s1 := by
  classical
  intro B π lm w a N ro hw hB r hro
  refine wpIn_block ?_
  refine wpIn_mono (h B π lm w a N ro hw hB r hro) ?_
  intro x a1 w1 hp
  obtain rfl := hp.1.normal
  exact hp

/-! ### calls that are known where they stand -/
def sameBlk : Option ABlk → Option ABlk → Bool
  | none, none => true
  | some x, some y => Nat.beq x.elem y.elem && ((x.ro == y.ro) && (tlSame x.tl y.tl && sameL x.cells y.cells))
  | _, _ => false
def sameHeap : List (Option ABlk) → List (Option ABlk) → Bool
  | [], [] => true
  | a :: l, b :: m => sameBlk a b && sameHeap l m
  | _, _ => false
def sameSt (a b : St) : Bool := sameHeap a.heap b.heap && (Nat.beq a.lo b.lo && (Nat.beq a.nd b.nd && (a.loops.isEmpty && b.loops.isEmpty)))

theorem sameBlk_ok [Rho] {a b : Option ABlk} (h : sameBlk a b = true) : a = b := by
  unfold sameBlk at h
  split at h
  · rfl
  · rename_i x y
    simp only [Bool.and_eq_true, beq_iff_eq, Nat.beq_eq] at h
    cases x; cases y
    simp only at h
    rw [h.1, h.2.1, tlSame_ok h.2.2.1, sameL_ok h.2.2.2]
  · cases h
theorem sameHeap_ok [Rho] : ∀ {a b : List (Option ABlk)}, sameHeap a b = true → a = b
  | [], [], _ => rfl
  | a :: l, b :: m, h => by
    simp only [sameHeap, Bool.and_eq_true] at h
    rw [sameBlk_ok h.1, sameHeap_ok h.2]
  | [], _ :: _, h => by simp [sameHeap] at h
  | _ :: _, [], h => by simp [sameHeap] at h
theorem sameSt_ok [Rho] {a b : St} (h : sameSt a b = true) : a = b := by
  simp only [sameSt, Bool.and_eq_true, Nat.beq_eq, List.isEmpty_iff] at h
  obtain ⟨h1, h2, h3, h4, h5⟩ := h
  cases a; cases b
  simp only at h1 h2 h3 h4 h5
  rw [sameHeap_ok h1, h2, h3, h4, h5]

structure XF where
  f : FuncId
  args : List AV
  s : St
  v : AV
  s' : St

def orcX (l : List XF) : Orc := fun f args s => match l.find? (fun x => Nat.beq f x.f && (sameL args x.args && sameSt s x.s)) with
  | some x => some (x.v, x.s', false)
  | none => none

theorem orcX_ok [Rho] {P : Program} {l : List XF} (h : ∀ x ∈ l, CallAt P x.f x.args x.s x.v x.s') : OrcOk P (orcX l) := by
  intro f args s v s' q e
  unfold orcX at e
  split at e
  · rename_i x hx
    simp only [Option.some.injEq, Prod.mk.injEq] at e
    obtain ⟨rfl, rfl, rfl⟩ := e
    have h1 := List.find?_some hx
    simp only [Bool.and_eq_true, Nat.beq_eq] at h1
    obtain ⟨rfl, h2, h3⟩ := h1
    obtain rfl := sameL_ok h2
    obtain rfl := sameSt_ok h3
    have := h x (List.mem_of_find?_eq_some hx)
    exact ⟨this.1, (fun h => nomatch h), this.2⟩
  · cases e

def orcE (a b : Orc) : Orc := fun f args s => match a f args s with
  | some r => some r
  | none => b f args s
theorem orcE_ok [Rho] {P : Program} {a b : Orc} (ha : OrcOk P a) (hb : OrcOk P b) : OrcOk P (orcE a b) := by
  intro f args s v s' q e
  unfold orcE at e
  split at e
  · rename_i r hr
    simp only [Option.some.injEq] at e; subst e
    exact ha _ _ _ _ _ _ hr
  · exact hb _ _ _ _ _ _ e

/-! ### numbers and lists for the letters -/
/-- num: the letters' numbers; ls: the list letters' lists, with how many cells come before each -/
@[reducible] def mkRho (num : Nat → Int) (ls : Nat → Nat × List Int) : Rho :=
  ⟨fun i => if i < 1000000 then num i else
    if (i - 1000000) / 1000 = 0 then ((ls ((i - 1000000) % 1000)).2.length : Int) else
    if (i - 1000000) / 1000 = 1 then ((ls ((i - 1000000) % 1000)).1 : Int) else (ls ((i - 1000000) % 1000)).2.getD ((i - 1000000) / 1000 - 2) 0⟩

section
variable {num : Nat → Int} {ls : Nat → Nat × List Int} {k : Nat}
theorem mk_num {i : Nat} (h : i < 1000000) : @Rho.ρ (mkRho num ls) i = num i := by show (if i < 1000000 then _ else _) = _; rw [if_pos h]
theorem lix_div (i : Nat) (h : k < 1000) : (lix k i - 1000000) / 1000 = i ∧ (lix k i - 1000000) % 1000 = k ∧ ¬ lix k i < 1000000 := by unfold lix; omega
theorem mk_len (h : k < 1000) : @llen (mkRho num ls) k = (ls k).2.length := by
  obtain ⟨h1, h2, h3⟩ := lix_div 0 h
  show (if lix k 0 < 1000000 then _ else _ : Int).toNat = _
  rw [if_neg h3, if_pos h1, h2]; rfl
theorem mk_skip (h : k < 1000) : @lskip (mkRho num ls) k = (ls k).1 := by
  obtain ⟨h1, h2, h3⟩ := lix_div 1 h
  show (if lix k 1 < 1000000 then _ else _ : Int).toNat = _
  rw [if_neg h3, if_neg (by omega), if_pos h1, h2]; rfl
theorem mk_el (h : k < 1000) (i : Nat) : @lel (mkRho num ls) k i = (ls k).2.getD i 0 := by
  obtain ⟨h1, h2, h3⟩ := lix_div (i + 2) h
  show (if lix k (i + 2) < 1000000 then _ else _ : Int) = _
  rw [if_neg h3, if_neg (by omega), if_neg (by omega), h1, h2]; rfl
theorem mk_val (h : k < 1000) (d : EK) (i : Nat) : @lval (mkRho num ls) k d i = d.val ((ls k).2.getD i 0) := by unfold lval; rw [mk_el h]

/-- the same numbers below m, and the same lists -/
theorem mk_agree {num' : Nat → Int} {ls' : Nat → Nat × List Int} {m : Nat} (hm : m ≤ 1000) (h : ∀ i, i < m → num i = num' i) (hl : ∀ k, k < m → ls k = ls' k) : Agree m (mkRho num ls) (mkRho num' ls') :=
  ⟨fun i hi => by rw [mk_num (by omega), mk_num (by omega), h i hi], fun k i hk => by
    obtain ⟨h1, h2, h3⟩ := lix_div (k := k) i (by omega)
    show (if lix k i < 1000000 then _ else _ : Int) = (if lix k i < 1000000 then _ else _ : Int)
    rw [if_neg h3, if_neg h3, h2, hl k hk]⟩
end

/-- a fact under other letters that stand for the same -/
theorem Fct.turn2 {P : Program} {R1 R2 : Rho} {f : FuncId} {F' F : Fct} (h : @Fct.Holds R1 P f F') (hw : ∀ B π w, @WR R2 B π [] F.st w → @WR R1 B π [] F'.st w)
    (ha : ∀ π vs, @LR R2 π [] F.args vs → @LR R1 π [] F'.args vs) (hv' : F'.v.flat = true) (hg : F.good = true) (hv : F.v.flat = true) (hf : @AV.fine R2 F.v) (he : @AV.vl R2 F.v = @AV.vl R1 F'.v) (hs : F.sel = []) (hn : F.new = []) : @Fct.Holds R2 P f F := by
  obtain ⟨fn, body, hb1, hb2⟩ := h.1
  refine @fct_of R2 P f F hs hn hg hv hf (by unfold hasBody; rw [hb1]; simp [hb2]) (fun π w vs hw' hl => ?_)
  rw [he]
  exact Fct.calls h hv' (hw _ _ _ hw') (ha _ _ hl)

end Go.Ev
