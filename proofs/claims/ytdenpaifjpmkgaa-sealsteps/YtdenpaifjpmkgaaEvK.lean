/- Operations, all; calls. -/
import Derived.Test.YtdenpaifjpmkgaaEvJ
namespace Go.Ev
open Go.RowKit (Below)
set_option linter.unusedSectionVars false
variable [Rho]

variable {P : Program} {B : Nat} {π : Inj} {lm : List Nat} {s : St} {w : World} {ts : List AV} {a : Act}

theorem evals_two {xs : Array Operand} {x y : AV} (h : evals ts xs.toList = some [x, y]) (r : LR π lm ts a.tmps.toList) : ∃ cx cy, xs.map a.eval = #[cx, cy] ∧ VR π lm x cx ∧ VR π lm y cy := by
  have := evals_rel h r
  obtain ⟨cx, ws, e1, h1, h2⟩ := this.uncons
  obtain ⟨cy, ws', e2, h3, h4⟩ := h2.uncons
  have := h4.nil_inv
  subst this; subst e2
  refine ⟨cx, cy, ?_, h1, h3⟩
  apply Array.toList_inj.1
  rw [Array.toList_map, e1]

theorem evals_one {xs : Array Operand} {x : AV} (h : evals ts xs.toList = some [x]) (r : LR π lm ts a.tmps.toList) : ∃ cx, xs.map a.eval = #[cx] ∧ VR π lm x cx := by
  have := evals_rel h r
  obtain ⟨cx, ws, e1, h1, h2⟩ := this.uncons
  have := h2.nil_inv
  subst this
  refine ⟨cx, ?_, h1⟩
  apply Array.toList_inj.1
  rw [Array.toList_map, e1]

theorem pick_u {op : BinOp} {k : IntKind} {m n : Int} {u : AV} (hop : op = .gtr ∨ op = .lss) (h : intBin op k m n = some u) : ∃ b, u = .bool b := by
  rcases hop with rfl | rfl <;> simp only [intBin, Option.some.injEq] at h <;> exact ⟨_, h.symm⟩

theorem pick_rel {op : BinOp} {x y v : AV} {cx cy : Value} (hop : op = .gtr ∨ op = .lss) (h : pickA op x y = some v) (hx : VR π lm x cx) (hy : VR π lm y cy) :
    ∃ k n m b, cx = .int k n ∧ cy = .int k m ∧ intBin op k m n = some (.bool b) ∧ VR π lm v (if b then cy else cx) := by
  unfold pickA at h
  split at h
  · rename_i hb
    simp only [Option.some.injEq] at h; subst h
    obtain ⟨k, n, m, u, rfl, rfl, h1, h2⟩ := symBin_ok hb hy hx
    obtain ⟨b, rfl⟩ := pick_u hop h1
    have hv := h2 _ (.bool b)
    cases hv
    exact ⟨k, m, n, true, rfl, rfl, h1, hy⟩
  · rename_i hb
    simp only [Option.some.injEq] at h; subst h
    obtain ⟨k, n, m, u, rfl, rfl, h1, h2⟩ := symBin_ok hb hy hx
    obtain ⟨b, rfl⟩ := pick_u hop h1
    have hv := h2 _ (.bool b)
    cases hv
    exact ⟨k, m, n, false, rfl, rfl, h1, hx⟩
  · cases h

theorem op_builtin {o : Oper} {c : Call} {b : Builtin} {args : List AV} {v : AV} {s' : St} {k : Nat} (ho : o.op = .call c) (hc : c.callee = .builtin b) (hw : WR B π lm s w) (hB : B ≤ w.heap.size)
    (hargs : evals ts c.args.toList = some args) (h : builtinA P s b c.argTypes.toList args = some (v, s', k)) (r : LR π lm ts a.tmps.toList) : OpOk P B π lm s w o a v s' := by
  unfold builtinA at h
  split at h
  · rename_i t x heq
    split at h
    · rename_i e n hu hn
      simp at h
      obtain ⟨rfl, rfl, rfl⟩ := h
      obtain ⟨cx, e1, hx⟩ := evals_one hargs r
      have a0 : c.argTypes[0]? = some t := by rw [← Array.getElem?_toList, heq]; rfl
      refine .still hw (c := .int .i64 n) ?_ (.int _ _)
      have : ∃ A cap, cx = .slice A n cap := by
        cases hx <;> simp [lenA] at hn <;> subst hn <;> exact ⟨_, _, rfl⟩
      obtain ⟨A, cap, rfl⟩ := this
      simp [execOp, ho, resolve, hc, invoke, builtin, Builtin.len_, a0, e1, run_underlying hu, goInt]
    · cases h
  · rename_i st xt x y heq
    simp only [Option.map_eq_some_iff, Prod.mk.injEq, Prod.exists] at h
    obtain ⟨v', s1, h, rfl, rfl, rfl⟩ := h
    obtain ⟨cx, cy, e1, hx, hy⟩ := evals_two hargs r
    obtain ⟨cv, w', π', k1, k2, k3, k4⟩ := append_rel (P := P) o.type hw hB h hx hy c.argTypes heq
    refine ⟨_, cv, w', π', ?_, .inl rfl, k2, k3, k4⟩
    simp [execOp, ho, resolve, hc, invoke, builtin, e1, k1]
  · rename_i x y heq
    simp only [Option.map_eq_some_iff, Prod.mk.injEq] at h
    obtain ⟨v', h, rfl, rfl, rfl⟩ := h
    obtain ⟨cx, cy, e1, hx, hy⟩ := evals_two hargs r
    obtain ⟨k, n, m, b, rfl, rfl, h1, h2⟩ := pick_rel (by first | exact .inl rfl | exact .inr rfl) h hx hy
    simp only [intBin, Option.some.injEq, AV.bool.injEq] at h1
    refine .still hw ?_ h2
    subst h1
    by_cases hl : n < m <;> simp [execOp, ho, resolve, hc, invoke, builtin, e1, Builtin.max_, Builtin.max2, hl]
  · rename_i x y heq
    simp only [Option.map_eq_some_iff, Prod.mk.injEq] at h
    obtain ⟨v', h, rfl, rfl, rfl⟩ := h
    obtain ⟨cx, cy, e1, hx, hy⟩ := evals_two hargs r
    obtain ⟨k, n, m, b, rfl, rfl, h1, h2⟩ := pick_rel (by first | exact .inl rfl | exact .inr rfl) h hx hy
    simp only [intBin, Option.some.injEq, AV.bool.injEq] at h1
    refine .still hw ?_ h2
    subst h1
    by_cases hl : m < n <;> simp [execOp, ho, resolve, hc, invoke, builtin, e1, Builtin.min_, Builtin.min2, hl]
  · cases h

theorem evOp_val {o : Oper} {v : AV} {s' : St} {k : Nat} (hw : WR B π lm s w) (hB : B ≤ w.heap.size) (r : LR π lm ts a.tmps.toList) (h : evOp P ts o s = some (.val v s' k)) :
    OpOk P B π lm s w o a v s' ∧ ∀ c, o.op ≠ .defer c := by
  have hpure : (pureOp P ts o).map (ORes.val · s 0) = some (ORes.val v s' k) → OpOk P B π lm s w o a v s' := fun h => by
    simp only [Option.map_eq_some_iff, ORes.val.injEq] at h
    obtain ⟨v', h1, rfl, rfl, _⟩ := h
    exact op_pure hw h1 r
  unfold evOp at h
  split at h
  all_goals (rename_i ho)
  · -- move
    simp only [Option.map_eq_some_iff, ORes.val.injEq] at h
    obtain ⟨v', h1, rfl, rfl, _⟩ := h
    exact ⟨.still hw (c := a.eval _) (by simp [execOp, ho]) (eval_rel h1 r), by simp [ho]⟩
  · -- assign
    simp only [Option.map_eq_some_iff, ORes.val.injEq] at h
    obtain ⟨v', h1, rfl, rfl, _⟩ := h
    exact ⟨.still hw (c := a.eval _) (by simp [execOp, ho]) (eval_rel h1 r), by simp [ho]⟩
  · -- pick
    split at h
    · rename_i t ht
      simp only [Option.map_eq_some_iff, ORes.val.injEq] at h
      obtain ⟨v', h1, rfl, rfl, _⟩ := h
      have hb := VR.bool_inv (eval_rel ht r)
      have hv := eval_rel h1 r
      refine ⟨.still hw (c := a.eval _) ?_ hv, by simp [ho]⟩
      cases t <;> simp [execOp, ho, hb, asBool]
    · cases h
  · -- binOp
    simp only [Option.map_eq_some_iff, ORes.val.injEq] at h
    obtain ⟨v', h1, rfl, rfl, _⟩ := h
    exact ⟨op_binS ho hw h1 r, by simp [ho]⟩
  · -- convert
    unfold convA at h
    split at h
    · rename_i v' h1
      simp only [Option.some.injEq, ORes.val.injEq] at h
      obtain ⟨rfl, rfl, _⟩ := h
      exact ⟨op_convS ho hw h1 r, by simp [ho]⟩
    · split at h
      · rename_i u hx
        simp only [Option.map_eq_some_iff, ORes.val.injEq] at h
        obtain ⟨v', h1, rfl, rfl, _⟩ := h
        exact ⟨op_str ho hw hx h1 r, by simp [ho]⟩
      · cases h
  · -- unOp
    simp only [Option.map_eq_some_iff, ORes.val.injEq] at h
    obtain ⟨v', h1, rfl, rfl, _⟩ := h
    exact ⟨op_unS ho hw h1 r, by simp [ho]⟩
  · -- nilCheck
    split at h
    · rename_i b off hx
      simp only [Option.some.injEq, ORes.val.injEq] at h
      obtain ⟨rfl, rfl, _⟩ := h
      exact ⟨op_nilCheck ho hw hx r, by simp [ho]⟩
    · simp only [Option.map_eq_some_iff, ORes.val.injEq] at h
      obtain ⟨v', h1, rfl, rfl, _⟩ := h
      exact ⟨op_pure hw h1 r, by simp [ho]⟩
  · -- load
    split at h
    · rename_i b off hx
      simp only [Option.map_eq_some_iff, ORes.val.injEq] at h
      obtain ⟨v', h1, rfl, rfl, _⟩ := h
      exact ⟨op_load ho hw hx h1 r, by simp [ho]⟩
    · cases h
  · -- store
    split at h
    · rename_i b off x n hx hy hn
      split at h
      · rename_i hl
        simp only [Option.map_eq_some_iff, ORes.val.injEq] at h
        obtain ⟨s1, h1, rfl, rfl, _⟩ := h
        exact ⟨op_store ho hw hx hy hn hl h1 r, by simp [ho]⟩
      · cases h
    · cases h
  · -- fieldAddr
    split at h
    · rename_i fs b off hu hx
      split at h
      · rename_i fd hf
        split at h
        · rename_i n hn
          split at h
          · cases h
          · rename_i h0
            simp only [Option.some.injEq, ORes.val.injEq] at h
            obtain ⟨rfl, rfl, _⟩ := h
            exact ⟨op_fieldAddr ho hw hx hu hf hn h0 r, by simp [ho]⟩
        · cases h
      · cases h
    · cases h
  · -- indexAddr
    split at h
    · rename_i len e b off kk n hu hx hi
      split at h
      · rename_i es hn
        split at h
        · rename_i hr
          simp only [Option.some.injEq, ORes.val.injEq] at h
          obtain ⟨rfl, rfl, _⟩ := h
          exact ⟨op_indexArr ho hw hx hi hu hn hr r, by simp [ho]⟩
        · cases h
      · cases h
    · rename_i e b off len cap ex es' kk n hu hx hi
      split at h
      · rename_i es hn
        split at h
        · rename_i hr
          simp only [Option.some.injEq, ORes.val.injEq] at h
          obtain ⟨rfl, rfl, _⟩ := h
          exact ⟨op_indexSl ho hw hx hi hu hn hr r, by simp [ho]⟩
        · cases h
      · cases h
    · cases h
  · -- alloc
    simp only [Option.map_eq_some_iff, ORes.val.injEq] at h
    obtain ⟨z, h1, rfl, rfl, _⟩ := h
    exact ⟨op_alloc ho hw hB h1, by simp [ho]⟩
  · -- box
    simp only [Option.map_eq_some_iff, ORes.val.injEq] at h
    obtain ⟨z, h1, rfl, rfl, _⟩ := h
    exact ⟨op_box ho hw hB h1 r, by simp [ho]⟩
  · -- build
    split at h
    · rename_i ps hps
      simp only [Option.map_eq_some_iff, ORes.val.injEq] at h
      obtain ⟨z, h1, rfl, rfl, _⟩ := h
      exact ⟨op_build ho hw hps h1 r, by simp [ho]⟩
    · cases h
  · -- buildSlice
    split at h
    · rename_i e hu
      split at h
      · rename_i es z ps hn hz hps
        split at h
        · cases h
        · rename_i hc
          simp only [not_or, ne_eq, Decidable.not_not] at hc
          simp only [Option.map_eq_some_iff, ORes.val.injEq] at h
          obtain ⟨cs, h1, rfl, rfl, _⟩ := h
          exact ⟨op_buildSlice ho hw hB hu hn hz hps hc.1 hc.2 h1 r, by simp [ho]⟩
      · cases h
    · cases h
  · -- makeSlice
    split at h
    · rename_i e hu
      split at h
      · rename_i es bs z k1 n k2 m hn hb hz hx hy
        split at h
        · rename_i hc
          simp only [Option.some.injEq, ORes.val.injEq] at h
          obtain ⟨rfl, rfl, _⟩ := h
          exact ⟨op_makeSlice ho hw hB hu hn hb hz hx hy hc.1 hc.2.1 hc.2.2.1 hc.2.2.2.1 hc.2.2.2.2 r, by simp [ho]⟩
        · cases h
      · cases h
    · cases h
  · -- makeFunc
    split at h
    · rename_i f l1 l2 h1 h2
      simp only [Option.some.injEq, ORes.val.injEq] at h
      obtain ⟨rfl, rfl, _⟩ := h
      exact ⟨op_makeFunc ho hw h1 h2 r, by simp [ho]⟩
    · cases h
  · -- slice
    split at h
    · rename_i v0 l hh hx hl hhi
      split at h
      · rename_i r' hr
        simp only [Option.some.injEq, ORes.val.injEq] at h
        obtain ⟨rfl, rfl, _⟩ := h
        exact ⟨op_slice ho hw hx hl hhi hr r, by simp [ho]⟩
      · exact ⟨hpure h, by simp [ho]⟩
    · cases h
  · -- extract
    split at h
    · rename_i vs hx
      split at h
      · rename_i v0 hv
        simp only [Option.some.injEq, ORes.val.injEq] at h
        obtain ⟨rfl, rfl, _⟩ := h
        exact ⟨op_extract ho hw hx hv r, by simp [ho]⟩
      · cases h
    · cases h
  · -- call
    split at h
    · rename_i b hc
      split at h
      · rename_i args hargs
        split at h
        · rename_i v0 s0 k0 hb
          simp only [Option.some.injEq, ORes.val.injEq] at h
          obtain ⟨rfl, rfl, _⟩ := h
          exact ⟨op_builtin ho hc hw hB hargs hb r, by simp [ho]⟩
        · exact ⟨hpure h, by simp [ho]⟩
      · cases h
    · split at h
      · cases h
      · cases h
      · cases h
    · cases h
  · -- others
    refine ⟨hpure h, ?_⟩
    intro c hc
    simp only [Option.map_eq_some_iff] at h
    obtain ⟨v', h1, _⟩ := h
    unfold pureOp at h1
    rw [hc] at h1
    simp [plainOp] at h1

theorem call_run {g : FuncId} {fn : Func} {body : Code} (hg : P.funcs[g]? = some fn) (hb : fn.body = some body) (hname : fn.name ≠ "runtime.NumGoroutine") (args : Array Value) (w : World) :
    (callFunc g args).run P w = .ok (.enter g args) w := by
  simp [callFunc, hg, hname, hb]

theorem not_call {α : Type} {x : Option α} {f : α → AV} {st : α → St} {k : Nat} {R : ORes} (hR : ∀ v s k, R ≠ .val v s k) (h : x.map (fun v => ORes.val (f v) (st v) k) = some R) : False := by
  cases x with
  | none => cases h
  | some v => simp only [Option.map_some, Option.some.injEq] at h; exact hR _ _ _ h.symm

theorem evOp_other {o : Oper} {R : ORes} (hR : ∀ v s k, R ≠ .val v s k) (h : evOp P ts o s = some R) :
    ∃ c f xs, o.op = .call c ∧ c.callee = .value f ∧ evals ts c.args.toList = some xs ∧
      ((∃ g l1 l2, eval ts f = some (.fn g l1 l2) ∧ R = .call g (l1 ++ (xs ++ l2))) ∨ (∃ l, eval ts f = some (.yield l) ∧ R = .round l xs)) := by
  unfold evOp convA at h
  split at h
  case h_20 =>
    rename_i c ho
    split at h
    · split at h
      · split at h
        · simp only [Option.some.injEq] at h; exact (hR _ _ _ h.symm).elim
        · exact (not_call hR h).elim
      · cases h
    · rename_i f hf
      split at h
      · rename_i g l1 l2 xs h1 h2
        simp only [Option.some.injEq] at h
        exact ⟨c, f, xs, ho, hf, h2, .inl ⟨g, l1, l2, h1, h.symm⟩⟩
      · rename_i l xs h1 h2
        simp only [Option.some.injEq] at h
        exact ⟨c, f, xs, ho, hf, h2, .inr ⟨l, h1, h.symm⟩⟩
      · cases h
    · cases h
  all_goals
    exfalso
    first
    | exact not_call hR h
    | ((repeat' split at h) <;> first | (cases h; done) | exact not_call hR h | exact hR _ _ _ (Option.some.inj h).symm)

theorem VR.fn_inv {f : FuncId} {l1 l2 : List AV} {c : Value} (h : VR π lm (.fn f l1 l2) c) : ∃ a1 a2, c = .func (.func f) a1 a2 ∧ LR π lm l1 a1.toList ∧ LR π lm l2 a2.toList := by
  cases h with
  | fn f s1 h1 s2 h2 => exact ⟨_, _, rfl, ⟨s1, h1⟩, ⟨s2, h2⟩⟩

theorem VR.yield_inv {l : Nat} {c : Value} (h : VR π lm (.yield l) c) : ∃ L, lm[l]? = some L ∧ c = .func (.yield L) #[] #[] := by
  cases h with
  | yield h => exact ⟨_, h, rfl⟩

theorem evOp_call {o : Oper} {g : FuncId} {args : List AV} {fn : Func} {body : Code} (r : LR π lm ts a.tmps.toList) (h : evOp P ts o s = some (.call g args)) (hg : P.funcs[g]? = some fn)
    (hb : fn.body = some body) (hname : fn.name ≠ "runtime.NumGoroutine") (w : World) :
    (∃ vs, (execOp a.eval o).run P w = .ok (.enter g vs) w ∧ LR π lm args vs.toList) ∧ ∀ c, o.op ≠ .defer c := by
  obtain ⟨c, f, xs, ho, hc, hxs, ⟨g', l1, l2, hf, he⟩ | ⟨l, _, he⟩⟩ := evOp_other (by simp) h
  · cases he
    obtain ⟨a1, a2, h1, h2, h3⟩ := VR.fn_inv (eval_rel hf r)
    have hx := evals_rel hxs r
    refine ⟨⟨a1 ++ c.args.map a.eval ++ a2, ?_, ?_⟩, by simp [ho]⟩
    · simp [execOp, ho, resolve, hc, h1, Deferred.ofValue, invoke, call_run hg hb hname]
    · simp only [Array.toList_append, Array.toList_map, List.append_assoc]
      exact h2.append (hx.append h3)
  · cases he

theorem evOp_round {o : Oper} {l : Nat} {args : List AV} (r : LR π lm ts a.tmps.toList) (h : evOp P ts o s = some (.round l args)) (hw : WR B π lm s w) {rec : ALoop} (hl : s.loops[l]? = some rec)
    (hlen : args.length = rec.params.length) :
    (∃ (L : Nat) (fn : FuncId) (D : Nat) (tv : Array Value) (st : LoopState) (pd : Option Code) (vs : Array Value), lm[l]? = some L ∧
      w.heap[L]? = some (.loop { state := st, pending := pd, fn, tmps := tv, params := rec.params.toArray, assign := rec.assign, body := rec.body, defers := D }) ∧ rec.stat.rel st pd ∧ LR π lm rec.tmps tv.toList ∧
      (execOp a.eval o).run P w = .ok (.round L fn ((rec.params.toArray.zip vs).foldl (fun tmps (t, a) => tmps.setIfInBounds t a) tv) rec.assign rec.body) w ∧ LR π lm args vs.toList) ∧ ∀ c, o.op ≠ .defer c := by
  obtain ⟨c, f, xs, ho, hc, hxs, ⟨g', l1, l2, hf, he⟩ | ⟨l', hf, he⟩⟩ := evOp_other (by simp) h
  · cases he
  · cases he
    obtain ⟨L, h1, h2⟩ := VR.yield_inv (eval_rel hf r)
    have hx := evals_rel hxs r
    obtain ⟨L', fn, D, tv, st, pd, k1, k2, k3, k4⟩ := hw.loop l rec hl
    rw [h1] at k1
    obtain rfl := Option.some.inj k1
    refine ⟨⟨L, fn, D, tv, st, pd, c.args.map a.eval, h1, k2, k3, k4, ?_, by rw [Array.toList_map]; exact hx⟩, by simp [ho]⟩
    have hs : (c.args.map a.eval).size = rec.params.toArray.size := by have := hx.1; simp at this; simp; omega
    have := run_yield (P := P) (args := c.args.map a.eval) k2 hs
    simp only [execOp, ho, resolve, hc, h2, Deferred.ofValue, invoke, Sem.run_bind, Sem.run_pure, Result.andThen_ok, Array.empty_append, this]

end Go.Ev
