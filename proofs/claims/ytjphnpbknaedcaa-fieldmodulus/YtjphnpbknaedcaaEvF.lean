/- Operations. -/
import Derived.Test.YtjphnpbknaedcaaEvE
namespace Go.Ev
open Go.RowKit (Below)

variable {P : Program} {B : Nat} {π : Inj} {lm : List Nat} {s : St} {w : World} {ts : List AV} {a : Act}

theorem VR.undef : VR π lm undefA undef := .tup rfl (fun i p => by simp at p)

theorem eval_rel {x : Operand} {v : AV} (h : eval ts x = some v) (r : LR π lm ts a.tmps.toList) : VR π lm v (a.eval x) := by
  cases x with
  | tmp t =>
    simp only [eval, nthD_eq, Option.some.injEq] at h
    subst h
    simp only [Act.eval, Array.getD_eq_getD_getElem?]
    cases ht : ts[t]? with
    | none =>
      have := r.none ht
      rw [Array.getElem?_toList] at this
      rw [this]; exact .undef
    | some v =>
      obtain ⟨c, hc, hv⟩ := r.get ht
      rw [Array.getElem?_toList] at hc
      rw [hc]; exact hv
  | const v => exact ofV_rel h
  | global g => cases h
  | func f =>
    simp only [eval, Option.some.injEq] at h
    subst h
    exact .fn f rfl (fun i p => by simp at p) rfl (fun i p => by simp at p)

theorem evals_rel {xs : List Operand} {vs : List AV} (h : evals ts xs = some vs) (r : LR π lm ts a.tmps.toList) : LR π lm vs (xs.map a.eval) := by
  induction xs generalizing vs with
  | nil => simp [evals] at h; subst h; exact .nil
  | cons x xs ih =>
    simp only [evals] at h
    split at h
    · rename_i v us hv hus
      simp at h; subst h
      exact LR.cons (eval_rel hv r) (ih hus)
    · cases h

theorem put_rel {dst : Option Tmp} {v : AV} {c : Value} (r : LR π lm ts a.tmps.toList) (hv : VR π lm v c) : LR π lm (put ts dst v) (a.put dst c).tmps.toList := by
  cases dst with
  | none => exact r
  | some d =>
    simp only [put, Act.put, setNth_eq, Array.toList_setIfInBounds]
    exact r.set d hv

theorem runPure_run {α : Type} {m : Sem α} {x : α} (h : runPure P m = some x) (w : World) : m.run P w = .ok x w := by
  induction m with
  | pure a => simp [runPure] at h; subst h; rfl
  | program k ih => exact ih P h
  | _ => cases h

theorem pureOp_rel {o : Oper} {v : AV} (h : pureOp P ts o = some v) (r : LR π lm ts a.tmps.toList) (w : World) :
    ∃ c, (execOp a.eval o).run P w = .ok (.value c) w ∧ VR π lm v c := by
  unfold pureOp at h
  split at h
  · rename_i hc
    simp only [Bool.and_eq_true, List.all_eq_true] at hc
    split at h
    · rename_i c hr
      refine ⟨c, ?_, ofV_rel h⟩
      rw [← runPure_run hr w]
      congr 1
      refine execOp_congr o ?_ ?_
      · intro cs b e; rw [e] at hc; simp [plainOp] at hc
      · intro x hx
        obtain ⟨u, hu⟩ := Option.isSome_iff_exists.1 (hc.1 x (by simpa using hx))
        rw [hu]
        obtain ⟨v', hv', hu'⟩ := Option.bind_eq_some_iff.1 hu
        exact AV.toV_rel hu' (eval_rel hv' r)
    · cases h
  · cases h

/-- What an operation that calls nothing comes to. -/
def OpOk (P : Program) (B : Nat) (π : Inj) (lm : List Nat) (s : St) (w : World) (o : Oper) (a : Act) (v : AV) (s' : St) : Prop :=
  ∃ nx c w' π', (execOp a.eval o).run P w = .ok nx w' ∧ (nx = .value c ∨ (nx = .skip ∧ c = undef)) ∧ VR π' lm v c ∧ WR B π' lm s' w' ∧ Tr π π' lm lm s s' w w'

theorem OpOk.still {o : Oper} {v : AV} {c : Value} (hw : WR B π lm s w) (hr : (execOp a.eval o).run P w = .ok (.value c) w) (hv : VR π lm v c) : OpOk P B π lm s w o a v s :=
  ⟨_, c, w, π, hr, .inl rfl, hv, hw, Tr.refl _ _ _ hw.dom⟩

theorem op_pure {o : Oper} {v : AV} (hw : WR B π lm s w) (h : pureOp P ts o = some v) (r : LR π lm ts a.tmps.toList) : OpOk P B π lm s w o a v s := by
  obtain ⟨c, h1, h2⟩ := pureOp_rel h r w
  exact .still hw h1 h2

theorem intBin_rel {op : BinOp} {k : IntKind} {x y : Int} {v : AV} (h : intBin op k x y = some v) (t : TypeId) (w : World) :
    ∃ c, (binOp op t (.int k x) (.int k y)).run P w = .ok c w ∧ VR π lm v c := by
  cases op <;> simp only [intBin, Option.some.injEq, reduceCtorEq] at h <;>
    first
    | (subst h; exact ⟨_, by simp [binOp, Op.intArith, Op.intCmp]; rfl, by constructor⟩)
    | (split at h
       · cases h
       · rename_i hne
         simp only [Option.some.injEq] at h
         subst h
         exact ⟨_, by simp [binOp, Op.intDiv, hne]; rfl, by constructor⟩)

theorem eqGuard_int (op : BinOp) (t : TypeId) (x y : Operand) (k k' : IntKind) (m n : Int) (w : World) : (eqGuard op t x y (.int k m) (.int k' n)).run P w = .ok () w := by
  unfold eqGuard
  simp only [Sem.run_ite]
  split <;> simp

theorem op_bin {o : Oper} {op : BinOp} {xt yt : TypeId} {x y : Operand} {v : AV} (ho : o.op = .binOp op xt x y yt) (hw : WR B π lm s w) (h : binA P ts o op x y = some v)
    (r : LR π lm ts a.tmps.toList) : OpOk P B π lm s w o a v s := by
  unfold binA at h
  split at h
  · rename_i k m k' n hx hy
    split at h
    · rename_i hk
      subst hk
      split at h
      · rename_i v' hv'
        simp at h; subst h
        have ex := eval_rel hx r
        have ey := eval_rel hy r
        generalize hcx : a.eval x = cx at ex
        generalize hcy : a.eval y = cy at ey
        cases ex; cases ey
        obtain ⟨c, h1, h2⟩ := intBin_rel (P := P) (π := π) (lm := lm) hv' xt w
        refine .still hw (c := c) ?_ h2
        simp [execOp, ho, hcx, hcy, eqGuard_int, h1]
      · exact op_pure hw h r
    · exact op_pure hw h r
  · exact op_pure hw h r

theorem symBin_ok {op : BinOp} {x y v : AV} {cx cy : Value} (h : symBin op x y = some v) (hx : VR π lm x cx) (hy : VR π lm y cy) :
    ∃ k n m u, cx = .int k n ∧ cy = .int k m ∧ intBin op k n m = some u ∧ ∀ c, VR π lm u c → VR π lm v c := by
  unfold symBin at h
  split at h
  · rename_i k e1 l1 h1 k' e2 l2 h2 s1 s2
    split at h
    · rename_i hk
      subst hk
      obtain ⟨a0, a1, a2, rfl⟩ := symA_rel s1 hx
      obtain ⟨b0, b1, b2, rfl⟩ := symA_rel s2 hy
      split at h
      · rename_i so hso
        split at h
        · rename_i e l hh hop
          split at h
          · rename_i hkin
            simp only [Option.some.injEq] at h
            subst h
            obtain ⟨m0, m1, m2, m3⟩ := symOp_ok hop a0 a1 a2 b0 b1 b2
            have hne : (op = .quo ∨ op = .rem) → e2.eval ≠ 0 := fun ho => by
              rcases ho with rfl | rfl <;> simp only [sopOf, Option.some.injEq] at hso <;> subst hso <;> simp only [symOp] at hop <;> split at hop
              · cases hop
              · rename_i hr; simp only [rngOp] at hr; split at hr
                · omega
                · cases hr
              · cases hop
              · rename_i hr; simp only [rngOp] at hr; split at hr
                · omega
                · cases hr
            refine ⟨k, e1.eval, e2.eval, .int k e.eval, rfl, rfl, ?_, fun c hc => by cases hc; exact mkA_rel m0 m1 m2⟩
            have hw := kin_ok hkin m1 m2
            cases op <;> simp only [sopOf, Option.some.injEq, reduceCtorEq] at hso <;> subst hso <;> simp only [SOp.app] at m3 <;> simp only [intBin]
            · rw [← m3, hw]
            · rw [← m3, hw]
            · rw [← m3, hw]
            · rw [if_neg (hne (.inl rfl)), ← m3, hw]
            · rw [if_neg (hne (.inr rfl)), ← m3]
          · cases h
        · cases h
      · simp only [Option.map_eq_some_iff] at h
        obtain ⟨b, hb, rfl⟩ := h
        refine ⟨k, e1.eval, e2.eval, .bool b, rfl, rfl, ?_, fun c hc => hc⟩
        cases op <;> simp only [symCmp, reduceCtorEq] at hb <;> simp only [intBin, Option.some.injEq, AV.bool.injEq]
        · split at hb
          · simp only [Option.some.injEq] at hb; subst hb; simp only [beq_eq_false_iff_ne, ne_eq]; omega
          · cases hb
        · split at hb
          · simp only [Option.some.injEq] at hb; subst hb; simp only [bne_iff_ne, ne_eq]; omega
          · cases hb
        all_goals
          split at hb
          · simp only [Option.some.injEq] at hb; subst hb; simp only [decide_eq_true_eq]; omega
          · split at hb
            · simp only [Option.some.injEq] at hb; subst hb; simp only [decide_eq_false_iff_not]; omega
            · cases hb
    · cases h
  · cases h

theorem op_binS {o : Oper} {op : BinOp} {xt yt : TypeId} {x y : Operand} {v : AV} (ho : o.op = .binOp op xt x y yt) (hw : WR B π lm s w) (h : binS P ts o op x y = some v)
    (r : LR π lm ts a.tmps.toList) : OpOk P B π lm s w o a v s := by
  unfold binS at h
  split at h
  · rename_i hb
    simp only [Option.some.injEq] at h; subst h
    exact op_bin ho hw hb r
  · split at h
    · rename_i u v' hx hy
      obtain ⟨k, n, m, u', e1, e2, e3, e4⟩ := symBin_ok h (eval_rel hx r) (eval_rel hy r)
      obtain ⟨c, h1, h2⟩ := intBin_rel (P := P) (π := π) (lm := lm) e3 xt w
      refine .still hw (c := c) ?_ (e4 c h2)
      simp [execOp, ho, e1, e2, eqGuard_int, h1]
    · cases h

theorem op_convS {o : Oper} {src dst : TypeId} {x : Operand} {v : AV} (ho : o.op = .convert src dst x) (hw : WR B π lm s w) (h : convS P ts o src dst x = some v)
    (r : LR π lm ts a.tmps.toList) : OpOk P B π lm s w o a v s := by
  unfold convS at h
  split at h
  · rename_i hb
    simp only [Option.some.injEq] at h; subst h
    exact op_pure hw hb r
  · split at h
    · rename_i u hx
      unfold symConv at h
      split at h
      · rename_i us k k' e l hh h1 h2 h3
        split at h
        · rename_i hk
          simp only [Option.some.injEq] at h; subst h
          obtain ⟨a0, a1, a2, e1⟩ := symA_rel h3 (eval_rel hx r)
          refine .still hw (c := .int k e.eval) ?_ (mkA_rel a0 a1 a2)
          simp [execOp, ho, convert, run_underlying h1, run_underlying h2, e1, Conv.intToInt, kin_ok hk a1 a2]
        · cases h
      · cases h
    · cases h

end Go.Ev
