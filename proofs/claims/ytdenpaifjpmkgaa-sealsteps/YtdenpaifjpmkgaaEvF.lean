/- Operations. -/
import Derived.Test.YtdenpaifjpmkgaaEvE
import Derived.Laws.StructEq
namespace Go.Ev
open Go.RowKit (Below)
set_option linter.unusedSectionVars false
variable [Rho]

variable {P : Program} {B : Nat} {π : Inj} {lm : List Nat} {s : St} {w : World} {ts : List AV} {a : Act}

theorem VR.undef : VR π lm undefA undef := .tup rfl (fun i p => by simp at p)

theorem eval_rel {x : Operand} {v : AV} (h : eval ts x = some v) (r : LR π lm ts a.tmps.toList) : VR π lm v (a.eval x) := by
  cases x with
  | tmp t =>
    simp only [eval, nthD_eq, Option.some.injEq] at h
    subst h
    simp only [Act.eval, Array.getD_eq_getD_getElem?]
    cases ht : ts[t]? with
    | none =>
      have := r.none ht
      rw [Array.getElem?_toList] at this
      rw [this]; exact .undef
    | some v =>
      obtain ⟨c, hc, hv⟩ := r.get ht
      rw [Array.getElem?_toList] at hc
      rw [hc]; exact hv
  | const v => exact ofV_rel h
  | global g => cases h
  | func f =>
    simp only [eval, Option.some.injEq] at h
    subst h
    exact .fn f rfl (fun i p => by simp at p) rfl (fun i p => by simp at p)

theorem evals_rel {xs : List Operand} {vs : List AV} (h : evals ts xs = some vs) (r : LR π lm ts a.tmps.toList) : LR π lm vs (xs.map a.eval) := by
  induction xs generalizing vs with
  | nil => simp [evals] at h; subst h; exact .nil
  | cons x xs ih =>
    simp only [evals] at h
    split at h
    · rename_i v us hv hus
      simp at h; subst h
      exact LR.cons (eval_rel hv r) (ih hus)
    · cases h

theorem put_rel {dst : Option Tmp} {v : AV} {c : Value} (r : LR π lm ts a.tmps.toList) (hv : VR π lm v c) : LR π lm (put ts dst v) (a.put dst c).tmps.toList := by
  cases dst with
  | none => exact r
  | some d =>
    simp only [put, Act.put, setNth_eq, Array.toList_setIfInBounds]
    exact r.set d hv

theorem runPure_run {α : Type} {m : Sem α} {x : α} (h : runPure P m = some x) (w : World) : m.run P w = .ok x w := by
  induction m with
  | pure a => simp [runPure] at h; subst h; rfl
  | program k ih => exact ih P h
  | _ => cases h

theorem pureOp_rel {o : Oper} {v : AV} (h : pureOp P ts o = some v) (r : LR π lm ts a.tmps.toList) (w : World) :
    ∃ c, (execOp a.eval o).run P w = .ok (.value c) w ∧ VR π lm v c := by
  unfold pureOp at h
  split at h
  · rename_i hc
    simp only [Bool.and_eq_true, List.all_eq_true] at hc
    split at h
    · rename_i c hr
      refine ⟨c, ?_, ofV_rel h⟩
      rw [← runPure_run hr w]
      congr 1
      refine execOp_congr o ?_ ?_
      · intro cs b e; rw [e] at hc; simp [plainOp] at hc
      · intro x hx
        obtain ⟨u, hu⟩ := Option.isSome_iff_exists.1 (hc.1 x (by simpa using hx))
        rw [hu]
        obtain ⟨v', hv', hu'⟩ := Option.bind_eq_some_iff.1 hu
        exact AV.toV_rel hu' (eval_rel hv' r)
    · cases h
  · cases h

/-- What an operation that calls nothing comes to. -/
def OpOk (P : Program) (B : Nat) (π : Inj) (lm : List Nat) (s : St) (w : World) (o : Oper) (a : Act) (v : AV) (s' : St) : Prop :=
  ∃ nx c w' π', (execOp a.eval o).run P w = .ok nx w' ∧ (nx = .value c ∨ (nx = .skip ∧ c = undef)) ∧ VR π' lm v c ∧ WR B π' lm s' w' ∧ Tr π π' lm lm s s' w w'

theorem OpOk.still {o : Oper} {v : AV} {c : Value} (hw : WR B π lm s w) (hr : (execOp a.eval o).run P w = .ok (.value c) w) (hv : VR π lm v c) : OpOk P B π lm s w o a v s :=
  ⟨_, c, w, π, hr, .inl rfl, hv, hw, Tr.refl _ _ _ hw.dom⟩

theorem op_pure {o : Oper} {v : AV} (hw : WR B π lm s w) (h : pureOp P ts o = some v) (r : LR π lm ts a.tmps.toList) : OpOk P B π lm s w o a v s := by
  obtain ⟨c, h1, h2⟩ := pureOp_rel h r w
  exact .still hw h1 h2

theorem intBin_rel {op : BinOp} {k : IntKind} {x y : Int} {v : AV} (h : intBin op k x y = some v) (t : TypeId) (w : World) :
    ∃ c, (binOp op t (.int k x) (.int k y)).run P w = .ok c w ∧ VR π lm v c := by
  cases op <;> simp only [intBin, Option.some.injEq, reduceCtorEq] at h <;>
    first
    | (subst h; exact ⟨_, by simp [binOp, Op.intArith, Op.intCmp]; rfl, by constructor⟩)
    | (split at h
       · cases h
       · rename_i hne
         simp only [Option.some.injEq] at h
         subst h
         exact ⟨_, by simp [binOp, Op.intDiv, hne]; rfl, by constructor⟩)

theorem eqGuard_int (op : BinOp) (t : TypeId) (x y : Operand) (k k' : IntKind) (m n : Int) (w : World) : (eqGuard op t x y (.int k m) (.int k' n)).run P w = .ok () w := by
  unfold eqGuard
  simp only [Sem.run_ite]
  split <;> simp

theorem op_bin {o : Oper} {op : BinOp} {xt yt : TypeId} {x y : Operand} {v : AV} (ho : o.op = .binOp op xt x y yt) (hw : WR B π lm s w) (h : binA P ts o op x y = some v)
    (r : LR π lm ts a.tmps.toList) : OpOk P B π lm s w o a v s := by
  unfold binA at h
  split at h
  · rename_i k m k' n hx hy
    split at h
    · rename_i hk
      subst hk
      split at h
      · rename_i v' hv'
        simp at h; subst h
        have ex := eval_rel hx r
        have ey := eval_rel hy r
        generalize hcx : a.eval x = cx at ex
        generalize hcy : a.eval y = cy at ey
        cases ex; cases ey
        obtain ⟨c, h1, h2⟩ := intBin_rel (P := P) (π := π) (lm := lm) hv' xt w
        refine .still hw (c := c) ?_ h2
        simp [execOp, ho, hcx, hcy, eqGuard_int, h1]
      · exact op_pure hw h r
    · exact op_pure hw h r
  · exact op_pure hw h r

theorem symCmp_ok {op : BinOp} {l1 h1 l2 h2 x y : Int} {b : Bool} (h : symCmp op l1 h1 l2 h2 = some b) (a1 : l1 ≤ x) (a2 : x ≤ h1) (b1 : l2 ≤ y) (b2 : y ≤ h2) (k : IntKind) (X Y : Int) (e : Y - X = y - x) :
    intBin op k X Y = some (.bool b) := by
  cases op <;> simp only [symCmp, reduceCtorEq] at h <;> simp only [intBin, Option.some.injEq, AV.bool.injEq] <;> (repeat' split at h) <;>
    simp only [Option.some.injEq, reduceCtorEq] at h <;> subst h <;>
    simp only [beq_eq_false_iff_ne, bne_iff_ne, beq_iff_eq, bne_eq_false_iff_eq, decide_eq_true_eq, decide_eq_false_iff_not, ne_eq] <;> omega

theorem symBin_ok {op : BinOp} {x y v : AV} {cx cy : Value} (h : symBin op x y = some v) (hx : VR π lm x cx) (hy : VR π lm y cy) :
    ∃ k n m u, cx = .int k n ∧ cy = .int k m ∧ intBin op k n m = some u ∧ ∀ c, VR π lm u c → VR π lm v c := by
  unfold symBin at h
  split at h
  · rename_i k e1 l1 h1 k' e2 l2 h2 s1 s2
    split at h
    · rename_i hk
      subst hk
      obtain ⟨a0, a1, a2, rfl⟩ := symA_rel s1 hx
      obtain ⟨b0, b1, b2, rfl⟩ := symA_rel s2 hy
      split at h
      · rename_i so hso
        split at h
        · rename_i e l hh hop
          split at h
          · rename_i hkin
            simp only [Option.some.injEq] at h
            subst h
            obtain ⟨m0, m1, m2, m3⟩ := symOp_ok hop a0 a1 a2 b0 b1 b2
            have hne : (op = .quo ∨ op = .rem) → e2.eval ≠ 0 := fun ho => by
              rcases ho with rfl | rfl <;> simp only [sopOf, Option.some.injEq] at hso <;> subst hso <;> simp only [symOp] at hop <;> split at hop
              · cases hop
              · rename_i hr; simp only [rngOp] at hr; split at hr
                · omega
                · cases hr
              · cases hop
              · rename_i hr; simp only [rngOp] at hr; split at hr
                · omega
                · cases hr
            refine ⟨k, e1.eval, e2.eval, .int k e.eval, rfl, rfl, ?_, fun c hc => by cases hc; exact mkA_rel m0 m1 m2⟩
            have hw := kin_ok hkin m1 m2
            cases op <;> simp only [sopOf, Option.some.injEq, reduceCtorEq] at hso <;> subst hso <;> simp only [SOp.app] at m3 <;> simp only [intBin]
            · rw [← m3, hw]
            · rw [← m3, hw]
            · rw [← m3, hw]
            · rw [if_neg (hne (.inl rfl)), ← m3, hw]
            · rw [if_neg (hne (.inr rfl)), ← m3]
          · cases h
        · cases h
      · have fin : ∀ b, v = .bool b → intBin op k e1.eval e2.eval = some (.bool b) → ∃ k' n m u, Value.int k e1.eval = .int k' n ∧ Value.int k e2.eval = .int k' m ∧ intBin op k' n m = some u ∧ ∀ c, VR π lm u c → VR π lm v c := fun b hv hb =>
          ⟨k, e1.eval, e2.eval, .bool b, rfl, rfl, hb, fun c hc => by rw [hv]; exact hc⟩
        split at h
        · rename_i l hh he
          simp only [Option.map_eq_some_iff] at h
          obtain ⟨b, hb, rfl⟩ := h
          have := SX.less_ok b0 he
          exact fin b rfl (symCmp_ok hb (Int.le_refl _) (Int.le_refl _) this.1 this.2 k _ _ (by omega))
        · split at h
          · rename_i l hh he
            simp only [Option.map_eq_some_iff] at h
            obtain ⟨b, hb, rfl⟩ := h
            have := SX.less_ok a0 he
            exact fin b rfl (symCmp_ok hb this.1 this.2 (Int.le_refl _) (Int.le_refl _) k _ _ (by omega))
          · simp only [Option.map_eq_some_iff] at h
            obtain ⟨b, hb, rfl⟩ := h
            exact fin b rfl (symCmp_ok hb a1 a2 b1 b2 k _ _ rfl)
    · cases h
  · cases h

theorem symW_ok {op : BinOp} {x y v : AV} {cx cy : Value} (h : symW op x y = some v) (hx : VR π lm x cx) (hy : VR π lm y cy) :
    ∃ k n k' m c, cx = .int k n ∧ cy = .int k' m ∧ VR π lm v c ∧ ∀ (t : TypeId) (w : World), (binOp op t cx cy).run P w = .ok c w := by
  unfold symW at h
  split at h
  · rename_i k e1 l1 h1 k' e2 l2 h2 s1 s2
    obtain ⟨a0, a1, a2, rfl⟩ := symA_rel s1 hx
    obtain ⟨b0, b1, b2, rfl⟩ := symA_rel s2 hy
    have fin : ∀ lo hi, v = .sym k (.wop op k e1 e2) lo hi → lo ≤ wapp op k e1.eval e2.eval → wapp op k e1.eval e2.eval ≤ hi →
        (∀ (t : TypeId) (w : World), (binOp op t (.int k e1.eval) (.int k' e2.eval)).run P w = .ok (.int k (wapp op k e1.eval e2.eval)) w) →
        ∃ k0 n k1 m c, Value.int k e1.eval = .int k0 n ∧ Value.int k' e2.eval = .int k1 m ∧ VR π lm v c ∧ ∀ (t : TypeId) (w : World), (binOp op t (.int k e1.eval) (.int k' e2.eval)).run P w = .ok c w :=
      fun lo hi hv g1 g2 g3 => ⟨k, e1.eval, k', e2.eval, .int k (wapp op k e1.eval e2.eval), rfl, rfl, by rw [hv]; exact .sym (e := .wop op k e1 e2) ⟨a0, b0⟩ g1 g2, g3⟩
    have hr := wrap_rng k
    cases op <;> simp only [reduceCtorEq] at h
    case shr =>
      split at h
      · rename_i hc
        simp only [Option.some.injEq] at h
        have hp : (0 : Int) < 2 ^ min e2.eval.toNat k.bits := Int.pow_pos (by omega)
        refine fin 0 h1 h.symm ?_ ?_ (fun t w => ?_)
        · simp only [wapp]; rw [Int.fdiv_eq_ediv_of_nonneg _ (by omega)]; exact Int.ediv_nonneg (by omega) (by omega)
        · simp only [wapp]; rw [Int.fdiv_eq_ediv_of_nonneg _ (by omega)]
          exact Int.le_trans (Int.ediv_le_self _ (by omega)) a2
        · have h0 : ¬ e2.eval < 0 := by omega
          simp [binOp, Op.shift, wapp, h0]
      · cases h
    case shl =>
      split at h
      · rename_i hc
        simp only [Option.some.injEq] at h
        refine fin _ _ h.symm (hr _).1 (hr _).2 (fun t w => ?_)
        have h0 : ¬ e2.eval < 0 := by omega
        simp [binOp, Op.shift, wapp, h0]
      · cases h
    all_goals
      split at h
      · rename_i hk
        subst hk
        simp only [Option.some.injEq] at h
        exact fin _ _ h.symm (hr _).1 (hr _).2 (fun t w => by simp [binOp, Op.intArith, Op.intBits, wapp])
      · cases h
  · cases h

theorem cut_some' {l r : List AV} {off n : Nat} (h : cut l off n = some r) : off + n ≤ l.length ∧ r = (l.drop off).take n := by
  unfold cut at h
  split at h
  · rename_i hle; exact ⟨hle, (Option.some.inj h).symm⟩
  · cases h

theorem eqFs_ok : ∀ (d : Nat) {fs : List Field} {l m : List AV} {xs ys : Array Value} {b : Bool}, eqFs P d fs l m = some b → LR π lm l xs.toList → LR π lm m ys.toList →
    ∀ (dd : Nat) (w : World), d ≤ dd → (Op.eqFields dd xs ys fs).run P w = .ok b w
  | 0, _, _, _, _, _, _, h, _, _ => by simp [eqFs] at h
  | d + 1, [], _, _, _, _, _, h, _, _ => by
    intro dd w _
    simp only [eqFs, Option.some.injEq] at h
    subst h
    simp [Op.eqFields]
  | d + 1, f :: fs, l, m, xs, ys, b, h, hl, hm => by
    intro dd w hdd
    simp only [eqFs] at h
    split at h
    · cases h
    · rename_i hn
      have hn' : f.name ≠ "_" := by simpa using hn
      -- the first field
      have key : ∀ c, (match P.underlying f.type with
          | some (.int _) => match l[f.offset]?, m[f.offset]? with
            | some x, some y => match symBin .eql x y with
              | some (.bool b) => some b
              | _ => none
            | _, _ => none
          | some (.struct gs) => if P.stoodInHeld f.type then none else match sizeA P f.type with
            | some n => match cut l f.offset n, cut m f.offset n with
              | some l', some m' => eqFs P d gs.toList l' m'
              | _, _ => none
            | none => none
          | _ => none) = some c → ∃ u v, (part f.type xs f.offset).run P w = .ok u w ∧ (part f.type ys f.offset).run P w = .ok v w ∧ (Op.equalIn dd f.type u v).run P w = .ok c w := by
        intro c hc
        split at hc
        · rename_i k hk
          split at hc
          · rename_i x y hx hy
            split at hc
            · rename_i b' hb
              simp only [Option.some.injEq] at hc
              subst hc
              obtain ⟨cx, e1, r1⟩ := hl.get hx
              obtain ⟨cy, e2, r2⟩ := hm.get hy
              obtain ⟨k', n, m', u, rfl, rfl, e3, e4⟩ := symBin_ok hb r1 r2
              have hag : isAggA P f.type = some false := by simp [isAggA, hk]
              have ex : xs[f.offset]? = some (.int k' n) := by rw [← Array.getElem?_toList]; exact e1
              have ey : ys[f.offset]? = some (.int k' m') := by rw [← Array.getElem?_toList]; exact e2
              refine ⟨.int k' n, .int k' m', by simp [part, run_isAgg' hag, ex], by simp [part, run_isAgg' hag, ey], ?_⟩
              obtain ⟨dd', rfl⟩ : ∃ dd', dd = dd' + 1 := ⟨dd - 1, by omega⟩
              rw [run_equalIn_int w dd' f.type k' k n m' hk]
              simp only [intBin, Option.some.injEq] at e3
              subst e3
              have := e4 (.bool (n == m')) (.bool _)
              cases this
              rfl
            · cases hc
          · cases hc
        · rename_i gs hk
          split at hc
          · cases hc
          · rename_i hst
            split at hc
            · rename_i n hsz
              split at hc
              · rename_i l' m' hc1 hc2
                obtain ⟨g1, rfl⟩ := cut_some' hc1
                obtain ⟨g2, rfl⟩ := cut_some' hc2
                have hag : isAggA P f.type = some true := by simp [isAggA, hk]
                have q1 : LR π lm ((l.drop f.offset).take n) (xs.extract f.offset (f.offset + n)).toList := by
                  have := (hl.drop f.offset).take n
                  simpa [List.take_drop, Nat.add_comm] using this
                have q2 : LR π lm ((m.drop f.offset).take n) (ys.extract f.offset (f.offset + n)).toList := by
                  have := (hm.drop f.offset).take n
                  simpa [List.take_drop, Nat.add_comm] using this
                refine ⟨.agg (xs.extract f.offset (f.offset + n)), .agg (ys.extract f.offset (f.offset + n)), by simp [part, run_isAgg' hag, run_sizeOf' hsz], by simp [part, run_isAgg' hag, run_sizeOf' hsz], ?_⟩
                obtain ⟨dd', rfl⟩ : ∃ dd', dd = dd' + 1 := ⟨dd - 1, by omega⟩
                have hfo : P.fieldsOf f.type = gs := by simp [Program.fieldsOf, hk]
                rw [run_equalIn_agg w dd' f.type _ _ (by rw [hfo]; exact hk) (by simpa using hst), hfo]
                exact eqFs_ok d hc q1 q2 dd' w (by omega)
              · cases hc
            · cases hc
        · cases hc
      split at h
      · rename_i hc
        obtain ⟨u, v, p1, p2, p3⟩ := key true hc
        have := eqFs_ok d h hl hm dd w (by omega)
        simp only [Op.eqFields, hn', ne_eq, not_false_eq_true, if_true, Sem.run_bind, p1, p2, p3, Result.andThen_ok, Bool.not_true, Bool.false_eq_true, if_false, this]
      · rename_i hne
        cases b with
        | true => exact absurd h hne
        | false =>
          obtain ⟨u, v, p1, p2, p3⟩ := key false h
          simp only [Op.eqFields, hn', ne_eq, not_false_eq_true, if_true, Sem.run_bind, p1, p2, p3, Result.andThen_ok, Bool.not_false, Sem.run_pure]

theorem eqAgg_ok {t : TypeId} {l m : List AV} {xs ys : Array Value} {b : Bool} (h : eqAgg P t l m = some b) (hl : LR π lm l xs.toList) (hm : LR π lm m ys.toList) (w : World) :
    P.eqGuardType P.depth t = false ∧ (Op.equalIn 10000 t (.agg xs) (.agg ys)).run P w = .ok b w := by
  unfold eqAgg at h
  split at h
  · rename_i fs hk
    split at h
    · cases h
    · rename_i hc
      simp only [Bool.or_eq_true, not_or, Bool.not_eq_true] at hc
      refine ⟨hc.2, ?_⟩
      have hfo : P.fieldsOf t = fs := by simp [Program.fieldsOf, hk]
      rw [show (10000 : Nat) = 9999 + 1 from rfl, run_equalIn_agg w 9999 t _ _ (by rw [hfo]; exact hk) hc.1, hfo]
      exact eqFs_ok 100 h hl hm 9999 w (by omega)
  · cases h

theorem op_binS {o : Oper} {op : BinOp} {xt yt : TypeId} {x y : Operand} {v : AV} (ho : o.op = .binOp op xt x y yt) (hw : WR B π lm s w) (h : binS P ts o op x y = some v)
    (r : LR π lm ts a.tmps.toList) : OpOk P B π lm s w o a v s := by
  unfold binS at h
  split at h
  · rename_i hb
    simp only [Option.some.injEq] at h; subst h
    exact op_bin ho hw hb r
  · split at h
    · rename_i u v' hx hy
      unfold symBinT at h
      split at h
      · rename_i rr hs
        simp only [Option.some.injEq] at h; subst h
        obtain ⟨k, n, m, u', e1, e2, e3, e4⟩ := symBin_ok hs (eval_rel hx r) (eval_rel hy r)
        obtain ⟨c, h1, h2⟩ := intBin_rel (P := P) (π := π) (lm := lm) e3 xt w
        refine .still hw (c := c) ?_ (e4 c h2)
        simp [execOp, ho, e1, e2, eqGuard_int, h1]
      · split at h
        · rename_i rr hs
          simp only [Option.some.injEq] at h; subst h
          obtain ⟨k, n, k', m, c, e1, e2, e3, e4⟩ := symW_ok (P := P) hs (eval_rel hx r) (eval_rel hy r)
          refine .still hw (c := c) ?_ e3
          have e5 := e4 xt w
          rw [e1, e2] at e5
          simp [execOp, ho, e1, e2, eqGuard_int, e5]
        · split at h
          · rename_i l m op' xt' x' y' yt' ho' hns hns2
            rw [ho] at ho'
            cases ho'
            have rx := eval_rel hx r
            have ry := eval_rel hy r
            generalize hcx : a.eval x = cx at rx
            generalize hcy : a.eval y = cy at ry
            cases rx with
            | agg s1 r1 =>
            cases ry with
            | agg s2 r2 =>
            rename_i xs ys
            split at h
            · simp only [Option.map_eq_some_iff] at h
              obtain ⟨b, hb, rfl⟩ := h
              obtain ⟨g1, g2⟩ := eqAgg_ok hb ⟨s1, r1⟩ ⟨s2, r2⟩ w
              refine .still hw (c := .bool b) ?_ (.bool b)
              have ex : a.eval x = .agg xs := by assumption
              simp [execOp, ho, ex, hcy, run_eqGuard_agg, g1, run_eql_struct, g2]
            · simp only [Option.map_eq_some_iff] at h
              obtain ⟨b, hb, rfl⟩ := h
              obtain ⟨g1, g2⟩ := eqAgg_ok hb ⟨s1, r1⟩ ⟨s2, r2⟩ w
              refine .still hw (c := .bool (!b)) ?_ (.bool _)
              have ex : a.eval x = .agg xs := by assumption
              simp [execOp, ho, ex, hcy, run_eqGuard_agg, g1, run_neq_struct, g2]
            · cases h
          · cases h
    · cases h

theorem op_unS {o : Oper} {op : UnOp} {t : TypeId} {x : Operand} {v : AV} (ho : o.op = .unOp op t x) (hw : WR B π lm s w) (h : unS P ts o op x = some v)
    (r : LR π lm ts a.tmps.toList) : OpOk P B π lm s w o a v s := by
  unfold unS at h
  split at h
  · rename_i hb
    simp only [Option.some.injEq] at h; subst h
    exact op_pure hw hb r
  · split at h
    · rename_i u hx
      unfold symNeg at h
      split at h
      · rename_i k e lo hi
        split at h
        · rename_i hk
          simp only [Option.some.injEq] at h; subst h
          have hv := eval_rel hx r
          obtain ⟨a0, a1, a2, e1⟩ := symA_rel (v := .sym k e lo hi) rfl hv
          have hev : (SX.bin .sub (.lit 0) e).eval = 0 - e.eval := rfl
          have hw1 : k.wrap (-e.eval) = -e.eval := kin_ok hk (by omega) (by omega)
          refine .still hw (c := .int k (SX.bin .sub (.lit 0) e).eval) ?_ (mkA_rel ⟨trivial, a0⟩ (by omega) (by omega))
          simp [execOp, ho, e1, Op.unary, Op.intArith, hev, hw1]
        · cases h
      · cases h
    · cases h

theorem op_convS {o : Oper} {src dst : TypeId} {x : Operand} {v : AV} (ho : o.op = .convert src dst x) (hw : WR B π lm s w) (h : convS P ts o src dst x = some v)
    (r : LR π lm ts a.tmps.toList) : OpOk P B π lm s w o a v s := by
  unfold convS at h
  split at h
  · rename_i hb
    simp only [Option.some.injEq] at h; subst h
    exact op_pure hw hb r
  · split at h
    · rename_i u hx
      unfold symConv at h
      split at h
      · rename_i us k k' e l hh h1 h2 h3
        split at h
        · rename_i hk
          simp only [Option.some.injEq] at h; subst h
          obtain ⟨a0, a1, a2, e1⟩ := symA_rel h3 (eval_rel hx r)
          refine .still hw (c := .int k e.eval) ?_ (mkA_rel a0 a1 a2)
          simp [execOp, ho, convert, run_underlying h1, run_underlying h2, e1, Conv.intToInt, kin_ok hk a1 a2]
        · unfold symCv at h
          rw [h3] at h
          simp only [Option.some.injEq] at h; subst h
          obtain ⟨a0, a1, a2, e1⟩ := symA_rel h3 (eval_rel hx r)
          have g := wrap_rng k e.eval
          have e2 : (SX.wop BinOp.add k e (.lit 0)).eval = k.wrap e.eval := by simp [SX.eval, wapp]
          refine .still hw (c := .int k (SX.wop BinOp.add k e (.lit 0)).eval) ?_ (.sym (e := .wop .add k e (.lit 0)) ⟨a0, trivial⟩ (by rw [e2]; exact g.1) (by rw [e2]; exact g.2))
          rw [e2]
          simp [execOp, ho, convert, run_underlying h1, run_underlying h2, e1, Conv.intToInt]
      · cases h
    · cases h

end Go.Ev
