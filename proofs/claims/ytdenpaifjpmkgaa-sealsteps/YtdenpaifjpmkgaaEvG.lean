/- Operations that read and write memory, or make it. -/
import Derived.Test.YtdenpaifjpmkgaaEvF
namespace Go.Ev
open Go.RowKit (Below)
set_option linter.unusedSectionVars false
variable [Rho]

variable {P : Program} {B : Nat} {π : Inj} {lm : List Nat} {s : St} {w : World} {ts : List AV} {a : Act}

theorem cut_some {l r : List AV} {off n : Nat} (h : cut l off n = some r) : off + n ≤ l.length ∧ r = (l.drop off).take n := by
  unfold cut at h
  split at h
  · rename_i hle; exact ⟨hle, (Option.some.inj h).symm⟩
  · cases h

theorem VR.ptr_inv {b off : Nat} {c : Value} (h : VR π lm (.ptr b off) c) : ∃ b' n, π b = some (b', n) ∧ c = .pointer (some ⟨b', off, none⟩) := by
  cases h with
  | ptr h => exact ⟨_, _, h, rfl⟩

theorem VR.int_inv {k : IntKind} {n : Int} {c : Value} (h : VR π lm (.int k n) c) : c = .int k n := by cases h; rfl
theorem VR.bool_inv {b : Bool} {c : Value} (h : VR π lm (.bool b) c) : c = .bool b := by cases h; rfl

theorem VR.agg' {l : List AV} {c : Array Value} (h : LR π lm l c.toList) : VR π lm (.agg l) (.agg c) := .agg h.1 h.2
theorem VR.tup' {l : List AV} {c : Array Value} (h : LR π lm l c.toList) : VR π lm (.tup l) (.tuple c) := .tup h.1 h.2
theorem VR.fn' (f : FuncId) {l1 l2 : List AV} {c1 c2 : Array Value} (h1 : LR π lm l1 c1.toList) (h2 : LR π lm l2 c2.toList) : VR π lm (.fn f l1 l2) (.func (.func f) c1 c2) := .fn f h1.1 h1.2 h2.1 h2.2

theorem drop_take_take {α : Type} {l : List α} {off n m : Nat} (h : off + n ≤ m) : ((l.take m).drop off).take n = (l.drop off).take n := by
  apply List.ext_getElem?
  intro j
  simp only [List.getElem?_take, List.getElem?_drop]
  by_cases hj : j < n
  · rw [if_pos hj, if_pos hj, if_pos (by omega)]
  · rw [if_neg hj, if_neg hj]

theorem load_rel {t : TypeId} {b off : Nat} {v : AV} (hw : WR B π lm s w) (h : loadA P s t b off = some v) {b' n : Nat} (hp : π b = some (b', n)) :
    ∃ c, (loadVar t ⟨b', off, none⟩).run P w = .ok c w ∧ VR π lm v c := by
  unfold loadA at h
  split at h
  · cases h
  · rename_i A hA
    rw [blockAt_some] at hA
    obtain ⟨c, fz, hc, hsz, _, hl⟩ := hw.at hA hp
    have hAc : A.cells.length ≤ c.size := by have := hl.1; simp at this; omega
    split at h
    · rename_i ha
      split at h
      · rename_i k hk
        simp only [Option.map_eq_some_iff] at h
        obtain ⟨r, hr, rfl⟩ := h
        obtain ⟨hle, rfl⟩ := cut_some hr
        refine ⟨.agg ((c.toList.drop off).take k).toArray, ?_, ?_⟩
        · simp [loadVar, run_isAgg' ha, run_sizeOf' hk, run_loadCells hc (show off + k ≤ c.size by omega)]
        · have := (hl.drop off).take k
          rw [drop_take_take hle] at this
          exact .agg' this
      · cases h
    · rename_i ha
      split at h
      · rename_i v' hr
        obtain ⟨hle, he⟩ := cut_some hr
        simp at h; subst h
        have hlt : off < c.size := by omega
        have hv : A.cells[off]? = some v' := by
          have : (A.cells.drop off).take 1 = [A.cells[off]'(by omega)] := by
            rw [List.drop_eq_getElem_cons (by omega), List.take_succ_cons, List.take_zero]
          rw [this] at he
          simp at he
          rw [List.getElem?_eq_getElem (by omega), he]
        obtain ⟨u, hu, hvu⟩ := hl.get hv
        rw [List.getElem?_take_of_lt (by omega)] at hu
        refine ⟨u, ?_, hvu⟩
        simp only [loadVar, Sem.run_bind, run_isAgg' ha, Result.andThen_ok]
        rw [if_neg (by simp)]
        rw [run_load, cell_of hc]
        rw [Array.getElem?_toList] at hu
        rw [hu]
      · cases h
    · cases h

theorem op_load {o : Oper} {t : TypeId} {x : Operand} {b off : Nat} {v : AV} (ho : o.op = .load t x) (hw : WR B π lm s w) (hx : eval ts x = some (.ptr b off)) (h : loadA P s t b off = some v)
    (r : LR π lm ts a.tmps.toList) : OpOk P B π lm s w o a v s := by
  obtain ⟨b', n, hp, hc⟩ := VR.ptr_inv (eval_rel hx r)
  obtain ⟨c, h1, h2⟩ := load_rel hw h hp
  refine .still hw (c := c) ?_ h2
  simp [execOp, ho, Instr.loadAt, hc, Instr.sureAddr, h1]

theorem storeCells_rel {b off : Nat} {avs : List AV} {vs : List Value} {s' : St} (hw : WR B π lm s w) (h : storeCellsA s b off avs = some s') (hv : LR π lm avs vs) {b' n : Nat} (hp : π b = some (b', n)) :
    ∃ w', (storeCells ⟨b', off, none⟩ vs).run P w = .ok () w' ∧ WR B π lm s' w' ∧ Tr π π lm lm s s' w w' := by
  unfold storeCellsA at h
  split at h
  · cases h
  · rename_i A hA
    rw [blockAt_some] at hA
    split at h
    · cases h
    · rename_i hro
      simp only [Bool.or_eq_true, Bool.not_eq_true', not_or, Bool.not_eq_true, Bool.not_eq_false] at hro
      split at h
      · rename_i cs hcs
        simp at h; subst h
        obtain ⟨c, fz, hc, hsz, hrw, hl⟩ := hw.at hA hp
        obtain ⟨rfl, hB⟩ := hrw hro.1
        have hAc : A.cells.length ≤ c.size := by have := hl.1; simp at this; omega
        have hle := (paste_some hcs).1
        have hlen := hv.1
        obtain ⟨k1, k2⟩ := hw.store hA hro.1 hp hc hv hcs
        exact ⟨_, by
          have := run_storeCells (P := P) (e := A.elem) (b := b') (off := off) vs 0 w c (all_one hro.2 hv) hc (by omega)
          simpa using this, k1, k2⟩
      · cases h

theorem op_store {o : Oper} {t : TypeId} {x y : Operand} {b off n : Nat} {v : AV} {s' : St} (ho : o.op = .store t x y) (hw : WR B π lm s w) (hx : eval ts x = some (.ptr b off)) (hy : eval ts y = some v)
    (hn : sizeA P t = some n) (hl : v.cells.length = n) (h : storeCellsA s b off v.cells = some s') (r : LR π lm ts a.tmps.toList) : OpOk P B π lm s w o a undefA s' := by
  obtain ⟨b', m, hp, hc⟩ := VR.ptr_inv (eval_rel hx r)
  have hv := (eval_rel hy r).cells
  obtain ⟨w', h1, h2, h3⟩ := storeCells_rel (P := P) hw h hv hp
  refine ⟨.skip, undef, w', π, ?_, .inr ⟨rfl, rfl⟩, .undef, h2, h3⟩
  have hs : (a.eval y).cells.size = n := by have := hv.1; simp at this; omega
  simp [execOp, ho, Instr.storeAt, hc, Instr.sureAddr, storeVar, run_sizeOf' hn, hs, h1]

theorem zero_rel {t : TypeId} {z : AV} (h : zeroA P t = some z) (w : World) : ∃ u, (zeroValue t).run P w = .ok u w ∧ VR π lm z u := by
  unfold zeroA at h
  split at h
  · rename_i i hi
    split at h
    · rename_i v hv
      exact ⟨v, by simp [zeroValue, run_typeInfo' hi, hv], ofV_rel h⟩
    · cases h
  · cases h

theorem LR.take_self {l : List AV} {c : Array Value} (h : LR π lm l c.toList) : LR π lm l (c.toList.take l.length) := by
  rw [List.take_of_length_le (by have := h.1; omega)]; exact h

theorem newVar_rel {t : TypeId} {v : AV} {c : Value} (hw : WR B π lm s w) (hB : B ≤ w.heap.size) (hv : VR π lm v c) :
    ∃ w' π', (newVar t c).run P w = .ok ⟨w.heap.size, 0, none⟩ w' ∧ (∃ n, π' s.heap.length = some (w.heap.size, n)) ∧ WR B π' lm (newBlk s t v.cells) w' ∧ Tr π π' lm lm s (newBlk s t v.cells) w w' := by
  obtain ⟨k1, k2⟩ := hw.new hB t (cs := v.cells) (c := c.cells) hv.cells.take_self
  refine ⟨_, _, ?_, ⟨c.cells.size, ?_⟩, k1, k2⟩
  · simp [newVar, newRow]
  · simp [Inj.more]

theorem op_box {o : Oper} {t : TypeId} {x : Operand} {v : AV} (ho : o.op = .box t x) (hw : WR B π lm s w) (hB : B ≤ w.heap.size) (hx : eval ts x = some v)
    (r : LR π lm ts a.tmps.toList) : OpOk P B π lm s w o a (.ptr s.heap.length 0) (newBlk s t v.cells) := by
  obtain ⟨w', π', h1, ⟨n, h2⟩, h3, h4⟩ := newVar_rel (P := P) (t := t) hw hB (eval_rel hx r)
  refine ⟨_, .pointer (some ⟨w.heap.size, 0, none⟩), w', π', ?_, .inl rfl, .ptr h2, h3, h4⟩
  simp [execOp, ho, Instr.box, h1]

theorem op_alloc {o : Oper} {t : TypeId} {z : AV} (ho : o.op = .alloc t) (hw : WR B π lm s w) (hB : B ≤ w.heap.size) (hz : zeroA P t = some z) :
    OpOk P B π lm s w o a (.ptr s.heap.length 0) (newBlk s t z.cells) := by
  obtain ⟨u, hu, hv⟩ := zero_rel (π := π) (lm := lm) hz w
  obtain ⟨w', π', h1, ⟨n, h2⟩, h3, h4⟩ := newVar_rel (P := P) (t := t) hw hB hv
  refine ⟨_, .pointer (some ⟨w.heap.size, 0, none⟩), w', π', ?_, .inl rfl, .ptr h2, h3, h4⟩
  simp [execOp, ho, Instr.alloc, hu, h1]

theorem op_fieldAddr {o : Oper} {t : TypeId} {x : Operand} {f b off n : Nat} {fs : Array Field} {fd : Field} (ho : o.op = .fieldAddr t x f) (hw : WR B π lm s w) (hx : eval ts x = some (.ptr b off))
    (hu : P.underlying t = some (.struct fs)) (hf : fs.toList[f]? = some fd) (hn : sizeA P fd.type = some n) (h0 : n ≠ 0) (r : LR π lm ts a.tmps.toList) :
    OpOk P B π lm s w o a (.ptr b (off + fd.offset)) s := by
  obtain ⟨b', m, hp, hc⟩ := VR.ptr_inv (eval_rel hx r)
  refine .still hw (c := .pointer (some ⟨b', off + fd.offset, none⟩)) ?_ (.ptr hp)
  rw [Array.getElem?_toList] at hf
  simp [execOp, ho, Instr.fieldAt, run_underlying hu, hf, hc, Instr.sureAddr, fieldPlace, run_sizeOf' hn, h0, addr_add]

theorem op_nilCheck {o : Oper} {x : Operand} {b off : Nat} (ho : o.op = .nilCheck x) (hw : WR B π lm s w) (hx : eval ts x = some (.ptr b off)) (r : LR π lm ts a.tmps.toList) :
    OpOk P B π lm s w o a (.ptr b off) s := by
  obtain ⟨b', m, hp, hc⟩ := VR.ptr_inv (eval_rel hx r)
  refine .still hw (c := .pointer (some ⟨b', off, none⟩)) ?_ (.ptr hp)
  simp [execOp, ho, hc]

theorem op_indexArr {o : Oper} {t e : TypeId} {x i : Operand} {b off len es : Nat} {k : IntKind} {n : Int} (ho : o.op = .indexAddr t x i) (hw : WR B π lm s w) (hx : eval ts x = some (.ptr b off))
    (hi : eval ts i = some (.int k n)) (hu : P.underlying t = some (.array len e)) (hn : sizeA P e = some es) (hr : 0 ≤ n ∧ n < (len : Int)) (r : LR π lm ts a.tmps.toList) :
    OpOk P B π lm s w o a (.ptr b (off + n.toNat * es)) s := by
  obtain ⟨b', m, hp, hc⟩ := VR.ptr_inv (eval_rel hx r)
  have hc2 := (eval_rel hi r).int_inv
  refine .still hw (c := .pointer (some ⟨b', off + n.toNat * es, none⟩)) ?_ (.ptr hp)
  simp [execOp, ho, Instr.indexAt, hc2, asIntOf, run_underlying hu, hc, Instr.sureAddr, hr.1, hr.2, run_sizeOf' hn, addr_add]

theorem VR.slice_inv {b off len cap es : Nat} {ex : Bool} {c : Value} (h : VR π lm (.slice b off len cap ex es) c) :
    ∃ b' n cap', π b = some (b', n) ∧ c = .slice (some ⟨b', off, none⟩) len cap' ∧ ((ex = true ∧ cap' = cap) ∨ (ex = false ∧ cap ≤ cap' ∧ off + cap' * es = n)) := by
  cases h with
  | sliceEx h => exact ⟨_, _, _, h, rfl, .inl ⟨rfl, rfl⟩⟩
  | sliceIn h hc hn => exact ⟨_, _, _, h, rfl, .inr ⟨rfl, hc, hn⟩⟩

theorem op_indexSl {o : Oper} {t e : TypeId} {x i : Operand} {b off len cap es es' : Nat} {ex : Bool} {k : IntKind} {n : Int} (ho : o.op = .indexAddr t x i) (hw : WR B π lm s w)
    (hx : eval ts x = some (.slice b off len cap ex es')) (hi : eval ts i = some (.int k n)) (hu : P.underlying t = some (.slice e)) (hn : sizeA P e = some es) (hr : 0 ≤ n ∧ n < (len : Int))
    (r : LR π lm ts a.tmps.toList) : OpOk P B π lm s w o a (.ptr b (off + n.toNat * es)) s := by
  obtain ⟨b', m, cap', hp, hc, _⟩ := VR.slice_inv (eval_rel hx r)
  have hc2 := (eval_rel hi r).int_inv
  refine .still hw (c := .pointer (some ⟨b', off + n.toNat * es, none⟩)) ?_ (.ptr hp)
  simp [execOp, ho, Instr.indexAt, hc2, asIntOf, run_underlying hu, hc, hr.1, hr.2, run_sizeOf' hn, addr_add]

theorem op_makeFunc {o : Oper} {f : FuncId} {x1 x2 : Array Operand} {l1 l2 : List AV} (ho : o.op = .makeFunc (.func f) x1 x2) (hw : WR B π lm s w) (h1 : evals ts x1.toList = some l1) (h2 : evals ts x2.toList = some l2)
    (r : LR π lm ts a.tmps.toList) : OpOk P B π lm s w o a (.fn f l1 l2) s := by
  have e1 := evals_rel h1 r
  have e2 := evals_rel h2 r
  refine .still hw (c := .func (.func f) (x1.map a.eval) (x2.map a.eval)) (by simp [execOp, ho, Instr.makeFunc]) ?_
  exact .fn' f (by rw [Array.toList_map]; exact e1) (by rw [Array.toList_map]; exact e2)

theorem VR.tup_inv {l : List AV} {c : Value} (h : VR π lm (.tup l) c) : ∃ vs : Array Value, c = .tuple vs ∧ LR π lm l vs.toList := by
  cases h with
  | tup s h => exact ⟨_, rfl, s, h⟩

theorem op_extract {o : Oper} {x : Operand} {i : Nat} {l : List AV} {v : AV} (ho : o.op = .extract x i) (hw : WR B π lm s w) (hx : eval ts x = some (.tup l)) (hv : l[i]? = some v)
    (r : LR π lm ts a.tmps.toList) : OpOk P B π lm s w o a v s := by
  obtain ⟨vs, hc, hl⟩ := VR.tup_inv (eval_rel hx r)
  obtain ⟨u, hu, hvu⟩ := hl.get hv
  rw [Array.getElem?_toList] at hu
  refine .still hw (c := u) ?_ hvu
  simp [execOp, ho, Instr.extract, hc, hu]

end Go.Ev
