/- Structs, slices, new rows. -/
import Derived.Test.YtdenpaifjpmkgaaEvG
namespace Go.Ev
open Go.RowKit (Below)
set_option linter.unusedSectionVars false
variable [Rho]

variable {P : Program} {B : Nat} {π : Inj} {lm : List Nat} {s : St} {w : World} {ts : List AV} {a : Act}

theorem foldl_paste (off : Nat) : ∀ (vs : List Value) (k : Nat) (c : Array Value), off + k + vs.length ≤ c.size →
    (vs.zipIdx k).foldl (fun cs (x : Value × Nat) => cs.setIfInBounds (off + x.2) x.1) c = pasteV c (off + k) vs := by
  intro vs
  induction vs with
  | nil => intro k c _; simp [pasteV]
  | cons v vs ih =>
    intro k c h
    simp only [List.length_cons] at h
    simp only [List.zipIdx_cons, List.foldl_cons]
    rw [ih (k + 1) _ (by simp; omega), show off + (k + 1) = off + k + 1 from by omega, pasteV_step (by omega)]

theorem fill_rel {place : Nat → Option (Nat × Nat)} : ∀ {ps : List (Nat × AV)} {qs : List (Nat × Value)} {l : List AV} {c : Array Value} {r : List AV}, LR π lm l c.toList →
    ps.map (·.1) = qs.map (·.1) → LR π lm (ps.map (·.2)) (qs.map (·.2)) → fillA place l ps = some r → ∃ d, Instr.fill place c qs = some d ∧ LR π lm r d.toList := by
  intro ps
  induction ps with
  | nil =>
    intro qs l c r hl h1 _ h
    simp at h1
    subst h1
    simp [fillA] at h
    subst h
    exact ⟨c, rfl, hl⟩
  | cons p ps ih =>
    intro qs l c r hl h1 h2 h
    obtain ⟨i, v⟩ := p
    cases qs with
    | nil => simp at h1
    | cons q qs =>
      obtain ⟨j, u⟩ := q
      simp only [List.map_cons, List.cons.injEq] at h1
      obtain ⟨rfl, h1⟩ := h1
      obtain ⟨u', us, he, hu, hus⟩ := h2.uncons
      simp only [List.map_cons, List.cons.injEq] at he
      obtain ⟨rfl, rfl⟩ := he
      simp only [fillA] at h
      split at h
      · cases h
      · rename_i off size hp
        split at h
        · rename_i hsz
          split at h
          · rename_i cs hcs
            obtain ⟨hle, he, hlen⟩ := paste_some hcs
            have hcu := hu.cells
            have e1 : u.cells.size = size := by have := hcu.1; simp at this; omega
            have e2 : l.length = c.size := by have := hl.1; simpa using this
            have e3 : v.cells.length = u.cells.toList.length := hcu.1
            have hlr : LR π lm cs (pasteV c off u.cells.toList).toList := by
              rw [he]
              simp only [pasteV]
              rw [e3]
              exact (hl.take off).append (hcu.append (hl.drop _))
            obtain ⟨d, hd, hr⟩ := ih hlr h1 hus h
            refine ⟨d, ?_, hr⟩
            simp only [Instr.fill, hp]
            rw [if_neg (by simp [e1]; simp at e3; omega)]
            have hf := foldl_paste off u.cells.toList 0 c (by simp at e3; simp; omega)
            rw [← hd]
            congr 1
            rw [← Array.foldl_toList, Array.toList_zipIdx]
            simpa using hf
          · cases h
        · cases h

theorem evalParts_rel {xs : List (Nat × Operand)} {ps : List (Nat × AV)} (h : evalParts ts xs = some ps) (r : LR π lm ts a.tmps.toList) :
    ps.map (·.1) = xs.map (·.1) ∧ LR π lm (ps.map (·.2)) (xs.map fun x => a.eval x.2) := by
  induction xs generalizing ps with
  | nil => simp [evalParts] at h; subst h; exact ⟨rfl, .nil⟩
  | cons x xs ih =>
    obtain ⟨i, x⟩ := x
    simp only [evalParts] at h
    split at h
    · rename_i v vs hv hvs
      simp at h; subst h
      obtain ⟨h1, h2⟩ := ih hvs
      exact ⟨by simp [h1], LR.cons (eval_rel hv r) h2⟩
    · cases h

theorem run_mapM_list {α β : Type} {P : Program} {w : World} {g : α → Sem β} {f : α → β} : ∀ (l : List α), (∀ x ∈ l, (g x).run P w = .ok (f x) w) → (l.mapM g).run P w = .ok (l.map f) w := by
  intro l
  induction l with
  | nil => intro _; simp
  | cons x l ih =>
    intro h
    simp [List.mapM_cons, h x (by simp), ih (fun y hy => h y (by simp [hy]))]

theorem run_mapM_arr {α β : Type} {P : Program} {w : World} {g : α → Sem β} {f : α → β} (c : Array α) (h : ∀ x ∈ c.toList, (g x).run P w = .ok (f x) w) : (c.mapM g).run P w = .ok (c.map f) w := by
  rw [Array.mapM_eq_mapM_toList]
  simp only [Sem.run_map, run_mapM_list c.toList h, Result.andThen_ok]
  rw [← Array.toList_map, Array.toArray_toList]

theorem op_build {o : Oper} {t : TypeId} {xs : Array (Nat × Operand)} {ps : List (Nat × AV)} {v : AV} (ho : o.op = .build t xs) (hw : WR B π lm s w) (hx : evalParts ts xs.toList = some ps)
    (h : buildA P t ps = some v) (r : LR π lm ts a.tmps.toList) : OpOk P B π lm s w o a v s := by
  obtain ⟨e1, e2⟩ := evalParts_rel hx r
  have hq1 : ps.map (·.1) = ((xs.map fun (x : Nat × Operand) => (x.1, a.eval x.2)).toList).map (·.1) := by rw [e1]; simp
  have hq2 : LR π lm (ps.map (·.2)) (((xs.map fun (x : Nat × Operand) => (x.1, a.eval x.2)).toList).map (·.2)) := by
    have : ((xs.map fun (x : Nat × Operand) => (x.1, a.eval x.2)).toList).map (·.2) = xs.toList.map fun x => a.eval x.2 := by simp
    rw [this]; exact e2
  unfold buildA at h
  split at h
  · cases h
  · rename_i z hz
    obtain ⟨u, hu, hv⟩ := zero_rel (π := π) (lm := lm) hz w
    split at h
    · rename_i fs hfs
      split at h
      · rename_i hall
        simp only [Option.map_eq_some_iff] at h
        obtain ⟨cs, hcs, rfl⟩ := h
        have hplace : fieldSize P fs = (((fs.map fun f => (f.offset, (sizeA P f.type).getD 0)) : Array (Nat × Nat))[·]?) := by
          funext i
          simp only [fieldSize, Array.getElem?_map, Array.getElem?_toList]
          cases hfi : fs[i]? with
          | none => simp
          | some f =>
            have hm : f ∈ fs.toList := by
              rw [← Array.getElem?_toList] at hfi
              exact List.mem_of_getElem? hfi
            obtain ⟨n, hn⟩ := Option.isSome_iff_exists.1 (List.all_eq_true.1 hall f hm)
            simp [hn]
        rw [hplace] at hcs
        obtain ⟨d, hd, hdr⟩ := fill_rel hv.cells hq1 hq2 hcs
        refine .still hw (c := .agg d) ?_ (.agg' hdr)
        have hm : ((fs.mapM fun f => do pure (f.offset, ← sizeOf f.type)) : Sem (Array (Nat × Nat))).run P w = .ok (fs.map fun f => (f.offset, (sizeA P f.type).getD 0)) w := by
          refine run_mapM_arr fs ?_
          intro f hf
          obtain ⟨n, hn⟩ := Option.isSome_iff_exists.1 (List.all_eq_true.1 hall f hf)
          simp [run_sizeOf' hn, hn]
        simp only [execOp, ho, Instr.build, Sem.run_bind, hu, Result.andThen_ok, run_underlying hfs, hm, hd]
        rfl
      · cases h
    · rename_i len e hfs
      split at h
      · rename_i n hn
        simp only [Option.map_eq_some_iff] at h
        obtain ⟨cs, hcs, rfl⟩ := h
        obtain ⟨d, hd, hdr⟩ := fill_rel hv.cells hq1 hq2 hcs
        refine .still hw (c := .agg d) ?_ (.agg' hdr)
        simp only [execOp, ho, Instr.build, Sem.run_bind, hu, Result.andThen_ok, run_underlying hfs, run_sizeOf' hn, hd]
        rfl
      · cases h
    · cases h

theorem rep_length {α : Type} (l : List α) (n : Nat) : (rep l n).length = n * l.length := by
  induction n with
  | zero => simp [rep]
  | succ n ih => simp [rep, ih, Nat.succ_mul]; omega

theorem rep_get {α : Type} (l : List α) : ∀ (n j : Nat), j < n * l.length → (rep l n)[j]? = l[j % l.length]?
  | 0, j, h => by simp at h
  | n + 1, j, h => by
    simp only [rep]
    by_cases hj : j < l.length
    · rw [List.getElem?_append_left hj, Nat.mod_eq_of_lt hj]
    · have h' : j - l.length < n * l.length := by rw [Nat.succ_mul] at h; omega
      rw [List.getElem?_append_right (by omega), rep_get l n _ h']
      congr 1
      conv => rhs; rw [show j = (j - l.length) + l.length from by omega]
      rw [Nat.add_mod_right]

theorem rep_rel {l : List AV} {vs : List Value} (h : LR π lm l vs) (n : Nat) : LR π lm (rep l n) (rep vs n) := by
  induction n with
  | zero => exact .nil
  | succ n ih => exact h.append ih

theorem zeros_eq (z : Array Value) (m : Nat) : ((Array.range (m * z.size)).map fun i => z[i % z.size]!).toList = rep z.toList m := by
  apply List.ext_getElem?
  intro j
  by_cases hj : j < m * z.size
  · rw [rep_get _ _ _ (by simpa using hj)]
    have hz : 0 < z.size := Nat.pos_of_ne_zero (fun e => by rw [e] at hj; omega)
    have hm : j % z.size < z.size := Nat.mod_lt _ hz
    rw [Array.getElem?_toList, Array.getElem?_map, Array.getElem?_range]
    simp [hj, hm]
  · rw [List.getElem?_eq_none (by simp; omega), List.getElem?_eq_none (by rw [rep_length]; simp; omega)]

theorem op_makeSlice {o : Oper} {t e : TypeId} {x y : Operand} {es bs : Nat} {z : AV} {k k' : IntKind} {n m : Int} (ho : o.op = .makeSlice t x y) (hw : WR B π lm s w) (hB : B ≤ w.heap.size)
    (hu : P.underlying t = some (.slice e)) (hn : sizeA P e = some es) (hb : bytesA P e = some bs) (hz : zeroA P e = some z) (hx : eval ts x = some (.int k n)) (hy : eval ts y = some (.int k' m))
    (h0 : 0 ≤ n) (h1 : n ≤ m) (h2 : m * bs ≤ 2 ^ 40) (h3 : m ≤ 2 ^ 40) (h4 : z.cells.length = es) (r : LR π lm ts a.tmps.toList) :
    OpOk P B π lm s w o a (.slice s.heap.length 0 n.toNat m.toNat true es) (newBlk s e (rep z.cells m.toNat)) := by
  obtain ⟨u, hzu, hv⟩ := zero_rel (π := π) (lm := lm) hz w
  have ex := (eval_rel hx r).int_inv
  have ey := (eval_rel hy r).int_inv
  have hcl := hv.cells
  have hsz : u.cells.size = es := by have := hcl.1; simp at this; omega
  simp only [bytesA, Option.map_eq_some_iff] at hb
  obtain ⟨i, hi, rfl⟩ := hb
  have wn : IntKind.i64.wrap n = n := IntWalk.i64_in _ (by omega)
  have wm : IntKind.i64.wrap m = m := IntWalk.i64_in _ (by omega)
  have hrow : LR π lm (rep z.cells m.toNat) (((Array.range (m.toNat * es)).map fun i => u.cells[i % u.cells.size]!).toList) := by
    rw [← hsz, zeros_eq]; exact rep_rel hcl _
  obtain ⟨k1, k2⟩ := hw.new hB e hrow.take_self
  refine ⟨_, .slice (some ⟨w.heap.size, 0, none⟩) n.toNat m.toNat, _, _, ?_, .inl rfl, .sliceEx (n := ((Array.range (m.toNat * es)).map fun i => u.cells[i % u.cells.size]!).size) (by simp [Inj.more]), k1, k2⟩
  have h5 : (i.bytes : Int) * m = m * i.bytes := Int.mul_comm _ _
  have hbig : ¬ ((i.bytes : Int) * m > 2 ^ 48) := by rw [h5]; omega
  have hm0 : ¬ m < 0 := by omega
  have hn0 : ¬ n < 0 := by omega
  have hnm : ¬ n > m := by omega
  simp only [execOp, ho, Instr.makeSlice, Sem.run_bind, run_underlying hu, Result.andThen_ok, ex, ey, asInt, asIntOf, run_typeInfo' hi, wn, wm, Sem.run_pure]
  simp only [hm0, hbig, hn0, hnm, decide_false, Bool.or_false, Bool.false_eq_true, if_false, Result.andThen_ok, newRow, Sem.run_bind, run_newObj, Sem.run_pure, run_askRoom, run_sizeOf' hn, Sem.run_ite]
  by_cases hz0 : m.toNat * es = 0
  · have h0 : Array.range 0 = #[] := rfl
    simp [hz0, h0]
  · simp [hz0, hzu]

end Go.Ev
