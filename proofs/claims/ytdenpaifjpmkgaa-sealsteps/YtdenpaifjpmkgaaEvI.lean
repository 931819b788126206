/- Slices: literals, cuts, len, append. -/
import Derived.Test.YtdenpaifjpmkgaaEvH
namespace Go.Ev
open Go.RowKit (Below)
set_option linter.unusedSectionVars false
variable [Rho]

variable {P : Program} {B : Nat} {π : Inj} {lm : List Nat} {s : St} {w : World} {ts : List AV} {a : Act}

theorem op_buildSlice {o : Oper} {t e : TypeId} {len es : Nat} {z : AV} {xs : Array (Nat × Operand)} {ps : List (Nat × AV)} {cs : List AV} (ho : o.op = .buildSlice t len xs) (hw : WR B π lm s w)
    (hB : B ≤ w.heap.size) (hu : P.underlying t = some (.slice e)) (hn : sizeA P e = some es) (hz : zeroA P e = some z) (hx : evalParts ts xs.toList = some ps) (h1 : ¬ len * es > 2 ^ 24)
    (h2 : z.cells.length = es) (h : fillA (fun i => some (i * es, es)) (rep z.cells len) ps = some cs) (r : LR π lm ts a.tmps.toList) :
    OpOk P B π lm s w o a (.slice s.heap.length 0 len len true es) (newBlk s e cs) := by
  obtain ⟨e1, e2⟩ := evalParts_rel hx r
  have hq1 : ps.map (·.1) = ((xs.map fun (x : Nat × Operand) => (x.1, a.eval x.2)).toList).map (·.1) := by rw [e1]; simp
  have hq2 : LR π lm (ps.map (·.2)) (((xs.map fun (x : Nat × Operand) => (x.1, a.eval x.2)).toList).map (·.2)) := by
    have : ((xs.map fun (x : Nat × Operand) => (x.1, a.eval x.2)).toList).map (·.2) = xs.toList.map fun x => a.eval x.2 := by simp
    rw [this]; exact e2
  obtain ⟨u, hzu, hv⟩ := zero_rel (π := π) (lm := lm) hz w
  have hcl := hv.cells
  have hsz : u.cells.size = es := by have := hcl.1; simp at this; omega
  have hrow : LR π lm (rep z.cells len) (((Array.range (len * es)).map fun i => u.cells[i % u.cells.size]!).toList) := by
    rw [← hsz, zeros_eq]; exact rep_rel hcl _
  obtain ⟨d, hd, hdr⟩ := fill_rel hrow hq1 hq2 h
  obtain ⟨k1, k2⟩ := hw.new hB e hdr.take_self
  refine ⟨_, .slice (some ⟨w.heap.size, 0, none⟩) len len, _, _, ?_, .inl rfl, .sliceEx (n := d.size) (by simp [Inj.more]), k1, k2⟩
  simp only [execOp, ho, Instr.buildSlice, Sem.run_bind, run_underlying hu, Result.andThen_ok, run_sizeOf' hn]
  rw [if_neg h1]
  by_cases hz0 : len * es = 0
  · have h0 : Array.range 0 = #[] := rfl
    have hd' : Instr.fill (fun i => some (i * es, es)) #[] ((xs.map fun (x : Nat × Operand) => (x.1, a.eval x.2)).toList) = some d := by
      rw [← hd]; simp [hz0, h0]
    simp only [Array.toList_map] at hd'
    simp [hz0, h0, hd', newRow]
  · simp only [Array.toList_map] at hd
    simp [hz0, hzu, hd, newRow]

/-- optional values -/
def OR (π : Inj) (lm : List Nat) : Option AV → Option Value → Prop
  | none, none => True
  | some v, some c => VR π lm v c
  | _, _ => False

theorem evalOpt_rel {x : Option Operand} {v : Option AV} (h : evalOpt ts x = some v) (r : LR π lm ts a.tmps.toList) : OR π lm v (x.map a.eval) := by
  cases x with
  | none => simp [evalOpt] at h; subst h; trivial
  | some x =>
    simp only [evalOpt, Option.map_eq_some_iff] at h
    obtain ⟨u, hu, rfl⟩ := h
    exact eval_rel hu r

theorem bound_some {v : AV} {c : Value} {d top top' k : Nat} (hv : VR π lm v c) (h : boundA (some v) d top = some k) (ht : top ≤ top') (code : BoundsCode) (w : World) :
    (Instr.sliceBound c top' code).run P w = .ok k w := by
  cases v with
  | int kk n =>
    simp only [boundA] at h
    split at h
    · rename_i hr
      simp at h; subst h
      have := VR.int_inv hv
      subst this
      simp only [Instr.sliceBound, asIntOf, Sem.run_bind, Sem.run_pure, Result.andThen_ok]
      rw [if_pos (by omega)]
      rfl
    · cases h
  | _ => cases h

theorem bounds_rel {lo hi : Option AV} {cl ch : Option Value} {len cap cap' l h : Nat} (isSlice : Bool) (hl : OR π lm lo cl) (hh : OR π lm hi ch) (h1 : boundA hi len cap = some h) (h2 : boundA lo 0 h = some l)
    (hc : cap ≤ cap') : (Instr.sliceBounds isSlice len cap' cl ch none).run P w = .ok (l, h, cap') w := by
  cases hi with
  | none =>
    cases ch with
    | some c => exact hh.elim
    | none =>
      simp [boundA] at h1
      subst h1
      cases lo with
      | none =>
        cases cl with
        | some c => exact hl.elim
        | none =>
          simp [boundA] at h2
          subst h2
          simp [Instr.sliceBounds]
      | some v =>
        cases cl with
        | none => exact hl.elim
        | some c => simp [Instr.sliceBounds, bound_some (P := P) hl h2 (Nat.le_refl _)]
  | some u =>
    cases ch with
    | none => exact hh.elim
    | some cu =>
      cases lo with
      | none =>
        cases cl with
        | some c => exact hl.elim
        | none =>
          simp [boundA] at h2
          subst h2
          simp [Instr.sliceBounds, bound_some (P := P) hh h1 hc]
      | some v =>
        cases cl with
        | none => exact hl.elim
        | some c => simp [Instr.sliceBounds, bound_some (P := P) hl h2 (Nat.le_refl _), bound_some (P := P) hh h1 hc]

theorem boundA_le {v : Option AV} {d top k : Nat} (h : boundA v d top = some k) : k ≤ top ∨ k = d := by
  unfold boundA at h
  split at h
  · simp at h; exact .inr h.symm
  · split at h
    · simp at h; left; omega
    · cases h
  · cases h

theorem op_slice {o : Oper} {t : TypeId} {x : Operand} {lo hi : Option Operand} {v v' : AV} {l h : Option AV} (ho : o.op = .slice t x lo hi none) (hw : WR B π lm s w) (hx : eval ts x = some v)
    (hl : evalOpt ts lo = some l) (hh : evalOpt ts hi = some h) (hs : sliceOf P t v l h = some v') (r : LR π lm ts a.tmps.toList) : OpOk P B π lm s w o a v' s := by
  have rx := eval_rel hx r
  have rl := evalOpt_rel hl r
  have rh := evalOpt_rel hh r
  unfold sliceOf at hs
  split at hs
  · rename_i n e b off hu
    split at hs
    · rename_i es hi' hn h1
      split at hs
      · rename_i lo' h2
        simp at hs; subst hs
        obtain ⟨b', m, hp, hc⟩ := VR.ptr_inv rx
        refine .still hw (c := .slice (some (if n = lo' then ⟨b', off, none⟩ else ⟨b', off + lo' * es, none⟩)) (hi' - lo') (n - lo')) ?_ ?_
        · simp only [execOp, ho, Instr.sliceAt, Sem.run_bind, run_underlying hu, Result.andThen_ok, hc, Instr.sureAddr, Sem.run_pure, Option.map_none,
            bounds_rel (P := P) (w := w) false rl rh h1 h2 (Nat.le_refl _), run_sizeOf' hn, addr_add]
        · by_cases hnl : n = lo'
          · simp only [hnl, if_true]; exact .sliceEx hp
          · simp only [hnl, if_false]; exact .sliceEx hp
      · cases hs
    · cases hs
  · rename_i e b off len cap ex es hu
    split at hs
    · rename_i n hi' hn h1
      split at hs
      · rename_i hes
        subst hes
        split at hs
        · rename_i lo' h2
          obtain ⟨b', m, cap', hp, hc, hex⟩ := VR.slice_inv rx
          have hcap : cap ≤ cap' := by rcases hex with ⟨_, h⟩ | ⟨_, h, _⟩ <;> omega
          have hrun : (execOp a.eval o).run P w = .ok (.value (.slice (if cap' = lo' then some ⟨b', off, none⟩ else some ⟨b', off + lo' * n, none⟩) (hi' - lo') (cap' - lo'))) w := by
            simp only [execOp, ho, Instr.sliceAt, Sem.run_bind, run_underlying hu, Result.andThen_ok, Sem.run_pure, Option.map_none, hc, Instr.slice,
              bounds_rel (P := P) (w := w) true rl rh h1 h2 hcap, run_sizeOf' hn, addr_add, Option.map_some]
          split at hs
          · rename_i hx1
            simp at hs; subst hs
            rcases hex with ⟨_, he⟩ | ⟨he, _⟩
            · subst he
              refine .still hw hrun ?_
              by_cases hnl : cap' = lo'
              · simp only [hnl, if_true]; exact .sliceEx hp
              · simp only [hnl, if_false]; exact .sliceEx hp
            · rw [he] at hx1; cases hx1
          · rename_i hx1
            split at hs
            · rename_i hlt
              simp at hs; subst hs
              rcases hex with ⟨he, _⟩ | ⟨_, h3, h4⟩
              · exact absurd he hx1
              · refine .still hw hrun ?_
                have hle : lo' ≤ cap' := by omega
                by_cases hnl : cap' = lo'
                · have h0 : lo' = 0 := by omega
                  subst h0
                  simp only [hnl, if_true, Nat.zero_mul, Nat.add_zero, Nat.sub_zero]
                  exact .sliceIn hp (by omega) (by rw [← h4, hnl])
                · simp only [hnl, if_false]
                  refine .sliceIn hp (by omega) ?_
                  rw [← h4]
                  have : cap' * n = lo' * n + (cap' - lo') * n := by rw [← Nat.add_mul]; congr 1; omega
                  omega
            · cases hs
        · cases hs
      · cases hs
    · cases hs
  · rename_i e hu
    split at hs
    · rename_i es hi' hn h1
      split at hs
      · rename_i lo' h2
        simp at hs; subst hs
        have hc : a.eval x = .slice none 0 0 := by
          generalize a.eval x = cx at rx
          cases rx; rfl
        have b1 := boundA_le h1
        have b2 := boundA_le h2
        have e1 : hi' = 0 := by omega
        have e2 : lo' = 0 := by omega
        subst e1; subst e2
        refine .still hw (c := .slice none 0 0) ?_ .nilSlice
        simp [execOp, ho, Instr.sliceAt, run_underlying hu, hc, Instr.slice, bounds_rel (P := P) (w := w) true rl rh h1 h2 (Nat.le_refl _), run_sizeOf' hn]
      · cases hs
    · cases hs
  · cases hs

end Go.Ev
