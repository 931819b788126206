/- An array of two slices of bytes as an argument. -/
import Derived.Test.YtdafhhojiioifaaDe
namespace Go.Proofs.Ytdafhhojiioifaa
open Go.ChangeShapes Go.WideShapes Go.ChangeAt Go.RowKit
set_option maxRecDepth 100000
set_option linter.unusedVariables false
set_option linter.unusedSimpArgs false
set_option linter.unusedSectionVars false

theorem u28 : Try.prog.underlying 28 = some (.array 2 25) := by kernel_rfl
theorem cl28 : Try.prog.cellsOf 28 = 2 := by kernel_rfl
theorem t28 : Try.prog.cellTypes Try.prog.depth 28 = some [25, 25] := by kernel_rfl
section
variable {H : Type} {enc : TypeId × Value → H} {W : World}
theorem one25 {b0 : Nat} {e : Value} (he : Value.okWide Try.prog W .any b0 25 e) : e.cells.toList = [e] := by
 obtain ⟨q1, q2, q3, h⟩ := okWide_slice u25 he
 rw [h]; rfl
theorem open_two {b0 : Nat} {v : Value} {d : DataW H} {p : List MemPlace} (hv : Value.okWide Try.prog W .any b0 28 v) (h : DataW.Trod enc Try.prog W 0 (fun _ => true) true 28 v d p) :
  ∃ (va vb : Value) (da db : DataW H) (pa pb : List MemPlace), v = .agg #[va, vb] ∧ d = .agg [da, db] ∧ p = pa ++ pb ∧ (Value.okWide Try.prog W .any b0 25 va ∧ DataW.Trod enc Try.prog W 0 (fun _ => true) true 25 va da pa) ∧ (Value.okWide Try.prog W .any b0 25 vb ∧ DataW.Trod enc Try.prog W 0 (fun _ => true) true 25 vb db pb) := by
 simp only [Value.okWide, u28] at hv
 obtain ⟨cs, rfl, hsz, ts, hts, _, hrow⟩ := hv
 rw [t28] at hts
 obtain rfl := (Option.some.inj hts).symm
 have hcs : ∃ e0 e1, cs = #[e0, e1] := by
  have h4 := hsz.trans cl28
  obtain ⟨l⟩ := cs
  match l, h4 with
  | [a, b], _ => exact ⟨a, b, rfl⟩
 obtain ⟨e0, e1, rfl⟩ := hcs
 have hv0 : Value.okWide Try.prog W .any b0 25 e0 := by
  obtain ⟨u, hu, hk⟩ := hrow 0 e0 rfl
  obtain rfl : (25 : TypeId) = u := Option.some.inj hu
  simp only [Value.okWide, u25]
  exact hk
 have hv1 : Value.okWide Try.prog W .any b0 25 e1 := by
  obtain ⟨u, hu, hk⟩ := hrow 1 e1 rfl
  obtain rfl : (25 : TypeId) = u := Option.some.inj hu
  simp only [Value.okWide, u25]
  exact hk
 obtain ⟨fuel, hf⟩ := h
 cases fuel with
 | zero => simp [DataW.trod] at hf
 | succ m =>
  rw [DataW.trod_step] at hf
  unfold DataW.trodStep at hf
  simp only [u28, Value.cells] at hf
  rw [if_pos (by rw [cl28]; rfl)] at hf
  simp only [Option.map_eq_some_iff, cl25] at hf
  obtain ⟨ys, hy, e1'⟩ := hf
  rw [show List.range 2 = [0, 1] from rfl] at hy
  simp only [List.mapM_cons, List.mapM_nil, bind, Option.bind_eq_some_iff, pure, Option.some.injEq] at hy
  obtain ⟨y0, h0, z0, ⟨y1, h1, z1, rfl, rfl⟩, rfl⟩ := hy
  simp at h0 h1
  simp only [Prod.mk.injEq] at e1'
  refine ⟨e0, e1, y0.1, y1.1, y0.2, y1.2, rfl, by rw [← e1'.1]; rfl, by rw [← e1'.2]; simp, ⟨hv0, m, by rw [one25 hv0]; exact h0⟩, hv1, m, by rw [one25 hv1]; exact h1⟩
theorem shut_two {W' : World} {sp : Nat → Bool} {va vb : Value} {da db : DataW H} {pa pb : List MemPlace} (sa : va.cells.toList = [va]) (sb : vb.cells.toList = [vb])
  (ha : DataW.Trod enc Try.prog W' 0 sp true 25 va da pa) (hb : DataW.Trod enc Try.prog W' 0 sp true 25 vb db pb) :
  DataW.Trod enc Try.prog W' 0 sp true 28 (.agg #[va, vb]) (.agg [da, db]) (pa ++ pb) := by
 obtain ⟨n1, h1⟩ := ha
 obtain ⟨n2, h2⟩ := hb
 rw [sa] at h1
 rw [sb] at h2
 have k1 := DataW.trod_le (show n1 ≤ n1 + n2 by omega) h1
 have k2 := DataW.trod_le (show n2 ≤ n1 + n2 by omega) h2
 refine ⟨n1 + n2 + 1, ?_⟩
 rw [DataW.trod_step]
 unfold DataW.trodStep
 simp only [u28, Value.cells]
 rw [if_pos (by rw [cl28]; rfl)]
 rw [show List.range 2 = [0, 1] from rfl]
 simp [cl25, k1, k2]
end
end Go.Proofs.Ytdafhhojiioifaa
