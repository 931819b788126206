/- Arrays of integers by value: opened and shut. -/
import Derived.WalkKit
import Derived.ProofKit
import Derived.OpenShut
import Derived.Lib.SmallJoins
namespace Go.Ev
open Go.ChangeShapes Go.WideShapes Go.Joins

section
variable {H : Type} {enc : TypeId × Value → H} {P : Program} {w : World} {base : Nat} {sp : Nat → Bool} {held : Bool} {t e : TypeId} {k : IntKind}

theorem arrOf2 {cs : Array Value} (h : cs.size = 2) : ∃ c0 c1, cs = #[c0, c1] := by
 obtain ⟨l⟩ := cs
 simp only [List.size_toArray] at h
 match l, h with
 | [c0, c1], _ => exact ⟨c0, c1, rfl⟩

theorem open_arr2 {r : Reach} {b0 : Nat} {v : Value} {d : DataW H} {p : List MemPlace} (hu : P.underlying t = some (.array 2 e)) (he : P.underlying e = some (.int k)) (hC : P.cellsOf t = 2) (hc : P.cellsOf e = 1)
  (hv : Value.okWide P w r b0 t v) (h : DataW.Trod enc P w base sp held t v d p) :
  ∃ a0 a1 : Int, v = .agg #[.int k a0, .int k a1] ∧ d = .agg [.lit (.int k a0), .lit (.int k a1)] ∧ p = [] ∧ (Lit.int k a0).wf = true ∧ (Lit.int k a1).wf = true := by
 simp only [Value.okWide, hu] at hv
 obtain ⟨cs, rfl, hsz, _⟩ := hv
 obtain ⟨c0, c1, rfl⟩ := arrOf2 (hsz.trans hC)
 obtain ⟨fuel, hf⟩ := h
 cases fuel with
 | zero => simp [DataW.trod] at hf
 | succ m =>
  rw [DataW.trod_step] at hf
  unfold DataW.trodStep at hf
  simp only [hu, Value.cells] at hf
  rw [if_pos (by rw [hC]; rfl)] at hf
  simp only [Option.map_eq_some_iff, hc] at hf
  obtain ⟨ys, hy, e1⟩ := hf
  rw [show List.range 2 = [0, 1] from rfl] at hy
  simp only [List.mapM_cons, List.mapM_nil, bind, Option.bind_eq_some_iff, pure, Option.some.injEq] at hy
  obtain ⟨y0, h0, z0, ⟨y1, h1, z1, rfl, rfl⟩, rfl⟩ := hy
  obtain ⟨a0, ea0, rfl, wa0⟩ := DataW.trod_int he h0
  obtain ⟨a1, ea1, rfl, wa1⟩ := DataW.trod_int he h1
  simp at ea0 ea1
  subst ea0
  subst ea1
  simp only [Prod.mk.injEq] at e1
  exact ⟨a0, a1, rfl, by rw [← e1.1]; rfl, by rw [← e1.2]; rfl, wa0, wa1⟩

theorem shut_arr2 {a0 a1 : Int} (hu : P.underlying t = some (.array 2 e)) (he : P.underlying e = some (.int k)) (hC : P.cellsOf t = 2) (hc : P.cellsOf e = 1) (wa0 : (Lit.int k a0).wf = true) (wa1 : (Lit.int k a1).wf = true) :
  DataW.Trod enc P w base sp held t (.agg #[.int k a0, .int k a1]) (.agg [.lit (.int k a0), .lit (.int k a1)]) [] := by
 refine ⟨2, ?_⟩
 rw [DataW.trod_step]
 unfold DataW.trodStep
 simp only [hu, Value.cells]
 rw [if_pos (by rw [hC]; rfl)]
 have h0 := trod_int_mk (enc := enc) (w := w) (base := base) (spare := sp) (held := held) 0 he wa0
 have h1 := trod_int_mk (enc := enc) (w := w) (base := base) (spare := sp) (held := held) 0 he wa1
 rw [show List.range 2 = [0, 1] from rfl]
 simp [hc, h0, h1]

theorem arrOf3 {cs : Array Value} (h : cs.size = 3) : ∃ c0 c1 c2, cs = #[c0, c1, c2] := by
 obtain ⟨l⟩ := cs
 simp only [List.size_toArray] at h
 match l, h with
 | [c0, c1, c2], _ => exact ⟨c0, c1, c2, rfl⟩

theorem open_arr3 {r : Reach} {b0 : Nat} {v : Value} {d : DataW H} {p : List MemPlace} (hu : P.underlying t = some (.array 3 e)) (he : P.underlying e = some (.int k)) (hC : P.cellsOf t = 3) (hc : P.cellsOf e = 1)
  (hv : Value.okWide P w r b0 t v) (h : DataW.Trod enc P w base sp held t v d p) :
  ∃ a0 a1 a2 : Int, v = .agg #[.int k a0, .int k a1, .int k a2] ∧ d = .agg [.lit (.int k a0), .lit (.int k a1), .lit (.int k a2)] ∧ p = [] ∧ (Lit.int k a0).wf = true ∧ (Lit.int k a1).wf = true ∧ (Lit.int k a2).wf = true := by
 simp only [Value.okWide, hu] at hv
 obtain ⟨cs, rfl, hsz, _⟩ := hv
 obtain ⟨c0, c1, c2, rfl⟩ := arrOf3 (hsz.trans hC)
 obtain ⟨fuel, hf⟩ := h
 cases fuel with
 | zero => simp [DataW.trod] at hf
 | succ m =>
  rw [DataW.trod_step] at hf
  unfold DataW.trodStep at hf
  simp only [hu, Value.cells] at hf
  rw [if_pos (by rw [hC]; rfl)] at hf
  simp only [Option.map_eq_some_iff, hc] at hf
  obtain ⟨ys, hy, e1⟩ := hf
  rw [show List.range 3 = [0, 1, 2] from rfl] at hy
  simp only [List.mapM_cons, List.mapM_nil, bind, Option.bind_eq_some_iff, pure, Option.some.injEq] at hy
  obtain ⟨y0, h0, z0, ⟨y1, h1, z1, ⟨y2, h2, z2, rfl, rfl⟩, rfl⟩, rfl⟩ := hy
  obtain ⟨a0, ea0, rfl, wa0⟩ := DataW.trod_int he h0
  obtain ⟨a1, ea1, rfl, wa1⟩ := DataW.trod_int he h1
  obtain ⟨a2, ea2, rfl, wa2⟩ := DataW.trod_int he h2
  simp at ea0 ea1 ea2
  subst ea0
  subst ea1
  subst ea2
  simp only [Prod.mk.injEq] at e1
  exact ⟨a0, a1, a2, rfl, by rw [← e1.1]; rfl, by rw [← e1.2]; rfl, wa0, wa1, wa2⟩

theorem shut_arr3 {a0 a1 a2 : Int} (hu : P.underlying t = some (.array 3 e)) (he : P.underlying e = some (.int k)) (hC : P.cellsOf t = 3) (hc : P.cellsOf e = 1) (wa0 : (Lit.int k a0).wf = true) (wa1 : (Lit.int k a1).wf = true) (wa2 : (Lit.int k a2).wf = true) :
  DataW.Trod enc P w base sp held t (.agg #[.int k a0, .int k a1, .int k a2]) (.agg [.lit (.int k a0), .lit (.int k a1), .lit (.int k a2)]) [] := by
 refine ⟨2, ?_⟩
 rw [DataW.trod_step]
 unfold DataW.trodStep
 simp only [hu, Value.cells]
 rw [if_pos (by rw [hC]; rfl)]
 have h0 := trod_int_mk (enc := enc) (w := w) (base := base) (spare := sp) (held := held) 0 he wa0
 have h1 := trod_int_mk (enc := enc) (w := w) (base := base) (spare := sp) (held := held) 0 he wa1
 have h2 := trod_int_mk (enc := enc) (w := w) (base := base) (spare := sp) (held := held) 0 he wa2
 rw [show List.range 3 = [0, 1, 2] from rfl]
 simp [hc, h0, h1, h2]

theorem arrOf4 {cs : Array Value} (h : cs.size = 4) : ∃ c0 c1 c2 c3, cs = #[c0, c1, c2, c3] := by
 obtain ⟨l⟩ := cs
 simp only [List.size_toArray] at h
 match l, h with
 | [c0, c1, c2, c3], _ => exact ⟨c0, c1, c2, c3, rfl⟩

theorem open_arr4 {r : Reach} {b0 : Nat} {v : Value} {d : DataW H} {p : List MemPlace} (hu : P.underlying t = some (.array 4 e)) (he : P.underlying e = some (.int k)) (hC : P.cellsOf t = 4) (hc : P.cellsOf e = 1)
  (hv : Value.okWide P w r b0 t v) (h : DataW.Trod enc P w base sp held t v d p) :
  ∃ a0 a1 a2 a3 : Int, v = .agg #[.int k a0, .int k a1, .int k a2, .int k a3] ∧ d = .agg [.lit (.int k a0), .lit (.int k a1), .lit (.int k a2), .lit (.int k a3)] ∧ p = [] ∧ (Lit.int k a0).wf = true ∧ (Lit.int k a1).wf = true ∧ (Lit.int k a2).wf = true ∧ (Lit.int k a3).wf = true := by
 simp only [Value.okWide, hu] at hv
 obtain ⟨cs, rfl, hsz, _⟩ := hv
 obtain ⟨c0, c1, c2, c3, rfl⟩ := arrOf4 (hsz.trans hC)
 obtain ⟨fuel, hf⟩ := h
 cases fuel with
 | zero => simp [DataW.trod] at hf
 | succ m =>
  rw [DataW.trod_step] at hf
  unfold DataW.trodStep at hf
  simp only [hu, Value.cells] at hf
  rw [if_pos (by rw [hC]; rfl)] at hf
  simp only [Option.map_eq_some_iff, hc] at hf
  obtain ⟨ys, hy, e1⟩ := hf
  rw [show List.range 4 = [0, 1, 2, 3] from rfl] at hy
  simp only [List.mapM_cons, List.mapM_nil, bind, Option.bind_eq_some_iff, pure, Option.some.injEq] at hy
  obtain ⟨y0, h0, z0, ⟨y1, h1, z1, ⟨y2, h2, z2, ⟨y3, h3, z3, rfl, rfl⟩, rfl⟩, rfl⟩, rfl⟩ := hy
  obtain ⟨a0, ea0, rfl, wa0⟩ := DataW.trod_int he h0
  obtain ⟨a1, ea1, rfl, wa1⟩ := DataW.trod_int he h1
  obtain ⟨a2, ea2, rfl, wa2⟩ := DataW.trod_int he h2
  obtain ⟨a3, ea3, rfl, wa3⟩ := DataW.trod_int he h3
  simp at ea0 ea1 ea2 ea3
  subst ea0
  subst ea1
  subst ea2
  subst ea3
  simp only [Prod.mk.injEq] at e1
  exact ⟨a0, a1, a2, a3, rfl, by rw [← e1.1]; rfl, by rw [← e1.2]; rfl, wa0, wa1, wa2, wa3⟩

theorem shut_arr4 {a0 a1 a2 a3 : Int} (hu : P.underlying t = some (.array 4 e)) (he : P.underlying e = some (.int k)) (hC : P.cellsOf t = 4) (hc : P.cellsOf e = 1) (wa0 : (Lit.int k a0).wf = true) (wa1 : (Lit.int k a1).wf = true) (wa2 : (Lit.int k a2).wf = true) (wa3 : (Lit.int k a3).wf = true) :
  DataW.Trod enc P w base sp held t (.agg #[.int k a0, .int k a1, .int k a2, .int k a3]) (.agg [.lit (.int k a0), .lit (.int k a1), .lit (.int k a2), .lit (.int k a3)]) [] := by
 refine ⟨2, ?_⟩
 rw [DataW.trod_step]
 unfold DataW.trodStep
 simp only [hu, Value.cells]
 rw [if_pos (by rw [hC]; rfl)]
 have h0 := trod_int_mk (enc := enc) (w := w) (base := base) (spare := sp) (held := held) 0 he wa0
 have h1 := trod_int_mk (enc := enc) (w := w) (base := base) (spare := sp) (held := held) 0 he wa1
 have h2 := trod_int_mk (enc := enc) (w := w) (base := base) (spare := sp) (held := held) 0 he wa2
 have h3 := trod_int_mk (enc := enc) (w := w) (base := base) (spare := sp) (held := held) 0 he wa3
 rw [show List.range 4 = [0, 1, 2, 3] from rfl]
 simp [hc, h0, h1, h2, h3]
end
end Go.Ev
