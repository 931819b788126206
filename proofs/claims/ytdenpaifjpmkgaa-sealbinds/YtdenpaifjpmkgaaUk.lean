/- A pair of two kinds of integers as an argument: opened and shut. -/
import Derived.Test.YtdenpaifjpmkgaaEvK2
namespace Go.Ev
open Go.ChangeShapes Go.WideShapes Go.Joins
set_option linter.unusedVariables false

section
variable {H : Type} {enc : TypeId × Value → H} {P : Program} {w : World} {base : Nat} {sp : Nat → Bool} {held : Bool} {t : TypeId} {k0 k1 : IntKind} {f0 f1 : Field}

theorem open_st2 {r : Reach} {b0 : Nat} {v : Value} {d : DataW H} {p : List MemPlace} (hu : P.underlying t = some (.struct #[f0, f1])) (u0 : P.underlying f0.type = some (.int k0)) (u1 : P.underlying f1.type = some (.int k1)) (o0 : f0.offset = 0) (o1 : f1.offset = 1)
    (hC : P.cellsOf t = 2) (hc0 : P.cellsOf f0.type = 1) (hc1 : P.cellsOf f1.type = 1) (hv : Value.okWide P w r b0 t v) (h : DataW.Trod enc P w base sp held t v d p) :
    ∃ a0 a1 : Int, v = .agg #[.int k0 a0, .int k1 a1] ∧ d = .agg [.lit (.int k0 a0), .lit (.int k1 a1)] ∧ p = [] ∧ (Lit.int k0 a0).wf = true ∧ (Lit.int k1 a1).wf = true := by
  simp only [Value.okWide, hu] at hv
  obtain ⟨cs, rfl, hsz, _⟩ := hv
  obtain ⟨c0, c1, rfl⟩ := arrOf2 (hsz.trans hC)
  obtain ⟨fuel, hf⟩ := h
  obtain ⟨xs, n, rfl, hx, hl, hxs, hg⟩ := DataW.trod_struct hu hf
  match xs, hxs with
  | [x0, x1], _ =>
    have g0 := hg 0 f0 rfl
    have g1 := hg 1 f1 rfl
    rw [o0, hc0] at g0
    rw [o1, hc1] at g1
    obtain ⟨a0, ea0, rfl, wa0⟩ := DataW.trod_int u0 g0
    obtain ⟨a1, ea1, rfl, wa1⟩ := DataW.trod_int u1 g1
    simp [Value.cells] at ea0 ea1
    subst ea0
    subst ea1
    simp only [Prod.mk.injEq] at hx
    exact ⟨a0, a1, rfl, by rw [hx.1]; rfl, by rw [hx.2]; rfl, wa0, wa1⟩

theorem shut_st2 {a0 a1 : Int} (hu : P.underlying t = some (.struct #[f0, f1])) (u0 : P.underlying f0.type = some (.int k0)) (u1 : P.underlying f1.type = some (.int k1)) (o0 : f0.offset = 0) (o1 : f1.offset = 1)
    (hC : P.cellsOf t = 2) (hc0 : P.cellsOf f0.type = 1) (hc1 : P.cellsOf f1.type = 1) (wa0 : (Lit.int k0 a0).wf = true) (wa1 : (Lit.int k1 a1).wf = true) :
    DataW.Trod enc P w base sp held t (.agg #[.int k0 a0, .int k1 a1]) (.agg [.lit (.int k0 a0), .lit (.int k1 a1)]) [] := by
  refine ⟨2, ?_⟩
  have h0 := trod_int_mk (enc := enc) (w := w) (base := base) (spare := sp) (held := held) 0 u0 wa0
  have h1 := trod_int_mk (enc := enc) (w := w) (base := base) (spare := sp) (held := held) 0 u1 wa1
  unfold DataW.trod
  simp [hu, Value.cells, hC, hc0, hc1, o0, o1, h0, h1]
end
end Go.Ev
