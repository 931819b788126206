/- A raw code, and bytes, as arguments. -/
import Derived.Test.YtdafhhojiioifaaDc
import Derived.Test.YtdafhhojiioifaaEvSl
import Derived.ChangeSame
import Derived.WalkKit
import Derived.ProofKit
import Derived.OpenShut
namespace Go.Proofs.Ytdafhhojiioifaa
open Go.ChangeShapes Go.WideShapes Go.ChangeAt Go.RowKit
set_option linter.unusedVariables false
set_option linter.unusedSimpArgs false
set_option maxRecDepth 100000
theorem own : ownKnob Try.prog.godebug = none := by kernel_rfl
theorem u27 : Try.prog.underlying 27 = some (.struct #[{ name := "Q", type := 5, offset := 0, embedded := false, tag := "", pkgPath := "", byteOffset := 0 }, { name := "N", type := 5, offset := 1, embedded := false, tag := "", pkgPath := "", byteOffset := 1 }, { name := "K", type := 5, offset := 2, embedded := false, tag := "", pkgPath := "", byteOffset := 2 }, { name := "L", type := 25, offset := 3, embedded := false, tag := "", pkgPath := "", byteOffset := 8 }]) := by kernel_rfl
theorem u25 : Try.prog.underlying 25 = some (.slice 5) := by kernel_rfl
theorem u5 : Try.prog.underlying 5 = some (.int .u8) := by kernel_rfl
theorem cl27 : Try.prog.cellsOf 27 = 4 := by kernel_rfl
theorem cl25 : Try.prog.cellsOf 25 = 1 := by kernel_rfl
theorem cl5 : Try.prog.cellsOf 5 = 1 := by kernel_rfl
theorem t27 : Try.prog.cellTypes Try.prog.depth 27 = some [5, 5, 5, 25] := by kernel_rfl
theorem bd8 {a : Int} (h : (Lit.int .u8 a).wf = true) : ∃ n : Nat, a = (n : Int) ∧ n ≤ 255 := by
 simp only [Lit.wf, Bool.and_eq_true, decide_eq_true_eq] at h
 simp [IntKind.min, IntKind.max, IntKind.bits, IntKind.signed] at h
 exact ⟨a.toNat, by omega, by omega⟩
/-- numbers of 16 bits as the law wants them, and as they read when the law has answered -/
structure ArgN {H : Type} (enc : TypeId × Value → H) (W : World) (v : Value) (d : DataW H) (p : List MemPlace) (l : Nat) (a : Option Addr) (c : Nat) : Prop where
 is : v = .slice a l c
 len : l ≤ maxLen
 given : N8 l W (.slice a l c)
 shut : ∀ W', Below W.heap.size W W' → ∀ sp : Nat → Bool, (∀ q ∈ p, sp q.block = true) → DataW.Trod enc Try.prog W' 0 sp true 25 v d p
theorem argN {H : Type} {enc : TypeId × Value → H} {W : World} {b0 : Nat} {v : Value} {d : DataW H} {p : List MemPlace}
  (hv : Value.okWide Try.prog W .any b0 25 v) (h : DataW.Trod enc Try.prog W 0 (fun _ => true) true 25 v d p) : ∃ l a c, ArgN enc W v d p l a c := by
 rcases Go.Ev.open_sl u25 u5 cl5 hv h with ⟨rfl, rfl, rfl⟩ | ⟨b, off, len, cap, zs, rfl, hb, hl, hm, hz, rfl, rfl, hcell, hw, c, e', fz, hh, hcs⟩
 ·exact ⟨0, none, 0, rfl, by simp, .inl ⟨rfl, none, 0, rfl⟩, fun W' _ sp _ => Go.Ev.shut_nil u25⟩
 ·refine ⟨len, some ⟨b, off, none⟩, cap, rfl, by omega, .inr ⟨b, off, cap, rfl, hb, fun t ht => ?_⟩, fun W' hg sp hsp => Go.Ev.shut_sl u25 u5 cl5 hb hl hm hz hcell hw hg hsp⟩
  have ht2 : t < zs.length := by omega
  obtain ⟨n, hn, hn2⟩ := bd8 (hw zs[t] (List.getElem_mem _))
  refine ⟨n, hn2, ?_⟩
  rw [hcell t ht2, List.getD_eq_getElem?_getD, List.getElem?_eq_getElem ht2, Option.getD_some, hn]
section
variable {H : Type} {enc : TypeId × Value → H} {W : World}
theorem open_raw {b0 : Nat} {v : Value} {d : DataW H} {p : List MemPlace} (hv : Value.okWide Try.prog W .any b0 27 v) (h : DataW.Trod enc Try.prog W 0 (fun _ => true) true 27 v d p) :
  ∃ (q r s : Int) (va : Value) (da : DataW H) (pa : List MemPlace), v = .agg #[.int .u8 q, .int .u8 r, .int .u8 s, va] ∧ d = .agg [.lit (.int .u8 q), .lit (.int .u8 r), .lit (.int .u8 s), da] ∧ p = pa ∧ (Lit.int .u8 q).wf = true ∧ (Lit.int .u8 r).wf = true ∧ (Lit.int .u8 s).wf = true ∧
   (Value.okWide Try.prog W .any b0 25 va ∧ DataW.Trod enc Try.prog W 0 (fun _ => true) true 25 va da pa) := by
 simp only [Value.okWide, u27] at hv
 obtain ⟨cs, rfl, hsz, ts, hts, _, hrow⟩ := hv
 rw [t27] at hts
 obtain rfl := (Option.some.inj hts).symm
 have hcs : ∃ e0 e1 e2 e3, cs = #[e0, e1, e2, e3] := by
  have h4 := hsz.trans cl27
  obtain ⟨l⟩ := cs
  match l, h4 with
  | [a, b, c, d], _ => exact ⟨a, b, c, d, rfl⟩
 obtain ⟨e0, e1, e2, e3, rfl⟩ := hcs
 have hv3 : Value.okWide Try.prog W .any b0 25 e3 := by
  obtain ⟨u, hu, hk⟩ := hrow 3 e3 rfl
  obtain rfl : (25 : TypeId) = u := Option.some.inj hu
  simp only [Value.okWide, u25]
  exact hk
 obtain ⟨fuel, hf⟩ := h
 obtain ⟨xs, n, rfl, hx, hl, hxs, hg⟩ := DataW.trod_struct u27 hf
 match xs, hxs with
 | [x0, x1, x2, x3], _ =>
  have g0 : DataW.trod enc Try.prog W 0 (fun _ => true) true n 5 (([e0, e1, e2, e3].drop 0).take (Try.prog.cellsOf 5)) = some x0 := hg 0 _ rfl
  have g1 : DataW.trod enc Try.prog W 0 (fun _ => true) true n 5 (([e0, e1, e2, e3].drop 1).take (Try.prog.cellsOf 5)) = some x1 := hg 1 _ rfl
  have g2 : DataW.trod enc Try.prog W 0 (fun _ => true) true n 5 (([e0, e1, e2, e3].drop 2).take (Try.prog.cellsOf 5)) = some x2 := hg 2 _ rfl
  have g3 : DataW.trod enc Try.prog W 0 (fun _ => true) true n 25 (([e0, e1, e2, e3].drop 3).take (Try.prog.cellsOf 25)) = some x3 := hg 3 _ rfl
  rw [cl5] at g0 g1 g2
  rw [cl25] at g3
  obtain ⟨q, q0, rfl, w0⟩ := DataW.trod_int u5 g0
  obtain ⟨r, r0, rfl, w1⟩ := DataW.trod_int u5 g1
  obtain ⟨s, s0, rfl, w2⟩ := DataW.trod_int u5 g2
  simp at q0 r0 s0 g3
  subst q0 r0 s0
  simp at hx
  obtain ⟨rfl, rfl⟩ := hx
  have one : ∀ e, Value.okWide Try.prog W .any b0 25 e → e.cells.toList = [e] := fun e he => by
   obtain ⟨q1, q2, q3, h⟩ := okWide_slice u25 he
   rw [h]; rfl
  exact ⟨q, r, s, e3, x3.1, x3.2, rfl, rfl, rfl, w0, w1, w2, ⟨hv3, n, by rw [one e3 hv3]; exact g3⟩⟩
theorem shut_raw {W' : World} {sp : Nat → Bool} {q r s : Int} {va : Value} {da : DataW H} {pa : List MemPlace} (w0 : (Lit.int .u8 q).wf = true) (w1 : (Lit.int .u8 r).wf = true) (w2 : (Lit.int .u8 s).wf = true) (sa : va.cells.toList = [va])
  (ha : DataW.Trod enc Try.prog W' 0 sp true 25 va da pa) :
  DataW.Trod enc Try.prog W' 0 sp true 27 (.agg #[.int .u8 q, .int .u8 r, .int .u8 s, va]) (.agg [.lit (.int .u8 q), .lit (.int .u8 r), .lit (.int .u8 s), da]) pa := by
 obtain ⟨n1, h1⟩ := ha
 rw [sa] at h1
 have k1 := DataW.trod_le (show n1 ≤ n1 + 1 by omega) h1
 have f0 := trod_int_mk (enc := enc) (w := W') (base := 0) (spare := sp) (held := true) n1 u5 w0
 have f1 := trod_int_mk (enc := enc) (w := W') (base := 0) (spare := sp) (held := true) n1 u5 w1
 have f2 := trod_int_mk (enc := enc) (w := W') (base := 0) (spare := sp) (held := true) n1 u5 w2
 have t := trod_struct_mk (enc := enc) (w := W') (base := 0) (spare := sp) (held := true) (n := n1 + 1) (cs := [.int .u8 q, .int .u8 r, .int .u8 s, va]) (xs := [(.lit (.int .u8 q), []), (.lit (.int .u8 r), []), (.lit (.int .u8 s), []), (da, pa)]) u27 (by rw [cl27]; rfl)
  (by simp [cl5, cl25, f0, f1, f2, k1])
 exact ⟨n1 + 1 + 1, by simpa [Value.cells] using t⟩
end
end Go.Proofs.Ytdafhhojiioifaa
