/- The laws' lists as an argument. -/
import Derived.Test.YtllecfhfhcmpaaaLf
import Derived.Test.YtllecfhfhcmpaaaEvSl
import Derived.ChangeSame
import Derived.WalkKit
import Derived.ProofKit
import Derived.OpenShut
namespace Go.Proofs.Ytllecfhfhcmpaaa
open Go.ChangeShapes Go.WideShapes Go.ChangeAt Go.RowKit
set_option linter.unusedVariables false
set_option linter.unusedSimpArgs false

theorem own : ownKnob Try.prog.godebug = none := by kernel_rfl
theorem u24 : Try.prog.underlying 24 = some (.struct #[{ name := "Q", type := 5, offset := 0, embedded := false, tag := "", pkgPath := "", byteOffset := 0 }, { name := "A", type := 22, offset := 1, embedded := false, tag := "", pkgPath := "", byteOffset := 8 }, { name := "B", type := 22, offset := 2, embedded := false, tag := "", pkgPath := "", byteOffset := 32 }, { name := "C", type := 22, offset := 3, embedded := false, tag := "", pkgPath := "", byteOffset := 56 }]) := by kernel_rfl
theorem u22 : Try.prog.underlying 22 = some (.slice 5) := by kernel_rfl
theorem u5 : Try.prog.underlying 5 = some (.int .u8) := by kernel_rfl
theorem cl24 : Try.prog.cellsOf 24 = 4 := by kernel_rfl
theorem cl22 : Try.prog.cellsOf 22 = 1 := by kernel_rfl
theorem cl5 : Try.prog.cellsOf 5 = 1 := by kernel_rfl
theorem t24 : Try.prog.cellTypes Try.prog.depth 24 = some [5, 22, 22, 22] := by kernel_rfl
theorem bd8 {a : Int} (h : (Lit.int .u8 a).wf = true) : ∃ n : Nat, a = (n : Int) ∧ n ≤ 255 := by
 simp only [Lit.wf, Bool.and_eq_true, decide_eq_true_eq] at h
 simp [IntKind.min, IntKind.max, IntKind.bits, IntKind.signed] at h
 exact ⟨a.toNat, by omega, by omega⟩

/-- a list of bytes as the law wants it, and as it reads when the law has answered -/
structure ArgB {H : Type} (enc : TypeId × Value → H) (W : World) (v : Value) (d : DataW H) (p : List MemPlace) (A : List Nat) (a : Option Addr) (c : Nat) : Prop where
 is : v = .slice a A.length c
 by' : By A
 len : A.length ≤ maxLen
 given : N8 A W (.slice a A.length c)
 shut : ∀ W', Below W.heap.size W W' → ∀ sp : Nat → Bool, (∀ q ∈ p, sp q.block = true) → DataW.Trod enc Try.prog W' 0 sp true 22 v d p
theorem argB {H : Type} {enc : TypeId × Value → H} {W : World} {b0 : Nat} {v : Value} {d : DataW H} {p : List MemPlace}
  (hv : Value.okWide Try.prog W .any b0 22 v) (h : DataW.Trod enc Try.prog W 0 (fun _ => true) true 22 v d p) : ∃ A a c, ArgB enc W v d p A a c := by
 rcases Go.Ev.open_sl u22 u5 cl5 hv h with ⟨rfl, rfl, rfl⟩ | ⟨b, off, len, cap, zs, rfl, hb, hl, hm, hz, rfl, rfl, hcell, hw, c, e', fz, hh, hcs⟩
 ·exact ⟨[], none, 0, rfl, fun x hx => by simp at hx, by simp, .inl ⟨rfl, none, 0, rfl⟩, fun W' _ sp _ => Go.Ev.shut_nil u22⟩
 ·have hlen : ((zs.take len).map Int.toNat).length = len := by rw [List.length_map, List.length_take]; omega
  refine ⟨(zs.take len).map Int.toNat, some ⟨b, off, none⟩, cap, by rw [hlen], fun x hx => ?_, by rw [hlen]; omega, .inr ⟨b, off, cap, rfl, hb, fun t ht => ?_⟩, fun W' hg sp hsp => Go.Ev.shut_sl u22 u5 cl5 hb hl hm hz hcell hw hg hsp⟩
  ·obtain ⟨y, hy, rfl⟩ := List.mem_map.1 hx
   obtain ⟨n, rfl, hn⟩ := bd8 (hw y (List.mem_of_mem_take hy))
   show ((n : Int)).toNat < 256
   omega
  ·rw [hlen] at ht
   rw [hcell t (by omega)]
   have e1 : zs.getD t 0 = ((((zs.take len).map Int.toNat).getD t 0 : Nat) : Int) := by
    have ht2 : t < zs.length := by omega
    obtain ⟨n, hn, _⟩ := bd8 (hw zs[t] (List.getElem_mem _))
    simp [List.getD, ht, ht2, List.getElem?_take_of_lt ht, hn]
   rw [e1]
section
variable {H : Type} {enc : TypeId × Value → H} {W : World}
theorem open_lists {b0 : Nat} {v : Value} {d : DataW H} {p : List MemPlace} (hv : Value.okWide Try.prog W .any b0 24 v) (h : DataW.Trod enc Try.prog W 0 (fun _ => true) true 24 v d p) :
  ∃ (q : Int) (va vb vc : Value) (da db dc : DataW H) (pa pb pc : List MemPlace), v = .agg #[.int .u8 q, va, vb, vc] ∧ d = .agg [.lit (.int .u8 q), da, db, dc] ∧ p = pa ++ (pb ++ pc) ∧ (Lit.int .u8 q).wf = true ∧
   (Value.okWide Try.prog W .any b0 22 va ∧ DataW.Trod enc Try.prog W 0 (fun _ => true) true 22 va da pa) ∧ (Value.okWide Try.prog W .any b0 22 vb ∧ DataW.Trod enc Try.prog W 0 (fun _ => true) true 22 vb db pb) ∧ (Value.okWide Try.prog W .any b0 22 vc ∧ DataW.Trod enc Try.prog W 0 (fun _ => true) true 22 vc dc pc) := by
 simp only [Value.okWide, u24] at hv
 obtain ⟨cs, rfl, hsz, ts, hts, _, hrow⟩ := hv
 rw [t24] at hts
 obtain rfl := (Option.some.inj hts).symm
 have hcs : ∃ e0 e1 e2 e3, cs = #[e0, e1, e2, e3] := by
  have h4 := hsz.trans cl24
  obtain ⟨l⟩ := cs
  match l, h4 with
  | [a, b, c, d], _ => exact ⟨a, b, c, d, rfl⟩
 obtain ⟨e0, e1, e2, e3, rfl⟩ := hcs
 have hok : ∀ (j : Nat) (e : Value), (#[e0, e1, e2, e3] : Array Value)[j]? = some e → ([5, 22, 22, 22] : List TypeId)[j % ([5, 22, 22, 22] : List TypeId).length]? = some 22 → Value.okWide Try.prog W .any b0 22 e := fun j e he ht => by
  obtain ⟨u, hu, hk⟩ := hrow j e he
  obtain rfl : (22 : TypeId) = u := by rw [ht] at hu; exact Option.some.inj hu
  simp only [Value.okWide, u22]
  exact hk
 have hv1 := hok 1 e1 rfl rfl
 have hv2 := hok 2 e2 rfl rfl
 have hv3 := hok 3 e3 rfl rfl
 obtain ⟨fuel, hf⟩ := h
 obtain ⟨xs, n, rfl, hx, hl, hxs, hg⟩ := DataW.trod_struct u24 hf
 match xs, hxs with
 | [x0, x1, x2, x3], _ =>
  have g0 : DataW.trod enc Try.prog W 0 (fun _ => true) true n 5 (([e0, e1, e2, e3].drop 0).take (Try.prog.cellsOf 5)) = some x0 := hg 0 _ rfl
  have g1 : DataW.trod enc Try.prog W 0 (fun _ => true) true n 22 (([e0, e1, e2, e3].drop 1).take (Try.prog.cellsOf 22)) = some x1 := hg 1 _ rfl
  have g2 : DataW.trod enc Try.prog W 0 (fun _ => true) true n 22 (([e0, e1, e2, e3].drop 2).take (Try.prog.cellsOf 22)) = some x2 := hg 2 _ rfl
  have g3 : DataW.trod enc Try.prog W 0 (fun _ => true) true n 22 (([e0, e1, e2, e3].drop 3).take (Try.prog.cellsOf 22)) = some x3 := hg 3 _ rfl
  rw [cl5] at g0
  rw [cl22] at g1 g2 g3
  obtain ⟨q, q0, rfl, w0⟩ := DataW.trod_int u5 g0
  simp at q0 g1 g2 g3
  subst q0
  simp at hx
  obtain ⟨rfl, rfl⟩ := hx
  have one : ∀ e, Value.okWide Try.prog W .any b0 22 e → e.cells.toList = [e] := fun e he => by
   obtain ⟨q1, q2, q3, h⟩ := okWide_slice u22 he
   rw [h]; rfl
  exact ⟨q, e1, e2, e3, x1.1, x2.1, x3.1, x1.2, x2.2, x3.2, rfl, rfl, rfl, w0, ⟨hv1, n, by rw [one e1 hv1]; exact g1⟩, ⟨hv2, n, by rw [one e2 hv2]; exact g2⟩, ⟨hv3, n, by rw [one e3 hv3]; exact g3⟩⟩
theorem shut_lists {W' : World} {sp : Nat → Bool} {q : Int} {va vb vc : Value} {da db dc : DataW H} {pa pb pc : List MemPlace} (w0 : (Lit.int .u8 q).wf = true) (sa : va.cells.toList = [va]) (sb : vb.cells.toList = [vb]) (sc : vc.cells.toList = [vc])
  (ha : DataW.Trod enc Try.prog W' 0 sp true 22 va da pa) (hb : DataW.Trod enc Try.prog W' 0 sp true 22 vb db pb) (hc : DataW.Trod enc Try.prog W' 0 sp true 22 vc dc pc) :
  DataW.Trod enc Try.prog W' 0 sp true 24 (.agg #[.int .u8 q, va, vb, vc]) (.agg [.lit (.int .u8 q), da, db, dc]) (pa ++ (pb ++ pc)) := by
 obtain ⟨n1, h1⟩ := ha
 obtain ⟨n2, h2⟩ := hb
 obtain ⟨n3, h3⟩ := hc
 rw [sa] at h1
 rw [sb] at h2
 rw [sc] at h3
 have k1 := DataW.trod_le (show n1 ≤ n1 + n2 + n3 + 1 by omega) h1
 have k2 := DataW.trod_le (show n2 ≤ n1 + n2 + n3 + 1 by omega) h2
 have k3 := DataW.trod_le (show n3 ≤ n1 + n2 + n3 + 1 by omega) h3
 have f0 := trod_int_mk (enc := enc) (w := W') (base := 0) (spare := sp) (held := true) (n1 + n2 + n3) u5 w0
 have t := trod_struct_mk (enc := enc) (w := W') (base := 0) (spare := sp) (held := true) (n := n1 + n2 + n3 + 1) (cs := [.int .u8 q, va, vb, vc]) (xs := [(.lit (.int .u8 q), []), (da, pa), (db, pb), (dc, pc)]) u24 (by rw [cl24]; rfl)
  (by simp [cl5, cl22, f0, k1, k2, k3])
 exact ⟨n1 + n2 + n3 + 1 + 1, by simpa [Value.cells] using t⟩
end
end Go.Proofs.Ytllecfhfhcmpaaa
