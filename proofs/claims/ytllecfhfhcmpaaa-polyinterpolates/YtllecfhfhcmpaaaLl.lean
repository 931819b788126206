/- What the laws' walks take: polynomials with few coefficients. -/
import Derived.Test.YtllecfhfhcmpaaaLd
import Derived.Test.YtllecfhfhcmpaaaEvRk
import Derived.Test.YtllecfhfhcmpaaaEvSl
import Derived.ChangeSame
import Derived.WalkKit
import Derived.ProofKit
import Derived.OpenShut
import Derived.Maps.AppendAt
namespace Go.Proofs.Ytllecfhfhcmpaaa
open Go.RowKit Go.Fl
set_option maxRecDepth 100000
set_option linter.unusedVariables false
set_option linter.unusedSimpArgs false
set_option linter.unusedSectionVars false

/-- a polynomial with at most n coefficients -/
def PL (F : Gf) (n : Nat) (l : List Nat) : Prop := Po F l ∧ l.length ≤ n
section
variable {F : Gf} (hF : Ok F)
include hF
theorem pl_add {n m k : Nat} {A B : List Nat} (hA : PL F n A) (hB : PL F m B) (h1 : n ≤ k) (h2 : m ≤ k) : PL F k (addP F A B) :=
 ⟨addP_po hF hA.1.el hB.1.el, by have := addP_len hF A B; have := hA.2; have := hB.2; omega⟩
theorem pl_mul {n m k : Nat} {A B : List Nat} (hA : PL F n A) (hB : PL F m B) (h1 : n + m ≤ k) : PL F k (mulP F A B) :=
 ⟨mulP_po hF A B, by have := mulP_le hF hA.1 hB.1; have := hA.2; have := hB.2; omega⟩
end
theorem pl_nil {F : Gf} {k : Nat} : PL F k [] := ⟨Po.nil, Nat.zero_le _⟩
theorem pl_tr {F : Gf} {k : Nat} {l : List Nat} (h : In F l) (hl : l.length ≤ k) : PL F k (trL l) := ⟨Po.tr h, Nat.le_trans (trL_len l) hl⟩
section
variable {F : Gf} {b cap n m : Nat} {A B : List Nat} {aa ab : Option Addr} {ca cb : Nat} {W : World}
theorem padd_po (hO : Ops F b cap W) (hA : PL F n A) (hB : PL F m B) (hn : n ≤ 1000) (hm : m ≤ 1000) (na : NN A W (.slice aa A.length ca)) (nb : NN B W (.slice ab B.length cb)) :
  Calls Try.prog 21 #[FV F b cap, .slice aa A.length ca, .slice ab B.length cb] W (SlPost (addP F A B) W) := by
 have := padd hO hA.1.el hB.1.el (Nat.le_trans hA.2 hn) (Nat.le_trans hB.2 hm) rfl rfl na nb
 rwa [trL_of hA.1.cn, trL_of hB.1.cn] at this
theorem pmul_po (hO : Ops F b cap W) (hA : PL F n A) (hB : PL F m B) (hn : n ≤ 1000) (hm : m ≤ 1000) (na : NN A W (.slice aa A.length ca)) (nb : NN B W (.slice ab B.length cb)) :
  Calls Try.prog 23 #[FV F b cap, .slice aa A.length ca, .slice ab B.length cb] W (SlPost (mulP F A B) W) := by
 have := pmul hO hA.1.el hB.1.el (Nat.le_trans hA.2 hn) (Nat.le_trans hB.2 hm) rfl rfl na nb
 rwa [trL_of hA.1.cn, trL_of hB.1.cn] at this
theorem ints_po (hA : PL F n A) (hB : PL F m B) (he : A = B) (hn : n ≤ 1000) (hm : m ≤ 1000) (na : NN A W (.slice aa A.length ca)) (nb : NN B W (.slice ab B.length cb)) :
  Calls Try.prog 14 #[.slice aa A.length ca, .slice ab B.length cb] W fun e w' => e = .returned (.bool true) ∧ Below W.heap.size W w' := by
 have := ints_c (A := A) (B := B) (by have := hA.2; omega) (by have := hB.2; omega) rfl rfl na nb
 rwa [decide_eq_true he] at this
theorem eval_po {x : Nat} (hO : Ops F b cap W) (hA : PL F n A) (hn : n ≤ 1000) (hx : x < F.q) (na : NN A W (.slice aa A.length ca)) :
  Calls Try.prog 27 #[FV F b cap, .slice aa A.length ca, .int .i64 (x : Nat)] W fun e w' => e = .returned (.int .i64 (ev F x A : Nat)) ∧ Below W.heap.size W w' := eval_c hO hA.1.el (Nat.le_trans hA.2 hn) rfl hx na
end
/-- division where quotient and remainder are known -/
theorem dm_po {F : Gf} {b cap n m : Nat} {A B Q R : List Nat} {aa ab : Option Addr} {ca cb : Nat} {W : World} (hO : Ops F b cap W) (hA : PL F n A) (hB : PL F m B) (hne : B ≠ []) (hd : DM F A B Q R) (hn : n ≤ 1000) (hm : m ≤ 1000) (na : NN A W (.slice aa A.length ca)) (nb : NN B W (.slice ab B.length cb)) :
  Calls Try.prog 17 #[FV F b cap, .slice aa A.length ca, .slice ab B.length cb] W fun e w' => ∃ a c a' c', e = .returned (.tuple #[.slice a Q.length c, .slice a' R.length c', .int .i64 0]) ∧ NN Q w' (.slice a Q.length c) ∧ NN R w' (.slice a' R.length c') ∧ Below W.heap.size W w' := by
 obtain ⟨rfl, rfl⟩ := dqr_of hO.ok hB.1 hd
 have h := divmod_hi hO hA.1.el hB.1.el (Nat.le_trans hA.2 hn) (Nat.le_trans hB.2 hm) rfl rfl na nb (by rw [trL_of hB.1.cn]; exact hne)
 rw [trL_of hA.1.cn, trL_of hB.1.cn] at h
 exact h.mono fun e w' ⟨a, c, a', c', h1, h2, h3, h4⟩ => ⟨a, c, a', c', h1, h2, h3, h4⟩
theorem dm_zero {F : Gf} {b cap : Nat} {va : Value} {ab : Option Addr} {cb : Nat} {B : List Nat} {W : World} (he : B = []) (nb : NN B W (.slice ab B.length cb)) :
  Calls Try.prog 17 #[FV F b cap, va, .slice ab B.length cb] W fun e w' => e = .returned (.tuple #[.slice none 0 0, .slice none 0 0, .int .i64 3]) ∧ Below W.heap.size W w' := by
 subst he
 exact divmod_lo (by decide) rfl nb rfl
theorem gcd_po {F : Gf} {b cap n m : Nat} {A B G : List Nat} {aa ab : Option Addr} {ca cb : Nat} {W : World} (hO : Ops F b cap W) (hA : PL F n A) (hB : PL F m B) (hg : IsGcd F A B G) (hn : n ≤ 1000) (hm : m ≤ 1000) (na : NN A W (.slice aa A.length ca)) (nb : NN B W (.slice ab B.length cb)) :
  Calls Try.prog 25 #[FV F b cap, .slice aa A.length ca, .slice ab B.length cb] W (SlPost G W) := by
 refine (gcd_c hO hA.1.el hB.1.el (Nat.le_trans hA.2 hn) (Nat.le_trans hB.2 hm) rfl rfl na nb).mono ?_
 rintro e w' ⟨G', a, c, rfl, h1, h2, -, h4⟩
 rw [trL_of hA.1.cn, trL_of hB.1.cn] at h2
 obtain rfl := h2.uniq hO.ok hg
 exact ⟨a, c, rfl, h1, h4⟩
theorem dm_len {F : Gf} (hF : Ok F) {A B Q R : List Nat} (hA : Po F A) (hB : Po F B) (hne : B ≠ []) (h : DM F A B Q R) : Q.length ≤ A.length := by
 by_cases hq : Q = []
 ·rw [hq]; exact Nat.zero_le _
 ·have l1 := mulP_len hF h.q hB hq hne
  have p1 := List.length_pos_iff.2 hq
  have p2 := List.length_pos_iff.2 hne
  have hl := h.len
  have hPn : mulP F Q B ≠ [] := mulP_ne hF h.q hB hq hne
  have htop := cn_last (mulP_po hF Q B).cn hPn
  have e1 : fn A ((mulP F Q B).length - 1) ≠ 0 := by
   rw [h.eq]
   show F.add (pm F Q (fn B) ((mulP F Q B).length - 1)) (fn R ((mulP F Q B).length - 1)) ≠ 0
   rw [← fn_mulP hF, fn_ge (l := R) (by omega), hF.add_zero (show fn (mulP F Q B) ((mulP F Q B).length - 1) < F.q from (mulP_po hF Q B).el.get hF _)]
   exact htop
  have := lt_len e1
  omega
theorem ofL_len (F : Gf) (A : List Nat) (n : Nat) : (ofL F A n).length ≤ n := by
 unfold ofL; rw [List.length_map, List.length_take]; omega
/-- numbers below 256 -/
def By (l : List Nat) : Prop := ∀ x ∈ l, x < 256
/-- the box of the law's lists -/
abbrev LB (B : Nat) (v0 v1 v2 v3 : Value) (w : World) : Prop := w.cell? ⟨B, 0, none⟩ = some v0 ∧ w.cell? ⟨B, 1, none⟩ = some v1 ∧ w.cell? ⟨B, 2, none⟩ = some v2 ∧ w.cell? ⟨B, 3, none⟩ = some v3
theorem LB.keep {B k : Nat} {v0 v1 v2 v3 : Value} {w w' : World} (h : LB B v0 v1 v2 v3 w) (hb : Below k w w') (hk : B < k) : LB B v0 v1 v2 v3 w' :=
 ⟨(hb.cell hk).trans h.1, (hb.cell hk).trans h.2.1, (hb.cell hk).trans h.2.2.1, (hb.cell hk).trans h.2.2.2⟩
/-- what holds throughout a law -/
abbrev SL (W wS : World) (gF : Nat) (F : Gf) (b cap : Nat) (v0 v1 v2 v3 : Value) (w : World) : Prop :=
 FB gF F.p F.e (FM F b cap) w ∧ LB W.heap.size v0 v1 v2 v3 w ∧ Hid (Below W.heap.size W w) ∧ Hid (Below wS.heap.size wS w) ∧ Hid (FldAt F b cap w) ∧ Hid (W.heap.size < w.heap.size ∧ gF < w.heap.size)
theorem SL.keep {W wS : World} {gF : Nat} {F : Gf} {b cap : Nat} {v0 v1 v2 v3 : Value} {w w' : World} (h : SL W wS gF F b cap v0 v1 v2 v3 w) (hb : Below w.heap.size w w') : SL W wS gF F b cap v0 v1 v2 v3 w' := by
 have h1 := h.2.2.2.2.2.out
 have h2 := h.2.2.2.1.out.size
 have h3 := h.2.2.1.out.size
 exact ⟨FB.keep h.1 hb h1.2, LB.keep h.2.1 hb h1.1, Lib.hid (h.2.2.1.out.trans (hb.mono h3)), Lib.hid (h.2.2.2.1.out.trans (hb.mono h2)), Lib.hid (h.2.2.2.2.1.out.below hb), Lib.hid ⟨Nat.lt_of_lt_of_le h1.1 hb.size, Nat.lt_of_lt_of_le h1.2 hb.size⟩⟩
theorem SL.start {W wS : World} {gF : Nat} {F : Gf} {b cap : Nat} {v0 v1 v2 v3 : Value} {w : World} (h : SL W wS gF F b cap v0 v1 v2 v3 w) : SL W w gF F b cap v0 v1 v2 v3 w :=
 ⟨h.1, h.2.1, h.2.2.1, Lib.hid (Below.refl _ _), h.2.2.2.2.1, h.2.2.2.2.2⟩
theorem SL.drew {W wS : World} {gF : Nat} {F : Gf} {b cap : Nat} {v0 v1 v2 v3 : Value} {w : World} (h : SL W wS gF F b cap v0 v1 v2 v3 w) : SL W wS gF F b cap v0 v1 v2 v3 w.drew := h.keep (Below.refl _ _).drew
end Go.Proofs.Ytllecfhfhcmpaaa

/- The laws' lists as an argument. -/
namespace Go.Proofs.Ytllecfhfhcmpaaa
open Go.ChangeShapes Go.WideShapes Go.ChangeAt Go.RowKit
set_option linter.unusedVariables false
set_option linter.unusedSimpArgs false

theorem own : ownKnob Try.prog.godebug = none := by kernel_rfl
theorem u24 : Try.prog.underlying 24 = some (.struct #[{ name := "Q", type := 5, offset := 0, embedded := false, tag := "", pkgPath := "", byteOffset := 0 }, { name := "A", type := 22, offset := 1, embedded := false, tag := "", pkgPath := "", byteOffset := 8 }, { name := "B", type := 22, offset := 2, embedded := false, tag := "", pkgPath := "", byteOffset := 32 }, { name := "C", type := 22, offset := 3, embedded := false, tag := "", pkgPath := "", byteOffset := 56 }]) := by kernel_rfl
theorem u22 : Try.prog.underlying 22 = some (.slice 5) := by kernel_rfl
theorem u5 : Try.prog.underlying 5 = some (.int .u8) := by kernel_rfl
theorem cl24 : Try.prog.cellsOf 24 = 4 := by kernel_rfl
theorem cl22 : Try.prog.cellsOf 22 = 1 := by kernel_rfl
theorem cl5 : Try.prog.cellsOf 5 = 1 := by kernel_rfl
theorem t24 : Try.prog.cellTypes Try.prog.depth 24 = some [5, 22, 22, 22] := by kernel_rfl
theorem bd8 {a : Int} (h : (Lit.int .u8 a).wf = true) : ∃ n : Nat, a = (n : Int) ∧ n ≤ 255 := by
 simp only [Lit.wf, Bool.and_eq_true, decide_eq_true_eq] at h
 simp [IntKind.min, IntKind.max, IntKind.bits, IntKind.signed] at h
 exact ⟨a.toNat, by omega, by omega⟩

/-- a list of bytes as the law wants it, and as it reads when the law has answered -/
structure ArgB {H : Type} (enc : TypeId × Value → H) (W : World) (v : Value) (d : DataW H) (p : List MemPlace) (A : List Nat) (a : Option Addr) (c : Nat) : Prop where
 is : v = .slice a A.length c
 by' : By A
 len : A.length ≤ maxLen
 given : N8 A W (.slice a A.length c)
 shut : ∀ W', Below W.heap.size W W' → ∀ sp : Nat → Bool, (∀ q ∈ p, sp q.block = true) → DataW.Trod enc Try.prog W' 0 sp true 22 v d p
theorem argB {H : Type} {enc : TypeId × Value → H} {W : World} {b0 : Nat} {v : Value} {d : DataW H} {p : List MemPlace}
  (hv : Value.okWide Try.prog W .any b0 22 v) (h : DataW.Trod enc Try.prog W 0 (fun _ => true) true 22 v d p) : ∃ A a c, ArgB enc W v d p A a c := by
 rcases Go.Ev.open_sl u22 u5 cl5 hv h with ⟨rfl, rfl, rfl⟩ | ⟨b, off, len, cap, zs, rfl, hb, hl, hm, hz, rfl, rfl, hcell, hw, c, e', fz, hh, hcs⟩
 ·exact ⟨[], none, 0, rfl, fun x hx => by simp at hx, by simp, .inl ⟨rfl, none, 0, rfl⟩, fun W' _ sp _ => Go.Ev.shut_nil u22⟩
 ·have hlen : ((zs.take len).map Int.toNat).length = len := by rw [List.length_map, List.length_take]; omega
  refine ⟨(zs.take len).map Int.toNat, some ⟨b, off, none⟩, cap, by rw [hlen], fun x hx => ?_, by rw [hlen]; omega, .inr ⟨b, off, cap, rfl, hb, fun t ht => ?_⟩, fun W' hg sp hsp => Go.Ev.shut_sl u22 u5 cl5 hb hl hm hz hcell hw hg hsp⟩
  ·obtain ⟨y, hy, rfl⟩ := List.mem_map.1 hx
   obtain ⟨n, rfl, hn⟩ := bd8 (hw y (List.mem_of_mem_take hy))
   show ((n : Int)).toNat < 256
   omega
  ·rw [hlen] at ht
   rw [hcell t (by omega)]
   have e1 : zs.getD t 0 = ((((zs.take len).map Int.toNat).getD t 0 : Nat) : Int) := by
    have ht2 : t < zs.length := by omega
    obtain ⟨n, hn, _⟩ := bd8 (hw zs[t] (List.getElem_mem _))
    simp [List.getD, ht, ht2, List.getElem?_take_of_lt ht, hn]
   rw [e1]
section
variable {H : Type} {enc : TypeId × Value → H} {W : World}
theorem open_lists {b0 : Nat} {v : Value} {d : DataW H} {p : List MemPlace} (hv : Value.okWide Try.prog W .any b0 24 v) (h : DataW.Trod enc Try.prog W 0 (fun _ => true) true 24 v d p) :
  ∃ (q : Int) (va vb vc : Value) (da db dc : DataW H) (pa pb pc : List MemPlace), v = .agg #[.int .u8 q, va, vb, vc] ∧ d = .agg [.lit (.int .u8 q), da, db, dc] ∧ p = pa ++ (pb ++ pc) ∧ (Lit.int .u8 q).wf = true ∧
   (Value.okWide Try.prog W .any b0 22 va ∧ DataW.Trod enc Try.prog W 0 (fun _ => true) true 22 va da pa) ∧ (Value.okWide Try.prog W .any b0 22 vb ∧ DataW.Trod enc Try.prog W 0 (fun _ => true) true 22 vb db pb) ∧ (Value.okWide Try.prog W .any b0 22 vc ∧ DataW.Trod enc Try.prog W 0 (fun _ => true) true 22 vc dc pc) := by
 simp only [Value.okWide, u24] at hv
 obtain ⟨cs, rfl, hsz, ts, hts, _, hrow⟩ := hv
 rw [t24] at hts
 obtain rfl := (Option.some.inj hts).symm
 have hcs : ∃ e0 e1 e2 e3, cs = #[e0, e1, e2, e3] := by
  have h4 := hsz.trans cl24
  obtain ⟨l⟩ := cs
  match l, h4 with
  | [a, b, c, d], _ => exact ⟨a, b, c, d, rfl⟩
 obtain ⟨e0, e1, e2, e3, rfl⟩ := hcs
 have hok : ∀ (j : Nat) (e : Value), (#[e0, e1, e2, e3] : Array Value)[j]? = some e → ([5, 22, 22, 22] : List TypeId)[j % ([5, 22, 22, 22] : List TypeId).length]? = some 22 → Value.okWide Try.prog W .any b0 22 e := fun j e he ht => by
  obtain ⟨u, hu, hk⟩ := hrow j e he
  obtain rfl : (22 : TypeId) = u := by rw [ht] at hu; exact Option.some.inj hu
  simp only [Value.okWide, u22]
  exact hk
 have hv1 := hok 1 e1 rfl rfl
 have hv2 := hok 2 e2 rfl rfl
 have hv3 := hok 3 e3 rfl rfl
 obtain ⟨fuel, hf⟩ := h
 obtain ⟨xs, n, rfl, hx, hl, hxs, hg⟩ := DataW.trod_struct u24 hf
 match xs, hxs with
 | [x0, x1, x2, x3], _ =>
  have g0 : DataW.trod enc Try.prog W 0 (fun _ => true) true n 5 (([e0, e1, e2, e3].drop 0).take (Try.prog.cellsOf 5)) = some x0 := hg 0 _ rfl
  have g1 : DataW.trod enc Try.prog W 0 (fun _ => true) true n 22 (([e0, e1, e2, e3].drop 1).take (Try.prog.cellsOf 22)) = some x1 := hg 1 _ rfl
  have g2 : DataW.trod enc Try.prog W 0 (fun _ => true) true n 22 (([e0, e1, e2, e3].drop 2).take (Try.prog.cellsOf 22)) = some x2 := hg 2 _ rfl
  have g3 : DataW.trod enc Try.prog W 0 (fun _ => true) true n 22 (([e0, e1, e2, e3].drop 3).take (Try.prog.cellsOf 22)) = some x3 := hg 3 _ rfl
  rw [cl5] at g0
  rw [cl22] at g1 g2 g3
  obtain ⟨q, q0, rfl, w0⟩ := DataW.trod_int u5 g0
  simp at q0 g1 g2 g3
  subst q0
  simp at hx
  obtain ⟨rfl, rfl⟩ := hx
  have one : ∀ e, Value.okWide Try.prog W .any b0 22 e → e.cells.toList = [e] := fun e he => by
   obtain ⟨q1, q2, q3, h⟩ := okWide_slice u22 he
   rw [h]; rfl
  exact ⟨q, e1, e2, e3, x1.1, x2.1, x3.1, x1.2, x2.2, x3.2, rfl, rfl, rfl, w0, ⟨hv1, n, by rw [one e1 hv1]; exact g1⟩, ⟨hv2, n, by rw [one e2 hv2]; exact g2⟩, ⟨hv3, n, by rw [one e3 hv3]; exact g3⟩⟩
theorem shut_lists {W' : World} {sp : Nat → Bool} {q : Int} {va vb vc : Value} {da db dc : DataW H} {pa pb pc : List MemPlace} (w0 : (Lit.int .u8 q).wf = true) (sa : va.cells.toList = [va]) (sb : vb.cells.toList = [vb]) (sc : vc.cells.toList = [vc])
  (ha : DataW.Trod enc Try.prog W' 0 sp true 22 va da pa) (hb : DataW.Trod enc Try.prog W' 0 sp true 22 vb db pb) (hc : DataW.Trod enc Try.prog W' 0 sp true 22 vc dc pc) :
  DataW.Trod enc Try.prog W' 0 sp true 24 (.agg #[.int .u8 q, va, vb, vc]) (.agg [.lit (.int .u8 q), da, db, dc]) (pa ++ (pb ++ pc)) := by
 obtain ⟨n1, h1⟩ := ha
 obtain ⟨n2, h2⟩ := hb
 obtain ⟨n3, h3⟩ := hc
 rw [sa] at h1
 rw [sb] at h2
 rw [sc] at h3
 have k1 := DataW.trod_le (show n1 ≤ n1 + n2 + n3 + 1 by omega) h1
 have k2 := DataW.trod_le (show n2 ≤ n1 + n2 + n3 + 1 by omega) h2
 have k3 := DataW.trod_le (show n3 ≤ n1 + n2 + n3 + 1 by omega) h3
 have f0 := trod_int_mk (enc := enc) (w := W') (base := 0) (spare := sp) (held := true) (n1 + n2 + n3) u5 w0
 have t := trod_struct_mk (enc := enc) (w := W') (base := 0) (spare := sp) (held := true) (n := n1 + n2 + n3 + 1) (cs := [.int .u8 q, va, vb, vc]) (xs := [(.lit (.int .u8 q), []), (da, pa), (db, pb), (dc, pc)]) u24 (by rw [cl24]; rfl)
  (by simp [cl5, cl22, f0, k1, k2, k3])
 exact ⟨n1 + n2 + n3 + 1 + 1, by simpa [Value.cells] using t⟩
end
end Go.Proofs.Ytllecfhfhcmpaaa

/- What the law of interpolation takes: its places, two rows of the call's own, append as a step that says where the row lies. -/
namespace Go.Proofs.Ytllecfhfhcmpaaa
open Go.RowKit Go.Fl
set_option maxRecDepth 100000
set_option linter.unusedVariables false
set_option linter.unusedSimpArgs false
set_option linter.unusedSectionVars false

/-- the places of the law -/
def xsL (s c k : Nat) : List Nat := (List.range k).map fun i => (i + c) % s
theorem xsL_succ (s c k : Nat) : xsL s c (k + 1) = xsL s c k ++ [(k + c) % s] := by
 unfold xsL
 rw [List.range_succ, List.map_append]; rfl
theorem xsL_len (s c k : Nat) : (xsL s c k).length = k := by unfold xsL; rw [List.length_map, List.length_range]
theorem xsL_in {F : Gf} (hF : Ok F) (c k : Nat) : In F (xsL F.q c k) := fun x hx => by
 obtain ⟨i, _, rfl⟩ := List.mem_map.1 hx
 exact Nat.mod_lt _ hF.zero_lt
theorem xsL_nodup {s c n : Nat} (hn : n ≤ s) : (xsL s c n).Nodup := by
 unfold xsL
 refine List.pairwise_map.2 (List.Pairwise.imp_of_mem ?_ List.pairwise_lt_range)
 intro i j hi hj hij e
 have hj' := List.mem_range.1 hj
 have h := Nat.sub_mod_eq_zero_of_mod_eq e.symm
 rw [show j + c - (i + c) = j - i by omega, Nat.mod_eq_of_lt (by omega)] at h
 omega
theorem ev_map_in {F : Gf} (hF : Ok F) (X A : List Nat) : In F (X.map fun v => ev F v A) := fun x hx => by
 obtain ⟨v, _, rfl⟩ := List.mem_map.1 hx
 exact ev_lt hF v A
/-- what has the values of A at as many places as it may have coefficients is A -/
theorem interp_uniq {F : Gf} (hF : Ok F) {P A X : List Nat} {n : Nat} (hP : Po F P) (hA : Po F A) (hd : X.Nodup) (hX : In F X) (eX : X.length = n) (l1 : P.length ≤ n) (l2 : A.length ≤ n)
  (h : ∀ k, k < n → ev F (X.getD k 0) P = (X.map fun v => ev F v A).getD k 0) : P = A := by
 refine val_uniq hF hP hA hd hX (by omega) (by omega) (fun x hx => ?_)
 obtain ⟨k, hk, rfl⟩ := List.getElem_of_mem hx
 have := h k (by omega)
 rwa [List.getD_eq_getElem?_getD, List.getElem?_eq_getElem hk, List.getD_eq_getElem?_getD, List.getElem?_map, List.getElem?_eq_getElem hk] at this
/-- a list that is padded with zeros -/
theorem pad_in {F : Gf} (hF : Ok F) {L : List Nat} (h : In F L) (t : Nat) : In F (L ++ List.replicate t 0) := fun x hx => by
 rcases List.mem_append.1 hx with hx | hx
 ·exact h x hx
 ·rw [List.eq_of_mem_replicate hx]; exact hF.zero_lt

/-! ### two rows of the call's own -/
structure TR (B : Nat) (vx vy : Value) (X Y : List Nat) (w : World) : Prop where
 x : w.ownsRow B 3 1 vx X.length (X.map N64)
 y : w.ownsRow B 3 1 vy Y.length (Y.map N64)
 bx : ∃ g, vx.ownBlock = some g
 b2 : ∃ g, vy.ownBlock = some g
 ne : vx.ownBlock ≠ vy.ownBlock
theorem own_form {w : World} {B n : Nat} {v : Value} {xs : List Value} (h : w.ownsRow B 3 1 v n xs) (hb : ∃ g, v.ownBlock = some g) : ∃ g c, v = .slice (some ⟨g, 0, none⟩) n c ∧ B ≤ g ∧ g < w.heap.size := by
 obtain ⟨g, hg⟩ := hb
 have hl := World.ownsRow.lt h g hg
 rcases h.2 with ⟨rfl, _⟩ | ⟨g', cap, cur, rfl, _⟩
 ·cases hg
 ·cases hg; exact ⟨g', cap, rfl, hl⟩
section
variable {B : Nat} {vx vy : Value} {X Y : List Nat} {w w' : World}
theorem TR.below (h : TR B vx vy X Y w) (hb : Below w.heap.size w w') : TR B vx vy X Y w' := ⟨own_belowK h.x hb, own_belowK h.y hb, h.bx, h.b2, h.ne⟩
theorem own_ltK {v : Value} {n : Nat} {xs : List Value} (h : w.ownsRow B 3 1 v n xs) : ∀ g, v.ownBlock = some g → g < w.heap.size := fun g hg => (World.ownsRow.lt h g hg).2
theorem own_ltK' {e g n c size : Nat} {xs : List Value} (h : w.ownsRow B e size (.slice (some ⟨g, 0, none⟩) n c) n xs) : g < w.heap.size := (World.ownsRow.lt h g rfl).2
theorem at_some {v v' : Value} {k : Nat} (hb : ∃ g, v.ownBlock = some g) (hat : v'.ownBlock = v.ownBlock ∨ v'.ownBlock = some k) : ∃ g, v'.ownBlock = some g := by
 obtain ⟨g, hg⟩ := hb
 rcases hat with h | h
 ·exact ⟨g, h.trans hg⟩
 ·exact ⟨_, h⟩
theorem at_ne {v v' u : Value} {n : Nat} {xs : List Value} (hu : w.ownsRow B 3 1 u n xs) (hne : v.ownBlock ≠ u.ownBlock) (hat : v'.ownBlock = v.ownBlock ∨ v'.ownBlock = some w.heap.size) : v'.ownBlock ≠ u.ownBlock := by
 rcases hat with h | h
 ·rw [h]; exact hne
 ·intro e
  have := own_ltK hu w.heap.size (e.symm.trans h)
  omega
theorem TR.appX {vx' : Value} {x k : Nat} (h : TR B vx vy X Y w) (hk : X.length = k) (ho : w'.ownsRow B 3 1 vx' (k + 1) (X.map N64 ++ [.int .i64 (x : Nat)])) (hg : w.grownBy w' vx.ownBlock) (hat : vx'.ownBlock = vx.ownBlock ∨ vx'.ownBlock = some w.heap.size) :
  TR B vx' vy (X ++ [x]) Y w' :=
 ⟨by rw [List.length_append, List.map_append, hk]; exact ho, World.ownsRow.kept h.y hg (.inr fun e => h.ne e.symm), at_some h.bx hat, h.b2, at_ne h.y h.ne hat⟩
theorem TR.appY {vy' : Value} {y k : Nat} (h : TR B vx vy X Y w) (hk : Y.length = k) (ho : w'.ownsRow B 3 1 vy' (k + 1) (Y.map N64 ++ [.int .i64 (y : Nat)])) (hg : w.grownBy w' vy.ownBlock) (hat : vy'.ownBlock = vy.ownBlock ∨ vy'.ownBlock = some w.heap.size) :
  TR B vx vy' X (Y ++ [y]) w' :=
 ⟨World.ownsRow.kept h.x hg (.inr h.ne), by rw [List.length_append, List.map_append, hk]; exact ho, h.bx, at_some h.b2 hat, fun e => at_ne h.x (fun e => h.ne e.symm) hat e.symm⟩
end
/-- two empty rows -/
theorem TR.new (w : World) : TR w.heap.size (.slice (some ⟨w.heap.size, 0, none⟩) 0 0) (.slice (some ⟨w.heap.size + 1, 0, none⟩) 0 0) [] [] ((w.alloc (.cells #[] 3)).alloc (.cells #[] 3)) := by
 have h1 : (w.alloc (.cells #[] 3)).ownsRow w.heap.size 3 1 (.slice (some ⟨w.heap.size, 0, none⟩) 0 0) 0 [] := World.ownsRow_made (base := w.heap.size) (e := 3) (size := 1) w #[] 0 (by simp) (Nat.zero_le _) rfl
 have h2 : ((w.alloc (.cells #[] 3)).alloc (.cells #[] 3)).ownsRow w.heap.size 3 1 (.slice (some ⟨(w.alloc (.cells #[] 3)).heap.size, 0, none⟩) 0 0) 0 [] := World.ownsRow_made (base := w.heap.size) (e := 3) (size := 1) (w.alloc (.cells #[] 3)) #[] 0 (by simp) (Nat.zero_le _) rfl
 have e : (w.alloc (.cells #[] 3)).heap.size = w.heap.size + 1 := by simp
 rw [e] at h2
 exact ⟨h1.alloc _, h2, ⟨_, rfl⟩, ⟨_, rfl⟩, by simp [Value.ownBlock]⟩
/-- append leaves the cells that were there -/
theorem app_cells {P : Program} {w w' : World} {v' : Value} (base : Nat) (t ty e : TypeId) (i : TypeInfo) (z : Value) (ht : P.underlying t = some (.slice e)) (hi : P.info? e = some i) (hz : i.zero = some z) (hsize : i.size = 1) (hby : i.bytes = 8)
  (g n cap : Nat) (xs : List Value) (hown : w.ownsRow base e 1 (.slice (some ⟨g, 0, none⟩) n cap) n xs) (ad : Addr) (c : Nat) (x : Value) (hnews : ∀ j u, [x][j]? = some u → w.cell? (ad.add j) = some u) (h1 : ∀ u ∈ [x], u.oneCell' = true)
  (h63 : n + 1 ≤ maxLen) (hb : (n + 1) * 8 ≤ 140737488355328)
  (hr : (Builtin.append_ #[t, t] ty #[.slice (some ⟨g, 0, none⟩) n cap, .slice (some ad) 1 c]).run P w = .ok v' w') : ∀ j, j < n → w'.cell? ⟨g, j, none⟩ = w.cell? ⟨g, j, none⟩ := by
 intro j hj
 rcases hown.2 with ⟨h, _⟩ | ⟨g', cap', cur, hv, hbg, hg, hnc, hcm, hcs, htake⟩
 ·cases h
 ·simp only [Value.slice.injEq, Option.some.injEq, Addr.mk.injEq] at hv
  obtain ⟨⟨rfl, _⟩, _, rfl⟩ := hv
  by_cases hroom : n + 1 ≤ cap
  ·have h := run_append_room (P := P) w t ty e i ht hi g n cap cur hg ad 1 c [x] (by rw [hsize]; rfl) hnews h1 hroom (by rw [hsize, hcs]; simp; omega)
   rw [hr] at h
   injection h with h2 h3
   rw [h3]
   simp only [World.cell?, setRow_heap w g cur _ e _ hg, hg]
   simp [hsize, List.getElem?_append, hj, show j < cur.size by omega]
   intro h'
   rw [show cur.size = cap by rw [hcs, Nat.mul_one]] at h'
   omega
  ·have hl := hown.1
   have hm := h63
   unfold maxLen at hm
   have h := run_append_grow (P := P) w t ty e i z ht hi hz ⟨g, 0, none⟩ n cap xs (by rw [hsize, hl]) (World.ownsRow.cells hown (g := g) rfl) ad 1 c [x] (by rw [hsize]; rfl) hnews (by omega) (by omega) (growslice_fits (by omega) (by rw [hby]; exact hb))
   rw [hr] at h
   injection h with h2 h3
   rw [h3]
   exact World.cell?_of_block (w := w) (heap_alloc_old w.drew _ g (own_ltK' hown))
/-- .. as one step of a region -/
theorem step_app {P : Program} {ops : Array Oper} {o : Oper} {a : Act} {w : World} {K : Act → World → Prop} {Q : Exit → Act → World → Prop} {E : Prop}
  (hg : o.guard = none) (s x : Operand) (t : TypeId) (hop : o.op = Op.call { callee := Callee.builtin Builtin.append, args := #[s, x], argTypes := #[t, t] })
  (base : Nat) (i : TypeInfo) (ht : P.underlying t = some (.slice 3)) (hi : P.info? 3 = some i) (hz : i.zero = some (.int .i64 0))
  (hsize : i.size = 1) (hby : i.bytes = 8)
  (g n cap : Nat) (xs : List Value) (hv : a.eval s = .slice (some ⟨g, 0, none⟩) n cap) (hown : w.ownsRow base 3 1 (.slice (some ⟨g, 0, none⟩) n cap) n xs)
  (ad : Addr) (c : Nat) (y : Value) (hx : a.eval x = .slice (some ad) 1 c) (hnews : ∀ j u, [y][j]? = some u → w.cell? (ad.add j) = some u) (h1 : ∀ u ∈ [y], u.oneCell' = true)
  (h63 : n + 1 ≤ maxLen) (hb : (n + 1) * 8 ≤ 140737488355328) (hbase : base ≤ w.heap.size)
  (hK : ∀ v' w', w'.ownsRow base 3 1 v' (n + 1) (xs ++ [y]) → w.grownBy w' (some g) → (v'.ownBlock = some g ∨ v'.ownBlock = some w.heap.size) → (∀ j, j < n → w'.cell? ⟨g, j, none⟩ = w.cell? ⟨g, j, none⟩) → K (a.put o.dst v') w') :
  if Region.wanted o (yielded ops a.tmps) = true then Oper.wp P o a w K Q else E := by
 have hw : Region.wanted o (yielded ops a.tmps) = true := by simp [Region.wanted, hg]
 rw [if_pos hw]
 obtain ⟨v', w', hrun, r1, r2, r3, r4⟩ := run_append_own_at (P := P) w base t o.type 3 i (.int .i64 0) 1 8 ht hi hz hsize hby rfl (by decide) _ n xs hown ad 1 c [y] rfl hnews h1 h63 hb hbase
 have r5 := app_cells (P := P) base t o.type 3 i (.int .i64 0) ht hi hz hsize hby g n cap xs hown ad c y hnews h1 h63 hb hrun
 unfold Oper.wp
 simp [execOp, hop, resolve, invoke, builtin, hv, hx, hrun, Result.andThen]
 exact hK v' w' r1 r2 r4 r5
/-- what holds throughout the region that appends to both -/
abbrev SJ (W : World) (gF : Nat) (p q : Int) (m : Value) (gX gY x0 y0 : Nat) (w : World) : Prop :=
 FB gF p q m w ∧ w.cell? ⟨gX, 0, none⟩ = some (.int .i64 (x0 : Nat)) ∧ w.cell? ⟨gY, 0, none⟩ = some (.int .i64 (y0 : Nat)) ∧ Hid (Below W.heap.size W w) ∧ Hid (W.heap.size ≤ gX ∧ W.heap.size ≤ gY ∧ gF < w.heap.size ∧ gX < w.heap.size ∧ gY < w.heap.size ∧ gF ≠ gX ∧ gF ≠ gY ∧ gX ≠ gY)
section
variable {W w w' : World} {gF gX gY x0 y0 : Nat} {p q : Int} {m : Value}
theorem SJ.keep (h : SJ W gF p q m gX gY x0 y0 w) (hb : Below w.heap.size w w') : SJ W gF p q m gX gY x0 y0 w' := by
 obtain ⟨h1, h2, h3, h4, h5⟩ := h
 have := h5.out
 have := h4.out.size
 have hs := hb.size
 exact ⟨FB.keep h1 hb (by omega), (hb.cell (p := ⟨gX, 0, none⟩) (by show gX < _; omega)).trans h2, (hb.cell (p := ⟨gY, 0, none⟩) (by show gY < _; omega)).trans h3, Lib.hid (h4.out.trans (hb.mono (by omega))), Lib.hid (by omega)⟩
theorem grown_cell {g b o : Nat} (hg : w.grownBy w' (some g)) (hb : b < w.heap.size) (hne : b ≠ g) : w'.cell? ⟨b, o, none⟩ = w.cell? ⟨b, o, none⟩ := World.cell?_of_block (w := w) (hg.block b hb (by simpa using hne))
theorem SJ.grow {g n : Nat} (h : SJ W gF p q m gX gY x0 y0 w) (hg : w.grownBy w' (some g)) (hgg : g = gX ∨ g = gY) (hc : ∀ j, j < n → w'.cell? ⟨g, j, none⟩ = w.cell? ⟨g, j, none⟩) (hn : 0 < n) : SJ W gF p q m gX gY x0 y0 w' := by
 obtain ⟨⟨a1, a2, a3⟩, h2, h3, h4, h5⟩ := h
 obtain ⟨b1, b2, b3, b4, b5, b6, b7, b8⟩ := h5.out
 have hs := hg.size
 have hF : gF ≠ g := by rcases hgg with rfl | rfl <;> omega
 have c1 : w'.cell? ⟨gX, 0, none⟩ = some (.int .i64 (x0 : Nat)) := by
  by_cases e : gX = g
  ·subst e; exact (hc 0 hn).trans h2
  ·exact (grown_cell hg b4 e).trans h2
 have c2 : w'.cell? ⟨gY, 0, none⟩ = some (.int .i64 (y0 : Nat)) := by
  by_cases e : gY = g
  ·subst e; exact (hc 0 hn).trans h3
  ·exact (grown_cell hg b5 e).trans h3
 exact ⟨⟨(grown_cell hg b3 hF).trans a1, (grown_cell hg b3 hF).trans a2, (grown_cell hg b3 hF).trans a3⟩, c1, c2, Lib.hid (h4.out.grown hg h4.out.size (fun k hk => by cases hk; rcases hgg with rfl | rfl <;> omega)), Lib.hid ⟨b1, b2, by omega, by omega, by omega, b6, b7, b8⟩⟩
end
/-- the cell of a new block of one number, one block later -/
theorem one_cell2 {w : World} {x : Value} {o : Obj} : ∀ j u, [x][j]? = some u → ((w.alloc (.cells #[x] 3)).alloc o).cell? ((⟨w.heap.size, 0, none⟩ : Addr).add j) = some u := fun j u h => by
 have h1 := cell_one_new w x 3 j u h
 refine Eq.trans ?_ h1
 have hb : Below (w.alloc (.cells #[x] 3)).heap.size (w.alloc (.cells #[x] 3)) ((w.alloc (.cells #[x] 3)).alloc o) := (Below.refl _ _).alloc (Nat.le_refl _) _
 exact hb.cell (p := (⟨w.heap.size, 0, none⟩ : Addr).add j) (by simp [Addr.add]; split <;> simp)
theorem one_grown {w w' : World} {x : Value} {g b : Nat} (hg : w.grownBy w' (some g)) (hb : b < w.heap.size) (hne : b ≠ g) (h : w.cell? ⟨b, 0, none⟩ = some x) : ∀ j u, [x][j]? = some u → w'.cell? ((⟨b, 0, none⟩ : Addr).add j) = some u := fun j u hj => by
 match j, hj with
 | 0, hj =>
  simp at hj
  subst hj
  exact (grown_cell hg hb hne).trans h
/-- numbers of the array that is an argument -/
abbrev KB (B : Nat) (c0 c1 : Nat) (w : World) : Prop := w.cell? ⟨B, 0, none⟩ = some (.int .u8 (c0 : Nat)) ∧ w.cell? ⟨B, 1, none⟩ = some (.int .u8 (c1 : Nat))
theorem KB.keep {B k c0 c1 : Nat} {w w' : World} (h : KB B c0 c1 w) (hb : Below k w w') (hk : B < k) : KB B c0 c1 w' := ⟨(hb.cell hk).trans h.1, (hb.cell hk).trans h.2⟩
end Go.Proofs.Ytllecfhfhcmpaaa
