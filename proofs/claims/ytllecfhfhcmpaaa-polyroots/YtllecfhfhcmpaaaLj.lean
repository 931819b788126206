/- What the laws' walks take: polynomials with few coefficients. -/
import Derived.Test.YtllecfhfhcmpaaaLd
import Derived.Test.YtllecfhfhcmpaaaEvRk
import Derived.Test.YtllecfhfhcmpaaaEvSl
import Derived.ChangeSame
import Derived.WalkKit
import Derived.ProofKit
import Derived.OpenShut
namespace Go.Proofs.Ytllecfhfhcmpaaa
open Go.RowKit Go.Fl
set_option maxRecDepth 100000
set_option linter.unusedVariables false
set_option linter.unusedSimpArgs false
set_option linter.unusedSectionVars false

/-- a polynomial with at most n coefficients -/
def PL (F : Gf) (n : Nat) (l : List Nat) : Prop := Po F l ∧ l.length ≤ n
section
variable {F : Gf} (hF : Ok F)
include hF
theorem pl_add {n m k : Nat} {A B : List Nat} (hA : PL F n A) (hB : PL F m B) (h1 : n ≤ k) (h2 : m ≤ k) : PL F k (addP F A B) :=
 ⟨addP_po hF hA.1.el hB.1.el, by have := addP_len hF A B; have := hA.2; have := hB.2; omega⟩
theorem pl_mul {n m k : Nat} {A B : List Nat} (hA : PL F n A) (hB : PL F m B) (h1 : n + m ≤ k) : PL F k (mulP F A B) :=
 ⟨mulP_po hF A B, by have := mulP_le hF hA.1 hB.1; have := hA.2; have := hB.2; omega⟩
end
theorem pl_nil {F : Gf} {k : Nat} : PL F k [] := ⟨Po.nil, Nat.zero_le _⟩
theorem pl_tr {F : Gf} {k : Nat} {l : List Nat} (h : In F l) (hl : l.length ≤ k) : PL F k (trL l) := ⟨Po.tr h, Nat.le_trans (trL_len l) hl⟩
section
variable {F : Gf} {b cap n m : Nat} {A B : List Nat} {aa ab : Option Addr} {ca cb : Nat} {W : World}
theorem padd_po (hO : Ops F b cap W) (hA : PL F n A) (hB : PL F m B) (hn : n ≤ 1000) (hm : m ≤ 1000) (na : NN A W (.slice aa A.length ca)) (nb : NN B W (.slice ab B.length cb)) :
  Calls Try.prog 21 #[FV F b cap, .slice aa A.length ca, .slice ab B.length cb] W (SlPost (addP F A B) W) := by
 have := padd hO hA.1.el hB.1.el (Nat.le_trans hA.2 hn) (Nat.le_trans hB.2 hm) rfl rfl na nb
 rwa [trL_of hA.1.cn, trL_of hB.1.cn] at this
theorem pmul_po (hO : Ops F b cap W) (hA : PL F n A) (hB : PL F m B) (hn : n ≤ 1000) (hm : m ≤ 1000) (na : NN A W (.slice aa A.length ca)) (nb : NN B W (.slice ab B.length cb)) :
  Calls Try.prog 23 #[FV F b cap, .slice aa A.length ca, .slice ab B.length cb] W (SlPost (mulP F A B) W) := by
 have := pmul hO hA.1.el hB.1.el (Nat.le_trans hA.2 hn) (Nat.le_trans hB.2 hm) rfl rfl na nb
 rwa [trL_of hA.1.cn, trL_of hB.1.cn] at this
theorem ints_po (hA : PL F n A) (hB : PL F m B) (he : A = B) (hn : n ≤ 1000) (hm : m ≤ 1000) (na : NN A W (.slice aa A.length ca)) (nb : NN B W (.slice ab B.length cb)) :
  Calls Try.prog 14 #[.slice aa A.length ca, .slice ab B.length cb] W fun e w' => e = .returned (.bool true) ∧ Below W.heap.size W w' := by
 have := ints_c (A := A) (B := B) (by have := hA.2; omega) (by have := hB.2; omega) rfl rfl na nb
 rwa [decide_eq_true he] at this
theorem eval_po {x : Nat} (hO : Ops F b cap W) (hA : PL F n A) (hn : n ≤ 1000) (hx : x < F.q) (na : NN A W (.slice aa A.length ca)) :
  Calls Try.prog 27 #[FV F b cap, .slice aa A.length ca, .int .i64 (x : Nat)] W fun e w' => e = .returned (.int .i64 (ev F x A : Nat)) ∧ Below W.heap.size W w' := eval_c hO hA.1.el (Nat.le_trans hA.2 hn) rfl hx na
end
/-- division where quotient and remainder are known -/
theorem dm_po {F : Gf} {b cap n m : Nat} {A B Q R : List Nat} {aa ab : Option Addr} {ca cb : Nat} {W : World} (hO : Ops F b cap W) (hA : PL F n A) (hB : PL F m B) (hne : B ≠ []) (hd : DM F A B Q R) (hn : n ≤ 1000) (hm : m ≤ 1000) (na : NN A W (.slice aa A.length ca)) (nb : NN B W (.slice ab B.length cb)) :
  Calls Try.prog 17 #[FV F b cap, .slice aa A.length ca, .slice ab B.length cb] W fun e w' => ∃ a c a' c', e = .returned (.tuple #[.slice a Q.length c, .slice a' R.length c', .int .i64 0]) ∧ NN Q w' (.slice a Q.length c) ∧ NN R w' (.slice a' R.length c') ∧ Below W.heap.size W w' := by
 obtain ⟨rfl, rfl⟩ := dqr_of hO.ok hB.1 hd
 have h := divmod_hi hO hA.1.el hB.1.el (Nat.le_trans hA.2 hn) (Nat.le_trans hB.2 hm) rfl rfl na nb (by rw [trL_of hB.1.cn]; exact hne)
 rw [trL_of hA.1.cn, trL_of hB.1.cn] at h
 exact h.mono fun e w' ⟨a, c, a', c', h1, h2, h3, h4⟩ => ⟨a, c, a', c', h1, h2, h3, h4⟩
theorem dm_zero {F : Gf} {b cap : Nat} {va : Value} {ab : Option Addr} {cb : Nat} {B : List Nat} {W : World} (he : B = []) (nb : NN B W (.slice ab B.length cb)) :
  Calls Try.prog 17 #[FV F b cap, va, .slice ab B.length cb] W fun e w' => e = .returned (.tuple #[.slice none 0 0, .slice none 0 0, .int .i64 3]) ∧ Below W.heap.size W w' := by
 subst he
 exact divmod_lo (by decide) rfl nb rfl
theorem gcd_po {F : Gf} {b cap n m : Nat} {A B G : List Nat} {aa ab : Option Addr} {ca cb : Nat} {W : World} (hO : Ops F b cap W) (hA : PL F n A) (hB : PL F m B) (hg : IsGcd F A B G) (hn : n ≤ 1000) (hm : m ≤ 1000) (na : NN A W (.slice aa A.length ca)) (nb : NN B W (.slice ab B.length cb)) :
  Calls Try.prog 25 #[FV F b cap, .slice aa A.length ca, .slice ab B.length cb] W (SlPost G W) := by
 refine (gcd_c hO hA.1.el hB.1.el (Nat.le_trans hA.2 hn) (Nat.le_trans hB.2 hm) rfl rfl na nb).mono ?_
 rintro e w' ⟨G', a, c, rfl, h1, h2, -, h4⟩
 rw [trL_of hA.1.cn, trL_of hB.1.cn] at h2
 obtain rfl := h2.uniq hO.ok hg
 exact ⟨a, c, rfl, h1, h4⟩
theorem dm_len {F : Gf} (hF : Ok F) {A B Q R : List Nat} (hA : Po F A) (hB : Po F B) (hne : B ≠ []) (h : DM F A B Q R) : Q.length ≤ A.length := by
 by_cases hq : Q = []
 ·rw [hq]; exact Nat.zero_le _
 ·have l1 := mulP_len hF h.q hB hq hne
  have p1 := List.length_pos_iff.2 hq
  have p2 := List.length_pos_iff.2 hne
  have hl := h.len
  have hPn : mulP F Q B ≠ [] := mulP_ne hF h.q hB hq hne
  have htop := cn_last (mulP_po hF Q B).cn hPn
  have e1 : fn A ((mulP F Q B).length - 1) ≠ 0 := by
   rw [h.eq]
   show F.add (pm F Q (fn B) ((mulP F Q B).length - 1)) (fn R ((mulP F Q B).length - 1)) ≠ 0
   rw [← fn_mulP hF, fn_ge (l := R) (by omega), hF.add_zero (show fn (mulP F Q B) ((mulP F Q B).length - 1) < F.q from (mulP_po hF Q B).el.get hF _)]
   exact htop
  have := lt_len e1
  omega
theorem ofL_len (F : Gf) (A : List Nat) (n : Nat) : (ofL F A n).length ≤ n := by
 unfold ofL; rw [List.length_map, List.length_take]; omega
/-- numbers below 256 -/
def By (l : List Nat) : Prop := ∀ x ∈ l, x < 256
/-- the box of the law's lists -/
abbrev LB (B : Nat) (v0 v1 v2 v3 : Value) (w : World) : Prop := w.cell? ⟨B, 0, none⟩ = some v0 ∧ w.cell? ⟨B, 1, none⟩ = some v1 ∧ w.cell? ⟨B, 2, none⟩ = some v2 ∧ w.cell? ⟨B, 3, none⟩ = some v3
theorem LB.keep {B k : Nat} {v0 v1 v2 v3 : Value} {w w' : World} (h : LB B v0 v1 v2 v3 w) (hb : Below k w w') (hk : B < k) : LB B v0 v1 v2 v3 w' :=
 ⟨(hb.cell hk).trans h.1, (hb.cell hk).trans h.2.1, (hb.cell hk).trans h.2.2.1, (hb.cell hk).trans h.2.2.2⟩
/-- what holds throughout a law -/
abbrev SL (W wS : World) (gF : Nat) (F : Gf) (b cap : Nat) (v0 v1 v2 v3 : Value) (w : World) : Prop :=
 FB gF F.p F.e (FM F b cap) w ∧ LB W.heap.size v0 v1 v2 v3 w ∧ Hid (Below W.heap.size W w) ∧ Hid (Below wS.heap.size wS w) ∧ Hid (FldAt F b cap w) ∧ Hid (W.heap.size < w.heap.size ∧ gF < w.heap.size)
theorem SL.keep {W wS : World} {gF : Nat} {F : Gf} {b cap : Nat} {v0 v1 v2 v3 : Value} {w w' : World} (h : SL W wS gF F b cap v0 v1 v2 v3 w) (hb : Below w.heap.size w w') : SL W wS gF F b cap v0 v1 v2 v3 w' := by
 have h1 := h.2.2.2.2.2.out
 have h2 := h.2.2.2.1.out.size
 have h3 := h.2.2.1.out.size
 exact ⟨FB.keep h.1 hb h1.2, LB.keep h.2.1 hb h1.1, Lib.hid (h.2.2.1.out.trans (hb.mono h3)), Lib.hid (h.2.2.2.1.out.trans (hb.mono h2)), Lib.hid (h.2.2.2.2.1.out.below hb), Lib.hid ⟨Nat.lt_of_lt_of_le h1.1 hb.size, Nat.lt_of_lt_of_le h1.2 hb.size⟩⟩
theorem SL.start {W wS : World} {gF : Nat} {F : Gf} {b cap : Nat} {v0 v1 v2 v3 : Value} {w : World} (h : SL W wS gF F b cap v0 v1 v2 v3 w) : SL W w gF F b cap v0 v1 v2 v3 w :=
 ⟨h.1, h.2.1, h.2.2.1, Lib.hid (Below.refl _ _), h.2.2.2.2.1, h.2.2.2.2.2⟩
theorem SL.drew {W wS : World} {gF : Nat} {F : Gf} {b cap : Nat} {v0 v1 v2 v3 : Value} {w : World} (h : SL W wS gF F b cap v0 v1 v2 v3 w) : SL W wS gF F b cap v0 v1 v2 v3 w.drew := h.keep (Below.refl _ _).drew
end Go.Proofs.Ytllecfhfhcmpaaa

/- The laws' lists as an argument. -/
namespace Go.Proofs.Ytllecfhfhcmpaaa
open Go.ChangeShapes Go.WideShapes Go.ChangeAt Go.RowKit
set_option linter.unusedVariables false
set_option linter.unusedSimpArgs false

theorem own : ownKnob Try.prog.godebug = none := by kernel_rfl
theorem u24 : Try.prog.underlying 24 = some (.struct #[{ name := "Q", type := 5, offset := 0, embedded := false, tag := "", pkgPath := "", byteOffset := 0 }, { name := "A", type := 22, offset := 1, embedded := false, tag := "", pkgPath := "", byteOffset := 8 }, { name := "B", type := 22, offset := 2, embedded := false, tag := "", pkgPath := "", byteOffset := 32 }, { name := "C", type := 22, offset := 3, embedded := false, tag := "", pkgPath := "", byteOffset := 56 }]) := by kernel_rfl
theorem u22 : Try.prog.underlying 22 = some (.slice 5) := by kernel_rfl
theorem u5 : Try.prog.underlying 5 = some (.int .u8) := by kernel_rfl
theorem cl24 : Try.prog.cellsOf 24 = 4 := by kernel_rfl
theorem cl22 : Try.prog.cellsOf 22 = 1 := by kernel_rfl
theorem cl5 : Try.prog.cellsOf 5 = 1 := by kernel_rfl
theorem t24 : Try.prog.cellTypes Try.prog.depth 24 = some [5, 22, 22, 22] := by kernel_rfl
theorem bd8 {a : Int} (h : (Lit.int .u8 a).wf = true) : ∃ n : Nat, a = (n : Int) ∧ n ≤ 255 := by
 simp only [Lit.wf, Bool.and_eq_true, decide_eq_true_eq] at h
 simp [IntKind.min, IntKind.max, IntKind.bits, IntKind.signed] at h
 exact ⟨a.toNat, by omega, by omega⟩

/-- a list of bytes as the law wants it, and as it reads when the law has answered -/
structure ArgB {H : Type} (enc : TypeId × Value → H) (W : World) (v : Value) (d : DataW H) (p : List MemPlace) (A : List Nat) (a : Option Addr) (c : Nat) : Prop where
 is : v = .slice a A.length c
 by' : By A
 len : A.length ≤ maxLen
 given : N8 A W (.slice a A.length c)
 shut : ∀ W', Below W.heap.size W W' → ∀ sp : Nat → Bool, (∀ q ∈ p, sp q.block = true) → DataW.Trod enc Try.prog W' 0 sp true 22 v d p
theorem argB {H : Type} {enc : TypeId × Value → H} {W : World} {b0 : Nat} {v : Value} {d : DataW H} {p : List MemPlace}
  (hv : Value.okWide Try.prog W .any b0 22 v) (h : DataW.Trod enc Try.prog W 0 (fun _ => true) true 22 v d p) : ∃ A a c, ArgB enc W v d p A a c := by
 rcases Go.Ev.open_sl u22 u5 cl5 hv h with ⟨rfl, rfl, rfl⟩ | ⟨b, off, len, cap, zs, rfl, hb, hl, hm, hz, rfl, rfl, hcell, hw, c, e', fz, hh, hcs⟩
 ·exact ⟨[], none, 0, rfl, fun x hx => by simp at hx, by simp, .inl ⟨rfl, none, 0, rfl⟩, fun W' _ sp _ => Go.Ev.shut_nil u22⟩
 ·have hlen : ((zs.take len).map Int.toNat).length = len := by rw [List.length_map, List.length_take]; omega
  refine ⟨(zs.take len).map Int.toNat, some ⟨b, off, none⟩, cap, by rw [hlen], fun x hx => ?_, by rw [hlen]; omega, .inr ⟨b, off, cap, rfl, hb, fun t ht => ?_⟩, fun W' hg sp hsp => Go.Ev.shut_sl u22 u5 cl5 hb hl hm hz hcell hw hg hsp⟩
  ·obtain ⟨y, hy, rfl⟩ := List.mem_map.1 hx
   obtain ⟨n, rfl, hn⟩ := bd8 (hw y (List.mem_of_mem_take hy))
   show ((n : Int)).toNat < 256
   omega
  ·rw [hlen] at ht
   rw [hcell t (by omega)]
   have e1 : zs.getD t 0 = ((((zs.take len).map Int.toNat).getD t 0 : Nat) : Int) := by
    have ht2 : t < zs.length := by omega
    obtain ⟨n, hn, _⟩ := bd8 (hw zs[t] (List.getElem_mem _))
    simp [List.getD, ht, ht2, List.getElem?_take_of_lt ht, hn]
   rw [e1]
section
variable {H : Type} {enc : TypeId × Value → H} {W : World}
theorem open_lists {b0 : Nat} {v : Value} {d : DataW H} {p : List MemPlace} (hv : Value.okWide Try.prog W .any b0 24 v) (h : DataW.Trod enc Try.prog W 0 (fun _ => true) true 24 v d p) :
  ∃ (q : Int) (va vb vc : Value) (da db dc : DataW H) (pa pb pc : List MemPlace), v = .agg #[.int .u8 q, va, vb, vc] ∧ d = .agg [.lit (.int .u8 q), da, db, dc] ∧ p = pa ++ (pb ++ pc) ∧ (Lit.int .u8 q).wf = true ∧
   (Value.okWide Try.prog W .any b0 22 va ∧ DataW.Trod enc Try.prog W 0 (fun _ => true) true 22 va da pa) ∧ (Value.okWide Try.prog W .any b0 22 vb ∧ DataW.Trod enc Try.prog W 0 (fun _ => true) true 22 vb db pb) ∧ (Value.okWide Try.prog W .any b0 22 vc ∧ DataW.Trod enc Try.prog W 0 (fun _ => true) true 22 vc dc pc) := by
 simp only [Value.okWide, u24] at hv
 obtain ⟨cs, rfl, hsz, ts, hts, _, hrow⟩ := hv
 rw [t24] at hts
 obtain rfl := (Option.some.inj hts).symm
 have hcs : ∃ e0 e1 e2 e3, cs = #[e0, e1, e2, e3] := by
  have h4 := hsz.trans cl24
  obtain ⟨l⟩ := cs
  match l, h4 with
  | [a, b, c, d], _ => exact ⟨a, b, c, d, rfl⟩
 obtain ⟨e0, e1, e2, e3, rfl⟩ := hcs
 have hok : ∀ (j : Nat) (e : Value), (#[e0, e1, e2, e3] : Array Value)[j]? = some e → ([5, 22, 22, 22] : List TypeId)[j % ([5, 22, 22, 22] : List TypeId).length]? = some 22 → Value.okWide Try.prog W .any b0 22 e := fun j e he ht => by
  obtain ⟨u, hu, hk⟩ := hrow j e he
  obtain rfl : (22 : TypeId) = u := by rw [ht] at hu; exact Option.some.inj hu
  simp only [Value.okWide, u22]
  exact hk
 have hv1 := hok 1 e1 rfl rfl
 have hv2 := hok 2 e2 rfl rfl
 have hv3 := hok 3 e3 rfl rfl
 obtain ⟨fuel, hf⟩ := h
 obtain ⟨xs, n, rfl, hx, hl, hxs, hg⟩ := DataW.trod_struct u24 hf
 match xs, hxs with
 | [x0, x1, x2, x3], _ =>
  have g0 : DataW.trod enc Try.prog W 0 (fun _ => true) true n 5 (([e0, e1, e2, e3].drop 0).take (Try.prog.cellsOf 5)) = some x0 := hg 0 _ rfl
  have g1 : DataW.trod enc Try.prog W 0 (fun _ => true) true n 22 (([e0, e1, e2, e3].drop 1).take (Try.prog.cellsOf 22)) = some x1 := hg 1 _ rfl
  have g2 : DataW.trod enc Try.prog W 0 (fun _ => true) true n 22 (([e0, e1, e2, e3].drop 2).take (Try.prog.cellsOf 22)) = some x2 := hg 2 _ rfl
  have g3 : DataW.trod enc Try.prog W 0 (fun _ => true) true n 22 (([e0, e1, e2, e3].drop 3).take (Try.prog.cellsOf 22)) = some x3 := hg 3 _ rfl
  rw [cl5] at g0
  rw [cl22] at g1 g2 g3
  obtain ⟨q, q0, rfl, w0⟩ := DataW.trod_int u5 g0
  simp at q0 g1 g2 g3
  subst q0
  simp at hx
  obtain ⟨rfl, rfl⟩ := hx
  have one : ∀ e, Value.okWide Try.prog W .any b0 22 e → e.cells.toList = [e] := fun e he => by
   obtain ⟨q1, q2, q3, h⟩ := okWide_slice u22 he
   rw [h]; rfl
  exact ⟨q, e1, e2, e3, x1.1, x2.1, x3.1, x1.2, x2.2, x3.2, rfl, rfl, rfl, w0, ⟨hv1, n, by rw [one e1 hv1]; exact g1⟩, ⟨hv2, n, by rw [one e2 hv2]; exact g2⟩, ⟨hv3, n, by rw [one e3 hv3]; exact g3⟩⟩
theorem shut_lists {W' : World} {sp : Nat → Bool} {q : Int} {va vb vc : Value} {da db dc : DataW H} {pa pb pc : List MemPlace} (w0 : (Lit.int .u8 q).wf = true) (sa : va.cells.toList = [va]) (sb : vb.cells.toList = [vb]) (sc : vc.cells.toList = [vc])
  (ha : DataW.Trod enc Try.prog W' 0 sp true 22 va da pa) (hb : DataW.Trod enc Try.prog W' 0 sp true 22 vb db pb) (hc : DataW.Trod enc Try.prog W' 0 sp true 22 vc dc pc) :
  DataW.Trod enc Try.prog W' 0 sp true 24 (.agg #[.int .u8 q, va, vb, vc]) (.agg [.lit (.int .u8 q), da, db, dc]) (pa ++ (pb ++ pc)) := by
 obtain ⟨n1, h1⟩ := ha
 obtain ⟨n2, h2⟩ := hb
 obtain ⟨n3, h3⟩ := hc
 rw [sa] at h1
 rw [sb] at h2
 rw [sc] at h3
 have k1 := DataW.trod_le (show n1 ≤ n1 + n2 + n3 + 1 by omega) h1
 have k2 := DataW.trod_le (show n2 ≤ n1 + n2 + n3 + 1 by omega) h2
 have k3 := DataW.trod_le (show n3 ≤ n1 + n2 + n3 + 1 by omega) h3
 have f0 := trod_int_mk (enc := enc) (w := W') (base := 0) (spare := sp) (held := true) (n1 + n2 + n3) u5 w0
 have t := trod_struct_mk (enc := enc) (w := W') (base := 0) (spare := sp) (held := true) (n := n1 + n2 + n3 + 1) (cs := [.int .u8 q, va, vb, vc]) (xs := [(.lit (.int .u8 q), []), (da, pa), (db, pb), (dc, pc)]) u24 (by rw [cl24]; rfl)
  (by simp [cl5, cl22, f0, k1, k2, k3])
 exact ⟨n1 + n2 + n3 + 1 + 1, by simpa [Value.cells] using t⟩
end
end Go.Proofs.Ytllecfhfhcmpaaa

/- The roots of a polynomial as a list: how many, in which order. -/
namespace Go.Proofs.Ytllecfhfhcmpaaa
open Go.RowKit Go.Fl
set_option linter.unusedVariables false
set_option linter.unusedSectionVars false
theorem rootsTo_nil (F : Gf) (n : Nat) : (rootsTo F [] n).length = n := by
 have : rootsTo F [] n = List.range n := by
  unfold rootsTo
  exact List.filter_eq_self.2 fun x _ => rfl
 rw [this, List.length_range]
theorem mem_rootsTo {F : Gf} {A : List Nat} {n x : Nat} : x ∈ rootsTo F A n ↔ x < n ∧ ev F x A = 0 := by
 unfold rootsTo
 simp
theorem rootsTo_pw (F : Gf) (A : List Nat) (n : Nat) : (rootsTo F A n).Pairwise (· < ·) := List.pairwise_lt_range.filter _
theorem rootsTo_nodup (F : Gf) (A : List Nat) (n : Nat) : (rootsTo F A n).Nodup := (rootsTo_pw F A n).imp fun h => Nat.ne_of_lt h
theorem rootsTo_few {F : Gf} (hF : Ok F) {A : List Nat} (hA : Po F A) (h0 : A ≠ []) : (rootsTo F A F.q).length < A.length :=
 roots_lt hF (rootsTo_nodup F A F.q) (fun x hx => mem_rootsTo.1 hx) hA h0
theorem rootsTo_get {F : Gf} {A : List Nat} {n i : Nat} (hi : i < (rootsTo F A n).length) : (rootsTo F A n).getD i 0 < n := by
 rw [List.getD_eq_getElem?_getD, List.getElem?_eq_getElem hi]
 exact (mem_rootsTo.1 (List.getElem_mem hi)).1
theorem rootsTo_up {F : Gf} {A : List Nat} {n i : Nat} (hi : i + 1 < (rootsTo F A n).length) : (rootsTo F A n).getD i 0 < (rootsTo F A n).getD (i + 1) 0 := by
 rw [List.getD_eq_getElem?_getD, List.getD_eq_getElem?_getD, List.getElem?_eq_getElem hi, List.getElem?_eq_getElem (by omega)]
 exact List.pairwise_iff_getElem.1 (rootsTo_pw F A n) i (i + 1) (by omega) hi (by omega)
/-- those of a list at which A does not vanish -/
def offA (F : Gf) (A M : List Nat) : List Nat := M.filter fun x => ev F x A != 0
theorem offA_succ {F : Gf} {A M : List Nat} {i : Nat} (hi : i < M.length) : (offA F A (M.take (i + 1))).length = (offA F A (M.take i)).length + (if ev F (M.getD i 0) A = 0 then 0 else 1) := by
 have e : M.take (i + 1) = M.take i ++ [M.getD i 0] := by
  rw [List.take_add_one, List.getElem?_eq_getElem hi]
  simp [List.getD, hi]
 unfold offA
 rw [e, List.filter_append, List.length_append]
 generalize M.getD i 0 = x
 by_cases h : ev F x A = 0 <;> simp [h]
theorem rootsTo_mul {F : Gf} (hF : Ok F) {A B : List Nat} (hA : Po F A) (hB : Po F B) : ∀ n, n ≤ F.q → (rootsTo F (mulP F A B) n).length = (rootsTo F A n).length + (offA F A (rootsTo F B n)).length
 | 0, _ => rfl
 | n + 1, h => by
  have ih := rootsTo_mul hF hA hB n (by omega)
  rw [rootsTo_succ, rootsTo_succ, rootsTo_succ]
  unfold offA at ih ⊢
  rw [List.filter_append]
  simp only [List.length_append]
  rw [ih, ev_mulP hF (by omega) hA.el hB.el]
  have la := ev_lt hF n A
  have lb := ev_lt hF n B
  have hm : (F.mul (ev F n A) (ev F n B) = 0) ↔ (ev F n A = 0 ∨ ev F n B = 0) := ⟨mul_zero_of hF la lb, fun h => h.elim (fun h => by rw [h, Ok.z_mul]) (fun h => by rw [h, Ok.mul_z])⟩
  by_cases a : ev F n A = 0 <;> by_cases b : ev F n B = 0 <;> simp [hm, a, b, Ok.z_mul, Ok.mul_z] <;> omega
/-- which elements a list holds -/
theorem seen_end {F : Gf} {A : List Nat} {n x : Nat} (hx : x < n) : decide (x ∈ rootsTo F A n) = decide (ev F x A = 0) := by
 simp only [mem_rootsTo, hx, true_and]
theorem roots_po {F : Gf} {b cap n : Nat} {A R : List Nat} {aa : Option Addr} {ca : Nat} {W : World} (hO : Ops F b cap W) (hA : PL F n A) (hr : rootsTo F A F.q = R) (hn : n ≤ 1000) (na : NN A W (.slice aa A.length ca)) :
  Calls Try.prog 29 #[FV F b cap, .slice aa A.length ca] W (SlPost R W) := by
 rw [← hr]
 exact roots_c hO hA.1.el (Nat.le_trans hA.2 hn) rfl na
end Go.Proofs.Ytllecfhfhcmpaaa
