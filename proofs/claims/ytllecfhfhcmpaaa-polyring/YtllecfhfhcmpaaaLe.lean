/- What the laws' walks take: polynomials with few coefficients. -/
import Derived.Test.YtllecfhfhcmpaaaLd
import Derived.Test.YtllecfhfhcmpaaaEvRk
namespace Go.Proofs.Ytllecfhfhcmpaaa
open Go.RowKit Go.Fl
set_option maxRecDepth 100000
set_option linter.unusedVariables false
set_option linter.unusedSimpArgs false
set_option linter.unusedSectionVars false

/-- a polynomial with at most n coefficients -/
def PL (F : Gf) (n : Nat) (l : List Nat) : Prop := Po F l ∧ l.length ≤ n
section
variable {F : Gf} (hF : Ok F)
include hF
theorem pl_add {n m k : Nat} {A B : List Nat} (hA : PL F n A) (hB : PL F m B) (h1 : n ≤ k) (h2 : m ≤ k) : PL F k (addP F A B) :=
 ⟨addP_po hF hA.1.el hB.1.el, by have := addP_len hF A B; have := hA.2; have := hB.2; omega⟩
theorem pl_mul {n m k : Nat} {A B : List Nat} (hA : PL F n A) (hB : PL F m B) (h1 : n + m ≤ k) : PL F k (mulP F A B) :=
 ⟨mulP_po hF A B, by have := mulP_le hF hA.1 hB.1; have := hA.2; have := hB.2; omega⟩
end
theorem pl_nil {F : Gf} {k : Nat} : PL F k [] := ⟨Po.nil, Nat.zero_le _⟩
theorem pl_tr {F : Gf} {k : Nat} {l : List Nat} (h : In F l) (hl : l.length ≤ k) : PL F k (trL l) := ⟨Po.tr h, Nat.le_trans (trL_len l) hl⟩
section
variable {F : Gf} {b cap n m : Nat} {A B : List Nat} {aa ab : Option Addr} {ca cb : Nat} {W : World}
theorem padd_po (hO : Ops F b cap W) (hA : PL F n A) (hB : PL F m B) (hn : n ≤ 1000) (hm : m ≤ 1000) (na : NN A W (.slice aa A.length ca)) (nb : NN B W (.slice ab B.length cb)) :
  Calls Try.prog 21 #[FV F b cap, .slice aa A.length ca, .slice ab B.length cb] W (SlPost (addP F A B) W) := by
 have := padd hO hA.1.el hB.1.el (Nat.le_trans hA.2 hn) (Nat.le_trans hB.2 hm) rfl rfl na nb
 rwa [trL_of hA.1.cn, trL_of hB.1.cn] at this
theorem pmul_po (hO : Ops F b cap W) (hA : PL F n A) (hB : PL F m B) (hn : n ≤ 1000) (hm : m ≤ 1000) (na : NN A W (.slice aa A.length ca)) (nb : NN B W (.slice ab B.length cb)) :
  Calls Try.prog 23 #[FV F b cap, .slice aa A.length ca, .slice ab B.length cb] W (SlPost (mulP F A B) W) := by
 have := pmul hO hA.1.el hB.1.el (Nat.le_trans hA.2 hn) (Nat.le_trans hB.2 hm) rfl rfl na nb
 rwa [trL_of hA.1.cn, trL_of hB.1.cn] at this
theorem ints_po (hA : PL F n A) (hB : PL F m B) (he : A = B) (hn : n ≤ 1000) (hm : m ≤ 1000) (na : NN A W (.slice aa A.length ca)) (nb : NN B W (.slice ab B.length cb)) :
  Calls Try.prog 14 #[.slice aa A.length ca, .slice ab B.length cb] W fun e w' => e = .returned (.bool true) ∧ Below W.heap.size W w' := by
 have := ints_c (A := A) (B := B) (by have := hA.2; omega) (by have := hB.2; omega) rfl rfl na nb
 rwa [decide_eq_true he] at this
theorem eval_po {x : Nat} (hO : Ops F b cap W) (hA : PL F n A) (hn : n ≤ 1000) (hx : x < F.q) (na : NN A W (.slice aa A.length ca)) :
  Calls Try.prog 27 #[FV F b cap, .slice aa A.length ca, .int .i64 (x : Nat)] W fun e w' => e = .returned (.int .i64 (ev F x A : Nat)) ∧ Below W.heap.size W w' := eval_c hO hA.1.el (Nat.le_trans hA.2 hn) rfl hx na
end
theorem ofL_len (F : Gf) (A : List Nat) (n : Nat) : (ofL F A n).length ≤ n := by
 unfold ofL; rw [List.length_map, List.length_take]; omega
/-- the box of the law's lists -/
abbrev LB (B : Nat) (v0 v1 v2 v3 : Value) (w : World) : Prop := w.cell? ⟨B, 0, none⟩ = some v0 ∧ w.cell? ⟨B, 1, none⟩ = some v1 ∧ w.cell? ⟨B, 2, none⟩ = some v2 ∧ w.cell? ⟨B, 3, none⟩ = some v3
theorem LB.keep {B k : Nat} {v0 v1 v2 v3 : Value} {w w' : World} (h : LB B v0 v1 v2 v3 w) (hb : Below k w w') (hk : B < k) : LB B v0 v1 v2 v3 w' :=
 ⟨(hb.cell hk).trans h.1, (hb.cell hk).trans h.2.1, (hb.cell hk).trans h.2.2.1, (hb.cell hk).trans h.2.2.2⟩
/-- what holds throughout a law -/
abbrev SL (W wS : World) (gF : Nat) (F : Gf) (b cap : Nat) (v0 v1 v2 v3 : Value) (w : World) : Prop :=
 FB gF F.p F.e (FM F b cap) w ∧ LB W.heap.size v0 v1 v2 v3 w ∧ Hid (Below W.heap.size W w) ∧ Hid (Below wS.heap.size wS w) ∧ Hid (FldAt F b cap w) ∧ Hid (W.heap.size < w.heap.size ∧ gF < w.heap.size)
theorem SL.keep {W wS : World} {gF : Nat} {F : Gf} {b cap : Nat} {v0 v1 v2 v3 : Value} {w w' : World} (h : SL W wS gF F b cap v0 v1 v2 v3 w) (hb : Below w.heap.size w w') : SL W wS gF F b cap v0 v1 v2 v3 w' := by
 have h1 := h.2.2.2.2.2.out
 have h2 := h.2.2.2.1.out.size
 have h3 := h.2.2.1.out.size
 exact ⟨FB.keep h.1 hb h1.2, LB.keep h.2.1 hb h1.1, Lib.hid (h.2.2.1.out.trans (hb.mono h3)), Lib.hid (h.2.2.2.1.out.trans (hb.mono h2)), Lib.hid (h.2.2.2.2.1.out.below hb), Lib.hid ⟨Nat.lt_of_lt_of_le h1.1 hb.size, Nat.lt_of_lt_of_le h1.2 hb.size⟩⟩
theorem SL.start {W wS : World} {gF : Nat} {F : Gf} {b cap : Nat} {v0 v1 v2 v3 : Value} {w : World} (h : SL W wS gF F b cap v0 v1 v2 v3 w) : SL W w gF F b cap v0 v1 v2 v3 w :=
 ⟨h.1, h.2.1, h.2.2.1, Lib.hid (Below.refl _ _), h.2.2.2.2.1, h.2.2.2.2.2⟩
theorem SL.drew {W wS : World} {gF : Nat} {F : Gf} {b cap : Nat} {v0 v1 v2 v3 : Value} {w : World} (h : SL W wS gF F b cap v0 v1 v2 v3 w) : SL W wS gF F b cap v0 v1 v2 v3 w.drew := h.keep (Below.refl _ _).drew
end Go.Proofs.Ytllecfhfhcmpaaa
