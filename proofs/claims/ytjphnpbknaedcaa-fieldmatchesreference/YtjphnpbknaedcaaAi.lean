/- FieldAxioms: what its calls are known to return, whatever the elements are. -/
import Derived.Test.YtjphnpbknaedcaaAf
import Derived.Test.YtjphnpbknaedcaaMo
namespace Go.Proofs.Ytjphnpbknaedcaa
open Go.Ev Go.Fl
open Go.RowKit (Below)
set_option linter.unusedSectionVars false
set_option linter.unusedVariables false

/-- all that is evaluated of the fields' operations -/
structure OpsOk (F : Gf) : Prop where
  mem : F ∈ fds
  ex : chkEx F = true
  add : chk2 19 Gf.add F = true
  sub : chk2 21 Gf.sub F = true
  mul : chk2 23 Gf.mul F = true
  neg : chk1 25 Gf.neg F = true
  inv : chkInv F = true

section
variable [R : Rho] {F : Gf}
theorem one {f : FuncId} {G : Fct} (h : G.Holds Try.prog f) : ∀ G' ∈ [G], G'.Holds Try.prog f := fun G' hG => by rw [List.mem_singleton.1 hG]; exact h
theorem two {f : FuncId} {G : Fct} {l : List Fct} (h : G.Holds Try.prog f) (hl : ∀ G' ∈ l, G'.Holds Try.prog f) : ∀ G' ∈ G :: l, G'.Holds Try.prog f := fun G' hG => by
  rcases List.mem_cons.1 hG with e | e
  · rw [e]; exact h
  · exact hl G' e
theorem cifH {f : FuncId} {c : Bool} {G : Fct} (h : c = true → G.Holds Try.prog f) : ∀ G' ∈ cif c G, G'.Holds Try.prog f := by
  intro G' hG
  cases c
  · cases hG
  · rw [List.mem_singleton.1 hG]; exact h rfl

theorem fAdd (h : OpsOk F) {x y v : AV} {a b : Nat} (ha : a < F.q) (hb : b < F.q) (nx : Nu x a) (ny : Nu y b) (nv : Nu v (F.add a b : Nat)) : (f2 F x y v).Holds Try.prog 19 := op2_fact (ok_mem h.mem) h.ex h.add ha hb nx ny nv
theorem fSub (h : OpsOk F) {x y v : AV} {a b : Nat} (ha : a < F.q) (hb : b < F.q) (nx : Nu x a) (ny : Nu y b) (nv : Nu v (F.sub a b : Nat)) : (f2 F x y v).Holds Try.prog 21 := op2_fact (ok_mem h.mem) h.ex h.sub ha hb nx ny nv
theorem fMul (h : OpsOk F) {x y v : AV} {a b : Nat} (ha : a < F.q) (hb : b < F.q) (nx : Nu x a) (ny : Nu y b) (nv : Nu v (F.mul a b : Nat)) : (f2 F x y v).Holds Try.prog 23 := op2_fact (ok_mem h.mem) h.ex h.mul ha hb nx ny nv
theorem fNeg (h : OpsOk F) {y v : AV} {b : Nat} (hb : b < F.q) (ny : Nu y b) (nv : Nu v (F.neg b : Nat)) : (f1 F y v).Holds Try.prog 25 := op1_fact h.ex h.neg hb ny nv

theorem neg_zero (hF : Ok F) : F.neg 0 = 0 := by
  have h1 := hF.add_neg 0
  rw [Ok.add_comm, hF.add_zero (hF.neg_lt 0)] at h1
  exact h1

variable {a b c : Nat} {za zb : Bool}
theorem axFacts_ok (h : OpsOk F) {i : Nat} (hE : examplesF.Holds Try.prog 9) (hO : (ofF i F).Holds Try.prog 14) (ha : a < F.q) (hb : b < F.q) (hc : c < F.q) (hza : za = decide (a = 0)) (hzb : zb = decide (b = 0))
    (hr : ∀ k, k < 13 → Rho.ρ k = (([a, b, c, F.add a b, F.mul a b, F.add b c, F.add (F.add a b) c, F.mul b c, F.mul (F.mul a b) c, F.mul a c, F.mul (F.add a b) c, F.neg a, F.inv a].getD k 0 : Nat) : Int)) : FactsOk Try.prog (axFacts F za zb i) := by
  have hF := ok_mem h.mem
  have q0 : 0 < F.q := by have := hF.q2; omega
  have full : ∀ (k n : Nat), k < 13 → [a, b, c, F.add a b, F.mul a b, F.add b c, F.add (F.add a b) c, F.mul b c, F.mul (F.mul a b) c, F.mul a c, F.mul (F.add a b) c, F.neg a, F.inv a].getD k 0 = n → n < F.q → Nu (lv k 0 (F.q - 1)) n :=
    fun k n hk e hn => lv_nu (by rw [hr k hk, e]) (Nat.zero_le n) (by omega)
  have pos : ∀ (k n : Nat), k < 13 → [a, b, c, F.add a b, F.mul a b, F.add b c, F.add (F.add a b) c, F.mul b c, F.mul (F.mul a b) c, F.mul a c, F.mul (F.add a b) c, F.neg a, F.inv a].getD k 0 = n → n < F.q → n ≠ 0 → Nu (lv k 1 (F.q - 1)) n :=
    fun k n hk e hn hz => lv_nu (by rw [hr k hk, e]) (Nat.pos_of_ne_zero hz) (by omega)
  have ea : za = true → a = 0 := fun e => by rw [e] at hza; exact of_decide_eq_true hza.symm
  have na' : za = false → a ≠ 0 := fun e => by rw [e] at hza; exact of_decide_eq_false hza.symm
  have eb : zb = true → b = 0 := fun e => by rw [e] at hzb; exact of_decide_eq_true hzb.symm
  have nb' : zb = false → b ≠ 0 := fun e => by rw [e] at hzb; exact of_decide_eq_false hzb.symm
  have z_add : ∀ {x : Nat}, x < F.q → F.add 0 x = x := fun hx => by rw [Ok.add_comm, hF.add_zero hx]
  have nA : Nu (aA F za) a := by
    cases hz : za
    · exact pos 0 a (by omega) rfl ha (na' hz)
    · rw [ea hz]; exact I_nu 0
  have nB : Nu (aB F zb) b := by
    cases hz : zb
    · exact pos 1 b (by omega) rfl hb (nb' hz)
    · rw [eb hz]; exact I_nu 0
  have nC : Nu (aC F) c := full 2 c (by omega) rfl hc
  have ls := hF.add_lt a b
  have lp := hF.mul_lt a b
  have nS : Nu (aS F za zb) (F.add a b : Nat) := by
    cases hz : zb
    · cases hy : za
      · exact full 3 _ (by omega) rfl ls
      · have e := ea hy
        rw [e, z_add hb]; have := nB; rw [hz] at this; exact this
    · have e := eb hz
      rw [e, hF.add_zero ha]; exact nA
  have nP : Nu (aP F za zb) (F.mul a b : Nat) := by
    cases hy : za
    · cases hz : zb
      · exact pos 4 _ (by omega) rfl lp (hF.mul_ne (na' hy) (nb' hz))
      · rw [eb hz, Ok.mul_z]; exact I_nu 0
    · rw [ea hy, Ok.z_mul]; exact I_nu 0
  have n6 : Nu (aS6 F) (F.add (F.add a b) c : Nat) := full 6 _ (by omega) rfl (hF.add_lt _ _)
  have n5 : Nu (aS5 F za) (F.add b c : Nat) := by
    cases hy : za
    · exact full 5 _ (by omega) rfl (hF.add_lt _ _)
    · have e := ea hy
      rw [e, z_add hb] at n6; exact n6
  have n7 : Nu (aP7 F zb) (F.mul b c : Nat) := by
    cases hz : zb
    · exact full 7 _ (by omega) rfl (hF.mul_lt _ _)
    · rw [eb hz, Ok.z_mul]; exact I_nu 0
  have n8 : Nu (aP8 F za zb) (F.mul (F.mul a b) c : Nat) := by
    cases hy : za
    · cases hz : zb
      · exact full 8 _ (by omega) rfl (hF.mul_lt _ _)
      · rw [eb hz, Ok.mul_z, Ok.z_mul]; exact I_nu 0
    · rw [ea hy, Ok.z_mul, Ok.z_mul]; exact I_nu 0
  have n9 : Nu (aP9 F za) (F.mul a c : Nat) := by
    cases hy : za
    · exact full 9 _ (by omega) rfl (hF.mul_lt _ _)
    · rw [ea hy, Ok.z_mul]; exact I_nu 0
  have n10 : Nu (aP10 F za zb) (F.mul (F.add a b) c : Nat) := by
    cases hy : za
    · cases hz : zb
      · exact full 10 _ (by omega) rfl (hF.mul_lt _ _)
      · have e := eb hz
        rw [e, hF.add_zero ha]
        have := n9; rw [hy] at this; exact this
    · have e := ea hy
      rw [e, z_add hb]; exact n7
  have nN : Nu (aN F za) (F.neg a : Nat) := by
    cases hy : za
    · exact full 11 _ (by omega) rfl (hF.neg_lt _)
    · rw [ea hy, neg_zero hF]; exact I_nu 0
  have nI : Nu (aI F) (F.inv a : Nat) := pos 12 _ (by omega) rfl (hF.inv_lt _) (hF.inv_ne _)
  refine ⟨one hE, one hO, ?_, ?_, ?_, ?_, ?_, trivial⟩
  · refine two (fAdd h ha hb nA nB nS) (two (fAdd h hb ha nB nA ?_) (two (fAdd h ls hc nS nC n6) (two (fAdd h hb hc nB nC n5) (two (fAdd h ha (hF.add_lt _ _) nA n5 ?_) (two (fAdd h (hF.mul_lt _ _) (hF.mul_lt _ _) n9 n7 ?_) (two (fAdd h ha q0 nA (I_nu 0) ?_) (one (fAdd h ha (hF.neg_lt _) nA nN ?_))))))))
    · rw [Ok.add_comm]; exact nS
    · rw [← hF.add_assoc]; exact n6
    · rw [← hF.add_mul ha hb hc]; exact n10
    · rw [hF.add_zero ha]; exact nA
    · rw [hF.add_neg]; exact I_nu 0
  · refine one (fSub h ls hb nS nB ?_)
    rw [hF.add_sub ha]; exact nA
  · refine two (fMul h ha hb nA nB nP) (two (fMul h hb ha nB nA ?_) (two (fMul h lp hc nP nC n8) (two (fMul h hb hc nB nC n7) (two (fMul h ha (hF.mul_lt _ _) nA n7 ?_) (two (fMul h ls hc nS nC n10) (two (fMul h ha hc nA nC n9) (two (fMul h ha hF.one_lt nA (I_nu 1) ?_) (two (fMul h ha q0 nA (I_nu 0) ?_) (cifH fun hz => fMul h ha (hF.inv_lt _) nA nI ?_)))))))))
    · rw [Ok.mul_comm]; exact nP
    · rw [← hF.mul_assoc]; exact n8
    · rw [hF.mul_one ha]; exact nA
    · rw [Ok.mul_z]; exact I_nu 0
    · rw [hF.mul_inv ha (na' (by simpa using hz))]; exact I_nu 1
  · exact one (fNeg h ha nA nN)
  · refine one ?_
    cases hy : za
    · have := inv_fact hF h.ex h.mul h.inv ha (na' hy) nA nI
      rw [hy] at this; exact this
    · have e : Nu (aA F za) 0 := by have := nA; rw [ea hy] at this; exact this
      have := inv0_fact h.inv e
      rw [hy] at this; exact this
end

/-! ### the fields that the law takes -/
def LO : List (FuncId × List Fct) := [(39, [ordersF]), (11, rmk.map rmakeF)]
theorem of_k : fds.zipIdx.all (fun x => chk (orcOf LO) 14 (ofF x.2 x.1)) = true := by kernel_rfl

theorem byteX_vl [Rho] {n i : Nat} {r : SX} {lo x : Nat} (hi : Rho.ρ i = ((x / n : Nat) : Int)) (hr : r.eval = ((x % n : Nat) : Int)) : (byteX n i r lo).vl0 = .int .u8 (x : Int) := by
  show Value.int .u8 (Int.ofNat n * Rho.ρ i + r.eval) = _
  rw [hi, hr]
  congr 1
  rw [Int.ofNat_eq_natCast, ← Int.natCast_mul, ← Int.natCast_add, Nat.div_add_mod]
theorem byteX_fine [Rho] {n i : Nat} {r : SX} {lo x : Nat} (hx : x ≤ 255) (hi : Rho.ρ i = ((x / n : Nat) : Int)) (hr : r.eval = ((x % n : Nat) : Int)) (ho : r.ok) (hl : lo ≤ x % n) : (byteX n i r lo).fine0 := by
  have hv := byteX_vl (lo := lo) hi hr
  have he : (SX.bin .add (.bin .mul (.lit (Int.ofNat n)) (.var i 0 (Int.ofNat (255 / n)))) r).eval = (x : Int) := by
    have : Value.int .u8 _ = Value.int .u8 _ := hv
    injection this
  refine ⟨⟨⟨trivial, ?_⟩, ho⟩, ?_, ?_⟩
  · show (0 : Int) ≤ Rho.ρ i ∧ Rho.ρ i ≤ Int.ofNat (255 / n)
    rw [hi, Int.ofNat_eq_natCast]
    have := Nat.div_le_div_right (c := n) hx
    exact ⟨Int.natCast_nonneg _, Int.ofNat_le.2 this⟩
  · rw [he, Int.ofNat_eq_natCast]
    have := Nat.mod_le x n
    omega
  · rw [he]; omega
end Go.Proofs.Ytjphnpbknaedcaa
