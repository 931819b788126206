/- Trace: evaluated with letters for the powers and sums on the way. -/
import Derived.Test.YtjphnpbknaedcaaAi
namespace Go.Proofs.Ytjphnpbknaedcaa
open Go.Ev Go.Fl
open Go.RowKit (Below)
set_option linter.unusedSectionVars false
set_option linter.unusedVariables false
variable {F : Gf}

def frobN (F : Gf) (a : Nat) : Nat → Nat
  | 0 => a
  | t + 1 => F.pow (frobN F a t) F.p
def sumN (F : Gf) (a : Nat) : Nat → Nat
  | 0 => 0
  | t + 1 => F.add (sumN F a t) (frobN F a t)

theorem trS_eq (a : Nat) : ∀ (n t : Nat), trS F n (frobN F a t) (sumN F a t) = sumN F a (t + n)
  | 0, t => rfl
  | n + 1, t => by
    show trS F n (frobN F a (t + 1)) (sumN F a (t + 1)) = _
    rw [trS_eq a n (t + 1)]; congr 1; omega
theorem tr_eq (a : Nat) : F.tr a = sumN F a F.e := by
  have := trS_eq (F := F) a F.e 0
  rwa [Nat.zero_add] at this

/-- letter 2 t: the power P taken t times; letter 2 t + 1: the sum of t + 1 of them -/
def tp (F : Gf) (a k : Nat) : Nat := if k % 2 = 0 then frobN F a (k / 2) else sumN F a (k / 2 + 1)
abbrev tL (F : Gf) (k : Nat) : AV := lv k 0 (F.q - 1)
def tS (F : Gf) : Nat → AV
  | 0 => I 0
  | t + 1 => tL F (2 * t + 1)
abbrev p2 (F : Gf) (x : AV) (n : Nat) (v : AV) : Fct := ⟨[fA F, x, I n], fOld F, .tup [v, I 0], [], []⟩
def trA (F : Gf) : List Fct := (List.range F.e).map fun t => ⟨[fA F, tS F t, tL F (2 * t)], fOld F, tL F (2 * t + 1), [], []⟩
def trP (F : Gf) : List Fct := (List.range F.e).map fun t => p2 F (tL F (2 * t)) F.p (tL F (2 * t + 2))
abbrev trL (F : Gf) : List (FuncId × List Fct) := [(19, trA F), (29, trP F)]
noncomputable def chkTrc (F : Gf) : Bool := (Fct.mk [fA F, tL F 0] (fOld F) (tS F F.e) [] []).got ((evF Try.prog (orcOf (trL F)) 5000).call 35 [fA F, tL F 0] (fSt F))

/-- with the powers P -/
structure OpsP (F : Gf) : Prop extends OpsOk F where
  powP : chkPow F.p F = true
  trc : chkTrc F = true

theorem fPow [R : Rho] (h : OpsP F) {x v : AV} {a : Nat} (ha : a < F.q) (nx : Nu x a) (nv : Nu v (F.pow a F.p : Nat)) : (p2 F x F.p v).Holds Try.prog 29 :=
  pow_fact (ok_mem h.mem) h.ex h.mul (by have := (ok_mem h.mem).p2; omega) h.powP ha nx (I_nu _) nv

theorem frob_lt (hF : Ok F) {a : Nat} (ha : a < F.q) : ∀ t, frobN F a t < F.q
  | 0 => ha
  | t + 1 => hF.pow_lt _ _
theorem sum_lt (hF : Ok F) (a : Nat) : ∀ t, sumN F a t < F.q
  | 0 => by have := hF.q2; show 0 < F.q; omega
  | t + 1 => hF.add_lt _ _

theorem fTr [R : Rho] (h : OpsP F) {x v : AV} {a : Nat} (ha : a < F.q) (nx : Nu x a) (nv : Nu v (F.tr a : Nat)) : (f1 F x v).Holds Try.prog 35 := by
  have hF := ok_mem h.mem
  have q0 : 0 < F.q := by have := hF.q2; omega
  have h0 : @Fct.Holds (rhoN (tp F a)) Try.prog 35 ⟨[fA F, tL F 0], fOld F, tS F F.e, [], []⟩ ∧ @Nu (rhoN (tp F a)) (tS F F.e) (F.tr a : Nat) ∧ @Nu (rhoN (tp F a)) (tL F 0) (a : Nat) := by
    letI := rhoN (tp F a)
    have nE : ∀ t, Nu (tL F (2 * t)) (frobN F a t : Nat) := fun t => by
      have := frob_lt hF ha t
      refine lv_nu ?_ (Nat.zero_le _) (by omega)
      show ((tp F a (2 * t) : Nat) : Int) = _
      unfold tp
      rw [if_pos (by omega), show 2 * t / 2 = t by omega]
    have nO : ∀ t, Nu (tL F (2 * t + 1)) (sumN F a (t + 1) : Nat) := fun t => by
      have := sum_lt hF a (t + 1)
      refine lv_nu ?_ (Nat.zero_le _) (by omega)
      show ((tp F a (2 * t + 1) : Nat) : Int) = _
      unfold tp
      rw [if_neg (by omega), show (2 * t + 1) / 2 = t by omega]
    have nS : ∀ t, Nu (tS F t) (sumN F a t : Nat) := fun t => by
      cases t with
      | zero => exact I_nu 0
      | succ t => exact nO t
    have nT : Nu (tS F F.e) (F.tr a : Nat) := by rw [tr_eq]; exact nS F.e
    refine ⟨?_, nT, nE 0⟩
    refine Fct.holds fit (orcOf_ok (L := trL F) ⟨fun G hG => ?_, fun G hG => ?_, trivial⟩) (good_n rfl (lone_all2 nT.lone)) h.trc
    · obtain ⟨t, _, rfl⟩ := List.mem_map.1 hG
      exact fAdd h.toOpsOk (sum_lt hF a t) (frob_lt hF ha t) (nS t) (nE t) (nO t)
    · obtain ⟨t, _, rfl⟩ := List.mem_map.1 hG
      exact fPow h (frob_lt hF ha t) (nE t) (nE (t + 1))
  obtain ⟨h1, h2, h3⟩ := h0
  exact turnF h1 (lone_flat (@Nu.lone (rhoN (tp F a)) _ _ h2)) (by rw [@lone_vl (rhoN (tp F a)) _ (@Nu.lone (rhoN (tp F a)) _ _ h2), @Nu.vl (rhoN (tp F a)) _ _ h2]) (ns := [(a : Int)]) ⟨h3, trivial⟩ ⟨nx, trivial⟩ (rsN nv)

/-! ### FieldFrobenius -/
section
variable (F : Gf)
abbrev bL (k : Nat) : AV := lv k 0 (F.q - 1)
abbrev bT (k : Nat) : AV := lv k 0 (F.p - 1)
abbrev bU : AV := .sym .i64 (.bin .rem (.bin .add (.var 6 0 (Int.ofNat (F.p - 1))) (.var 7 0 (Int.ofNat (F.p - 1)))) (.lit (Int.ofNat F.p))) 0 (Int.ofNat (F.p - 1))
noncomputable def frFacts (i : Nat) : List (FuncId × List Fct) :=
  [(9, [examplesF]), (14, [ofF i F]),
   (19, [f2 F (bL F 0) (bL F 1) (bL F 2), f2 F (bL F 4) (bL F 5) (bL F 3)]),
   (29, [p2 F (bL F 0) F.p (bL F 4), p2 F (bL F 1) F.p (bL F 5), p2 F (bL F 2) F.p (bL F 3)]),
   (35, f1 F (bL F 0) (bT F 6) :: f1 F (bL F 1) (bT F 7) :: f1 F (bL F 2) (bU F) :: f1 F (bL F 4) (bT F 6) :: (List.range F.q).map fun c => f1 F (I c) (I (F.tr c)))]
noncomputable def frArg (i : Nat) : AV := .agg [byteI i, byteX F.q 21 (.var 0 0 (Int.ofNat (F.q - 1))) 0, byteX F.q 22 (.var 1 0 (Int.ofNat (F.q - 1))) 0]
noncomputable def frRun (i : Nat) : Bool := okRun Try.prog (orcOf (frFacts F i)) 6 [frArg F i] (.bool true)
end
noncomputable def frAll (x : Gf × Nat) : Bool := frRun x.1 x.2
end Go.Proofs.Ytjphnpbknaedcaa
