/- Make in rational numbers. -/
import Derived.Test.YtieabeodommbiaaQf
import Derived.Test.YtieabeodommbiaaEvN8
namespace Go.Proofs.Ytieabeodommbiaa
open Go.RowKit (Below)
open Go.Ev

theorem sgn_divInt (a b : Int) (hb : b ≠ 0) : (if sgn a b then -((Rat.divInt a b).num.natAbs : Int) else ((Rat.divInt a b).num.natAbs : Int)) = (Rat.divInt a b).num := by
  have h1 := (divInt_parts a b hb).1
  have hs : ∀ x : Int, 0 ≤ x → 0 ≤ x / ((Nat.gcd a.natAbs b.natAbs : Nat) : Int) := fun x hx => Int.ediv_nonneg hx (by omega)
  have hgp : 0 < Nat.gcd a.natAbs b.natAbs := Nat.gcd_pos_of_pos_right _ (by omega)
  have hs2 : ∀ x : Int, x ≤ 0 → x / ((Nat.gcd a.natAbs b.natAbs : Nat) : Int) ≤ 0 := fun x hx => Int.ediv_nonpos_of_nonpos_of_neg hx (by omega)
  unfold sgn
  by_cases sa : a < 0 <;> by_cases sb : b < 0
  · rw [Int.sign_eq_neg_one_of_neg sb] at h1
    have := hs (-1 * a) (by omega)
    rw [← h1] at this
    clear h1 hs hs2
    simp only [sa, sb, decide_true, bne_self_eq_false, Bool.false_eq_true, if_false]; omega
  · rw [Int.sign_eq_one_of_pos (by omega)] at h1
    have := hs2 (1 * a) (by omega)
    rw [← h1] at this
    clear h1 hs hs2
    simp only [sa, sb, decide_true, decide_false, Bool.true_bne, Bool.not_false, if_true]; omega
  · rw [Int.sign_eq_neg_one_of_neg sb] at h1
    have := hs2 (-1 * a) (by omega)
    rw [← h1] at this
    clear h1 hs hs2
    simp only [sa, sb, decide_true, decide_false, Bool.false_bne, if_true]; omega
  · rw [Int.sign_eq_one_of_pos (by omega)] at h1
    have := hs (1 * a) (by omega)
    rw [← h1] at this
    clear h1 hs hs2
    simp only [sa, sb, decide_false, bne_self_eq_false, Bool.false_eq_true, if_false]; omega

theorem make_q (n d : Int) (hn : -9223372036854775808 ≤ n ∧ n ≤ 9223372036854775807) (hd : -9223372036854775808 ≤ d ∧ d ≤ 9223372036854775807) (h0 : d ≠ 0) (w : World) :
    Calls Try.prog 38 #[.int .i64 n, .int .i64 d] w fun e w' => e = .returned (outV (Rat.divInt n d)) ∧ Below w.heap.size w w' := by
  have := make_c n d hn hd w
  have eg : gcdI (absI n) (absI d) = (Nat.gcd n.natAbs d.natAbs : Nat) := by rw [absI_natAbs d]; exact gcdI_pos n d.natAbs (by omega)
  have e1 : mkn n d = ((Rat.divInt n d).num.natAbs : Int) := by
    show (absI n).tdiv (gcdI (absI n) (absI d)) = _
    rw [eg, absI_natAbs, tdiv_nat, num_abs n d h0]
  have e2 : mkd n d = ((Rat.divInt n d).den : Int) := by
    show (absI d).tdiv (gcdI (absI n) (absI d)) = _
    rw [eg, absI_natAbs, tdiv_nat, (divInt_parts n d h0).2]
  obtain ⟨k1, k2, k3⟩ := out_spec (sgn n d) (mkn n d) (mkd n d) (Rat.divInt n d) e1 e2 (by rw [e1]; exact sgn_divInt n d h0)
  rw [k1, k2, k3] at this
  exact this

/-- Make where there is nothing to divide by -/
theorem make_0 (n : Int) (hn : -9223372036854775808 ≤ n ∧ n ≤ 9223372036854775807) (w : World) :
    Calls Try.prog 38 #[.int .i64 n, .int .i64 0] w fun e w' => e = .returned (.tuple #[.agg #[.int .i64 0, .int .i64 0], .int .i64 3]) ∧ Below w.heap.size w w' := by
  have := make_c n 0 hn (by omega) w
  have e2 : mkd n 0 = 0 := by show (absI 0).tdiv _ = 0; rw [show absI 0 = 0 from rfl]; exact Int.zero_tdiv _
  rw [e2, show fE (mkn n 0) 0 = 3 by simp [fE], show fD (mkn n 0) 0 = 0 by simp [fD, fE], show ∀ s, fN s (mkn n 0) 0 = 0 from fun s => by simp [fN, fE]] at this
  exact this

/-- what Valid asks of a valid fraction -/
theorem make_own (q : Rat) (h : okQ q) (w : World) : Calls Try.prog 38 #[.int .i64 q.num, .int .i64 q.den] w fun e w' => e = .returned (.tuple #[.agg #[.int .i64 q.num, .int .i64 q.den], .int .i64 0]) ∧ Below w.heap.size w w' := by
  have hb := okQ_bd h
  have := make_q q.num q.den (by omega) (by omega) (by omega) w
  rw [Rat.num_divInt_den] at this
  unfold outV rN rD rE at this
  rw [if_pos h, if_pos h, if_pos h] at this
  exact this
end Go.Proofs.Ytieabeodommbiaa

/- RatLowest, evaluated with letters. -/
namespace Go.Proofs.Ytieabeodommbiaa
open Go.Ev

/-- letters: 0 .. 3 the pairs' numbers, 4 the factor; 6, 8 the fractions; 10, 12, 14, 16 sum, difference, product, quotient; 18 the fraction of the numbers themselves; 20 that of the rests -/
abbrev M30 : Int := 1073741824
noncomputable abbrev nLX : SX := .bin .rem (.var 0 (-9223372036854775808) 9223372036854775807) (.lit M30)
noncomputable abbrev dLX : SX := .bin .rem (.var 1 (-9223372036854775808) 9223372036854775807) (.lit M30)
noncomputable abbrev kLX : SX := .var 4 (-2147483648) 2147483647
noncomputable abbrev kLA : AV := .sym .i32 kLX (-2147483648) 2147483647
noncomputable abbrev rLA (e : SX) : AV := .sym .i64 e (-1073741823) 1073741823
noncomputable abbrev rkLA (e : SX) : AV := .sym .i64 (.bin .mul e kLX) (-2305843007066210304) 2305843007066210304
/-- a result: 0: it fits, 1: it is too big, 2: division by 0 -/
noncomputable def R3 (c : Nat) (i : Nat) : AV := match c with | 0 => .agg [aN i, aD (i + 1), .int .i64 0] | 1 => .agg [.int .i64 0, .int .i64 0, .int .i64 2] | _ => .agg [.int .i64 0, .int .i64 0, .int .i64 3]
noncomputable abbrev ownF (i : Nat) : Fct := F2 (aN i) (aD (i + 1)) (.tup [.agg [aN i, aD (i + 1)], .int .i64 0])
noncomputable def lowFacts (s t p q c : Nat) (z : Nat) : List (FuncId × List Fct) :=
  [(10, [⟨[], [], .bool true, [], []⟩]),
   (15, [F2 (xs 0) (xs 1) (fr 6), F2 (xs 2) (xs 3) (fr 8)]),
   (16, [F2 (fr 6) (fr 8) (R3 s 10)]), (18, [F2 (fr 6) (fr 8) (R3 t 12)]), (20, [F2 (fr 6) (fr 8) (R3 p 14)]), (22, [F2 (fr 6) (fr 8) (R3 q 16)]),
   (11, F2 (xs 0) (xs 2) (R3 c 18) :: cif (Nat.beq z 2) (F2 (rLA nLX) (rLA dLX) (R3 0 20)) ++ cif (Nat.beq z 2) (F2 (rkLA nLX) (rkLA dLX) (R3 0 20))),
   (38, F2 (.int .i64 0) (.int .i64 0) (zeroR 3) :: (cif (Nat.beq s 0) (ownF 10) ++ (cif (Nat.beq t 0) (ownF 12) ++ (cif (Nat.beq p 0) (ownF 14) ++ (cif (Nat.beq q 0) (ownF 16) ++ cif (Nat.beq c 0) (ownF 18))))))]
/-- z: 0: the rest is 0, 1: the factor is, 2: neither is -/
noncomputable def lowTab (z : Nat) : KTab where
  cmps := [(.eql, dLX, .lit 0, Nat.beq z 0)] ++ ((if Nat.beq z 0 then [] else [(.eql, kLX, .lit 0, Nat.beq z 1)]) ++ (if Nat.beq z 2 then [(.eql, .wop .mul .i64 (.var 20 (-4611686018427387904) 4611686018427387904) dLX, .wop .mul .i64 (.var 21 1 4611686018427387904) nLX, true)] else []))
noncomputable def lowRun (s t p q c z : Nat) : Bool := @okRun (lowTab z).know Try.prog (orcOf (lowFacts s t p q c z)) 6 [xp 0, xp 2, kLA] (.bool true)
noncomputable def allB (f : Nat → Bool) : Bool := f 0 && f 1
noncomputable def allC (f : Nat → Bool) : Bool := f 0 && (f 1 && f 2)
end Go.Proofs.Ytieabeodommbiaa
