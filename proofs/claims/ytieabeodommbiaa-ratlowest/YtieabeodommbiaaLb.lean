/- RatLowest, evaluated with letters. -/
import Derived.Test.YtieabeodommbiaaEvN8
import Derived.Test.YtieabeodommbiaaLa
namespace Go.Proofs.Ytieabeodommbiaa
open Go.Ev

/-- letters: 0 .. 3 the pairs' numbers, 4 the factor; 6, 8 the fractions; 10, 12, 14, 16 sum, difference, product, quotient; 18 the fraction of the numbers themselves; 20 that of the rests -/
abbrev M30 : Int := 1073741824
noncomputable abbrev nLX : SX := .bin .rem (.var 0 (-9223372036854775808) 9223372036854775807) (.lit M30)
noncomputable abbrev dLX : SX := .bin .rem (.var 1 (-9223372036854775808) 9223372036854775807) (.lit M30)
noncomputable abbrev kLX : SX := .var 4 (-2147483648) 2147483647
noncomputable abbrev kLA : AV := .sym .i32 kLX (-2147483648) 2147483647
noncomputable abbrev rLA (e : SX) : AV := .sym .i64 e (-1073741823) 1073741823
noncomputable abbrev rkLA (e : SX) : AV := .sym .i64 (.bin .mul e kLX) (-2305843007066210304) 2305843007066210304
/-- a result: 0: it fits, 1: it is too big, 2: division by 0 -/
noncomputable def R3 (c : Nat) (i : Nat) : AV := match c with | 0 => .agg [aN i, aD (i + 1), .int .i64 0] | 1 => .agg [.int .i64 0, .int .i64 0, .int .i64 2] | _ => .agg [.int .i64 0, .int .i64 0, .int .i64 3]
noncomputable abbrev ownF (i : Nat) : Fct := F2 (aN i) (aD (i + 1)) (.tup [.agg [aN i, aD (i + 1)], .int .i64 0])
noncomputable def lowFacts (s t p q c : Nat) (z : Nat) : List (FuncId × List Fct) :=
  [(10, [⟨[], [], .bool true, [], []⟩]),
   (15, [F2 (xs 0) (xs 1) (fr 6), F2 (xs 2) (xs 3) (fr 8)]),
   (16, [F2 (fr 6) (fr 8) (R3 s 10)]), (18, [F2 (fr 6) (fr 8) (R3 t 12)]), (20, [F2 (fr 6) (fr 8) (R3 p 14)]), (22, [F2 (fr 6) (fr 8) (R3 q 16)]),
   (11, F2 (xs 0) (xs 2) (R3 c 18) :: cif (Nat.beq z 2) (F2 (rLA nLX) (rLA dLX) (R3 0 20)) ++ cif (Nat.beq z 2) (F2 (rkLA nLX) (rkLA dLX) (R3 0 20))),
   (38, F2 (.int .i64 0) (.int .i64 0) (zeroR 3) :: (cif (Nat.beq s 0) (ownF 10) ++ (cif (Nat.beq t 0) (ownF 12) ++ (cif (Nat.beq p 0) (ownF 14) ++ (cif (Nat.beq q 0) (ownF 16) ++ cif (Nat.beq c 0) (ownF 18))))))]
/-- z: 0: the rest is 0, 1: the factor is, 2: neither is -/
noncomputable def lowTab (z : Nat) : KTab where
  cmps := [(.eql, dLX, .lit 0, Nat.beq z 0)] ++ ((if Nat.beq z 0 then [] else [(.eql, kLX, .lit 0, Nat.beq z 1)]) ++ (if Nat.beq z 2 then [(.eql, .wop .mul .i64 (.var 20 (-4611686018427387904) 4611686018427387904) dLX, .wop .mul .i64 (.var 21 1 4611686018427387904) nLX, true)] else []))
noncomputable def lowRun (s t p q c z : Nat) : Bool := @okRun (lowTab z).know Try.prog (orcOf (lowFacts s t p q c z)) 6 [xp 0, xp 2, kLA] (.bool true)
noncomputable def allB (f : Nat → Bool) : Bool := f 0 && f 1
noncomputable def allC (f : Nat → Bool) : Bool := f 0 && (f 1 && f 2)
end Go.Proofs.Ytieabeodommbiaa
