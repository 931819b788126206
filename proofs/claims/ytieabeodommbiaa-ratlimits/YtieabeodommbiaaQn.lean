/- RatLimits, evaluated with letters: intervals of the second power. -/
import Derived.Test.YtieabeodommbiaaQm
namespace Go.Proofs.Ytieabeodommbiaa
open Go.Ev

def insI (x : Int) : List Int → List Int
  | [] => [x]
  | y :: l => if x < y then x :: y :: l else if x = y then y :: l else y :: insI x l
def sortI : List Int → List Int
  | [] => []
  | x :: l => if decide (-62 ≤ x) && decide (x ≤ 62) then insI x (sortI l) else sortI l
def ivsOf : List Int → List (Int × Int)
  | [] => []
  | [x] => [(x, 62)]
  | x :: y :: l => (x, y - 1) :: ivsOf (y :: l)
/-- where the conditions change -/
def ivs (a : Int) : List (Int × Int) := ivsOf (sortI [-62, -62 - a, 63 - a, a - 62, a + 63, a, a + 1, 0, 1, 62, a - 61, 62 + min a 0])
def inIv (a b : Int) (I : Int × Int) : Bool := (decide (-62 ≤ I.1) && (decide (I.2 ≤ 62) && (decide (I.1 ≤ b) && decide (b ≤ I.2)))) && ((fitM a b == fitM a I.1) && ((fitD a b == fitD a I.1) && (fitS a b == fitS a I.1)))
theorem ivs_ok : (r125.all fun a => r125.all fun b => (ivs a).any (inIv a b)) = true := by kernel_rfl

noncomputable def pA (a : Int) : AV := .sym .u8 (.bin .add (.bin .mul (.lit 125) (.var 0 0 2)) (.lit (a + 62))) 0 255
noncomputable def qA (lo hi : Int) : AV := .sym .u8 (.bin .add (.bin .mul (.lit 125) (.var 1 0 2)) (.var 2 (lo + 62) (hi + 62))) 0 255
noncomputable def bX (lo hi : Int) : SX := .bin .sub (.var 2 (lo + 62) (hi + 62)) (.lit 62)
noncomputable def bS (lo hi : Int) : AV := mkA .i64 (bX lo hi) lo hi
noncomputable def sumA (a lo hi : Int) : AV := mkA .i64 (addX (.lit a) (bX lo hi)) (a + lo) (a + hi)
noncomputable def difA (a lo hi : Int) : AV := mkA .i64 (.bin .sub (.lit a) (bX lo hi)) (a - hi) (a - lo)
noncomputable def PV (c : Bool) (n : Int) (i : Nat) : AV := if c then cP n else fr i
noncomputable def PR (c : Bool) (n : Int) (i : Nat) : AV := if c then .agg [.int .i64 (pwN n : Nat), .int .i64 (pwD n : Nat), .int .i64 0] else .agg [aN i, aD (i + 1), .int .i64 0]
noncomputable def rs (m : Bool) (v : AV) : AV := if m then v else .agg [.int .i64 0, .int .i64 0, .int .i64 2]
def sgB (neg : Bool) : Int := if neg then -1 else 1
def oneA (neg : Bool) : AV := .agg [.int .i64 (sgB neg), .int .i64 1]
def edgA (neg : Bool) : AV := .agg [.int .i64 (sgB neg * 4611686018427387904), .int .i64 1]
def belA (neg : Bool) : AV := .agg [.int .i64 (sgB neg * 4611686018427387903), .int .i64 1]
def hlfA : AV := .agg [.int .i64 1, .int .i64 2]
def bigA : AV := .agg [.int .i64 0, .int .i64 0, .int .i64 2]
def edgR (neg : Bool) : AV := .agg [.int .i64 (sgB neg * 4611686018427387904), .int .i64 1, .int .i64 0]
def belR (neg : Bool) : AV := .agg [.int .i64 (sgB neg * 4611686018427387903), .int .i64 1, .int .i64 0]
/-- where a is 0, the sum is the second power itself -/
def iS (a : Int) : Nat := if a = 0 then 5 else 7
noncomputable def limFacts (a lo hi : Int) (neg : Bool) : List (FuncId × List Fct) :=
  [(10, [⟨[], [], .bool true, [], []⟩]),
   (36, ⟨[.int .i64 a], [], cP a, [], []⟩ :: ⟨[bS lo hi], [], PV (decide (lo = hi)) lo 5, [], []⟩ :: (cif (fitM a lo) ⟨[sumA a lo hi], [], PV (decide (lo = hi)) (a + lo) (iS a), [], []⟩ ++ cif (fitD a lo) ⟨[difA a lo hi], [], PV (decide (lo = hi)) (a - lo) 9, [], []⟩)),
   (20, [F2 (cP a) (PV (decide (lo = hi)) lo 5) (rs (fitM a lo) (PR (decide (lo = hi)) (a + lo) (iS a)))]),
   (22, [F2 (cP a) (PV (decide (lo = hi)) lo 5) (rs (fitD a lo) (PR (decide (lo = hi)) (a - lo) 9))]),
   (16, [F2 (cP a) (PV (decide (lo = hi)) lo 5) (R (fitS a lo) 11), F2 (edgA neg) (oneA neg) bigA, F2 (belA neg) (oneA neg) (edgR neg)]),
   (18, [F2 (edgA neg) (oneA neg) (belR neg), F2 (edgA neg) hlfA bigA])]
noncomputable def limRun (a lo hi : Int) (neg : Bool) : Bool := okRun Try.prog (orcOf (limFacts a lo hi neg)) 9 [pA a, qA lo hi, .bool neg] (.bool true)
noncomputable def limRuns (i n : Nat) : Bool := (List.range' i n).all fun j => (ivs (Int.ofNat j - 62)).all fun I => bools.all fun neg => limRun (Int.ofNat j - 62) I.1 I.2 neg
end Go.Proofs.Ytieabeodommbiaa
