/- The reference's sums, products, inverses, orders, traces: how they are evaluated. -/
import Derived.Test.YtjphnpbknaedcaaGb
import Derived.Test.YtjphnpbknaedcaaGc
import Derived.Test.YtjphnpbknaedcaaCc
import Derived.Test.YtjphnpbknaedcaaBa
namespace Go.Proofs.Ytjphnpbknaedcaa
open Go.Ev Go.Fl

section
variable (F : Gf)
abbrev szF : Fct := ⟨[fA F], fOld F, I F.q, [], []⟩
noncomputable def chkSz : Bool := (szF F).got ((evF Try.prog noOrc 5000).call 15 [fA F] (fSt F))
/-- products of elements that are known -/
def rmulC : List AV → List Fct
  | [_, .int _ (.ofNat a), .int _ (.ofNat b)] => if Nat.blt a F.q && Nat.blt b F.q then [⟨[fA F, I a, I b], fOld F, I (F.mul a b), [], []⟩] else []
  | _ => []
def riL : List (FuncId × (List AV → List Fct)) := [(24, rmulC F), (15, fun _ => [szF F])]
noncomputable def chkRI (a : Nat) : Bool := (Fct.mk [fA F, I a] (fOld F) (.tup [I (F.inv a), I 0]) [] []).got ((evF Try.prog (orcOf2 (riL F)) 5000).call 28 [fA F, I a] (fSt F))
/-- the elements from lo on -/
noncomputable def chkRIs (lo n : Nat) : Bool := allLt n fun k => chkRI F (lo + k)
noncomputable def chkRI0 : Bool := (Fct.mk [fA F, I 0] (fOld F) (.tup [I 0, I 3]) [] []).got ((evF Try.prog noOrc 5000).call 28 [fA F, I 0] (fSt F))

/-! orders -/
def oQ (k n : Nat) : AV := if n = 1 then oA F k else oP F k n
def oFR (k n : Nat) : List Fct := if n < k then [⟨[fA F, oQ F k n, oA F k], fOld F, oP F k (n + 1), [], []⟩] else []
def oCR (k : Nat) : List AV → List Fct
  | [_, .sym _ (.var n _ _) _ _, _] => if n = 70 then oFR F k 1 else oFR F k n
  | _ => []
noncomputable def chkRO (k : Nat) : Bool := (Fct.mk [fA F, oA F k] (fOld F) (I k) [] []).got ((evF Try.prog (orcOf2 [(24, oCR F k)]) 5000).call 32 [fA F, oA F k] (fSt F))
noncomputable def chkROs : Bool := (divs F).all (chkRO F)
noncomputable def chkRO0 : Bool := (Fct.mk [fA F, I 0] (fOld F) (I 0) [] []).got ((evF Try.prog noOrc 5000).call 32 [fA F, I 0] (fSt F))
def rprL : List (FuncId × List Fct) := [(32, (List.range' 1 F.g).map fun b => ⟨[fA F, I b], fOld F, I (Gf_ord F b), [], []⟩), (15, [szF F])]
noncomputable def chkRPr : Bool := (Fct.mk [fA F] (fOld F) (I F.g) [] []).got ((evF Try.prog (orcOf (rprL F)) 5000).call 34 [fA F] (fSt F))

/-! traces -/
abbrev rtrL : List (FuncId × List Fct) := [(20, trA F), (30, trP F)]
noncomputable def chkRTr : Bool := (Fct.mk [fA F, tL F 0] (fOld F) (tS F F.e) [] []).got ((evF Try.prog (orcOf (rtrL F)) 5000).call 36 [fA F, tL F 0] (fSt F))

/-! powers -/
noncomputable def chkRP0 : Bool := (Fct.mk [fA F, lv 0 0 (F.q - 1), I 0] (fOld F) (.tup [I 1, I 0]) [] []).got ((evF Try.prog noOrc 5000).call 30 [fA F, lv 0 0 (F.q - 1), I 0] (fSt F))
noncomputable def chkRZ : Bool := chkZ 30 [I 0, zP] (.tup [I 0, I 0]) F && (chkZ 30 [I 0, I 0] (.tup [I 1, I 0]) F && chkZ 30 [I 0, zM] (.tup [I 0, I 3]) F)
/-- the fields with two and three elements: exponents (q - 1) u + r and -(q - 1) u - r -/
def e3P (r : Nat) : AV := .sym .i64 (.bin .add (.bin .mul (.lit (Int.ofNat (F.q - 1))) (.var 99 (Int.ofNat (1 - r)) (Int.ofNat (9223372036854775807 / (F.q - 1))))) (.lit (Int.ofNat r))) 1 9223372036854775807
def e3M (r : Nat) : AV := .sym .i64 (.bin .sub (.lit (-Int.ofNat r)) (.bin .mul (.lit (Int.ofNat (F.q - 1))) (.var 99 (Int.ofNat (1 - r)) (Int.ofNat (9223372036854775808 / (F.q - 1)))))) (-9223372036854775808) (-1)
def p3A : AV := if F.q = 2 then I 1 else lv 0 1 (F.q - 1)
def p3V (r : Nat) : AV := if r = 0 then I 1 else p3A F
def p3L : List (FuncId × List Fct) := [(24, [⟨[fA F, I 1, p3A F], fOld F, p3A F, [], []⟩])]
noncomputable def chk3 (y : AV) (r : Nat) : Bool := (Fct.mk [fA F, p3A F, y] (fOld F) (.tup [p3V F r, I 0]) [] []).got ((evF Try.prog (orcOf (p3L F)) 5000).call 30 [fA F, p3A F, y] (fSt F))
noncomputable def chk3s : Bool := allLt (F.q - 1) fun r => chk3 F (e3P F r) r && chk3 F (e3M F r) r
noncomputable def chkPws : Bool := bif Nat.blt F.q 4 then chk3s F else (chkPw F 0 && (chkPw F 1 && chkPw F 2))
end
end Go.Proofs.Ytjphnpbknaedcaa
