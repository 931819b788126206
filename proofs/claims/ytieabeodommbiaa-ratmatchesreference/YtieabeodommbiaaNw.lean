/- The law RatMatchesReference answers true, at any numbers. -/
import Derived.Test.YtieabeodommbiaaNv
namespace Go.Proofs.Ytieabeodommbiaa
open Go.RowKit
set_option linter.unusedVariables false

theorem created_any (n d : Int) (hn : -9223372036854775808 ≤ n ∧ n ≤ 9223372036854775807) (hd : -9223372036854775808 ≤ d ∧ d ≤ 9223372036854775807) (w : World) :
    Calls Try.prog 11 #[.int .i64 n, .int .i64 d] w fun e w' => e = .returned (inV n d) ∧ Below w.heap.size w w' := by
  unfold inV iN iD iE
  by_cases h : d = 0
  · subst h; rw [if_pos rfl, if_pos rfl, if_pos rfl]; exact createdL0 n hn w
  · rw [if_neg h, if_neg h, if_neg h]; exact createdL n d hn hd h w
def dN (p q : Rat) : Int := if q.num = 0 then 0 else rN (p / q)
def dD (p q : Rat) : Int := if q.num = 0 then 0 else rD (p / q)
def dE (p q : Rat) : Int := if q.num = 0 then 3 else rE (p / q)
abbrev dvV (p q : Rat) : Value := .agg #[.int .i64 (dN p q), .int .i64 (dD p q), .int .i64 (dE p q)]
theorem divA (p q : Rat) (hp : okQ p) (hq : okQ q) (w : World) : Calls Try.prog 22 #[frac p, frac q] w fun e w' => e = .returned (dvV p q) ∧ Below w.heap.size w w' := by
  unfold dvV dN dD dE
  by_cases h : q.num = 0
  · rw [if_pos h, if_pos h, if_pos h]; exact divL0 p q hp hq h w
  · rw [if_neg h, if_neg h, if_neg h]; exact divL p q hp hq h w
theorem rdivA (p q : Rat) (hp : okQ p) (hq : okQ q) (w : World) : Calls Try.prog 23 #[frac p, frac q] w fun e w' => e = .returned (dvV p q) ∧ Below w.heap.size w w' := by
  unfold dvV dN dD dE
  by_cases h : q.num = 0
  · rw [if_pos h, if_pos h, if_pos h]; unfold frac; rw [h]; exact divin_0 p.num p.den q.den w
  · rw [if_neg h, if_neg h, if_neg h]; exact divin_q p q hp hq h w
theorem cmp_nsgn (p q : Rat) : nsgn (p.num * q.den - q.num * p.den) = cmpV p q := by
  unfold nsgn cmpV
  by_cases h : p = q
  · subst h; rw [if_pos rfl, if_pos (by omega)]
  · rw [if_neg h]
    have h1 : p.num * q.den ≠ q.num * p.den := fun e => h (Rat.le_antisymm ((Rat.le_iff _ _).2 (by omega)) ((Rat.le_iff _ _).2 (by omega)))
    rw [if_neg (by omega)]
    by_cases hl : p < q
    · rw [if_pos hl]
      have := (Rat.lt_iff _ _).1 hl
      rw [if_pos (by omega)]
    · rw [if_neg hl, if_neg (fun k => hl ((Rat.lt_iff _ _).2 (by omega)))]
theorem rcmp_q (p q : Rat) (hp : okQ p) (hq : okQ q) (w : World) : Calls Try.prog 25 #[frac p, frac q] w fun e w' => e = .returned (.int .i64 (cmpV p q)) ∧ Below w.heap.size w w' := by
  obtain ⟨a1, a2⟩ := okQ_bd hp
  obtain ⟨b1, b2⟩ := okQ_bd hq
  rw [← cmp_nsgn]
  exact rcmp_c p.num p.den q.num q.den a1 a2 b1 b2 w
theorem match_c (x0 x1 y0 y1 : Int) (h0 : -9223372036854775808 ≤ x0 ∧ x0 ≤ 9223372036854775807) (h1 : -9223372036854775808 ≤ x1 ∧ x1 ≤ 9223372036854775807) (h2 : -9223372036854775808 ≤ y0 ∧ y0 ≤ 9223372036854775807)
    (h3 : -9223372036854775808 ≤ y1 ∧ y1 ≤ 9223372036854775807) (W : World) :
    Calls Try.prog 3 #[.agg #[.int .i64 x0, .int .i64 x1], .agg #[.int .i64 y0, .int .i64 y1]] W fun z W' => z = .returned (.bool true) ∧ Below W.heap.size W W' := by
  have ma := made_c x0 x1 h0 h1
  have mb := made_c y0 y1 h2 h3
  have oa : okQ (madeQ (mu x0 x1 + 1) x0 x1) := madeQ_ok _ _ _
  have ob : okQ (madeQ (mu y0 y1 + 1) y0 y1) := madeQ_ok _ _ _
  generalize madeQ (mu x0 x1 + 1) x0 x1 = a at *
  generalize madeQ (mu y0 y1 + 1) y0 y1 = b at *
  have ba := okQ_bd oa
  refine match_w (v := vldB x0 x1) (t := textL a.num a.den) ⟨ex_c, created_any x0 x1 h0 h1, makein_any x0 x1 h0 h1, created_any x0 y0 h0 h2, makein_any x0 y0 h0 h2, valid_q x0 x1 h0 h1, rvalid_q x0 x1 h0, ma, mb,
    addL a b oa ob, addin_q a b oa ob, subL a b oa ob, subin_q a b oa ob, mulL a b oa ob, mulin_q a b oa ob, divA a b oa ob, rdivA a b oa ob, cmp_c a b oa ob, rcmp_q a b oa ob, floor_c a oa, rfloor_q a oa, ceil_c b ob, rceil_q b ob, ?_, text_q a oa, rtext_q a oa⟩ W
  intro w
  have := valid_q a.num a.den (by omega) (by omega) w
  rwa [vld_own a oa] at this
end Go.Proofs.Ytieabeodommbiaa
