/- The law RatTexts answers true, at any numbers, edits and strings. -/
import Derived.Test.YtieabeodommbiaaTi
import Derived.Test.YtieabeodommbiaaLb
namespace Go.Proofs.Ytieabeodommbiaa
open Go.RowKit
set_option linter.unusedVariables false

theorem texts_c (x0 x1 z0 z1 z2 : Int) (s : List UInt8) (h0 : -9223372036854775808 ≤ x0 ∧ x0 ≤ 9223372036854775807) (h1 : -9223372036854775808 ≤ x1 ∧ x1 ≤ 9223372036854775807)
    (k0 : 0 ≤ z0 ∧ z0 ≤ 255) (k1 : 0 ≤ z1 ∧ z1 ≤ 255) (k2 : 0 ≤ z2 ∧ z2 ≤ 255) (W : World) :
    Calls Try.prog 8 #[.agg #[.int .i64 x0, .int .i64 x1], .agg #[.int .u8 z0, .int .u8 z1, .int .u8 z2], strV s] W fun z W' => z = .returned (.bool true) ∧ Below W.heap.size W W' := by
  have ma := made_c x0 x1 h0 h1
  have oa : okQ (madeQ (mu x0 x1 + 1) x0 x1) := madeQ_ok _ _ _
  generalize madeQ (mu x0 x1 + 1) x0 x1 = a at *
  have ba := okQ_bd oa
  have hl : (textL a.num a.den).length ≤ 100 := by
    have h1 := head_len (n := a.num) (by omega)
    have h2 := digs_len 19 a.den (by omega)
    unfold textL
    split <;> simp <;> omega
  refine texts_w (t := textL a.num a.den) hl ⟨ex_c, ma, text_q a oa, ?_, is_c a.num a.den, edited_c _ z0 z1 z2 (by omega) k0 k1 k2, fun l hl => edited_c l z1 z2 z0 (by omega) k1 k2 k0, parsed_c, parsein_c, ps_text⟩ W
  obtain ⟨e1, e2, e3⟩ := ps_own a oa
  have := parsed_c (textL a.num a.den) (by omega)
  rw [e1, e2, e3] at this
  exact this
end Go.Proofs.Ytieabeodommbiaa
