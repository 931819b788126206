/-
  For every list of digests, every three numbers of 16 bits and every digest the law SealOpens answers true and leaves them as they were: no condition.
-/
import Derived.Test.YtdenpaifjpmkgaaRows
import Derived.Test.YtdenpaifjpmkgaaTl
import Derived.Test.YtdenpaifjpmkgaaTq
namespace Go.Proofs.Ytdenpaifjpmkgaa.sealOpens
open Go.ChangeShapes Go.WideShapes Go.ChangeAt Go.RowKit
set_option linter.unusedVariables false      -- a walk need not use every 'w<i>' (that an integer argument fits its kind)

/-! ### STEP 1: the law: opens_c -/
/-! ### THE ROW's STEP: WRITTEN OUT: LEAVE IT -/
set_option maxRecDepth 100000 in
theorem lifted (os : Os) (started : os.Started) (H : Type) (enc : TypeId × Value → H) :
    ReturnsInHanded {} Try.checked os 6 .any (Rows.sealOpensSpec.pre6 enc Try.prog Try.f6 Rows.sealOpensRow.domain false) (Rows.sealOpensSpec.post enc Try.prog Try.f6 false true false false) := by
  refine returnsInHanded_of_change (C := Try.checked) own started (by kernel_rfl) Try.func6
    (ChangeSpec.witness6 (enc := enc) (C := Try.checked) false ⟨#[], #[.slice none 0 0, .agg #[.int .u16 0, .int .u16 0, .int .u16 0], .int .u64 0], []⟩ 8 (by kernel_rfl) (by kernel_rfl) (by kernel_rfl) (by kernel_rfl)) ?_
  intro W base args ds gs before hval0 hW hcnd _
  have hval : ∀ (j : Nat) t v, Try.f6.params[j]? = some t → args[j]? = some v → Value.okWide Try.prog W .any base t v := hval0
  have hW' := hW
  obtain ⟨p, q, hA0, hV, rfl, hfz, hnd⟩ := hW
  have hA : DataW.TrodAll enc Try.prog W 0 (fun _ => true) true Try.f6.params.toList args.toList ds p := hA0
  rw [Try.params6] at hA hval
  obtain ⟨v0, vs0, d0, ds0, p0, q0, hargs, rfl, rfl, h0, r0⟩ := trodAll_cons hA
  obtain ⟨v1, vs1, d1, ds1, p1, q1, e1, rfl, rfl, h1, r1⟩ := trodAll_cons r0
  obtain ⟨v2, vs2, d2, ds2, p2, q2, e2, rfl, rfl, h2, r2⟩ := trodAll_cons r1
  obtain ⟨rfl, rfl, rfl⟩ := trodAll_nil r2
  subst e2; subst e1
  obtain rfl : args = #[v0, v1, v2] := by cases args; simp_all
  obtain ⟨rfl, rfl⟩ := trodVars_none hV
  obtain ⟨off, cap, l, n0, A0⟩ := argT (hval 0 25 v0 rfl rfl) h0
  obtain ⟨a0, a1, a2, rfl, rfl, rfl, w0, w1, w2⟩ := Go.Ev.open_arr3 u51 u50 c51 c50 (hval 1 51 v1 rfl rfl) h1
  obtain ⟨x, rfl, rfl, rfl, wx⟩ := open_int u24 (hval 2 24 v2 rfl rfl) h2
  clear hA0 hval0
  let I : InT := { m := 300, l := l, off := off, cap := cap, k0 := a0, k1 := a1, k2 := a2, v := x }
  have hz : I.Ok := { m := .inl rfl, u := A0.u, k0 := bd16 w0, k1 := bd16 w1, k2 := bd16 w2, v := bdU wx }
  letI := I.R
  refine (opens_c hz rfl (W := W) A0.len A0.given).mono fun e W' ⟨he, hg⟩ => ?_
  subst he
  refine ⟨_, rfl, Go.Ev.post_low (pa := p0 ++ ([] ++ ([] ++ []))) (pv := []) hW' (fun _ _ _ => (trodAll_cons_mk (shut_bool Try.underlying4 _) trodAll_mk0))
    (fun sp hsp => (trodAll_cons_mk (A0.shut W' hg sp (fun q hq => hsp q (by simp [hq]))) (trodAll_cons_mk (Go.Ev.shut_arr3 u51 u50 c51 c50 w0 w1 w2) (trodAll_cons_mk (shut_int u24 wx) trodAll_mk0)))) (fun _ _ => rfl) rfl
    hg (ok_one (by kernel_rfl) rfl (okWide_bool_mk Try.underlying4 _))⟩

theorem over : Rows.sealOpensRow.holds Try.pinned (OpenSpec.ofChange Rows.sealOpensSpec) :=
  OpenClaim.holds_of_wide 6 Try.f6 rfl rfl rfl rfl rfl rfl rfl ⟨rfl, rfl, rfl, rfl, rfl⟩ rfl rfl rfl rfl rfl (by kernel_rfl) Try.func6 (by kernel_rfl)
    (of_decide_eq_true (by kernel_rfl)) (by unfold Func.isWrapper; first | (rw [if_pos (by decide +kernel)]; kernel_rfl) | (rw [if_neg (by decide +kernel)]; exact ⟨rfl, rfl⟩))
    (fun os started H enc _ => lifted os started H enc)

/-- ████ THE STATEMENT ████ -/
theorem proved : Rows.SealOpensSaid :=
  over
#print axioms proved
end Go.Proofs.Ytdenpaifjpmkgaa.sealOpens
