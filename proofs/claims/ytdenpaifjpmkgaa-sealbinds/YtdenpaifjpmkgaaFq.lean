/-
  For every list of digests, every two numbers of 16 bits and every place the law SealBinds answers true and leaves them as they were: no condition.
-/
import Derived.Test.YtdenpaifjpmkgaaRows
import Derived.Test.YtdenpaifjpmkgaaTl
import Derived.Test.YtdenpaifjpmkgaaUj
import Derived.Test.YtdenpaifjpmkgaaUk
namespace Go.Proofs.Ytdenpaifjpmkgaa.sealBinds
open Go.ChangeShapes Go.WideShapes Go.ChangeAt Go.RowKit
set_option linter.unusedVariables false      -- a walk need not use every 'w<i>' (that an integer argument fits its kind)

theorem u29 : Try.prog.underlying 29 = some (.struct #[{ name := "I", type := 3, offset := 0, embedded := false, tag := "", pkgPath := "", byteOffset := 0 }, { name := "Leaf", type := 24, offset := 1, embedded := false, tag := "", pkgPath := "", byteOffset := 8 }]) := by kernel_rfl
theorem u3 : Try.prog.underlying 3 = some (.int .i64) := by kernel_rfl
theorem c29 : Try.prog.cellsOf 29 = 2 := by kernel_rfl
theorem c3 : Try.prog.cellsOf 3 = 1 := by kernel_rfl
theorem bd64 {a : Int} (h : (Lit.int .i64 a).wf = true) : -9223372036854775808 ≤ a ∧ a ≤ 9223372036854775807 := by
  simp only [Lit.wf, Bool.and_eq_true, decide_eq_true_eq] at h
  simp [IntKind.min, IntKind.max, IntKind.bits, IntKind.signed] at h
  omega

/-! ### STEP 1: the law: binds_c -/
/-! ### THE ROW's STEP: WRITTEN OUT: LEAVE IT -/
set_option maxRecDepth 100000 in
theorem lifted (os : Os) (started : os.Started) (H : Type) (enc : TypeId × Value → H) :
    ReturnsInHanded {} Try.checked os 8 .any (Rows.sealBindsSpec.pre6 enc Try.prog Try.f8 Rows.sealBindsRow.domain false) (Rows.sealBindsSpec.post enc Try.prog Try.f8 false true false false) := by
  refine returnsInHanded_of_change (C := Try.checked) own started (by kernel_rfl) Try.func8
    (ChangeSpec.witness6 (enc := enc) (C := Try.checked) false ⟨#[], #[.slice none 0 0, .agg #[.int .u16 0, .int .u16 0], .agg #[.int .i64 0, .int .u64 0]], []⟩ 8 (by kernel_rfl) (by kernel_rfl) (by kernel_rfl) (by kernel_rfl)) ?_
  intro W base args ds gs before hval0 hW hcnd _
  have hval : ∀ (j : Nat) t v, Try.f8.params[j]? = some t → args[j]? = some v → Value.okWide Try.prog W .any base t v := hval0
  have hW' := hW
  obtain ⟨p, q, hA0, hV, rfl, hfz, hnd⟩ := hW
  have hA : DataW.TrodAll enc Try.prog W 0 (fun _ => true) true Try.f8.params.toList args.toList ds p := hA0
  rw [Try.params8] at hA hval
  obtain ⟨v0, vs0, d0, ds0, p0, q0, hargs, rfl, rfl, h0, r0⟩ := trodAll_cons hA
  obtain ⟨v1, vs1, d1, ds1, p1, q1, e1, rfl, rfl, h1, r1⟩ := trodAll_cons r0
  obtain ⟨v2, vs2, d2, ds2, p2, q2, e2, rfl, rfl, h2, r2⟩ := trodAll_cons r1
  obtain ⟨rfl, rfl, rfl⟩ := trodAll_nil r2
  subst e2; subst e1
  obtain rfl : args = #[v0, v1, v2] := by cases args; simp_all
  obtain ⟨rfl, rfl⟩ := trodVars_none hV
  obtain ⟨off, cap, l, n0, A0⟩ := argT (hval 0 25 v0 rfl rfl) h0
  obtain ⟨a0, a1, rfl, rfl, rfl, w0, w1⟩ := Go.Ev.open_arr2 u53 u50 c53 c50 (hval 1 53 v1 rfl rfl) h1
  obtain ⟨b0, b1, rfl, rfl, rfl, x0, x1⟩ := Go.Ev.open_st2 u29 u3 u24 rfl rfl c29 c3 c24 (hval 2 29 v2 rfl rfl) h2
  clear hA0 hval0
  let I : InT := { m := 60, l := l, off := off, cap := cap, k0 := a0, k1 := a1, k2 := 0, v := b1, xi := b0 }
  have hz : I.Ok := { m := .inr rfl, u := A0.u, k0 := bd16 w0, k1 := bd16 w1, k2 := by show (0 : Int) ≤ 0 ∧ (0 : Int) ≤ 65535; omega, v := bdU x1 }
  letI := I.R
  refine (binds_c hz rfl (bd64 x0) A0.len (W := W) A0.given).mono fun e W' ⟨he, hg⟩ => ?_
  subst he
  refine ⟨_, rfl, Go.Ev.post_low (pa := p0 ++ ([] ++ ([] ++ []))) (pv := []) hW' (fun _ _ _ => (trodAll_cons_mk (shut_bool Try.underlying4 _) trodAll_mk0))
    (fun sp hsp => (trodAll_cons_mk (A0.shut W' hg sp (fun q hq => hsp q (by simp [hq]))) (trodAll_cons_mk (Go.Ev.shut_arr2 u53 u50 c53 c50 w0 w1) (trodAll_cons_mk (Go.Ev.shut_st2 u29 u3 u24 rfl rfl c29 c3 c24 x0 x1) trodAll_mk0)))) (fun _ _ => rfl) rfl
    hg (ok_one (by kernel_rfl) rfl (okWide_bool_mk Try.underlying4 _))⟩

theorem over : Rows.sealBindsRow.holds Try.pinned (OpenSpec.ofChange Rows.sealBindsSpec) :=
  OpenClaim.holds_of_wide 8 Try.f8 rfl rfl rfl rfl rfl rfl rfl ⟨rfl, rfl, rfl, rfl, rfl⟩ rfl rfl rfl rfl rfl (by kernel_rfl) Try.func8 (by kernel_rfl)
    (of_decide_eq_true (by kernel_rfl)) (by unfold Func.isWrapper; first | (rw [if_pos (by decide +kernel)]; kernel_rfl) | (rw [if_neg (by decide +kernel)]; exact ⟨rfl, rfl⟩))
    (fun os started H enc _ => lifted os started H enc)

/-- ████ THE STATEMENT ████ -/
theorem proved : Rows.SealBindsSaid :=
  over
#print axioms proved
end Go.Proofs.Ytdenpaifjpmkgaa.sealBinds
