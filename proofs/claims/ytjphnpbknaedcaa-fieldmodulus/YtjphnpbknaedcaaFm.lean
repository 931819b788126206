/-
  For every byte the law FieldModulus answers true and leaves the byte as it was: no condition.
-/
import Derived.Test.YtjphnpbknaedcaaRows
import Derived.Test.YtjphnpbknaedcaaMg
import Derived.WalkKit
import Derived.ProofKit
import Derived.OpenShut
namespace Go.Proofs.Ytjphnpbknaedcaa.fieldModulus
open Go.ChangeShapes Go.WideShapes Go.ChangeAt Go.RowKit
set_option linter.unusedVariables false      -- a walk need not use every 'w<i>' (that an integer argument fits its kind)

theorem own : ownKnob Try.prog.godebug = none := by kernel_rfl

/-! ### STEP 1: the law, evaluated at the byte 27 y + i -/
open Go.Ev in
theorem walk (a0 : Int) (w0 : (Lit.int .u8 a0).wf = true) (w : World) :
    Calls Try.prog 7 #[.int .u8 a0] w fun e w' => e = .returned (.bool true) ∧ Below w.heap.size w w' := by
  have hb : 0 ≤ a0 ∧ a0 ≤ 255 := by
    simp only [Lit.wf, Bool.and_eq_true, decide_eq_true_eq] at w0
    simp [IntKind.min, IntKind.max, IntKind.bits, IntKind.signed] at w0
    omega
  obtain ⟨s1, q, e⟩ := run_at (a0 % 27).toNat (by omega) (a0 / 27)
  · refine (run_calls fit (orcOf_ok L7_ok) e rfl w (vs := #[.int .u8 a0]) ?_).mono ?_
    · refine LR.cons ?_ .nil
      have hx : (SX.bin .add (.bin .mul (.lit 27) (.var (a0 / 27) 0 9)) (.lit (Int.ofNat (a0 % 27).toNat))).eval = a0 := by
        simp only [SX.eval, SOp.app, Int.ofNat_eq_natCast]; omega
      have : VR none0 [] (byteOf (a0 % 27).toNat (a0 / 27)) (.int .u8 (SX.bin .add (.bin .mul (.lit 27) (.var (a0 / 27) 0 9)) (.lit (Int.ofNat (a0 % 27).toNat))).eval) := by
        refine .sym ?_ ?_ ?_
        · simp only [SX.ok, true_and, and_true]; omega
        · rw [hx, Int.ofNat_eq_natCast]; omega
        · rw [hx]; omega
      rw [hx] at this
      exact this
    · rintro e' w' ⟨c, h1, h2, h3⟩
      have := h2 none0 []
      cases this
      exact ⟨h1, h3⟩

/-! ### THE ROW's STEP: WRITTEN OUT: LEAVE IT -/
set_option maxRecDepth 100000 in
theorem lifted (os : Os) (started : os.Started) (H : Type) (enc : TypeId × Value → H) :
    ReturnsInHanded {} Try.checked os 7 .any (Rows.fieldModulusSpec.pre6 enc Try.prog Try.f7 Rows.fieldModulusRow.domain false) (Rows.fieldModulusSpec.post enc Try.prog Try.f7 false true false false) := by
  refine returnsInHanded_of_change (C := Try.checked) own started (by kernel_rfl) Try.func7
    (ChangeSpec.witness6 (enc := enc) (C := Try.checked) false ⟨#[], #[.int .u8 0], []⟩ 8 (by kernel_rfl) (by kernel_rfl) (by kernel_rfl) (by kernel_rfl)) ?_
  intro W base args ds gs before hval0 hW hcnd _
  have hval : ∀ (j : Nat) t v, Try.f7.params[j]? = some t → args[j]? = some v → Value.okWide Try.prog W .any base t v := hval0
  have hW' := hW
  obtain ⟨p, q, hA0, hV, rfl, hfz, hnd⟩ := hW
  have hA : DataW.TrodAll enc Try.prog W 0 (fun _ => true) true Try.f7.params.toList args.toList ds p := hA0
  rw [Try.params7] at hA hval
  obtain ⟨v0, vs0, d0, ds0, p0, q0, hargs, rfl, rfl, h0, r0⟩ := trodAll_cons hA
  obtain ⟨rfl, rfl, rfl⟩ := trodAll_nil r0
  obtain rfl : args = #[v0] := by cases args; simp_all
  obtain ⟨rfl, rfl⟩ := trodVars_none hV
  obtain ⟨a0, rfl, rfl, rfl, w0⟩ := open_int Try.underlying5 (hval 0 5 v0 rfl rfl) h0
  clear hA0 hval0
  simp only [List.append_nil] at hW'
  refine (walk a0 w0 W).mono fun e W' ⟨he, hg⟩ => ?_
  subst he
  exact ⟨_, rfl, Go.Ev.post_low (pa := []) (pv := []) hW' (fun _ _ _ => (trodAll_cons_mk (shut_bool Try.underlying4 _) trodAll_mk0)) (fun sp _ => (trodAll_cons_mk (shut_int Try.underlying5 w0) trodAll_mk0)) (fun _ _ => rfl) rfl
    hg (ok_one (by kernel_rfl) rfl (okWide_bool_mk Try.underlying4 _))⟩

theorem over : Rows.fieldModulusRow.holds Try.pinned (OpenSpec.ofChange Rows.fieldModulusSpec) :=
  OpenClaim.holds_of_wide 7 Try.f7 rfl rfl rfl rfl rfl rfl rfl ⟨rfl, rfl, rfl, rfl, rfl⟩ rfl rfl rfl rfl rfl (by kernel_rfl) Try.func7 (by kernel_rfl)
    (of_decide_eq_true (by kernel_rfl)) (by unfold Func.isWrapper; first | (rw [if_pos (by decide +kernel)]; kernel_rfl) | (rw [if_neg (by decide +kernel)]; exact ⟨rfl, rfl⟩))
    (fun os started H enc _ => lifted os started H enc)

/-- ████ THE STATEMENT ████ -/
theorem proved : Rows.FieldModulusSaid :=
  over
#print axioms proved
end Go.Proofs.Ytjphnpbknaedcaa.fieldModulus
