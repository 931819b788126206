/-
  For every raw code, every list of integers and every byte the law CodeRefuses answers true and leaves them as they were: no condition.
-/
import Derived.Test.YtdafhhojiioifaaRows
import Derived.Test.YtdafhhojiioifaaEo
import Derived.Test.YtdafhhojiioifaaEn
import Derived.Test.YtdafhhojiioifaaEvPl
namespace Go.Proofs.Ytdafhhojiioifaa.codeRefuses
open Go.ChangeShapes Go.WideShapes Go.ChangeAt Go.RowKit
set_option linter.unusedVariables false

/-! ### STEP 1: the law: refuses_c -/
set_option maxRecDepth 100000 in
theorem lifted (os : Os) (started : os.Started) (H : Type) (enc : TypeId × Value → H) :
  ReturnsInHanded {} Try.checked os 9 .any (Rows.codeRefusesSpec.pre6 enc Try.prog Try.f9 Rows.codeRefusesRow.domain false) (Rows.codeRefusesSpec.post enc Try.prog Try.f9 false true false false) := by
 refine returnsInHanded_of_change (C := Try.checked) own started (by kernel_rfl) Try.func9
  (ChangeSpec.witness6 (enc := enc) (C := Try.checked) false ⟨#[], #[.agg #[.int .u8 0, .int .u8 0, .int .u8 0, .slice none 0 0], .slice none 0 0, .int .u8 0], []⟩ 8 (by kernel_rfl) (by kernel_rfl) (by kernel_rfl) (by kernel_rfl)) ?_
 intro W base args ds gs before hval0 hW hcnd _
 have hval : ∀ (j : Nat) t v, Try.f9.params[j]? = some t → args[j]? = some v → Value.okWide Try.prog W .any base t v := hval0
 have hW' := hW
 obtain ⟨p, q, hA0, hV, rfl, hfz, hnd⟩ := hW
 have hA : DataW.TrodAll enc Try.prog W 0 (fun _ => true) true Try.f9.params.toList args.toList ds p := hA0
 rw [Try.params9] at hA hval
 obtain ⟨v0, vs0, d0, ds0, p0, q0, e0, rfl, rfl, h0, r0⟩ := trodAll_cons hA
 obtain ⟨v1, vs1, d1, ds1, p1, q1, e1, rfl, rfl, h1, r1⟩ := trodAll_cons r0
 obtain ⟨v2, vs2, d2, ds2, p2, q2, e2, rfl, rfl, h2, r2⟩ := trodAll_cons r1
 obtain ⟨rfl, rfl, rfl⟩ := trodAll_nil r2
 subst e2
 subst e1
 obtain rfl : args = #[v0, v1, v2] := by cases args; simp_all
 obtain ⟨rfl, rfl⟩ := trodVars_none hV
 obtain ⟨x, y, z, va, da, pa, rfl, rfl, rfl, w0, w1, w2, ⟨hva, hta⟩⟩ := open_raw (hval 0 27 v0 rfl rfl) h0
 obtain ⟨l, aA, cA, XA⟩ := argN hva hta
 have sa : va.cells.toList = [va] := by rw [XA.is]; rfl
 obtain ⟨xn, hx, hxn⟩ := bd8 w0
 obtain ⟨yn, hy, hyn⟩ := bd8 w1
 obtain ⟨zn, hz, hzn⟩ := bd8 w2
 obtain ⟨ZI, lI, aI, cI, XI⟩ := argI (hval 1 39 v1 rfl rfl) h1
 obtain ⟨b2, rfl, rfl, rfl, wb2⟩ := open_int Try.underlying5 (hval 2 5 v2 rfl rfl) h2
 obtain ⟨bn2, hb2, hbn2⟩ := bd8 wb2
 clear hA0 hval0
 have key : Calls Try.prog 9 #[.agg #[.int .u8 x, .int .u8 y, .int .u8 z, va], v1, .int .u8 b2] W fun e w' => e = .returned (.bool true) ∧ Below W.heap.size W w' := by
  rw [XA.is, hx, hy, hz, XI.is, hb2]
  exact refuses_c hxn hyn hzn XA.len XA.given XI.len XI.given hbn2
 refine key.mono fun e W' ⟨he, hg⟩ => ?_
 subst he
 refine ⟨_, rfl, Go.Ev.post_lowW (pa := p0 ++ (p1 ++ ([] ++ []))) (pv := []) hW' (fun _ _ _ => (trodAll_cons_mk (shut_bool Try.underlying4 _) trodAll_mk0))
  (fun sp hsp => (trodAll_cons_mk (shut_raw w0 w1 w2 sa (XA.shut W' hg sp (fun q hq => hsp q (by simp [hq])))) (trodAll_cons_mk (XI.shut W' hg sp (fun q hq => hsp q (by simp [hq]))) (trodAll_cons_mk (shut_int Try.underlying5 wb2) trodAll_mk0)))) (fun _ _ => rfl) rfl
  hg (ok_one (by kernel_rfl) rfl (okWide_bool_mk Try.underlying4 _))⟩

theorem over : Rows.codeRefusesRow.holds Try.pinned (OpenSpec.ofChange Rows.codeRefusesSpec) :=
 OpenClaim.holds_of_wide 9 Try.f9 rfl rfl rfl rfl rfl rfl rfl ⟨rfl, rfl, rfl, rfl, rfl⟩ rfl rfl rfl rfl rfl (by kernel_rfl) Try.func9 (by kernel_rfl)
  (of_decide_eq_true (by kernel_rfl)) (by unfold Func.isWrapper; first | (rw [if_pos (by decide +kernel)]; kernel_rfl) | (rw [if_neg (by decide +kernel)]; exact ⟨rfl, rfl⟩))
  (fun os started H enc _ => lifted os started H enc)

/-- ████ THE STATEMENT ████ -/
theorem proved : Rows.CodeRefusesSaid :=
 over
#print axioms proved
end Go.Proofs.Ytdafhhojiioifaa.codeRefuses
