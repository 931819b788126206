/-
  For every value of type Lists and every array of two bytes the law PolyInterpolates answers true and leaves them as they were: no condition.
-/
import Derived.Test.YtllecfhfhcmpaaaRows
import Derived.Test.YtllecfhfhcmpaaaLl
import Derived.Test.YtllecfhfhcmpaaaLm
import Derived.Test.YtllecfhfhcmpaaaEvK2
namespace Go.Proofs.Ytllecfhfhcmpaaa.polyInterpolates
open Go.ChangeShapes Go.WideShapes Go.ChangeAt Go.RowKit
set_option linter.unusedVariables false      -- a walk need not use every 'w<i>' (that an integer argument fits its kind)

/-! ### STEP 1: the law: interp_law -/
theorem cells49 : Try.prog.cellsOf 49 = 2 := by kernel_rfl
theorem cells5 : Try.prog.cellsOf 5 = 1 := by kernel_rfl

/-! ### THE ROW's STEP: WRITTEN OUT: LEAVE IT -/
set_option maxRecDepth 100000 in
theorem lifted (os : Os) (started : os.Started) (H : Type) (enc : TypeId × Value → H) :
  ReturnsInHanded {} Try.checked os 8 .any (Rows.polyInterpolatesSpec.pre6 enc Try.prog Try.f8 Rows.polyInterpolatesRow.domain false) (Rows.polyInterpolatesSpec.post enc Try.prog Try.f8 false true false false) := by
 refine returnsInHanded_of_change (C := Try.checked) own started (by kernel_rfl) Try.func8
  (ChangeSpec.witness6 (enc := enc) (C := Try.checked) false ⟨#[], #[.agg #[.int .u8 0, .slice none 0 0, .slice none 0 0, .slice none 0 0], .agg #[.int .u8 0, .int .u8 0]], []⟩ 8 (by kernel_rfl) (by kernel_rfl) (by kernel_rfl) (by kernel_rfl)) ?_
 intro W base args ds gs before hval0 hW hcnd _
 letI : Go.Ev.Rho := Go.Ev.rhoN (fun _ => 0)
 have hval : ∀ (j : Nat) t v, Try.f8.params[j]? = some t → args[j]? = some v → Value.okWide Try.prog W .any base t v := hval0
 have hW' := hW
 obtain ⟨p, q, hA0, hV, rfl, hfz, hnd⟩ := hW
 have hA : DataW.TrodAll enc Try.prog W 0 (fun _ => true) true Try.f8.params.toList args.toList ds p := hA0
 rw [Try.params8] at hA hval
 obtain ⟨v0, vs0, d0, ds0, p0, q0, hargs, rfl, rfl, h0, r0⟩ := trodAll_cons hA
 obtain ⟨v1, vs1, d1, ds1, p1, q1, e1, rfl, rfl, h1, r1⟩ := trodAll_cons r0
 obtain ⟨rfl, rfl, rfl⟩ := trodAll_nil r1
 subst e1
 obtain rfl : args = #[v0, v1] := by cases args; simp_all
 obtain ⟨rfl, rfl⟩ := trodVars_none hV
 obtain ⟨z, va, vb, vc, da, db, dc, pa, pb, pc, rfl, rfl, rfl, w0, ⟨hva, hta⟩, ⟨hvb, htb⟩, ⟨hvc, htc⟩⟩ := open_lists (hval 0 24 v0 rfl rfl) h0
 obtain ⟨A, aA, cA, XA⟩ := argB hva hta
 obtain ⟨B, aB, cB, XB⟩ := argB hvb htb
 obtain ⟨C, aC, cC, XC⟩ := argB hvc htc
 have sa : va.cells.toList = [va] := by rw [XA.is]; rfl
 have sb : vb.cells.toList = [vb] := by rw [XB.is]; rfl
 have sc : vc.cells.toList = [vc] := by rw [XC.is]; rfl
 obtain ⟨zn, hz, hzn⟩ := bd8 w0
 obtain ⟨a0, a1, rfl, rfl, rfl, w1, w2⟩ := Go.Ev.open_arr2 Try.underlying49 Try.underlying5 cells49 cells5 (hval 1 49 v1 rfl rfl) h1
 obtain ⟨yn, hy, hyn⟩ := bd8 w1
 obtain ⟨yn2, hy2, hyn2⟩ := bd8 w2
 clear hA0 hval0
 have key : Calls Try.prog 8 #[.agg #[.int .u8 z, va, vb, vc], .agg #[.int .u8 a0, .int .u8 a1]] W fun e w' => e = .returned (.bool true) ∧ Below W.heap.size W w' := by
  rw [XA.is, XB.is, XC.is, hz, hy, hy2]
  exact interp_law hzn hyn hyn2 XA.by' XB.by' XC.by' XA.len XB.len XC.len XA.given XB.given XC.given
 refine key.mono fun e W' ⟨he, hg⟩ => ?_
 subst he
 refine ⟨_, rfl, Go.Ev.post_low (pa := (pa ++ (pb ++ pc)) ++ ([] ++ [])) (pv := []) hW' (fun _ _ _ => (trodAll_cons_mk (shut_bool Try.underlying4 _) trodAll_mk0))
  (fun sp hsp => (trodAll_cons_mk (shut_lists w0 sa sb sc (XA.shut W' hg sp (fun q hq => hsp q (by simp [hq]))) (XB.shut W' hg sp (fun q hq => hsp q (by simp [hq]))) (XC.shut W' hg sp (fun q hq => hsp q (by simp [hq])))) (trodAll_cons_mk (Go.Ev.shut_arr2 Try.underlying49 Try.underlying5 cells49 cells5 w1 w2) trodAll_mk0))) (fun _ _ => rfl) rfl
  hg (ok_one (by kernel_rfl) rfl (okWide_bool_mk Try.underlying4 _))⟩

theorem over : Rows.polyInterpolatesRow.holds Try.pinned (OpenSpec.ofChange Rows.polyInterpolatesSpec) :=
 OpenClaim.holds_of_wide 8 Try.f8 rfl rfl rfl rfl rfl rfl rfl ⟨rfl, rfl, rfl, rfl, rfl⟩ rfl rfl rfl rfl rfl (by kernel_rfl) Try.func8 (by kernel_rfl)
  (of_decide_eq_true (by kernel_rfl)) (by unfold Func.isWrapper; first | (rw [if_pos (by decide +kernel)]; kernel_rfl) | (rw [if_neg (by decide +kernel)]; exact ⟨rfl, rfl⟩))
  (fun os started H enc _ => lifted os started H enc)

/-- ████ THE STATEMENT ████ -/
theorem proved : Rows.PolyInterpolatesSaid :=
 over
#print axioms proved
end Go.Proofs.Ytllecfhfhcmpaaa.polyInterpolates
