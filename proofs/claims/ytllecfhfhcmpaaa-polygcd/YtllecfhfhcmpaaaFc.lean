/-
  For every value of type Lists the law PolyGcd answers true and leaves it as it was: no condition.
-/
import Derived.Test.YtllecfhfhcmpaaaRows
import Derived.Test.YtllecfhfhcmpaaaLg
import Derived.Test.YtllecfhfhcmpaaaLi
namespace Go.Proofs.Ytllecfhfhcmpaaa.polyGcd
open Go.ChangeShapes Go.WideShapes Go.ChangeAt Go.RowKit
set_option linter.unusedVariables false      -- a walk need not use every 'w<i>' (that an integer argument fits its kind)

/-! ### STEP 1: the law: gcd_law -/
/-! ### THE ROW's STEP: WRITTEN OUT: LEAVE IT -/
set_option maxRecDepth 100000 in
theorem lifted (os : Os) (started : os.Started) (H : Type) (enc : TypeId × Value → H) :
  ReturnsInHanded {} Try.checked os 6 .any (Rows.polyGcdSpec.pre6 enc Try.prog Try.f6 Rows.polyGcdRow.domain false) (Rows.polyGcdSpec.post enc Try.prog Try.f6 false true false false) := by
 refine returnsInHanded_of_change (C := Try.checked) own started (by kernel_rfl) Try.func6
  (ChangeSpec.witness6 (enc := enc) (C := Try.checked) false ⟨#[], #[.agg #[.int .u8 0, .slice none 0 0, .slice none 0 0, .slice none 0 0]], []⟩ 8 (by kernel_rfl) (by kernel_rfl) (by kernel_rfl) (by kernel_rfl)) ?_
 intro W base args ds gs before hval0 hW hcnd _
 letI : Go.Ev.Rho := Go.Ev.rhoN (fun _ => 0)
 have hval : ∀ (j : Nat) t v, Try.f6.params[j]? = some t → args[j]? = some v → Value.okWide Try.prog W .any base t v := hval0
 have hW' := hW
 obtain ⟨p, q, hA0, hV, rfl, hfz, hnd⟩ := hW
 have hA : DataW.TrodAll enc Try.prog W 0 (fun _ => true) true Try.f6.params.toList args.toList ds p := hA0
 rw [Try.params6] at hA hval
 obtain ⟨v0, vs0, d0, ds0, p0, q0, hargs, rfl, rfl, h0, r0⟩ := trodAll_cons hA
 obtain ⟨rfl, rfl, rfl⟩ := trodAll_nil r0
 obtain rfl : args = #[v0] := by cases args; simp_all
 obtain ⟨rfl, rfl⟩ := trodVars_none hV
 obtain ⟨z, va, vb, vc, da, db, dc, pa, pb, pc, rfl, rfl, rfl, w0, ⟨hva, hta⟩, ⟨hvb, htb⟩, ⟨hvc, htc⟩⟩ := open_lists (hval 0 24 v0 rfl rfl) h0
 obtain ⟨A, aA, cA, XA⟩ := argB hva hta
 obtain ⟨B, aB, cB, XB⟩ := argB hvb htb
 obtain ⟨C, aC, cC, XC⟩ := argB hvc htc
 have sa : va.cells.toList = [va] := by rw [XA.is]; rfl
 have sb : vb.cells.toList = [vb] := by rw [XB.is]; rfl
 have sc : vc.cells.toList = [vc] := by rw [XC.is]; rfl
 obtain ⟨zn, hz, hzn⟩ := bd8 w0
 clear hA0 hval0
 have key : Calls Try.prog 6 #[.agg #[.int .u8 z, va, vb, vc]] W fun e w' => e = .returned (.bool true) ∧ Below W.heap.size W w' := by
  rw [XA.is, XB.is, XC.is, hz]
  exact gcd_law hzn XA.by' XB.by' XC.by' XA.len XB.len XC.len XA.given XB.given XC.given
 refine key.mono fun e W' ⟨he, hg⟩ => ?_
 subst he
 refine ⟨_, rfl, Go.Ev.post_low (pa := (pa ++ (pb ++ pc)) ++ []) (pv := []) hW' (fun _ _ _ => (trodAll_cons_mk (shut_bool Try.underlying4 _) trodAll_mk0))
  (fun sp hsp => (trodAll_cons_mk (shut_lists w0 sa sb sc (XA.shut W' hg sp (fun q hq => hsp q (by simp [hq]))) (XB.shut W' hg sp (fun q hq => hsp q (by simp [hq]))) (XC.shut W' hg sp (fun q hq => hsp q (by simp [hq])))) trodAll_mk0)) (fun _ _ => rfl) rfl
  hg (ok_one (by kernel_rfl) rfl (okWide_bool_mk Try.underlying4 _))⟩

theorem over : Rows.polyGcdRow.holds Try.pinned (OpenSpec.ofChange Rows.polyGcdSpec) :=
 OpenClaim.holds_of_wide 6 Try.f6 rfl rfl rfl rfl rfl rfl rfl ⟨rfl, rfl, rfl, rfl, rfl⟩ rfl rfl rfl rfl rfl (by kernel_rfl) Try.func6 (by kernel_rfl)
  (of_decide_eq_true (by kernel_rfl)) (by unfold Func.isWrapper; first | (rw [if_pos (by decide +kernel)]; kernel_rfl) | (rw [if_neg (by decide +kernel)]; exact ⟨rfl, rfl⟩))
  (fun os started H enc _ => lifted os started H enc)

/-- ████ THE STATEMENT ████ -/
theorem proved : Rows.PolyGcdSaid :=
 over
#print axioms proved
end Go.Proofs.Ytllecfhfhcmpaaa.polyGcd
