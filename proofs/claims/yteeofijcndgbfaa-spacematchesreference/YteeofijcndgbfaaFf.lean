/-
  For every problem, every []uint16 and every five bytes the law SpaceMatchesReference answers true and leaves them as they were: no condition.
-/
import Derived.Test.YteeofijcndgbfaaRows
import Derived.Test.YteeofijcndgbfaaXo
import Derived.Test.YteeofijcndgbfaaTt
import Derived.Test.YteeofijcndgbfaaEvK5
import Derived.Test.YteeofijcndgbfaaEvPl
namespace Go.Proofs.Yteeofijcndgbfaa.spaceMatchesReference
open Go.ChangeShapes Go.WideShapes Go.ChangeAt Go.RowKit
set_option linter.unusedVariables false
/-! ### STEP 1: the law: matches_c -/
theorem u25 : Try.prog.underlying 25 = some (.array 5 5):=by kernel_rfl
theorem cl25 : Try.prog.cellsOf 25 = 5:=by kernel_rfl
theorem cl5e : Try.prog.cellsOf 5 = 1:=by kernel_rfl
set_option maxRecDepth 100000 in
theorem lifted (os : Os) (started : os.Started) (H : Type) (enc : TypeId × Value → H) :
  ReturnsInHanded {} Try.checked os 3 .any (Rows.spaceMatchesReferenceSpec.pre6 enc Try.prog Try.f3 Rows.spaceMatchesReferenceRow.domain false) (Rows.spaceMatchesReferenceSpec.post enc Try.prog Try.f3 false true false false):=by
 refine returnsInHanded_of_change_sized (C:=Try.checked) own started (by kernel_rfl) Try.func3
  (ChangeSpec.witness6 (enc:=enc) (C:=Try.checked) false ⟨#[],#[.agg #[.int .u8 0,.int .u8 0,.int .u8 0,.slice none 0 0],.slice none 0 0,.agg #[.int .u8 0,.int .u8 0,.int .u8 0,.int .u8 0,.int .u8 0]],[]⟩ 8 (by kernel_rfl) (by kernel_rfl) (by kernel_rfl) (by kernel_rfl)) ?_
 intro W base args ds gs before hval0 hW hcnd hwt _
 have hval : ∀ (j : Nat) t v,Try.f3.params[j]? = some t → args[j]? = some v → Value.okWide Try.prog W .any base t v:=hval0
 have hW':=hW
 obtain ⟨p,q,hA0,hV,rfl,hfz,hnd⟩:=hW
 have hA : DataW.TrodAll enc Try.prog W 0 (fun _=>true) true Try.f3.params.toList args.toList ds p:=hA0
 rw [Try.params3] at hA hval
 obtain ⟨v0,vs0,d0,ds0,p0,q0,hargs,rfl,rfl,h0,r0⟩:=trodAll_cons hA
 obtain ⟨v1,vs1,d1,ds1,p1,q1,e1,rfl,rfl,h1,r1⟩:=trodAll_cons r0
 obtain ⟨v2,vs2,d2,ds2,p2,q2,e2,rfl,rfl,h2,r2⟩:=trodAll_cons r1
 obtain ⟨rfl,rfl,rfl⟩:=trodAll_nil r2
 subst e2
 subst e1
 obtain rfl : args = #[v0,v1,v2]:=by cases args; simp_all
 obtain ⟨rfl,rfl⟩:=trodVars_none hV
 obtain ⟨x,y,z,va,da,pa,rfl,rfl,rfl,w0,w1,w2,⟨hva,hta⟩⟩:=open_raw (hval 0 24 v0 rfl rfl) h0
 obtain ⟨l,aA,cA,XA⟩:=argN hva hta
 obtain ⟨l2,aB,cB,XB⟩:=argN (hval 1 22 v1 rfl rfl) h1
 obtain ⟨a0,a1,a2,a3,a4,rfl,rfl,rfl,g0,g1,g2,g3,g4⟩:=Go.Ev.open_arr5 u25 Try.underlying5 cl25 cl5e (hval 2 25 v2 rfl rfl) h2
 have sa : va.cells.toList = [va]:=by rw [XA.is]; rfl
 obtain ⟨xn,hx,hxn⟩:=bd8 w0
 obtain ⟨yn,hy,hyn⟩:=bd8 w1
 obtain ⟨zn,hz,hzn⟩:=bd8 w2
 obtain ⟨s0,hs0,hsn0⟩:=bd8 g0
 obtain ⟨s1,hs1,hsn1⟩:=bd8 g1
 obtain ⟨s2,hs2,hsn2⟩:=bd8 g2
 obtain ⟨s3,hs3,hsn3⟩:=bd8 g3
 obtain ⟨s4,hs4,hsn4⟩:=bd8 g4
 clear hA0 hval0
 have key : Calls Try.prog 3 #[.agg #[.int .u8 x,.int .u8 y,.int .u8 z,va],v1,.agg #[.int .u8 a0,.int .u8 a1,.int .u8 a2,.int .u8 a3,.int .u8 a4]] W fun e w'=>e = .returned (.bool true) ∧ Below W.heap.size W w':=by
  rw [XA.is,XB.is,hx,hy,hz,hs0,hs1,hs2,hs3,hs4]
  exact matches_c hxn hyn hzn hsn0 hsn1 hsn2 hsn3 hsn4 XA.len XA.given XB.len XB.given
 refine key.mono fun e W' ⟨he,hg⟩=>?_
 subst he
 refine ⟨_,rfl,Go.Ev.post_lowW (pa:=p0 ++ (p1 ++ ([] ++ []))) (pv:=[]) hW' (fun _ _ _=>(trodAll_cons_mk (shut_bool Try.underlying4 _) trodAll_mk0))
  (fun sp hsp=>(trodAll_cons_mk (shut_raw w0 w1 w2 sa (XA.shut W' hg sp (fun q hq=>hsp q (by simp [hq])))) (trodAll_cons_mk (XB.shut W' hg sp (fun q hq=>hsp q (by simp [hq]))) (trodAll_cons_mk (Go.Ev.shut_arr5 u25 Try.underlying5 cl25 cl5e g0 g1 g2 g3 g4) trodAll_mk0)))) (fun _ _=>rfl) rfl
  hg (ok_one (by kernel_rfl) rfl (okWide_bool_mk Try.underlying4 _))⟩
theorem over : Rows.spaceMatchesReferenceRow.holds Try.pinned (OpenSpec.ofChange Rows.spaceMatchesReferenceSpec):=
 OpenClaim.holds_of_wide 3 Try.f3 rfl rfl rfl rfl rfl rfl rfl ⟨rfl,rfl,rfl,rfl,rfl⟩ rfl rfl rfl rfl rfl (by kernel_rfl) Try.func3 (by kernel_rfl)
  (of_decide_eq_true (by kernel_rfl)) (by unfold Func.isWrapper; first | (rw [if_pos (by decide +kernel)]; kernel_rfl) | (rw [if_neg (by decide +kernel)]; exact ⟨rfl,rfl⟩))
  (fun os started H enc _=>lifted os started H enc)
/-- ████ THE STATEMENT ████ -/
theorem proved : Rows.SpaceMatchesReferenceSaid:=
 over
#print axioms proved
end Go.Proofs.Yteeofijcndgbfaa.spaceMatchesReference
