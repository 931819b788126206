/-
  For every list of numbers, every list of bytes and every four numbers of 64 bits the law SealOneChange answers true and leaves them as they were: no condition.
-/
import Derived.Test.YtdenpaifjpmkgaaRows
import Derived.Test.YtdenpaifjpmkgaaLg
import Derived.Test.YtdenpaifjpmkgaaEvSl
import Derived.Test.YtdenpaifjpmkgaaEvK2
import Derived.WalkKit
import Derived.ProofKit
import Derived.OpenShut
namespace Go.Proofs.Ytdenpaifjpmkgaa.sealOneChange
open Go.ChangeShapes Go.WideShapes Go.ChangeAt Go.RowKit
set_option linter.unusedVariables false      -- a walk need not use every 'w<i>' (that an integer argument fits its kind)

theorem own : ownKnob Try.prog.godebug = none := by kernel_rfl
theorem u22 : Try.prog.underlying 22 = some (.slice 3) := by kernel_rfl
theorem u23 : Try.prog.underlying 23 = some (.slice 5) := by kernel_rfl
theorem u48 : Try.prog.underlying 48 = some (.array 4 24) := by kernel_rfl
theorem u3 : Try.prog.underlying 3 = some (.int .i64) := by kernel_rfl
theorem u5 : Try.prog.underlying 5 = some (.int .u8) := by kernel_rfl
theorem u24 : Try.prog.underlying 24 = some (.int .u64) := by kernel_rfl
theorem c48 : Try.prog.cellsOf 48 = 4 := by kernel_rfl
theorem c24 : Try.prog.cellsOf 24 = 1 := by kernel_rfl
theorem c3 : Try.prog.cellsOf 3 = 1 := by kernel_rfl
theorem c5 : Try.prog.cellsOf 5 = 1 := by kernel_rfl

theorem bd {a : Int} (h : (Lit.int .u64 a).wf = true) : u64 a := by
  simp only [Lit.wf, Bool.and_eq_true, decide_eq_true_eq] at h
  simp [IntKind.min, IntKind.max, IntKind.bits, IntKind.signed] at h
  unfold u64
  omega
theorem bdI {a : Int} (h : (Lit.int .i64 a).wf = true) : i64 a := by
  simp only [Lit.wf, Bool.and_eq_true, decide_eq_true_eq] at h
  simp [IntKind.min, IntKind.max, IntKind.bits, IntKind.signed] at h
  unfold i64
  omega
theorem bdB {a : Int} (h : (Lit.int .u8 a).wf = true) : byt a := by
  simp only [Lit.wf, Bool.and_eq_true, decide_eq_true_eq] at h
  simp [IntKind.min, IntKind.max, IntKind.bits, IntKind.signed] at h
  unfold byt
  omega

/-- a slice as the law wants it, and as it reads when the law has answered -/
structure Arg {H : Type} (enc : TypeId × Value → H) (W : World) (t : TypeId) (k : IntKind) (v : Value) (d : DataW H) (p : List MemPlace) (off cap : Nat) (l : List Int) (n : Bool) : Prop where
  wf : ∀ x ∈ l, (Lit.int k x).wf = true
  len : l.length ≤ 9223372036854775807
  nil : n = true → l = []
  given : ∀ a, (a = 4 ↔ n = true) → Given W k a off cap l v
  shut : ∀ W', Below W.heap.size W W' → ∀ sp : Nat → Bool, (∀ q ∈ p, sp q.block = true) → DataW.Trod enc Try.prog W' 0 sp true t v d p

theorem arg {H : Type} {enc : TypeId × Value → H} {W : World} {b0 : Nat} {t e : TypeId} {k : IntKind} {v : Value} {d : DataW H} {p : List MemPlace} (ht : Try.prog.underlying t = some (.slice e)) (he : Try.prog.underlying e = some (.int k)) (hc : Try.prog.cellsOf e = 1)
    (hv : Value.okWide Try.prog W .any b0 t v) (h : DataW.Trod enc Try.prog W 0 (fun _ => true) true t v d p) : ∃ off cap l n, Arg enc W t k v d p off cap l n := by
  rcases Go.Ev.open_sl ht he hc hv h with ⟨rfl, rfl, rfl⟩ | ⟨b, off, len, cap, zs, rfl, hb, hl, hm, hz, rfl, rfl, hcell, hw, c, e', fz, hh, hcs⟩
  · exact ⟨0, 0, [], true, fun x hx => by simp at hx, by simp, fun _ => rfl, fun a ha => .nil (ha.2 rfl), fun W' _ sp _ => Go.Ev.shut_nil ht⟩
  · have hlen : (zs.take len).length = len := by rw [List.length_take]; omega
    have hmax : cap ≤ 9223372036854775807 := Nat.le_trans hm (by decide)
    refine ⟨off, cap, zs.take len, false, fun x hx => hw x (List.mem_of_mem_take hx), by omega, fun h => (by cases h), fun a ha => ?_, fun W' hg sp hsp => Go.Ev.shut_sl ht he hc hb hl hm hz hcell hw hg hsp⟩
    have : Given W k a off cap (zs.take len) (.slice (some ⟨b, off, none⟩) (zs.take len).length cap) := .at (fun h => by have := ha.1 h; cases this) (c := c) {
      cap := by omega
      blk := ⟨e', fz, hh⟩
      cell := fun i hi => by
        rw [hcs i (by omega)]
        congr 2
        simp [List.getD, show i < len by omega] }
    rw [hlen] at this
    exact this

/-! ### STEP 1: the law: law_c -/
/-! ### THE ROW's STEP: WRITTEN OUT: LEAVE IT -/
set_option maxRecDepth 100000 in
theorem lifted (os : Os) (started : os.Started) (H : Type) (enc : TypeId × Value → H) :
    ReturnsInHanded {} Try.checked os 5 .any (Rows.sealOneChangeSpec.pre6 enc Try.prog Try.f5 Rows.sealOneChangeRow.domain false) (Rows.sealOneChangeSpec.post enc Try.prog Try.f5 false true false false) := by
  refine returnsInHanded_of_change (C := Try.checked) own started (by kernel_rfl) Try.func5
    (ChangeSpec.witness6 (enc := enc) (C := Try.checked) false ⟨#[], #[.slice none 0 0, .slice none 0 0, .agg #[.int .u64 0, .int .u64 0, .int .u64 0, .int .u64 0]], []⟩ 8 (by kernel_rfl) (by kernel_rfl) (by kernel_rfl) (by kernel_rfl)) ?_
  intro W base args ds gs before hval0 hW hcnd _
  have hval : ∀ (j : Nat) t v, Try.f5.params[j]? = some t → args[j]? = some v → Value.okWide Try.prog W .any base t v := hval0
  have hW' := hW
  obtain ⟨p, q, hA0, hV, rfl, hfz, hnd⟩ := hW
  have hA : DataW.TrodAll enc Try.prog W 0 (fun _ => true) true Try.f5.params.toList args.toList ds p := hA0
  rw [Try.params5] at hA hval
  obtain ⟨v0, vs0, d0, ds0, p0, q0, hargs, rfl, rfl, h0, r0⟩ := trodAll_cons hA
  obtain ⟨v1, vs1, d1, ds1, p1, q1, e1, rfl, rfl, h1, r1⟩ := trodAll_cons r0
  obtain ⟨v2, vs2, d2, ds2, p2, q2, e2, rfl, rfl, h2, r2⟩ := trodAll_cons r1
  obtain ⟨rfl, rfl, rfl⟩ := trodAll_nil r2
  subst e2; subst e1
  obtain rfl : args = #[v0, v1, v2] := by cases args; simp_all
  obtain ⟨rfl, rfl⟩ := trodVars_none hV
  obtain ⟨oL, cL, l, n0, A0⟩ := arg u22 u3 c3 (hval 0 22 v0 rfl rfl) h0
  obtain ⟨oB, cB, b, n1, A1⟩ := arg u23 u5 c5 (hval 1 23 v1 rfl rfl) h1
  obtain ⟨a0, a1, a2, a3, rfl, rfl, rfl, w0, w1, w2, w3⟩ := Go.Ev.open_arr4 u48 u24 c48 c24 (hval 2 48 v2 rfl rfl) h2
  clear hA0 hval0
  let I : In := { l := l, b := b, cL := cL, oL := oL, cB := cB, oB := oB, z := fun i => match i with | 0 => a0 | 1 => a1 | 2 => a2 | 3 => a3 | _ => 0 }
  have hz : I.Ok := {
    l := fun x hx => bdI (A0.wf x hx)
    b := fun x hx => bdB (A1.wf x hx)
    z := fun i => by
      match i with
      | 0 => exact bd w0
      | 1 => exact bd w1
      | 2 => exact bd w2
      | 3 => exact bd w3
      | n + 4 => exact (show u64 0 from ⟨by decide, by decide⟩) }
  letI := I.R
  refine (law_c hz (W := W) A0.len A1.len A0.nil A1.nil A0.given A1.given).mono fun e W' ⟨he, hg⟩ => ?_
  subst he
  refine ⟨_, rfl, Go.Ev.post_low (pa := p0 ++ (p1 ++ ([] ++ []))) (pv := []) hW' (fun _ _ _ => (trodAll_cons_mk (shut_bool Try.underlying4 _) trodAll_mk0))
    (fun sp hsp => (trodAll_cons_mk (A0.shut W' hg sp (fun q hq => hsp q (by simp [hq]))) (trodAll_cons_mk (A1.shut W' hg sp (fun q hq => hsp q (by simp [hq]))) (trodAll_cons_mk (Go.Ev.shut_arr4 u48 u24 c48 c24 w0 w1 w2 w3) trodAll_mk0)))) (fun _ _ => rfl) rfl
    hg (ok_one (by kernel_rfl) rfl (okWide_bool_mk Try.underlying4 _))⟩

theorem over : Rows.sealOneChangeRow.holds Try.pinned (OpenSpec.ofChange Rows.sealOneChangeSpec) :=
  OpenClaim.holds_of_wide 5 Try.f5 rfl rfl rfl rfl rfl rfl rfl ⟨rfl, rfl, rfl, rfl, rfl⟩ rfl rfl rfl rfl rfl (by kernel_rfl) Try.func5 (by kernel_rfl)
    (of_decide_eq_true (by kernel_rfl)) (by unfold Func.isWrapper; first | (rw [if_pos (by decide +kernel)]; kernel_rfl) | (rw [if_neg (by decide +kernel)]; exact ⟨rfl, rfl⟩))
    (fun os started H enc _ => lifted os started H enc)

/-- ████ THE STATEMENT ████ -/
theorem proved : Rows.SealOneChangeSaid :=
  over
#print axioms proved
end Go.Proofs.Ytdenpaifjpmkgaa.sealOneChange
