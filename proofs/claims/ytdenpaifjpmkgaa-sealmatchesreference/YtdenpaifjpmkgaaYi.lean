/-
  For every list of numbers, every list of bytes and every value of type Odd the law SealMatchesReference answers true and leaves them as they were: no condition.
-/
import Derived.Test.YtdenpaifjpmkgaaRows
import Derived.Test.YtdenpaifjpmkgaaTl
import Derived.Test.YtdenpaifjpmkgaaYh
namespace Go.Proofs.Ytdenpaifjpmkgaa.sealMatchesReference
open Go.ChangeShapes Go.WideShapes Go.ChangeAt Go.RowKit
set_option linter.unusedVariables false      -- a walk need not use every 'w<i>' (that an integer argument fits its kind)

theorem u31 : Try.prog.underlying 31 = some (.struct #[{ name := "H", type := 24, offset := 0, embedded := false, tag := "", pkgPath := "", byteOffset := 0 }, { name := "W", type := 24, offset := 1, embedded := false, tag := "", pkgPath := "", byteOffset := 8 }, { name := "Tree", type := 27, offset := 2, embedded := false, tag := "", pkgPath := "", byteOffset := 16 }, { name := "P", type := 29, offset := 4, embedded := false, tag := "", pkgPath := "", byteOffset := 48 }]) := by kernel_rfl
theorem u27 : Try.prog.underlying 27 = some (.struct #[{ name := "N", type := 3, offset := 0, embedded := false, tag := "", pkgPath := "", byteOffset := 0 }, { name := "Path", type := 25, offset := 1, embedded := false, tag := "", pkgPath := "", byteOffset := 8 }]) := by kernel_rfl
theorem u29 : Try.prog.underlying 29 = some (.struct #[{ name := "I", type := 3, offset := 0, embedded := false, tag := "", pkgPath := "", byteOffset := 0 }, { name := "Leaf", type := 24, offset := 1, embedded := false, tag := "", pkgPath := "", byteOffset := 8 }]) := by kernel_rfl
theorem u22 : Try.prog.underlying 22 = some (.slice 3) := by kernel_rfl
theorem u23 : Try.prog.underlying 23 = some (.slice 5) := by kernel_rfl
theorem u3 : Try.prog.underlying 3 = some (.int .i64) := by kernel_rfl
theorem u5 : Try.prog.underlying 5 = some (.int .u8) := by kernel_rfl
theorem c31 : Try.prog.cellsOf 31 = 6 := by kernel_rfl
theorem c27 : Try.prog.cellsOf 27 = 2 := by kernel_rfl
theorem c29 : Try.prog.cellsOf 29 = 2 := by kernel_rfl
theorem c25 : Try.prog.cellsOf 25 = 1 := by kernel_rfl
theorem c3 : Try.prog.cellsOf 3 = 1 := by kernel_rfl
theorem c5 : Try.prog.cellsOf 5 = 1 := by kernel_rfl
theorem t31 : Try.prog.cellTypes Try.prog.depth 31 = some [24, 24, 3, 25, 3, 24] := by kernel_rfl

theorem bdI {a : Int} (h : (Lit.int .i64 a).wf = true) : i64 a := by
  simp only [Lit.wf, Bool.and_eq_true, decide_eq_true_eq] at h
  simp [IntKind.min, IntKind.max, IntKind.bits, IntKind.signed] at h
  unfold i64
  omega
theorem bdB {a : Int} (h : (Lit.int .u8 a).wf = true) : byt a := by
  simp only [Lit.wf, Bool.and_eq_true, decide_eq_true_eq] at h
  simp [IntKind.min, IntKind.max, IntKind.bits, IntKind.signed] at h
  unfold byt
  omega

/-! ### a list as an argument -/
structure ArgK {H : Type} (enc : TypeId × Value → H) (W : World) (t : TypeId) (k : IntKind) (v : Value) (d : DataW H) (p : List MemPlace) (l : List Int) : Prop where
  wf : ∀ x ∈ l, (Lit.int k x).wf = true
  given : GivenK W k l v
  shut : ∀ W', Below W.heap.size W W' → ∀ sp : Nat → Bool, (∀ q ∈ p, sp q.block = true) → DataW.Trod enc Try.prog W' 0 sp true t v d p
theorem argK {H : Type} {enc : TypeId × Value → H} {W : World} {b0 : Nat} {t e : TypeId} {k : IntKind} {v : Value} {d : DataW H} {p : List MemPlace} (ht : Try.prog.underlying t = some (.slice e)) (he : Try.prog.underlying e = some (.int k)) (hc : Try.prog.cellsOf e = 1)
    (hv : Value.okWide Try.prog W .any b0 t v) (h : DataW.Trod enc Try.prog W 0 (fun _ => true) true t v d p) : ∃ l, ArgK enc W t k v d p l := by
  rcases Go.Ev.open_sl ht he hc hv h with ⟨rfl, rfl, rfl⟩ | ⟨b, off, len, cap, zs, rfl, hb, hl, hm, hz, rfl, rfl, hcell, hw, c, e', fz, hh, hcs⟩
  · exact ⟨[], fun x hx => by simp at hx, .nil rfl, fun W' _ sp _ => Go.Ev.shut_nil ht⟩
  · have hlen : (zs.take len).length = len := by rw [List.length_take]; omega
    refine ⟨zs.take len, fun x hx => hw x (List.mem_of_mem_take hx), ?_, fun W' hg sp hsp => Go.Ev.shut_sl ht he hc hb hl hm hz hcell hw hg hsp⟩
    obtain ⟨f1, f2⟩ := fz
    have : GivenK W k (zs.take len) (.slice (some ⟨b, off, none⟩) (zs.take len).length cap) := .at (by omega) hh fun i hi => by
      rw [hcs i (by omega)]
      congr 2
      simp [List.getD, show i < len by omega]
    rw [hlen] at this
    exact this

/-! ### a value of type Odd as an argument -/
section
variable {H : Type} {enc : TypeId × Value → H} {W : World}
theorem arrOf6 {cs : Array Value} (h : cs.size = 6) : ∃ a b c d e f, cs = #[a, b, c, d, e, f] := by
  obtain ⟨l⟩ := cs
  match l, h with
  | [a, b, c, d, e, f], _ => exact ⟨a, b, c, d, e, f, rfl⟩
def oddV (h wd N : Int) (pv : Value) (pI lf : Int) : Value := .agg #[.int .u64 h, .int .u64 wd, .int .i64 N, pv, .int .i64 pI, .int .u64 lf]
def oddD (h wd N : Int) (dp : DataW H) (pI lf : Int) : DataW H := .agg [.lit (.int .u64 h), .lit (.int .u64 wd), .agg [.lit (.int .i64 N), dp], .agg [.lit (.int .i64 pI), .lit (.int .u64 lf)]]
theorem open_odd {b0 : Nat} {v : Value} {d : DataW H} {p : List MemPlace} (hv : Value.okWide Try.prog W .any b0 31 v) (h : DataW.Trod enc Try.prog W 0 (fun _ => true) true 31 v d p) :
    ∃ (a0 a1 a2 a4 a5 : Int) (pv : Value) (dp : DataW H), v = oddV a0 a1 a2 pv a4 a5 ∧ d = oddD a0 a1 a2 dp a4 a5 ∧ (Lit.int .u64 a0).wf = true ∧ (Lit.int .u64 a1).wf = true ∧ (Lit.int .i64 a2).wf = true ∧ (Lit.int .i64 a4).wf = true ∧ (Lit.int .u64 a5).wf = true ∧
      Value.okWide Try.prog W .any b0 25 pv ∧ DataW.Trod enc Try.prog W 0 (fun _ => true) true 25 pv dp p := by
  simp only [Value.okWide, u31] at hv
  obtain ⟨cs, rfl, hsz, ts, hts, _, hrow⟩ := hv
  rw [t31] at hts
  obtain rfl := (Option.some.inj hts).symm
  obtain ⟨e0, e1, e2, e3, e4, e5, rfl⟩ := arrOf6 (hsz.trans c31)
  have hv3 : Value.okWide Try.prog W .any b0 25 e3 := by
    obtain ⟨u, hu, hk⟩ := hrow 3 e3 rfl
    obtain rfl : (25 : TypeId) = u := by simpa using hu
    simp only [Value.okWide, u25]
    exact hk
  obtain ⟨fuel, hf⟩ := h
  obtain ⟨xs, n, rfl, hx, hl, hxs, hg⟩ := DataW.trod_struct u31 hf
  match xs, hxs with
  | [x0, x1, x2, x3], _ =>
    have g0 : DataW.trod enc Try.prog W 0 (fun _ => true) true n 24 (([e0, e1, e2, e3, e4, e5].drop 0).take (Try.prog.cellsOf 24)) = some x0 := hg 0 _ rfl
    have g1 : DataW.trod enc Try.prog W 0 (fun _ => true) true n 24 (([e0, e1, e2, e3, e4, e5].drop 1).take (Try.prog.cellsOf 24)) = some x1 := hg 1 _ rfl
    have g2 : DataW.trod enc Try.prog W 0 (fun _ => true) true n 27 (([e0, e1, e2, e3, e4, e5].drop 2).take (Try.prog.cellsOf 27)) = some x2 := hg 2 _ rfl
    have g3 : DataW.trod enc Try.prog W 0 (fun _ => true) true n 29 (([e0, e1, e2, e3, e4, e5].drop 4).take (Try.prog.cellsOf 29)) = some x3 := hg 3 _ rfl
    rw [c24] at g0 g1
    rw [c27] at g2
    rw [c29] at g3
    obtain ⟨a0, q0, rfl, w0⟩ := DataW.trod_int u24 g0
    obtain ⟨a1, q1, rfl, w1⟩ := DataW.trod_int u24 g1
    obtain ⟨y0, y1, n2, rfl, _, g4, g5⟩ := trod_struct2 u27 g2
    obtain ⟨y2, y3, n3, rfl, _, g6, g7⟩ := trod_struct2 u29 g3
    simp only [c24, c3, c25] at g4 g5 g6 g7
    obtain ⟨a2, q2, rfl, w2⟩ := DataW.trod_int u3 g4
    obtain ⟨a4, q4, rfl, w4⟩ := DataW.trod_int u3 g6
    obtain ⟨a5, q5, rfl, w5⟩ := DataW.trod_int u24 g7
    simp at q0 q1 q2 q4 q5 g5
    subst q0; subst q1; subst q2; subst q4; subst q5
    simp at hx
    obtain ⟨rfl, rfl⟩ := hx
    exact ⟨a0, a1, a2, a4, a5, e3, y1.1, rfl, rfl, w0, w1, w2, w4, w5, hv3, n2, by obtain ⟨q1, q2, q3, he⟩ := okWide_slice u25 hv3; rw [show e3.cells.toList = [e3] by rw [he]; rfl]; exact g5⟩
theorem shut_odd {W' : World} {sp : Nat → Bool} {a0 a1 a2 a4 a5 : Int} {pv : Value} {dp : DataW H} {p : List MemPlace} (w0 : (Lit.int .u64 a0).wf = true) (w1 : (Lit.int .u64 a1).wf = true) (w2 : (Lit.int .i64 a2).wf = true) (w4 : (Lit.int .i64 a4).wf = true) (w5 : (Lit.int .u64 a5).wf = true)
    (hs : pv.cells.toList = [pv]) (h : DataW.Trod enc Try.prog W' 0 sp true 25 pv dp p) : DataW.Trod enc Try.prog W' 0 sp true 31 (oddV a0 a1 a2 pv a4 a5) (oddD a0 a1 a2 dp a4 a5) p := by
  obtain ⟨n, hn⟩ := h
  rw [hs] at hn
  have hn' := DataW.trod_le (Nat.le_succ n) hn
  have f0 := trod_int_mk (enc := enc) (w := W') (base := 0) (spare := sp) (held := true) (n + 1) u24 w0
  have f1 := trod_int_mk (enc := enc) (w := W') (base := 0) (spare := sp) (held := true) (n + 1) u24 w1
  have f2 := trod_int_mk (enc := enc) (w := W') (base := 0) (spare := sp) (held := true) n u3 w2
  have f4 := trod_int_mk (enc := enc) (w := W') (base := 0) (spare := sp) (held := true) n u3 w4
  have f5 := trod_int_mk (enc := enc) (w := W') (base := 0) (spare := sp) (held := true) n u24 w5
  have t1 := trod_struct_mk (enc := enc) (w := W') (base := 0) (spare := sp) (held := true) (n := n + 1) (cs := [.int .i64 a2, pv]) (xs := [(.lit (.int .i64 a2), []), (dp, p)]) u27 (by rw [c27]; rfl) (by simp [c3, c25, f2, hn'])
  have t2 := trod_struct_mk (enc := enc) (w := W') (base := 0) (spare := sp) (held := true) (n := n + 1) (cs := [.int .i64 a4, .int .u64 a5]) (xs := [(.lit (.int .i64 a4), []), (.lit (.int .u64 a5), [])]) u29 (by rw [c29]; rfl) (by simp [c3, c24, f4, f5])
  have t3 := trod_struct_mk (enc := enc) (w := W') (base := 0) (spare := sp) (held := true) (n := n + 2) (cs := [.int .u64 a0, .int .u64 a1, .int .i64 a2, pv, .int .i64 a4, .int .u64 a5]) (xs := [(.lit (.int .u64 a0), []), (.lit (.int .u64 a1), []), (.agg [.lit (.int .i64 a2), dp], p), (.agg [.lit (.int .i64 a4), .lit (.int .u64 a5)], [])]) u31 (by rw [c31]; rfl)
    (by simp at t1 t2; simp [c24, c27, c29, f0, f1, t1, t2])
  refine ⟨n + 3, ?_⟩
  simpa [oddV, oddD, Value.cells] using t3
end

/-! ### STEP 1: the law: law_c -/
/-! ### THE ROW's STEP: WRITTEN OUT: LEAVE IT -/
set_option maxRecDepth 100000 in
theorem lifted (os : Os) (started : os.Started) (H : Type) (enc : TypeId × Value → H) :
    ReturnsInHanded {} Try.checked os 3 .any (Rows.sealMatchesReferenceSpec.pre6 enc Try.prog Try.f3 Rows.sealMatchesReferenceRow.domain false) (Rows.sealMatchesReferenceSpec.post enc Try.prog Try.f3 false true false false) := by
  refine returnsInHanded_of_change (C := Try.checked) own started (by kernel_rfl) Try.func3
    (ChangeSpec.witness6 (enc := enc) (C := Try.checked) false ⟨#[], #[.slice none 0 0, .slice none 0 0, .agg #[.int .u64 0, .int .u64 0, .int .i64 0, .slice none 0 0, .int .i64 0, .int .u64 0]], []⟩ 8 (by kernel_rfl) (by kernel_rfl) (by kernel_rfl) (by kernel_rfl)) ?_
  intro W base args ds gs before hval0 hW hcnd _
  letI := rho []
  have hval : ∀ (j : Nat) t v, Try.f3.params[j]? = some t → args[j]? = some v → Value.okWide Try.prog W .any base t v := hval0
  have hW' := hW
  obtain ⟨p, q, hA0, hV, rfl, hfz, hnd⟩ := hW
  have hA : DataW.TrodAll enc Try.prog W 0 (fun _ => true) true Try.f3.params.toList args.toList ds p := hA0
  rw [Try.params3] at hA hval
  obtain ⟨v0, vs0, d0, ds0, p0, q0, hargs, rfl, rfl, h0, r0⟩ := trodAll_cons hA
  obtain ⟨v1, vs1, d1, ds1, p1, q1, e1, rfl, rfl, h1, r1⟩ := trodAll_cons r0
  obtain ⟨v2, vs2, d2, ds2, p2, q2, e2, rfl, rfl, h2, r2⟩ := trodAll_cons r1
  obtain ⟨rfl, rfl, rfl⟩ := trodAll_nil r2
  subst e2; subst e1
  obtain rfl : args = #[v0, v1, v2] := by cases args; simp_all
  obtain ⟨rfl, rfl⟩ := trodVars_none hV
  obtain ⟨l, A0⟩ := argK u22 u3 c3 (hval 0 22 v0 rfl rfl) h0
  obtain ⟨b, A1⟩ := argK u23 u5 c5 (hval 1 23 v1 rfl rfl) h1
  obtain ⟨a0, a1, a2, a4, a5, pv, dp, rfl, rfl, w0, w1, w2, w4, w5, hv3, h3⟩ := open_odd (hval 2 31 v2 rfl rfl) h2
  obtain ⟨off, cap, P, nl, A2⟩ := argT hv3 h3
  have hs : pv.cells.toList = [pv] := by obtain ⟨a, c, rfl⟩ := A2.given.shape; rfl
  clear hA0 hval0
  refine (law_c (N := a2) (pI := a4) A0.given A1.given A2.given A2.u (bdU w0) (bdU w1) (bdU w5) (fun x hx => bdI (A0.wf x hx)) (fun x hx => bdB (A1.wf x hx))).mono fun e W' ⟨he, hg⟩ => ?_
  subst he
  refine ⟨_, rfl, Go.Ev.post_low (pa := p0 ++ (p1 ++ (p2 ++ []))) (pv := []) hW' (fun _ _ _ => (trodAll_cons_mk (shut_bool Try.underlying4 _) trodAll_mk0))
    (fun sp hsp => (trodAll_cons_mk (A0.shut W' hg sp (fun q hq => hsp q (by simp [hq]))) (trodAll_cons_mk (A1.shut W' hg sp (fun q hq => hsp q (by simp [hq]))) (trodAll_cons_mk (shut_odd w0 w1 w2 w4 w5 hs (A2.shut W' hg sp (fun q hq => hsp q (by simp [hq])))) trodAll_mk0)))) (fun _ _ => rfl) rfl
    hg (ok_one (by kernel_rfl) rfl (okWide_bool_mk Try.underlying4 _))⟩

theorem over : Rows.sealMatchesReferenceRow.holds Try.pinned (OpenSpec.ofChange Rows.sealMatchesReferenceSpec) :=
  OpenClaim.holds_of_wide 3 Try.f3 rfl rfl rfl rfl rfl rfl rfl ⟨rfl, rfl, rfl, rfl, rfl⟩ rfl rfl rfl rfl rfl (by kernel_rfl) Try.func3 (by kernel_rfl)
    (of_decide_eq_true (by kernel_rfl)) (by unfold Func.isWrapper; first | (rw [if_pos (by decide +kernel)]; kernel_rfl) | (rw [if_neg (by decide +kernel)]; exact ⟨rfl, rfl⟩))
    (fun os started H enc _ => lifted os started H enc)

/-- ████ THE STATEMENT ████ -/
theorem proved : Rows.SealMatchesReferenceSaid :=
  over
#print axioms proved
end Go.Proofs.Ytdenpaifjpmkgaa.sealMatchesReference
