/- The digest of a list of bytes: Bytes as a fact. -/
import Derived.Test.YtdenpaifjpmkgaaXb
namespace Go.Proofs.Ytdenpaifjpmkgaa
open Go.Ev
open Go.RowKit (Below)
set_option maxRecDepth 100000
set_option linter.unusedVariables false
set_option linter.unusedSectionVars false

theorem f46_at : Try.prog.funcs[46]? = some Try.f46 := by kernel_rfl
theorem f46_body : Try.f46.body = some (bodyOf 46) := by kernel_rfl
theorem f46_res : Try.f46.results.toList = [] := by kernel_rfl
theorem f46_tmps : Try.f46.ntmps = 36 := by kernel_rfl
noncomputable def fdArgsX : List AV := [.fn 46 [] [.ptr 2 0], .fn 32 [.ptr 1 0] []]
noncomputable def sFdX (lo : Nat) : St := { heap := xH (.int .u64 W1), lo := lo, loops := [], nd := 0 }
noncomputable def fdX0 : Option (AExit × T3 × St) := (@evF noKnow Try.prog noOrc 5000).code 10 (hd (bodyOf 35)) (ofL (fdArgsX ++ List.replicate 8 undefA)) (sFdX 3)
noncomputable def fdX1 : Option (AExit × T3 × St) := (@evF noKnow Try.prog noOrc 5000).code 10 (hd (tlC (bodyOf 35))) (ofL (roT 10 fdX0)) (roS fdX0)
theorem fdX1_t : roT 10 fdX1 = fdX := by kernel_rfl
theorem fdX1_s : roS fdX1 = { s46 (.int .u64 W1) 3 with loops := [] } := by kernel_rfl
noncomputable def sOutX : St := setStat { sE46 with lo := min 3 0 } 0 .over
noncomputable def xfFeedX : XF := { f := 35, args := fdArgsX, s := sFdX 1, v := .tup [], s' := { sOutX with lo := min 1 sOutX.lo } }

section
variable {l : List Int} {off cap : Nat} (hl : l.length ≤ 1099511627776) (hi : ∀ n ∈ l, byt n)
include hl hi
theorem call46 : @CallAt (rX l off cap 0) Try.prog 46 [.yield 0, .ptr 2 0] (s46 (.int .u64 W1) 3) (.tup []) { sE46 with lo := min 3 0 } := by
  letI := rX l off cap 0
  have x0 : SAtX Try.prog (hd (bodyOf 46)) (rX l off cap 0) ([.yield 0, .ptr 2 0] ++ List.replicate 34 undefA) (s46 (.int .u64 W1) 4) (roE pre46a) (rX l off cap 0) (roT 36 pre46a) (roS pre46a) :=
    @sat_run Try.prog noOrc (rX l off cap 0) noKnow noKnow_ok fit (noOrc_ok _) 36 _ _ _ _ rfl (by kernel_rfl)
  have x1 : SAtX Try.prog (hd (tlC (bodyOf 46))) (rX l off cap 0) (roT 36 pre46a) (roS pre46a) (roE pre46) (rX l off cap 0) (roT 36 pre46) (roS pre46) :=
    @sat_run Try.prog noOrc (rX l off cap 0) noKnow noKnow_ok fit (noOrc_ok _) 36 _ _ _ _ rfl (by kernel_rfl)
  rw [show roE pre46a = .normal by kernel_rfl] at x0
  rw [show roE pre46 = .normal by kernel_rfl] at x1
  have x2 := x0.seq (x1.seq (loopX (off := off) (cap := cap) hl hi).block)
  rw [← w46_body] at x2
  exact call_at (s := s46 (.int .u64 W1) 3) f46_at f46_body (by rw [f46_tmps]; exact x2.to) (.inl rfl) (no_res f46_res _ _) (by show 0 < 4; omega)

theorem call35X : @CallAt (rX l off cap 0) Try.prog 35 fdArgsX (sFdX 1) (.tup []) { sOutX with lo := min 1 sOutX.lo } := by
  letI := rX l off cap 0
  have x0 : SAtX Try.prog (hd (bodyOf 35)) (rX l off cap 0) (fdArgsX ++ List.replicate 8 undefA) (sFdX 3) (roE fdX0) (rX l off cap 0) (roT 10 fdX0) (roS fdX0) :=
    @sat_run Try.prog noOrc (rX l off cap 0) noKnow noKnow_ok fit (noOrc_ok _) 10 _ _ _ _ rfl (by kernel_rfl)
  have x1 : SAtX Try.prog (hd (tlC (bodyOf 35))) (rX l off cap 0) (roT 10 fdX0) (roS fdX0) (roE fdX1) (rX l off cap 0) (roT 10 fdX1) (roS fdX1) :=
    @sat_run Try.prog noOrc (rX l off cap 0) noKnow noKnow_ok fit (noOrc_ok _) 10 _ _ _ _ rfl (by kernel_rfl)
  rw [show roE fdX0 = .normal by kernel_rfl] at x0
  rw [show roE fdX1 = .normal by kernel_rfl, fdX1_t, fdX1_s] at x1
  have x2 : SAt Try.prog (.rangeFunc (.tmp 5) #[6] (rgA (bodyOf 35)) (rgB (bodyOf 35))) fdX { s46 (.int .u64 W1) 3 with loops := [] } .normal fdX sOutX :=
    range_at (P := Try.prog) fit (s := { s46 (.int .u64 W1) 3 with loops := [] }) (g := 46) (l1 := []) (l2 := [.ptr 2 0]) rfl (call46 (off := off) (cap := cap) hl hi) rfl
  have x3 := x0.seq (x1.seq (SAtX.blockN (id := 0) (SAtX.of x2)))
  rw [← f35_parts] at x3
  exact call_at (s := sFdX 1) f35_at f35_body (by rw [f35_tmps]; exact x3.to) (.inl rfl) (no_res f35_res _ _) (by show 0 < 3; omega)

/-- the fact, in letters -/
noncomputable def fctX : Fct := ⟨[slA 0], [{ elem := 5, cells := [], ro := true, tl := some (0, .int .u8) }], .sym .u64 (stepX (.var 41 0 MU) lnX) 0 MU, [], []⟩
omit hl hi in
theorem fctX_got : fctX.got ((@evF noKnow Try.prog (orcX [xfFeedX]) 5000).call 17 fctX.args fctX.st) = true := by kernel_rfl
omit hl hi in
theorem fctX_good : fctX.good = true := by kernel_rfl
theorem bytesR : @Fct.Holds (rX l off cap 0) Try.prog 17 fctX := by
  letI := rX l off cap 0
  refine @Fct.holds (rX l off cap 0) Try.prog (orcX [xfFeedX]) noKnow noKnow_ok fit (orcX_ok fun x hx => ?_) 5000 17 fctX fctX_good fctX_got
  obtain rfl := List.mem_singleton.1 hx
  exact call35X (off := off) (cap := cap) hl hi
end

/-- the digest of a list of numbers -/
def bI (l : List Int) : Int := stepI (bF0 l) l.length

/-- slices of numbers, as they stand: Words' contract -/
theorem bytes_c {l : List Int} (hl : l.length ≤ 1099511627776) (hi : ∀ n ∈ l, byt n) {W : World} {b off cap fz1 fz2 : Nat} {c : Array Value} {e0 : TypeId} (hcap : l.length ≤ cap) (hc : W.heap[b]? = some (.cells c e0 (fz1, fz2))) (hcl : ∀ i, i < l.length → c[off + i]? = some (.int .u8 (l.getD i 0))) :
    Calls Try.prog 17 #[.slice (some ⟨b, off, none⟩) l.length cap] W fun e W' => e = .returned (.int .u64 (bI l)) ∧ Below W.heap.size W W' := by
  letI := rX l off cap 0
  have h := bytesR (off := off) (cap := cap) hl hi
  let π : Inj := fun i => if i = 0 then some (b, c.size) else none
  have hw : WR W.heap.size π [] fctX.st W := {
    dom := fun i x hx => by
      simp only [π] at hx
      split at hx
      · rename_i h0; subst h0; show 0 < 1; omega
      · cases hx
    blk := fun i A hA => by
      have hi0 : i = 0 := by
        have := (List.getElem?_eq_some_iff.1 hA).1
        have : i < 1 := this
        omega
      subst hi0
      obtain rfl : A = { elem := 5, cells := [], ro := true, tl := some (0, .int .u8) } := by
        have : some (some ({ elem := 5, cells := [], ro := true, tl := some (0, .int .u8) } : ABlk)) = some (some A) := hA
        exact (Option.some.inj (Option.some.inj this)).symm
      refine ⟨b, c.size, c, (e0, fz1, fz2), rfl, hc, rfl, (fun h => nomatch h), LR.nil, fun k d hk i hi => ?_⟩
      simp only [Option.some.injEq, Prod.mk.injEq] at hk
      obtain ⟨rfl, rfl⟩ := hk
      rw [mk_len (by omega)] at hi
      rw [mk_skip (by omega), mk_val (by omega)]
      exact hcl i hi
    inj := fun i j A A' b n m h1 h2 h3 => by
      have hi0 : i = 0 := by
        have := (List.getElem?_eq_some_iff.1 h1).1
        have : i < 1 := this
        omega
      have hj0 : j = 0 := by
        have := (List.getElem?_eq_some_iff.1 h2).1
        have : j < 1 := this
        omega
      intro _ _; omega
    lsz := rfl
    linj := fun l l' L h => by simp at h
    loop := fun l r h => by cases h }
  have e0 : lnX.eval = (l.length : Int) := mk_num (by omega)
  have e1 : cpX.eval = (cap : Int) := mk_num (by omega)
  have e2 : ofX.eval = (off : Int) := mk_num (by omega)
  have hargs : LR π [] fctX.args #[Value.slice (some ⟨b, off, none⟩) l.length cap].toList := by
    refine LR.cons ?_ LR.nil
    have so : SlOk ofX lnX cpX := by
      refine ⟨trivial, ?_, trivial, by rw [e2]; omega, by rw [e0]; omega, by rw [e0, e1]; omega⟩
      show (0 : Int) ≤ Rho.ρ 0 ∧ Rho.ρ 0 ≤ (1099511627776 : Int); rw [show Rho.ρ 0 = (l.length : Int) from e0]; omega
    have := VR.slsEx (π := π) (lm := []) (b := 0) (b' := b) (n := c.size) so rfl
    rw [e0, e1, e2] at this
    simpa using this
  refine (Fct.calls h rfl hw hargs).mono ?_
  rintro e W' ⟨rfl, hb⟩
  refine ⟨?_, hb⟩
  show Ending.returned (.int .u64 (stepX (.var 41 0 MU) lnX).eval) = _
  rw [stepX_eval, e0, show (SX.var 41 0 MU).eval = bF0 l from mk_num (by omega)]
  rfl

/-- Words as a fact, of any slice that a list stands in -/
theorem bytes_fct {R : Rho} {l : List Int} (hl : l.length ≤ 1099511627776) (hi : ∀ n ∈ l, byt n) {off len cap : SX} {ex : Bool} {k : Nat} {v : AV} (hlen : len.eval = (l.length : Int)) (h1 : lskip k ≤ off.eval.toNat) (h2 : off.eval.toNat + l.length ≤ lskip k + llen k)
    (hv : ∀ i, i < l.length → lval k (.int .u8) (off.eval.toNat - lskip k + i) = .int .u8 (l.getD i 0)) (v1 : v.lone = true) (v2 : v.vl0 = .int .u64 (bI l)) (v3 : v.fine0) :
    (Fct.mk [.sls 0 off len cap ex] [{ elem := 5, cells := [], ro := true, tl := some (k, .int .u8) }] v [] []).Holds Try.prog 17 := by
  refine fct_of rfl rfl ?_ (lone_flat v1) (lone_fine v1 v3) (by kernel_rfl) (fun π w vs hw hr => ?_)
  · show (true && ((true && true) && (all2 _ v && (true && (true && true))))) = true
    rw [lone_all2 v1]; rfl
  · obtain ⟨c, ws, hvs, r1, r2⟩ := LR.uncons hr
    obtain rfl := r2.nil_inv
    obtain rfl : vs = #[c] := by rw [← Array.toList_inj, hvs]
    obtain ⟨so, b', n, cap', hp, rfl, hex⟩ := VR.sls_inv r1
    obtain ⟨cs, fz, g1, g2, _, _, g4⟩ := hw.at (i := 0) (A := { elem := 5, cells := [], ro := true, tl := some (k, .int .u8) }) rfl hp
    have n3 := so.n3
    have n2 := so.n2
    have e1 : len.eval.toNat = l.length := by omega
    rw [e1]
    have := bytes_c hl hi (W := w) (b := b') (off := off.eval.toNat) (cap := cap') (c := cs) (e0 := fz.1) (fz1 := fz.2.1) (fz2 := fz.2.2) (by rcases hex with ⟨_, h⟩ | ⟨_, h, _⟩ <;> omega) g1 (fun i hi' => by
      rw [show off.eval.toNat + i = lskip k + (off.eval.toNat - lskip k + i) by omega, g4 k (.int .u8) rfl _ (by omega)]
      rw [hv i hi'])
    refine this.mono ?_
    rintro e W' ⟨he, hb⟩
    refine ⟨?_, hb⟩
    rw [he, lone_vl v1, v2]
end Go.Proofs.Ytdenpaifjpmkgaa
