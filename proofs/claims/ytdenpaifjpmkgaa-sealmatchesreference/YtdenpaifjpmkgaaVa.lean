/- The reference's steps, joins and roots. -/
import Derived.Test.YtdenpaifjpmkgaaTb
namespace Go.Proofs.Ytdenpaifjpmkgaa
open Go.Ev
open Go.RowKit (Below)
set_option maxRecDepth 100000
set_option linter.unusedVariables false
set_option linter.unusedSectionVars false

/-! ### Step, Back, Join, on both sides -/
theorem rstep_run : okRun Try.prog noOrc 12 [dA 1, dA 2] (.sym .u64 (stepX (dX 1) (dX 2)) 0 MU) = true := by kernel_rfl
theorem rback_run : okRun Try.prog noOrc 14 [dA 1, dA 2] (.sym .u64 (backX (dX 1) (dX 2)) 0 MU) = true := by kernel_rfl
theorem join_run : (okRun Try.prog noOrc 19 [dA 1, dA 2] (.sym .u64 (jnX (dX 1) (dX 2)) 0 MU) && okRun Try.prog noOrc 20 [dA 1, dA 2] (.sym .u64 (jnX (dX 1) (dX 2)) 0 MU)) = true := by kernel_rfl

/-! ### Root -/
def RRootC (l : List Int) : Prop := ∀ (W : World) (b off cap : Nat) (c : Array Value), Stands W b off cap l c →
  Calls Try.prog 24 #[.slice (some ⟨b, off, none⟩) l.length cap] W fun e W' => e = .returned (.int .u64 (rootL l)) ∧ Below W.heap.size W W'

theorem rroot_fct {R : Rho} {l : List Int} (hc : RRootC l) (hu : ∀ x ∈ l, u64 x) {off len cap : SX} {ex : Bool} {k : Nat} {v : AV} (hlen : @SX.eval R len = (l.length : Int)) (h1 : @lskip R k ≤ (@SX.eval R off).toNat) (h2 : (@SX.eval R off).toNat + l.length ≤ @lskip R k + @llen R k)
    (hv : ∀ i, i < l.length → @lval R k (.int .u64) ((@SX.eval R off).toNat - @lskip R k + i) = .int .u64 (l.getD i 0)) (v1 : v.lone = true) (v2 : @AV.vl0 R v = .int .u64 (rootL l)) (v3 : @AV.fine0 R v) :
    @Fct.Holds R Try.prog 24 (Fct.mk [.sls 0 off len cap ex] [rowD k] v [] []) := by
  letI := R
  refine fct_of rfl rfl ?_ (lone_flat v1) (lone_fine v1 v3) (by kernel_rfl) (fun π w vs hw hr => ?_)
  · show (true && ((true && true) && (all2 _ v && (true && (true && true))))) = true
    rw [lone_all2 v1]; rfl
  · obtain ⟨c, ws, hvs, r1, r2⟩ := LR.uncons hr
    obtain rfl := r2.nil_inv
    obtain rfl : vs = #[c] := by rw [← Array.toList_inj, hvs]
    obtain ⟨b, cap', cs, rfl, st⟩ := sls_stands hw (i := 0) rfl rfl r1 hlen h1 h2 hv hu
    refine (hc w b _ cap' cs st).mono ?_
    rintro e W' ⟨he, hb⟩
    refine ⟨?_, hb⟩
    rw [he, lone_vl v1, v2]

/-! ### one level -/
noncomputable def rfctR (j : Nat) : Fct := ⟨[.sls 0 (.free 102) (lenX j) (.free 101) true], [rowD 0], .sym .u64 (jnX (dX 41) (dX 42)) 0 MU, [], []⟩
noncomputable def rrtL (j : Nat) : Fct := ⟨[.sls 0 (.free 102) (.lit (pw j)) (.free 101) true], [rowD 0], dA 41, [], []⟩
noncomputable def rrtR (j : Nat) : Fct := ⟨[.sls 0 (.bin .add (.free 102) (.lit (pw j))) (.bin .sub (lenX j) (.lit (pw j))) (.bin .sub (.free 101) (.lit (pw j))) true], [rowD 0], dA 42, [], []⟩
noncomputable def rgotR (j : Nat) : Bool := (rfctR j).good && (rfctR j).got ((@evF (tabR j).know Try.prog (orcOf [(24, [rrtL j, rrtR j])]) 5000).call 24 (rfctR j).args (rfctR j).st)
theorem rgotR_all : (List.range 9).all rgotR = true := by kernel_rfl
noncomputable def rfctR1 : Fct := ⟨[.sls 0 (.free 102) (.lit 1) (.free 101) true], [rowD 0], dA 43, [], []⟩
theorem rgotR1 : (rfctR1.good && rfctR1.got ((@evF tabR1.know Try.prog noOrc 5000).call 24 rfctR1.args rfctR1.st)) = true := by kernel_rfl

theorem rroot_c : ∀ (n : Nat), n ≤ 512 → ∀ l : List Int, l.length = n → 1 ≤ n → RRootC l := by
  intro n
  induction n using Nat.strongRecOn with
  | ind n ih =>
    intro hn l hl h1 W b off cap c st
    have hskip : @lskip (rR l off cap) 0 = off := mk_skip (by omega)
    have hllen : @llen (rR l off cap) 0 = l.length := mk_len (by omega)
    obtain ⟨be, bfz, hblk⟩ := st.blk
    have key : ∀ (F : Fct) (len : SX), @Fct.Holds (rR l off cap) Try.prog 24 F → F.args = [.sls 0 (.free 102) len (.free 101) true] → F.old = [rowD 0] → F.v.flat = true → @SX.ok (rR l off cap) len → @SX.eval (rR l off cap) len = (l.length : Int) → @AV.vl (rR l off cap) F.v = .int .u64 (rootL l) →
        Calls Try.prog 24 #[.slice (some ⟨b, off, none⟩) l.length cap] W fun e W' => e = .returned (.int .u64 (rootL l)) ∧ Below W.heap.size W W' := by
      intro F len hF ha ho hfl hlo hle hv
      letI := rR l off cap
      have hw : WR W.heap.size (fun i => [(b, c.size)][i]?) [] F.st W := tree_rows (rs := [rowD 0]) (by simp [Fct.st, ho]) rfl _ rfl (fun i A hA => by
        match i, hA with
        | 0, hA => obtain rfl := Option.some.inj hA; exact ⟨rfl, rfl, b, c, be, bfz, rfl, hblk, rR_row st⟩)
      have so : SlOk (.free 102) len (.free 101) := ⟨trivial, hlo, trivial, by rw [e102]; omega, by rw [hle]; omega, by rw [hle, e101]; have := st.cap; omega⟩
      have hr := VR.slsEx (π := fun i => [(b, c.size)][i]?) (lm := []) (b := 0) (b' := b) (n := c.size) so rfl
      rw [hle, e101, e102] at hr
      have := Fct.calls hF hfl hw (vs := #[.slice (some ⟨b, off, none⟩) l.length cap]) (by rw [ha]; exact LR.cons (by simpa using hr) LR.nil)
      refine this.mono ?_
      rintro e W' ⟨rfl, hb⟩
      exact ⟨by rw [hv], hb⟩
    by_cases h2 : n < 2
    · -- one digest
      have hr := rgotR1
      rw [Bool.and_eq_true] at hr
      have hk : @KnowOk (rR l off cap) tabR1.know := by
        refine KTab.ok { cells := ?_ }
        intro x hx _
        obtain rfl := List.mem_singleton.1 hx
        have g : @lel (rR l off cap) 0 0 = l.getD 0 0 := mk_el (by omega) 0
        have hu := getD_u64 st.u 0
        exact cell_i64 (i := 0) (by rw [hskip, e102]; rfl) (by rw [hllen]; omega) (by rw [g]; exact mk_num (by omega)) (by rw [g]; exact hu.1) (by rw [g]; exact hu.2)
      have hF : @Fct.Holds (rR l off cap) Try.prog 24 rfctR1 := by
        letI := rR l off cap
        exact @Fct.holds (rR l off cap) Try.prog noOrc tabR1.know hk fit (noOrc_ok _) 5000 24 rfctR1 hr.1 hr.2
      refine key rfctR1 (.lit 1) hF rfl rfl rfl trivial (by show (1 : Int) = _; omega) ?_
      show Value.int .u64 (@Rho.ρ (rR l off cap) 43) = _
      rw [mk_num (by omega), rootL_1 (by omega)]; rfl
    · obtain ⟨j, hj, hj1, hj2, hj3⟩ := hf_class (show 2 ≤ n by omega) hn
      have hb := hf_bd (show 2 ≤ n by omega)
      have hr : rgotR j = true := List.all_eq_true.1 rgotR_all j (List.mem_range.2 hj)
      unfold rgotR at hr
      rw [Bool.and_eq_true] at hr
      have hcap := st.cap
      subst hl
      have hk : @KnowOk (rR l off cap) (tabR j).know := by
        refine KTab.ok { cmps := ?_ }
        intro x hx
        obtain rfl := List.mem_singleton.1 hx
        refine ⟨by simp [cmpNo], fun _ _ => ?_⟩
        show some (decide (((2 ^ j : Nat) : Int) < @SX.eval (rR l off cap) (.free 101))) = some true
        rw [e101]; simp only [Option.some.injEq, decide_eq_true_eq]; omega
      have lT : (l.take (hf l.length)).length = hf l.length := by simp; omega
      have lD : (l.drop (hf l.length)).length = l.length - hf l.length := by simp
      have uT : ∀ x ∈ l.take (hf l.length), u64 x := fun x hx => st.u x (List.mem_of_mem_take hx)
      have uD : ∀ x ∈ l.drop (hf l.length), u64 x := fun x hx => st.u x (List.mem_of_mem_drop hx)
      have hF : @Fct.Holds (rR l off cap) Try.prog 24 (rfctR j) := by
        letI := rR l off cap
        have hlen : (lenX j).eval = (l.length : Int) := e100
        have ew : pw j = ((hf l.length : Nat) : Int) := by rw [hj3]
        refine @Fct.holds (rR l off cap) Try.prog (orcOf [(24, [rrtL j, rrtR j])]) (tabR j).know hk fit (orcOf_ok ⟨fun F hF => ?_, trivial⟩) 5000 24 (rfctR j) hr.1 hr.2
        rcases List.mem_cons.1 hF with rfl | hF
        · obtain ⟨v1, v2, v3⟩ := dig_val (R := rR l off cap) (n := 41) (v := rootL (l.take (hf l.length))) (mk_num (by omega)) (rootL_u64 uT)
          refine rroot_fct (l := l.take (hf l.length)) (ih (hf l.length) hb.2.1 (by omega) _ lT hb.1) uT (by rw [lT]; exact ew) (by rw [e102, hskip]; simp) (by rw [e102, hskip, hllen, lT]; simp; omega) (fun i hi => ?_) v1 v2 v3
          rw [lT] at hi
          rw [e102, hskip, mk_val (by omega)]
          show Value.int .u64 (l.getD _ 0) = _
          simp [List.getD, List.getElem?_take_of_lt hi]
        · obtain rfl := List.mem_singleton.1 hF
          obtain ⟨v1, v2, v3⟩ := dig_val (R := rR l off cap) (n := 42) (v := rootL (l.drop (hf l.length))) (mk_num (by omega)) (rootL_u64 uD)
          have eo : (SX.bin .add (.free 102) (.lit (pw j))).eval = ((off + hf l.length : Nat) : Int) := by
            show (SX.free 102).eval + pw j = _
            rw [e102, ew]; omega
          refine rroot_fct (l := l.drop (hf l.length)) (ih (l.length - hf l.length) (by omega) (by omega) _ lD (by omega)) uD (by rw [lD]; show (lenX j).eval - pw j = _; rw [hlen, ew]; omega) (by rw [eo, hskip]; omega) (by rw [eo, hskip, hllen, lD]; omega) (fun i hi => ?_) v1 v2 v3
          rw [eo, hskip, mk_val (by omega)]
          show Value.int .u64 (l.getD _ 0) = _
          rw [show ((off + hf l.length : Nat) : Int).toNat - off + i = hf l.length + i by omega]
          simp [List.getD]
      refine key (rfctR j) (lenX j) hF rfl rfl rfl ?_ e100 ?_
      · show pw j + 1 ≤ @Rho.ρ (rR l off cap) 100 ∧ @Rho.ρ (rR l off cap) 100 ≤ pw (j + 1)
        rw [e100]
        exact ⟨by show ((2 ^ j : Nat) : Int) + 1 ≤ _; exact_mod_cast hj1, by show _ ≤ ((2 ^ (j + 1) : Nat) : Int); exact_mod_cast hj2⟩
      · show Value.int .u64 (@SX.eval (rR l off cap) (jnX (dX 41) (dX 42))) = _
        rw [@jnX_eval (rR l off cap), rootL_2 (l := l) (by omega)]
        rw [show @SX.eval (rR l off cap) (dX 41) = rootL (l.take (hf l.length)) from mk_num (by omega), show @SX.eval (rR l off cap) (dX 42) = rootL (l.drop (hf l.length)) from mk_num (by omega)]
end Go.Proofs.Ytdenpaifjpmkgaa
