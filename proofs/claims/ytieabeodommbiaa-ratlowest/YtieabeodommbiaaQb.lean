/- Contracts of package rat in rational numbers. -/
import Derived.Test.YtieabeodommbiaaQa
namespace Go.Proofs.Ytieabeodommbiaa
open Go.RowKit (Below)
open Go.Ev

theorem body49 : hasBody Try.prog 49 = true := by kernel_rfl
theorem body51 : hasBody Try.prog 51 = true := by kernel_rfl
theorem body16 : hasBody Try.prog 16 = true := by kernel_rfl
theorem body18 : hasBody Try.prog 18 = true := by kernel_rfl
theorem body20 : hasBody Try.prog 20 = true := by kernel_rfl
theorem body22 : hasBody Try.prog 22 = true := by kernel_rfl

abbrev fr (i : Nat) : AV := .agg [aN i, aD (i + 1)]
abbrev outA (i : Nat) : AV := .tup [.agg [aN i, nD (i + 1)], lt .i64 (i + 2) 0 3]
abbrev resA (i : Nat) : AV := .agg [aN i, nD (i + 1), lt .i64 (i + 2) 0 3]

theorem r_bd (q : Rat) : (-4611686018427387904 ≤ rN q ∧ rN q ≤ 4611686018427387904) ∧ (0 ≤ rD q ∧ rD q ≤ 4611686018427387904) ∧ (0 ≤ rE q ∧ rE q ≤ 3) := by
  unfold rN rD rE
  by_cases h : okQ q
  · have := okQ_bd h
    simp only [if_pos h]; omega
  · simp only [if_neg h]; omega

theorem fr_fine [Rho] {i : Nat} {p : Rat} (hp : okQ p) (h1 : Rho.ρ i = p.num) (h2 : Rho.ρ (i + 1) = p.den) : (fr i).fine1 := by
  have := okQ_bd hp
  exact ⟨ltf (by rw [h1]; exact this.1), ltf (by rw [h2]; exact this.2), trivial⟩
theorem out_fine [Rho] {i : Nat} {q : Rat} (h1 : Rho.ρ i = rN q) (h2 : Rho.ρ (i + 1) = rD q) (h3 : Rho.ρ (i + 2) = rE q) : (outA i).fine := by
  have := r_bd q
  exact ⟨⟨ltf (by rw [h1]; exact this.1), ltf (by rw [h2]; exact this.2.1), trivial⟩, lt1 (by rw [h3]; exact this.2.2), trivial⟩

/-! ### Sub, Div -/
def suFacts : List (FuncId × List Fct) := [(42, [⟨[fr 0, .agg [.sym .i64 (.bin .sub (.lit 0) (.var 2 (-4611686018427387904) 4611686018427387904)) (-4611686018427387904) 4611686018427387904, aD 3]], [], outA 4, [], []⟩])]
theorem su_run : okRun Try.prog (orcOf suFacts) 49 [fr 0, fr 2] (outA 4) = true := by kernel_rfl

theorem sub_q (p q : Rat) (hp : okQ p) (hq : okQ q) (w : World) : Calls Try.prog 49 #[frac p, frac q] w fun e w' => e = .returned (outV (p - q)) ∧ Below w.heap.size w w' := by
  letI := rho [p.num, p.den, q.num, q.den, rN (p - q), rD (p - q), rE (p - q)]
  refine run_open fit (orcOf_ok (L := suFacts) ⟨one ?_, trivial⟩) su_run ⟨fr_fine hp rfl rfl, fr_fine hq rfl rfl, trivial⟩ w
  refine fct_flat rfl rfl rfl (out_fine rfl rfl rfl) body42 (fun w => ?_)
  have := add_q p (-q) hp (neg_ok hq) w
  rw [← Rat.sub_eq_add_neg] at this
  have e : frac (-q) = .agg #[.int .i64 (0 - q.num), .int .i64 q.den] := by unfold frac; rw [Rat.neg_num, Rat.neg_den, Int.zero_sub]
  rw [e] at this
  exact this

abbrev dvN (neg : Bool) : AV := if neg then lt .i64 2 (-4611686018427387904) (-1) else lt .i64 2 1 4611686018427387904
def dvArg (neg : Bool) : AV := if neg then .agg [.sym .i64 (.bin .sub (.lit 0) (.var 3 1 4611686018427387904)) (-4611686018427387904) (-1), .sym .i64 (.bin .sub (.lit 0) (.var 2 (-4611686018427387904) (-1))) 1 4611686018427387904] else .agg [aD 3, lt .i64 2 1 4611686018427387904]
def dvFacts (neg : Bool) : List (FuncId × List Fct) := [(50, [⟨[fr 0, dvArg neg], [], outA 4, [], []⟩])]
theorem dv_run : [true, false].all (fun b => okRun Try.prog (orcOf (dvFacts b)) 51 [fr 0, .agg [dvN b, aD 3]] (outA 4)) = true := by kernel_rfl
def dzFacts : List (FuncId × List Fct) := [(50, [⟨[fr 0, .agg [aD 3, .int .i64 0]], [], zeroR 3, [], []⟩])]
theorem dz_run : okRun Try.prog (orcOf dzFacts) 51 [fr 0, .agg [.int .i64 0, aD 3]] (zeroR 3) = true := by kernel_rfl

theorem div_q (p q : Rat) (hp : okQ p) (hq : okQ q) (h0 : q.num ≠ 0) (w : World) : Calls Try.prog 51 #[frac p, frac q] w fun e w' => e = .returned (outV (p / q)) ∧ Below w.heap.size w w' := by
  have hb := okQ_bd hq
  have hrun := dv_run
  simp only [List.all_cons, List.all_nil, Bool.and_eq_true, Bool.and_true] at hrun
  have hm := mul_q p q⁻¹ hp (inv_ok hq)
  rw [← Rat.div_def] at hm
  letI := rho [p.num, p.den, q.num, q.den, rN (p / q), rD (p / q), rE (p / q)]
  by_cases hn : q.num < 0
  · have e : frac q⁻¹ = .agg #[.int .i64 (0 - q.den), .int .i64 (0 - q.num)] := by
      unfold frac; rw [Rat.num_inv, Rat.den_inv, if_neg h0, Int.sign_eq_neg_one_of_neg hn]
      congr 3
      · congr 1; omega
      · congr 2; omega
    rw [e] at hm
    exact run_open fit (orcOf_ok (L := dvFacts true) ⟨one (fct_flat rfl rfl rfl (out_fine rfl rfl rfl) body50 hm), trivial⟩) hrun.1 ⟨fr_fine hp rfl rfl, ⟨ltf (show _ ≤ q.num ∧ q.num ≤ _ by omega), ltf hb.2, trivial⟩, trivial⟩ w
  · have e : frac q⁻¹ = .agg #[.int .i64 q.den, .int .i64 q.num] := by
      unfold frac; rw [Rat.num_inv, Rat.den_inv, if_neg h0, Int.sign_eq_one_of_pos (by omega)]
      congr 3
      · congr 1; omega
      · congr 2; omega
    rw [e] at hm
    exact run_open fit (orcOf_ok (L := dvFacts false) ⟨one (fct_flat rfl rfl rfl (out_fine rfl rfl rfl) body50 hm), trivial⟩) hrun.2 ⟨fr_fine hp rfl rfl, ⟨ltf (show _ ≤ q.num ∧ q.num ≤ _ by omega), ltf hb.2, trivial⟩, trivial⟩ w

theorem div_0 (p q : Rat) (hp : okQ p) (hq : okQ q) (h0 : q.num = 0) (w : World) : Calls Try.prog 51 #[frac p, frac q] w fun e w' => e = .returned (.tuple #[.agg #[.int .i64 0, .int .i64 0], .int .i64 3]) ∧ Below w.heap.size w w' := by
  have hb := okQ_bd hq
  have ha := okQ_bd hp
  have hm := fun w => mul_c p.num p.den q.den 0 ha.1 (by omega) (by omega) (by omega) w
  have hz : muD p.num p.den q.den 0 = 0 := by unfold muD; simp
  have he : fE (muN p.num p.den q.den 0) 0 = 3 := by simp [fE]
  rw [hz, he, show ∀ s, fN s (muN p.num p.den q.den 0) 0 = 0 from fun s => by unfold fN; rw [he]; simp, show fD (muN p.num p.den q.den 0) 0 = 0 by unfold fD; rw [he]; simp] at hm
  letI := rho [p.num, p.den, 0, q.den]
  have := run_open fit (orcOf_ok (L := dzFacts) ⟨one (fct_flat rfl rfl rfl ⟨⟨trivial, trivial, trivial⟩, trivial, trivial⟩ body50 hm), trivial⟩) dz_run ⟨fr_fine hp rfl rfl, ⟨trivial, ltf hb.2, trivial⟩, trivial⟩ w
  have e : frac q = .agg #[.int .i64 0, .int .i64 q.den] := by unfold frac; rw [h0]
  rw [e]
  exact this

/-! ### the law's own: Result -/
def resV (q : Rat) : Value := .agg #[.int .i64 (rN q), .int .i64 (rD q), .int .i64 (rE q)]
def wrFacts (f : FuncId) : List (FuncId × List Fct) := [(f, [⟨[fr 0, fr 2], [], outA 4, [], []⟩])]
theorem wr_run : [(16, 42), (18, 49), (20, 50), (22, 51)].all (fun x => okRun Try.prog (orcOf (wrFacts x.2)) x.1 [fr 0, fr 2] (resA 4)) = true := by kernel_rfl

theorem wrap_q {g f : FuncId} (hgf : (g, f) ∈ [(16, 42), (18, 49), (20, 50), (22, 51)]) (p q r : Rat) (hp : okQ p) (hq : okQ q) (hb : hasBody Try.prog f = true)
    (h : ∀ w : World, Calls Try.prog f #[frac p, frac q] w fun e w' => e = .returned (outV r) ∧ Below w.heap.size w w') (w : World) : Calls Try.prog g #[frac p, frac q] w fun e w' => e = .returned (resV r) ∧ Below w.heap.size w w' := by
  have hrun : okRun Try.prog (orcOf (wrFacts f)) g [fr 0, fr 2] (resA 4) = true := List.all_eq_true.1 wr_run (g, f) hgf
  letI := rho [p.num, p.den, q.num, q.den, rN r, rD r, rE r]
  exact run_open fit (orcOf_ok (L := wrFacts f) ⟨one (fct_flat rfl rfl rfl (out_fine rfl rfl rfl) hb h), trivial⟩) hrun ⟨fr_fine hp rfl rfl, fr_fine hq rfl rfl, trivial⟩ w

theorem m16 : ((16 : FuncId), (42 : FuncId)) ∈ [((16 : FuncId), (42 : FuncId)), (18, 49), (20, 50), (22, 51)] := .head _
theorem m18 : ((18 : FuncId), (49 : FuncId)) ∈ [((16 : FuncId), (42 : FuncId)), (18, 49), (20, 50), (22, 51)] := .tail _ (.head _)
theorem m20 : ((20 : FuncId), (50 : FuncId)) ∈ [((16 : FuncId), (42 : FuncId)), (18, 49), (20, 50), (22, 51)] := .tail _ (.tail _ (.head _))
theorem m22 : ((22 : FuncId), (51 : FuncId)) ∈ [((16 : FuncId), (42 : FuncId)), (18, 49), (20, 50), (22, 51)] := .tail _ (.tail _ (.tail _ (.head _)))
theorem addL (p q : Rat) (hp : okQ p) (hq : okQ q) (w : World) : Calls Try.prog 16 #[frac p, frac q] w fun e w' => e = .returned (resV (p + q)) ∧ Below w.heap.size w w' := wrap_q (g := 16) (f := 42) m16 p q _ hp hq body42 (add_q p q hp hq) w
theorem subL (p q : Rat) (hp : okQ p) (hq : okQ q) (w : World) : Calls Try.prog 18 #[frac p, frac q] w fun e w' => e = .returned (resV (p - q)) ∧ Below w.heap.size w w' := wrap_q (g := 18) (f := 49) m18 p q _ hp hq body49 (sub_q p q hp hq) w
theorem mulL (p q : Rat) (hp : okQ p) (hq : okQ q) (w : World) : Calls Try.prog 20 #[frac p, frac q] w fun e w' => e = .returned (resV (p * q)) ∧ Below w.heap.size w w' := wrap_q (g := 20) (f := 50) m20 p q _ hp hq body50 (mul_q p q hp hq) w
theorem divL (p q : Rat) (hp : okQ p) (hq : okQ q) (h0 : q.num ≠ 0) (w : World) : Calls Try.prog 22 #[frac p, frac q] w fun e w' => e = .returned (resV (p / q)) ∧ Below w.heap.size w w' := wrap_q (g := 22) (f := 51) m22 p q _ hp hq body51 (div_q p q hp hq h0) w

end Go.Proofs.Ytieabeodommbiaa
