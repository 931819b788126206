/- Fractions as rational numbers: plain mathematics. -/
import Derived.Test.YtieabeodommbiaaRg
namespace Go.Proofs.Ytieabeodommbiaa

def okQ (q : Rat) : Prop := q.num.natAbs ≤ 4611686018427387904 ∧ q.den ≤ 4611686018427387904
instance (q : Rat) : Decidable (okQ q) := inferInstanceAs (Decidable (_ ∧ _))
def rN (q : Rat) : Int := if okQ q then q.num else 0
def rD (q : Rat) : Int := if okQ q then q.den else 0
def rE (q : Rat) : Int := if okQ q then 0 else 2

theorem okQ_bd {q : Rat} (h : okQ q) : (-4611686018427387904 ≤ q.num ∧ q.num ≤ 4611686018427387904) ∧ (1 ≤ (q.den : Int) ∧ (q.den : Int) ≤ 4611686018427387904) := by
  have := q.den_pos
  unfold okQ at h
  omega

theorem out_spec (neg : Bool) (n d : Int) (q : Rat) (h1 : n = q.num.natAbs) (h2 : d = q.den) (h3 : (if neg then -n else n) = q.num) : fN neg n d = rN q ∧ fD n d = rD q ∧ fE n d = rE q := by
  have hd := q.den_pos
  have e : fE n d = rE q := by
    unfold fE rE
    rw [if_neg (by omega)]
    by_cases h : okQ q
    · rw [if_pos h, if_pos (by unfold okQ at h; omega)]
    · rw [if_neg h, if_neg (by unfold okQ at h; omega)]
  refine ⟨?_, ?_, e⟩
  · unfold fN rN
    rw [e]; unfold rE
    by_cases h : okQ q
    · simp [h]; exact h3
    · simp [h]
  · unfold fD rD
    rw [e]; unfold rE
    by_cases h : okQ q
    · simp [h]; exact h2
    · simp [h]

theorem absI_natAbs (a : Int) : absI a = a.natAbs := by unfold absI; split <;> omega
theorem gcdI_pos (x : Int) (y : Nat) (hy : 0 < y) : gcdI (absI x) y = (Nat.gcd x.natAbs y : Nat) := by
  unfold gcdI
  rw [absI_natAbs]
  have : 0 < Nat.gcd x.natAbs y := Nat.gcd_pos_of_pos_right _ hy
  show max ((Nat.gcd x.natAbs y : Nat) : Int) 1 = _
  omega
theorem gcdI_nat (x y : Nat) (hy : 0 < y) : gcdI x y = (Nat.gcd x y : Nat) := by
  unfold gcdI
  have : 0 < Nat.gcd x y := Nat.gcd_pos_of_pos_right _ hy
  show max ((Nat.gcd x y : Nat) : Int) 1 = _
  omega
theorem tdiv_nat (x y : Nat) : (x : Int).tdiv y = (x / y : Nat) := rfl

theorem mul_num (p q : Rat) : (p * q).num = p.num.tdiv (Nat.gcd p.num.natAbs q.den) * q.num.tdiv (Nat.gcd q.num.natAbs p.den) := by
  show (Rat.mul p q).num = _
  rw [Rat.mul]
  simp only [Int.divExact_eq_tdiv]
theorem mul_den (p q : Rat) : (p * q).den = (p.den / Nat.gcd q.num.natAbs p.den) * (q.den / Nat.gcd p.num.natAbs q.den) := by
  show (Rat.mul p q).den = _
  rw [Rat.mul]
  simp only [Nat.divExact_eq_div]

theorem mu_spec (p q : Rat) : muN p.num p.den q.num q.den = (p * q).num.natAbs ∧ muD p.num p.den q.num q.den = (p * q).den := by
  unfold muN muD
  rw [gcdI_pos _ _ q.den_pos, gcdI_pos _ _ p.den_pos, mul_num, mul_den, absI_natAbs, absI_natAbs, tdiv_nat, tdiv_nat, tdiv_nat, tdiv_nat, Int.natAbs_mul, Int.natAbs_tdiv, Int.natAbs_tdiv]
  exact ⟨rfl, rfl⟩

theorem tdiv_neg (a : Int) (g : Nat) (h : a < 0) : a.tdiv g ≤ 0 := by
  have : 0 ≤ (-a).tdiv g := Int.tdiv_nonneg (by omega) (Int.natCast_nonneg g)
  rw [Int.neg_tdiv] at this
  omega
theorem tdiv_pos (a : Int) (g : Nat) (h : ¬ a < 0) : 0 ≤ a.tdiv g := Int.tdiv_nonneg (by omega) (Int.natCast_nonneg g)

theorem mul_sgn (p q : Rat) : (if sgn p.num q.num then -((p * q).num.natAbs : Int) else ((p * q).num.natAbs : Int)) = (p * q).num := by
  rw [mul_num]
  generalize hx : p.num.tdiv (Nat.gcd p.num.natAbs q.den) = x
  generalize hy : q.num.tdiv (Nat.gcd q.num.natAbs p.den) = y
  have x1 : p.num < 0 → x ≤ 0 := fun h => hx ▸ tdiv_neg _ _ h
  have x2 : ¬ p.num < 0 → 0 ≤ x := fun h => hx ▸ tdiv_pos _ _ h
  have y1 : q.num < 0 → y ≤ 0 := fun h => hy ▸ tdiv_neg _ _ h
  have y2 : ¬ q.num < 0 → 0 ≤ y := fun h => hy ▸ tdiv_pos _ _ h
  unfold sgn
  by_cases h1 : p.num < 0 <;> by_cases h2 : q.num < 0 <;> simp only [h1, h2, decide_true, decide_false, bne_self_eq_false, Bool.false_eq_true, if_false, Bool.true_bne, Bool.not_false, if_true, Bool.false_bne]
  · have := Int.mul_nonneg_of_nonpos_of_nonpos (x1 h1) (y1 h2); omega
  · have := Int.mul_nonpos_of_nonpos_of_nonneg (x1 h1) (y2 h2); omega
  · have := Int.mul_nonpos_of_nonneg_of_nonpos (x2 h1) (y1 h2); omega
  · have := Int.mul_nonneg (x2 h1) (y2 h2); omega

/-! sums -/
theorem add_parts (p q : Rat) : (p + q).num = adS p.num p.den q.num q.den / (adG p.num p.den q.num q.den) ∧ ((p + q).den : Int) = adD p.num p.den q.num q.den ∧ adG p.num p.den q.num q.den ∣ adS p.num p.den q.num q.den := by
  have hg := gcdI_nat p.den q.den q.den_pos
  have hgp : 0 < Nat.gcd p.den q.den := Nat.gcd_pos_of_pos_right _ q.den_pos
  have hS : adS p.num p.den q.num q.den = p.num * (q.den / Nat.gcd p.den q.den : Nat) + q.num * (p.den / Nat.gcd p.den q.den : Nat) := by
    unfold adS; rw [hg, tdiv_nat, tdiv_nat]
  have haux := Rat.add.aux p q (g := Nat.gcd p.den q.den) rfl rfl rfl
  simp only [] at haux
  rw [← hS] at haux
  have hG : adG p.num p.den q.num q.den = (Nat.gcd (adS p.num p.den q.num q.den).natAbs (Nat.gcd p.den q.den) : Nat) := by
    unfold adG
    rw [hg, absI_natAbs, ← Int.natCast_emod]
    unfold gcdI
    have h1 : Int.gcd ((Nat.gcd p.den q.den : Nat) : Int) (((adS p.num p.den q.num q.den).natAbs % Nat.gcd p.den q.den : Nat) : Int) = Nat.gcd (adS p.num p.den q.num q.den).natAbs (Nat.gcd p.den q.den) := by
      show Nat.gcd (Nat.gcd p.den q.den) ((adS p.num p.den q.num q.den).natAbs % Nat.gcd p.den q.den) = _
      rw [Nat.gcd_comm (adS p.num p.den q.num q.den).natAbs, Nat.gcd_comm (Nat.gcd p.den q.den) (_ % _), ← Nat.gcd_rec]
    rw [h1]
    have : 0 < Nat.gcd (adS p.num p.den q.num q.den).natAbs (Nat.gcd p.den q.den) := Nat.gcd_pos_of_pos_right _ hgp
    omega
  have hdvd : Nat.gcd (adS p.num p.den q.num q.den).natAbs (Nat.gcd p.den q.den) ∣ q.den := Nat.dvd_trans (Nat.gcd_dvd_right _ _) (Nat.gcd_dvd_right _ _)
  have hD : adD p.num p.den q.num q.den = ((p.den / Nat.gcd p.den q.den * q.den) / Nat.gcd (adS p.num p.den q.num q.den).natAbs (Nat.gcd p.den q.den) : Nat) := by
    unfold adD
    rw [hG, hg, tdiv_nat, tdiv_nat, Nat.mul_div_assoc _ hdvd]
    rfl
  -- the sum over the least common denominator
  have hsum : p + q = mkRat (adS p.num p.den q.num q.den) (p.den / Nat.gcd p.den q.den * q.den) := by
    rw [Rat.add_def', hS]
    rw [← Rat.mkRat_mul_right (n := p.num * (q.den / Nat.gcd p.den q.den : Nat) + q.num * (p.den / Nat.gcd p.den q.den : Nat)) (a := Nat.gcd p.den q.den) (by omega)]
    have e1 : p.den / Nat.gcd p.den q.den * Nat.gcd p.den q.den = p.den := Nat.div_mul_cancel (Nat.gcd_dvd_left _ _)
    have e2 : q.den / Nat.gcd p.den q.den * Nat.gcd p.den q.den = q.den := Nat.div_mul_cancel (Nat.gcd_dvd_right _ _)
    congr 1
    · rw [Int.add_mul, Int.mul_assoc, Int.mul_assoc, ← Int.natCast_mul, ← Int.natCast_mul, e1, e2]
    · rw [Nat.mul_right_comm, e1]
  have hdp : 0 < p.den / Nat.gcd p.den q.den * q.den := Nat.mul_pos (Nat.div_gcd_pos_of_pos_left _ p.den_pos) q.den_pos
  rw [hsum, Rat.num_mkRat, Rat.den_mkRat, if_neg (by omega), if_neg (by omega), Nat.gcd_comm, ← haux, hG, hD]
  exact ⟨rfl, rfl, Int.ofNat_dvd_left.2 (Nat.gcd_dvd_left _ _)⟩

theorem ad_spec (p q : Rat) : adN p.num p.den q.num q.den = (p + q).num.natAbs ∧ adD p.num p.den q.num q.den = (p + q).den ∧
    (if decide (adS p.num p.den q.num q.den < 0) then -((p + q).num.natAbs : Int) else ((p + q).num.natAbs : Int)) = (p + q).num := by
  obtain ⟨h1, h2, h3⟩ := add_parts p q
  have hG : 1 ≤ adG p.num p.den q.num q.den := by unfold adG gcdI; omega
  refine ⟨?_, h2.symm, ?_⟩
  · unfold adN
    rw [h1]
    generalize adG p.num p.den q.num q.den = G at *
    generalize adS p.num p.den q.num q.den = S at *
    obtain ⟨k, rfl⟩ := h3
    rw [Int.mul_ediv_cancel_left _ (by omega), absI_natAbs, Int.natAbs_mul, Int.natCast_mul, Int.natAbs_of_nonneg (show 0 ≤ G by omega), Int.mul_ediv_cancel_left _ (by omega)]
  · rw [h1]
    generalize adG p.num p.den q.num q.den = G at *
    generalize adS p.num p.den q.num q.den = S at *
    obtain ⟨k, rfl⟩ := h3
    rw [Int.mul_ediv_cancel_left _ (by omega)]
    by_cases hk : k < 0
    · have : G * k < 0 := Int.mul_neg_of_pos_of_neg (by omega) hk
      rw [show decide (G * k < 0) = true by simpa using this, if_pos rfl]; omega
    · have : 0 ≤ G * k := Int.mul_nonneg (by omega) (by omega)
      rw [show decide (G * k < 0) = false by simpa using this]; simp; omega

def frac (q : Rat) : Value := .agg #[.int .i64 q.num, .int .i64 q.den]
def outV (q : Rat) : Value := .tuple #[.agg #[.int .i64 (rN q), .int .i64 (rD q)], .int .i64 (rE q)]

theorem add_q (p q : Rat) (hp : okQ p) (hq : okQ q) (w : World) : Calls Try.prog 42 #[frac p, frac q] w fun e w' => e = .returned (outV (p + q)) ∧ Go.RowKit.Below w.heap.size w w' := by
  obtain ⟨a1, a2⟩ := okQ_bd hp
  obtain ⟨b1, b2⟩ := okQ_bd hq
  have := add_c p.num p.den q.num q.den a1 a2 b1 b2 w
  obtain ⟨h1, h2, h3⟩ := ad_spec p q
  obtain ⟨k1, k2, k3⟩ := out_spec (decide (adS p.num p.den q.num q.den < 0)) (adN p.num p.den q.num q.den) (adD p.num p.den q.num q.den) (p + q) h1 h2 (by rw [h1]; exact h3)
  rw [k1, k2, k3] at this
  exact this

theorem mul_q (p q : Rat) (hp : okQ p) (hq : okQ q) (w : World) : Calls Try.prog 50 #[frac p, frac q] w fun e w' => e = .returned (outV (p * q)) ∧ Go.RowKit.Below w.heap.size w w' := by
  obtain ⟨a1, a2⟩ := okQ_bd hp
  obtain ⟨b1, b2⟩ := okQ_bd hq
  have := mul_c p.num p.den q.num q.den a1 (by omega) b1 (by omega) w
  obtain ⟨h1, h2⟩ := mu_spec p q
  obtain ⟨k1, k2, k3⟩ := out_spec (sgn p.num q.num) (muN p.num p.den q.num q.den) (muD p.num p.den q.num q.den) (p * q) h1 h2 (by rw [h1]; exact mul_sgn p q)
  rw [k1, k2, k3] at this
  exact this

theorem neg_ok {q : Rat} (h : okQ q) : okQ (-q) := by unfold okQ at *; rw [Rat.neg_num, Rat.neg_den, Int.natAbs_neg]; exact h
theorem inv_ok {q : Rat} (h : okQ q) : okQ q⁻¹ := by
  unfold okQ at *
  rw [Rat.num_inv, Rat.den_inv]
  constructor
  · rw [Int.natAbs_mul]
    by_cases h0 : q.num = 0
    · rw [h0]; simp
    · rw [Int.natAbs_sign_of_ne_zero h0]; simp; exact h.2
  · split <;> omega

end Go.Proofs.Ytieabeodommbiaa

/- Contracts of package rat in rational numbers. -/
namespace Go.Proofs.Ytieabeodommbiaa
open Go.RowKit (Below)
open Go.Ev

theorem body49 : hasBody Try.prog 49 = true := by kernel_rfl
theorem body51 : hasBody Try.prog 51 = true := by kernel_rfl
theorem body16 : hasBody Try.prog 16 = true := by kernel_rfl
theorem body18 : hasBody Try.prog 18 = true := by kernel_rfl
theorem body20 : hasBody Try.prog 20 = true := by kernel_rfl
theorem body22 : hasBody Try.prog 22 = true := by kernel_rfl

abbrev fr (i : Nat) : AV := .agg [aN i, aD (i + 1)]
abbrev outA (i : Nat) : AV := .tup [.agg [aN i, nD (i + 1)], lt .i64 (i + 2) 0 3]
abbrev resA (i : Nat) : AV := .agg [aN i, nD (i + 1), lt .i64 (i + 2) 0 3]

theorem r_bd (q : Rat) : (-4611686018427387904 ≤ rN q ∧ rN q ≤ 4611686018427387904) ∧ (0 ≤ rD q ∧ rD q ≤ 4611686018427387904) ∧ (0 ≤ rE q ∧ rE q ≤ 3) := by
  unfold rN rD rE
  by_cases h : okQ q
  · have := okQ_bd h
    simp only [if_pos h]; omega
  · simp only [if_neg h]; omega

theorem fr_fine [Rho] {i : Nat} {p : Rat} (hp : okQ p) (h1 : Rho.ρ i = p.num) (h2 : Rho.ρ (i + 1) = p.den) : (fr i).fine1 := by
  have := okQ_bd hp
  exact ⟨ltf (by rw [h1]; exact this.1), ltf (by rw [h2]; exact this.2), trivial⟩
theorem out_fine [Rho] {i : Nat} {q : Rat} (h1 : Rho.ρ i = rN q) (h2 : Rho.ρ (i + 1) = rD q) (h3 : Rho.ρ (i + 2) = rE q) : (outA i).fine := by
  have := r_bd q
  exact ⟨⟨ltf (by rw [h1]; exact this.1), ltf (by rw [h2]; exact this.2.1), trivial⟩, lt1 (by rw [h3]; exact this.2.2), trivial⟩

/-! ### Sub, Div -/
def suFacts : List (FuncId × List Fct) := [(42, [⟨[fr 0, .agg [.sym .i64 (.bin .sub (.lit 0) (.var 2 (-4611686018427387904) 4611686018427387904)) (-4611686018427387904) 4611686018427387904, aD 3]], [], outA 4, [], []⟩])]
theorem su_run : okRun Try.prog (orcOf suFacts) 49 [fr 0, fr 2] (outA 4) = true := by kernel_rfl

theorem sub_q (p q : Rat) (hp : okQ p) (hq : okQ q) (w : World) : Calls Try.prog 49 #[frac p, frac q] w fun e w' => e = .returned (outV (p - q)) ∧ Below w.heap.size w w' := by
  letI := rho [p.num, p.den, q.num, q.den, rN (p - q), rD (p - q), rE (p - q)]
  refine run_open fit (orcOf_ok (L := suFacts) ⟨one ?_, trivial⟩) su_run ⟨fr_fine hp rfl rfl, fr_fine hq rfl rfl, trivial⟩ w
  refine fct_flat rfl rfl rfl (out_fine rfl rfl rfl) body42 (fun w => ?_)
  have := add_q p (-q) hp (neg_ok hq) w
  rw [← Rat.sub_eq_add_neg] at this
  have e : frac (-q) = .agg #[.int .i64 (0 - q.num), .int .i64 q.den] := by unfold frac; rw [Rat.neg_num, Rat.neg_den, Int.zero_sub]
  rw [e] at this
  exact this

abbrev dvN (neg : Bool) : AV := if neg then lt .i64 2 (-4611686018427387904) (-1) else lt .i64 2 1 4611686018427387904
def dvArg (neg : Bool) : AV := if neg then .agg [.sym .i64 (.bin .sub (.lit 0) (.var 3 1 4611686018427387904)) (-4611686018427387904) (-1), .sym .i64 (.bin .sub (.lit 0) (.var 2 (-4611686018427387904) (-1))) 1 4611686018427387904] else .agg [aD 3, lt .i64 2 1 4611686018427387904]
def dvFacts (neg : Bool) : List (FuncId × List Fct) := [(50, [⟨[fr 0, dvArg neg], [], outA 4, [], []⟩])]
theorem dv_run : [true, false].all (fun b => okRun Try.prog (orcOf (dvFacts b)) 51 [fr 0, .agg [dvN b, aD 3]] (outA 4)) = true := by kernel_rfl
def dzFacts : List (FuncId × List Fct) := [(50, [⟨[fr 0, .agg [aD 3, .int .i64 0]], [], zeroR 3, [], []⟩])]
theorem dz_run : okRun Try.prog (orcOf dzFacts) 51 [fr 0, .agg [.int .i64 0, aD 3]] (zeroR 3) = true := by kernel_rfl

theorem div_q (p q : Rat) (hp : okQ p) (hq : okQ q) (h0 : q.num ≠ 0) (w : World) : Calls Try.prog 51 #[frac p, frac q] w fun e w' => e = .returned (outV (p / q)) ∧ Below w.heap.size w w' := by
  have hb := okQ_bd hq
  have hrun := dv_run
  simp only [List.all_cons, List.all_nil, Bool.and_eq_true, Bool.and_true] at hrun
  have hm := mul_q p q⁻¹ hp (inv_ok hq)
  rw [← Rat.div_def] at hm
  letI := rho [p.num, p.den, q.num, q.den, rN (p / q), rD (p / q), rE (p / q)]
  by_cases hn : q.num < 0
  · have e : frac q⁻¹ = .agg #[.int .i64 (0 - q.den), .int .i64 (0 - q.num)] := by
      unfold frac; rw [Rat.num_inv, Rat.den_inv, if_neg h0, Int.sign_eq_neg_one_of_neg hn]
      congr 3
      · congr 1; omega
      · congr 2; omega
    rw [e] at hm
    exact run_open fit (orcOf_ok (L := dvFacts true) ⟨one (fct_flat rfl rfl rfl (out_fine rfl rfl rfl) body50 hm), trivial⟩) hrun.1 ⟨fr_fine hp rfl rfl, ⟨ltf (show _ ≤ q.num ∧ q.num ≤ _ by omega), ltf hb.2, trivial⟩, trivial⟩ w
  · have e : frac q⁻¹ = .agg #[.int .i64 q.den, .int .i64 q.num] := by
      unfold frac; rw [Rat.num_inv, Rat.den_inv, if_neg h0, Int.sign_eq_one_of_pos (by omega)]
      congr 3
      · congr 1; omega
      · congr 2; omega
    rw [e] at hm
    exact run_open fit (orcOf_ok (L := dvFacts false) ⟨one (fct_flat rfl rfl rfl (out_fine rfl rfl rfl) body50 hm), trivial⟩) hrun.2 ⟨fr_fine hp rfl rfl, ⟨ltf (show _ ≤ q.num ∧ q.num ≤ _ by omega), ltf hb.2, trivial⟩, trivial⟩ w

theorem div_0 (p q : Rat) (hp : okQ p) (hq : okQ q) (h0 : q.num = 0) (w : World) : Calls Try.prog 51 #[frac p, frac q] w fun e w' => e = .returned (.tuple #[.agg #[.int .i64 0, .int .i64 0], .int .i64 3]) ∧ Below w.heap.size w w' := by
  have hb := okQ_bd hq
  have ha := okQ_bd hp
  have hm := fun w => mul_c p.num p.den q.den 0 ha.1 (by omega) (by omega) (by omega) w
  have hz : muD p.num p.den q.den 0 = 0 := by unfold muD; simp
  have he : fE (muN p.num p.den q.den 0) 0 = 3 := by simp [fE]
  rw [hz, he, show ∀ s, fN s (muN p.num p.den q.den 0) 0 = 0 from fun s => by unfold fN; rw [he]; simp, show fD (muN p.num p.den q.den 0) 0 = 0 by unfold fD; rw [he]; simp] at hm
  letI := rho [p.num, p.den, 0, q.den]
  have := run_open fit (orcOf_ok (L := dzFacts) ⟨one (fct_flat rfl rfl rfl ⟨⟨trivial, trivial, trivial⟩, trivial, trivial⟩ body50 hm), trivial⟩) dz_run ⟨fr_fine hp rfl rfl, ⟨trivial, ltf hb.2, trivial⟩, trivial⟩ w
  have e : frac q = .agg #[.int .i64 0, .int .i64 q.den] := by unfold frac; rw [h0]
  rw [e]
  exact this

/-! ### the law's own: Result -/
def resV (q : Rat) : Value := .agg #[.int .i64 (rN q), .int .i64 (rD q), .int .i64 (rE q)]
def wrFacts (f : FuncId) : List (FuncId × List Fct) := [(f, [⟨[fr 0, fr 2], [], outA 4, [], []⟩])]
theorem wr_run : [(16, 42), (18, 49), (20, 50), (22, 51)].all (fun x => okRun Try.prog (orcOf (wrFacts x.2)) x.1 [fr 0, fr 2] (resA 4)) = true := by kernel_rfl

theorem wrap_q {g f : FuncId} (hgf : (g, f) ∈ [(16, 42), (18, 49), (20, 50), (22, 51)]) (p q r : Rat) (hp : okQ p) (hq : okQ q) (hb : hasBody Try.prog f = true)
    (h : ∀ w : World, Calls Try.prog f #[frac p, frac q] w fun e w' => e = .returned (outV r) ∧ Below w.heap.size w w') (w : World) : Calls Try.prog g #[frac p, frac q] w fun e w' => e = .returned (resV r) ∧ Below w.heap.size w w' := by
  have hrun : okRun Try.prog (orcOf (wrFacts f)) g [fr 0, fr 2] (resA 4) = true := List.all_eq_true.1 wr_run (g, f) hgf
  letI := rho [p.num, p.den, q.num, q.den, rN r, rD r, rE r]
  exact run_open fit (orcOf_ok (L := wrFacts f) ⟨one (fct_flat rfl rfl rfl (out_fine rfl rfl rfl) hb h), trivial⟩) hrun ⟨fr_fine hp rfl rfl, fr_fine hq rfl rfl, trivial⟩ w

theorem m16 : ((16 : FuncId), (42 : FuncId)) ∈ [((16 : FuncId), (42 : FuncId)), (18, 49), (20, 50), (22, 51)] := .head _
theorem m18 : ((18 : FuncId), (49 : FuncId)) ∈ [((16 : FuncId), (42 : FuncId)), (18, 49), (20, 50), (22, 51)] := .tail _ (.head _)
theorem m20 : ((20 : FuncId), (50 : FuncId)) ∈ [((16 : FuncId), (42 : FuncId)), (18, 49), (20, 50), (22, 51)] := .tail _ (.tail _ (.head _))
theorem m22 : ((22 : FuncId), (51 : FuncId)) ∈ [((16 : FuncId), (42 : FuncId)), (18, 49), (20, 50), (22, 51)] := .tail _ (.tail _ (.tail _ (.head _)))
theorem addL (p q : Rat) (hp : okQ p) (hq : okQ q) (w : World) : Calls Try.prog 16 #[frac p, frac q] w fun e w' => e = .returned (resV (p + q)) ∧ Below w.heap.size w w' := wrap_q (g := 16) (f := 42) m16 p q _ hp hq body42 (add_q p q hp hq) w
theorem subL (p q : Rat) (hp : okQ p) (hq : okQ q) (w : World) : Calls Try.prog 18 #[frac p, frac q] w fun e w' => e = .returned (resV (p - q)) ∧ Below w.heap.size w w' := wrap_q (g := 18) (f := 49) m18 p q _ hp hq body49 (sub_q p q hp hq) w
theorem mulL (p q : Rat) (hp : okQ p) (hq : okQ q) (w : World) : Calls Try.prog 20 #[frac p, frac q] w fun e w' => e = .returned (resV (p * q)) ∧ Below w.heap.size w w' := wrap_q (g := 20) (f := 50) m20 p q _ hp hq body50 (mul_q p q hp hq) w
theorem divL (p q : Rat) (hp : okQ p) (hq : okQ q) (h0 : q.num ≠ 0) (w : World) : Calls Try.prog 22 #[frac p, frac q] w fun e w' => e = .returned (resV (p / q)) ∧ Below w.heap.size w w' := wrap_q (g := 22) (f := 51) m22 p q _ hp hq body51 (div_q p q hp hq h0) w

end Go.Proofs.Ytieabeodommbiaa
