/- Contracts of package rat, evaluated with letters: Add, and what is made of these. -/
import Derived.Test.YtieabeodommbiaaRf
namespace Go.Proofs.Ytieabeodommbiaa
open Go.RowKit (Below)
open Go.Ev

theorem body42 : hasBody Try.prog 42 = true := by kernel_rfl
theorem body50 : hasBody Try.prog 50 = true := by kernel_rfl

/-- the sum's numerator over the least common denominator; its size; what is taken out; numerator and denominator -/
def adS (a b c d : Int) : Int := a * d.tdiv (gcdI b d) + c * b.tdiv (gcdI b d)
def adG (a b c d : Int) : Int := gcdI (gcdI b d) (absI (adS a b c d) % gcdI b d)
def adN (a b c d : Int) : Int := absI (adS a b c d) / adG a b c d
def adD (a b c d : Int) : Int := b.tdiv (gcdI b d) * d.tdiv (adG a b c d)

theorem smul_bd (a b : Int) (ha : -4611686018427387904 ≤ a ∧ a ≤ 4611686018427387904) (hb : 0 ≤ b ∧ b ≤ 4611686018427387904) : -21267647932558653966460912964485513216 ≤ a * b ∧ a * b ≤ 21267647932558653966460912964485513216 := by
  have h1 := prod_bd (absI a) b (absI_bd a ha) hb
  unfold absI at h1
  by_cases h : a < 0
  · rw [if_pos h, Int.neg_mul] at h1; omega
  · rw [if_neg h] at h1; omega

theorem plus_any (V1 V2 V : Int) (hV : V = (V1 + V2) % 340282366920938463463374607431768211456) (w : World) :
    Calls Try.prog 54 #[.agg #[.int .u64 (hiW V1), .int .u64 (loW V1)], .agg #[.int .u64 (hiW V2), .int .u64 (loW V2)]] w fun e w' => e = .returned (.agg #[.int .u64 (hiW V), .int .u64 (loW V)]) ∧ Below w.heap.size w w' :=
  plus_c (hiW V1) (loW V1) (hiW V2) (loW V2) V (by have := lo_bd V1; omega) (by have := lo_bd V2; omega)
    ⟨-((V1 + V2) / 340282366920938463463374607431768211456), by have e1 := hl V1; have e2 := hl V2; omega⟩ (by omega) w

theorem div_any (V d : Int) (hV : 0 ≤ V ∧ V < 340282366920938463463374607431768211456) (hd : 1 ≤ d ∧ d ≤ 4611686018427387904) (w : World) :
    Calls Try.prog 65 #[.agg #[.int .u64 (hiW V), .int .u64 (loW V)], .int .u64 d] w fun e w' => e = .returned (.tuple #[.agg #[.int .u64 (hiW (V / d)), .int .u64 (loW (V / d))], .int .u64 (V % d)]) ∧ Below w.heap.size w w' := by
  have := divide_c (hiW V) (loW V) d (by have := hi_bd V hV; omega) (by have := lo_bd V; omega) (by omega) w
  rw [hl] at this
  exact this

theorem frac_any (neg : Bool) (n d : Int) (hn : 0 ≤ n ∧ n < 340282366920938463463374607431768211456) (hd : 0 ≤ d ∧ d < 340282366920938463463374607431768211456) (w : World) :
    Calls Try.prog 63 #[.bool neg, .agg #[.int .u64 (hiW n), .int .u64 (loW n)], .agg #[.int .u64 (hiW d), .int .u64 (loW d)]] w fun e w' =>
      e = .returned (.tuple #[.agg #[.int .i64 (fN neg n d), .int .i64 (fD n d)], .int .i64 (fE n d)]) ∧ Below w.heap.size w w' := by
  have := frac_c neg (hiW n) (loW n) (hiW d) (loW d) (hi_bd _ hn) (lo_bd _) (hi_bd _ hd) (lo_bd _) w
  rw [hl, hl] at this
  exact this

theorem add_c (a b c d : Int) (ha : -4611686018427387904 ≤ a ∧ a ≤ 4611686018427387904) (hb : 1 ≤ b ∧ b ≤ 4611686018427387904) (hc : -4611686018427387904 ≤ c ∧ c ≤ 4611686018427387904) (hd : 1 ≤ d ∧ d ≤ 4611686018427387904) (w : World) :
    Calls Try.prog 42 #[.agg #[.int .i64 a, .int .i64 b], .agg #[.int .i64 c, .int .i64 d]] w fun e w' =>
      e = .returned (.tuple #[.agg #[.int .i64 (fN (decide (adS a b c d < 0)) (adN a b c d) (adD a b c d)), .int .i64 (fD (adN a b c d) (adD a b c d))], .int .i64 (fE (adN a b c d) (adD a b c d))]) ∧ Below w.heap.size w w' := by
  have hg := gcdI_bd b d 4611686018427387904 (by omega) (by omega) (by omega)
  have qd := quo_bd d (gcdI b d) 4611686018427387904 (by omega) hg.1
  have qb := quo_bd b (gcdI b d) 4611686018427387904 (by omega) hg.1
  have x1 := smul_bd a (d.tdiv (gcdI b d)) ha qd
  have x2 := smul_bd c (b.tdiv (gcdI b d)) hc qb
  have hS : -42535295865117307932921825928971026432 ≤ adS a b c d ∧ adS a b c d ≤ 42535295865117307932921825928971026432 := by unfold adS; omega
  have hA : 0 ≤ absI (adS a b c d) ∧ absI (adS a b c d) ≤ 42535295865117307932921825928971026432 := by unfold absI; split <;> omega
  have hr0 := Int.emod_nonneg (absI (adS a b c d)) (show gcdI b d ≠ 0 by omega)
  have hr1 := Int.emod_lt_of_pos (absI (adS a b c d)) (show 0 < gcdI b d by omega)
  have hv : 1 ≤ adG a b c d ∧ adG a b c d ≤ 4611686018427387904 := gcdI_bd _ _ 4611686018427387904 (by omega) (by omega) (by omega)
  have qv := quo_bd d (adG a b c d) 4611686018427387904 (by omega) hv.1
  have pd : 0 ≤ adD a b c d ∧ adD a b c d ≤ 21267647932558653966460912964485513216 := prod_bd _ _ qb qv
  have dg0 := Int.ediv_nonneg hA.1 (show 0 ≤ gcdI b d by omega)
  have dg1 := Int.ediv_le_self (gcdI b d) hA.1
  have dv0 : 0 ≤ adN a b c d := Int.ediv_nonneg hA.1 (show 0 ≤ adG a b c d by omega)
  have dv1 : adN a b c d ≤ absI (adS a b c d) := Int.ediv_le_self (adG a b c d) hA.1
  have rv0 := Int.emod_nonneg (absI (adS a b c d)) (show adG a b c d ≠ 0 by omega)
  have rv1 := Int.emod_lt_of_pos (absI (adS a b c d)) (show 0 < adG a b c d by omega)
  have hW : 0 ≤ adS a b c d % 340282366920938463463374607431768211456 ∧ adS a b c d % 340282366920938463463374607431768211456 < 340282366920938463463374607431768211456 := by omega
  have hneg : decide (170141183460469231731687303715884105728 ≤ adS a b c d % 340282366920938463463374607431768211456) = decide (adS a b c d < 0) := by
    rw [Bool.eq_iff_iff]; simp only [decide_eq_true_eq]; omega
  have habs : absW (adS a b c d % 340282366920938463463374607431768211456) = absI (adS a b c d) := by
    unfold absW absI
    by_cases h : adS a b c d < 0
    · rw [if_neg (by omega), if_pos h]; omega
    · rw [if_pos (by omega), if_neg h]; omega
  letI := rho [a, b, c, d, gcdI b d, hiW (a * d.tdiv (gcdI b d) % 340282366920938463463374607431768211456), loW (a * d.tdiv (gcdI b d) % 340282366920938463463374607431768211456),
    hiW (c * b.tdiv (gcdI b d) % 340282366920938463463374607431768211456), loW (c * b.tdiv (gcdI b d) % 340282366920938463463374607431768211456),
    hiW (adS a b c d % 340282366920938463463374607431768211456), loW (adS a b c d % 340282366920938463463374607431768211456), hiW (absI (adS a b c d)), loW (absI (adS a b c d)),
    hiW (absI (adS a b c d) / gcdI b d), loW (absI (adS a b c d) / gcdI b d), absI (adS a b c d) % gcdI b d, adG a b c d, hiW (adN a b c d), loW (adN a b c d), absI (adS a b c d) % adG a b c d,
    hiW (adD a b c d), loW (adD a b c d), fN (decide (adS a b c d < 0)) (adN a b c d) (adD a b c d), fD (adN a b c d) (adD a b c d), fE (adN a b c d) (adD a b c d)]
  have hrun := ad_run
  simp only [List.all_eq_true] at hrun
  have f1 : (Fct.mk [aD 1] [] (nP 1) [] []).Holds Try.prog 53 := fct_flat rfl rfl rfl (ltv hb) body53 (fun w => by
    have := sizeB b (by omega) (by omega) w
    rw [show absI b = b by unfold absI; rw [if_neg (by omega)]] at this
    exact this)
  have f2 : (Fct.mk [aD 3] [] (nP 3) [] []).Holds Try.prog 53 := fct_flat rfl rfl rfl (ltv hd) body53 (fun w => by
    have := sizeB d (by omega) (by omega) w
    rw [show absI d = d by unfold absI; rw [if_neg (by omega)]] at this
    exact this)
  have g1 : (gcdF (nP 1) (nP 3) (nP 4)).Holds Try.prog 62 := gcd_fct (x := b) (y := d) rfl rfl rfl rfl (ltv hg) rfl rfl rfl (by omega) (by omega)
  have g2 : (gcdF (nP 4) (U 15) (nP 16)).Holds Try.prog 62 := gcd_fct (x := gcdI b d) (y := absI (adS a b c d) % gcdI b d) rfl rfl rfl rfl (ltv hv) rfl rfl rfl (by omega) (by omega)
  have p1 : (Fct.mk [aN 0, aQ 3 4] [] (.agg [U 5, U 6]) [] []).Holds Try.prog 52 := fct_flat rfl rfl rfl ⟨ltf (hi_bd _ (by omega)), ltf (lo_bd _), trivial⟩ body52 (fun w => sp_c a (d.tdiv (gcdI b d)) ha qd w)
  have p2 : (Fct.mk [aN 2, aQ 1 4] [] (.agg [U 7, U 8]) [] []).Holds Try.prog 52 := fct_flat rfl rfl rfl ⟨ltf (hi_bd _ (by omega)), ltf (lo_bd _), trivial⟩ body52 (fun w => sp_c c (b.tdiv (gcdI b d)) hc qb w)
  have pl : (Fct.mk [.agg [U 5, U 6], .agg [U 7, U 8]] [] (.agg [U 9, U 10]) [] []).Holds Try.prog 54 := fct_flat rfl rfl rfl ⟨ltf (hi_bd _ hW), ltf (lo_bd _), trivial⟩ body54 (fun w =>
    plus_any (a * d.tdiv (gcdI b d) % 340282366920938463463374607431768211456) (c * b.tdiv (gcdI b d) % 340282366920938463463374607431768211456) (adS a b c d % 340282366920938463463374607431768211456) (by unfold adS; omega) w)
  have ab : (Fct.mk [.agg [U 9, U 10]] [] (.agg [U 11, U 12]) [] []).Holds Try.prog 64 := fct_flat rfl rfl rfl ⟨ltf (hi_bd _ (by omega)), ltf (lo_bd _), trivial⟩ body64 (fun w => by
    have := abs_c (adS a b c d % 340282366920938463463374607431768211456) hW w
    rw [habs] at this
    exact this)
  have d1 : (Fct.mk [.agg [U 11, U 12], nP 4] [] (.tup [.agg [U 13, U 14], U 15]) [] []).Holds Try.prog 65 := fct_flat rfl rfl rfl ⟨⟨ltf (hi_bd _ (by omega)), ltf (lo_bd _), trivial⟩, lt1 (show _ ≤ absI (adS a b c d) % gcdI b d ∧ absI (adS a b c d) % gcdI b d ≤ _ by omega), trivial⟩ body65 (fun w =>
    div_any (absI (adS a b c d)) (gcdI b d) (by omega) hg w)
  have d2 : (Fct.mk [.agg [U 11, U 12], nP 16] [] (.tup [.agg [U 17, U 18], U 19]) [] []).Holds Try.prog 65 := fct_flat rfl rfl rfl ⟨⟨ltf (hi_bd _ (by omega)), ltf (lo_bd _), trivial⟩, lt1 (show _ ≤ absI (adS a b c d) % adG a b c d ∧ absI (adS a b c d) % adG a b c d ≤ _ by omega), trivial⟩ body65 (fun w =>
    div_any (absI (adS a b c d)) (adG a b c d) (by omega) hv w)
  have ng : (Fct.mk [.agg [U 9, U 10]] [] (.bool (decide (adS a b c d < 0))) [] []).Holds Try.prog 56 := fct_flat rfl rfl rfl trivial body56 (fun w => by
    have := neg_c (adS a b c d % 340282366920938463463374607431768211456) hW w
    rw [hneg] at this
    exact this)
  have pr : (Fct.mk [aQ 1 4, aQ 3 16] [] (.agg [U 20, U 21]) [] []).Holds Try.prog 66 := fct_flat rfl rfl rfl ⟨ltf (hi_bd _ (by omega)), ltf (lo_bd _), trivial⟩ body66 (fun w =>
    product_c (b.tdiv (gcdI b d)) (d.tdiv (adG a b c d)) qb.1 (by have := qb.2; omega) qv.1 (by have := qv.2; omega) w)
  have fr : (Fct.mk [.bool (decide (adS a b c d < 0)), .agg [U 17, U 18], .agg [U 20, U 21]] [] (mR 22) [] []).Holds Try.prog 63 :=
    fct_flat rfl rfl rfl ⟨⟨ltf (fN_bd _ _ _ dv0), ltf (fD_bd _ _ pd.1), trivial⟩, lt1 (fE_bd _ _), trivial⟩ body63 (fun w => frac_any (decide (adS a b c d < 0)) (adN a b c d) (adD a b c d) (by omega) (by omega) w)
  exact run_open fit (orcOf_ok (L := adFacts (decide (adS a b c d < 0))) ⟨two f1 (one f2), two g1 (one g2), two p1 (one p2), one pl, one ab, two d1 (one d2), one ng, one pr, one fr, trivial⟩) (hrun _ (by cases decide (adS a b c d < 0) <;> simp)) ⟨⟨ltf ha, ltf hb, trivial⟩, ⟨ltf hc, ltf hd, trivial⟩, trivial⟩ w

end Go.Proofs.Ytieabeodommbiaa

/- Fractions as rational numbers: plain mathematics. -/
namespace Go.Proofs.Ytieabeodommbiaa

def okQ (q : Rat) : Prop := q.num.natAbs ≤ 4611686018427387904 ∧ q.den ≤ 4611686018427387904
instance (q : Rat) : Decidable (okQ q) := inferInstanceAs (Decidable (_ ∧ _))
def rN (q : Rat) : Int := if okQ q then q.num else 0
def rD (q : Rat) : Int := if okQ q then q.den else 0
def rE (q : Rat) : Int := if okQ q then 0 else 2

theorem okQ_bd {q : Rat} (h : okQ q) : (-4611686018427387904 ≤ q.num ∧ q.num ≤ 4611686018427387904) ∧ (1 ≤ (q.den : Int) ∧ (q.den : Int) ≤ 4611686018427387904) := by
  have := q.den_pos
  unfold okQ at h
  omega

theorem out_spec (neg : Bool) (n d : Int) (q : Rat) (h1 : n = q.num.natAbs) (h2 : d = q.den) (h3 : (if neg then -n else n) = q.num) : fN neg n d = rN q ∧ fD n d = rD q ∧ fE n d = rE q := by
  have hd := q.den_pos
  have e : fE n d = rE q := by
    unfold fE rE
    rw [if_neg (by omega)]
    by_cases h : okQ q
    · rw [if_pos h, if_pos (by unfold okQ at h; omega)]
    · rw [if_neg h, if_neg (by unfold okQ at h; omega)]
  refine ⟨?_, ?_, e⟩
  · unfold fN rN
    rw [e]; unfold rE
    by_cases h : okQ q
    · simp [h]; exact h3
    · simp [h]
  · unfold fD rD
    rw [e]; unfold rE
    by_cases h : okQ q
    · simp [h]; exact h2
    · simp [h]

theorem absI_natAbs (a : Int) : absI a = a.natAbs := by unfold absI; split <;> omega
theorem gcdI_pos (x : Int) (y : Nat) (hy : 0 < y) : gcdI (absI x) y = (Nat.gcd x.natAbs y : Nat) := by
  unfold gcdI
  rw [absI_natAbs]
  have : 0 < Nat.gcd x.natAbs y := Nat.gcd_pos_of_pos_right _ hy
  show max ((Nat.gcd x.natAbs y : Nat) : Int) 1 = _
  omega
theorem gcdI_nat (x y : Nat) (hy : 0 < y) : gcdI x y = (Nat.gcd x y : Nat) := by
  unfold gcdI
  have : 0 < Nat.gcd x y := Nat.gcd_pos_of_pos_right _ hy
  show max ((Nat.gcd x y : Nat) : Int) 1 = _
  omega
theorem tdiv_nat (x y : Nat) : (x : Int).tdiv y = (x / y : Nat) := rfl

theorem mul_num (p q : Rat) : (p * q).num = p.num.tdiv (Nat.gcd p.num.natAbs q.den) * q.num.tdiv (Nat.gcd q.num.natAbs p.den) := by
  show (Rat.mul p q).num = _
  rw [Rat.mul]
  simp only [Int.divExact_eq_tdiv]
theorem mul_den (p q : Rat) : (p * q).den = (p.den / Nat.gcd q.num.natAbs p.den) * (q.den / Nat.gcd p.num.natAbs q.den) := by
  show (Rat.mul p q).den = _
  rw [Rat.mul]
  simp only [Nat.divExact_eq_div]

theorem mu_spec (p q : Rat) : muN p.num p.den q.num q.den = (p * q).num.natAbs ∧ muD p.num p.den q.num q.den = (p * q).den := by
  unfold muN muD
  rw [gcdI_pos _ _ q.den_pos, gcdI_pos _ _ p.den_pos, mul_num, mul_den, absI_natAbs, absI_natAbs, tdiv_nat, tdiv_nat, tdiv_nat, tdiv_nat, Int.natAbs_mul, Int.natAbs_tdiv, Int.natAbs_tdiv]
  exact ⟨rfl, rfl⟩

theorem tdiv_neg (a : Int) (g : Nat) (h : a < 0) : a.tdiv g ≤ 0 := by
  have : 0 ≤ (-a).tdiv g := Int.tdiv_nonneg (by omega) (Int.natCast_nonneg g)
  rw [Int.neg_tdiv] at this
  omega
theorem tdiv_pos (a : Int) (g : Nat) (h : ¬ a < 0) : 0 ≤ a.tdiv g := Int.tdiv_nonneg (by omega) (Int.natCast_nonneg g)

theorem mul_sgn (p q : Rat) : (if sgn p.num q.num then -((p * q).num.natAbs : Int) else ((p * q).num.natAbs : Int)) = (p * q).num := by
  rw [mul_num]
  generalize hx : p.num.tdiv (Nat.gcd p.num.natAbs q.den) = x
  generalize hy : q.num.tdiv (Nat.gcd q.num.natAbs p.den) = y
  have x1 : p.num < 0 → x ≤ 0 := fun h => hx ▸ tdiv_neg _ _ h
  have x2 : ¬ p.num < 0 → 0 ≤ x := fun h => hx ▸ tdiv_pos _ _ h
  have y1 : q.num < 0 → y ≤ 0 := fun h => hy ▸ tdiv_neg _ _ h
  have y2 : ¬ q.num < 0 → 0 ≤ y := fun h => hy ▸ tdiv_pos _ _ h
  unfold sgn
  by_cases h1 : p.num < 0 <;> by_cases h2 : q.num < 0 <;> simp only [h1, h2, decide_true, decide_false, bne_self_eq_false, Bool.false_eq_true, if_false, Bool.true_bne, Bool.not_false, if_true, Bool.false_bne]
  · have := Int.mul_nonneg_of_nonpos_of_nonpos (x1 h1) (y1 h2); omega
  · have := Int.mul_nonpos_of_nonpos_of_nonneg (x1 h1) (y2 h2); omega
  · have := Int.mul_nonpos_of_nonneg_of_nonpos (x2 h1) (y1 h2); omega
  · have := Int.mul_nonneg (x2 h1) (y2 h2); omega

/-! sums -/
theorem add_parts (p q : Rat) : (p + q).num = adS p.num p.den q.num q.den / (adG p.num p.den q.num q.den) ∧ ((p + q).den : Int) = adD p.num p.den q.num q.den ∧ adG p.num p.den q.num q.den ∣ adS p.num p.den q.num q.den := by
  have hg := gcdI_nat p.den q.den q.den_pos
  have hgp : 0 < Nat.gcd p.den q.den := Nat.gcd_pos_of_pos_right _ q.den_pos
  have hS : adS p.num p.den q.num q.den = p.num * (q.den / Nat.gcd p.den q.den : Nat) + q.num * (p.den / Nat.gcd p.den q.den : Nat) := by
    unfold adS; rw [hg, tdiv_nat, tdiv_nat]
  have haux := Rat.add.aux p q (g := Nat.gcd p.den q.den) rfl rfl rfl
  simp only [] at haux
  rw [← hS] at haux
  have hG : adG p.num p.den q.num q.den = (Nat.gcd (adS p.num p.den q.num q.den).natAbs (Nat.gcd p.den q.den) : Nat) := by
    unfold adG
    rw [hg, absI_natAbs, ← Int.natCast_emod]
    unfold gcdI
    have h1 : Int.gcd ((Nat.gcd p.den q.den : Nat) : Int) (((adS p.num p.den q.num q.den).natAbs % Nat.gcd p.den q.den : Nat) : Int) = Nat.gcd (adS p.num p.den q.num q.den).natAbs (Nat.gcd p.den q.den) := by
      show Nat.gcd (Nat.gcd p.den q.den) ((adS p.num p.den q.num q.den).natAbs % Nat.gcd p.den q.den) = _
      rw [Nat.gcd_comm (adS p.num p.den q.num q.den).natAbs, Nat.gcd_comm (Nat.gcd p.den q.den) (_ % _), ← Nat.gcd_rec]
    rw [h1]
    have : 0 < Nat.gcd (adS p.num p.den q.num q.den).natAbs (Nat.gcd p.den q.den) := Nat.gcd_pos_of_pos_right _ hgp
    omega
  have hdvd : Nat.gcd (adS p.num p.den q.num q.den).natAbs (Nat.gcd p.den q.den) ∣ q.den := Nat.dvd_trans (Nat.gcd_dvd_right _ _) (Nat.gcd_dvd_right _ _)
  have hD : adD p.num p.den q.num q.den = ((p.den / Nat.gcd p.den q.den * q.den) / Nat.gcd (adS p.num p.den q.num q.den).natAbs (Nat.gcd p.den q.den) : Nat) := by
    unfold adD
    rw [hG, hg, tdiv_nat, tdiv_nat, Nat.mul_div_assoc _ hdvd]
    rfl
  -- the sum over the least common denominator
  have hsum : p + q = mkRat (adS p.num p.den q.num q.den) (p.den / Nat.gcd p.den q.den * q.den) := by
    rw [Rat.add_def', hS]
    rw [← Rat.mkRat_mul_right (n := p.num * (q.den / Nat.gcd p.den q.den : Nat) + q.num * (p.den / Nat.gcd p.den q.den : Nat)) (a := Nat.gcd p.den q.den) (by omega)]
    have e1 : p.den / Nat.gcd p.den q.den * Nat.gcd p.den q.den = p.den := Nat.div_mul_cancel (Nat.gcd_dvd_left _ _)
    have e2 : q.den / Nat.gcd p.den q.den * Nat.gcd p.den q.den = q.den := Nat.div_mul_cancel (Nat.gcd_dvd_right _ _)
    congr 1
    · rw [Int.add_mul, Int.mul_assoc, Int.mul_assoc, ← Int.natCast_mul, ← Int.natCast_mul, e1, e2]
    · rw [Nat.mul_right_comm, e1]
  have hdp : 0 < p.den / Nat.gcd p.den q.den * q.den := Nat.mul_pos (Nat.div_gcd_pos_of_pos_left _ p.den_pos) q.den_pos
  rw [hsum, Rat.num_mkRat, Rat.den_mkRat, if_neg (by omega), if_neg (by omega), Nat.gcd_comm, ← haux, hG, hD]
  exact ⟨rfl, rfl, Int.ofNat_dvd_left.2 (Nat.gcd_dvd_left _ _)⟩

theorem ad_spec (p q : Rat) : adN p.num p.den q.num q.den = (p + q).num.natAbs ∧ adD p.num p.den q.num q.den = (p + q).den ∧
    (if decide (adS p.num p.den q.num q.den < 0) then -((p + q).num.natAbs : Int) else ((p + q).num.natAbs : Int)) = (p + q).num := by
  obtain ⟨h1, h2, h3⟩ := add_parts p q
  have hG : 1 ≤ adG p.num p.den q.num q.den := by unfold adG gcdI; omega
  refine ⟨?_, h2.symm, ?_⟩
  · unfold adN
    rw [h1]
    generalize adG p.num p.den q.num q.den = G at *
    generalize adS p.num p.den q.num q.den = S at *
    obtain ⟨k, rfl⟩ := h3
    rw [Int.mul_ediv_cancel_left _ (by omega), absI_natAbs, Int.natAbs_mul, Int.natCast_mul, Int.natAbs_of_nonneg (show 0 ≤ G by omega), Int.mul_ediv_cancel_left _ (by omega)]
  · rw [h1]
    generalize adG p.num p.den q.num q.den = G at *
    generalize adS p.num p.den q.num q.den = S at *
    obtain ⟨k, rfl⟩ := h3
    rw [Int.mul_ediv_cancel_left _ (by omega)]
    by_cases hk : k < 0
    · have : G * k < 0 := Int.mul_neg_of_pos_of_neg (by omega) hk
      rw [show decide (G * k < 0) = true by simpa using this, if_pos rfl]; omega
    · have : 0 ≤ G * k := Int.mul_nonneg (by omega) (by omega)
      rw [show decide (G * k < 0) = false by simpa using this]; simp; omega

def frac (q : Rat) : Value := .agg #[.int .i64 q.num, .int .i64 q.den]
def outV (q : Rat) : Value := .tuple #[.agg #[.int .i64 (rN q), .int .i64 (rD q)], .int .i64 (rE q)]

theorem add_q (p q : Rat) (hp : okQ p) (hq : okQ q) (w : World) : Calls Try.prog 42 #[frac p, frac q] w fun e w' => e = .returned (outV (p + q)) ∧ Go.RowKit.Below w.heap.size w w' := by
  obtain ⟨a1, a2⟩ := okQ_bd hp
  obtain ⟨b1, b2⟩ := okQ_bd hq
  have := add_c p.num p.den q.num q.den a1 a2 b1 b2 w
  obtain ⟨h1, h2, h3⟩ := ad_spec p q
  obtain ⟨k1, k2, k3⟩ := out_spec (decide (adS p.num p.den q.num q.den < 0)) (adN p.num p.den q.num q.den) (adD p.num p.den q.num q.den) (p + q) h1 h2 (by rw [h1]; exact h3)
  rw [k1, k2, k3] at this
  exact this

theorem mul_q (p q : Rat) (hp : okQ p) (hq : okQ q) (w : World) : Calls Try.prog 50 #[frac p, frac q] w fun e w' => e = .returned (outV (p * q)) ∧ Go.RowKit.Below w.heap.size w w' := by
  obtain ⟨a1, a2⟩ := okQ_bd hp
  obtain ⟨b1, b2⟩ := okQ_bd hq
  have := mul_c p.num p.den q.num q.den a1 (by omega) b1 (by omega) w
  obtain ⟨h1, h2⟩ := mu_spec p q
  obtain ⟨k1, k2, k3⟩ := out_spec (sgn p.num q.num) (muN p.num p.den q.num q.den) (muD p.num p.den q.num q.den) (p * q) h1 h2 (by rw [h1]; exact mul_sgn p q)
  rw [k1, k2, k3] at this
  exact this

theorem neg_ok {q : Rat} (h : okQ q) : okQ (-q) := by unfold okQ at *; rw [Rat.neg_num, Rat.neg_den, Int.natAbs_neg]; exact h
theorem inv_ok {q : Rat} (h : okQ q) : okQ q⁻¹ := by
  unfold okQ at *
  rw [Rat.num_inv, Rat.den_inv]
  constructor
  · rw [Int.natAbs_mul]
    by_cases h0 : q.num = 0
    · rw [h0]; simp
    · rw [Int.natAbs_sign_of_ne_zero h0]; simp; exact h.2
  · split <;> omega

end Go.Proofs.Ytieabeodommbiaa

/- Contracts of package rat in rational numbers. -/
namespace Go.Proofs.Ytieabeodommbiaa
open Go.RowKit (Below)
open Go.Ev

theorem body49 : hasBody Try.prog 49 = true := by kernel_rfl
theorem body51 : hasBody Try.prog 51 = true := by kernel_rfl
theorem body16 : hasBody Try.prog 16 = true := by kernel_rfl
theorem body18 : hasBody Try.prog 18 = true := by kernel_rfl
theorem body20 : hasBody Try.prog 20 = true := by kernel_rfl
theorem body22 : hasBody Try.prog 22 = true := by kernel_rfl

abbrev fr (i : Nat) : AV := .agg [aN i, aD (i + 1)]
abbrev outA (i : Nat) : AV := .tup [.agg [aN i, nD (i + 1)], lt .i64 (i + 2) 0 3]
abbrev resA (i : Nat) : AV := .agg [aN i, nD (i + 1), lt .i64 (i + 2) 0 3]

theorem r_bd (q : Rat) : (-4611686018427387904 ≤ rN q ∧ rN q ≤ 4611686018427387904) ∧ (0 ≤ rD q ∧ rD q ≤ 4611686018427387904) ∧ (0 ≤ rE q ∧ rE q ≤ 3) := by
  unfold rN rD rE
  by_cases h : okQ q
  · have := okQ_bd h
    simp only [if_pos h]; omega
  · simp only [if_neg h]; omega

theorem fr_fine [Rho] {i : Nat} {p : Rat} (hp : okQ p) (h1 : Rho.ρ i = p.num) (h2 : Rho.ρ (i + 1) = p.den) : (fr i).fine1 := by
  have := okQ_bd hp
  exact ⟨ltf (by rw [h1]; exact this.1), ltf (by rw [h2]; exact this.2), trivial⟩
theorem out_fine [Rho] {i : Nat} {q : Rat} (h1 : Rho.ρ i = rN q) (h2 : Rho.ρ (i + 1) = rD q) (h3 : Rho.ρ (i + 2) = rE q) : (outA i).fine := by
  have := r_bd q
  exact ⟨⟨ltf (by rw [h1]; exact this.1), ltf (by rw [h2]; exact this.2.1), trivial⟩, lt1 (by rw [h3]; exact this.2.2), trivial⟩

/-! ### Sub, Div -/
def suFacts : List (FuncId × List Fct) := [(42, [⟨[fr 0, .agg [.sym .i64 (.bin .sub (.lit 0) (.var 2 (-4611686018427387904) 4611686018427387904)) (-4611686018427387904) 4611686018427387904, aD 3]], [], outA 4, [], []⟩])]
theorem su_run : okRun Try.prog (orcOf suFacts) 49 [fr 0, fr 2] (outA 4) = true := by kernel_rfl

theorem sub_q (p q : Rat) (hp : okQ p) (hq : okQ q) (w : World) : Calls Try.prog 49 #[frac p, frac q] w fun e w' => e = .returned (outV (p - q)) ∧ Below w.heap.size w w' := by
  letI := rho [p.num, p.den, q.num, q.den, rN (p - q), rD (p - q), rE (p - q)]
  refine run_open fit (orcOf_ok (L := suFacts) ⟨one ?_, trivial⟩) su_run ⟨fr_fine hp rfl rfl, fr_fine hq rfl rfl, trivial⟩ w
  refine fct_flat rfl rfl rfl (out_fine rfl rfl rfl) body42 (fun w => ?_)
  have := add_q p (-q) hp (neg_ok hq) w
  rw [← Rat.sub_eq_add_neg] at this
  have e : frac (-q) = .agg #[.int .i64 (0 - q.num), .int .i64 q.den] := by unfold frac; rw [Rat.neg_num, Rat.neg_den, Int.zero_sub]
  rw [e] at this
  exact this

abbrev dvN (neg : Bool) : AV := if neg then lt .i64 2 (-4611686018427387904) (-1) else lt .i64 2 1 4611686018427387904
def dvArg (neg : Bool) : AV := if neg then .agg [.sym .i64 (.bin .sub (.lit 0) (.var 3 1 4611686018427387904)) (-4611686018427387904) (-1), .sym .i64 (.bin .sub (.lit 0) (.var 2 (-4611686018427387904) (-1))) 1 4611686018427387904] else .agg [aD 3, lt .i64 2 1 4611686018427387904]
def dvFacts (neg : Bool) : List (FuncId × List Fct) := [(50, [⟨[fr 0, dvArg neg], [], outA 4, [], []⟩])]
theorem dv_run : [true, false].all (fun b => okRun Try.prog (orcOf (dvFacts b)) 51 [fr 0, .agg [dvN b, aD 3]] (outA 4)) = true := by kernel_rfl
def dzFacts : List (FuncId × List Fct) := [(50, [⟨[fr 0, .agg [aD 3, .int .i64 0]], [], zeroR 3, [], []⟩])]
theorem dz_run : okRun Try.prog (orcOf dzFacts) 51 [fr 0, .agg [.int .i64 0, aD 3]] (zeroR 3) = true := by kernel_rfl

theorem div_q (p q : Rat) (hp : okQ p) (hq : okQ q) (h0 : q.num ≠ 0) (w : World) : Calls Try.prog 51 #[frac p, frac q] w fun e w' => e = .returned (outV (p / q)) ∧ Below w.heap.size w w' := by
  have hb := okQ_bd hq
  have hrun := dv_run
  simp only [List.all_cons, List.all_nil, Bool.and_eq_true, Bool.and_true] at hrun
  have hm := mul_q p q⁻¹ hp (inv_ok hq)
  rw [← Rat.div_def] at hm
  letI := rho [p.num, p.den, q.num, q.den, rN (p / q), rD (p / q), rE (p / q)]
  by_cases hn : q.num < 0
  · have e : frac q⁻¹ = .agg #[.int .i64 (0 - q.den), .int .i64 (0 - q.num)] := by
      unfold frac; rw [Rat.num_inv, Rat.den_inv, if_neg h0, Int.sign_eq_neg_one_of_neg hn]
      congr 3
      · congr 1; omega
      · congr 2; omega
    rw [e] at hm
    exact run_open fit (orcOf_ok (L := dvFacts true) ⟨one (fct_flat rfl rfl rfl (out_fine rfl rfl rfl) body50 hm), trivial⟩) hrun.1 ⟨fr_fine hp rfl rfl, ⟨ltf (show _ ≤ q.num ∧ q.num ≤ _ by omega), ltf hb.2, trivial⟩, trivial⟩ w
  · have e : frac q⁻¹ = .agg #[.int .i64 q.den, .int .i64 q.num] := by
      unfold frac; rw [Rat.num_inv, Rat.den_inv, if_neg h0, Int.sign_eq_one_of_pos (by omega)]
      congr 3
      · congr 1; omega
      · congr 2; omega
    rw [e] at hm
    exact run_open fit (orcOf_ok (L := dvFacts false) ⟨one (fct_flat rfl rfl rfl (out_fine rfl rfl rfl) body50 hm), trivial⟩) hrun.2 ⟨fr_fine hp rfl rfl, ⟨ltf (show _ ≤ q.num ∧ q.num ≤ _ by omega), ltf hb.2, trivial⟩, trivial⟩ w

theorem div_0 (p q : Rat) (hp : okQ p) (hq : okQ q) (h0 : q.num = 0) (w : World) : Calls Try.prog 51 #[frac p, frac q] w fun e w' => e = .returned (.tuple #[.agg #[.int .i64 0, .int .i64 0], .int .i64 3]) ∧ Below w.heap.size w w' := by
  have hb := okQ_bd hq
  have ha := okQ_bd hp
  have hm := fun w => mul_c p.num p.den q.den 0 ha.1 (by omega) (by omega) (by omega) w
  have hz : muD p.num p.den q.den 0 = 0 := by unfold muD; simp
  have he : fE (muN p.num p.den q.den 0) 0 = 3 := by simp [fE]
  rw [hz, he, show ∀ s, fN s (muN p.num p.den q.den 0) 0 = 0 from fun s => by unfold fN; rw [he]; simp, show fD (muN p.num p.den q.den 0) 0 = 0 by unfold fD; rw [he]; simp] at hm
  letI := rho [p.num, p.den, 0, q.den]
  have := run_open fit (orcOf_ok (L := dzFacts) ⟨one (fct_flat rfl rfl rfl ⟨⟨trivial, trivial, trivial⟩, trivial, trivial⟩ body50 hm), trivial⟩) dz_run ⟨fr_fine hp rfl rfl, ⟨trivial, ltf hb.2, trivial⟩, trivial⟩ w
  have e : frac q = .agg #[.int .i64 0, .int .i64 q.den] := by unfold frac; rw [h0]
  rw [e]
  exact this

/-! ### the law's own: Result -/
def resV (q : Rat) : Value := .agg #[.int .i64 (rN q), .int .i64 (rD q), .int .i64 (rE q)]
def wrFacts (f : FuncId) : List (FuncId × List Fct) := [(f, [⟨[fr 0, fr 2], [], outA 4, [], []⟩])]
theorem wr_run : [(16, 42), (18, 49), (20, 50), (22, 51)].all (fun x => okRun Try.prog (orcOf (wrFacts x.2)) x.1 [fr 0, fr 2] (resA 4)) = true := by kernel_rfl

theorem wrap_q {g f : FuncId} (hgf : (g, f) ∈ [(16, 42), (18, 49), (20, 50), (22, 51)]) (p q r : Rat) (hp : okQ p) (hq : okQ q) (hb : hasBody Try.prog f = true)
    (h : ∀ w : World, Calls Try.prog f #[frac p, frac q] w fun e w' => e = .returned (outV r) ∧ Below w.heap.size w w') (w : World) : Calls Try.prog g #[frac p, frac q] w fun e w' => e = .returned (resV r) ∧ Below w.heap.size w w' := by
  have hrun : okRun Try.prog (orcOf (wrFacts f)) g [fr 0, fr 2] (resA 4) = true := List.all_eq_true.1 wr_run (g, f) hgf
  letI := rho [p.num, p.den, q.num, q.den, rN r, rD r, rE r]
  exact run_open fit (orcOf_ok (L := wrFacts f) ⟨one (fct_flat rfl rfl rfl (out_fine rfl rfl rfl) hb h), trivial⟩) hrun ⟨fr_fine hp rfl rfl, fr_fine hq rfl rfl, trivial⟩ w

theorem m16 : ((16 : FuncId), (42 : FuncId)) ∈ [((16 : FuncId), (42 : FuncId)), (18, 49), (20, 50), (22, 51)] := .head _
theorem m18 : ((18 : FuncId), (49 : FuncId)) ∈ [((16 : FuncId), (42 : FuncId)), (18, 49), (20, 50), (22, 51)] := .tail _ (.head _)
theorem m20 : ((20 : FuncId), (50 : FuncId)) ∈ [((16 : FuncId), (42 : FuncId)), (18, 49), (20, 50), (22, 51)] := .tail _ (.tail _ (.head _))
theorem m22 : ((22 : FuncId), (51 : FuncId)) ∈ [((16 : FuncId), (42 : FuncId)), (18, 49), (20, 50), (22, 51)] := .tail _ (.tail _ (.tail _ (.head _)))
theorem addL (p q : Rat) (hp : okQ p) (hq : okQ q) (w : World) : Calls Try.prog 16 #[frac p, frac q] w fun e w' => e = .returned (resV (p + q)) ∧ Below w.heap.size w w' := wrap_q (g := 16) (f := 42) m16 p q _ hp hq body42 (add_q p q hp hq) w
theorem subL (p q : Rat) (hp : okQ p) (hq : okQ q) (w : World) : Calls Try.prog 18 #[frac p, frac q] w fun e w' => e = .returned (resV (p - q)) ∧ Below w.heap.size w w' := wrap_q (g := 18) (f := 49) m18 p q _ hp hq body49 (sub_q p q hp hq) w
theorem mulL (p q : Rat) (hp : okQ p) (hq : okQ q) (w : World) : Calls Try.prog 20 #[frac p, frac q] w fun e w' => e = .returned (resV (p * q)) ∧ Below w.heap.size w w' := wrap_q (g := 20) (f := 50) m20 p q _ hp hq body50 (mul_q p q hp hq) w
theorem divL (p q : Rat) (hp : okQ p) (hq : okQ q) (h0 : q.num ≠ 0) (w : World) : Calls Try.prog 22 #[frac p, frac q] w fun e w' => e = .returned (resV (p / q)) ∧ Below w.heap.size w w' := wrap_q (g := 22) (f := 51) m22 p q _ hp hq body51 (div_q p q hp hq h0) w

end Go.Proofs.Ytieabeodommbiaa

/- RatField, evaluated with letters. -/
namespace Go.Proofs.Ytieabeodommbiaa
open Go.Ev

abbrev xs (i : Nat) : AV := lt .i64 i (-9223372036854775808) 9223372036854775807
abbrev xp (i : Nat) : AV := .agg [xs i, xs (i + 1)]
/-- a fraction that is 0, positive, negative -/
noncomputable def bN (k : Nat) : AV := match k with | 0 => .int .i64 0 | 1 => lt .i64 8 1 4611686018427387904 | _ => lt .i64 8 (-4611686018427387904) (-1)
noncomputable abbrev bF (k : Nat) : AV := .agg [bN k, aD 9]
abbrev zF : AV := .agg [.int .i64 0, .int .i64 1]
abbrev oF : AV := .agg [.int .i64 1, .int .i64 1]
abbrev zR : AV := .agg [.int .i64 0, .int .i64 1, .int .i64 0]
noncomputable def R (c : Bool) (i : Nat) : AV := if c then .agg [aN i, aD (i + 1), .int .i64 0] else .agg [.int .i64 0, .int .i64 0, .int .i64 2]
abbrev F2 (x y v : AV) : Fct := ⟨[x, y], [], v, [], []⟩
noncomputable def cif (c : Bool) (F : Fct) : List Fct := if c then [F] else []
noncomputable def fieldFacts (k : Nat) (s t p q r L : Bool) : List (FuncId × List Fct) :=
  [(10, [⟨[], [], .bool true, [], []⟩]),
   (15, [F2 (xs 0) (xs 1) (fr 6), F2 (xs 2) (xs 3) (bF k), F2 (xs 4) (xs 5) (fr 10)]),
   (16, F2 (fr 6) (bF k) (R s 12) :: F2 (bF k) (fr 6) (R s 12) :: F2 (fr 6) zF (R true 6) :: F2 (bF k) (fr 10) (R t 16) :: (cif s (F2 (fr 12) (fr 10) (resA 18)) ++ (cif t (F2 (fr 6) (fr 16) (resA 18)) ++ cif (r && q) (F2 (fr 26) (fr 21) (R L 28))))),
   (18, F2 (fr 6) (fr 6) zR :: cif s (F2 (fr 12) (bF k) (R true 6))),
   (20, F2 (fr 6) (bF k) (R p 14) :: F2 (bF k) (fr 6) (R p 14) :: F2 (fr 6) oF (R true 6) :: F2 (fr 6) zF zR :: F2 (bF k) (fr 10) (R q 21) :: F2 (fr 6) (fr 10) (R r 26) :: (cif p (F2 (fr 14) (fr 10) (resA 23)) ++ (cif q (F2 (fr 6) (fr 21) (resA 23)) ++ cif s (F2 (fr 12) (fr 10) (R L 28))))),
   (22, cif (p && !(k == 0)) (F2 (fr 14) (bF k) (R true 6)))]
noncomputable def bools : List Bool := [true, false]
noncomputable def runOf (k : Nat) (s t : Bool) : Bool := bools.all fun p => bools.all fun q => bools.all fun r => bools.all fun L => okRun Try.prog (orcOf (fieldFacts k s t p q r L)) 4 [xp 0, xp 2, xp 4] (.bool true)

end Go.Proofs.Ytieabeodommbiaa
