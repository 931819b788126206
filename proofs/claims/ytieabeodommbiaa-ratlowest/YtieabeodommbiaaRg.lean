/- Contracts of package rat, evaluated with letters: Add, and what is made of these. -/
import Derived.Test.YtieabeodommbiaaRf
namespace Go.Proofs.Ytieabeodommbiaa
open Go.RowKit (Below)
open Go.Ev

theorem body42 : hasBody Try.prog 42 = true := by kernel_rfl
theorem body50 : hasBody Try.prog 50 = true := by kernel_rfl

/-- the sum's numerator over the least common denominator; its size; what is taken out; numerator and denominator -/
def adS (a b c d : Int) : Int := a * d.tdiv (gcdI b d) + c * b.tdiv (gcdI b d)
def adG (a b c d : Int) : Int := gcdI (gcdI b d) (absI (adS a b c d) % gcdI b d)
def adN (a b c d : Int) : Int := absI (adS a b c d) / adG a b c d
def adD (a b c d : Int) : Int := b.tdiv (gcdI b d) * d.tdiv (adG a b c d)

theorem smul_bd (a b : Int) (ha : -4611686018427387904 ≤ a ∧ a ≤ 4611686018427387904) (hb : 0 ≤ b ∧ b ≤ 4611686018427387904) : -21267647932558653966460912964485513216 ≤ a * b ∧ a * b ≤ 21267647932558653966460912964485513216 := by
  have h1 := prod_bd (absI a) b (absI_bd a ha) hb
  unfold absI at h1
  by_cases h : a < 0
  · rw [if_pos h, Int.neg_mul] at h1; omega
  · rw [if_neg h] at h1; omega

theorem plus_any (V1 V2 V : Int) (hV : V = (V1 + V2) % 340282366920938463463374607431768211456) (w : World) :
    Calls Try.prog 54 #[.agg #[.int .u64 (hiW V1), .int .u64 (loW V1)], .agg #[.int .u64 (hiW V2), .int .u64 (loW V2)]] w fun e w' => e = .returned (.agg #[.int .u64 (hiW V), .int .u64 (loW V)]) ∧ Below w.heap.size w w' :=
  plus_c (hiW V1) (loW V1) (hiW V2) (loW V2) V (by have := lo_bd V1; omega) (by have := lo_bd V2; omega)
    ⟨-((V1 + V2) / 340282366920938463463374607431768211456), by have e1 := hl V1; have e2 := hl V2; omega⟩ (by omega) w

theorem div_any (V d : Int) (hV : 0 ≤ V ∧ V < 340282366920938463463374607431768211456) (hd : 1 ≤ d ∧ d ≤ 4611686018427387904) (w : World) :
    Calls Try.prog 65 #[.agg #[.int .u64 (hiW V), .int .u64 (loW V)], .int .u64 d] w fun e w' => e = .returned (.tuple #[.agg #[.int .u64 (hiW (V / d)), .int .u64 (loW (V / d))], .int .u64 (V % d)]) ∧ Below w.heap.size w w' := by
  have := divide_c (hiW V) (loW V) d (by have := hi_bd V hV; omega) (by have := lo_bd V; omega) (by omega) w
  rw [hl] at this
  exact this

theorem frac_any (neg : Bool) (n d : Int) (hn : 0 ≤ n ∧ n < 340282366920938463463374607431768211456) (hd : 0 ≤ d ∧ d < 340282366920938463463374607431768211456) (w : World) :
    Calls Try.prog 63 #[.bool neg, .agg #[.int .u64 (hiW n), .int .u64 (loW n)], .agg #[.int .u64 (hiW d), .int .u64 (loW d)]] w fun e w' =>
      e = .returned (.tuple #[.agg #[.int .i64 (fN neg n d), .int .i64 (fD n d)], .int .i64 (fE n d)]) ∧ Below w.heap.size w w' := by
  have := frac_c neg (hiW n) (loW n) (hiW d) (loW d) (hi_bd _ hn) (lo_bd _) (hi_bd _ hd) (lo_bd _) w
  rw [hl, hl] at this
  exact this

theorem add_c (a b c d : Int) (ha : -4611686018427387904 ≤ a ∧ a ≤ 4611686018427387904) (hb : 1 ≤ b ∧ b ≤ 4611686018427387904) (hc : -4611686018427387904 ≤ c ∧ c ≤ 4611686018427387904) (hd : 1 ≤ d ∧ d ≤ 4611686018427387904) (w : World) :
    Calls Try.prog 42 #[.agg #[.int .i64 a, .int .i64 b], .agg #[.int .i64 c, .int .i64 d]] w fun e w' =>
      e = .returned (.tuple #[.agg #[.int .i64 (fN (decide (adS a b c d < 0)) (adN a b c d) (adD a b c d)), .int .i64 (fD (adN a b c d) (adD a b c d))], .int .i64 (fE (adN a b c d) (adD a b c d))]) ∧ Below w.heap.size w w' := by
  have hg := gcdI_bd b d 4611686018427387904 (by omega) (by omega) (by omega)
  have qd := quo_bd d (gcdI b d) 4611686018427387904 (by omega) hg.1
  have qb := quo_bd b (gcdI b d) 4611686018427387904 (by omega) hg.1
  have x1 := smul_bd a (d.tdiv (gcdI b d)) ha qd
  have x2 := smul_bd c (b.tdiv (gcdI b d)) hc qb
  have hS : -42535295865117307932921825928971026432 ≤ adS a b c d ∧ adS a b c d ≤ 42535295865117307932921825928971026432 := by unfold adS; omega
  have hA : 0 ≤ absI (adS a b c d) ∧ absI (adS a b c d) ≤ 42535295865117307932921825928971026432 := by unfold absI; split <;> omega
  have hr0 := Int.emod_nonneg (absI (adS a b c d)) (show gcdI b d ≠ 0 by omega)
  have hr1 := Int.emod_lt_of_pos (absI (adS a b c d)) (show 0 < gcdI b d by omega)
  have hv : 1 ≤ adG a b c d ∧ adG a b c d ≤ 4611686018427387904 := gcdI_bd _ _ 4611686018427387904 (by omega) (by omega) (by omega)
  have qv := quo_bd d (adG a b c d) 4611686018427387904 (by omega) hv.1
  have pd : 0 ≤ adD a b c d ∧ adD a b c d ≤ 21267647932558653966460912964485513216 := prod_bd _ _ qb qv
  have dg0 := Int.ediv_nonneg hA.1 (show 0 ≤ gcdI b d by omega)
  have dg1 := Int.ediv_le_self (gcdI b d) hA.1
  have dv0 : 0 ≤ adN a b c d := Int.ediv_nonneg hA.1 (show 0 ≤ adG a b c d by omega)
  have dv1 : adN a b c d ≤ absI (adS a b c d) := Int.ediv_le_self (adG a b c d) hA.1
  have rv0 := Int.emod_nonneg (absI (adS a b c d)) (show adG a b c d ≠ 0 by omega)
  have rv1 := Int.emod_lt_of_pos (absI (adS a b c d)) (show 0 < adG a b c d by omega)
  have hW : 0 ≤ adS a b c d % 340282366920938463463374607431768211456 ∧ adS a b c d % 340282366920938463463374607431768211456 < 340282366920938463463374607431768211456 := by omega
  have hneg : decide (170141183460469231731687303715884105728 ≤ adS a b c d % 340282366920938463463374607431768211456) = decide (adS a b c d < 0) := by
    rw [Bool.eq_iff_iff]; simp only [decide_eq_true_eq]; omega
  have habs : absW (adS a b c d % 340282366920938463463374607431768211456) = absI (adS a b c d) := by
    unfold absW absI
    by_cases h : adS a b c d < 0
    · rw [if_neg (by omega), if_pos h]; omega
    · rw [if_pos (by omega), if_neg h]; omega
  letI := rho [a, b, c, d, gcdI b d, hiW (a * d.tdiv (gcdI b d) % 340282366920938463463374607431768211456), loW (a * d.tdiv (gcdI b d) % 340282366920938463463374607431768211456),
    hiW (c * b.tdiv (gcdI b d) % 340282366920938463463374607431768211456), loW (c * b.tdiv (gcdI b d) % 340282366920938463463374607431768211456),
    hiW (adS a b c d % 340282366920938463463374607431768211456), loW (adS a b c d % 340282366920938463463374607431768211456), hiW (absI (adS a b c d)), loW (absI (adS a b c d)),
    hiW (absI (adS a b c d) / gcdI b d), loW (absI (adS a b c d) / gcdI b d), absI (adS a b c d) % gcdI b d, adG a b c d, hiW (adN a b c d), loW (adN a b c d), absI (adS a b c d) % adG a b c d,
    hiW (adD a b c d), loW (adD a b c d), fN (decide (adS a b c d < 0)) (adN a b c d) (adD a b c d), fD (adN a b c d) (adD a b c d), fE (adN a b c d) (adD a b c d)]
  have hrun := ad_run
  simp only [List.all_eq_true] at hrun
  have f1 : (Fct.mk [aD 1] [] (nP 1) [] []).Holds Try.prog 53 := fct_flat rfl rfl rfl (ltv hb) body53 (fun w => by
    have := sizeB b (by omega) (by omega) w
    rw [show absI b = b by unfold absI; rw [if_neg (by omega)]] at this
    exact this)
  have f2 : (Fct.mk [aD 3] [] (nP 3) [] []).Holds Try.prog 53 := fct_flat rfl rfl rfl (ltv hd) body53 (fun w => by
    have := sizeB d (by omega) (by omega) w
    rw [show absI d = d by unfold absI; rw [if_neg (by omega)]] at this
    exact this)
  have g1 : (gcdF (nP 1) (nP 3) (nP 4)).Holds Try.prog 62 := gcd_fct (x := b) (y := d) rfl rfl rfl rfl (ltv hg) rfl rfl rfl (by omega) (by omega)
  have g2 : (gcdF (nP 4) (U 15) (nP 16)).Holds Try.prog 62 := gcd_fct (x := gcdI b d) (y := absI (adS a b c d) % gcdI b d) rfl rfl rfl rfl (ltv hv) rfl rfl rfl (by omega) (by omega)
  have p1 : (Fct.mk [aN 0, aQ 3 4] [] (.agg [U 5, U 6]) [] []).Holds Try.prog 52 := fct_flat rfl rfl rfl ⟨ltf (hi_bd _ (by omega)), ltf (lo_bd _), trivial⟩ body52 (fun w => sp_c a (d.tdiv (gcdI b d)) ha qd w)
  have p2 : (Fct.mk [aN 2, aQ 1 4] [] (.agg [U 7, U 8]) [] []).Holds Try.prog 52 := fct_flat rfl rfl rfl ⟨ltf (hi_bd _ (by omega)), ltf (lo_bd _), trivial⟩ body52 (fun w => sp_c c (b.tdiv (gcdI b d)) hc qb w)
  have pl : (Fct.mk [.agg [U 5, U 6], .agg [U 7, U 8]] [] (.agg [U 9, U 10]) [] []).Holds Try.prog 54 := fct_flat rfl rfl rfl ⟨ltf (hi_bd _ hW), ltf (lo_bd _), trivial⟩ body54 (fun w =>
    plus_any (a * d.tdiv (gcdI b d) % 340282366920938463463374607431768211456) (c * b.tdiv (gcdI b d) % 340282366920938463463374607431768211456) (adS a b c d % 340282366920938463463374607431768211456) (by unfold adS; omega) w)
  have ab : (Fct.mk [.agg [U 9, U 10]] [] (.agg [U 11, U 12]) [] []).Holds Try.prog 64 := fct_flat rfl rfl rfl ⟨ltf (hi_bd _ (by omega)), ltf (lo_bd _), trivial⟩ body64 (fun w => by
    have := abs_c (adS a b c d % 340282366920938463463374607431768211456) hW w
    rw [habs] at this
    exact this)
  have d1 : (Fct.mk [.agg [U 11, U 12], nP 4] [] (.tup [.agg [U 13, U 14], U 15]) [] []).Holds Try.prog 65 := fct_flat rfl rfl rfl ⟨⟨ltf (hi_bd _ (by omega)), ltf (lo_bd _), trivial⟩, lt1 (show _ ≤ absI (adS a b c d) % gcdI b d ∧ absI (adS a b c d) % gcdI b d ≤ _ by omega), trivial⟩ body65 (fun w =>
    div_any (absI (adS a b c d)) (gcdI b d) (by omega) hg w)
  have d2 : (Fct.mk [.agg [U 11, U 12], nP 16] [] (.tup [.agg [U 17, U 18], U 19]) [] []).Holds Try.prog 65 := fct_flat rfl rfl rfl ⟨⟨ltf (hi_bd _ (by omega)), ltf (lo_bd _), trivial⟩, lt1 (show _ ≤ absI (adS a b c d) % adG a b c d ∧ absI (adS a b c d) % adG a b c d ≤ _ by omega), trivial⟩ body65 (fun w =>
    div_any (absI (adS a b c d)) (adG a b c d) (by omega) hv w)
  have ng : (Fct.mk [.agg [U 9, U 10]] [] (.bool (decide (adS a b c d < 0))) [] []).Holds Try.prog 56 := fct_flat rfl rfl rfl trivial body56 (fun w => by
    have := neg_c (adS a b c d % 340282366920938463463374607431768211456) hW w
    rw [hneg] at this
    exact this)
  have pr : (Fct.mk [aQ 1 4, aQ 3 16] [] (.agg [U 20, U 21]) [] []).Holds Try.prog 66 := fct_flat rfl rfl rfl ⟨ltf (hi_bd _ (by omega)), ltf (lo_bd _), trivial⟩ body66 (fun w =>
    product_c (b.tdiv (gcdI b d)) (d.tdiv (adG a b c d)) qb.1 (by have := qb.2; omega) qv.1 (by have := qv.2; omega) w)
  have fr : (Fct.mk [.bool (decide (adS a b c d < 0)), .agg [U 17, U 18], .agg [U 20, U 21]] [] (mR 22) [] []).Holds Try.prog 63 :=
    fct_flat rfl rfl rfl ⟨⟨ltf (fN_bd _ _ _ dv0), ltf (fD_bd _ _ pd.1), trivial⟩, lt1 (fE_bd _ _), trivial⟩ body63 (fun w => frac_any (decide (adS a b c d < 0)) (adN a b c d) (adD a b c d) (by omega) (by omega) w)
  exact run_open fit (orcOf_ok (L := adFacts (decide (adS a b c d < 0))) ⟨two f1 (one f2), two g1 (one g2), two p1 (one p2), one pl, one ab, two d1 (one d2), one ng, one pr, one fr, trivial⟩) (hrun _ (by cases decide (adS a b c d < 0) <;> simp)) ⟨⟨ltf ha, ltf hb, trivial⟩, ⟨ltf hc, ltf hd, trivial⟩, trivial⟩ w

end Go.Proofs.Ytieabeodommbiaa
