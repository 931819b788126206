/- Contracts of package rat, evaluated with letters: Make, Mul, Add. -/
import Derived.Test.YtieabeodommbiaaRe
namespace Go.Proofs.Ytieabeodommbiaa
open Go.RowKit (Below)
open Go.Ev

def gcdF (X Y G : AV) : Fct := { args := [.slice 0 0 2 2 true 1], old := [{ elem := 65, cells := [X, Y], ro := true }], v := G, sel := [], new := [] }

theorem gcd_fct [Rho] {X Y G : AV} {x y : Int} (hg : (gcdF X Y G).good = true) (hX : X.lone = true) (hY : Y.lone = true) (hG : G.flat = true) (hGf : G.fine) (eX : X.vl0 = .int .u64 x) (eY : Y.vl0 = .int .u64 y) (eG : G.vl = .int .u64 (gcdI x y))
    (bx : 0 ≤ x ∧ x < 18446744073709551616) (bY : 0 ≤ y ∧ y < 18446744073709551616) : (gcdF X Y G).Holds Try.prog 62 := by
  refine fct_of rfl rfl hg hG hGf body62 (fun π w vs hw hl => ?_)
  obtain ⟨b, n, c, fz, k1, k2, k3, _, k5⟩ := hw.blk 0 { elem := 65, cells := [X, Y], ro := true } rfl
  obtain ⟨v0, ws, e1, r0, t0⟩ := hl.uncons
  have := t0.nil_inv
  subst this
  have hvs : vs = #[v0] := by apply Array.ext'; exact e1
  subst hvs
  cases r0 with
  | sliceEx hp =>
    rename_i b' n'
    rw [k1] at hp
    obtain ⟨rfl, rfl⟩ := Prod.mk.inj (Option.some.inj hp)
    obtain ⟨c0, ws1, f1, g0, t1⟩ := k5.1.uncons
    obtain ⟨c1, ws2, f2, g1, t2⟩ := t1.uncons
    have hc0 : c[0]? = some (.int .u64 x) := by
      have f1' : c.toList.take 2 = c0 :: ws1 := f1
      have : (c.toList.take 2)[0]? = some c0 := by rw [f1']; rfl
      rw [List.getElem?_take, if_pos (by omega), Array.getElem?_toList] at this
      rw [this, vl0_eq hX g0, eX]
    have hc1 : c[1]? = some (.int .u64 y) := by
      have f1' : c.toList.take 2 = c0 :: ws1 := f1
      have : (c.toList.take 2)[1]? = some c1 := by rw [f1', f2]; rfl
      rw [List.getElem?_take, if_pos (by omega), Array.getElem?_toList] at this
      rw [this, vl0_eq hY g1, eY]
    have eG' : (gcdF X Y G).v.vl = .int .u64 (gcdI x y) := eG
    rw [eG']
    exact gcd_c x y bx bY b 0 w (by rw [cell_of k2]; exact hc0) (by rw [cell_of k2]; exact hc1)

theorem gcdI_bd (x y : Int) (m : Int) (hx : 0 ≤ x ∧ x ≤ m) (hy : 0 ≤ y ∧ y ≤ m) (hm : 1 ≤ m) : 1 ≤ gcdI x y ∧ gcdI x y ≤ m := by
  unfold gcdI
  have : (Int.gcd x y : Int) ≤ m := by
    by_cases h : x = 0
    · subst h; simp; omega
    · have := Int.gcd_le_natAbs_left y h
      omega
  omega

theorem quo_bd (x g m : Int) (hx : 0 ≤ x ∧ x ≤ m) (hg : 1 ≤ g) : 0 ≤ x.tdiv g ∧ x.tdiv g ≤ m := by
  have h1 := Int.ediv_nonneg hx.1 (show 0 ≤ g by omega)
  have h2 := Int.ediv_le_self g hx.1
  rw [Int.tdiv_eq_ediv_of_nonneg hx.1]
  omega

theorem fE_zero {n d : Int} (h : fE n d = 0) : d ≠ 0 ∧ n ≤ 4611686018427387904 ∧ d ≤ 4611686018427387904 := by
  unfold fE at h
  by_cases h1 : d = 0
  · rw [if_pos h1] at h; omega
  · rw [if_neg h1] at h
    by_cases h2 : n ≤ 4611686018427387904 ∧ d ≤ 4611686018427387904
    · exact ⟨h1, h2⟩
    · rw [if_neg h2] at h; omega
theorem fN_bd (neg : Bool) (n d : Int) (h : 0 ≤ n) : -4611686018427387904 ≤ fN neg n d ∧ fN neg n d ≤ 4611686018427387904 := by
  unfold fN
  by_cases h1 : fE n d = 0
  · rw [if_pos h1]
    obtain ⟨_, h2, _⟩ := fE_zero h1
    split <;> omega
  · rw [if_neg h1]; omega
theorem fD_bd (n d : Int) (h : 0 ≤ d) : 0 ≤ fD n d ∧ fD n d ≤ 4611686018427387904 := by
  unfold fD
  by_cases h1 : fE n d = 0
  · rw [if_pos h1]
    obtain ⟨_, _, h2⟩ := fE_zero h1
    omega
  · rw [if_neg h1]; omega
theorem fE_bd (n d : Int) : 0 ≤ fE n d ∧ fE n d ≤ 3 := by unfold fE; split <;> (try split) <;> omega

/-! ### Make -/
abbrev mS (i : Nat) : AV := lt .u64 i 0 9223372036854775808
abbrev mG : AV := lt .u64 4 1 9223372036854775808
abbrev mQ (i : Nat) : AV := .sym .u64 (.bin .quo (.var i 0 9223372036854775808) (.var 4 1 9223372036854775808)) 0 9223372036854775808
abbrev mN (neg : Bool) (i : Nat) : AV := if neg then lt .i64 i (-9223372036854775808) (-1) else lt .i64 i 0 9223372036854775807
abbrev mR (i : Nat) : AV := .tup [.agg [lt .i64 i (-4611686018427387904) 4611686018427387904, lt .i64 (i + 1) 0 4611686018427387904], lt .i64 (i + 2) 0 3]
def mkFacts (a b : Bool) : List (FuncId × List Fct) :=
  [(53, [⟨[mN a 0], [], mS 2, [], []⟩, ⟨[mN b 1], [], mS 3, [], []⟩]), (62, [gcdF (mS 2) (mS 3) mG]), (63, [⟨[.bool (a != b), .agg [.int .u64 0, mQ 2], .agg [.int .u64 0, mQ 3]], [], mR 5, [], []⟩])]
theorem mk_run : [true, false].all (fun a => [true, false].all fun b => okRun Try.prog (orcOf (mkFacts a b)) 38 [mN a 0, mN b 1] (mR 5)) = true := by kernel_rfl

def sgn (a b : Int) : Bool := decide (a < 0) != decide (b < 0)
abbrev mkn (n d : Int) : Int := (absI n).tdiv (gcdI (absI n) (absI d))
abbrev mkd (n d : Int) : Int := (absI d).tdiv (gcdI (absI n) (absI d))

theorem make_c (n d : Int) (hn : -9223372036854775808 ≤ n ∧ n ≤ 9223372036854775807) (hd : -9223372036854775808 ≤ d ∧ d ≤ 9223372036854775807) (w : World) :
    Calls Try.prog 38 #[.int .i64 n, .int .i64 d] w fun e w' =>
      e = .returned (.tuple #[.agg #[.int .i64 (fN (sgn n d) (mkn n d) (mkd n d)), .int .i64 (fD (mkn n d) (mkd n d))], .int .i64 (fE (mkn n d) (mkd n d))]) ∧ Below w.heap.size w w' := by
  have an : 0 ≤ absI n ∧ absI n ≤ 9223372036854775808 := by unfold absI; split <;> omega
  have ad : 0 ≤ absI d ∧ absI d ≤ 9223372036854775808 := by unfold absI; split <;> omega
  have hg := gcdI_bd (absI n) (absI d) 9223372036854775808 an ad (by omega)
  obtain ⟨q2, q3⟩ := quo_bd (absI n) (gcdI (absI n) (absI d)) _ an hg.1
  obtain ⟨r2, r3⟩ := quo_bd (absI d) (gcdI (absI n) (absI d)) _ ad hg.1
  letI := rho [n, d, absI n, absI d, gcdI (absI n) (absI d), fN (sgn n d) (mkn n d) (mkd n d), fD (mkn n d) (mkd n d), fE (mkn n d) (mkd n d)]
  have hrun := mk_run
  simp only [List.all_eq_true] at hrun
  have nf : (mN (decide (n < 0)) 0).fine1 := by
    by_cases h : n < 0
    · rw [show decide (n < 0) = true by simpa using h]; exact lt1 (show _ ≤ n ∧ n ≤ _ by omega)
    · rw [show decide (n < 0) = false by simpa using h]; exact lt1 (show _ ≤ n ∧ n ≤ _ by omega)
  have df : (mN (decide (d < 0)) 1).fine1 := by
    by_cases h : d < 0
    · rw [show decide (d < 0) = true by simpa using h]; exact lt1 (show _ ≤ d ∧ d ≤ _ by omega)
    · rw [show decide (d < 0) = false by simpa using h]; exact lt1 (show _ ≤ d ∧ d ≤ _ by omega)
  have nv : ∀ b, (mN b 0).vl1 = .int .i64 n := fun b => by cases b <;> rfl
  have dv : ∀ b, (mN b 1).vl1 = .int .i64 d := fun b => by cases b <;> rfl
  have flat : ∀ b i, (mN b i).flat1 = true := fun b i => by cases b <;> rfl
  have s1 : ∀ b, (Fct.mk [mN b 0] [] (mS 2) [] []).Holds Try.prog 53 := fun b => fct_flat (by cases b <;> rfl) (by cases b <;> rfl) rfl (ltv an) body53 (fun w => by
    have := sizeB n hn.1 hn.2 w
    simp only [List.map_cons, List.map_nil, nv]
    exact this)
  have s2 : ∀ b, (Fct.mk [mN b 1] [] (mS 3) [] []).Holds Try.prog 53 := fun b => fct_flat (by cases b <;> rfl) (by cases b <;> rfl) rfl (ltv ad) body53 (fun w => by
    have := sizeB d hd.1 hd.2 w
    simp only [List.map_cons, List.map_nil, dv]
    exact this)
  have s3 : (gcdF (mS 2) (mS 3) mG).Holds Try.prog 62 := gcd_fct (x := absI n) (y := absI d) rfl rfl rfl rfl (ltv hg) rfl rfl rfl (by omega) (by omega)
  have s4 : (Fct.mk [.bool (decide (n < 0) != decide (d < 0)), .agg [.int .u64 0, mQ 2], .agg [.int .u64 0, mQ 3]] [] (mR 5) [] []).Holds Try.prog 63 :=
    fct_flat rfl rfl rfl ⟨⟨ltf (fN_bd _ _ _ q2), ltf (fD_bd _ _ r2), trivial⟩, lt1 (fE_bd _ _), trivial⟩ body63 (fun w => by
      have := frac_c (sgn n d) 0 (mkn n d) 0 (mkd n d) (by omega) ⟨q2, Int.le_trans q3 (by omega)⟩ (by omega) ⟨r2, Int.le_trans r3 (by omega)⟩ w
      simp only [Int.zero_mul, Int.zero_add] at this
      exact this)
  have := run_open fit (orcOf_ok (L := mkFacts (decide (n < 0)) (decide (d < 0))) ⟨two (s1 _) (one (s2 _)), one s3, one s4, trivial⟩) (hrun _ (by cases decide (n < 0) <;> simp) _ (by cases decide (d < 0) <;> simp)) ⟨nf, df, trivial⟩ w
  simp only [List.map_cons, List.map_nil, nv, dv] at this
  exact this

/-! ### Mul -/
abbrev nS (i : Nat) : AV := lt .u64 i 0 4611686018427387904
abbrev nP (i : Nat) : AV := lt .u64 i 1 4611686018427387904
abbrev nQ (i j : Nat) : AV := .sym .u64 (.bin .quo (.var i 0 4611686018427387904) (.var j 1 4611686018427387904)) 0 4611686018427387904
abbrev nN (neg : Bool) (i : Nat) : AV := if neg then lt .i64 i (-4611686018427387904) (-1) else lt .i64 i 0 4611686018427387904
abbrev nD (i : Nat) : AV := lt .i64 i 0 4611686018427387904
def muFacts (a b : Bool) : List (FuncId × List Fct) :=
  [(53, [⟨[nN a 0], [], nS 4, [], []⟩, ⟨[nN b 2], [], nS 5, [], []⟩, ⟨[nD 1], [], nS 1, [], []⟩, ⟨[nD 3], [], nS 3, [], []⟩]), (62, [gcdF (nS 4) (nS 3) (nP 6), gcdF (nS 5) (nS 1) (nP 7)]),
   (66, [⟨[nQ 4 6, nQ 5 7], [], .agg [U 8, U 9], [], []⟩, ⟨[nQ 1 7, nQ 3 6], [], .agg [U 10, U 11], [], []⟩]), (63, [⟨[.bool (a != b), .agg [U 8, U 9], .agg [U 10, U 11]], [], mR 12, [], []⟩])]
theorem mu_run : [true, false].all (fun a => [true, false].all fun b => okRun Try.prog (orcOf (muFacts a b)) 50 [.agg [nN a 0, nD 1], .agg [nN b 2, nD 3]] (mR 12)) = true := by kernel_rfl

/-- numerator and denominator of a product -/
def muN (a b c d : Int) : Int := (absI a).tdiv (gcdI (absI a) d) * (absI c).tdiv (gcdI (absI c) b)
def muD (a b c d : Int) : Int := b.tdiv (gcdI (absI c) b) * d.tdiv (gcdI (absI a) d)

theorem mul_c (a b c d : Int) (ha : -4611686018427387904 ≤ a ∧ a ≤ 4611686018427387904) (hb : 0 ≤ b ∧ b ≤ 4611686018427387904) (hc : -4611686018427387904 ≤ c ∧ c ≤ 4611686018427387904) (hd : 0 ≤ d ∧ d ≤ 4611686018427387904) (w : World) :
    Calls Try.prog 50 #[.agg #[.int .i64 a, .int .i64 b], .agg #[.int .i64 c, .int .i64 d]] w fun e w' =>
      e = .returned (.tuple #[.agg #[.int .i64 (fN (sgn a c) (muN a b c d) (muD a b c d)), .int .i64 (fD (muN a b c d) (muD a b c d))], .int .i64 (fE (muN a b c d) (muD a b c d))]) ∧ Below w.heap.size w w' := by
  have aa := absI_bd a ha
  have ac := absI_bd c hc
  have h6 := gcdI_bd (absI a) d 4611686018427387904 aa hd (by omega)
  have h7 := gcdI_bd (absI c) b 4611686018427387904 ac hb (by omega)
  have q1 := quo_bd (absI a) (gcdI (absI a) d) _ aa h6.1
  have q2 := quo_bd (absI c) (gcdI (absI c) b) _ ac h7.1
  have q3 := quo_bd b (gcdI (absI c) b) _ hb h7.1
  have q4 := quo_bd d (gcdI (absI a) d) _ hd h6.1
  have pn : 0 ≤ muN a b c d ∧ muN a b c d ≤ 21267647932558653966460912964485513216 := prod_bd _ _ q1 q2
  have pd : 0 ≤ muD a b c d ∧ muD a b c d ≤ 21267647932558653966460912964485513216 := prod_bd _ _ q3 q4
  letI := rho [a, b, c, d, absI a, absI c, gcdI (absI a) d, gcdI (absI c) b, hiW (muN a b c d), loW (muN a b c d), hiW (muD a b c d), loW (muD a b c d), fN (sgn a c) (muN a b c d) (muD a b c d), fD (muN a b c d) (muD a b c d), fE (muN a b c d) (muD a b c d)]
  have hrun := mu_run
  simp only [List.all_eq_true] at hrun
  have af : (nN (decide (a < 0)) 0).fine0 := by
    by_cases h : a < 0
    · rw [show decide (a < 0) = true by simpa using h]; exact ltf (show _ ≤ a ∧ a ≤ _ by omega)
    · rw [show decide (a < 0) = false by simpa using h]; exact ltf (show _ ≤ a ∧ a ≤ _ by omega)
  have cf : (nN (decide (c < 0)) 2).fine0 := by
    by_cases h : c < 0
    · rw [show decide (c < 0) = true by simpa using h]; exact ltf (show _ ≤ c ∧ c ≤ _ by omega)
    · rw [show decide (c < 0) = false by simpa using h]; exact ltf (show _ ≤ c ∧ c ≤ _ by omega)
  have nv : ∀ b, (nN b 0).vl0 = .int .i64 a := fun b => by cases b <;> rfl
  have dv : ∀ b, (nN b 2).vl0 = .int .i64 c := fun b => by cases b <;> rfl
  have nv1 : ∀ b, (nN b 0).vl1 = .int .i64 a := fun b => by cases b <;> rfl
  have dv1 : ∀ b, (nN b 2).vl1 = .int .i64 c := fun b => by cases b <;> rfl
  have s1 : ∀ b, (Fct.mk [nN b 0] [] (nS 4) [] []).Holds Try.prog 53 := fun b => fct_flat (by cases b <;> rfl) (by cases b <;> rfl) rfl (ltv aa) body53 (fun w => by
    have := sizeB a (by omega) (by omega) w
    simp only [List.map_cons, List.map_nil, nv1]
    exact this)
  have s2 : ∀ b, (Fct.mk [nN b 2] [] (nS 5) [] []).Holds Try.prog 53 := fun b => fct_flat (by cases b <;> rfl) (by cases b <;> rfl) rfl (ltv ac) body53 (fun w => by
    have := sizeB c (by omega) (by omega) w
    simp only [List.map_cons, List.map_nil, dv1]
    exact this)
  have s3 : (Fct.mk [nD 1] [] (nS 1) [] []).Holds Try.prog 53 := fct_flat rfl rfl rfl (ltv hb) body53 (fun w => by
    have := sizeB b (by omega) (by omega) w
    rw [show absI b = b by unfold absI; rw [if_neg (by omega)]] at this
    exact this)
  have s4 : (Fct.mk [nD 3] [] (nS 3) [] []).Holds Try.prog 53 := fct_flat rfl rfl rfl (ltv hd) body53 (fun w => by
    have := sizeB d (by omega) (by omega) w
    rw [show absI d = d by unfold absI; rw [if_neg (by omega)]] at this
    exact this)
  have g1 : (gcdF (nS 4) (nS 3) (nP 6)).Holds Try.prog 62 := gcd_fct (x := absI a) (y := d) rfl rfl rfl rfl (ltv h6) rfl rfl rfl (by omega) (by omega)
  have g2 : (gcdF (nS 5) (nS 1) (nP 7)).Holds Try.prog 62 := gcd_fct (x := absI c) (y := b) rfl rfl rfl rfl (ltv h7) rfl rfl rfl (by omega) (by omega)
  have p1 : (Fct.mk [nQ 4 6, nQ 5 7] [] (.agg [U 8, U 9]) [] []).Holds Try.prog 66 := fct_flat rfl rfl rfl ⟨ltf (hi_bd _ (by omega)), ltf (lo_bd _), trivial⟩ body66 (fun w => product_c _ _ q1.1 (by have := q1.2; omega) q2.1 (by have := q2.2; omega) w)
  have p2 : (Fct.mk [nQ 1 7, nQ 3 6] [] (.agg [U 10, U 11]) [] []).Holds Try.prog 66 := fct_flat rfl rfl rfl ⟨ltf (hi_bd _ (by omega)), ltf (lo_bd _), trivial⟩ body66 (fun w => product_c _ _ q3.1 (by have := q3.2; omega) q4.1 (by have := q4.2; omega) w)
  have fr : (Fct.mk [.bool (decide (a < 0) != decide (c < 0)), .agg [U 8, U 9], .agg [U 10, U 11]] [] (mR 12) [] []).Holds Try.prog 63 :=
    fct_flat rfl rfl rfl ⟨⟨ltf (fN_bd _ _ _ pn.1), ltf (fD_bd _ _ pd.1), trivial⟩, lt1 (fE_bd _ _), trivial⟩ body63 (fun w => by
      have := frac_c (sgn a c) (hiW (muN a b c d)) (loW (muN a b c d)) (hiW (muD a b c d)) (loW (muD a b c d)) (hi_bd _ (by omega)) (lo_bd _) (hi_bd _ (by omega)) (lo_bd _) w
      rw [hl, hl] at this
      exact this)
  have := run_open fit (orcOf_ok (L := muFacts (decide (a < 0)) (decide (c < 0))) ⟨two (s1 _) (two (s2 _) (two s3 (one s4))), two g1 (one g2), two p1 (one p2), one fr, trivial⟩) (hrun _ (by cases decide (a < 0) <;> simp) _ (by cases decide (c < 0) <;> simp)) ⟨⟨af, ltf hb, trivial⟩, ⟨cf, ltf hd, trivial⟩, trivial⟩ w
  simp only [List.map_cons, List.map_nil, AV.vl1, nv, dv] at this
  exact this

/-! ### Add -/
abbrev aN (i : Nat) : AV := lt .i64 i (-4611686018427387904) 4611686018427387904
abbrev aD (i : Nat) : AV := lt .i64 i 1 4611686018427387904
abbrev aQ (i j : Nat) : AV := .sym .u64 (.bin .quo (.var i 1 4611686018427387904) (.var j 1 4611686018427387904)) 0 4611686018427387904
def adFacts (neg : Bool) : List (FuncId × List Fct) :=
  [(53, [⟨[aD 1], [], nP 1, [], []⟩, ⟨[aD 3], [], nP 3, [], []⟩]), (62, [gcdF (nP 1) (nP 3) (nP 4), gcdF (nP 4) (U 15) (nP 16)]),
   (52, [⟨[aN 0, aQ 3 4], [], .agg [U 5, U 6], [], []⟩, ⟨[aN 2, aQ 1 4], [], .agg [U 7, U 8], [], []⟩]), (54, [⟨[.agg [U 5, U 6], .agg [U 7, U 8]], [], .agg [U 9, U 10], [], []⟩]),
   (64, [⟨[.agg [U 9, U 10]], [], .agg [U 11, U 12], [], []⟩]), (65, [⟨[.agg [U 11, U 12], nP 4], [], .tup [.agg [U 13, U 14], U 15], [], []⟩, ⟨[.agg [U 11, U 12], nP 16], [], .tup [.agg [U 17, U 18], U 19], [], []⟩]),
   (56, [⟨[.agg [U 9, U 10]], [], .bool neg, [], []⟩]), (66, [⟨[aQ 1 4, aQ 3 16], [], .agg [U 20, U 21], [], []⟩]), (63, [⟨[.bool neg, .agg [U 17, U 18], .agg [U 20, U 21]], [], mR 22, [], []⟩])]
theorem ad_run : [true, false].all (fun b => okRun Try.prog (orcOf (adFacts b)) 42 [.agg [aN 0, aD 1], .agg [aN 2, aD 3]] (mR 22)) = true := by kernel_rfl

end Go.Proofs.Ytieabeodommbiaa
