/- Contracts of package rat, evaluated with letters. -/
import Derived.Test.YtieabeodommbiaaRc
import Derived.Test.YtieabeodommbiaaEvNo
namespace Go.Proofs.Ytieabeodommbiaa
open Go.RowKit (Below)
open Go.Ev


/-- the numbers of the letters -/
abbrev rho (l : List Int) : Rho := ⟨fun i => l.getD i 0⟩

theorem fit : Fit Try.prog := letI := rho []; fit_of (by kernel_rfl)

abbrev top64 : Int := 18446744073709551615
abbrev top62 : Int := 4611686018427387904

/-- a letter -/
def lt (k : IntKind) (i : Nat) (lo hi : Int) : AV := .sym k (.var i lo hi) lo hi
abbrev U (i : Nat) : AV := lt .u64 i 0 18446744073709551615

theorem below_of {w w' : World} (h : w = w') : Below w.heap.size w w' := by subst h; exact Below.refl _ _

theorem sizeB (n : Int) (h0 : -9223372036854775808 ≤ n) (h1 : n ≤ 9223372036854775807) (w : World) :
    Calls Try.prog 53 #[.int .i64 n] w fun e w' => e = .returned (.int .u64 (absI n)) ∧ Below w.heap.size w w' :=
  (size_c n h0 h1 w).mono fun _ _ ⟨a, b⟩ => ⟨a, below_of b⟩

section
variable [Rho]
theorem one {P : Program} {f : FuncId} {F : Fct} (h : F.Holds P f) : ∀ F' ∈ [F], F'.Holds P f := fun F' hF => by rw [List.mem_singleton] at hF; rw [hF]; exact h
theorem two {P : Program} {f : FuncId} {F : Fct} {l : List Fct} (h : F.Holds P f) (t : ∀ F' ∈ l, F'.Holds P f) : ∀ F' ∈ F :: l, F'.Holds P f := fun F' hF => by
  rcases List.mem_cons.1 hF with rfl | h1
  · exact h
  · exact t F' h1

theorem ltf {k : IntKind} {i : Nat} {lo hi : Int} (h : lo ≤ Rho.ρ i ∧ Rho.ρ i ≤ hi) : (lt k i lo hi).fine0 := ⟨h, h⟩
theorem lt1 {k : IntKind} {i : Nat} {lo hi : Int} (h : lo ≤ Rho.ρ i ∧ Rho.ρ i ≤ hi) : (lt k i lo hi).fine1 := ⟨h, h⟩
theorem ltv {k : IntKind} {i : Nat} {lo hi : Int} (h : lo ≤ Rho.ρ i ∧ Rho.ρ i ≤ hi) : (lt k i lo hi).fine := ⟨h, h⟩
end

theorem hi_bd (V : Int) (h : 0 ≤ V ∧ V < 340282366920938463463374607431768211456) : 0 ≤ hiW V ∧ hiW V ≤ 18446744073709551615 := by unfold hiW; omega
theorem lo_bd (V : Int) : 0 ≤ loW V ∧ loW V ≤ 18446744073709551615 := by unfold loW; omega
theorem hl (V : Int) : hiW V * 18446744073709551616 + loW V = V := by unfold hiW loW; omega
theorem absI_bd (a : Int) (h : -4611686018427387904 ≤ a ∧ a ≤ 4611686018427387904) : 0 ≤ absI a ∧ absI a ≤ 4611686018427387904 := by unfold absI; split <;> omega
theorem prod_bd (a b : Int) (ha : 0 ≤ a ∧ a ≤ 4611686018427387904) (hb : 0 ≤ b ∧ b ≤ 4611686018427387904) : 0 ≤ a * b ∧ a * b ≤ 21267647932558653966460912964485513216 :=
  ⟨Int.mul_nonneg ha.1 hb.1, by have := Int.mul_le_mul ha.2 hb.2 hb.1 (by omega); omega⟩

abbrev two128 : Int := 340282366920938463463374607431768211456

/-! ### signedProduct -/
def spFacts (neg : Bool) : List (FuncId × List Fct) :=
  let a := if neg then lt .i64 0 (-4611686018427387904) (-1) else lt .i64 0 0 4611686018427387904
  [(53, [⟨[a], [], lt .u64 2 0 4611686018427387904, [], []⟩]), (66, [⟨[lt .u64 2 0 4611686018427387904, lt .u64 1 0 4611686018427387904], [], .agg [U 3, U 4], [], []⟩]), (55, if neg then [⟨[.agg [U 3, U 4]], [], .agg [U 5, U 6], [], []⟩] else [])]

theorem sp_neg : okRun Try.prog (orcOf (spFacts true)) 52 [lt .i64 0 (-4611686018427387904) (-1), lt .u64 1 0 4611686018427387904] (.agg [U 5, U 6]) = true := by kernel_rfl
theorem sp_pos : okRun Try.prog (orcOf (spFacts false)) 52 [lt .i64 0 0 4611686018427387904, lt .u64 1 0 4611686018427387904] (.agg [U 3, U 4]) = true := by kernel_rfl

theorem body52 : hasBody Try.prog 52 = true := by kernel_rfl
theorem body53 : hasBody Try.prog 53 = true := by kernel_rfl
theorem body54 : hasBody Try.prog 54 = true := by kernel_rfl
theorem body55 : hasBody Try.prog 55 = true := by kernel_rfl
theorem body56 : hasBody Try.prog 56 = true := by kernel_rfl
theorem body57 : hasBody Try.prog 57 = true := by kernel_rfl
theorem body62 : hasBody Try.prog 62 = true := by kernel_rfl
theorem body63 : hasBody Try.prog 63 = true := by kernel_rfl
theorem body64 : hasBody Try.prog 64 = true := by kernel_rfl
theorem body65 : hasBody Try.prog 65 = true := by kernel_rfl
theorem body66 : hasBody Try.prog 66 = true := by kernel_rfl
theorem body74 : hasBody Try.prog 74 = true := by kernel_rfl

theorem sp_c (a b : Int) (ha : -4611686018427387904 ≤ a ∧ a ≤ 4611686018427387904) (hb : 0 ≤ b ∧ b ≤ 4611686018427387904) (w : World) :
    Calls Try.prog 52 #[.int .i64 a, .int .u64 b] w fun e w' => e = .returned (.agg #[.int .u64 (hiW (a * b % 340282366920938463463374607431768211456)), .int .u64 (loW (a * b % 340282366920938463463374607431768211456))]) ∧ Below w.heap.size w w' := by
  have hA := absI_bd a ha
  have hP := prod_bd (absI a) b hA hb
  have h128 : 0 ≤ a * b % 340282366920938463463374607431768211456 ∧ a * b % 340282366920938463463374607431768211456 < 340282366920938463463374607431768211456 := by omega
  by_cases hn : a < 0
  · have eA : absI a * b = -(a * b) := by unfold absI; rw [if_pos hn, Int.neg_mul]
    letI := rho [a, b, absI a, hiW (absI a * b), loW (absI a * b), hiW (a * b % 340282366920938463463374607431768211456), loW (a * b % 340282366920938463463374607431768211456)]
    refine run_open fit (orcOf_ok (L := spFacts true) ⟨one ?_, one ?_, one ?_, trivial⟩) sp_neg ⟨lt1 (show _ ≤ a ∧ a ≤ _ by omega), lt1 hb, trivial⟩ w
    · exact fct_flat rfl rfl rfl (ltv hA) body53 (fun w => sizeB a (by omega) (by omega) w)
    · exact fct_flat rfl rfl rfl ⟨ltf (hi_bd _ (by omega)), ltf (lo_bd _), trivial⟩ body66 (fun w => product_c (absI a) b hA.1 (by omega) hb.1 (by omega) w)
    · refine fct_flat rfl rfl rfl ⟨ltf (hi_bd _ h128), ltf (lo_bd _), trivial⟩ body55 (fun w => minus_c (hiW (absI a * b)) (loW (absI a * b)) _ ?_ ?_ ?_ h128 w)
      · have := hi_bd (absI a * b) (by omega); omega
      · have := lo_bd (absI a * b); omega
      · rw [hl, eA]; exact ⟨a * b % 340282366920938463463374607431768211456 / 340282366920938463463374607431768211456 - a * b / 340282366920938463463374607431768211456, by omega⟩
  · have eA : absI a * b = a * b := by unfold absI; rw [if_neg hn]
    have eM : a * b % 340282366920938463463374607431768211456 = a * b := by rw [← eA]; omega
    rw [eM]
    rw [eA] at hP
    letI := rho [a, b, absI a, hiW (a * b), loW (a * b), 0, 0]
    refine run_open fit (orcOf_ok (L := spFacts false) ⟨one ?_, one ?_, ?_, trivial⟩) sp_pos ⟨lt1 (show _ ≤ a ∧ a ≤ _ by omega), lt1 hb, trivial⟩ w
    · exact fct_flat rfl rfl rfl (ltv hA) body53 (fun w => sizeB a (by omega) (by omega) w)
    · refine fct_flat rfl rfl rfl ⟨ltf (hi_bd _ (by omega)), ltf (lo_bd _), trivial⟩ body66 (fun w => ?_)
      have := product_c (absI a) b hA.1 (by omega) hb.1 (by omega) w
      rw [eA] at this
      exact this
    · intro F hF; cases hF

/-! ### absolute -/
def absW (V : Int) : Int := if V < 170141183460469231731687303715884105728 then V else 340282366920938463463374607431768211456 - V
def abFacts (neg : Bool) : List (FuncId × List Fct) := [(56, [⟨[.agg [U 0, U 1]], [], .bool neg, [], []⟩]), (55, if neg then [⟨[.agg [U 0, U 1]], [], .agg [U 2, U 3], [], []⟩] else [])]
theorem ab_neg : okRun Try.prog (orcOf (abFacts true)) 64 [.agg [U 0, U 1]] (.agg [U 2, U 3]) = true := by kernel_rfl
theorem ab_pos : okRun Try.prog (orcOf (abFacts false)) 64 [.agg [U 0, U 1]] (.agg [U 0, U 1]) = true := by kernel_rfl

theorem neg_c (V : Int) (h : 0 ≤ V ∧ V < 340282366920938463463374607431768211456) (w : World) :
    Calls Try.prog 56 #[.agg #[.int .u64 (hiW V), .int .u64 (loW V)]] w fun e w' => e = .returned (.bool (decide (170141183460469231731687303715884105728 ≤ V))) ∧ Below w.heap.size w w' := by
  have e : decide (170141183460469231731687303715884105728 ≤ V) = decide (9223372036854775808 ≤ hiW V) := by
    rw [Bool.eq_iff_iff]; simp only [decide_eq_true_eq]; unfold hiW; omega
  rw [e]
  exact negative_c _ _ (hi_bd V h).1 (by have := (hi_bd V h).2; omega) w

theorem abs_c (V : Int) (h : 0 ≤ V ∧ V < 340282366920938463463374607431768211456) (w : World) :
    Calls Try.prog 64 #[.agg #[.int .u64 (hiW V), .int .u64 (loW V)]] w fun e w' => e = .returned (.agg #[.int .u64 (hiW (absW V)), .int .u64 (loW (absW V))]) ∧ Below w.heap.size w w' := by
  by_cases c : V < 170141183460469231731687303715884105728
  · have e : absW V = V := by unfold absW; rw [if_pos c]
    rw [e]
    letI := rho [hiW V, loW V]
    refine run_open fit (orcOf_ok (L := abFacts false) ⟨one ?_, ?_, trivial⟩) ab_pos ⟨⟨ltf (hi_bd V h), ltf (lo_bd V), trivial⟩, trivial⟩ w
    · refine fct_flat rfl rfl rfl trivial body56 (fun w => ?_)
      have := neg_c V h w
      rw [show decide (170141183460469231731687303715884105728 ≤ V) = false by simp; omega] at this
      exact this
    · intro F hF; cases hF
  · have e : absW V = 340282366920938463463374607431768211456 - V := by unfold absW; rw [if_neg c]
    rw [e]
    have hb : 0 ≤ 340282366920938463463374607431768211456 - V ∧ 340282366920938463463374607431768211456 - V < 340282366920938463463374607431768211456 := by omega
    letI := rho [hiW V, loW V, hiW (340282366920938463463374607431768211456 - V), loW (340282366920938463463374607431768211456 - V)]
    refine run_open fit (orcOf_ok (L := abFacts true) ⟨one ?_, one ?_, trivial⟩) ab_neg ⟨⟨ltf (hi_bd V h), ltf (lo_bd V), trivial⟩, trivial⟩ w
    · refine fct_flat rfl rfl rfl trivial body56 (fun w => ?_)
      have := neg_c V h w
      rw [show decide (170141183460469231731687303715884105728 ≤ V) = true by simp; omega] at this
      exact this
    · refine fct_flat rfl rfl rfl ⟨ltf (hi_bd _ hb), ltf (lo_bd _), trivial⟩ body55 (fun w => minus_c (hiW V) (loW V) _ ?_ ?_ ?_ hb w)
      · have := hi_bd V h; omega
      · have := lo_bd V; omega
      · rw [hl]; exact ⟨1, by omega⟩

/-! ### fits -/
def fitsB (h l : Int) : Bool := decide (h = 0 ∧ l ≤ 4611686018427387904)
theorem fi_hi : okRun Try.prog noOrc 74 [.agg [lt .u64 0 1 18446744073709551615, U 1]] (.bool false) = true := by kernel_rfl
theorem fi_ok : okRun Try.prog noOrc 74 [.agg [.int .u64 0, lt .u64 1 0 4611686018427387904]] (.bool true) = true := by kernel_rfl
theorem fi_lo : okRun Try.prog noOrc 74 [.agg [.int .u64 0, lt .u64 1 4611686018427387905 18446744073709551615]] (.bool false) = true := by kernel_rfl

theorem fits_c (h l : Int) (h0 : 0 ≤ h ∧ h ≤ 18446744073709551615) (l0 : 0 ≤ l ∧ l ≤ 18446744073709551615) (w : World) :
    Calls Try.prog 74 #[.agg #[.int .u64 h, .int .u64 l]] w fun e w' => e = .returned (.bool (fitsB h l)) ∧ Below w.heap.size w w' := by
  letI := rho [h, l]
  by_cases c : h = 0
  · subst c
    by_cases d : l ≤ 4611686018427387904
    · rw [show fitsB 0 l = true by simp [fitsB, d]]
      exact run_open fit (noOrc_ok _) fi_ok ⟨⟨trivial, ltf (show _ ≤ l ∧ l ≤ _ by omega), trivial⟩, trivial⟩ w
    · rw [show fitsB 0 l = false by simp [fitsB, d]]
      exact run_open fit (noOrc_ok _) fi_lo ⟨⟨trivial, ltf (show _ ≤ l ∧ l ≤ _ by omega), trivial⟩, trivial⟩ w
  · rw [show fitsB h l = false by simp [fitsB, c]]
    exact run_open fit (noOrc_ok _) fi_hi ⟨⟨ltf (show _ ≤ h ∧ h ≤ _ by omega), ltf l0, trivial⟩, trivial⟩ w

/-! ### fraction -/
def fE (n d : Int) : Int := if d = 0 then 3 else if n ≤ 4611686018427387904 ∧ d ≤ 4611686018427387904 then 0 else 2
def fN (neg : Bool) (n d : Int) : Int := if fE n d = 0 then (if neg then -n else n) else 0
def fD (n d : Int) : Int := if fE n d = 0 then d else 0
abbrev D1 : AV := .agg [lt .u64 2 1 18446744073709551615, U 3]
abbrev D2 : AV := .agg [.int .u64 0, lt .u64 3 1 18446744073709551615]
def frFacts (D : AV) (x y : Bool) : List (FuncId × List Fct) := [(74, [⟨[.agg [U 0, U 1]], [], .bool x, [], []⟩, ⟨[D], [], .bool y, [], []⟩])]
def frOk : List (FuncId × List Fct) := [(74, [⟨[.agg [.int .u64 0, lt .u64 1 0 4611686018427387904]], [], .bool true, [], []⟩, ⟨[.agg [.int .u64 0, lt .u64 3 1 4611686018427387904]], [], .bool true, [], []⟩])]
abbrev zeroR (e : Int) : AV := .tup [.agg [.int .i64 0, .int .i64 0], .int .i64 e]
theorem fr_zero : [true, false].all (fun b => okRun Try.prog noOrc 63 [.bool b, .agg [U 0, U 1], .agg [.int .u64 0, .int .u64 0]] (zeroR 3)) = true := by kernel_rfl
theorem fr_big : [D1, D2].all (fun D => [(false, true), (false, false), (true, false)].all fun xy => [true, false].all fun b => okRun Try.prog (orcOf (frFacts D xy.1 xy.2)) 63 [.bool b, .agg [U 0, U 1], D] (zeroR 2)) = true := by kernel_rfl
theorem fr_pos : okRun Try.prog (orcOf frOk) 63 [.bool false, .agg [.int .u64 0, lt .u64 1 0 4611686018427387904], .agg [.int .u64 0, lt .u64 3 1 4611686018427387904]]
    (.tup [.agg [.sym .i64 (.var 1 0 4611686018427387904) 0 4611686018427387904, .sym .i64 (.var 3 1 4611686018427387904) 1 4611686018427387904], .int .i64 0]) = true := by kernel_rfl
theorem fr_neg : okRun Try.prog (orcOf frOk) 63 [.bool true, .agg [.int .u64 0, lt .u64 1 0 4611686018427387904], .agg [.int .u64 0, lt .u64 3 1 4611686018427387904]]
    (.tup [.agg [.sym .i64 (.bin .sub (.lit 0) (.var 1 0 4611686018427387904)) (-4611686018427387904) 0, .sym .i64 (.var 3 1 4611686018427387904) 1 4611686018427387904], .int .i64 0]) = true := by kernel_rfl

theorem frac_c (neg : Bool) (nh nl dh dl : Int) (a0 : 0 ≤ nh ∧ nh ≤ 18446744073709551615) (a1 : 0 ≤ nl ∧ nl ≤ 18446744073709551615) (a2 : 0 ≤ dh ∧ dh ≤ 18446744073709551615) (a3 : 0 ≤ dl ∧ dl ≤ 18446744073709551615) (w : World) :
    Calls Try.prog 63 #[.bool neg, .agg #[.int .u64 nh, .int .u64 nl], .agg #[.int .u64 dh, .int .u64 dl]] w fun e w' =>
      e = .returned (.tuple #[.agg #[.int .i64 (fN neg (nh * 18446744073709551616 + nl) (dh * 18446744073709551616 + dl)), .int .i64 (fD (nh * 18446744073709551616 + nl) (dh * 18446744073709551616 + dl))], .int .i64 (fE (nh * 18446744073709551616 + nl) (dh * 18446744073709551616 + dl))]) ∧ Below w.heap.size w w' := by
  letI := rho [nh, nl, dh, dl]
  by_cases hz : dh * 18446744073709551616 + dl = 0
  · obtain rfl : dh = 0 := by omega
    obtain rfl : dl = 0 := by omega
    have h := fr_zero
    simp only [List.all_cons, List.all_nil, Bool.and_eq_true, Bool.and_true] at h
    have e : fE (nh * 18446744073709551616 + nl) (0 * 18446744073709551616 + 0) = 3 := by simp [fE]
    rw [show fN neg (nh * 18446744073709551616 + nl) (0 * 18446744073709551616 + 0) = 0 by unfold fN; rw [e]; simp, show fD (nh * 18446744073709551616 + nl) (0 * 18446744073709551616 + 0) = 0 by unfold fD; rw [e]; simp, e]
    cases neg
    · exact run_open fit (noOrc_ok _) h.2 ⟨trivial, ⟨ltf a0, ltf a1, trivial⟩, ⟨trivial, trivial, trivial⟩, trivial⟩ w
    · exact run_open fit (noOrc_ok _) h.1 ⟨trivial, ⟨ltf a0, ltf a1, trivial⟩, ⟨trivial, trivial, trivial⟩, trivial⟩ w
  · by_cases hf : fitsB nh nl = true ∧ fitsB dh dl = true
    · simp only [fitsB, decide_eq_true_eq] at hf
      obtain ⟨⟨rfl, h2⟩, rfl, h4⟩ := hf
      have e : fE (0 * 18446744073709551616 + nl) (0 * 18446744073709551616 + dl) = 0 := by unfold fE; rw [if_neg hz, if_pos (by omega)]
      have e2 : fD (0 * 18446744073709551616 + nl) (0 * 18446744073709551616 + dl) = dl := by unfold fD; rw [if_pos e]; omega
      have f1 : (Fct.mk [.agg [.int .u64 0, lt .u64 1 0 4611686018427387904]] [] (.bool true) [] []).Holds Try.prog 74 := fct_flat rfl rfl rfl trivial body74 (fun w => by
        have := fits_c 0 nl a0 a1 w
        rw [show fitsB 0 nl = true by simp [fitsB, h2]] at this
        exact this)
      have f2 : (Fct.mk [.agg [.int .u64 0, lt .u64 3 1 4611686018427387904]] [] (.bool true) [] []).Holds Try.prog 74 := fct_flat rfl rfl rfl trivial body74 (fun w => by
        have := fits_c 0 dl a2 a3 w
        rw [show fitsB 0 dl = true by simp [fitsB, h4]] at this
        exact this)
      rw [e, e2]
      cases neg
      · rw [show fN false (0 * 18446744073709551616 + nl) (0 * 18446744073709551616 + dl) = nl by unfold fN; rw [if_pos e]; simp]
        exact run_open fit (orcOf_ok (L := frOk) ⟨two f1 (one f2), trivial⟩) fr_pos ⟨trivial, ⟨trivial, ltf (show _ ≤ nl ∧ nl ≤ _ by omega), trivial⟩, ⟨trivial, ltf (show _ ≤ dl ∧ dl ≤ _ by omega), trivial⟩, trivial⟩ w
      · rw [show fN true (0 * 18446744073709551616 + nl) (0 * 18446744073709551616 + dl) = 0 - nl by unfold fN; rw [if_pos e]; simp]
        exact run_open fit (orcOf_ok (L := frOk) ⟨two f1 (one f2), trivial⟩) fr_neg ⟨trivial, ⟨trivial, ltf (show _ ≤ nl ∧ nl ≤ _ by omega), trivial⟩, ⟨trivial, ltf (show _ ≤ dl ∧ dl ≤ _ by omega), trivial⟩, trivial⟩ w
    · have e : fE (nh * 18446744073709551616 + nl) (dh * 18446744073709551616 + dl) = 2 := by
        unfold fE; rw [if_neg hz, if_neg (by simp only [fitsB, decide_eq_true_eq] at hf; omega)]
      rw [show fN neg (nh * 18446744073709551616 + nl) (dh * 18446744073709551616 + dl) = 0 by unfold fN; rw [e]; simp, show fD (nh * 18446744073709551616 + nl) (dh * 18446744073709551616 + dl) = 0 by unfold fD; rw [e]; simp, e]
      have h := fr_big
      simp only [List.all_eq_true] at h
      have hxy : (fitsB nh nl, fitsB dh dl) ∈ [(false, true), (false, false), (true, false)] := by
        cases h1 : fitsB nh nl <;> cases h2 : fitsB dh dl <;> simp_all
      have hb : neg ∈ [true, false] := by cases neg <;> simp
      have f1 : (Fct.mk [.agg [U 0, U 1]] [] (.bool (fitsB nh nl)) [] []).Holds Try.prog 74 := fct_flat rfl rfl rfl trivial body74 (fun w => fits_c nh nl a0 a1 w)
      by_cases hd : dh = 0
      · subst hd
        have f2 : (Fct.mk [D2] [] (.bool (fitsB 0 dl)) [] []).Holds Try.prog 74 := fct_flat rfl rfl rfl trivial body74 (fun w => fits_c 0 dl a2 a3 w)
        exact run_open fit (orcOf_ok (L := frFacts D2 (fitsB nh nl) (fitsB 0 dl)) ⟨two f1 (one f2), trivial⟩) (h D2 (by simp) _ hxy neg hb) ⟨trivial, ⟨ltf a0, ltf a1, trivial⟩, ⟨trivial, ltf (show _ ≤ dl ∧ dl ≤ _ by omega), trivial⟩, trivial⟩ w
      · have f2 : (Fct.mk [D1] [] (.bool (fitsB dh dl)) [] []).Holds Try.prog 74 := fct_flat rfl rfl rfl trivial body74 (fun w => fits_c dh dl a2 a3 w)
        exact run_open fit (orcOf_ok (L := frFacts D1 (fitsB nh nl) (fitsB dh dl)) ⟨two f1 (one f2), trivial⟩) (h D1 (by simp) _ hxy neg hb) ⟨trivial, ⟨ltf a0, ltf a1, trivial⟩, ⟨ltf (show _ ≤ dh ∧ dh ≤ _ by omega), ltf a3, trivial⟩, trivial⟩ w

end Go.Proofs.Ytieabeodommbiaa
