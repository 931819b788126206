/- Contracts of package rat, evaluated with letters. -/
import Derived.Test.YtieabeodommbiaaRc
import Derived.Test.YtieabeodommbiaaEvNo
namespace Go.Proofs.Ytieabeodommbiaa
open Go.RowKit (Below)
open Go.Ev


/-- the numbers of the letters -/
abbrev rho (l : List Int) : Rho := ⟨fun i => l.getD i 0⟩

theorem fit : Fit Try.prog := letI := rho []; fit_of (by kernel_rfl)

abbrev top64 : Int := 18446744073709551615
abbrev top62 : Int := 4611686018427387904

/-- a letter -/
def lt (k : IntKind) (i : Nat) (lo hi : Int) : AV := .sym k (.var i lo hi) lo hi
abbrev U (i : Nat) : AV := lt .u64 i 0 18446744073709551615

theorem below_of {w w' : World} (h : w = w') : Below w.heap.size w w' := by subst h; exact Below.refl _ _

theorem sizeB (n : Int) (h0 : -9223372036854775808 ≤ n) (h1 : n ≤ 9223372036854775807) (w : World) :
    Calls Try.prog 53 #[.int .i64 n] w fun e w' => e = .returned (.int .u64 (absI n)) ∧ Below w.heap.size w w' :=
  (size_c n h0 h1 w).mono fun _ _ ⟨a, b⟩ => ⟨a, below_of b⟩

section
variable [Rho]
theorem one {P : Program} {f : FuncId} {F : Fct} (h : F.Holds P f) : ∀ F' ∈ [F], F'.Holds P f := fun F' hF => by rw [List.mem_singleton] at hF; rw [hF]; exact h
theorem two {P : Program} {f : FuncId} {F : Fct} {l : List Fct} (h : F.Holds P f) (t : ∀ F' ∈ l, F'.Holds P f) : ∀ F' ∈ F :: l, F'.Holds P f := fun F' hF => by
  rcases List.mem_cons.1 hF with rfl | h1
  · exact h
  · exact t F' h1

theorem ltf {k : IntKind} {i : Nat} {lo hi : Int} (h : lo ≤ Rho.ρ i ∧ Rho.ρ i ≤ hi) : (lt k i lo hi).fine0 := ⟨h, h⟩
theorem lt1 {k : IntKind} {i : Nat} {lo hi : Int} (h : lo ≤ Rho.ρ i ∧ Rho.ρ i ≤ hi) : (lt k i lo hi).fine1 := ⟨h, h⟩
theorem ltv {k : IntKind} {i : Nat} {lo hi : Int} (h : lo ≤ Rho.ρ i ∧ Rho.ρ i ≤ hi) : (lt k i lo hi).fine := ⟨h, h⟩
end

theorem hi_bd (V : Int) (h : 0 ≤ V ∧ V < 340282366920938463463374607431768211456) : 0 ≤ hiW V ∧ hiW V ≤ 18446744073709551615 := by unfold hiW; omega
theorem lo_bd (V : Int) : 0 ≤ loW V ∧ loW V ≤ 18446744073709551615 := by unfold loW; omega
theorem hl (V : Int) : hiW V * 18446744073709551616 + loW V = V := by unfold hiW loW; omega
theorem absI_bd (a : Int) (h : -4611686018427387904 ≤ a ∧ a ≤ 4611686018427387904) : 0 ≤ absI a ∧ absI a ≤ 4611686018427387904 := by unfold absI; split <;> omega
theorem prod_bd (a b : Int) (ha : 0 ≤ a ∧ a ≤ 4611686018427387904) (hb : 0 ≤ b ∧ b ≤ 4611686018427387904) : 0 ≤ a * b ∧ a * b ≤ 21267647932558653966460912964485513216 :=
  ⟨Int.mul_nonneg ha.1 hb.1, by have := Int.mul_le_mul ha.2 hb.2 hb.1 (by omega); omega⟩

abbrev two128 : Int := 340282366920938463463374607431768211456

/-! ### signedProduct -/
def spFacts (neg : Bool) : List (FuncId × List Fct) :=
  let a := if neg then lt .i64 0 (-4611686018427387904) (-1) else lt .i64 0 0 4611686018427387904
  [(53, [⟨[a], [], lt .u64 2 0 4611686018427387904, [], []⟩]), (66, [⟨[lt .u64 2 0 4611686018427387904, lt .u64 1 0 4611686018427387904], [], .agg [U 3, U 4], [], []⟩]), (55, if neg then [⟨[.agg [U 3, U 4]], [], .agg [U 5, U 6], [], []⟩] else [])]

theorem sp_neg : okRun Try.prog (orcOf (spFacts true)) 52 [lt .i64 0 (-4611686018427387904) (-1), lt .u64 1 0 4611686018427387904] (.agg [U 5, U 6]) = true := by kernel_rfl
theorem sp_pos : okRun Try.prog (orcOf (spFacts false)) 52 [lt .i64 0 0 4611686018427387904, lt .u64 1 0 4611686018427387904] (.agg [U 3, U 4]) = true := by kernel_rfl

theorem body52 : hasBody Try.prog 52 = true := by kernel_rfl
theorem body53 : hasBody Try.prog 53 = true := by kernel_rfl
theorem body54 : hasBody Try.prog 54 = true := by kernel_rfl
theorem body55 : hasBody Try.prog 55 = true := by kernel_rfl
theorem body56 : hasBody Try.prog 56 = true := by kernel_rfl
theorem body57 : hasBody Try.prog 57 = true := by kernel_rfl
theorem body62 : hasBody Try.prog 62 = true := by kernel_rfl
theorem body63 : hasBody Try.prog 63 = true := by kernel_rfl
theorem body64 : hasBody Try.prog 64 = true := by kernel_rfl
theorem body65 : hasBody Try.prog 65 = true := by kernel_rfl
theorem body66 : hasBody Try.prog 66 = true := by kernel_rfl
theorem body74 : hasBody Try.prog 74 = true := by kernel_rfl

theorem sp_c (a b : Int) (ha : -4611686018427387904 ≤ a ∧ a ≤ 4611686018427387904) (hb : 0 ≤ b ∧ b ≤ 4611686018427387904) (w : World) :
    Calls Try.prog 52 #[.int .i64 a, .int .u64 b] w fun e w' => e = .returned (.agg #[.int .u64 (hiW (a * b % 340282366920938463463374607431768211456)), .int .u64 (loW (a * b % 340282366920938463463374607431768211456))]) ∧ Below w.heap.size w w' := by
  have hA := absI_bd a ha
  have hP := prod_bd (absI a) b hA hb
  have h128 : 0 ≤ a * b % 340282366920938463463374607431768211456 ∧ a * b % 340282366920938463463374607431768211456 < 340282366920938463463374607431768211456 := by omega
  by_cases hn : a < 0
  · have eA : absI a * b = -(a * b) := by unfold absI; rw [if_pos hn, Int.neg_mul]
    letI := rho [a, b, absI a, hiW (absI a * b), loW (absI a * b), hiW (a * b % 340282366920938463463374607431768211456), loW (a * b % 340282366920938463463374607431768211456)]
    refine run_open fit (orcOf_ok (L := spFacts true) ⟨one ?_, one ?_, one ?_, trivial⟩) sp_neg ⟨lt1 (show _ ≤ a ∧ a ≤ _ by omega), lt1 hb, trivial⟩ w
    · exact fct_flat rfl rfl rfl (ltv hA) body53 (fun w => sizeB a (by omega) (by omega) w)
    · exact fct_flat rfl rfl rfl ⟨ltf (hi_bd _ (by omega)), ltf (lo_bd _), trivial⟩ body66 (fun w => product_c (absI a) b hA.1 (by omega) hb.1 (by omega) w)
    · refine fct_flat rfl rfl rfl ⟨ltf (hi_bd _ h128), ltf (lo_bd _), trivial⟩ body55 (fun w => minus_c (hiW (absI a * b)) (loW (absI a * b)) _ ?_ ?_ ?_ h128 w)
      · have := hi_bd (absI a * b) (by omega); omega
      · have := lo_bd (absI a * b); omega
      · rw [hl, eA]; exact ⟨a * b % 340282366920938463463374607431768211456 / 340282366920938463463374607431768211456 - a * b / 340282366920938463463374607431768211456, by omega⟩
  · have eA : absI a * b = a * b := by unfold absI; rw [if_neg hn]
    have eM : a * b % 340282366920938463463374607431768211456 = a * b := by rw [← eA]; omega
    rw [eM]
    rw [eA] at hP
    letI := rho [a, b, absI a, hiW (a * b), loW (a * b), 0, 0]
    refine run_open fit (orcOf_ok (L := spFacts false) ⟨one ?_, one ?_, ?_, trivial⟩) sp_pos ⟨lt1 (show _ ≤ a ∧ a ≤ _ by omega), lt1 hb, trivial⟩ w
    · exact fct_flat rfl rfl rfl (ltv hA) body53 (fun w => sizeB a (by omega) (by omega) w)
    · refine fct_flat rfl rfl rfl ⟨ltf (hi_bd _ (by omega)), ltf (lo_bd _), trivial⟩ body66 (fun w => ?_)
      have := product_c (absI a) b hA.1 (by omega) hb.1 (by omega) w
      rw [eA] at this
      exact this
    · intro F hF; cases hF

/-! ### absolute -/
def absW (V : Int) : Int := if V < 170141183460469231731687303715884105728 then V else 340282366920938463463374607431768211456 - V
def abFacts (neg : Bool) : List (FuncId × List Fct) := [(56, [⟨[.agg [U 0, U 1]], [], .bool neg, [], []⟩]), (55, if neg then [⟨[.agg [U 0, U 1]], [], .agg [U 2, U 3], [], []⟩] else [])]
theorem ab_neg : okRun Try.prog (orcOf (abFacts true)) 64 [.agg [U 0, U 1]] (.agg [U 2, U 3]) = true := by kernel_rfl
theorem ab_pos : okRun Try.prog (orcOf (abFacts false)) 64 [.agg [U 0, U 1]] (.agg [U 0, U 1]) = true := by kernel_rfl

theorem neg_c (V : Int) (h : 0 ≤ V ∧ V < 340282366920938463463374607431768211456) (w : World) :
    Calls Try.prog 56 #[.agg #[.int .u64 (hiW V), .int .u64 (loW V)]] w fun e w' => e = .returned (.bool (decide (170141183460469231731687303715884105728 ≤ V))) ∧ Below w.heap.size w w' := by
  have e : decide (170141183460469231731687303715884105728 ≤ V) = decide (9223372036854775808 ≤ hiW V) := by
    rw [Bool.eq_iff_iff]; simp only [decide_eq_true_eq]; unfold hiW; omega
  rw [e]
  exact negative_c _ _ (hi_bd V h).1 (by have := (hi_bd V h).2; omega) w

theorem abs_c (V : Int) (h : 0 ≤ V ∧ V < 340282366920938463463374607431768211456) (w : World) :
    Calls Try.prog 64 #[.agg #[.int .u64 (hiW V), .int .u64 (loW V)]] w fun e w' => e = .returned (.agg #[.int .u64 (hiW (absW V)), .int .u64 (loW (absW V))]) ∧ Below w.heap.size w w' := by
  by_cases c : V < 170141183460469231731687303715884105728
  · have e : absW V = V := by unfold absW; rw [if_pos c]
    rw [e]
    letI := rho [hiW V, loW V]
    refine run_open fit (orcOf_ok (L := abFacts false) ⟨one ?_, ?_, trivial⟩) ab_pos ⟨⟨ltf (hi_bd V h), ltf (lo_bd V), trivial⟩, trivial⟩ w
    · refine fct_flat rfl rfl rfl trivial body56 (fun w => ?_)
      have := neg_c V h w
      rw [show decide (170141183460469231731687303715884105728 ≤ V) = false by simp; omega] at this
      exact this
    · intro F hF; cases hF
  · have e : absW V = 340282366920938463463374607431768211456 - V := by unfold absW; rw [if_neg c]
    rw [e]
    have hb : 0 ≤ 340282366920938463463374607431768211456 - V ∧ 340282366920938463463374607431768211456 - V < 340282366920938463463374607431768211456 := by omega
    letI := rho [hiW V, loW V, hiW (340282366920938463463374607431768211456 - V), loW (340282366920938463463374607431768211456 - V)]
    refine run_open fit (orcOf_ok (L := abFacts true) ⟨one ?_, one ?_, trivial⟩) ab_neg ⟨⟨ltf (hi_bd V h), ltf (lo_bd V), trivial⟩, trivial⟩ w
    · refine fct_flat rfl rfl rfl trivial body56 (fun w => ?_)
      have := neg_c V h w
      rw [show decide (170141183460469231731687303715884105728 ≤ V) = true by simp; omega] at this
      exact this
    · refine fct_flat rfl rfl rfl ⟨ltf (hi_bd _ hb), ltf (lo_bd _), trivial⟩ body55 (fun w => minus_c (hiW V) (loW V) _ ?_ ?_ ?_ hb w)
      · have := hi_bd V h; omega
      · have := lo_bd V; omega
      · rw [hl]; exact ⟨1, by omega⟩

/-! ### fits -/
def fitsB (h l : Int) : Bool := decide (h = 0 ∧ l ≤ 4611686018427387904)
theorem fi_hi : okRun Try.prog noOrc 74 [.agg [lt .u64 0 1 18446744073709551615, U 1]] (.bool false) = true := by kernel_rfl
theorem fi_ok : okRun Try.prog noOrc 74 [.agg [.int .u64 0, lt .u64 1 0 4611686018427387904]] (.bool true) = true := by kernel_rfl
theorem fi_lo : okRun Try.prog noOrc 74 [.agg [.int .u64 0, lt .u64 1 4611686018427387905 18446744073709551615]] (.bool false) = true := by kernel_rfl

theorem fits_c (h l : Int) (h0 : 0 ≤ h ∧ h ≤ 18446744073709551615) (l0 : 0 ≤ l ∧ l ≤ 18446744073709551615) (w : World) :
    Calls Try.prog 74 #[.agg #[.int .u64 h, .int .u64 l]] w fun e w' => e = .returned (.bool (fitsB h l)) ∧ Below w.heap.size w w' := by
  letI := rho [h, l]
  by_cases c : h = 0
  · subst c
    by_cases d : l ≤ 4611686018427387904
    · rw [show fitsB 0 l = true by simp [fitsB, d]]
      exact run_open fit (noOrc_ok _) fi_ok ⟨⟨trivial, ltf (show _ ≤ l ∧ l ≤ _ by omega), trivial⟩, trivial⟩ w
    · rw [show fitsB 0 l = false by simp [fitsB, d]]
      exact run_open fit (noOrc_ok _) fi_lo ⟨⟨trivial, ltf (show _ ≤ l ∧ l ≤ _ by omega), trivial⟩, trivial⟩ w
  · rw [show fitsB h l = false by simp [fitsB, c]]
    exact run_open fit (noOrc_ok _) fi_hi ⟨⟨ltf (show _ ≤ h ∧ h ≤ _ by omega), ltf l0, trivial⟩, trivial⟩ w

/-! ### fraction -/
def fE (n d : Int) : Int := if d = 0 then 3 else if n ≤ 4611686018427387904 ∧ d ≤ 4611686018427387904 then 0 else 2
def fN (neg : Bool) (n d : Int) : Int := if fE n d = 0 then (if neg then -n else n) else 0
def fD (n d : Int) : Int := if fE n d = 0 then d else 0
abbrev D1 : AV := .agg [lt .u64 2 1 18446744073709551615, U 3]
abbrev D2 : AV := .agg [.int .u64 0, lt .u64 3 1 18446744073709551615]
def frFacts (D : AV) (x y : Bool) : List (FuncId × List Fct) := [(74, [⟨[.agg [U 0, U 1]], [], .bool x, [], []⟩, ⟨[D], [], .bool y, [], []⟩])]
def frOk : List (FuncId × List Fct) := [(74, [⟨[.agg [.int .u64 0, lt .u64 1 0 4611686018427387904]], [], .bool true, [], []⟩, ⟨[.agg [.int .u64 0, lt .u64 3 1 4611686018427387904]], [], .bool true, [], []⟩])]
abbrev zeroR (e : Int) : AV := .tup [.agg [.int .i64 0, .int .i64 0], .int .i64 e]
theorem fr_zero : [true, false].all (fun b => okRun Try.prog noOrc 63 [.bool b, .agg [U 0, U 1], .agg [.int .u64 0, .int .u64 0]] (zeroR 3)) = true := by kernel_rfl
theorem fr_big : [D1, D2].all (fun D => [(false, true), (false, false), (true, false)].all fun xy => [true, false].all fun b => okRun Try.prog (orcOf (frFacts D xy.1 xy.2)) 63 [.bool b, .agg [U 0, U 1], D] (zeroR 2)) = true := by kernel_rfl
theorem fr_pos : okRun Try.prog (orcOf frOk) 63 [.bool false, .agg [.int .u64 0, lt .u64 1 0 4611686018427387904], .agg [.int .u64 0, lt .u64 3 1 4611686018427387904]]
    (.tup [.agg [.sym .i64 (.var 1 0 4611686018427387904) 0 4611686018427387904, .sym .i64 (.var 3 1 4611686018427387904) 1 4611686018427387904], .int .i64 0]) = true := by kernel_rfl
theorem fr_neg : okRun Try.prog (orcOf frOk) 63 [.bool true, .agg [.int .u64 0, lt .u64 1 0 4611686018427387904], .agg [.int .u64 0, lt .u64 3 1 4611686018427387904]]
    (.tup [.agg [.sym .i64 (.bin .sub (.lit 0) (.var 1 0 4611686018427387904)) (-4611686018427387904) 0, .sym .i64 (.var 3 1 4611686018427387904) 1 4611686018427387904], .int .i64 0]) = true := by kernel_rfl

theorem frac_c (neg : Bool) (nh nl dh dl : Int) (a0 : 0 ≤ nh ∧ nh ≤ 18446744073709551615) (a1 : 0 ≤ nl ∧ nl ≤ 18446744073709551615) (a2 : 0 ≤ dh ∧ dh ≤ 18446744073709551615) (a3 : 0 ≤ dl ∧ dl ≤ 18446744073709551615) (w : World) :
    Calls Try.prog 63 #[.bool neg, .agg #[.int .u64 nh, .int .u64 nl], .agg #[.int .u64 dh, .int .u64 dl]] w fun e w' =>
      e = .returned (.tuple #[.agg #[.int .i64 (fN neg (nh * 18446744073709551616 + nl) (dh * 18446744073709551616 + dl)), .int .i64 (fD (nh * 18446744073709551616 + nl) (dh * 18446744073709551616 + dl))], .int .i64 (fE (nh * 18446744073709551616 + nl) (dh * 18446744073709551616 + dl))]) ∧ Below w.heap.size w w' := by
  letI := rho [nh, nl, dh, dl]
  by_cases hz : dh * 18446744073709551616 + dl = 0
  · obtain rfl : dh = 0 := by omega
    obtain rfl : dl = 0 := by omega
    have h := fr_zero
    simp only [List.all_cons, List.all_nil, Bool.and_eq_true, Bool.and_true] at h
    have e : fE (nh * 18446744073709551616 + nl) (0 * 18446744073709551616 + 0) = 3 := by simp [fE]
    rw [show fN neg (nh * 18446744073709551616 + nl) (0 * 18446744073709551616 + 0) = 0 by unfold fN; rw [e]; simp, show fD (nh * 18446744073709551616 + nl) (0 * 18446744073709551616 + 0) = 0 by unfold fD; rw [e]; simp, e]
    cases neg
    · exact run_open fit (noOrc_ok _) h.2 ⟨trivial, ⟨ltf a0, ltf a1, trivial⟩, ⟨trivial, trivial, trivial⟩, trivial⟩ w
    · exact run_open fit (noOrc_ok _) h.1 ⟨trivial, ⟨ltf a0, ltf a1, trivial⟩, ⟨trivial, trivial, trivial⟩, trivial⟩ w
  · by_cases hf : fitsB nh nl = true ∧ fitsB dh dl = true
    · simp only [fitsB, decide_eq_true_eq] at hf
      obtain ⟨⟨rfl, h2⟩, rfl, h4⟩ := hf
      have e : fE (0 * 18446744073709551616 + nl) (0 * 18446744073709551616 + dl) = 0 := by unfold fE; rw [if_neg hz, if_pos (by omega)]
      have e2 : fD (0 * 18446744073709551616 + nl) (0 * 18446744073709551616 + dl) = dl := by unfold fD; rw [if_pos e]; omega
      have f1 : (Fct.mk [.agg [.int .u64 0, lt .u64 1 0 4611686018427387904]] [] (.bool true) [] []).Holds Try.prog 74 := fct_flat rfl rfl rfl trivial body74 (fun w => by
        have := fits_c 0 nl a0 a1 w
        rw [show fitsB 0 nl = true by simp [fitsB, h2]] at this
        exact this)
      have f2 : (Fct.mk [.agg [.int .u64 0, lt .u64 3 1 4611686018427387904]] [] (.bool true) [] []).Holds Try.prog 74 := fct_flat rfl rfl rfl trivial body74 (fun w => by
        have := fits_c 0 dl a2 a3 w
        rw [show fitsB 0 dl = true by simp [fitsB, h4]] at this
        exact this)
      rw [e, e2]
      cases neg
      · rw [show fN false (0 * 18446744073709551616 + nl) (0 * 18446744073709551616 + dl) = nl by unfold fN; rw [if_pos e]; simp]
        exact run_open fit (orcOf_ok (L := frOk) ⟨two f1 (one f2), trivial⟩) fr_pos ⟨trivial, ⟨trivial, ltf (show _ ≤ nl ∧ nl ≤ _ by omega), trivial⟩, ⟨trivial, ltf (show _ ≤ dl ∧ dl ≤ _ by omega), trivial⟩, trivial⟩ w
      · rw [show fN true (0 * 18446744073709551616 + nl) (0 * 18446744073709551616 + dl) = 0 - nl by unfold fN; rw [if_pos e]; simp]
        exact run_open fit (orcOf_ok (L := frOk) ⟨two f1 (one f2), trivial⟩) fr_neg ⟨trivial, ⟨trivial, ltf (show _ ≤ nl ∧ nl ≤ _ by omega), trivial⟩, ⟨trivial, ltf (show _ ≤ dl ∧ dl ≤ _ by omega), trivial⟩, trivial⟩ w
    · have e : fE (nh * 18446744073709551616 + nl) (dh * 18446744073709551616 + dl) = 2 := by
        unfold fE; rw [if_neg hz, if_neg (by simp only [fitsB, decide_eq_true_eq] at hf; omega)]
      rw [show fN neg (nh * 18446744073709551616 + nl) (dh * 18446744073709551616 + dl) = 0 by unfold fN; rw [e]; simp, show fD (nh * 18446744073709551616 + nl) (dh * 18446744073709551616 + dl) = 0 by unfold fD; rw [e]; simp, e]
      have h := fr_big
      simp only [List.all_eq_true] at h
      have hxy : (fitsB nh nl, fitsB dh dl) ∈ [(false, true), (false, false), (true, false)] := by
        cases h1 : fitsB nh nl <;> cases h2 : fitsB dh dl <;> simp_all
      have hb : neg ∈ [true, false] := by cases neg <;> simp
      have f1 : (Fct.mk [.agg [U 0, U 1]] [] (.bool (fitsB nh nl)) [] []).Holds Try.prog 74 := fct_flat rfl rfl rfl trivial body74 (fun w => fits_c nh nl a0 a1 w)
      by_cases hd : dh = 0
      · subst hd
        have f2 : (Fct.mk [D2] [] (.bool (fitsB 0 dl)) [] []).Holds Try.prog 74 := fct_flat rfl rfl rfl trivial body74 (fun w => fits_c 0 dl a2 a3 w)
        exact run_open fit (orcOf_ok (L := frFacts D2 (fitsB nh nl) (fitsB 0 dl)) ⟨two f1 (one f2), trivial⟩) (h D2 (by simp) _ hxy neg hb) ⟨trivial, ⟨ltf a0, ltf a1, trivial⟩, ⟨trivial, ltf (show _ ≤ dl ∧ dl ≤ _ by omega), trivial⟩, trivial⟩ w
      · have f2 : (Fct.mk [D1] [] (.bool (fitsB dh dl)) [] []).Holds Try.prog 74 := fct_flat rfl rfl rfl trivial body74 (fun w => fits_c dh dl a2 a3 w)
        exact run_open fit (orcOf_ok (L := frFacts D1 (fitsB nh nl) (fitsB dh dl)) ⟨two f1 (one f2), trivial⟩) (h D1 (by simp) _ hxy neg hb) ⟨trivial, ⟨ltf a0, ltf a1, trivial⟩, ⟨ltf (show _ ≤ dh ∧ dh ≤ _ by omega), ltf a3, trivial⟩, trivial⟩ w

end Go.Proofs.Ytieabeodommbiaa

/- Contracts of package rat, evaluated with letters: Make, Mul, Add. -/
namespace Go.Proofs.Ytieabeodommbiaa
open Go.RowKit (Below)
open Go.Ev

def gcdF (X Y G : AV) : Fct := { args := [.slice 0 0 2 2 true 1], old := [{ elem := 65, cells := [X, Y], ro := true }], v := G, sel := [], new := [] }

theorem gcd_fct [Rho] {X Y G : AV} {x y : Int} (hg : (gcdF X Y G).good = true) (hX : X.lone = true) (hY : Y.lone = true) (hG : G.flat = true) (hGf : G.fine) (eX : X.vl0 = .int .u64 x) (eY : Y.vl0 = .int .u64 y) (eG : G.vl = .int .u64 (gcdI x y))
    (bx : 0 ≤ x ∧ x < 18446744073709551616) (bY : 0 ≤ y ∧ y < 18446744073709551616) : (gcdF X Y G).Holds Try.prog 62 := by
  refine fct_of rfl rfl hg hG hGf body62 (fun π w vs hw hl => ?_)
  obtain ⟨b, n, c, fz, k1, k2, k3, _, k5⟩ := hw.blk 0 { elem := 65, cells := [X, Y], ro := true } rfl
  obtain ⟨v0, ws, e1, r0, t0⟩ := hl.uncons
  have := t0.nil_inv
  subst this
  have hvs : vs = #[v0] := by apply Array.ext'; exact e1
  subst hvs
  cases r0 with
  | sliceEx hp =>
    rename_i b' n'
    rw [k1] at hp
    obtain ⟨rfl, rfl⟩ := Prod.mk.inj (Option.some.inj hp)
    obtain ⟨c0, ws1, f1, g0, t1⟩ := k5.1.uncons
    obtain ⟨c1, ws2, f2, g1, t2⟩ := t1.uncons
    have hc0 : c[0]? = some (.int .u64 x) := by
      have f1' : c.toList.take 2 = c0 :: ws1 := f1
      have : (c.toList.take 2)[0]? = some c0 := by rw [f1']; rfl
      rw [List.getElem?_take, if_pos (by omega), Array.getElem?_toList] at this
      rw [this, vl0_eq hX g0, eX]
    have hc1 : c[1]? = some (.int .u64 y) := by
      have f1' : c.toList.take 2 = c0 :: ws1 := f1
      have : (c.toList.take 2)[1]? = some c1 := by rw [f1', f2]; rfl
      rw [List.getElem?_take, if_pos (by omega), Array.getElem?_toList] at this
      rw [this, vl0_eq hY g1, eY]
    have eG' : (gcdF X Y G).v.vl = .int .u64 (gcdI x y) := eG
    rw [eG']
    exact gcd_c x y bx bY b 0 w (by rw [cell_of k2]; exact hc0) (by rw [cell_of k2]; exact hc1)

theorem gcdI_bd (x y : Int) (m : Int) (hx : 0 ≤ x ∧ x ≤ m) (hy : 0 ≤ y ∧ y ≤ m) (hm : 1 ≤ m) : 1 ≤ gcdI x y ∧ gcdI x y ≤ m := by
  unfold gcdI
  have : (Int.gcd x y : Int) ≤ m := by
    by_cases h : x = 0
    · subst h; simp; omega
    · have := Int.gcd_le_natAbs_left y h
      omega
  omega

theorem quo_bd (x g m : Int) (hx : 0 ≤ x ∧ x ≤ m) (hg : 1 ≤ g) : 0 ≤ x.tdiv g ∧ x.tdiv g ≤ m := by
  have h1 := Int.ediv_nonneg hx.1 (show 0 ≤ g by omega)
  have h2 := Int.ediv_le_self g hx.1
  rw [Int.tdiv_eq_ediv_of_nonneg hx.1]
  omega

theorem fE_zero {n d : Int} (h : fE n d = 0) : d ≠ 0 ∧ n ≤ 4611686018427387904 ∧ d ≤ 4611686018427387904 := by
  unfold fE at h
  by_cases h1 : d = 0
  · rw [if_pos h1] at h; omega
  · rw [if_neg h1] at h
    by_cases h2 : n ≤ 4611686018427387904 ∧ d ≤ 4611686018427387904
    · exact ⟨h1, h2⟩
    · rw [if_neg h2] at h; omega
theorem fN_bd (neg : Bool) (n d : Int) (h : 0 ≤ n) : -4611686018427387904 ≤ fN neg n d ∧ fN neg n d ≤ 4611686018427387904 := by
  unfold fN
  by_cases h1 : fE n d = 0
  · rw [if_pos h1]
    obtain ⟨_, h2, _⟩ := fE_zero h1
    split <;> omega
  · rw [if_neg h1]; omega
theorem fD_bd (n d : Int) (h : 0 ≤ d) : 0 ≤ fD n d ∧ fD n d ≤ 4611686018427387904 := by
  unfold fD
  by_cases h1 : fE n d = 0
  · rw [if_pos h1]
    obtain ⟨_, _, h2⟩ := fE_zero h1
    omega
  · rw [if_neg h1]; omega
theorem fE_bd (n d : Int) : 0 ≤ fE n d ∧ fE n d ≤ 3 := by unfold fE; split <;> (try split) <;> omega

/-! ### Make -/
abbrev mS (i : Nat) : AV := lt .u64 i 0 9223372036854775808
abbrev mG : AV := lt .u64 4 1 9223372036854775808
abbrev mQ (i : Nat) : AV := .sym .u64 (.bin .quo (.var i 0 9223372036854775808) (.var 4 1 9223372036854775808)) 0 9223372036854775808
abbrev mN (neg : Bool) (i : Nat) : AV := if neg then lt .i64 i (-9223372036854775808) (-1) else lt .i64 i 0 9223372036854775807
abbrev mR (i : Nat) : AV := .tup [.agg [lt .i64 i (-4611686018427387904) 4611686018427387904, lt .i64 (i + 1) 0 4611686018427387904], lt .i64 (i + 2) 0 3]
def mkFacts (a b : Bool) : List (FuncId × List Fct) :=
  [(53, [⟨[mN a 0], [], mS 2, [], []⟩, ⟨[mN b 1], [], mS 3, [], []⟩]), (62, [gcdF (mS 2) (mS 3) mG]), (63, [⟨[.bool (a != b), .agg [.int .u64 0, mQ 2], .agg [.int .u64 0, mQ 3]], [], mR 5, [], []⟩])]
theorem mk_run : [true, false].all (fun a => [true, false].all fun b => okRun Try.prog (orcOf (mkFacts a b)) 38 [mN a 0, mN b 1] (mR 5)) = true := by kernel_rfl

def sgn (a b : Int) : Bool := decide (a < 0) != decide (b < 0)
abbrev mkn (n d : Int) : Int := (absI n).tdiv (gcdI (absI n) (absI d))
abbrev mkd (n d : Int) : Int := (absI d).tdiv (gcdI (absI n) (absI d))

theorem make_c (n d : Int) (hn : -9223372036854775808 ≤ n ∧ n ≤ 9223372036854775807) (hd : -9223372036854775808 ≤ d ∧ d ≤ 9223372036854775807) (w : World) :
    Calls Try.prog 38 #[.int .i64 n, .int .i64 d] w fun e w' =>
      e = .returned (.tuple #[.agg #[.int .i64 (fN (sgn n d) (mkn n d) (mkd n d)), .int .i64 (fD (mkn n d) (mkd n d))], .int .i64 (fE (mkn n d) (mkd n d))]) ∧ Below w.heap.size w w' := by
  have an : 0 ≤ absI n ∧ absI n ≤ 9223372036854775808 := by unfold absI; split <;> omega
  have ad : 0 ≤ absI d ∧ absI d ≤ 9223372036854775808 := by unfold absI; split <;> omega
  have hg := gcdI_bd (absI n) (absI d) 9223372036854775808 an ad (by omega)
  obtain ⟨q2, q3⟩ := quo_bd (absI n) (gcdI (absI n) (absI d)) _ an hg.1
  obtain ⟨r2, r3⟩ := quo_bd (absI d) (gcdI (absI n) (absI d)) _ ad hg.1
  letI := rho [n, d, absI n, absI d, gcdI (absI n) (absI d), fN (sgn n d) (mkn n d) (mkd n d), fD (mkn n d) (mkd n d), fE (mkn n d) (mkd n d)]
  have hrun := mk_run
  simp only [List.all_eq_true] at hrun
  have nf : (mN (decide (n < 0)) 0).fine1 := by
    by_cases h : n < 0
    · rw [show decide (n < 0) = true by simpa using h]; exact lt1 (show _ ≤ n ∧ n ≤ _ by omega)
    · rw [show decide (n < 0) = false by simpa using h]; exact lt1 (show _ ≤ n ∧ n ≤ _ by omega)
  have df : (mN (decide (d < 0)) 1).fine1 := by
    by_cases h : d < 0
    · rw [show decide (d < 0) = true by simpa using h]; exact lt1 (show _ ≤ d ∧ d ≤ _ by omega)
    · rw [show decide (d < 0) = false by simpa using h]; exact lt1 (show _ ≤ d ∧ d ≤ _ by omega)
  have nv : ∀ b, (mN b 0).vl1 = .int .i64 n := fun b => by cases b <;> rfl
  have dv : ∀ b, (mN b 1).vl1 = .int .i64 d := fun b => by cases b <;> rfl
  have flat : ∀ b i, (mN b i).flat1 = true := fun b i => by cases b <;> rfl
  have s1 : ∀ b, (Fct.mk [mN b 0] [] (mS 2) [] []).Holds Try.prog 53 := fun b => fct_flat (by cases b <;> rfl) (by cases b <;> rfl) rfl (ltv an) body53 (fun w => by
    have := sizeB n hn.1 hn.2 w
    simp only [List.map_cons, List.map_nil, nv]
    exact this)
  have s2 : ∀ b, (Fct.mk [mN b 1] [] (mS 3) [] []).Holds Try.prog 53 := fun b => fct_flat (by cases b <;> rfl) (by cases b <;> rfl) rfl (ltv ad) body53 (fun w => by
    have := sizeB d hd.1 hd.2 w
    simp only [List.map_cons, List.map_nil, dv]
    exact this)
  have s3 : (gcdF (mS 2) (mS 3) mG).Holds Try.prog 62 := gcd_fct (x := absI n) (y := absI d) rfl rfl rfl rfl (ltv hg) rfl rfl rfl (by omega) (by omega)
  have s4 : (Fct.mk [.bool (decide (n < 0) != decide (d < 0)), .agg [.int .u64 0, mQ 2], .agg [.int .u64 0, mQ 3]] [] (mR 5) [] []).Holds Try.prog 63 :=
    fct_flat rfl rfl rfl ⟨⟨ltf (fN_bd _ _ _ q2), ltf (fD_bd _ _ r2), trivial⟩, lt1 (fE_bd _ _), trivial⟩ body63 (fun w => by
      have := frac_c (sgn n d) 0 (mkn n d) 0 (mkd n d) (by omega) ⟨q2, Int.le_trans q3 (by omega)⟩ (by omega) ⟨r2, Int.le_trans r3 (by omega)⟩ w
      simp only [Int.zero_mul, Int.zero_add] at this
      exact this)
  have := run_open fit (orcOf_ok (L := mkFacts (decide (n < 0)) (decide (d < 0))) ⟨two (s1 _) (one (s2 _)), one s3, one s4, trivial⟩) (hrun _ (by cases decide (n < 0) <;> simp) _ (by cases decide (d < 0) <;> simp)) ⟨nf, df, trivial⟩ w
  simp only [List.map_cons, List.map_nil, nv, dv] at this
  exact this

/-! ### Mul -/
abbrev nS (i : Nat) : AV := lt .u64 i 0 4611686018427387904
abbrev nP (i : Nat) : AV := lt .u64 i 1 4611686018427387904
abbrev nQ (i j : Nat) : AV := .sym .u64 (.bin .quo (.var i 0 4611686018427387904) (.var j 1 4611686018427387904)) 0 4611686018427387904
abbrev nN (neg : Bool) (i : Nat) : AV := if neg then lt .i64 i (-4611686018427387904) (-1) else lt .i64 i 0 4611686018427387904
abbrev nD (i : Nat) : AV := lt .i64 i 0 4611686018427387904
def muFacts (a b : Bool) : List (FuncId × List Fct) :=
  [(53, [⟨[nN a 0], [], nS 4, [], []⟩, ⟨[nN b 2], [], nS 5, [], []⟩, ⟨[nD 1], [], nS 1, [], []⟩, ⟨[nD 3], [], nS 3, [], []⟩]), (62, [gcdF (nS 4) (nS 3) (nP 6), gcdF (nS 5) (nS 1) (nP 7)]),
   (66, [⟨[nQ 4 6, nQ 5 7], [], .agg [U 8, U 9], [], []⟩, ⟨[nQ 1 7, nQ 3 6], [], .agg [U 10, U 11], [], []⟩]), (63, [⟨[.bool (a != b), .agg [U 8, U 9], .agg [U 10, U 11]], [], mR 12, [], []⟩])]
theorem mu_run : [true, false].all (fun a => [true, false].all fun b => okRun Try.prog (orcOf (muFacts a b)) 50 [.agg [nN a 0, nD 1], .agg [nN b 2, nD 3]] (mR 12)) = true := by kernel_rfl

/-- numerator and denominator of a product -/
def muN (a b c d : Int) : Int := (absI a).tdiv (gcdI (absI a) d) * (absI c).tdiv (gcdI (absI c) b)
def muD (a b c d : Int) : Int := b.tdiv (gcdI (absI c) b) * d.tdiv (gcdI (absI a) d)

theorem mul_c (a b c d : Int) (ha : -4611686018427387904 ≤ a ∧ a ≤ 4611686018427387904) (hb : 0 ≤ b ∧ b ≤ 4611686018427387904) (hc : -4611686018427387904 ≤ c ∧ c ≤ 4611686018427387904) (hd : 0 ≤ d ∧ d ≤ 4611686018427387904) (w : World) :
    Calls Try.prog 50 #[.agg #[.int .i64 a, .int .i64 b], .agg #[.int .i64 c, .int .i64 d]] w fun e w' =>
      e = .returned (.tuple #[.agg #[.int .i64 (fN (sgn a c) (muN a b c d) (muD a b c d)), .int .i64 (fD (muN a b c d) (muD a b c d))], .int .i64 (fE (muN a b c d) (muD a b c d))]) ∧ Below w.heap.size w w' := by
  have aa := absI_bd a ha
  have ac := absI_bd c hc
  have h6 := gcdI_bd (absI a) d 4611686018427387904 aa hd (by omega)
  have h7 := gcdI_bd (absI c) b 4611686018427387904 ac hb (by omega)
  have q1 := quo_bd (absI a) (gcdI (absI a) d) _ aa h6.1
  have q2 := quo_bd (absI c) (gcdI (absI c) b) _ ac h7.1
  have q3 := quo_bd b (gcdI (absI c) b) _ hb h7.1
  have q4 := quo_bd d (gcdI (absI a) d) _ hd h6.1
  have pn : 0 ≤ muN a b c d ∧ muN a b c d ≤ 21267647932558653966460912964485513216 := prod_bd _ _ q1 q2
  have pd : 0 ≤ muD a b c d ∧ muD a b c d ≤ 21267647932558653966460912964485513216 := prod_bd _ _ q3 q4
  letI := rho [a, b, c, d, absI a, absI c, gcdI (absI a) d, gcdI (absI c) b, hiW (muN a b c d), loW (muN a b c d), hiW (muD a b c d), loW (muD a b c d), fN (sgn a c) (muN a b c d) (muD a b c d), fD (muN a b c d) (muD a b c d), fE (muN a b c d) (muD a b c d)]
  have hrun := mu_run
  simp only [List.all_eq_true] at hrun
  have af : (nN (decide (a < 0)) 0).fine0 := by
    by_cases h : a < 0
    · rw [show decide (a < 0) = true by simpa using h]; exact ltf (show _ ≤ a ∧ a ≤ _ by omega)
    · rw [show decide (a < 0) = false by simpa using h]; exact ltf (show _ ≤ a ∧ a ≤ _ by omega)
  have cf : (nN (decide (c < 0)) 2).fine0 := by
    by_cases h : c < 0
    · rw [show decide (c < 0) = true by simpa using h]; exact ltf (show _ ≤ c ∧ c ≤ _ by omega)
    · rw [show decide (c < 0) = false by simpa using h]; exact ltf (show _ ≤ c ∧ c ≤ _ by omega)
  have nv : ∀ b, (nN b 0).vl0 = .int .i64 a := fun b => by cases b <;> rfl
  have dv : ∀ b, (nN b 2).vl0 = .int .i64 c := fun b => by cases b <;> rfl
  have nv1 : ∀ b, (nN b 0).vl1 = .int .i64 a := fun b => by cases b <;> rfl
  have dv1 : ∀ b, (nN b 2).vl1 = .int .i64 c := fun b => by cases b <;> rfl
  have s1 : ∀ b, (Fct.mk [nN b 0] [] (nS 4) [] []).Holds Try.prog 53 := fun b => fct_flat (by cases b <;> rfl) (by cases b <;> rfl) rfl (ltv aa) body53 (fun w => by
    have := sizeB a (by omega) (by omega) w
    simp only [List.map_cons, List.map_nil, nv1]
    exact this)
  have s2 : ∀ b, (Fct.mk [nN b 2] [] (nS 5) [] []).Holds Try.prog 53 := fun b => fct_flat (by cases b <;> rfl) (by cases b <;> rfl) rfl (ltv ac) body53 (fun w => by
    have := sizeB c (by omega) (by omega) w
    simp only [List.map_cons, List.map_nil, dv1]
    exact this)
  have s3 : (Fct.mk [nD 1] [] (nS 1) [] []).Holds Try.prog 53 := fct_flat rfl rfl rfl (ltv hb) body53 (fun w => by
    have := sizeB b (by omega) (by omega) w
    rw [show absI b = b by unfold absI; rw [if_neg (by omega)]] at this
    exact this)
  have s4 : (Fct.mk [nD 3] [] (nS 3) [] []).Holds Try.prog 53 := fct_flat rfl rfl rfl (ltv hd) body53 (fun w => by
    have := sizeB d (by omega) (by omega) w
    rw [show absI d = d by unfold absI; rw [if_neg (by omega)]] at this
    exact this)
  have g1 : (gcdF (nS 4) (nS 3) (nP 6)).Holds Try.prog 62 := gcd_fct (x := absI a) (y := d) rfl rfl rfl rfl (ltv h6) rfl rfl rfl (by omega) (by omega)
  have g2 : (gcdF (nS 5) (nS 1) (nP 7)).Holds Try.prog 62 := gcd_fct (x := absI c) (y := b) rfl rfl rfl rfl (ltv h7) rfl rfl rfl (by omega) (by omega)
  have p1 : (Fct.mk [nQ 4 6, nQ 5 7] [] (.agg [U 8, U 9]) [] []).Holds Try.prog 66 := fct_flat rfl rfl rfl ⟨ltf (hi_bd _ (by omega)), ltf (lo_bd _), trivial⟩ body66 (fun w => product_c _ _ q1.1 (by have := q1.2; omega) q2.1 (by have := q2.2; omega) w)
  have p2 : (Fct.mk [nQ 1 7, nQ 3 6] [] (.agg [U 10, U 11]) [] []).Holds Try.prog 66 := fct_flat rfl rfl rfl ⟨ltf (hi_bd _ (by omega)), ltf (lo_bd _), trivial⟩ body66 (fun w => product_c _ _ q3.1 (by have := q3.2; omega) q4.1 (by have := q4.2; omega) w)
  have fr : (Fct.mk [.bool (decide (a < 0) != decide (c < 0)), .agg [U 8, U 9], .agg [U 10, U 11]] [] (mR 12) [] []).Holds Try.prog 63 :=
    fct_flat rfl rfl rfl ⟨⟨ltf (fN_bd _ _ _ pn.1), ltf (fD_bd _ _ pd.1), trivial⟩, lt1 (fE_bd _ _), trivial⟩ body63 (fun w => by
      have := frac_c (sgn a c) (hiW (muN a b c d)) (loW (muN a b c d)) (hiW (muD a b c d)) (loW (muD a b c d)) (hi_bd _ (by omega)) (lo_bd _) (hi_bd _ (by omega)) (lo_bd _) w
      rw [hl, hl] at this
      exact this)
  have := run_open fit (orcOf_ok (L := muFacts (decide (a < 0)) (decide (c < 0))) ⟨two (s1 _) (two (s2 _) (two s3 (one s4))), two g1 (one g2), two p1 (one p2), one fr, trivial⟩) (hrun _ (by cases decide (a < 0) <;> simp) _ (by cases decide (c < 0) <;> simp)) ⟨⟨af, ltf hb, trivial⟩, ⟨cf, ltf hd, trivial⟩, trivial⟩ w
  simp only [List.map_cons, List.map_nil, AV.vl1, nv, dv] at this
  exact this

/-! ### Add -/
abbrev aN (i : Nat) : AV := lt .i64 i (-4611686018427387904) 4611686018427387904
abbrev aD (i : Nat) : AV := lt .i64 i 1 4611686018427387904
abbrev aQ (i j : Nat) : AV := .sym .u64 (.bin .quo (.var i 1 4611686018427387904) (.var j 1 4611686018427387904)) 0 4611686018427387904
def adFacts (neg : Bool) : List (FuncId × List Fct) :=
  [(53, [⟨[aD 1], [], nP 1, [], []⟩, ⟨[aD 3], [], nP 3, [], []⟩]), (62, [gcdF (nP 1) (nP 3) (nP 4), gcdF (nP 4) (U 15) (nP 16)]),
   (52, [⟨[aN 0, aQ 3 4], [], .agg [U 5, U 6], [], []⟩, ⟨[aN 2, aQ 1 4], [], .agg [U 7, U 8], [], []⟩]), (54, [⟨[.agg [U 5, U 6], .agg [U 7, U 8]], [], .agg [U 9, U 10], [], []⟩]),
   (64, [⟨[.agg [U 9, U 10]], [], .agg [U 11, U 12], [], []⟩]), (65, [⟨[.agg [U 11, U 12], nP 4], [], .tup [.agg [U 13, U 14], U 15], [], []⟩, ⟨[.agg [U 11, U 12], nP 16], [], .tup [.agg [U 17, U 18], U 19], [], []⟩]),
   (56, [⟨[.agg [U 9, U 10]], [], .bool neg, [], []⟩]), (66, [⟨[aQ 1 4, aQ 3 16], [], .agg [U 20, U 21], [], []⟩]), (63, [⟨[.bool neg, .agg [U 17, U 18], .agg [U 20, U 21]], [], mR 22, [], []⟩])]
theorem ad_run : [true, false].all (fun b => okRun Try.prog (orcOf (adFacts b)) 42 [.agg [aN 0, aD 1], .agg [aN 2, aD 3]] (mR 22)) = true := by kernel_rfl

end Go.Proofs.Ytieabeodommbiaa
