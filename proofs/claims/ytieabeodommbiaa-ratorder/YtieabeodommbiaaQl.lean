/- RatOrder: what it answers, for all numbers. -/
import Derived.Test.YtieabeodommbiaaQk
import Derived.Test.YtieabeodommbiaaQk1
import Derived.Test.YtieabeodommbiaaQk2
import Derived.Test.YtieabeodommbiaaQk3
import Derived.Test.YtieabeodommbiaaQk4
namespace Go.Proofs.Ytieabeodommbiaa
open Go.RowKit (Below)
open Go.Ev

theorem cmpV_self (a : Rat) : cmpV a a = 0 := if_pos rfl
theorem cmpV_ne {a b : Rat} (h : a ≠ b) : cmpV a b = sg (decide (a < b)) := by
  unfold cmpV sg; rw [if_neg h]; simp
theorem cmpV_back {a b : Rat} (h : a ≠ b) : cmpV b a = -(sg (decide (a < b))) := by
  unfold cmpV sg; rw [if_neg (fun e => h e.symm)]
  by_cases l : a < b
  · have : ¬ b < a := by grind
    simp [l, this]
  · have : b < a := by grind
    simp [l, this]
theorem cmpV_mem (a b : Rat) : cmpV a b ∈ ms := by
  unfold cmpV ms
  split
  · simp
  · split <;> simp
theorem cmpV_trans {a b c : Rat} (h : a ≠ b) (hc : (if decide (a < b) then decide (cmpV b c ≤ 0) else decide (0 ≤ cmpV b c)) = true) : cmpV a c = sg (decide (a < b)) := by
  unfold cmpV sg at *
  by_cases l : a < b
  · rw [if_pos (decide_eq_true l), decide_eq_true_eq] at hc
    rw [if_pos (decide_eq_true l)]
    by_cases e : b = c
    · subst e; rw [if_neg h, if_pos l]
    · rw [if_neg e] at hc
      by_cases l2 : b < c
      · rw [if_neg (by grind), if_pos (by grind)]
      · rw [if_neg l2] at hc; omega
  · have l' : ¬ (decide (a < b) = true) := by simpa using l
    rw [if_neg l', decide_eq_true_eq] at hc
    rw [if_neg l']
    by_cases e : b = c
    · subst e; rw [if_neg h, if_neg l]
    · rw [if_neg e] at hc
      by_cases l2 : b < c
      · rw [if_pos l2] at hc; omega
      · rw [if_neg (by grind), if_neg (by grind)]
theorem cmpV_add {a b c : Rat} (h : a ≠ b) : cmpV (a + c) (b + c) = sg (decide (a < b)) := by
  rw [cmpV_ne (by grind)]
  congr 1
  rw [decide_eq_decide]
  exact Rat.add_lt_add_right
theorem num_sign {a : Rat} : (0 < a ↔ 0 < a.num) ∧ (a < 0 ↔ a.num < 0) := by
  constructor
  · rw [Rat.lt_iff]; simp
  · rw [Rat.lt_iff]; simp
theorem cmpV_mul {a b c : Rat} (h : a ≠ b) (hc : 0 < c.num) : cmpV (a * c) (b * c) = sg (decide (a < b)) := by
  have h0 : 0 < c := num_sign.1.2 hc
  rw [cmpV_ne (fun e => ?_)]
  · congr 1
    rw [decide_eq_decide]
    exact Rat.mul_lt_mul_right h0
  · have hn : c ≠ 0 := by grind
    have := congrArg (· * c⁻¹) e
    simp only [Rat.mul_assoc, Rat.mul_inv_cancel c hn, Rat.mul_one] at this
    exact h this

noncomputable def stOf (a b c : Rat) : Nat := if okQ (a + c) then (if okQ (b + c) then 0 else 1) else 2
noncomputable def cqOf (a b c : Rat) : Nat := if c.num ≤ 0 then 0 else if okQ (a * c) then (if okQ (b * c) then 1 else 2) else 3
theorem stOf_mem (a b c : Rat) : stOf a b c ∈ sts := by
  unfold stOf sts
  split
  · split <;> simp
  · simp
theorem cqOf_mem (a b c : Rat) : cqOf a b c ∈ cqs := by
  unfold cqOf cqs
  split
  · simp
  · split
    · split <;> simp
    · simp

abbrev oRho (x0 x1 x2 x3 x4 x5 : Int) (a b c : Rat) (δ : Int) : Rho :=
  rho [x0, x1, x2, x3, x4, x5, a.num, a.den, b.num, b.den, c.num, c.den, δ, (a - b).num, (a - b).den, (a + c).num, (a + c).den, (b + c).num, (b + c).den, (a * c).num, (a * c).den, (b * c).num, (b * c).den,
    rN (b + c), rD (b + c), rE (b + c), rN (a * c), rD (a * c), rE (a * c), rN (b * c), rD (b * c), rE (b * c)]

section
variable [Rho]
theorem oC_f {c : Rat} (hc : okQ c) {cq : Nat} (h : (cq == 0) = decide (c.num ≤ 0)) (h1 : Rho.ρ 10 = c.num) (h2 : Rho.ρ 11 = c.den) : FA (oC cq) (frac c) ∧ FV (oC cq) (frac c) := by
  have b := okQ_bd hc
  have Y : FX (aD 11) (c.den : Int) .i64 := fx_lt h2 b.2
  unfold oC
  rw [h]
  by_cases hl : c.num ≤ 0
  · have X : FX (lt .i64 10 (-4611686018427387904) 0) c.num .i64 := fx_lt h1 (by omega)
    rw [decide_eq_true hl]
    exact ⟨fa_pair X Y rfl, fv_pair X Y rfl⟩
  · have X : FX (lt .i64 10 1 4611686018427387904) c.num .i64 := fx_lt h1 (by omega)
    rw [decide_eq_false hl]
    exact ⟨fa_pair X Y rfl, fv_pair X Y rfl⟩
theorem oD_f {a b : Rat} (h : a ≠ b) (h1 : Rho.ρ 13 = (a - b).num) (h2 : Rho.ρ 14 = (a - b).den) : FV (oD (decide (a < b)) (decide (okQ (a - b)))) (resV (a - b)) := by
  by_cases hk : okQ (a - b)
  · have bd := okQ_bd hk
    have hs : (a < b → (a - b).num < 0) ∧ (¬ a < b → 0 < (a - b).num) := ⟨fun l => num_sign.2.1 (by grind), fun l => num_sign.1.1 (by grind)⟩
    have hv : resV (a - b) = .agg #[.int .i64 (Rho.ρ 13), .int .i64 (Rho.ρ 14), .int .i64 0] := by
      unfold resV rN rD rE
      rw [if_pos hk, if_pos hk, if_pos hk, h1, h2]
    rw [decide_eq_true hk, hv]
    by_cases l : a < b
    · rw [decide_eq_true l]
      have := hs.1 l
      exact ⟨rfl, rfl, ⟨ltf (by rw [h1]; omega), ltf (by rw [h2]; exact bd.2), trivial, trivial⟩, rfl⟩
    · rw [decide_eq_false l]
      have := hs.2 l
      exact ⟨rfl, rfl, ⟨ltf (by rw [h1]; omega), ltf (by rw [h2]; exact bd.2), trivial, trivial⟩, rfl⟩
  · have := fv_R (i := 13) (p := a - b) (c := false) (decide_eq_false hk).symm h1 h2
    rw [decide_eq_false hk]
    exact this
end

theorem order_diff (x0 x1 x2 x3 x4 x5 : Int) (h0 : -9223372036854775808 ≤ x0 ∧ x0 ≤ 9223372036854775807) (h1 : -9223372036854775808 ≤ x1 ∧ x1 ≤ 9223372036854775807) (h2 : -9223372036854775808 ≤ x2 ∧ x2 ≤ 9223372036854775807)
    (h3 : -9223372036854775808 ≤ x3 ∧ x3 ≤ 9223372036854775807) (h4 : -9223372036854775808 ≤ x4 ∧ x4 ≤ 9223372036854775807) (h5 : -9223372036854775808 ≤ x5 ∧ x5 ≤ 9223372036854775807) (a b c : Rat) (oa : okQ a) (ob : okQ b) (oc : okQ c) (hab : a ≠ b)
    (ma : ∀ w : World, Calls Try.prog 15 #[.int .i64 x0, .int .i64 x1] w fun e w' => e = .returned (frac a) ∧ Below w.heap.size w w')
    (mb : ∀ w : World, Calls Try.prog 15 #[.int .i64 x2, .int .i64 x3] w fun e w' => e = .returned (frac b) ∧ Below w.heap.size w w')
    (mc : ∀ w : World, Calls Try.prog 15 #[.int .i64 x4, .int .i64 x5] w fun e w' => e = .returned (frac c) ∧ Below w.heap.size w w')
    (δ : Int) (k : Nat) (hrun : ∀ l, orderRuns k l = true)
    (A : letI := oRho x0 x1 x2 x3 x4 x5 a b c δ; FA (oA k) (frac a) ∧ FV (oA k) (frac a)) (B : letI := oRho x0 x1 x2 x3 x4 x5 a b c δ; FA (oB k) (frac b) ∧ FV (oB k) (frac b)) (w : World) :
    Calls Try.prog 5 #[.agg #[.int .i64 x0, .int .i64 x1], .agg #[.int .i64 x2, .int .i64 x3], .agg #[.int .i64 x4, .int .i64 x5]] w fun e w' => e = .returned (.bool true) ∧ Below w.heap.size w w' := by
  letI := oRho x0 x1 x2 x3 x4 x5 a b c δ
  have run : orderRun k (decide (a < b)) (cmpV b c) (decide (okQ (a - b))) (stOf a b c) (cqOf a b c) = true := by
    have h := hrun (decide (a < b))
    unfold orderRuns at h
    have h := all_bools (List.all_eq_true.1 h _ (cmpV_mem b c)) (decide (okQ (a - b)))
    exact List.all_eq_true.1 (List.all_eq_true.1 h _ (stOf_mem a b c)) _ (cqOf_mem a b c)
  have hq0 : (cqOf a b c == 0) = decide (c.num ≤ 0) := by
    unfold cqOf
    by_cases h : c.num ≤ 0
    · simp [h]
    · rw [if_neg h]; split
      · split <;> simp [h]
      · simp [h]
  have C := oC_f oc hq0 rfl rfl
  have S : FA (fr 15) (frac (a + c)) := fa_fr rfl rfl
  have T : FA (fr 17) (frac (b + c)) := fa_fr rfl rfl
  have P : FA (fr 19) (frac (a * c)) := fa_fr rfl rfl
  have Q : FA (fr 21) (frac (b * c)) := fa_fr rfl rfl
  have VS : FV (R (!(stOf a b c == 2)) 15) (resV (a + c)) := fv_R (by
    unfold stOf
    by_cases h : okQ (a + c)
    · rw [if_pos h]; split <;> simp [h]
    · simp [h]) rfl rfl
  have VT : FV (oT2 (stOf a b c)) (resV (b + c)) := by
    unfold oT2 stOf
    by_cases h : okQ (a + c)
    · rw [if_pos h]
      by_cases h' : okQ (b + c)
      · rw [if_pos h']; exact fv_R (decide_eq_true h').symm rfl rfl
      · rw [if_neg h']; exact fv_R (i := 17) (decide_eq_false h').symm rfl rfl
    · rw [if_neg h]; exact fv_res rfl rfl rfl
  have VP : FV (oP (cqOf a b c)) (resV (a * c)) := by
    unfold oP cqOf
    by_cases h0 : c.num ≤ 0
    · rw [if_pos h0]; exact fv_res rfl rfl rfl
    · rw [if_neg h0]
      by_cases h : okQ (a * c)
      · rw [if_pos h]
        by_cases h' : okQ (b * c)
        · rw [if_pos h']; exact fv_R (decide_eq_true h).symm rfl rfl
        · rw [if_neg h']; exact fv_R (decide_eq_true h).symm rfl rfl
      · rw [if_neg h]; exact fv_R (i := 19) (decide_eq_false h).symm rfl rfl
  have VQ : FV (oQ (cqOf a b c)) (resV (b * c)) := by
    unfold oQ cqOf
    by_cases h0 : c.num ≤ 0
    · rw [if_pos h0]; exact fv_res rfl rfl rfl
    · rw [if_neg h0]
      by_cases h : okQ (a * c)
      · rw [if_pos h]
        by_cases h' : okQ (b * c)
        · rw [if_pos h']; exact fv_R (decide_eq_true h').symm rfl rfl
        · rw [if_neg h']; exact fv_R (i := 21) (decide_eq_false h').symm rfl rfl
      · rw [if_neg h]; exact fv_res rfl rfl rfl
  have hst : (stOf a b c == 0) = true → okQ (a + c) ∧ okQ (b + c) := by
    unfold stOf
    split
    · split
      · rename_i h h'; exact fun _ => ⟨h, h'⟩
      · intro h; cases h
    · intro h; cases h
  have hcq : (cqOf a b c == 1) = true → 0 < c.num ∧ okQ (a * c) ∧ okQ (b * c) := by
    unfold cqOf
    split
    · intro h; cases h
    · split
      · split
        · rename_i h h' h''; exact fun _ => ⟨by omega, h', h''⟩
        · intro h; cases h
      · intro h; cases h
  refine run_open fit (orcOf_ok (L := orderFacts k (decide (a < b)) (cmpV b c) (decide (okQ (a - b))) (stOf a b c) (cqOf a b c)) ⟨?_, ?_, ?_, ?_, ?_, ?_, trivial⟩) run
    ⟨⟨ltf h0, ltf h1, trivial⟩, ⟨ltf h2, ltf h3, trivial⟩, ⟨ltf h4, ltf h5, trivial⟩, trivial⟩ w
  · exact one (fct_flat rfl rfl rfl trivial body10 ex_c)
  · exact two (holds2 (fa_x rfl) (fa_x rfl) A.2 body15 ma) (two (holds2 (fa_x rfl) (fa_x rfl) B.2 body15 mb) (one (holds2 (fa_x rfl) (fa_x rfl) C.2 body15 mc)))
  · refine two (holds2 A.1 A.1 fx_int.fv body24 (fun w => ?_)) (two (holds2 A.1 B.1 fx_int.fv body24 (fun w => ?_)) (two (holds2 B.1 A.1 fx_int.fv body24 (fun w => ?_)) (two (holds2 B.1 C.1 fx_int.fv body24 (cmp_c b c ob oc))
      (appH (cifH fun h => holds2 A.1 C.1 fx_int.fv body24 (fun w => ?_)) (appH (cifH fun h => holds2 S T fx_int.fv body24 (fun w => ?_)) (cifH fun h => holds2 P Q fx_int.fv body24 (fun w => ?_)))))))
    · have := cmp_c a a oa oa w; rwa [cmpV_self] at this
    · have := cmp_c a b oa ob w; rwa [cmpV_ne hab] at this
    · have := cmp_c b a ob oa w; rwa [cmpV_back hab] at this
    · have := cmp_c a c oa oc w; rwa [cmpV_trans hab h] at this
    · have := cmp_c (a + c) (b + c) (hst h).1 (hst h).2 w; rwa [cmpV_add hab] at this
    · have := cmp_c (a * c) (b * c) (hcq h).2.1 (hcq h).2.2 w; rwa [cmpV_mul hab (hcq h).1] at this
  · exact one (holds2 A.1 B.1 (oD_f hab rfl rfl) body18 (subL a b oa ob))
  · exact two (holds2 A.1 C.1 VS body16 (addL a c oa oc)) (one (holds2 B.1 C.1 VT body16 (addL b c ob oc)))
  · exact two (holds2 A.1 C.1 VP body20 (mulL a c oa oc)) (one (holds2 B.1 C.1 VQ body20 (mulL b c ob oc)))

theorem order_same (x0 x1 x2 x3 x4 x5 : Int) (h0 : -9223372036854775808 ≤ x0 ∧ x0 ≤ 9223372036854775807) (h1 : -9223372036854775808 ≤ x1 ∧ x1 ≤ 9223372036854775807) (h2 : -9223372036854775808 ≤ x2 ∧ x2 ≤ 9223372036854775807)
    (h3 : -9223372036854775808 ≤ x3 ∧ x3 ≤ 9223372036854775807) (h4 : -9223372036854775808 ≤ x4 ∧ x4 ≤ 9223372036854775807) (h5 : -9223372036854775808 ≤ x5 ∧ x5 ≤ 9223372036854775807) (a c : Rat) (oa : okQ a) (oc : okQ c)
    (ma : ∀ w : World, Calls Try.prog 15 #[.int .i64 x0, .int .i64 x1] w fun e w' => e = .returned (frac a) ∧ Below w.heap.size w w')
    (mb : ∀ w : World, Calls Try.prog 15 #[.int .i64 x2, .int .i64 x3] w fun e w' => e = .returned (frac a) ∧ Below w.heap.size w w')
    (mc : ∀ w : World, Calls Try.prog 15 #[.int .i64 x4, .int .i64 x5] w fun e w' => e = .returned (frac c) ∧ Below w.heap.size w w') (w : World) :
    Calls Try.prog 5 #[.agg #[.int .i64 x0, .int .i64 x1], .agg #[.int .i64 x2, .int .i64 x3], .agg #[.int .i64 x4, .int .i64 x5]] w fun e w' => e = .returned (.bool true) ∧ Below w.heap.size w w' := by
  letI := oRho x0 x1 x2 x3 x4 x5 a a c 0
  have run : sameRun (cmpV a c) (decide (okQ (a + c))) (decide (okQ (a * c))) (!(decide (c.num ≤ 0))) = true := by
    have h := List.all_eq_true.1 same_runs _ (cmpV_mem a c)
    exact all_bools (all_bools (all_bools h _) _) _
  have A : FA (fr 6) (frac a) := fa_fr rfl rfl
  have VA : FV (fr 6) (frac a) := fv_fr oa rfl rfl
  have C := oC_f oc (cq := if !(decide (c.num ≤ 0)) then 1 else 0) (by cases decide (c.num ≤ 0) <;> rfl) rfl rfl
  have S : FA (fr 15) (frac (a + c)) := fa_fr rfl rfl
  have P : FA (fr 19) (frac (a * c)) := fa_fr rfl rfl
  have VS : FV (R (decide (okQ (a + c))) 15) (resV (a + c)) := fv_R rfl rfl rfl
  have VP : FV (R (decide (okQ (a * c))) 19) (resV (a * c)) := fv_R rfl rfl rfl
  refine run_open fit (orcOf_ok (L := sameFacts (cmpV a c) (decide (okQ (a + c))) (decide (okQ (a * c))) (!(decide (c.num ≤ 0)))) ⟨?_, ?_, ?_, ?_, ?_, ?_, trivial⟩) run
    ⟨⟨ltf h0, ltf h1, trivial⟩, ⟨ltf h2, ltf h3, trivial⟩, ⟨ltf h4, ltf h5, trivial⟩, trivial⟩ w
  · exact one (fct_flat rfl rfl rfl trivial body10 ex_c)
  · exact two (holds2 (fa_x rfl) (fa_x rfl) VA body15 ma) (two (holds2 (fa_x rfl) (fa_x rfl) VA body15 mb) (one (holds2 (fa_x rfl) (fa_x rfl) C.2 body15 mc)))
  · refine two (holds2 A A fx_int.fv body24 (fun w => ?_)) (two (holds2 A C.1 fx_int.fv body24 (cmp_c a c oa oc)) (appH (cifH fun h => holds2 S S fx_int.fv body24 (fun w => ?_)) (cifH fun h => holds2 P P fx_int.fv body24 (fun w => ?_))))
    · have := cmp_c a a oa oa w; rwa [cmpV_self] at this
    · have := cmp_c (a + c) (a + c) (of_decide_eq_true h) (of_decide_eq_true h) w; rwa [cmpV_self] at this
    · have := cmp_c (a * c) (a * c) (of_decide_eq_true h) (of_decide_eq_true h) w; rwa [cmpV_self] at this
  · refine one (holds2 A A fv_z body18 ?_)
    have := subL a a oa oa; rwa [Rat.sub_self] at this
  · exact one (holds2 A C.1 VS body16 (addL a c oa oc))
  · exact one (holds2 A C.1 VP body20 (mulL a c oa oc))

theorem order_c (x0 x1 x2 x3 x4 x5 : Int) (h0 : -9223372036854775808 ≤ x0 ∧ x0 ≤ 9223372036854775807) (h1 : -9223372036854775808 ≤ x1 ∧ x1 ≤ 9223372036854775807) (h2 : -9223372036854775808 ≤ x2 ∧ x2 ≤ 9223372036854775807)
    (h3 : -9223372036854775808 ≤ x3 ∧ x3 ≤ 9223372036854775807) (h4 : -9223372036854775808 ≤ x4 ∧ x4 ≤ 9223372036854775807) (h5 : -9223372036854775808 ≤ x5 ∧ x5 ≤ 9223372036854775807) (w : World) :
    Calls Try.prog 5 #[.agg #[.int .i64 x0, .int .i64 x1], .agg #[.int .i64 x2, .int .i64 x3], .agg #[.int .i64 x4, .int .i64 x5]] w fun e w' => e = .returned (.bool true) ∧ Below w.heap.size w w' := by
  have ma := made_c x0 x1 h0 h1
  have mb := made_c x2 x3 h2 h3
  have mc := made_c x4 x5 h4 h5
  have oa : okQ (madeQ (mu x0 x1 + 1) x0 x1) := madeQ_ok _ _ _
  have ob : okQ (madeQ (mu x2 x3 + 1) x2 x3) := madeQ_ok _ _ _
  have oc : okQ (madeQ (mu x4 x5 + 1) x4 x5) := madeQ_ok _ _ _
  generalize madeQ (mu x0 x1 + 1) x0 x1 = a at *
  generalize madeQ (mu x2 x3 + 1) x2 x3 = b at *
  generalize madeQ (mu x4 x5 + 1) x4 x5 = c at *
  have bp := okQ_bd oa
  have bq := okQ_bd ob
  by_cases e : a = b
  · subst e
    exact order_same x0 x1 x2 x3 x4 x5 h0 h1 h2 h3 h4 h5 a c oa oc ma mb mc w
  · have hd : a.num < b.num ∨ b.num < a.num ∨ a.num = b.num ∧ (a.den : Int) < b.den ∨ a.num = b.num ∧ (b.den : Int) < a.den := by
      have : a.num = b.num → a.den ≠ b.den := fun h1 h2 => e (Rat.ext h1 h2)
      omega
    rcases hd with h | h | ⟨hn, h⟩ | ⟨hn, h⟩
    · refine order_diff x0 x1 x2 x3 x4 x5 h0 h1 h2 h3 h4 h5 a b c oa ob oc e ma mb mc (b.num - a.num) 1 (fun l => match l with | true => orderT1 | false => orderF1) ?_ ?_ w
      · letI := oRho x0 x1 x2 x3 x4 x5 a b c (b.num - a.num)
        exact ⟨fa_fr rfl rfl, fv_fr oa rfl rfl⟩
      · letI := oRho x0 x1 x2 x3 x4 x5 a b c (b.num - a.num)
        have X : FX (oS 6) b.num .i64 := fx_sym ⟨bp.1, show 1 ≤ b.num - a.num ∧ b.num - a.num ≤ 9223372036854775808 by omega⟩ (show a.num + (b.num - a.num) = _ by omega) bq.1
        have Y : FX (aD 9) b.den .i64 := fx_lt rfl bq.2
        exact ⟨fa_pair X Y rfl, fv_pair X Y rfl⟩
    · refine order_diff x0 x1 x2 x3 x4 x5 h0 h1 h2 h3 h4 h5 a b c oa ob oc e ma mb mc (a.num - b.num) 2 (fun l => match l with | true => orderT2 | false => orderF2) ?_ ?_ w
      · letI := oRho x0 x1 x2 x3 x4 x5 a b c (a.num - b.num)
        have X : FX (oS 8) a.num .i64 := fx_sym ⟨bq.1, show 1 ≤ a.num - b.num ∧ a.num - b.num ≤ 9223372036854775808 by omega⟩ (show b.num + (a.num - b.num) = _ by omega) bp.1
        have Y : FX (aD 7) a.den .i64 := fx_lt rfl bp.2
        exact ⟨fa_pair X Y rfl, fv_pair X Y rfl⟩
      · letI := oRho x0 x1 x2 x3 x4 x5 a b c (a.num - b.num)
        exact ⟨fa_fr rfl rfl, fv_fr ob rfl rfl⟩
    · refine order_diff x0 x1 x2 x3 x4 x5 h0 h1 h2 h3 h4 h5 a b c oa ob oc e ma mb mc ((b.den : Int) - a.den) 3 (fun l => match l with | true => orderT3 | false => orderF3) ?_ ?_ w
      · letI := oRho x0 x1 x2 x3 x4 x5 a b c ((b.den : Int) - a.den)
        exact ⟨fa_fr rfl rfl, fv_fr oa rfl rfl⟩
      · letI := oRho x0 x1 x2 x3 x4 x5 a b c ((b.den : Int) - a.den)
        have X : FX (aN 6) b.num .i64 := fx_lt hn bq.1
        have Y : FX (oT 7) b.den .i64 := fx_sym ⟨bp.2, show 1 ≤ (b.den : Int) - a.den ∧ (b.den : Int) - a.den ≤ 9223372036854775808 by omega⟩ (show (a.den : Int) + ((b.den : Int) - a.den) = _ by omega) bq.2
        exact ⟨fa_pair X Y rfl, fv_pair X Y rfl⟩
    · refine order_diff x0 x1 x2 x3 x4 x5 h0 h1 h2 h3 h4 h5 a b c oa ob oc e ma mb mc ((a.den : Int) - b.den) 4 (fun l => match l with | true => orderT4 | false => orderF4) ?_ ?_ w
      · letI := oRho x0 x1 x2 x3 x4 x5 a b c ((a.den : Int) - b.den)
        have X : FX (aN 6) a.num .i64 := fx_lt rfl bp.1
        have Y : FX (oT 9) a.den .i64 := fx_sym ⟨bq.2, show 1 ≤ (a.den : Int) - b.den ∧ (a.den : Int) - b.den ≤ 9223372036854775808 by omega⟩ (show (b.den : Int) + ((a.den : Int) - b.den) = _ by omega) bp.2
        exact ⟨fa_pair X Y rfl, fv_pair X Y rfl⟩
      · letI := oRho x0 x1 x2 x3 x4 x5 a b c ((a.den : Int) - b.den)
        have X : FX (aN 6) b.num .i64 := fx_lt hn bq.1
        have Y : FX (aD 9) b.den .i64 := fx_lt rfl bq.2
        exact ⟨fa_pair X Y rfl, fv_pair X Y rfl⟩

end Go.Proofs.Ytieabeodommbiaa
