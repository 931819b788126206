/- RatRounds: evaluated with letters, and what it answers for all numbers. -/
import Derived.Test.YtieabeodommbiaaQi
namespace Go.Proofs.Ytieabeodommbiaa
open Go.RowKit (Below)
open Go.Ev

abbrev kI : AV := lt .i32 2 (-2147483648) 2147483647
abbrev kF : AV := .agg [lt .i64 2 (-2147483648) 2147483647, .int .i64 1]
noncomputable def rA (o : Bool) : AV := if o then .agg [aN 3, .int .i64 1] else .agg [aN 3, lt .i64 4 2 4611686018427387904]
noncomputable def rAD (o : Bool) : AV := if o then .agg [.int .i64 1, .int .i64 1] else .agg [lt .i64 4 2 4611686018427387904, .int .i64 1]
noncomputable def rC (o : Bool) : AV := if o then aN 5 else .sym .i64 (.bin .add (.var 5 (-4611686018427387904) 4611686018427387904) (.lit 1)) (-4611686018427387904) 4611686018427387904
noncomputable def rCI (o : Bool) : AV := .agg [rC o, .int .i64 1]
abbrev eFK : SX := .bin .add (.var 5 (-4611686018427387904) 4611686018427387904) (.var 2 (-2147483648) 2147483647)
abbrev eCK : SX := .bin .add (.bin .add (.var 5 (-4611686018427387904) 4611686018427387904) (.lit 1)) (.var 2 (-2147483648) 2147483647)
abbrev fK : AV := .sym .i64 eFK (-4611686020574871552) 4611686020574871552
noncomputable def cK (o : Bool) : AV := .sym .i64 (if o then eFK else eCK) (-4611686020574871552) 4611686020574871552
noncomputable def roundFacts (o s : Bool) : List (FuncId × List Fct) :=
  [(10, [⟨[], [], .bool true, [], []⟩]),
   (15, [F2 (xs 0) (xs 1) (rA o)]),
   (26, ⟨[rA o], [], aN 5, [], []⟩ :: cif s ⟨[fr 6], [], fK, [], []⟩),
   (28, ⟨[rA o], [], rC o, [], []⟩ :: cif s ⟨[fr 6], [], cK o, [], []⟩),
   (24, [F2 (.agg [aN 5, .int .i64 1]) (rA o) (.int .i64 (if o then 0 else -1)), F2 (rA o) (rCI o) (.int .i64 (if o then 0 else -1))]),
   (16, [F2 (rA o) kF (R s 6)]),
   (20, [F2 (rA o) (rAD o) (.agg [aN 3, .int .i64 1, .int .i64 0])])]
theorem round_run : (bools.all fun o => bools.all fun s => okRun Try.prog (orcOf (roundFacts o s)) 7 [xp 0, kI] (.bool true)) = true := by kernel_rfl

theorem ceil_of {a : Rat} (h : a.den ≠ 1) : a.ceil = a.floor + 1 ∧ (a.floor : Rat) < a ∧ a < (a.ceil : Rat) := by
  have n1 : ∀ z : Int, (z : Rat) ≠ a := fun z e => h (by rw [← e, Rat.den_intCast])
  have l1 : (a.floor : Rat) < a := by
    refine Rat.not_le.1 (fun hle => n1 a.floor (Rat.le_antisymm (Rat.floor_le a) hle))
  have l2 : a < (a.ceil : Rat) := by
    refine Rat.not_le.1 (fun hle => n1 a.ceil (Rat.le_antisymm hle Rat.le_ceil))
  refine ⟨?_, l1, l2⟩
  have h1 : a.floor < a.ceil := Rat.lt_ceil_iff.2 l1
  have h2 : a.ceil ≤ a.floor + 1 := Rat.ceil_le_iff.2 (by have := Rat.lt_floor_add_one a; grind)
  omega

theorem fracI (z : Int) : frac (z : Rat) = .agg #[.int .i64 z, .int .i64 1] := by unfold frac; rw [Rat.num_intCast, Rat.den_intCast]; rfl
theorem okI {z : Int} (h : -4611686018427387904 ≤ z ∧ z ≤ 4611686018427387904) : okQ (z : Rat) := by
  unfold okQ; rw [Rat.num_intCast, Rat.den_intCast]; omega
theorem ceil_bd {p : Rat} (hp : okQ p) : -4611686018427387904 ≤ p.ceil ∧ p.ceil ≤ 4611686018427387904 := by
  have h := floor_bd (neg_ok hp)
  rw [Rat.ceil_eq_neg_floor_neg]; omega
theorem int_of {a : Rat} (h : a.den = 1) : ((a.num : Int) : Rat) = a := Rat.ext (Rat.num_intCast _) (by rw [Rat.den_intCast, h])
theorem mul_den_q (a : Rat) : a * ((a.den : Int) : Rat) = ((a.num : Int) : Rat) := by
  have hd : ((a.den : Int) : Rat) ≠ 0 := by
    intro e
    have := congrArg Rat.num e
    rw [Rat.num_intCast] at this
    have := a.den_pos
    simp at *; omega
  have e := Rat.num_divInt_den a
  rw [Rat.divInt_eq_div] at e
  conv => lhs; lhs; rw [← e]
  rw [Rat.div_def, Rat.mul_assoc, Rat.inv_mul_cancel _ hd, Rat.mul_one]

section
variable [Rho]
theorem fvI {x : AV} {n : Int} (h : FX x n .i64) (g : all1 (Nat.blt · 0) (.agg [x, .int .i64 1]) = true) : FA (.agg [x, .int .i64 1]) (frac (n : Rat)) := by
  rw [fracI]; exact fa_pair h fx_int g
theorem rA_f {a : Rat} (ha : okQ a) {o : Bool} (ho : o = decide (a.den = 1)) (h3 : Rho.ρ 3 = a.num) (h4 : Rho.ρ 4 = a.den) : FA (rA o) (frac a) ∧ FV (rA o) (frac a) ∧ FA (rAD o) (frac ((a.den : Int) : Rat)) := by
  have b := okQ_bd ha
  subst ho
  rw [fracI]
  by_cases h : a.den = 1
  · rw [decide_eq_true h]
    unfold frac
    rw [h]
    have X : FX (aN 3) a.num .i64 := fx_lt h3 b.1
    exact ⟨fa_pair X fx_int rfl, fv_pair X fx_int rfl, fa_pair fx_int fx_int rfl⟩
  · rw [decide_eq_false h]
    have X : FX (aN 3) a.num .i64 := fx_lt h3 b.1
    have Y : FX (lt .i64 4 2 4611686018427387904) (a.den : Int) .i64 := fx_lt h4 (by omega)
    exact ⟨fa_pair X Y rfl, fv_pair X Y rfl, fa_pair Y fx_int rfl⟩
theorem rC_f {a : Rat} (ha : okQ a) {o : Bool} (ho : o = decide (a.den = 1)) (h5 : Rho.ρ 5 = a.floor) : FX (rC o) a.ceil .i64 ∧ FA (rCI o) (frac (a.ceil : Rat)) := by
  have b := floor_bd ha
  have c := ceil_bd ha
  subst ho
  by_cases h : a.den = 1
  · rw [decide_eq_true h]
    have e : a.ceil = a.floor := by rw [← int_of h, Rat.ceil_intCast, Rat.floor_intCast]
    have X : FX (aN 5) a.ceil .i64 := fx_lt (by rw [h5, e]) c
    exact ⟨X, fvI X rfl⟩
  · rw [decide_eq_false h]
    have X : FX (.sym .i64 (.bin .add (.var 5 (-4611686018427387904) 4611686018427387904) (.lit 1)) (-4611686018427387904) 4611686018427387904) a.ceil .i64 :=
      fx_sym ⟨show _ ≤ Rho.ρ 5 ∧ Rho.ρ 5 ≤ _ by rw [h5]; exact b, trivial⟩ (by show Rho.ρ 5 + 1 = _; rw [h5, (ceil_of h).1]) c
    exact ⟨X, fvI X rfl⟩
theorem cK_f {a : Rat} {k : Int} (ha : okQ a) (hk : -2147483648 ≤ k ∧ k ≤ 2147483647) {o : Bool} (ho : o = decide (a.den = 1)) (h2 : Rho.ρ 2 = k) (h5 : Rho.ρ 5 = a.floor) :
    FX fK (a + k).floor .i64 ∧ FX (cK o) (a + k).ceil .i64 := by
  have b := floor_bd ha
  have c := ceil_bd ha
  rw [Rat.floor_add_intCast, Rat.ceil_add_intCast]
  have X : FX fK (a.floor + k) .i64 := fx_sym ⟨show _ ≤ Rho.ρ 5 ∧ Rho.ρ 5 ≤ _ by rw [h5]; exact b, show _ ≤ Rho.ρ 2 ∧ Rho.ρ 2 ≤ _ by rw [h2]; exact hk⟩ (by show Rho.ρ 5 + Rho.ρ 2 = _; rw [h5, h2]) (by omega)
  refine ⟨X, ?_⟩
  subst ho
  by_cases h : a.den = 1
  · rw [decide_eq_true h]
    have e : a.ceil = a.floor := by rw [← int_of h, Rat.ceil_intCast, Rat.floor_intCast]
    rw [e]; exact X
  · rw [decide_eq_false h]
    exact fx_sym ⟨⟨show _ ≤ Rho.ρ 5 ∧ Rho.ρ 5 ≤ _ by rw [h5]; exact b, trivial⟩, show _ ≤ Rho.ρ 2 ∧ Rho.ρ 2 ≤ _ by rw [h2]; exact hk⟩ (by show Rho.ρ 5 + 1 + Rho.ρ 2 = _; rw [h5, h2, (ceil_of h).1]) (by omega)
end

theorem round_cmp (a : Rat) {o : Bool} (ho : o = decide (a.den = 1)) : cmpV (a.floor : Rat) a = (if o then 0 else -1) ∧ cmpV a (a.ceil : Rat) = (if o then 0 else -1) := by
  subst ho
  unfold cmpV
  by_cases h : a.den = 1
  · rw [decide_eq_true h]
    have e : (a.floor : Rat) = a := by
      have := int_of h
      rw [← this, Rat.floor_intCast]
    have e2 : (a.ceil : Rat) = a := by
      have := int_of h
      rw [← this, Rat.ceil_intCast]
    rw [e, e2]; simp
  · rw [decide_eq_false h]
    obtain ⟨_, l1, l2⟩ := ceil_of h
    have n1 : (a.floor : Rat) ≠ a := fun e => by rw [e] at l1; exact Rat.lt_irrefl l1
    have n2 : a ≠ (a.ceil : Rat) := fun e => by rw [← e] at l2; exact Rat.lt_irrefl l2
    rw [if_neg n1, if_pos l1, if_neg n2, if_pos l2]
    exact ⟨rfl, rfl⟩

theorem round_c (x0 x1 k : Int) (h0 : -9223372036854775808 ≤ x0 ∧ x0 ≤ 9223372036854775807) (h1 : -9223372036854775808 ≤ x1 ∧ x1 ≤ 9223372036854775807) (hk : -2147483648 ≤ k ∧ k ≤ 2147483647) (w : World) :
    Calls Try.prog 7 #[.agg #[.int .i64 x0, .int .i64 x1], .int .i32 k] w fun e w' => e = .returned (.bool true) ∧ Below w.heap.size w w' := by
  have ma := made_c x0 x1 h0 h1
  have oa : okQ (madeQ (mu x0 x1 + 1) x0 x1) := madeQ_ok _ _ _
  generalize madeQ (mu x0 x1 + 1) x0 x1 = a at *
  have b := okQ_bd oa
  have ok : okQ (k : Rat) := okI (by omega)
  have hc := round_cmp a rfl
  letI := rho [x0, x1, k, a.num, a.den, a.floor, (a + k).num, (a + k).den]
  have A := rA_f oa rfl rfl rfl
  have C := rC_f oa rfl rfl
  have K := cK_f oa hk rfl rfl rfl
  have F : FX (aN 5) a.floor .i64 := fx_lt rfl (floor_bd oa)
  have VS : FV (R (decide (okQ (a + k))) 6) (resV (a + k)) := fv_R rfl rfl rfl
  have S : FA (fr 6) (frac (a + k)) := fa_fr rfl rfl
  have kk : FX (lt .i64 2 (-2147483648) 2147483647) k .i64 := fx_lt rfl hk
  have k3 : FX kI k .i32 := fx_lt rfl hk
  refine run_open fit (orcOf_ok (L := roundFacts (decide (a.den = 1)) (decide (okQ (a + k)))) ⟨?_, ?_, ?_, ?_, ?_, ?_, ?_, trivial⟩)
    (all_bools (f := fun s => okRun Try.prog (orcOf (roundFacts (decide (a.den = 1)) s)) 7 [xp 0, kI] (.bool true)) (all_bools (f := fun o => bools.all fun s => okRun Try.prog (orcOf (roundFacts o s)) 7 [xp 0, kI] (.bool true)) round_run _) _) ⟨⟨ltf h0, ltf h1, trivial⟩, k3.fine1, trivial⟩ w
  · exact one (fct_flat rfl rfl rfl trivial body10 ex_c)
  · exact one (holds2 (fa_x rfl) (fa_x rfl) A.2.1 body15 ma)
  · exact two (holds1 A.1 F.fv body26 (floor_c a oa)) (cifH fun h => holds1 S K.1.fv body26 (floor_c (a + k) (of_decide_eq_true h)))
  · exact two (holds1 A.1 C.1.fv body28 (ceil_c a oa)) (cifH fun h => holds1 S K.2.fv body28 (ceil_c (a + k) (of_decide_eq_true h)))
  · refine two (holds2 (fvI F rfl) A.1 fx_int.fv body24 (fun w => ?_)) (one (holds2 A.1 C.2 fx_int.fv body24 (fun w => ?_)))
    · rw [← hc.1]; exact cmp_c _ _ (okI (floor_bd oa)) oa w
    · rw [← hc.2]; exact cmp_c _ _ oa (okI (ceil_bd oa)) w
  · exact one (holds2 A.1 (fvI kk rfl) VS body16 (addL a k oa ok))
  · refine one (holds2 A.1 A.2.2 (v := .agg [aN 3, .int .i64 1, .int .i64 0]) (vv := resV ((a.num : Int) : Rat)) ?_ body20 (fun w => ?_))
    · have hn : okQ ((a.num : Int) : Rat) := okI b.1
      refine ⟨rfl, rfl, ⟨ltf b.1, trivial, trivial, trivial⟩, ?_⟩
      unfold resV rN rD rE
      rw [if_pos hn, if_pos hn, if_pos hn, Rat.num_intCast, Rat.den_intCast]; rfl
    · have := mulL a ((a.den : Int) : Rat) oa (okI (by omega)) w
      rwa [mul_den_q] at this

end Go.Proofs.Ytieabeodommbiaa
