/- RatField: what it answers, for all numbers. -/
import Derived.Test.YtieabeodommbiaaQd
import Derived.Test.YtieabeodommbiaaQe
import Derived.Test.YtieabeodommbiaaQe2
namespace Go.Proofs.Ytieabeodommbiaa
open Go.RowKit (Below)
open Go.Ev

theorem all_bools {f : Bool → Bool} (h : bools.all f = true) (b : Bool) : f b = true := by
  simp only [bools, List.all_cons, List.all_nil, Bool.and_true, Bool.and_eq_true] at h
  cases b
  · exact h.2
  · exact h.1

theorem ok0 : okQ 0 := by simp [okQ]
theorem ok1 : okQ 1 := by simp [okQ]
def kOf (b : Rat) : Nat := if b.num = 0 then 0 else if 0 < b.num then 1 else 2
theorem kOf_cases (b : Rat) : kOf b = 0 ∨ kOf b = 1 ∨ kOf b = 2 := by
  unfold kOf
  split
  · exact .inl rfl
  · split
    · exact .inr (.inl rfl)
    · exact .inr (.inr rfl)

section
variable [Rho]
/-- an argument, a result, and what they stand for -/
structure FA (x : AV) (v : Value) : Prop where
  good : all1 (Nat.blt · 0) x = true
  flat : x.flat1 = true
  vl : x.vl1 = v
structure FV (x : AV) (v : Value) : Prop where
  good : all2 (inS 0 []) x = true
  flat : x.flat = true
  fine : x.fine
  vl : x.vl = v

theorem holds2 {f : FuncId} {x y v : AV} {vx vy vv : Value} (hx : FA x vx) (hy : FA y vy) (hv : FV v vv) (hb : hasBody Try.prog f = true)
    (hc : ∀ w : World, Calls Try.prog f #[vx, vy] w fun e w' => e = .returned vv ∧ Below w.heap.size w w') : (F2 x y v).Holds Try.prog f := by
  refine fct_flat ?_ ?_ hv.flat hv.fine hb (fun w => ?_)
  · show ((([] : List ABlk).all _) && ((([x, y] : List AV).all (all1 (Nat.blt · 0))) && (all2 (inS 0 []) v && _))) = true
    simp [hx.good, hy.good, hv.good, nodupB]
  · simp [hx.flat, hy.flat]
  · rw [hv.vl]
    simp only [List.map_cons, List.map_nil, hx.vl, hy.vl]
    exact hc w

theorem fa_fr {i : Nat} {p : Rat} (h1 : Rho.ρ i = p.num) (h2 : Rho.ρ (i + 1) = p.den) : FA (fr i) (frac p) :=
  ⟨rfl, rfl, by show Value.agg #[.int .i64 (Rho.ρ i), .int .i64 (Rho.ρ (i + 1))] = _; rw [h1, h2]; rfl⟩
theorem fa_x {i : Nat} {n : Int} (h : Rho.ρ i = n) : FA (xs i) (.int .i64 n) := ⟨rfl, rfl, by show Value.int .i64 (Rho.ρ i) = _; rw [h]⟩
theorem fv_fr {i : Nat} {p : Rat} (hp : okQ p) (h1 : Rho.ρ i = p.num) (h2 : Rho.ρ (i + 1) = p.den) : FV (fr i) (frac p) :=
  ⟨rfl, rfl, fr_fine hp h1 h2, (fa_fr h1 h2).vl⟩
theorem fv_res {i : Nat} {p : Rat} (h1 : Rho.ρ i = rN p) (h2 : Rho.ρ (i + 1) = rD p) (h3 : Rho.ρ (i + 2) = rE p) : FV (resA i) (resV p) := by
  have := r_bd p
  refine ⟨rfl, rfl, ⟨ltf (by rw [h1]; exact this.1), ltf (by rw [h2]; exact this.2.1), ltf (by rw [h3]; exact this.2.2), trivial⟩, ?_⟩
  show Value.agg #[.int .i64 (Rho.ρ i), .int .i64 (Rho.ρ (i + 1)), .int .i64 (Rho.ρ (i + 2))] = _
  rw [h1, h2, h3]; rfl
theorem fv_R {i : Nat} {p : Rat} {c : Bool} (hc : c = decide (okQ p)) (h1 : Rho.ρ i = p.num) (h2 : Rho.ρ (i + 1) = p.den) : FV (R c i) (resV p) := by
  subst hc
  by_cases hp : okQ p
  · have := okQ_bd hp
    rw [decide_eq_true hp]
    refine ⟨rfl, rfl, ⟨ltf (by rw [h1]; exact this.1), ltf (by rw [h2]; exact this.2), trivial, trivial⟩, ?_⟩
    show Value.agg #[.int .i64 (Rho.ρ i), .int .i64 (Rho.ρ (i + 1)), .int .i64 0] = _
    unfold resV rN rD rE
    rw [h1, h2, if_pos hp, if_pos hp, if_pos hp]
  · rw [decide_eq_false hp]
    refine ⟨rfl, rfl, ⟨trivial, trivial, trivial, trivial⟩, ?_⟩
    unfold resV rN rD rE
    rw [if_neg hp, if_neg hp, if_neg hp]; rfl
theorem fa_b {b : Rat} (h1 : Rho.ρ 8 = b.num) (h2 : Rho.ρ 9 = b.den) : FA (bF (kOf b)) (frac b) := by
  unfold kOf
  split
  · rename_i h; exact ⟨rfl, rfl, by show Value.agg #[.int .i64 0, .int .i64 (Rho.ρ 9)] = _; unfold frac; rw [h2, h]⟩
  · split <;> exact ⟨rfl, rfl, by show Value.agg #[.int .i64 (Rho.ρ 8), .int .i64 (Rho.ρ 9)] = _; rw [h1, h2]; rfl⟩
theorem fv_b {b : Rat} (hb : okQ b) (h1 : Rho.ρ 8 = b.num) (h2 : Rho.ρ 9 = b.den) : FV (bF (kOf b)) (frac b) := by
  have hv : (bF (kOf b)).vl = frac b := (fa_b h1 h2).vl
  have h := okQ_bd hb
  revert hv
  unfold kOf
  split
  · exact fun hv => ⟨rfl, rfl, ⟨trivial, ltf (by rw [h2]; exact h.2), trivial⟩, hv⟩
  · split
    · exact fun hv => ⟨rfl, rfl, ⟨ltf (by rw [h1]; omega), ltf (by rw [h2]; exact h.2), trivial⟩, hv⟩
    · exact fun hv => ⟨rfl, rfl, ⟨ltf (by rw [h1]; omega), ltf (by rw [h2]; exact h.2), trivial⟩, hv⟩
theorem fa_z : FA zF (frac 0) := ⟨rfl, rfl, rfl⟩
theorem fa_o : FA oF (frac 1) := ⟨rfl, rfl, rfl⟩
theorem fv_z : FV zR (resV 0) := by
  refine ⟨rfl, rfl, ⟨trivial, trivial, trivial, trivial⟩, ?_⟩
  unfold resV rN rD rE
  rw [if_pos ok0, if_pos ok0, if_pos ok0]; rfl

theorem cifH {f : FuncId} {c : Bool} {F : Fct} (h : c = true → F.Holds Try.prog f) : ∀ F' ∈ cif c F, F'.Holds Try.prog f := by
  intro F' hF
  cases c
  · simp [cif] at hF
  · simp only [cif, if_pos, List.mem_singleton] at hF
    rw [hF]; exact h rfl
theorem appH {f : FuncId} {l m : List Fct} (h1 : ∀ F' ∈ l, F'.Holds Try.prog f) (h2 : ∀ F' ∈ m, F'.Holds Try.prog f) : ∀ F' ∈ l ++ m, F'.Holds Try.prog f := by
  intro F' hF
  rcases List.mem_append.1 hF with h | h
  · exact h1 F' h
  · exact h2 F' h
end

theorem body10 : hasBody Try.prog 10 = true := by kernel_rfl
theorem body15 : hasBody Try.prog 15 = true := by kernel_rfl
theorem ex_run : okRun Try.prog (orcOf []) 10 [] (.bool true) = true := by kernel_rfl
theorem ex_c (w : World) : Calls Try.prog 10 #[] w fun e w' => e = .returned (.bool true) ∧ Below w.heap.size w w' :=
  letI := rho []
  run_open fit (orcOf_ok (L := []) trivial) ex_run trivial w

theorem field_run (k : Nat) (hk : k = 0 ∨ k = 1 ∨ k = 2) (s t p q r L : Bool) : okRun Try.prog (orcOf (fieldFacts k s t p q r L)) 4 [xp 0, xp 2, xp 4] (.bool true) = true := by
  have h : runOf k s t = true := by
    rcases hk with rfl | rfl | rfl <;> cases s
    · exact all_bools run0fs t
    · exact all_bools run0ts t
    · exact all_bools run1fs t
    · exact all_bools run1ts t
    · exact all_bools run2fs t
    · exact all_bools run2ts t
  exact all_bools (all_bools (all_bools (all_bools h p) q) r) L

theorem field_c (x0 x1 x2 x3 x4 x5 : Int) (h0 : -9223372036854775808 ≤ x0 ∧ x0 ≤ 9223372036854775807) (h1 : -9223372036854775808 ≤ x1 ∧ x1 ≤ 9223372036854775807) (h2 : -9223372036854775808 ≤ x2 ∧ x2 ≤ 9223372036854775807)
    (h3 : -9223372036854775808 ≤ x3 ∧ x3 ≤ 9223372036854775807) (h4 : -9223372036854775808 ≤ x4 ∧ x4 ≤ 9223372036854775807) (h5 : -9223372036854775808 ≤ x5 ∧ x5 ≤ 9223372036854775807) (w : World) :
    Calls Try.prog 4 #[.agg #[.int .i64 x0, .int .i64 x1], .agg #[.int .i64 x2, .int .i64 x3], .agg #[.int .i64 x4, .int .i64 x5]] w fun e w' => e = .returned (.bool true) ∧ Below w.heap.size w w' := by
  have ma := made_c x0 x1 h0 h1
  have mb := made_c x2 x3 h2 h3
  have mc := made_c x4 x5 h4 h5
  have oa : okQ (madeQ (mu x0 x1 + 1) x0 x1) := madeQ_ok _ _ _
  have ob : okQ (madeQ (mu x2 x3 + 1) x2 x3) := madeQ_ok _ _ _
  have oc : okQ (madeQ (mu x4 x5 + 1) x4 x5) := madeQ_ok _ _ _
  generalize madeQ (mu x0 x1 + 1) x0 x1 = a at *
  generalize madeQ (mu x2 x3 + 1) x2 x3 = b at *
  generalize madeQ (mu x4 x5 + 1) x4 x5 = c at *
  letI := rho [x0, x1, x2, x3, x4, x5, a.num, a.den, b.num, b.den, c.num, c.den, (a + b).num, (a + b).den, (a * b).num, (a * b).den, (b + c).num, (b + c).den, rN (a + b + c), rD (a + b + c), rE (a + b + c),
    (b * c).num, (b * c).den, rN (a * b * c), rD (a * b * c), rE (a * b * c), (a * c).num, (a * c).den, ((a + b) * c).num, ((a + b) * c).den]
  have hk := kOf_cases b
  have A : FA (fr 6) (frac a) := fa_fr rfl rfl
  have B : FA (bF (kOf b)) (frac b) := fa_b rfl rfl
  have C : FA (fr 10) (frac c) := fa_fr rfl rfl
  have S : FA (fr 12) (frac (a + b)) := fa_fr rfl rfl
  have P : FA (fr 14) (frac (a * b)) := fa_fr rfl rfl
  have T : FA (fr 16) (frac (b + c)) := fa_fr rfl rfl
  have Q : FA (fr 21) (frac (b * c)) := fa_fr rfl rfl
  have RR : FA (fr 26) (frac (a * c)) := fa_fr rfl rfl
  have VA : FV (R true 6) (resV a) := fv_R (decide_eq_true oa).symm rfl rfl
  have VS : FV (R (decide (okQ (a + b))) 12) (resV (a + b)) := fv_R rfl rfl rfl
  have VP : FV (R (decide (okQ (a * b))) 14) (resV (a * b)) := fv_R rfl rfl rfl
  have VT : FV (R (decide (okQ (b + c))) 16) (resV (b + c)) := fv_R rfl rfl rfl
  have VQ : FV (R (decide (okQ (b * c))) 21) (resV (b * c)) := fv_R rfl rfl rfl
  have VR : FV (R (decide (okQ (a * c))) 26) (resV (a * c)) := fv_R rfl rfl rfl
  have VL : FV (R (decide (okQ ((a + b) * c))) 28) (resV ((a + b) * c)) := fv_R rfl rfl rfl
  have V3 : FV (resA 18) (resV (a + b + c)) := fv_res rfl rfl rfl
  have V4 : FV (resA 23) (resV (a * b * c)) := fv_res rfl rfl rfl
  refine run_open fit (orcOf_ok (L := fieldFacts (kOf b) (decide (okQ (a + b))) (decide (okQ (b + c))) (decide (okQ (a * b))) (decide (okQ (b * c))) (decide (okQ (a * c))) (decide (okQ ((a + b) * c)))) ⟨?_, ?_, ?_, ?_, ?_, ?_, trivial⟩)
    (field_run _ hk _ _ _ _ _ _) ⟨⟨ltf h0, ltf h1, trivial⟩, ⟨ltf h2, ltf h3, trivial⟩, ⟨ltf h4, ltf h5, trivial⟩, trivial⟩ w
  · exact one (fct_flat rfl rfl rfl trivial body10 ex_c)
  · exact two (holds2 (fa_x rfl) (fa_x rfl) (fv_fr oa rfl rfl) body15 ma) (two (holds2 (fa_x rfl) (fa_x rfl) (fv_b ob rfl rfl) body15 mb) (one (holds2 (fa_x rfl) (fa_x rfl) (fv_fr oc rfl rfl) body15 mc)))
  · refine two (holds2 A B VS body16 (addL a b oa ob)) (two (holds2 B A VS body16 ?_) (two (holds2 A fa_z VA body16 ?_) (two (holds2 B C VT body16 (addL b c ob oc)) (appH (cifH fun h => holds2 S C V3 body16 ?_) (appH (cifH fun h => holds2 A T V3 body16 ?_) (cifH fun h => holds2 RR Q VL body16 ?_))))))
    · rw [Rat.add_comm a b]; exact addL b a ob oa
    · have := addL a 0 oa ok0; rwa [Rat.add_zero] at this
    · exact addL (a + b) c (of_decide_eq_true h) oc
    · rw [Rat.add_assoc]; exact addL a (b + c) oa (of_decide_eq_true h)
    · rw [Bool.and_eq_true] at h
      rw [Rat.add_mul]; exact addL (a * c) (b * c) (of_decide_eq_true h.1) (of_decide_eq_true h.2)
  · refine two (holds2 A A fv_z body18 ?_) (cifH fun h => holds2 S B VA body18 ?_)
    · have := subL a a oa oa; rwa [Rat.sub_self] at this
    · have := subL (a + b) b (of_decide_eq_true h) ob
      rwa [show a + b - b = a by rw [Rat.sub_eq_add_neg, Rat.add_assoc, Rat.add_neg_cancel, Rat.add_zero]] at this
  · refine two (holds2 A B VP body20 (mulL a b oa ob)) (two (holds2 B A VP body20 ?_) (two (holds2 A fa_o VA body20 ?_) (two (holds2 A fa_z fv_z body20 ?_) (two (holds2 B C VQ body20 (mulL b c ob oc)) (two (holds2 A C VR body20 (mulL a c oa oc)) (appH (cifH fun h => holds2 P C V4 body20 ?_) (appH (cifH fun h => holds2 A Q V4 body20 ?_) (cifH fun h => holds2 S C VL body20 ?_))))))))
    · rw [Rat.mul_comm a b]; exact mulL b a ob oa
    · have := mulL a 1 oa ok1; rwa [Rat.mul_one] at this
    · have := mulL a 0 oa ok0; rwa [Rat.mul_zero] at this
    · exact mulL (a * b) c (of_decide_eq_true h) oc
    · rw [Rat.mul_assoc]; exact mulL a (b * c) oa (of_decide_eq_true h)
    · exact mulL (a + b) c (of_decide_eq_true h) oc
  · refine cifH fun h => holds2 P B VA body22 ?_
    rw [Bool.and_eq_true] at h
    have hb0 : b.num ≠ 0 := by
      intro e
      have h2 := h.2
      unfold kOf at h2
      rw [if_pos e] at h2
      cases h2
    have := divL (a * b) b (of_decide_eq_true h.1) ob hb0
    rwa [show a * b / b = a by rw [Rat.div_def, Rat.mul_assoc, Rat.mul_inv_cancel b (fun e => hb0 (by rw [e]; rfl)), Rat.mul_one]] at this

end Go.Proofs.Ytieabeodommbiaa
