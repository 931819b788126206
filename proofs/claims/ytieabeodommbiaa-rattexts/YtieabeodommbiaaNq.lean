/- The reference's floor. -/
import Derived.Test.YtieabeodommbiaaNd
import Derived.Test.YtieabeodommbiaaLb
import Derived.Test.YtieabeodommbiaaNp
import Derived.IntWalk
namespace Go.Proofs.Ytieabeodommbiaa
open Go.RowKit
set_option maxRecDepth 100000
set_option linter.unusedVariables false
theorem floor_of {a b : Int} (hb : 1 ≤ b) : (a.tmod b < 0 → a / b = a.tdiv b - 1) ∧ (¬ a.tmod b < 0 → a / b = a.tdiv b) := by
  have h1 := Int.mul_tdiv_add_tmod a b
  have h2 := Int.mul_ediv_add_emod a b
  have h3 := Int.emod_nonneg a (show b ≠ 0 by omega)
  have h4 := Int.emod_lt_of_pos a (show 0 < b by omega)
  have h5 := Int.tmod_lt_of_pos a (show 0 < b by omega)
  have h6 : -b < a.tmod b := by
    have := Int.natAbs_tmod a b
    have h7 : a.natAbs % b.natAbs < b.natAbs := Nat.mod_lt _ (by omega)
    omega
  constructor
  · intro h
    refine (Int.ediv_emod_unique (r := a.tmod b + b) (q := a.tdiv b - 1) (show 0 < b by omega)).2 ⟨?_, by omega, by omega⟩ |>.1
    
    generalize a.tdiv b = q at *
    generalize a.tmod b = r at *
    grind
  · intro h
    refine (Int.ediv_emod_unique (r := a.tmod b) (q := a.tdiv b) (show 0 < b by omega)).2 ⟨?_, by omega, by omega⟩ |>.1
    omega
set_option maxHeartbeats 800000 in
theorem rfloor_c (a b : Int) (a0 : -4611686018427387904 ≤ a) (a1 : a ≤ 4611686018427387904) (b0 : 1 ≤ b) (b1 : b ≤ 4611686018427387904) (W : World) : Calls Try.prog 27 #[.agg #[.int .i64 a, .int .i64 b]] W fun e W' => e = .returned (.int .i64 (a / b)) ∧ Below W.heap.size W W' := by
  have hf := floor_of (a := a) b0
  have hq : -4611686018427387904 ≤ a / b ∧ a / b ≤ 4611686018427387904 := by
    exact ⟨Int.le_ediv_of_mul_le (by omega) (by omega), Int.ediv_le_of_le_mul (by omega) (by omega)⟩
  by_cases h : a.tmod b < 0
  · rw [hf.1 h] at hq ⊢
    have hn : a.tdiv b ≠ 0 ∨ True := .inr trivial
    clear hf hn
    go_enter Try.func27, Try.ntmps27
    go_wp2
    go_ret
    exact ⟨rfl, (Below.refl _ _).alloc (Nat.le_refl _) _⟩
  · rw [hf.2 h] at hq ⊢
    clear hf
    go_enter Try.func27, Try.ntmps27
    go_wp2
    go_ret
    exact ⟨rfl, (Below.refl _ _).alloc (Nat.le_refl _) _⟩
end Go.Proofs.Ytieabeodommbiaa

/- Package rat's Cmp, Floor, Ceil in rational numbers. -/
namespace Go.Proofs.Ytieabeodommbiaa
open Go.RowKit (Below)
open Go.Ev

theorem body24 : hasBody Try.prog 24 = true := by kernel_rfl
theorem body26 : hasBody Try.prog 26 = true := by kernel_rfl
theorem body28 : hasBody Try.prog 28 = true := by kernel_rfl

section
variable [Rho]
/-- a number, and what it stands for -/
structure FX (x : AV) (n : Int) (k : IntKind) : Prop where
  g1 : all1 (Nat.blt · 0) x = true
  g2 : all2 (inS 0 []) x = true
  lone : x.lone = true
  f1 : x.flat1 = true
  f2 : x.flat = true
  fine0 : x.fine0
  fine1 : x.fine1
  fine : x.fine
  vl0 : x.vl0 = .int k n
  vl1 : x.vl1 = .int k n
  vl : x.vl = .int k n
theorem fx_sym {k : IntKind} {e : SX} {lo hi n : Int} (h1 : e.ok) (h2 : e.eval = n) (h3 : lo ≤ n ∧ n ≤ hi) : FX (.sym k e lo hi) n k := by
  subst h2
  exact ⟨rfl, rfl, rfl, rfl, rfl, ⟨h1, h3⟩, ⟨h1, h3⟩, ⟨h1, h3⟩, rfl, rfl, rfl⟩
theorem fx_lt {k : IntKind} {i : Nat} {lo hi n : Int} (h2 : Rho.ρ i = n) (h3 : lo ≤ n ∧ n ≤ hi) : FX (lt k i lo hi) n k :=
  fx_sym (by subst h2; exact h3) h2 h3
theorem fx_int {k : IntKind} {n : Int} : FX (.int k n) n k := ⟨rfl, rfl, rfl, rfl, rfl, trivial, trivial, trivial, rfl, rfl, rfl⟩
theorem FX.fa {x : AV} {n : Int} {k : IntKind} (h : FX x n k) : FA x (.int k n) := ⟨h.g1, h.f1, h.vl1⟩
theorem FX.fv {x : AV} {n : Int} {k : IntKind} (h : FX x n k) : FV x (.int k n) := ⟨h.g2, h.f2, h.fine, h.vl⟩

/-- two numbers -/
theorem fa_pair {x y : AV} {m n : Int} {k l : IntKind} (h1 : FX x m k) (h2 : FX y n l) (g1 : all1 (Nat.blt · 0) (.agg [x, y]) = true) : FA (.agg [x, y]) (.agg #[.int k m, .int l n]) :=
  ⟨g1, by simp [AV.flat1, h1.lone, h2.lone], by simp [AV.vl1, h1.vl0, h2.vl0]⟩
theorem fv_pair {x y : AV} {m n : Int} {k l : IntKind} (h1 : FX x m k) (h2 : FX y n l) (g2 : all2 (inS 0 []) (.agg [x, y]) = true) : FV (.agg [x, y]) (.agg #[.int k m, .int l n]) :=
  ⟨g2, by simp [AV.flat, AV.flat1, h1.lone, h2.lone], ⟨h1.fine0, h2.fine0, trivial⟩, by simp [AV.vl, AV.vl1, h1.vl0, h2.vl0]⟩

theorem holds1 {f : FuncId} {x v : AV} {vx vv : Value} (hx : FA x vx) (hv : FV v vv) (hb : hasBody Try.prog f = true)
    (hc : ∀ w : World, Calls Try.prog f #[vx] w fun e w' => e = .returned vv ∧ Below w.heap.size w w') : (Fct.mk [x] [] v [] []).Holds Try.prog f := by
  refine fct_flat ?_ ?_ hv.flat hv.fine hb (fun w => ?_)
  · show ((([] : List ABlk).all _) && ((([x] : List AV).all (all1 (Nat.blt · 0))) && (all2 (inS 0 []) v && _))) = true
    simp [hx.good, hv.good, nodupB]
  · simp [hx.flat]
  · rw [hv.vl]
    simp only [List.map_cons, List.map_nil, hx.vl]
    exact hc w
end

/-! ### Cmp -/
def cmpV (p q : Rat) : Int := if p = q then 0 else if p < q then -1 else 1

abbrev W2 (i : Nat) : AV := .agg [U i, U (i + 1)]
abbrev S62 (i : Nat) : AV := lt .u64 i 0 4611686018427387904
noncomputable def cmFacts (xN xD yN yD : AV) (c : Bool) : List (FuncId × List Fct) :=
  [(53, [⟨[yD], [], S62 5, [], []⟩, ⟨[xD], [], S62 6, [], []⟩]), (52, [F2 xN (S62 5) (W2 7), F2 yN (S62 6) (W2 9)]), (55, [⟨[W2 9], [], W2 11, [], []⟩]), (54, [F2 (W2 7) (W2 11) (W2 13)]), (56, [⟨[W2 13], [], .bool c, [], []⟩])]
noncomputable abbrev cmRun (xN xD yN yD : AV) (c : Bool) : Bool := okRun Try.prog (orcOf (cmFacts xN xD yN yD c)) 24 [.agg [xN, xD], .agg [yN, yD]] (.int .i64 (if c then -1 else 1))

abbrev pN (i : Nat) : AV := .sym .i64 (.bin .add (.var i (-4611686018427387904) 4611686018427387904) (.var 4 1 9223372036854775808)) (-4611686018427387904) 4611686018427387904
abbrev pD (i : Nat) : AV := .sym .i64 (.bin .add (.var i 1 4611686018427387904) (.var 4 1 9223372036854775808)) 1 4611686018427387904
theorem cm_run0 : okRun Try.prog (orcOf []) 24 [fr 0, fr 0] (.int .i64 0) = true := by kernel_rfl
theorem cm_run1 : ([true, false].all fun c => cmRun (aN 0) (aD 1) (pN 0) (aD 3) c) = true := by kernel_rfl
theorem cm_run2 : ([true, false].all fun c => cmRun (pN 2) (aD 1) (aN 2) (aD 3) c) = true := by kernel_rfl
theorem cm_run3 : ([true, false].all fun c => cmRun (aN 0) (aD 1) (aN 0) (pD 1) c) = true := by kernel_rfl
theorem cm_run4 : ([true, false].all fun c => cmRun (aN 0) (pD 3) (aN 0) (aD 3) c) = true := by kernel_rfl

theorem sprod_bd (a b : Int) (ha : -4611686018427387904 ≤ a ∧ a ≤ 4611686018427387904) (hb : 0 ≤ b ∧ b ≤ 4611686018427387904) : -21267647932558653966460912964485513216 ≤ a * b ∧ a * b ≤ 21267647932558653966460912964485513216 := by
  have h1 := Int.mul_le_mul_of_nonneg_right ha.1 hb.1
  have h2 := Int.mul_le_mul_of_nonneg_right ha.2 hb.1
  omega

set_option maxHeartbeats 1000000
section
variable [Rho]
theorem fw {i : Nat} {V : Int} (hV : 0 ≤ V ∧ V < 340282366920938463463374607431768211456) (h1 : Rho.ρ i = hiW V) (h2 : Rho.ρ (i + 1) = loW V) :
    FA (W2 i) (.agg #[.int .u64 (hiW V), .int .u64 (loW V)]) ∧ FV (W2 i) (.agg #[.int .u64 (hiW V), .int .u64 (loW V)]) :=
  have a := fx_lt (k := .u64) (lo := 0) (hi := 18446744073709551615) h1 (hi_bd V hV)
  have b := fx_lt (k := .u64) (lo := 0) (hi := 18446744073709551615) h2 (lo_bd V)
  ⟨fa_pair a b rfl, fv_pair a b rfl⟩

theorem cmp_gen {xN xD yN yD : AV} {p q : Rat} {c : Bool} (hp : okQ p) (hq : okQ q) (X1 : FX xN p.num .i64) (X2 : FX xD p.den .i64) (Y1 : FX yN q.num .i64) (Y2 : FX yD q.den .i64) (hc : c = decide (p < q))
    (r5 : Rho.ρ 5 = q.den) (r6 : Rho.ρ 6 = p.den) (r7 : Rho.ρ 7 = hiW (p.num * q.den % 340282366920938463463374607431768211456)) (r8 : Rho.ρ 8 = loW (p.num * q.den % 340282366920938463463374607431768211456)) (r9 : Rho.ρ 9 = hiW (q.num * p.den % 340282366920938463463374607431768211456)) (r10 : Rho.ρ 10 = loW (q.num * p.den % 340282366920938463463374607431768211456))
    (r11 : Rho.ρ 11 = hiW ((-(q.num * p.den % 340282366920938463463374607431768211456)) % 340282366920938463463374607431768211456)) (r12 : Rho.ρ 12 = loW ((-(q.num * p.den % 340282366920938463463374607431768211456)) % 340282366920938463463374607431768211456))
    (r13 : Rho.ρ 13 = hiW ((p.num * q.den % 340282366920938463463374607431768211456 + (-(q.num * p.den % 340282366920938463463374607431768211456)) % 340282366920938463463374607431768211456) % 340282366920938463463374607431768211456)) (r14 : Rho.ρ 14 = loW ((p.num * q.den % 340282366920938463463374607431768211456 + (-(q.num * p.den % 340282366920938463463374607431768211456)) % 340282366920938463463374607431768211456) % 340282366920938463463374607431768211456))
    (run : cmRun xN xD yN yD c = true) (w : World) : Calls Try.prog 24 #[frac p, frac q] w fun e w' => e = .returned (.int .i64 (if c then -1 else 1)) ∧ Below w.heap.size w w' := by
  have bp := okQ_bd hp
  have bq := okQ_bd hq
  have hcc : decide (170141183460469231731687303715884105728 ≤ (p.num * q.den % 340282366920938463463374607431768211456 + (-(q.num * p.den % 340282366920938463463374607431768211456)) % 340282366920938463463374607431768211456) % 340282366920938463463374607431768211456) = c := by
    rw [hc, decide_eq_decide, Rat.lt_iff]
    have b1 := sprod_bd p.num q.den bp.1 (by omega)
    have b2 := sprod_bd q.num p.den bq.1 (by omega)
    generalize p.num * (q.den : Int) = x at *
    generalize q.num * (p.den : Int) = y at *
    omega
  have b1 : 0 ≤ p.num * q.den % 340282366920938463463374607431768211456 ∧ p.num * q.den % 340282366920938463463374607431768211456 < 340282366920938463463374607431768211456 := by omega
  have b2 : 0 ≤ q.num * p.den % 340282366920938463463374607431768211456 ∧ q.num * p.den % 340282366920938463463374607431768211456 < 340282366920938463463374607431768211456 := by omega
  generalize hV1 : p.num * (q.den : Int) % 340282366920938463463374607431768211456 = V1 at *
  generalize hV2 : q.num * (p.den : Int) % 340282366920938463463374607431768211456 = V2 at *
  have b3 : 0 ≤ (-V2) % 340282366920938463463374607431768211456 ∧ (-V2) % 340282366920938463463374607431768211456 < 340282366920938463463374607431768211456 := by omega
  have m3 : ∃ k : Int, (-V2) % 340282366920938463463374607431768211456 = -(hiW V2 * 18446744073709551616 + loW V2) + k * 340282366920938463463374607431768211456 := ⟨-((-V2) / 340282366920938463463374607431768211456), by rw [hl]; omega⟩
  generalize (-V2) % 340282366920938463463374607431768211456 = V3 at *
  have b4 : 0 ≤ (V1 + V3) % 340282366920938463463374607431768211456 ∧ (V1 + V3) % 340282366920938463463374607431768211456 < 340282366920938463463374607431768211456 := by omega
  generalize hV4 : (V1 + V3) % 340282366920938463463374607431768211456 = V4 at *
  have s5 := fx_lt (k := .u64) (lo := 0) (hi := 4611686018427387904) r5 (by omega)
  have s6 := fx_lt (k := .u64) (lo := 0) (hi := 4611686018427387904) r6 (by omega)
  have w7 := fw b1 r7 r8
  have w9 := fw b2 r9 r10
  have w11 := fw b3 r11 r12
  have w13 := fw b4 r13 r14
  have ap : absI (p.den : Int) = p.den := by unfold absI; rw [if_neg (by omega)]
  have aq : absI (q.den : Int) = q.den := by unfold absI; rw [if_neg (by omega)]
  have hh := hi_bd V2 b2
  have hlo := lo_bd V2
  have ea : #[frac p, frac q] = ([AV.agg [xN, xD], AV.agg [yN, yD]].map AV.vl1).toArray := by
    simp only [List.map_cons, List.map_nil, AV.vl1, X1.vl0, X2.vl0, Y1.vl0, Y2.vl0]; rfl
  have ev : Value.int .i64 (if c then -1 else 1) = (AV.int .i64 (if c then -1 else 1)).vl := rfl
  rw [ea, ev]
  refine run_open fit (orcOf_ok (L := cmFacts xN xD yN yD c) ⟨?_, ?_, ?_, ?_, ?_, trivial⟩) run ⟨⟨X1.fine0, X2.fine0, trivial⟩, ⟨Y1.fine0, Y2.fine0, trivial⟩, trivial⟩ w
  · refine two (holds1 Y2.fa s5.fv body53 (fun w => ?_)) (one (holds1 X2.fa s6.fv body53 (fun w => ?_)))
    · have := sizeB q.den (by omega) (by omega) w; rwa [aq] at this
    · have := sizeB p.den (by omega) (by omega) w; rwa [ap] at this
  · refine two (holds2 X1.fa s5.fa w7.2 body52 (fun w => ?_)) (one (holds2 Y1.fa s6.fa w9.2 body52 (fun w => ?_)))
    · have := sp_c p.num q.den bp.1 (by omega) w; rw [hV1] at this; exact this
    · have := sp_c q.num p.den bq.1 (by omega) w; rw [hV2] at this; exact this
  · exact one (holds1 w9.1 w11.2 body55 (fun w => minus_c _ _ V3 (by omega) (by omega) m3 b3 w))
  · exact one (holds2 w7.1 w11.1 w13.2 body54 (fun w => plus_any V1 V3 V4 hV4.symm w))
  · refine one (holds1 w13.1 ⟨rfl, rfl, trivial, rfl⟩ body56 (fun w => ?_))
    have := neg_c V4 b4 w
    rw [hcc] at this; exact this
end

theorem cmp_c (p q : Rat) (hp : okQ p) (hq : okQ q) (w : World) : Calls Try.prog 24 #[frac p, frac q] w fun e w' => e = .returned (.int .i64 (cmpV p q)) ∧ Below w.heap.size w w' := by
  have bp := okQ_bd hp
  have bq := okQ_bd hq
  by_cases e : p = q
  · subst e
    rw [show cmpV p p = 0 from if_pos rfl]
    letI := rho [p.num, p.den]
    exact run_open fit (orcOf_ok (L := []) trivial) cm_run0 ⟨fr_fine hp rfl rfl, fr_fine hp rfl rfl, trivial⟩ w
  · have ev : cmpV p q = if decide (p < q) then -1 else 1 := by unfold cmpV; rw [if_neg e]; simp
    rw [ev]
    have hd : p.num < q.num ∨ q.num < p.num ∨ p.num = q.num ∧ (p.den : Int) < q.den ∨ p.num = q.num ∧ (q.den : Int) < p.den := by
      have : p.num = q.num → p.den ≠ q.den := fun h1 h2 => e (Rat.ext h1 h2)
      omega
    have k1 := cm_run1
    have k2 := cm_run2
    have k3 := cm_run3
    have k4 := cm_run4
    rcases hd with h | h | ⟨h0, h⟩ | ⟨h0, h⟩
    · letI := rho [p.num, p.den, q.num, q.den, q.num - p.num, q.den, p.den, hiW (p.num * q.den % 340282366920938463463374607431768211456), loW (p.num * q.den % 340282366920938463463374607431768211456), hiW (q.num * p.den % 340282366920938463463374607431768211456), loW (q.num * p.den % 340282366920938463463374607431768211456), hiW ((-(q.num * p.den % 340282366920938463463374607431768211456)) % 340282366920938463463374607431768211456), loW ((-(q.num * p.den % 340282366920938463463374607431768211456)) % 340282366920938463463374607431768211456),
        hiW ((p.num * q.den % 340282366920938463463374607431768211456 + (-(q.num * p.den % 340282366920938463463374607431768211456)) % 340282366920938463463374607431768211456) % 340282366920938463463374607431768211456), loW ((p.num * q.den % 340282366920938463463374607431768211456 + (-(q.num * p.den % 340282366920938463463374607431768211456)) % 340282366920938463463374607431768211456) % 340282366920938463463374607431768211456)]
      have X1 : FX (aN 0) p.num .i64 := fx_lt rfl bp.1
      have X2 : FX (aD 1) p.den .i64 := fx_lt rfl bp.2
      have Y1 : FX (pN 0) q.num .i64 := fx_sym ⟨bp.1, show 1 ≤ q.num - p.num ∧ q.num - p.num ≤ 9223372036854775808 by omega⟩ (show p.num + (q.num - p.num) = _ by omega) bq.1
      have Y2 : FX (aD 3) q.den .i64 := fx_lt rfl bq.2
      exact cmp_gen hp hq X1 X2 Y1 Y2 rfl rfl rfl rfl rfl rfl rfl rfl rfl rfl rfl (all_bools (f := fun c => cmRun (aN 0) (aD 1) (pN 0) (aD 3) c) k1 _) w
    · letI := rho [p.num, p.den, q.num, q.den, p.num - q.num, q.den, p.den, hiW (p.num * q.den % 340282366920938463463374607431768211456), loW (p.num * q.den % 340282366920938463463374607431768211456), hiW (q.num * p.den % 340282366920938463463374607431768211456), loW (q.num * p.den % 340282366920938463463374607431768211456), hiW ((-(q.num * p.den % 340282366920938463463374607431768211456)) % 340282366920938463463374607431768211456), loW ((-(q.num * p.den % 340282366920938463463374607431768211456)) % 340282366920938463463374607431768211456),
        hiW ((p.num * q.den % 340282366920938463463374607431768211456 + (-(q.num * p.den % 340282366920938463463374607431768211456)) % 340282366920938463463374607431768211456) % 340282366920938463463374607431768211456), loW ((p.num * q.den % 340282366920938463463374607431768211456 + (-(q.num * p.den % 340282366920938463463374607431768211456)) % 340282366920938463463374607431768211456) % 340282366920938463463374607431768211456)]
      have X1 : FX (pN 2) p.num .i64 := fx_sym ⟨bq.1, show 1 ≤ p.num - q.num ∧ p.num - q.num ≤ 9223372036854775808 by omega⟩ (show q.num + (p.num - q.num) = _ by omega) bp.1
      have X2 : FX (aD 1) p.den .i64 := fx_lt rfl bp.2
      have Y1 : FX (aN 2) q.num .i64 := fx_lt rfl bq.1
      have Y2 : FX (aD 3) q.den .i64 := fx_lt rfl bq.2
      exact cmp_gen hp hq X1 X2 Y1 Y2 rfl rfl rfl rfl rfl rfl rfl rfl rfl rfl rfl (all_bools (f := fun c => cmRun (pN 2) (aD 1) (aN 2) (aD 3) c) k2 _) w
    · letI := rho [p.num, p.den, q.num, q.den, (q.den : Int) - p.den, q.den, p.den, hiW (p.num * q.den % 340282366920938463463374607431768211456), loW (p.num * q.den % 340282366920938463463374607431768211456), hiW (q.num * p.den % 340282366920938463463374607431768211456), loW (q.num * p.den % 340282366920938463463374607431768211456), hiW ((-(q.num * p.den % 340282366920938463463374607431768211456)) % 340282366920938463463374607431768211456), loW ((-(q.num * p.den % 340282366920938463463374607431768211456)) % 340282366920938463463374607431768211456),
        hiW ((p.num * q.den % 340282366920938463463374607431768211456 + (-(q.num * p.den % 340282366920938463463374607431768211456)) % 340282366920938463463374607431768211456) % 340282366920938463463374607431768211456), loW ((p.num * q.den % 340282366920938463463374607431768211456 + (-(q.num * p.den % 340282366920938463463374607431768211456)) % 340282366920938463463374607431768211456) % 340282366920938463463374607431768211456)]
      have X1 : FX (aN 0) p.num .i64 := fx_lt rfl bp.1
      have X2 : FX (aD 1) p.den .i64 := fx_lt rfl bp.2
      have Y1 : FX (aN 0) q.num .i64 := fx_lt (show p.num = q.num from h0) bq.1
      have Y2 : FX (pD 1) q.den .i64 := fx_sym ⟨bp.2, show 1 ≤ (q.den : Int) - p.den ∧ (q.den : Int) - p.den ≤ 9223372036854775808 by omega⟩ (show (p.den : Int) + ((q.den : Int) - p.den) = _ by omega) bq.2
      exact cmp_gen hp hq X1 X2 Y1 Y2 rfl rfl rfl rfl rfl rfl rfl rfl rfl rfl rfl (all_bools (f := fun c => cmRun (aN 0) (aD 1) (aN 0) (pD 1) c) k3 _) w
    · letI := rho [p.num, p.den, q.num, q.den, (p.den : Int) - q.den, q.den, p.den, hiW (p.num * q.den % 340282366920938463463374607431768211456), loW (p.num * q.den % 340282366920938463463374607431768211456), hiW (q.num * p.den % 340282366920938463463374607431768211456), loW (q.num * p.den % 340282366920938463463374607431768211456), hiW ((-(q.num * p.den % 340282366920938463463374607431768211456)) % 340282366920938463463374607431768211456), loW ((-(q.num * p.den % 340282366920938463463374607431768211456)) % 340282366920938463463374607431768211456),
        hiW ((p.num * q.den % 340282366920938463463374607431768211456 + (-(q.num * p.den % 340282366920938463463374607431768211456)) % 340282366920938463463374607431768211456) % 340282366920938463463374607431768211456), loW ((p.num * q.den % 340282366920938463463374607431768211456 + (-(q.num * p.den % 340282366920938463463374607431768211456)) % 340282366920938463463374607431768211456) % 340282366920938463463374607431768211456)]
      have X1 : FX (aN 0) p.num .i64 := fx_lt rfl bp.1
      have X2 : FX (pD 3) p.den .i64 := fx_sym ⟨bq.2, show 1 ≤ (p.den : Int) - q.den ∧ (p.den : Int) - q.den ≤ 9223372036854775808 by omega⟩ (show (q.den : Int) + ((p.den : Int) - q.den) = _ by omega) bp.2
      have Y1 : FX (aN 0) q.num .i64 := fx_lt (show p.num = q.num from h0) bq.1
      have Y2 : FX (aD 3) q.den .i64 := fx_lt rfl bq.2
      exact cmp_gen hp hq X1 X2 Y1 Y2 rfl rfl rfl rfl rfl rfl rfl rfl rfl rfl rfl (all_bools (f := fun c => cmRun (aN 0) (pD 3) (aN 0) (aD 3) c) k4 _) w

end Go.Proofs.Ytieabeodommbiaa

/- Package rat's Floor and Ceil in rational numbers. -/
namespace Go.Proofs.Ytieabeodommbiaa
open Go.RowKit
open Go.Ev
set_option maxHeartbeats 400000

theorem floor_walk (n d : Int) (hn : -4611686018427387904 ≤ n ∧ n ≤ 4611686018427387904) (hd : 1 ≤ d ∧ d ≤ 4611686018427387904) (w : World) :
    Calls Try.prog 26 #[.agg #[.int .i64 n, .int .i64 d]] w fun e w' => e = .returned (.int .i64 (n / d)) ∧ Below w.heap.size w w' := by
  have b : -4611686018427387904 ≤ n.tdiv d ∧ n.tdiv d ≤ 4611686018427387904 := by
    have := Int.natAbs_tdiv_le_natAbs n d
    omega
  have hg0 : (d == 0) = false := by simp; omega
  have hgn : ¬ d = 0 := by omega
  have e1 : n.tdiv d = n / d + if 0 ≤ n ∨ d ∣ n then 0 else d.sign := Int.tdiv_eq_ediv
  have e2 : n.tmod d = n % d - ↑(if 0 ≤ n ∨ d ∣ n then 0 else d.natAbs) := Int.tmod_eq_emod
  have m0 := Int.emod_nonneg n (show d ≠ 0 by omega)
  have m1 := Int.emod_lt_of_pos n (show 0 < d by omega)
  by_cases hc : 0 ≤ n ∨ d ∣ n
  · rw [if_pos hc] at e1 e2
    have t : (decide (n.tmod d < 0)) = false := by simp; omega
    have E := Lib.hid e1
    clear e1 e2 hc m0 m1
    go_enter Try.func26, Try.ntmps26
    go_wp2
    all_goals first
      | (exfalso; simp at t; omega)
      | (go_ret; exact ⟨ret_i64 (by rw [E.out, Int.add_zero]), (Below.refl _ _).alloc (Nat.le_refl _) _⟩)
  · rw [if_neg hc, Int.sign_eq_one_of_pos (by omega)] at e1
    rw [if_neg hc] at e2
    have t : (decide (n.tmod d < 0)) = true := by simp; omega
    have E := Lib.hid (show n / d = n.tdiv d - 1 by omega)
    clear e1 e2 hc m0 m1
    go_enter Try.func26, Try.ntmps26
    go_wp2
    all_goals first
      | (exfalso; simp at t; omega)
      | (go_ret; exact ⟨ret_i64 E.out.symm, (Below.refl _ _).alloc (Nat.le_refl _) _⟩)

theorem floor_c (p : Rat) (hp : okQ p) (w : World) : Calls Try.prog 26 #[frac p] w fun e w' => e = .returned (.int .i64 p.floor) ∧ Below w.heap.size w w' := by
  have b := okQ_bd hp
  rw [Rat.floor_def]
  exact floor_walk p.num p.den b.1 b.2 w

theorem floor_bd {p : Rat} (hp : okQ p) : -4611686018427387904 ≤ p.floor ∧ p.floor ≤ 4611686018427387904 := by
  have b := okQ_bd hp
  constructor
  · rw [Rat.le_floor_iff, Rat.le_iff, Rat.num_intCast, Rat.den_intCast]; omega
  · have : p.floor < 4611686018427387905 := by
      rw [Rat.floor_lt_iff, Rat.lt_iff, Rat.num_intCast, Rat.den_intCast]; omega
    omega

def ceFacts : List (FuncId × List Fct) := [(26, [⟨[.agg [.sym .i64 (.bin .sub (.lit 0) (.var 0 (-4611686018427387904) 4611686018427387904)) (-4611686018427387904) 4611686018427387904, aD 1]], [], aN 2, [], []⟩])]
abbrev ceV : AV := .sym .i64 (.bin .sub (.lit 0) (.var 2 (-4611686018427387904) 4611686018427387904)) (-4611686018427387904) 4611686018427387904
theorem ce_run : okRun Try.prog (orcOf ceFacts) 28 [fr 0] ceV = true := by kernel_rfl
theorem ceil_c (p : Rat) (hp : okQ p) (w : World) : Calls Try.prog 28 #[frac p] w fun e w' => e = .returned (.int .i64 p.ceil) ∧ Below w.heap.size w w' := by
  have b := okQ_bd hp
  have h := floor_bd (neg_ok hp)
  letI := rho [p.num, p.den, (-p).floor]
  have A : FX (.sym .i64 (.bin .sub (.lit 0) (.var 0 (-4611686018427387904) 4611686018427387904)) (-4611686018427387904) 4611686018427387904) (-p).num .i64 :=
    fx_sym ⟨trivial, show _ ≤ p.num ∧ p.num ≤ _ from b.1⟩ (show 0 - p.num = _ by rw [Rat.neg_num]; omega) (by rw [Rat.neg_num]; omega)
  have D : FX (aD 1) ((-p).den : Int) .i64 := fx_lt (show (p.den : Int) = _ by rw [Rat.neg_den]) (by rw [Rat.neg_den]; exact b.2)
  have hv : (ceV).vl = .int .i64 p.ceil := by
    rw [Rat.ceil_eq_neg_floor_neg]
    show Value.int .i64 (0 - (-p).floor) = _
    rw [Int.zero_sub]
  rw [← hv]
  exact run_open fit (orcOf_ok (L := ceFacts) ⟨one (holds1 (fa_pair A D rfl) (fx_lt rfl h).fv body26 (floor_c (-p) (neg_ok hp))), trivial⟩) ce_run ⟨fr_fine hp rfl rfl, trivial⟩ w

end Go.Proofs.Ytieabeodommbiaa

/- The reference's operations on fractions, in rational numbers. -/
namespace Go.Proofs.Ytieabeodommbiaa
open Go.RowKit
set_option maxRecDepth 100000
set_option linter.unusedVariables false

theorem rs_res (q : Rat) : rsN q.num q.den = rN q ∧ rsD q.num q.den = rD q ∧ rsE q.num q.den = rE q := by
  have e : fitI q.num q.den ↔ okQ q := by unfold fitI okQ; omega
  unfold rsN rsD rsE rN rD rE
  by_cases h : okQ q
  · rw [if_pos (e.2 h), if_pos (e.2 h), if_pos (e.2 h), if_pos h, if_pos h, if_pos h]; exact ⟨rfl, rfl, rfl⟩
  · have h' : ¬ fitI q.num q.den := fun k => h (e.1 k)
    rw [if_neg h', if_neg h', if_neg h', if_neg h, if_neg h, if_neg h]; exact ⟨rfl, rfl, rfl⟩
theorem ab_nat (a : Int) : ab a = a.natAbs := by unfold ab; split <;> omega
theorem gI_nat (a : Int) (d : Nat) : gI (ab a) d = (Nat.gcd a.natAbs d : Nat) := by
  unfold gI
  rw [ab_nat]
  rfl
theorem tdiv_bd (a g : Int) {l u : Int} (h0 : -u ≤ a ∧ a ≤ u) (hg : 1 ≤ g) : -u ≤ a.tdiv g ∧ a.tdiv g ≤ u := by
  have := Int.natAbs_tdiv_le_natAbs a g
  omega
theorem tdiv_bd0 (a g : Int) {u : Int} (h0 : 0 ≤ a ∧ a ≤ u) (hg : 1 ≤ g) : 0 ≤ a.tdiv g ∧ a.tdiv g ≤ u := by
  have h1 := Int.natAbs_tdiv_le_natAbs a g
  have h2 : 0 ≤ a.tdiv g := Int.tdiv_nonneg h0.1 (by omega)
  omega
theorem wrap_of {x : Int} (h : -9223372036854775808 ≤ x ∧ x ≤ 9223372036854775807) : IntKind.i64.wrap x = x := IntWalk.i64_in _ (by omega)

set_option maxHeartbeats 1600000 in
theorem mulin_0 {W : World} {an ad bn bd : Int} {x y g h : Int}
   (s1 : ∀ w : World, Calls Try.prog 40 #[.int .i64 an] w fun e w' => e = .returned (.int .i64 x) ∧ Below w.heap.size w w')
   (g1 : ∀ w : World, Calls Try.prog 39 #[.int .i64 x, .int .i64 bd] w fun e w' => e = .returned (.int .i64 g) ∧ Below w.heap.size w w')
   (s2 : ∀ w : World, Calls Try.prog 40 #[.int .i64 bn] w fun e w' => e = .returned (.int .i64 y) ∧ Below w.heap.size w w')
   (g2 : ∀ w : World, Calls Try.prog 39 #[.int .i64 y, .int .i64 ad] w fun e w' => e = .returned (.int .i64 h) ∧ Below w.heap.size w w')
   (c : Bool) (ea : (an == 0) = c) (eb : c = false → (bn == 0) = true) :
   Calls Try.prog 21 #[.agg #[.int .i64 an, .int .i64 ad], .agg #[.int .i64 bn, .int .i64 bd]] W fun e W' => e = .returned (.agg #[.int .i64 0, .int .i64 1, .int .i64 0]) ∧ Below W.heap.size W W' := by
  have S1 := Lib.hid s1
  have G1 := Lib.hid g1
  have S2 := Lib.hid s2
  have G2 := Lib.hid g2
  clear s1 g1 s2 g2
  have hex : Hid (an = 0 ∨ (an ≠ 0 ∧ bn = 0)) := Lib.hid (by
    cases c
    · have := eb rfl; simp at this ea; exact .inr ⟨ea, this⟩
    · simp at ea; exact .inl ea)
  clear ea eb
  go_enter Try.func21, Try.ntmps21
  go_wp2_with fail
  have hb0 : Boxes W (.int .i64 an) (.int .i64 ad) (.int .i64 bn) (.int .i64 bd) (((W.alloc (.cells #[.int .i64 an, .int .i64 ad] 25)).alloc (.cells #[.int .i64 bn, .int .i64 bd] 25)).alloc (.cells #[.int .i64 0, .int .i64 0, .int .i64 0] 28)) := boxes0 W (.int .i64 an) (.int .i64 ad) (.int .i64 bn) (.int .i64 bd)
  have HR : Hid (Res0 W.heap.size (((W.alloc (.cells #[.int .i64 an, .int .i64 ad] 25)).alloc (.cells #[.int .i64 bn, .int .i64 bd] 25)).alloc (.cells #[.int .i64 0, .int .i64 0, .int .i64 0] 28))) := Lib.hid (res0 W (.int .i64 an) (.int .i64 ad) (.int .i64 bn) (.int .i64 bd))
  have hB0 : Below (((W.alloc (.cells #[.int .i64 an, .int .i64 ad] 25)).alloc (.cells #[.int .i64 bn, .int .i64 bd] 25)).alloc (.cells #[.int .i64 0, .int .i64 0, .int .i64 0] 28)).heap.size (((W.alloc (.cells #[.int .i64 an, .int .i64 ad] 25)).alloc (.cells #[.int .i64 bn, .int .i64 bd] 25)).alloc (.cells #[.int .i64 0, .int .i64 0, .int .i64 0] 28)) (((W.alloc (.cells #[.int .i64 an, .int .i64 ad] 25)).alloc (.cells #[.int .i64 bn, .int .i64 bd] 25)).alloc (.cells #[.int .i64 0, .int .i64 0, .int .i64 0] 28)) := Below.refl _ _
  generalize (((W.alloc (.cells #[.int .i64 an, .int .i64 ad] 25)).alloc (.cells #[.int .i64 bn, .int .i64 bd] 25)).alloc (.cells #[.int .i64 0, .int .i64 0, .int .i64 0] 28)) = w1 at *
  have hz1 : W.heap.size + 3 ≤ w1.heap.size := hb0.2.1
  have hS0 := drewB hb0
  have hB1 : Below w1.heap.size w1 w1.drew := hB0.drew
  clear hb0 hB0
  go_region_held3 (fun w' => Boxes W (.int .i64 an) (.int .i64 ad) (.int .i64 bn) (.int .i64 bd) w') (first | (with_reducible exact hS0) | (refine keepB ?_ hb3; assumption))
      (first | (go_at_call 40; with_reducible refine (S1.out _).mono ?_; rintro e v ⟨rfl, hb3⟩; have hB2 := (by assumption : Below w1.heap.size w1 _).trans (hb3.mono (by assumption : Below w1.heap.size w1 _).size)) | (go_at_call 39; with_reducible refine (G1.out _).mono ?_; rintro e v ⟨rfl, hb3⟩; have hB2 := (by assumption : Below w1.heap.size w1 _).trans (hb3.mono (by assumption : Below w1.heap.size w1 _).size)))
  clear hS0 hB1 hb3
  rename_i hHeld
  have hS0 := drewB hHeld
  have hB1 := hB2.drew
  clear hHeld hB2
  clear hb3 hB2
  go_wp2_with fail
  go_region_held3 (fun w' => Boxes W (.int .i64 an) (.int .i64 ad) (.int .i64 bn) (.int .i64 bd) w') (first | (with_reducible exact hS0) | (refine keepB ?_ hb3; assumption))
      (first | (go_at_call 40; with_reducible refine (S2.out _).mono ?_; rintro e v ⟨rfl, hb3⟩; have hB2 := (by assumption : Below w1.heap.size w1 _).trans (hb3.mono (by assumption : Below w1.heap.size w1 _).size)) | (go_at_call 39; with_reducible refine (G2.out _).mono ?_; rintro e v ⟨rfl, hb3⟩; have hB2 := (by assumption : Below w1.heap.size w1 _).trans (hb3.mono (by assumption : Below w1.heap.size w1 _).size)))
  clear hS0 hB1 hb3
  rename_i hHeld
  obtain ⟨h1, h2, c1, c2, c3, c4⟩ := hHeld
  obtain ⟨r0, r1, r2, r3, r4, r5⟩ := HR.out.keep hB2 hz1
  have HF := Lib.hid h1
  clear h1 hB2
  rcases hex.out with ha | ⟨ha, hb⟩
  · subst ha
    go_wp2
    exact bodyPost_ret (v := .agg #[.int .i64 0, .int .i64 1, .int .i64 0]) (by simp [results, Try.results21, go_sem, r0, r1, r2]) rfl ⟨rfl, ((HF.out.setCell (by simp; omega) _).setCell (by simp; omega) _).setCell (by simp; omega) _⟩
  · subst hb
    have ha' : (an == 0) = false := by simpa using ha
    clear ha
    go_wp2
    exact bodyPost_ret (v := .agg #[.int .i64 0, .int .i64 1, .int .i64 0]) (by simp [results, Try.results21, go_sem, r0, r1, r2]) rfl ⟨rfl, ((HF.out.setCell (by simp; omega) _).setCell (by simp; omega) _).setCell (by simp; omega) _⟩

theorem mulin_q (p q : Rat) (hp : okQ p) (hq : okQ q) (W : World) : Calls Try.prog 21 #[frac p, frac q] W fun e W' => e = .returned (resV (p * q)) ∧ Below W.heap.size W W' := by
  obtain ⟨a1, a2⟩ := okQ_bd hp
  obtain ⟨b1, b2⟩ := okQ_bd hq
  have xa := ab_bd a1.1 a1.2
  have xb := ab_bd b1.1 b1.2
  have G1 := gI_pos (a := ab p.num) (b := q.den) xa.1 b2.1
  have G2 := gI_pos (a := ab q.num) (b := p.den) xb.1 a2.1
  have s1 := nsize_c p.num a1.1 a1.2
  have s2 := nsize_c q.num b1.1 b1.2
  have g1 := ngcd_c (ab p.num) q.den xa.1 (by omega) (by omega) (by omega)
  have g2 := ngcd_c (ab q.num) p.den xb.1 (by omega) (by omega) (by omega)
  have k1 := tdiv_bd p.num (gI (ab p.num) q.den) (l := 0) (u := 4611686018427387904) a1 G1.1
  have k2 := tdiv_bd q.num (gI (ab q.num) p.den) (l := 0) (u := 4611686018427387904) b1 G2.1
  have k3 := tdiv_bd0 p.den (gI (ab q.num) p.den) (u := 4611686018427387904) ⟨by omega, a2.2⟩ G2.1
  have k4 := tdiv_bd0 q.den (gI (ab p.num) q.den) (u := 4611686018427387904) ⟨by omega, b2.2⟩ G1.1
  by_cases h0 : p.num = 0 ∨ q.num = 0
  · have hz : p * q = 0 := by
      rcases h0 with h | h
      · rw [Rat.num_eq_zero.1 h, Rat.zero_mul]
      · rw [Rat.num_eq_zero.1 h, Rat.mul_zero]
    rw [hz]
    refine mulin_0 (W := W) s1 g1 s2 g2 (p.num == 0) rfl (fun h => ?_)
    rcases h0 with h1 | h1
    · rw [h1] at h; cases h
    · simpa using h1
  · have e1 : (p.num == 0) = false := beq_false_of_ne (fun h => h0 (.inl h))
    have e2 : (q.num == 0) = false := beq_false_of_ne (fun h => h0 (.inr h))
    have := mulin_w (W := W) ⟨s1, g1, s2, g2, nproduct_c _ _ k1.1 k1.2 k2.1 k2.2, bits_c _ k3.1 (by omega), bits_c _ k4.1 (by omega)⟩ ⟨G1.1, by omega⟩ ⟨G2.1, by omega⟩ a1 b1 a2 b2 e1 e2 (wrap_of (by omega)) (wrap_of (by omega)) (wrap_of (by omega)) (wrap_of (by omega)) (by omega) (by omega)
    refine this.mono ?_
    rintro e w ⟨rfl, hb⟩
    refine ⟨?_, hb⟩
    have e3 : p.num.tdiv (gI (ab p.num) q.den) * q.num.tdiv (gI (ab q.num) p.den) = (p * q).num := by rw [mul_num, gI_nat, gI_nat]
    have e4 : (p.den : Int).tdiv (gI (ab q.num) p.den) * (q.den : Int).tdiv (gI (ab p.num) q.den) = (p * q).den := by rw [mul_den, gI_nat, gI_nat, tdiv_nat, tdiv_nat]; simp
    rw [e3, e4, (rs_res _).1, (rs_res _).2.1, (rs_res _).2.2]
    rfl

theorem addin_q (p q : Rat) (hp : okQ p) (hq : okQ q) (W : World) : Calls Try.prog 17 #[frac p, frac q] W fun e W' => e = .returned (resV (p + q)) ∧ Below W.heap.size W W' := by
  obtain ⟨a1, a2⟩ := okQ_bd hp
  obtain ⟨b1, b2⟩ := okQ_bd hq
  have G1 := gI_pos (a := (p.den : Int)) (b := q.den) (by omega) b2.1
  obtain ⟨t, ht⟩ : ∃ t, t = p.num * (q.den : Int).tdiv (gI p.den q.den) + q.num * (p.den : Int).tdiv (gI p.den q.den) := ⟨_, rfl⟩
  have hm := Int.emod_nonneg (t.natAbs : Int) (show gI p.den q.den ≠ 0 by omega)
  have hm2 := Int.emod_lt_of_pos (t.natAbs : Int) (show 0 < gI p.den q.den by omega)
  have G2 := gI_pos (a := (t.natAbs : Int) % gI p.den q.den) (b := gI p.den q.den) hm G1.1
  have k1 := tdiv_bd0 q.den (gI p.den q.den) (u := 4611686018427387904) ⟨by omega, b2.2⟩ G1.1
  have k2 := tdiv_bd0 p.den (gI p.den q.den) (u := 4611686018427387904) ⟨by omega, a2.2⟩ G1.1
  have k3 := tdiv_bd0 q.den (gI ((t.natAbs : Int) % gI p.den q.den) (gI p.den q.den)) (u := 4611686018427387904) ⟨by omega, b2.2⟩ G2.1
  have eg : gcdI p.den q.den = gI p.den q.den := by unfold gcdI gI at *; omega
  have eS : adS p.num p.den q.num q.den = t := by unfold adS; rw [eg, ht]
  have eG : adG p.num p.den q.num q.den = gI ((t.natAbs : Int) % gI p.den q.den) (gI p.den q.den) := by
    unfold adG
    rw [eS, eg, absI_natAbs]
    have : gI (gI p.den q.den) ((t.natAbs : Int) % gI p.den q.den) = gI ((t.natAbs : Int) % gI p.den q.den) (gI p.den q.den) := by unfold gI; rw [Int.gcd_comm]
    rw [← this] at G2 ⊢
    unfold gcdI
    unfold gI at G2 ⊢
    omega
  obtain ⟨h1, h2, h3⟩ := add_parts p q
  unfold adD at h2
  rw [eS, eG] at h1 h3
  rw [eG, eg] at h2
  generalize hG : gI ((t.natAbs : Int) % gI p.den q.den) (gI p.den q.den) = G at *
  generalize hg : gI (p.den : Int) q.den = g at *
  have := addin_w (W := W) (an := p.num) (ad := p.den) (bn := q.num) (bd := q.den) (g := g) (h := G) (t := t) (rn := (p + q).num) (rd := (p + q).den)
    ⟨by rw [← hg]; exact ngcd_c p.den q.den (by omega) (by omega) (by omega) (by omega), nproduct_c _ _ a1.1 a1.2 (by omega) k1.2, nproduct_c _ _ b1.1 b1.2 (by omega) k2.2, by rw [← hG]; exact ngcd_c _ _ hm (by omega) (by omega) (by omega), bits_c _ k2.1 (by omega), bits_c _ k3.1 (by omega)⟩
    ⟨G1.1, by omega⟩ ⟨G2.1, by omega⟩ ht.symm a1 b1 a2 b2 (wrap_of (by omega)) (wrap_of (by omega)) (wrap_of (by omega)) (by omega) (by omega)
    (fun h => by
      have z : (p + q).num = 0 := by rw [h1, h]; simp
      refine ⟨z, ?_⟩
      rw [Rat.num_eq_zero.1 z]; rfl)
    (fun h => by
      refine ⟨?_, h2⟩
      rw [h1]
      obtain ⟨k, rfl⟩ := h3
      rw [Int.mul_ediv_cancel_left _ (by omega), Int.natAbs_mul, Int.natCast_mul, Int.natAbs_of_nonneg (show 0 ≤ G by omega), Int.mul_ediv_cancel_left _ (by omega), Int.sign_mul, Int.sign_eq_one_of_pos (by omega), Int.one_mul, Int.sign_mul_natAbs])
  refine this.mono ?_
  rintro e w ⟨rfl, hb⟩
  refine ⟨?_, hb⟩
  rw [(rs_res _).1, (rs_res _).2.1, (rs_res _).2.2]
  rfl
end Go.Proofs.Ytieabeodommbiaa
