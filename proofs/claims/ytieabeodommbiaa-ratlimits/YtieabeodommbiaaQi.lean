/- Package rat's Floor and Ceil in rational numbers. -/
import Derived.Test.YtieabeodommbiaaQh
namespace Go.Proofs.Ytieabeodommbiaa
open Go.RowKit
open Go.Ev
set_option maxHeartbeats 400000

theorem floor_walk (n d : Int) (hn : -4611686018427387904 ≤ n ∧ n ≤ 4611686018427387904) (hd : 1 ≤ d ∧ d ≤ 4611686018427387904) (w : World) :
    Calls Try.prog 26 #[.agg #[.int .i64 n, .int .i64 d]] w fun e w' => e = .returned (.int .i64 (n / d)) ∧ Below w.heap.size w w' := by
  have b : -4611686018427387904 ≤ n.tdiv d ∧ n.tdiv d ≤ 4611686018427387904 := by
    have := Int.natAbs_tdiv_le_natAbs n d
    omega
  have hg0 : (d == 0) = false := by simp; omega
  have hgn : ¬ d = 0 := by omega
  have e1 : n.tdiv d = n / d + if 0 ≤ n ∨ d ∣ n then 0 else d.sign := Int.tdiv_eq_ediv
  have e2 : n.tmod d = n % d - ↑(if 0 ≤ n ∨ d ∣ n then 0 else d.natAbs) := Int.tmod_eq_emod
  have m0 := Int.emod_nonneg n (show d ≠ 0 by omega)
  have m1 := Int.emod_lt_of_pos n (show 0 < d by omega)
  by_cases hc : 0 ≤ n ∨ d ∣ n
  · rw [if_pos hc] at e1 e2
    have t : (decide (n.tmod d < 0)) = false := by simp; omega
    have E := Lib.hid e1
    clear e1 e2 hc m0 m1
    go_enter Try.func26, Try.ntmps26
    go_wp2
    all_goals first
      | (exfalso; simp at t; omega)
      | (go_ret; exact ⟨ret_i64 (by rw [E.out, Int.add_zero]), (Below.refl _ _).alloc (Nat.le_refl _) _⟩)
  · rw [if_neg hc, Int.sign_eq_one_of_pos (by omega)] at e1
    rw [if_neg hc] at e2
    have t : (decide (n.tmod d < 0)) = true := by simp; omega
    have E := Lib.hid (show n / d = n.tdiv d - 1 by omega)
    clear e1 e2 hc m0 m1
    go_enter Try.func26, Try.ntmps26
    go_wp2
    all_goals first
      | (exfalso; simp at t; omega)
      | (go_ret; exact ⟨ret_i64 E.out.symm, (Below.refl _ _).alloc (Nat.le_refl _) _⟩)

theorem floor_c (p : Rat) (hp : okQ p) (w : World) : Calls Try.prog 26 #[frac p] w fun e w' => e = .returned (.int .i64 p.floor) ∧ Below w.heap.size w w' := by
  have b := okQ_bd hp
  rw [Rat.floor_def]
  exact floor_walk p.num p.den b.1 b.2 w

theorem floor_bd {p : Rat} (hp : okQ p) : -4611686018427387904 ≤ p.floor ∧ p.floor ≤ 4611686018427387904 := by
  have b := okQ_bd hp
  constructor
  · rw [Rat.le_floor_iff, Rat.le_iff, Rat.num_intCast, Rat.den_intCast]; omega
  · have : p.floor < 4611686018427387905 := by
      rw [Rat.floor_lt_iff, Rat.lt_iff, Rat.num_intCast, Rat.den_intCast]; omega
    omega

def ceFacts : List (FuncId × List Fct) := [(26, [⟨[.agg [.sym .i64 (.bin .sub (.lit 0) (.var 0 (-4611686018427387904) 4611686018427387904)) (-4611686018427387904) 4611686018427387904, aD 1]], [], aN 2, [], []⟩])]
abbrev ceV : AV := .sym .i64 (.bin .sub (.lit 0) (.var 2 (-4611686018427387904) 4611686018427387904)) (-4611686018427387904) 4611686018427387904
theorem ce_run : okRun Try.prog (orcOf ceFacts) 28 [fr 0] ceV = true := by kernel_rfl
theorem ceil_c (p : Rat) (hp : okQ p) (w : World) : Calls Try.prog 28 #[frac p] w fun e w' => e = .returned (.int .i64 p.ceil) ∧ Below w.heap.size w w' := by
  have b := okQ_bd hp
  have h := floor_bd (neg_ok hp)
  letI := rho [p.num, p.den, (-p).floor]
  have A : FX (.sym .i64 (.bin .sub (.lit 0) (.var 0 (-4611686018427387904) 4611686018427387904)) (-4611686018427387904) 4611686018427387904) (-p).num .i64 :=
    fx_sym ⟨trivial, show _ ≤ p.num ∧ p.num ≤ _ from b.1⟩ (show 0 - p.num = _ by rw [Rat.neg_num]; omega) (by rw [Rat.neg_num]; omega)
  have D : FX (aD 1) ((-p).den : Int) .i64 := fx_lt (show (p.den : Int) = _ by rw [Rat.neg_den]) (by rw [Rat.neg_den]; exact b.2)
  have hv : (ceV).vl = .int .i64 p.ceil := by
    rw [Rat.ceil_eq_neg_floor_neg]
    show Value.int .i64 (0 - (-p).floor) = _
    rw [Int.zero_sub]
  rw [← hv]
  exact run_open fit (orcOf_ok (L := ceFacts) ⟨one (holds1 (fa_pair A D rfl) (fx_lt rfl h).fv body26 (floor_c (-p) (neg_ok hp))), trivial⟩) ce_run ⟨fr_fine hp rfl rfl, trivial⟩ w

end Go.Proofs.Ytieabeodommbiaa
