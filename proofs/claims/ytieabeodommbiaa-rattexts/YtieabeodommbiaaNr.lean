/- RatLowest: what it answers, for all numbers. -/
import Derived.Test.YtieabeodommbiaaLc0
import Derived.Test.YtieabeodommbiaaLc1
import Derived.Test.YtieabeodommbiaaLc2
import Derived.Test.YtieabeodommbiaaNq
namespace Go.Proofs.Ytieabeodommbiaa
open Go.RowKit (Below)
open Go.Ev
set_option linter.unusedVariables false

theorem bodyC : hasBody Try.prog 11 = true := by kernel_rfl
theorem body38 : hasBody Try.prog 38 = true := by kernel_rfl

/-! ### the law's own: created, div by 0 -/
theorem cr_run : okRun Try.prog (orcOf [(38, [F2 (xs 0) (xs 1) (outA 4)])]) 11 [xs 0, xs 1] (resA 4) = true := by kernel_rfl
theorem cr_run0 : okRun Try.prog (orcOf [(38, [F2 (xs 0) (.int .i64 0) (zeroR 3)])]) 11 [xs 0, .int .i64 0] (R3 2 0) = true := by kernel_rfl
theorem dz_run2 : okRun Try.prog (orcOf [(51, [F2 (fr 0) (fr 2) (zeroR 3)])]) 22 [fr 0, fr 2] (R3 2 0) = true := by kernel_rfl
def e3V : Value := .agg #[.int .i64 0, .int .i64 0, .int .i64 3]

theorem createdL (n d : Int) (hn : -9223372036854775808 ≤ n ∧ n ≤ 9223372036854775807) (hd : -9223372036854775808 ≤ d ∧ d ≤ 9223372036854775807) (h0 : d ≠ 0) (w : World) :
    Calls Try.prog 11 #[.int .i64 n, .int .i64 d] w fun e w' => e = .returned (resV (Rat.divInt n d)) ∧ Below w.heap.size w w' := by
  letI := rho [n, d, 0, 0, rN (Rat.divInt n d), rD (Rat.divInt n d), rE (Rat.divInt n d)]
  exact run_open fit (orcOf_ok (L := [(38, [F2 (xs 0) (xs 1) (outA 4)])]) ⟨one (fct_flat rfl rfl rfl (out_fine rfl rfl rfl) body38 (make_q n d hn hd h0)), trivial⟩) cr_run ⟨lt1 hn, lt1 hd, trivial⟩ w
theorem createdL0 (n : Int) (hn : -9223372036854775808 ≤ n ∧ n ≤ 9223372036854775807) (w : World) :
    Calls Try.prog 11 #[.int .i64 n, .int .i64 0] w fun e w' => e = .returned e3V ∧ Below w.heap.size w w' := by
  letI := rho [n]
  exact run_open fit (orcOf_ok (L := [(38, [F2 (xs 0) (.int .i64 0) (zeroR 3)])]) ⟨one (fct_flat rfl rfl rfl ⟨⟨trivial, trivial, trivial⟩, trivial, trivial⟩ body38 (make_0 n hn)), trivial⟩) cr_run0 ⟨lt1 hn, trivial, trivial⟩ w
theorem divL0 (p q : Rat) (hp : okQ p) (hq : okQ q) (h0 : q.num = 0) (w : World) :
    Calls Try.prog 22 #[frac p, frac q] w fun e w' => e = .returned e3V ∧ Below w.heap.size w w' := by
  letI := rho [p.num, p.den, q.num, q.den]
  exact run_open fit (orcOf_ok (L := [(51, [F2 (fr 0) (fr 2) (zeroR 3)])]) ⟨one (fct_flat rfl rfl rfl ⟨⟨trivial, trivial, trivial⟩, trivial, trivial⟩ body51 (div_0 p q hp hq h0)), trivial⟩) dz_run2 ⟨fr_fine hp rfl rfl, fr_fine hq rfl rfl, trivial⟩ w

/-! ### classes -/
def cls (q : Rat) : Nat := if okQ q then 0 else 1
theorem cls_lt (q : Rat) : cls q < 2 := by unfold cls; split <;> omega
theorem cls_ok {q : Rat} (h : Nat.beq (cls q) 0 = true) : okQ q := by
  unfold cls at h
  split at h
  · assumption
  · cases h
def cls3 (z : Prop) [Decidable z] (q : Rat) : Nat := if z then 2 else cls q
theorem cls3_lt (z : Prop) [Decidable z] (q : Rat) : cls3 z q < 3 := by unfold cls3; have := cls_lt q; split <;> omega
theorem cls3_ok {z : Prop} [Decidable z] {q : Rat} (h : Nat.beq (cls3 z q) 0 = true) : okQ q := by
  unfold cls3 at h
  split at h
  · cases h
  · exact cls_ok h
theorem all2_get {f : Nat → Bool} (h : allB f = true) {n : Nat} (hn : n < 2) : f n = true := by
  simp only [allB, Bool.and_eq_true] at h
  match n, hn with
  | 0, _ => exact h.1
  | 1, _ => exact h.2
theorem all3_get {f : Nat → Bool} (h : allC f = true) {n : Nat} (hn : n < 3) : f n = true := by
  simp only [allC, Bool.and_eq_true] at h
  match n, hn with
  | 0, _ => exact h.1
  | 1, _ => exact h.2.1
  | 2, _ => exact h.2.2

section
variable [Rho]
theorem fv_e3 {i : Nat} : FV (R3 2 i) e3V := ⟨rfl, rfl, ⟨trivial, trivial, trivial, trivial⟩, rfl⟩
theorem fv_R3 {i : Nat} {p : Rat} (h1 : Rho.ρ i = p.num) (h2 : Rho.ρ (i + 1) = p.den) : FV (R3 (cls p) i) (resV p) := by
  unfold cls
  by_cases hp : okQ p
  · have := fv_R (c := true) (decide_eq_true hp).symm h1 h2
    rw [if_pos hp]; exact this
  · have := fv_R (c := false) (decide_eq_false hp).symm h1 h2
    rw [if_neg hp]; exact this
theorem fv_R30 {i : Nat} {p : Rat} (hp : okQ p) (h1 : Rho.ρ i = p.num) (h2 : Rho.ρ (i + 1) = p.den) : FV (R3 0 i) (resV p) := by
  have := fv_R3 h1 h2
  unfold cls at this
  rwa [if_pos hp] at this
theorem own_h {i : Nat} {q : Rat} (h : okQ q) (h1 : Rho.ρ i = q.num) (h2 : Rho.ρ (i + 1) = q.den) : (ownF i).Holds Try.prog 38 := by
  have := okQ_bd h
  refine holds2 (vx := .int .i64 q.num) (vy := .int .i64 q.den) ⟨rfl, rfl, by show Value.int .i64 (Rho.ρ i) = _; rw [h1]⟩ ⟨rfl, rfl, by show Value.int .i64 (Rho.ρ (i + 1)) = _; rw [h2]⟩
    ⟨rfl, rfl, ⟨⟨ltf (by rw [h1]; exact this.1), ltf (by rw [h2]; exact this.2), trivial⟩, trivial, trivial⟩, by show Value.tuple #[.agg #[.int .i64 (Rho.ρ i), .int .i64 (Rho.ρ (i + 1))], .int .i64 0] = _; rw [h1, h2]⟩ body38 (make_own q h)
theorem zero_h : (F2 (.int .i64 0) (.int .i64 0) (zeroR 3)).Holds Try.prog 38 :=
  holds2 (vx := .int .i64 0) (vy := .int .i64 0) ⟨rfl, rfl, rfl⟩ ⟨rfl, rfl, rfl⟩ ⟨rfl, rfl, ⟨⟨trivial, trivial, trivial⟩, trivial, trivial⟩, rfl⟩ body38 (make_0 0 (by omega))
end

/-- the rest has the sign of what it is a rest of -/
theorem rest_bd (x : Int) : -1073741823 ≤ x.tmod 1073741824 ∧ x.tmod 1073741824 ≤ 1073741823 := by
  rcases Int.le_total 0 x with h | h
  · have := Int.tmod_nonneg 1073741824 h
    have := Int.tmod_lt_of_pos x (show (0 : Int) < 1073741824 by omega)
    omega
  · have a := Int.tmod_nonneg 1073741824 (show 0 ≤ -x by omega)
    have b := Int.tmod_lt_of_pos (-x) (show (0 : Int) < 1073741824 by omega)
    rw [Int.neg_tmod] at a b
    omega

theorem low_of {s t p q : Nat} (c z : Nat) (h : (allB fun s => allB fun t => allB fun p => allC fun q => lowRun s t p q c z) = true) (hs : s < 2) (ht : t < 2) (hp : p < 2) (hq : q < 3) : lowRun s t p q c z = true :=
  all3_get (f := fun q => lowRun s t p q c z) (all2_get (f := fun p => allC fun q => lowRun s t p q c z) (all2_get (f := fun t => allB fun p => allC fun q => lowRun s t p q c z) (all2_get (f := fun s => allB fun t => allB fun p => allC fun q => lowRun s t p q c z) h hs) ht) hp) hq
theorem low_run (s t p q c z : Nat) (hs : s < 2) (ht : t < 2) (hp : p < 2) (hq : q < 3) (hc : c < 3) (hz : z < 3) : lowRun s t p q c z = true := by
  match z, hz, c, hc with
  | 0, _, 0, _ => exact low_of 0 0 low_run00 hs ht hp hq
  | 0, _, 1, _ => exact low_of 1 0 low_run01 hs ht hp hq
  | 0, _, 2, _ => exact low_of 2 0 low_run02 hs ht hp hq
  | 1, _, 0, _ => exact low_of 0 1 low_run10 hs ht hp hq
  | 1, _, 1, _ => exact low_of 1 1 low_run11 hs ht hp hq
  | 1, _, 2, _ => exact low_of 2 1 low_run12 hs ht hp hq
  | 2, _, 0, _ => exact low_of 0 2 low_run20 hs ht hp hq
  | 2, _, 1, _ => exact low_of 1 2 low_run21 hs ht hp hq
  | 2, _, 2, _ => exact low_of 2 2 low_run22 hs ht hp hq

theorem low_c (x0 x1 x2 x3 k : Int) (h0 : -9223372036854775808 ≤ x0 ∧ x0 ≤ 9223372036854775807) (h1 : -9223372036854775808 ≤ x1 ∧ x1 ≤ 9223372036854775807) (h2 : -9223372036854775808 ≤ x2 ∧ x2 ≤ 9223372036854775807)
    (h3 : -9223372036854775808 ≤ x3 ∧ x3 ≤ 9223372036854775807) (hk : -2147483648 ≤ k ∧ k ≤ 2147483647) (w : World) :
    Calls Try.prog 6 #[.agg #[.int .i64 x0, .int .i64 x1], .agg #[.int .i64 x2, .int .i64 x3], .int .i32 k] w fun e w' => e = .returned (.bool true) ∧ Below w.heap.size w w' := by
  have ma := made_c x0 x1 h0 h1
  have mb := made_c x2 x3 h2 h3
  have oa : okQ (madeQ (mu x0 x1 + 1) x0 x1) := madeQ_ok _ _ _
  have ob : okQ (madeQ (mu x2 x3 + 1) x2 x3) := madeQ_ok _ _ _
  generalize madeQ (mu x0 x1 + 1) x0 x1 = a at *
  generalize madeQ (mu x2 x3 + 1) x2 x3 = b at *
  have nb := rest_bd x0
  have db := rest_bd x1
  obtain ⟨n, hn'⟩ : ∃ n, x0.tmod 1073741824 = n := ⟨_, rfl⟩
  obtain ⟨d, hd'⟩ : ∃ d, x1.tmod 1073741824 = d := ⟨_, rfl⟩
  rw [hn'] at nb
  rw [hd'] at db
  letI R := rho [x0, x1, x2, x3, k, 0, a.num, a.den, b.num, b.den, (a + b).num, (a + b).den, (a - b).num, (a - b).den, (a * b).num, (a * b).den, (a / b).num, (a / b).den, (Rat.divInt x0 x2).num, (Rat.divInt x0 x2).den,
    (Rat.divInt n d).num, (Rat.divInt n d).den]
  have en : nLX.eval = n := hn'
  have ed : dLX.eval = d := hd'
  obtain ⟨z, hz, hz0, hz1, hz2⟩ : ∃ z, z < 3 ∧ (Nat.beq z 0 = decide (d = 0)) ∧ (z ≠ 0 → Nat.beq z 1 = decide (k = 0)) ∧ (Nat.beq z 2 = true → d ≠ 0 ∧ k ≠ 0) := by
    by_cases e1 : d = 0
    · exact ⟨0, by omega, by rw [decide_eq_true e1]; rfl, fun h => absurd rfl h, fun h => by cases h⟩
    · by_cases e2 : k = 0
      · exact ⟨1, by omega, by rw [decide_eq_false e1]; rfl, fun _ => by rw [decide_eq_true e2]; rfl, fun h => by cases h⟩
      · exact ⟨2, by omega, by rw [decide_eq_false e1]; rfl, fun _ => by rw [decide_eq_false e2]; rfl, fun _ => ⟨e1, e2⟩⟩
  have e20 : Nat.beq z 2 = true → okQ (Rat.divInt n d) := fun h => small_fits n d (by omega) (by omega) (hz2 h).1
  have ht : (lowTab z).Ok R := by
    refine { cmps := ?_ }
    intro x hx
    simp only [lowTab, List.mem_append, List.mem_cons, List.not_mem_nil, or_false] at hx
    rcases hx with rfl | hx | hx
    · refine ⟨by simp [cmpNo], fun _ _ => ?_⟩
      show some (dLX.eval == 0) = some (Nat.beq z 0)
      rw [ed, hz0]; rfl
    · split at hx
      · cases hx
      · rename_i hne
        obtain rfl := List.mem_singleton.1 hx
        refine ⟨by simp [cmpNo], fun _ _ => ?_⟩
        show some (k == 0) = some (Nat.beq z 1)
        rw [hz1 (fun e => hne (by rw [e]; rfl))]; rfl
    · split at hx
      · rename_i h
        obtain rfl := List.mem_singleton.1 hx
        refine ⟨by simp [cmpNo], fun _ _ => ?_⟩
        show some (IntKind.i64.wrap ((Rat.divInt n d).num * dLX.eval) == IntKind.i64.wrap (((Rat.divInt n d).den : Int) * nLX.eval)) = some true
        have : (Rat.divInt n d).num * d = n * (Rat.divInt n d).den := by
          refine (Rat.divInt_eq_divInt_iff (by have := (Rat.divInt n d).den_pos; omega) (hz2 h).1).1 ?_
          exact Rat.num_divInt_den _
        rw [en, ed, this, Int.mul_comm]; simp
      · cases hx
  letI := (lowTab z).know
  haveI := KTab.ok ht
  have A : FA (fr 6) (frac a) := fa_fr rfl rfl
  have B : FA (fr 8) (frac b) := fa_fr rfl rfl
  have X0 : FA (xs 0) (.int .i64 x0) := fa_x rfl
  have X2 : FA (xs 2) (.int .i64 x2) := fa_x rfl
  have V10 : FV (R3 (cls (a + b)) 10) (resV (a + b)) := fv_R3 rfl rfl
  have V12 : FV (R3 (cls (a - b)) 12) (resV (a - b)) := fv_R3 rfl rfl
  have V14 : FV (R3 (cls (a * b)) 14) (resV (a * b)) := fv_R3 rfl rfl
  have Xn : FA (rLA nLX) (.int .i64 n) := ⟨rfl, rfl, by show Value.int .i64 nLX.eval = _; rw [en]⟩
  have Xd : FA (rLA dLX) (.int .i64 d) := ⟨rfl, rfl, by show Value.int .i64 dLX.eval = _; rw [ed]⟩
  have Xnk : FA (rkLA nLX) (.int .i64 (n * k)) := ⟨rfl, rfl, by show Value.int .i64 (nLX.eval * k) = _; rw [en]⟩
  have Xdk : FA (rkLA dLX) (.int .i64 (d * k)) := ⟨rfl, rfl, by show Value.int .i64 (dLX.eval * k) = _; rw [ed]⟩
  have bk : ∀ m : Int, -1073741823 ≤ m ∧ m ≤ 1073741823 → -9223372036854775808 ≤ m * k ∧ m * k ≤ 9223372036854775807 := fun m hm => by
    have := mul_corner hm.1 hm.2 hk.1 hk.2
    have e1 : mulLo (-1073741823) 1073741823 (-2147483648) 2147483647 = -2305843007066210304 := by decide
    have e2 : mulHi (-1073741823) 1073741823 (-2147483648) 2147483647 = 2305843007066210304 := by decide
    rw [e1, e2] at this; omega
  refine run_open fit (orcOf_ok (L := lowFacts (cls (a + b)) (cls (a - b)) (cls (a * b)) (cls3 (b.num = 0) (a / b)) (cls3 (x2 = 0) (Rat.divInt x0 x2)) z) ⟨?_, ?_, ?_, ?_, ?_, ?_, ?_, ?_, trivial⟩)
    (low_run _ _ _ _ _ _ (cls_lt _) (cls_lt _) (cls_lt _) (cls3_lt _ _) (cls3_lt _ _) hz) ⟨⟨ltf h0, ltf h1, trivial⟩, ⟨ltf h2, ltf h3, trivial⟩, ⟨hk, hk⟩, trivial⟩ w
  · exact one (fct_flat rfl rfl rfl trivial body10 ex_c)
  · exact two (holds2 (fa_x rfl) (fa_x rfl) (fv_fr oa rfl rfl) body15 ma) (one (holds2 (fa_x rfl) (fa_x rfl) (fv_fr ob rfl rfl) body15 mb))
  · exact one (holds2 A B V10 body16 (addL a b oa ob))
  · exact one (holds2 A B V12 body18 (subL a b oa ob))
  · exact one (holds2 A B V14 body20 (mulL a b oa ob))
  · refine one ?_
    unfold cls3
    split
    · rename_i h; exact holds2 A B fv_e3 body22 (divL0 a b oa ob h)
    · rename_i h; exact holds2 A B (fv_R3 rfl rfl) body22 (divL a b oa ob h)
  · refine two ?_ (appH (cifH fun h => ?_) (cifH fun h => ?_))
    · unfold cls3
      split
      · rename_i h
        have X2' : FA (xs 2) (.int .i64 0) := fa_x h
        exact holds2 X0 X2' fv_e3 bodyC (createdL0 x0 h0)
      · rename_i h; exact holds2 X0 X2 (fv_R3 rfl rfl) bodyC (createdL x0 x2 h0 h2 h)
    · exact holds2 Xn Xd (fv_R30 (e20 h) rfl rfl) bodyC (createdL n d (by omega) (by omega) (hz2 h).1)
    · refine holds2 Xnk Xdk (fv_R30 (e20 h) rfl rfl) bodyC ?_
      have := createdL (n * k) (d * k) (bk n nb) (bk d db) (Int.mul_ne_zero (hz2 h).1 (hz2 h).2)
      rwa [Rat.divInt_mul_right (hz2 h).2] at this
  · exact two zero_h (appH (cifH fun h => own_h (cls_ok h) rfl rfl) (appH (cifH fun h => own_h (cls_ok h) rfl rfl) (appH (cifH fun h => own_h (cls_ok h) rfl rfl) (appH (cifH fun h => own_h (cls3_ok h) rfl rfl) (cifH fun h => own_h (cls3_ok h) rfl rfl)))))
end Go.Proofs.Ytieabeodommbiaa

/- The reference's differences, quotients and ceilings of fractions, in rational numbers; which fractions are valid. -/
namespace Go.Proofs.Ytieabeodommbiaa
open Go.RowKit
set_option maxRecDepth 100000
set_option linter.unusedVariables false

set_option maxHeartbeats 1600000 in
theorem subin_w {W : World} {an ad bn bd x y z : Int} (hb : -4611686018427387904 ≤ bn ∧ bn ≤ 4611686018427387904)
    (H : ∀ w : World, Calls Try.prog 17 #[.agg #[.int .i64 an, .int .i64 ad], .agg #[.int .i64 (-bn), .int .i64 bd]] w fun e w' => e = .returned (.agg #[.int .i64 x, .int .i64 y, .int .i64 z]) ∧ Below w.heap.size w w') :
    Calls Try.prog 19 #[.agg #[.int .i64 an, .int .i64 ad], .agg #[.int .i64 bn, .int .i64 bd]] W fun e W' => e = .returned (.agg #[.int .i64 x, .int .i64 y, .int .i64 z]) ∧ Below W.heap.size W W' := by
  have HH := Lib.hid H
  clear H
  go_enter Try.func19, Try.ntmps19
  go_wp2_with fail
  have hb0 : Boxes W (.int .i64 an) (.int .i64 ad) (.int .i64 bn) (.int .i64 bd) (((W.alloc (.cells #[.int .i64 an, .int .i64 ad] 25)).alloc (.cells #[.int .i64 bn, .int .i64 bd] 25)).alloc (.cells #[.int .i64 0, .int .i64 0, .int .i64 0] 28)) := boxes0 W (.int .i64 an) (.int .i64 ad) (.int .i64 bn) (.int .i64 bd)
  have HR : Hid (Res0 W.heap.size (((W.alloc (.cells #[.int .i64 an, .int .i64 ad] 25)).alloc (.cells #[.int .i64 bn, .int .i64 bd] 25)).alloc (.cells #[.int .i64 0, .int .i64 0, .int .i64 0] 28))) := Lib.hid (res0 W (.int .i64 an) (.int .i64 ad) (.int .i64 bn) (.int .i64 bd))
  generalize (((W.alloc (.cells #[.int .i64 an, .int .i64 ad] 25)).alloc (.cells #[.int .i64 bn, .int .i64 bd] 25)).alloc (.cells #[.int .i64 0, .int .i64 0, .int .i64 0] 28)) = w1 at *
  refine (HH.out _).mono ?_
  rintro e w2 ⟨rfl, hb2⟩
  obtain ⟨r0, r1, r2, r3, r4, r5⟩ := HR.out.keep hb2 hb0.2.1
  have HF := Lib.hid (keepB hb0 hb2).1
  clear hb0 hb2
  go_wp2
  exact bodyPost_ret (v := .agg #[.int .i64 x, .int .i64 y, .int .i64 z]) (by simp [results, Try.results19, go_sem, r0, r1, r2]) rfl ⟨rfl, ((HF.out.setCell (by simp; omega) _).setCell (by simp; omega) _).setCell (by simp; omega) _⟩
set_option maxHeartbeats 1600000 in
theorem divin_w {W : World} {an ad bn bd x y z : Int} (hb : -4611686018427387904 ≤ bn ∧ bn ≤ 4611686018427387904) (hd : 1 ≤ bd ∧ bd ≤ 4611686018427387904) (h0 : bn ≠ 0)
    (H : ∀ w : World, Calls Try.prog 21 #[.agg #[.int .i64 an, .int .i64 ad], .agg #[.int .i64 (if bn < 0 then -bd else bd), .int .i64 (if bn < 0 then -bn else bn)]] w fun e w' => e = .returned (.agg #[.int .i64 x, .int .i64 y, .int .i64 z]) ∧ Below w.heap.size w w') :
    Calls Try.prog 23 #[.agg #[.int .i64 an, .int .i64 ad], .agg #[.int .i64 bn, .int .i64 bd]] W fun e W' => e = .returned (.agg #[.int .i64 x, .int .i64 y, .int .i64 z]) ∧ Below W.heap.size W W' := by
  have c0 : (bn == 0) = false := by simpa using h0
  by_cases hn : bn < 0
  · rw [if_pos hn, if_pos hn] at H
    have HH := Lib.hid H
    clear H h0
    go_enter Try.func23, Try.ntmps23
    go_wp2_with fail
    have hb0 : Boxes W (.int .i64 an) (.int .i64 ad) (.int .i64 bn) (.int .i64 bd) (((W.alloc (.cells #[.int .i64 an, .int .i64 ad] 25)).alloc (.cells #[.int .i64 bn, .int .i64 bd] 25)).alloc (.cells #[.int .i64 0, .int .i64 0, .int .i64 0] 28)) := boxes0 W (.int .i64 an) (.int .i64 ad) (.int .i64 bn) (.int .i64 bd)
    have HR : Hid (Res0 W.heap.size (((W.alloc (.cells #[.int .i64 an, .int .i64 ad] 25)).alloc (.cells #[.int .i64 bn, .int .i64 bd] 25)).alloc (.cells #[.int .i64 0, .int .i64 0, .int .i64 0] 28))) := Lib.hid (res0 W (.int .i64 an) (.int .i64 ad) (.int .i64 bn) (.int .i64 bd))
    generalize (((W.alloc (.cells #[.int .i64 an, .int .i64 ad] 25)).alloc (.cells #[.int .i64 bn, .int .i64 bd] 25)).alloc (.cells #[.int .i64 0, .int .i64 0, .int .i64 0] 28)) = w1 at *
    refine (HH.out _).mono ?_
    rintro e w2 ⟨rfl, hb2⟩
    obtain ⟨r0, r1, r2, r3, r4, r5⟩ := HR.out.keep hb2 hb0.2.1
    have HF := Lib.hid (keepB hb0 hb2).1
    clear hb0 hb2
    go_wp2
    exact bodyPost_ret (v := .agg #[.int .i64 x, .int .i64 y, .int .i64 z]) (by simp [results, Try.results23, go_sem, r0, r1, r2]) rfl ⟨rfl, ((HF.out.setCell (by simp; omega) _).setCell (by simp; omega) _).setCell (by simp; omega) _⟩
  · rw [if_neg hn, if_neg hn] at H
    have HH := Lib.hid H
    clear H h0
    go_enter Try.func23, Try.ntmps23
    go_wp2_with fail
    have hb0 : Boxes W (.int .i64 an) (.int .i64 ad) (.int .i64 bn) (.int .i64 bd) (((W.alloc (.cells #[.int .i64 an, .int .i64 ad] 25)).alloc (.cells #[.int .i64 bn, .int .i64 bd] 25)).alloc (.cells #[.int .i64 0, .int .i64 0, .int .i64 0] 28)) := boxes0 W (.int .i64 an) (.int .i64 ad) (.int .i64 bn) (.int .i64 bd)
    have HR : Hid (Res0 W.heap.size (((W.alloc (.cells #[.int .i64 an, .int .i64 ad] 25)).alloc (.cells #[.int .i64 bn, .int .i64 bd] 25)).alloc (.cells #[.int .i64 0, .int .i64 0, .int .i64 0] 28))) := Lib.hid (res0 W (.int .i64 an) (.int .i64 ad) (.int .i64 bn) (.int .i64 bd))
    generalize (((W.alloc (.cells #[.int .i64 an, .int .i64 ad] 25)).alloc (.cells #[.int .i64 bn, .int .i64 bd] 25)).alloc (.cells #[.int .i64 0, .int .i64 0, .int .i64 0] 28)) = w1 at *
    refine (HH.out _).mono ?_
    rintro e w2 ⟨rfl, hb2⟩
    obtain ⟨r0, r1, r2, r3, r4, r5⟩ := HR.out.keep hb2 hb0.2.1
    have HF := Lib.hid (keepB hb0 hb2).1
    clear hb0 hb2
    go_wp2
    exact bodyPost_ret (v := .agg #[.int .i64 x, .int .i64 y, .int .i64 z]) (by simp [results, Try.results23, go_sem, r0, r1, r2]) rfl ⟨rfl, ((HF.out.setCell (by simp; omega) _).setCell (by simp; omega) _).setCell (by simp; omega) _⟩
set_option maxHeartbeats 800000 in
theorem divin_0 (an ad bd : Int) (W : World) : Calls Try.prog 23 #[.agg #[.int .i64 an, .int .i64 ad], .agg #[.int .i64 0, .int .i64 bd]] W fun e W' => e = .returned (.agg #[.int .i64 0, .int .i64 0, .int .i64 3]) ∧ Below W.heap.size W W' := by
  go_enter Try.func23, Try.ntmps23
  go_wp2
  exact bodyPost_ret (v := .agg #[.int .i64 0, .int .i64 0, .int .i64 3]) (by simp [results, Try.results23, go_sem]) rfl ⟨rfl, (((Below.refl _ _).alloc (Nat.le_refl _) _).alloc (by simp) _).alloc (by simp; omega) _⟩
set_option maxHeartbeats 800000 in
theorem rceil_w (n d f : Int) (hn : -4611686018427387904 ≤ n ∧ n ≤ 4611686018427387904) (hf : -4611686018427387904 ≤ f ∧ f ≤ 4611686018427387904)
    (H : ∀ w : World, Calls Try.prog 27 #[.agg #[.int .i64 (-n), .int .i64 d]] w fun e w' => e = .returned (.int .i64 f) ∧ Below w.heap.size w w') (W : World) :
    Calls Try.prog 29 #[.agg #[.int .i64 n, .int .i64 d]] W fun e W' => e = .returned (.int .i64 (-f)) ∧ Below W.heap.size W W' := by
  have HH := Lib.hid H
  clear H
  go_enter Try.func29, Try.ntmps29
  go_wp2_with fail
  refine (HH.out _).mono ?_
  rintro e w2 ⟨rfl, hb2⟩
  have HF : Hid (Below W.heap.size W w2) := Lib.hid (((Below.refl _ _).alloc (Nat.le_refl _) _).trans (hb2.mono (by simp)))
  clear hb2
  go_wp2
  go_ret
  exact ⟨rfl, HF.out⟩
theorem subin_q (p q : Rat) (hp : okQ p) (hq : okQ q) (W : World) : Calls Try.prog 19 #[frac p, frac q] W fun e W' => e = .returned (resV (p - q)) ∧ Below W.heap.size W W' := by
  have h := addin_q p (-q) hp (neg_ok hq)
  rw [← Rat.sub_eq_add_neg] at h
  exact subin_w (okQ_bd hq).1 (fun w => h w)
theorem divin_q (p q : Rat) (hp : okQ p) (hq : okQ q) (h0 : q.num ≠ 0) (W : World) : Calls Try.prog 23 #[frac p, frac q] W fun e W' => e = .returned (resV (p / q)) ∧ Below W.heap.size W W' := by
  have h := mulin_q p q⁻¹ hp (inv_ok hq)
  rw [← Rat.div_def] at h
  have hb := okQ_bd hq
  refine divin_w hb.1 hb.2 h0 (fun w => ?_)
  have := h w
  unfold frac at this
  rw [Rat.num_inv, Rat.den_inv, if_neg h0] at this
  by_cases hn : q.num < 0
  · rw [if_pos hn, if_pos hn]
    rw [Int.sign_eq_neg_one_of_neg hn, show ((q.num.natAbs : Nat) : Int) = -q.num by omega, Int.neg_mul, Int.one_mul] at this
    exact this
  · rw [if_neg hn, if_neg hn]
    rw [Int.sign_eq_one_of_pos (by omega), show ((q.num.natAbs : Nat) : Int) = q.num by omega, Int.one_mul] at this
    exact this
theorem rfloor_q (p : Rat) (hp : okQ p) (W : World) : Calls Try.prog 27 #[frac p] W fun e w' => e = .returned (.int .i64 p.floor) ∧ Below W.heap.size W w' := by
  have b := okQ_bd hp
  rw [Rat.floor_def]
  exact rfloor_c p.num p.den b.1.1 b.1.2 b.2.1 b.2.2 W
theorem rceil_q (p : Rat) (hp : okQ p) (W : World) : Calls Try.prog 29 #[frac p] W fun e w' => e = .returned (.int .i64 p.ceil) ∧ Below W.heap.size W w' := by
  rw [Rat.ceil_eq_neg_floor_neg]
  exact rceil_w p.num p.den _ (okQ_bd hp).1 (floor_bd (neg_ok hp)) (fun w => rfloor_q (-p) (neg_ok hp) w) W
end Go.Proofs.Ytieabeodommbiaa
