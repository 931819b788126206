/- The reference's operations on fractions, in rational numbers. -/
import Derived.Test.YtieabeodommbiaaNp
import Derived.Test.YtieabeodommbiaaNm
import Derived.Test.YtieabeodommbiaaQi
import Derived.IntWalk
namespace Go.Proofs.Ytieabeodommbiaa
open Go.RowKit
set_option maxRecDepth 100000
set_option linter.unusedVariables false

theorem rs_res (q : Rat) : rsN q.num q.den = rN q ∧ rsD q.num q.den = rD q ∧ rsE q.num q.den = rE q := by
  have e : fitI q.num q.den ↔ okQ q := by unfold fitI okQ; omega
  unfold rsN rsD rsE rN rD rE
  by_cases h : okQ q
  · rw [if_pos (e.2 h), if_pos (e.2 h), if_pos (e.2 h), if_pos h, if_pos h, if_pos h]; exact ⟨rfl, rfl, rfl⟩
  · have h' : ¬ fitI q.num q.den := fun k => h (e.1 k)
    rw [if_neg h', if_neg h', if_neg h', if_neg h, if_neg h, if_neg h]; exact ⟨rfl, rfl, rfl⟩
theorem ab_nat (a : Int) : ab a = a.natAbs := by unfold ab; split <;> omega
theorem gI_nat (a : Int) (d : Nat) : gI (ab a) d = (Nat.gcd a.natAbs d : Nat) := by
  unfold gI
  rw [ab_nat]
  rfl
theorem tdiv_bd (a g : Int) {l u : Int} (h0 : -u ≤ a ∧ a ≤ u) (hg : 1 ≤ g) : -u ≤ a.tdiv g ∧ a.tdiv g ≤ u := by
  have := Int.natAbs_tdiv_le_natAbs a g
  omega
theorem tdiv_bd0 (a g : Int) {u : Int} (h0 : 0 ≤ a ∧ a ≤ u) (hg : 1 ≤ g) : 0 ≤ a.tdiv g ∧ a.tdiv g ≤ u := by
  have h1 := Int.natAbs_tdiv_le_natAbs a g
  have h2 : 0 ≤ a.tdiv g := Int.tdiv_nonneg h0.1 (by omega)
  omega
theorem wrap_of {x : Int} (h : -9223372036854775808 ≤ x ∧ x ≤ 9223372036854775807) : IntKind.i64.wrap x = x := IntWalk.i64_in _ (by omega)

set_option maxHeartbeats 1600000 in
theorem mulin_0 {W : World} {an ad bn bd : Int} {x y g h : Int}
   (s1 : ∀ w : World, Calls Try.prog 40 #[.int .i64 an] w fun e w' => e = .returned (.int .i64 x) ∧ Below w.heap.size w w')
   (g1 : ∀ w : World, Calls Try.prog 39 #[.int .i64 x, .int .i64 bd] w fun e w' => e = .returned (.int .i64 g) ∧ Below w.heap.size w w')
   (s2 : ∀ w : World, Calls Try.prog 40 #[.int .i64 bn] w fun e w' => e = .returned (.int .i64 y) ∧ Below w.heap.size w w')
   (g2 : ∀ w : World, Calls Try.prog 39 #[.int .i64 y, .int .i64 ad] w fun e w' => e = .returned (.int .i64 h) ∧ Below w.heap.size w w')
   (c : Bool) (ea : (an == 0) = c) (eb : c = false → (bn == 0) = true) :
   Calls Try.prog 21 #[.agg #[.int .i64 an, .int .i64 ad], .agg #[.int .i64 bn, .int .i64 bd]] W fun e W' => e = .returned (.agg #[.int .i64 0, .int .i64 1, .int .i64 0]) ∧ Below W.heap.size W W' := by
  have S1 := Lib.hid s1
  have G1 := Lib.hid g1
  have S2 := Lib.hid s2
  have G2 := Lib.hid g2
  clear s1 g1 s2 g2
  have hex : Hid (an = 0 ∨ (an ≠ 0 ∧ bn = 0)) := Lib.hid (by
    cases c
    · have := eb rfl; simp at this ea; exact .inr ⟨ea, this⟩
    · simp at ea; exact .inl ea)
  clear ea eb
  go_enter Try.func21, Try.ntmps21
  go_wp2_with fail
  have hb0 : Boxes W (.int .i64 an) (.int .i64 ad) (.int .i64 bn) (.int .i64 bd) (((W.alloc (.cells #[.int .i64 an, .int .i64 ad] 25)).alloc (.cells #[.int .i64 bn, .int .i64 bd] 25)).alloc (.cells #[.int .i64 0, .int .i64 0, .int .i64 0] 28)) := boxes0 W (.int .i64 an) (.int .i64 ad) (.int .i64 bn) (.int .i64 bd)
  have HR : Hid (Res0 W.heap.size (((W.alloc (.cells #[.int .i64 an, .int .i64 ad] 25)).alloc (.cells #[.int .i64 bn, .int .i64 bd] 25)).alloc (.cells #[.int .i64 0, .int .i64 0, .int .i64 0] 28))) := Lib.hid (res0 W (.int .i64 an) (.int .i64 ad) (.int .i64 bn) (.int .i64 bd))
  have hB0 : Below (((W.alloc (.cells #[.int .i64 an, .int .i64 ad] 25)).alloc (.cells #[.int .i64 bn, .int .i64 bd] 25)).alloc (.cells #[.int .i64 0, .int .i64 0, .int .i64 0] 28)).heap.size (((W.alloc (.cells #[.int .i64 an, .int .i64 ad] 25)).alloc (.cells #[.int .i64 bn, .int .i64 bd] 25)).alloc (.cells #[.int .i64 0, .int .i64 0, .int .i64 0] 28)) (((W.alloc (.cells #[.int .i64 an, .int .i64 ad] 25)).alloc (.cells #[.int .i64 bn, .int .i64 bd] 25)).alloc (.cells #[.int .i64 0, .int .i64 0, .int .i64 0] 28)) := Below.refl _ _
  generalize (((W.alloc (.cells #[.int .i64 an, .int .i64 ad] 25)).alloc (.cells #[.int .i64 bn, .int .i64 bd] 25)).alloc (.cells #[.int .i64 0, .int .i64 0, .int .i64 0] 28)) = w1 at *
  have hz1 : W.heap.size + 3 ≤ w1.heap.size := hb0.2.1
  have hS0 := drewB hb0
  have hB1 : Below w1.heap.size w1 w1.drew := hB0.drew
  clear hb0 hB0
  go_region_held3 (fun w' => Boxes W (.int .i64 an) (.int .i64 ad) (.int .i64 bn) (.int .i64 bd) w') (first | (with_reducible exact hS0) | (refine keepB ?_ hb3; assumption))
      (first | (go_at_call 40; with_reducible refine (S1.out _).mono ?_; rintro e v ⟨rfl, hb3⟩; have hB2 := (by assumption : Below w1.heap.size w1 _).trans (hb3.mono (by assumption : Below w1.heap.size w1 _).size)) | (go_at_call 39; with_reducible refine (G1.out _).mono ?_; rintro e v ⟨rfl, hb3⟩; have hB2 := (by assumption : Below w1.heap.size w1 _).trans (hb3.mono (by assumption : Below w1.heap.size w1 _).size)))
  clear hS0 hB1 hb3
  rename_i hHeld
  have hS0 := drewB hHeld
  have hB1 := hB2.drew
  clear hHeld hB2
  clear hb3 hB2
  go_wp2_with fail
  go_region_held3 (fun w' => Boxes W (.int .i64 an) (.int .i64 ad) (.int .i64 bn) (.int .i64 bd) w') (first | (with_reducible exact hS0) | (refine keepB ?_ hb3; assumption))
      (first | (go_at_call 40; with_reducible refine (S2.out _).mono ?_; rintro e v ⟨rfl, hb3⟩; have hB2 := (by assumption : Below w1.heap.size w1 _).trans (hb3.mono (by assumption : Below w1.heap.size w1 _).size)) | (go_at_call 39; with_reducible refine (G2.out _).mono ?_; rintro e v ⟨rfl, hb3⟩; have hB2 := (by assumption : Below w1.heap.size w1 _).trans (hb3.mono (by assumption : Below w1.heap.size w1 _).size)))
  clear hS0 hB1 hb3
  rename_i hHeld
  obtain ⟨h1, h2, c1, c2, c3, c4⟩ := hHeld
  obtain ⟨r0, r1, r2, r3, r4, r5⟩ := HR.out.keep hB2 hz1
  have HF := Lib.hid h1
  clear h1 hB2
  rcases hex.out with ha | ⟨ha, hb⟩
  · subst ha
    go_wp2
    exact bodyPost_ret (v := .agg #[.int .i64 0, .int .i64 1, .int .i64 0]) (by simp [results, Try.results21, go_sem, r0, r1, r2]) rfl ⟨rfl, ((HF.out.setCell (by simp; omega) _).setCell (by simp; omega) _).setCell (by simp; omega) _⟩
  · subst hb
    have ha' : (an == 0) = false := by simpa using ha
    clear ha
    go_wp2
    exact bodyPost_ret (v := .agg #[.int .i64 0, .int .i64 1, .int .i64 0]) (by simp [results, Try.results21, go_sem, r0, r1, r2]) rfl ⟨rfl, ((HF.out.setCell (by simp; omega) _).setCell (by simp; omega) _).setCell (by simp; omega) _⟩

theorem mulin_q (p q : Rat) (hp : okQ p) (hq : okQ q) (W : World) : Calls Try.prog 21 #[frac p, frac q] W fun e W' => e = .returned (resV (p * q)) ∧ Below W.heap.size W W' := by
  obtain ⟨a1, a2⟩ := okQ_bd hp
  obtain ⟨b1, b2⟩ := okQ_bd hq
  have xa := ab_bd a1.1 a1.2
  have xb := ab_bd b1.1 b1.2
  have G1 := gI_pos (a := ab p.num) (b := q.den) xa.1 b2.1
  have G2 := gI_pos (a := ab q.num) (b := p.den) xb.1 a2.1
  have s1 := nsize_c p.num a1.1 a1.2
  have s2 := nsize_c q.num b1.1 b1.2
  have g1 := ngcd_c (ab p.num) q.den xa.1 (by omega) (by omega) (by omega)
  have g2 := ngcd_c (ab q.num) p.den xb.1 (by omega) (by omega) (by omega)
  have k1 := tdiv_bd p.num (gI (ab p.num) q.den) (l := 0) (u := 4611686018427387904) a1 G1.1
  have k2 := tdiv_bd q.num (gI (ab q.num) p.den) (l := 0) (u := 4611686018427387904) b1 G2.1
  have k3 := tdiv_bd0 p.den (gI (ab q.num) p.den) (u := 4611686018427387904) ⟨by omega, a2.2⟩ G2.1
  have k4 := tdiv_bd0 q.den (gI (ab p.num) q.den) (u := 4611686018427387904) ⟨by omega, b2.2⟩ G1.1
  by_cases h0 : p.num = 0 ∨ q.num = 0
  · have hz : p * q = 0 := by
      rcases h0 with h | h
      · rw [Rat.num_eq_zero.1 h, Rat.zero_mul]
      · rw [Rat.num_eq_zero.1 h, Rat.mul_zero]
    rw [hz]
    refine mulin_0 (W := W) s1 g1 s2 g2 (p.num == 0) rfl (fun h => ?_)
    rcases h0 with h1 | h1
    · rw [h1] at h; cases h
    · simpa using h1
  · have e1 : (p.num == 0) = false := beq_false_of_ne (fun h => h0 (.inl h))
    have e2 : (q.num == 0) = false := beq_false_of_ne (fun h => h0 (.inr h))
    have := mulin_w (W := W) ⟨s1, g1, s2, g2, nproduct_c _ _ k1.1 k1.2 k2.1 k2.2, bits_c _ k3.1 (by omega), bits_c _ k4.1 (by omega)⟩ ⟨G1.1, by omega⟩ ⟨G2.1, by omega⟩ a1 b1 a2 b2 e1 e2 (wrap_of (by omega)) (wrap_of (by omega)) (wrap_of (by omega)) (wrap_of (by omega)) (by omega) (by omega)
    refine this.mono ?_
    rintro e w ⟨rfl, hb⟩
    refine ⟨?_, hb⟩
    have e3 : p.num.tdiv (gI (ab p.num) q.den) * q.num.tdiv (gI (ab q.num) p.den) = (p * q).num := by rw [mul_num, gI_nat, gI_nat]
    have e4 : (p.den : Int).tdiv (gI (ab q.num) p.den) * (q.den : Int).tdiv (gI (ab p.num) q.den) = (p * q).den := by rw [mul_den, gI_nat, gI_nat, tdiv_nat, tdiv_nat]; simp
    rw [e3, e4, (rs_res _).1, (rs_res _).2.1, (rs_res _).2.2]
    rfl

theorem addin_q (p q : Rat) (hp : okQ p) (hq : okQ q) (W : World) : Calls Try.prog 17 #[frac p, frac q] W fun e W' => e = .returned (resV (p + q)) ∧ Below W.heap.size W W' := by
  obtain ⟨a1, a2⟩ := okQ_bd hp
  obtain ⟨b1, b2⟩ := okQ_bd hq
  have G1 := gI_pos (a := (p.den : Int)) (b := q.den) (by omega) b2.1
  obtain ⟨t, ht⟩ : ∃ t, t = p.num * (q.den : Int).tdiv (gI p.den q.den) + q.num * (p.den : Int).tdiv (gI p.den q.den) := ⟨_, rfl⟩
  have hm := Int.emod_nonneg (t.natAbs : Int) (show gI p.den q.den ≠ 0 by omega)
  have hm2 := Int.emod_lt_of_pos (t.natAbs : Int) (show 0 < gI p.den q.den by omega)
  have G2 := gI_pos (a := (t.natAbs : Int) % gI p.den q.den) (b := gI p.den q.den) hm G1.1
  have k1 := tdiv_bd0 q.den (gI p.den q.den) (u := 4611686018427387904) ⟨by omega, b2.2⟩ G1.1
  have k2 := tdiv_bd0 p.den (gI p.den q.den) (u := 4611686018427387904) ⟨by omega, a2.2⟩ G1.1
  have k3 := tdiv_bd0 q.den (gI ((t.natAbs : Int) % gI p.den q.den) (gI p.den q.den)) (u := 4611686018427387904) ⟨by omega, b2.2⟩ G2.1
  have eg : gcdI p.den q.den = gI p.den q.den := by unfold gcdI gI at *; omega
  have eS : adS p.num p.den q.num q.den = t := by unfold adS; rw [eg, ht]
  have eG : adG p.num p.den q.num q.den = gI ((t.natAbs : Int) % gI p.den q.den) (gI p.den q.den) := by
    unfold adG
    rw [eS, eg, absI_natAbs]
    have : gI (gI p.den q.den) ((t.natAbs : Int) % gI p.den q.den) = gI ((t.natAbs : Int) % gI p.den q.den) (gI p.den q.den) := by unfold gI; rw [Int.gcd_comm]
    rw [← this] at G2 ⊢
    unfold gcdI
    unfold gI at G2 ⊢
    omega
  obtain ⟨h1, h2, h3⟩ := add_parts p q
  unfold adD at h2
  rw [eS, eG] at h1 h3
  rw [eG, eg] at h2
  generalize hG : gI ((t.natAbs : Int) % gI p.den q.den) (gI p.den q.den) = G at *
  generalize hg : gI (p.den : Int) q.den = g at *
  have := addin_w (W := W) (an := p.num) (ad := p.den) (bn := q.num) (bd := q.den) (g := g) (h := G) (t := t) (rn := (p + q).num) (rd := (p + q).den)
    ⟨by rw [← hg]; exact ngcd_c p.den q.den (by omega) (by omega) (by omega) (by omega), nproduct_c _ _ a1.1 a1.2 (by omega) k1.2, nproduct_c _ _ b1.1 b1.2 (by omega) k2.2, by rw [← hG]; exact ngcd_c _ _ hm (by omega) (by omega) (by omega), bits_c _ k2.1 (by omega), bits_c _ k3.1 (by omega)⟩
    ⟨G1.1, by omega⟩ ⟨G2.1, by omega⟩ ht.symm a1 b1 a2 b2 (wrap_of (by omega)) (wrap_of (by omega)) (wrap_of (by omega)) (by omega) (by omega)
    (fun h => by
      have z : (p + q).num = 0 := by rw [h1, h]; simp
      refine ⟨z, ?_⟩
      rw [Rat.num_eq_zero.1 z]; rfl)
    (fun h => by
      refine ⟨?_, h2⟩
      rw [h1]
      obtain ⟨k, rfl⟩ := h3
      rw [Int.mul_ediv_cancel_left _ (by omega), Int.natAbs_mul, Int.natCast_mul, Int.natAbs_of_nonneg (show 0 ≤ G by omega), Int.mul_ediv_cancel_left _ (by omega), Int.sign_mul, Int.sign_eq_one_of_pos (by omega), Int.one_mul, Int.sign_mul_natAbs])
  refine this.mono ?_
  rintro e w ⟨rfl, hb⟩
  refine ⟨?_, hb⟩
  rw [(rs_res _).1, (rs_res _).2.1, (rs_res _).2.2]
  rfl
end Go.Proofs.Ytieabeodommbiaa
