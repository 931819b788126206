/- What the reference's MakeIn answers, as rational numbers; Made. -/
import Derived.Test.YtieabeodommbiaaQc
namespace Go.Proofs.Ytieabeodommbiaa
open Go.RowKit (Below)

theorem absI_tdiv (a : Int) (g : Nat) : absI (a.tdiv g) = (a.natAbs / g : Nat) := by
  rw [absI_natAbs, Int.natAbs_tdiv]; rfl

theorem divInt_parts (a b : Int) (hb : b ≠ 0) : (Rat.divInt a b).num = b.sign * a / (Nat.gcd a.natAbs b.natAbs : Nat) ∧ (Rat.divInt a b).den = b.natAbs / Nat.gcd a.natAbs b.natAbs := by
  rw [Rat.num_divInt, Rat.den_divInt, if_neg hb]
  have e : Int.gcd b a = Nat.gcd a.natAbs b.natAbs := by rw [Int.gcd_comm]; rfl
  rw [e]
  exact ⟨rfl, rfl⟩

theorem num_abs (a b : Int) (hb : b ≠ 0) : (Rat.divInt a b).num.natAbs = a.natAbs / Nat.gcd a.natAbs b.natAbs := by
  rw [(divInt_parts a b hb).1]
  have hd : ((Nat.gcd a.natAbs b.natAbs : Nat) : Int) ∣ b.sign * a := Int.dvd_mul_of_dvd_right (Int.ofNat_dvd_left.2 (Nat.gcd_dvd_left _ _))
  rw [Int.natAbs_ediv_of_dvd hd, Int.natAbs_mul, Int.natAbs_sign_of_ne_zero hb, Nat.one_mul]
  rfl

theorem odd_coprime (m : Nat) (h : m % 2 = 1) : Nat.gcd (2 ^ 63) m = 1 := by
  have h2 : Nat.Coprime 2 m := by
    show Nat.gcd 2 m = 1
    rw [Nat.gcd_rec, h, Nat.gcd_one_left]
  exact Nat.Coprime.pow_left 63 h2

theorem mi_spec (n d : Int) (v : Value) (h : MI n d v) : v = resV (Rat.divInt n d) := by
  obtain ⟨a, b, k, e1, e2, hb, hodd, ha1, hb1, rfl⟩ := h
  have hq : Rat.divInt n d = Rat.divInt a b := by
    rw [e1, e2]
    have p : (2 : Int) ^ k ≠ 0 := Int.ne_of_gt (Int.pow_pos (by omega))
    exact Rat.divInt_mul_right p
  rw [hq]
  have hden := (divInt_parts a b hb).2
  have hnum := num_abs a b hb
  have hG : Int.gcd (absI a) (absI b) = Nat.gcd a.natAbs b.natAbs := by rw [absI_natAbs, absI_natAbs]; rfl
  have hgp : 0 < Nat.gcd a.natAbs b.natAbs := Nat.gcd_pos_of_pos_right _ (by omega)
  unfold resV
  by_cases hz : a = 0
  · subst hz
    have e : Rat.divInt 0 b = 0 := Rat.zero_divInt b
    rw [e]
    unfold miN miD miE
    simp [rN, rD, rE, okQ]
  · by_cases hl : a = -9223372036854775808 ∨ b = -9223372036854775808
    · have hno : ¬ okQ (Rat.divInt a b) := by
        unfold okQ
        rw [hnum, hden]
        rcases hl with rfl | rfl
        · have hbo : b.natAbs % 2 = 1 := by omega
          have := odd_coprime b.natAbs hbo
          rw [show (-9223372036854775808 : Int).natAbs = 2 ^ 63 from rfl, this]
          simp
        · have hao : a.natAbs % 2 = 1 := by omega
          have := odd_coprime a.natAbs hao
          rw [show (-9223372036854775808 : Int).natAbs = 2 ^ 63 from rfl, Nat.gcd_comm, this]
          simp
      unfold miN miD miE rN rD rE
      rw [if_neg hz, if_neg hz, if_neg hz, if_pos hl, if_pos hl, if_pos hl, if_neg hno, if_neg hno, if_neg hno]
    · have eA : absI (a.tdiv (Int.gcd (absI a) (absI b))) = ((Rat.divInt a b).num.natAbs : Int) := by rw [hG, absI_tdiv, hnum]
      have eB : absI (b.tdiv (Int.gcd (absI a) (absI b))) = ((Rat.divInt a b).den : Int) := by rw [hG, absI_tdiv, hden]
      unfold miN miD miE
      rw [if_neg hz, if_neg hz, if_neg hz, if_neg hl, if_neg hl, if_neg hl, eA, eB]
      by_cases hk : okQ (Rat.divInt a b)
      · have hk' := hk
        unfold okQ at hk'
        have hno : ¬ (4611686018427387904 < ((Rat.divInt a b).num.natAbs : Int) ∨ 4611686018427387904 < ((Rat.divInt a b).den : Int)) := by omega
        rw [if_neg hno, if_neg hno, if_neg hno]
        unfold rN rD rE
        rw [if_pos hk, if_pos hk, if_pos hk]
        have sg : (if (decide (a < 0) != decide (b < 0)) = true then -((Rat.divInt a b).num.natAbs : Int) else ((Rat.divInt a b).num.natAbs : Int)) = (Rat.divInt a b).num := by
          have h1 := (divInt_parts a b hb).1
          have hs : ∀ x : Int, 0 ≤ x → 0 ≤ x / ((Nat.gcd a.natAbs b.natAbs : Nat) : Int) := fun x hx => Int.ediv_nonneg hx (by omega)
          have hs2 : ∀ x : Int, x ≤ 0 → x / ((Nat.gcd a.natAbs b.natAbs : Nat) : Int) ≤ 0 := fun x hx => Int.ediv_nonpos_of_nonpos_of_neg hx (by omega)
          by_cases sa : a < 0 <;> by_cases sb : b < 0
          · rw [Int.sign_eq_neg_one_of_neg sb] at h1
            have := hs (-1 * a) (by omega)
            rw [← h1] at this
            clear h1 hs hs2
            simp only [sa, sb, decide_true, bne_self_eq_false, Bool.false_eq_true, if_false]; omega
          · rw [Int.sign_eq_one_of_pos (by omega)] at h1
            have := hs2 (1 * a) (by omega)
            rw [← h1] at this
            clear h1 hs hs2
            simp only [sa, sb, decide_true, decide_false, Bool.true_bne, Bool.not_false, if_true]; omega
          · rw [Int.sign_eq_neg_one_of_neg sb] at h1
            have := hs2 (-1 * a) (by omega)
            rw [← h1] at this
            clear h1 hs hs2
            simp only [sa, sb, decide_true, decide_false, Bool.false_bne, if_true]; omega
          · rw [Int.sign_eq_one_of_pos (by omega)] at h1
            have := hs (1 * a) (by omega)
            rw [← h1] at this
            clear h1 hs hs2
            simp only [sa, sb, decide_false, bne_self_eq_false, Bool.false_eq_true, if_false]; omega
        rw [sg]
      · have hk' := hk
        unfold okQ at hk'
        rw [if_pos (by omega), if_pos (by omega), if_pos (by omega)]
        unfold rN rD rE
        rw [if_neg hk, if_neg hk, if_neg hk]

theorem makein_q (n d : Int) (hn : -9223372036854775808 ≤ n ∧ n ≤ 9223372036854775807) (hd : -9223372036854775808 ≤ d ∧ d ≤ 9223372036854775807) (h0 : d ≠ 0) (w : World) :
    Calls Try.prog 12 #[.int .i64 n, .int .i64 d] w fun e w' => e = .returned (resV (Rat.divInt n d)) ∧ Below w.heap.size w w' := by
  refine (makein_1 n d hn hd h0 w).mono ?_
  rintro e w' ⟨v, h1, h2, h3⟩
  rw [mi_spec n d v h1] at h2
  exact ⟨h2, h3⟩

/-- what Made does where the fraction does not fit -/
def mDen (d : Int) : Int := if d.tdiv 2 = 0 then 1 else d.tdiv 2
def fitsND (n d : Int) : Prop := d ≠ 0 ∧ okQ (Rat.divInt n d)
instance (n d : Int) : Decidable (fitsND n d) := inferInstanceAs (Decidable (_ ∧ _))
def madeQ : Nat → Int → Int → Rat
  | 0, _, _ => 0
  | k + 1, n, d => if fitsND n d then Rat.divInt n d else madeQ k (n.tdiv 2) (mDen d)
def mu (n d : Int) : Nat := n.natAbs + d.natAbs + (if d = 0 then 2 else 0)

theorem small_fits (n d : Int) (hn : n.natAbs ≤ 4611686018427387904) (hd : d.natAbs ≤ 4611686018427387904) (h0 : d ≠ 0) : okQ (Rat.divInt n d) := by
  unfold okQ
  rw [num_abs n d h0, (divInt_parts n d h0).2]
  have h1 := Nat.div_le_self n.natAbs (Nat.gcd n.natAbs d.natAbs)
  have h2 := Nat.div_le_self d.natAbs (Nat.gcd n.natAbs d.natAbs)
  omega

theorem mu_less (n d : Int) (h : ¬ fitsND n d) : mu (n.tdiv 2) (mDen d) < mu n d := by
  have a1 : (n.tdiv 2).natAbs = n.natAbs / 2 := by rw [Int.natAbs_tdiv]; rfl
  have a2 : (d.tdiv 2).natAbs = d.natAbs / 2 := by rw [Int.natAbs_tdiv]; rfl
  unfold mu mDen
  by_cases h0 : d = 0
  · subst h0; simp [-Int.natAbs_tdiv]; omega
  · have hbig : ¬ (n.natAbs ≤ 4611686018427387904 ∧ d.natAbs ≤ 4611686018427387904) := fun ⟨x, y⟩ => h ⟨h0, small_fits n d x y h0⟩
    rw [if_neg h0]
    by_cases h1 : d.tdiv 2 = 0
    · rw [if_pos h1]; simp [-Int.natAbs_tdiv]; omega
    · rw [if_neg h1, if_neg h1]; omega

theorem madeQ_ok : ∀ (k : Nat) (n d : Int), okQ (madeQ k n d)
  | 0, _, _ => by simp [madeQ, okQ]
  | k + 1, n, d => by
    unfold madeQ
    split
    · rename_i h; exact h.2
    · exact madeQ_ok k _ _

/-- what MakeIn answers -/
def iN (n d : Int) : Int := if d = 0 then 0 else rN (Rat.divInt n d)
def iD (n d : Int) : Int := if d = 0 then 0 else rD (Rat.divInt n d)
def iE (n d : Int) : Int := if d = 0 then 3 else rE (Rat.divInt n d)
def inV (n d : Int) : Value := .agg #[.int .i64 (iN n d), .int .i64 (iD n d), .int .i64 (iE n d)]

theorem iE_zero (n d : Int) : (iE n d != 0) = !decide (fitsND n d) := by
  unfold iE fitsND rE
  by_cases h : d = 0
  · simp [h]
  · by_cases h2 : okQ (Rat.divInt n d) <;> simp [h, h2]

theorem in_frac (n d : Int) (h : fitsND n d) : iN n d = (Rat.divInt n d).num ∧ iD n d = (Rat.divInt n d).den := by
  unfold iN iD rN rD
  rw [if_neg h.1, if_neg h.1, if_pos h.2, if_pos h.2]
  exact ⟨rfl, rfl⟩

theorem makein_any (n d : Int) (hn : -9223372036854775808 ≤ n ∧ n ≤ 9223372036854775807) (hd : -9223372036854775808 ≤ d ∧ d ≤ 9223372036854775807) (w : World) :
    Calls Try.prog 12 #[.int .i64 n, .int .i64 d] w fun e w' => e = .returned (inV n d) ∧ Below w.heap.size w w' := by
  unfold inV iN iD iE
  by_cases h : d = 0
  · subst h; rw [if_pos rfl, if_pos rfl, if_pos rfl]; exact makein_0 n w
  · rw [if_neg h, if_neg h, if_neg h]; exact makein_q n d hn hd h w

/-- between two rounds of Made -/
def MadeRel (n d : Int) (w w1 : World) (k : Nat) (a b : Int) (wr : World) : Prop :=
  (-9223372036854775808 ≤ a ∧ a ≤ 9223372036854775807) ∧ (-9223372036854775808 ≤ b ∧ b ≤ 9223372036854775807) ∧ madeQ k a b = madeQ (mu n d + 1) n d ∧ mu a b < k ∧
  wr.cell? ⟨w1.heap.size, 0, none⟩ = some (.int .i64 (iN a b)) ∧ wr.cell? ⟨w1.heap.size, 1, none⟩ = some (.int .i64 (iD a b)) ∧ wr.cell? ⟨w1.heap.size, 2, none⟩ = some (.int .i64 (iE a b)) ∧
  (∀ o, wr.frozen? ⟨w1.heap.size, o, none⟩ = false) ∧
  wr.cell? ⟨w.heap.size, 0, none⟩ = some (.int .i64 0) ∧ wr.cell? ⟨w.heap.size, 1, none⟩ = some (.int .i64 0) ∧ (∀ o, wr.frozen? ⟨w.heap.size, o, none⟩ = false) ∧ w1.heap.size < wr.heap.size ∧ Below w.heap.size w wr


section
variable {w2 : World} {B : Nat} {u0 u1 u2 : Value}
theorem oth (w : World) {a b : Addr} (v : Value) (h : a ≠ b) : (w.setCell a v).cell? b = w.cell? b := World.cell?_setCell_other _ _ _ _ h
theorem three0 (v0 v1 v2 : Value) (c0 : w2.cell? ⟨B, 0, none⟩ = some u0) : (((w2.setCell ⟨B, 0, none⟩ v0).setCell ⟨B, 1, none⟩ v1).setCell ⟨B, 2, none⟩ v2).cell? ⟨B, 0, none⟩ = some v0 :=
  (oth _ _ (by simp)).trans ((oth _ _ (by simp)).trans (World.cell?_setCell_same (u := u0) (h := c0) ..))
theorem three1 (v0 v1 v2 : Value) (c1 : w2.cell? ⟨B, 1, none⟩ = some u1) : (((w2.setCell ⟨B, 0, none⟩ v0).setCell ⟨B, 1, none⟩ v1).setCell ⟨B, 2, none⟩ v2).cell? ⟨B, 1, none⟩ = some v1 :=
  (oth _ _ (by simp)).trans (World.cell?_setCell_same (u := u1) (h := (oth _ _ (by simp)).trans c1) ..)
theorem three2 (v0 v1 v2 : Value) (c2 : w2.cell? ⟨B, 2, none⟩ = some u2) : (((w2.setCell ⟨B, 0, none⟩ v0).setCell ⟨B, 1, none⟩ v1).setCell ⟨B, 2, none⟩ v2).cell? ⟨B, 2, none⟩ = some v2 :=
  World.cell?_setCell_same (u := u2) (h := (oth _ _ (by simp)).trans ((oth _ _ (by simp)).trans c2)) ..
theorem threeO (v0 v1 v2 : Value) (p : Addr) (h : p.block ≠ B) : (((w2.setCell ⟨B, 0, none⟩ v0).setCell ⟨B, 1, none⟩ v1).setCell ⟨B, 2, none⟩ v2).cell? p = w2.cell? p := by
  have n : ∀ i, (⟨B, i, none⟩ : Addr) ≠ p := fun i e => h (by rw [← e])
  exact (oth _ _ (n 2)).trans ((oth _ _ (n 1)).trans (oth _ _ (n 0)))
end

open Go.RowKit in
/-- Made -/
theorem made_c (n d : Int) (hn : -9223372036854775808 ≤ n ∧ n ≤ 9223372036854775807) (hd : -9223372036854775808 ≤ d ∧ d ≤ 9223372036854775807) (w : World) :
    Calls Try.prog 15 #[.int .i64 n, .int .i64 d] w fun e w' => e = .returned (frac (madeQ (mu n d + 1) n d)) ∧ Below w.heap.size w w' := by
  have M0 := Lib.hid (makein_any n d hn hd)
  have hV : inV n d = .agg #[.int .i64 (iN n d), .int .i64 (iD n d), .int .i64 (iE n d)] := rfl
  have HV := Lib.hid hV
  clear hV
  go_enter Try.func15, Try.ntmps15
  go_wp2_with fail
  refine (M0.out _).mono ?_
  rw [HV.out]
  rintro e w1 ⟨rfl, hb1⟩
  have hz1 : w.heap.size < w1.heap.size := by have := hb1.size; simp at this; omega
  have hB : Below w.heap.size w w1 := ((Below.refl _ _).alloc (Nat.le_refl _) _).trans (hb1.mono (by simp))
  have hc1 : w1.cell? ⟨w.heap.size, 0, none⟩ = some (.int .i64 0) := by rw [hb1.cell (p := ⟨w.heap.size, 0, none⟩) (by simp)]; simp
  have hc2 : w1.cell? ⟨w.heap.size, 1, none⟩ = some (.int .i64 0) := by rw [hb1.cell (p := ⟨w.heap.size, 1, none⟩) (by simp)]; simp
  have hf1 : ∀ o, w1.frozen? ⟨w.heap.size, o, none⟩ = false := fun o => by rw [hb1.frozen (p := ⟨w.heap.size, o, none⟩) (by simp)]; simp
  clear hb1
  go_wp2_with fail
  have hA := fun o => (Below.refl w1.heap.size w1).alloc (Nat.le_refl _) o
  have hA := hA (.cells #[.int .i64 (iN n d), .int .i64 (iD n d), .int .i64 (iE n d)] 28)
  have hL : w1.heap.size < (w1.alloc (.cells #[.int .i64 (iN n d), .int .i64 (iD n d), .int .i64 (iE n d)] 28)).heap.size := by simp
  go_loopw [0, 1] (fun x y wr => ∃ (k : Nat) (a b : Int), x = .int .i64 a ∧ y = .int .i64 b ∧ MadeRel n d w w1 k a b wr) (fun x y _ => mu (intOf x) (intOf y))
  case atStart =>
    refine ⟨mu n d + 1, n, d, rfl, rfl, hn, hd, rfl, by omega, by simp, by simp, by simp, by simp, by rw [hA.cell (p := ⟨w.heap.size, 0, none⟩) hz1, hc1], by rw [hA.cell (p := ⟨w.heap.size, 1, none⟩) hz1, hc2], fun o => by rw [hA.frozen (p := ⟨w.heap.size, o, none⟩) hz1, hf1], by simp, (hB.alloc (by omega) _)⟩
  case round =>
    obtain ⟨k, a, b, rfl, rfl, ha, hb, hq, hk, x0, x1, x2, x3, y0, y1, y2, hz, hbel⟩ := hrel
    have E := Lib.hid hq
    have hE := iE_zero a b
    clear hq hL hc1 hc2 hf1 hA
    obtain ⟨k, rfl⟩ : ∃ k', k = k' + 1 := ⟨k - 1, by omega⟩
    by_cases hf : fitsND a b
    · have e0 : (iE a b != 0) = false := by rw [hE]; simp [hf]
      have R : Hid (iN a b = (madeQ (mu n d + 1) n d).num ∧ iD a b = (madeQ (mu n d + 1) n d).den) := Lib.hid (by
        rw [← E.out]; unfold madeQ; rw [if_pos hf]; exact in_frac a b hf)
      clear hE hf
      go_wp2
      refine bodyPost_ret (v := frac (madeQ (mu n d + 1) n d)) ?_ rfl ⟨rfl, (hbel.setCell (Nat.le_refl _) _).setCell (Nat.le_refl _) _⟩
      simp [results, Try.results15, go_sem, y0, y1, frac, R.out.1, R.out.2]
    · have e0 : (iE a b != 0) = true := by rw [hE]; simp [hf]
      have ML := mu_less a b hf
      have EQ : Hid (madeQ k (a.tdiv 2) (mDen b) = madeQ (mu n d + 1) n d) := Lib.hid (by rw [← E.out]; conv => rhs; unfold madeQ; rw [if_neg hf])
      have ta : -9223372036854775808 ≤ a.tdiv 2 ∧ a.tdiv 2 ≤ 9223372036854775807 := by have : (a.tdiv 2).natAbs = a.natAbs / 2 := by { rw [Int.natAbs_tdiv]; rfl }; omega
      have tb : -9223372036854775808 ≤ b.tdiv 2 ∧ b.tdiv 2 ≤ 9223372036854775807 := by have : (b.tdiv 2).natAbs = b.natAbs / 2 := by { rw [Int.natAbs_tdiv]; rfl }; omega
      have MLH := Lib.hid ML
      clear hE hf E ML
      by_cases h0 : b.tdiv 2 = 0
      · have t0 : (b.tdiv 2 == 0) = true := by simpa using h0
        have M1 := Lib.hid (makein_any (a.tdiv 2) 1 ta (by omega))
        have em : mDen b = 1 := by unfold mDen; rw [if_pos h0]
        have EM := Lib.hid em
        clear h0 em
        go_wp2_with fail
        refine (M1.out _).mono ?_
        rw [show inV (a.tdiv 2) 1 = .agg #[.int .i64 (iN (a.tdiv 2) 1), .int .i64 (iD (a.tdiv 2) 1), .int .i64 (iE (a.tdiv 2) 1)] from rfl]
        rintro e w2 ⟨rfl, hb2⟩
        have c0 : w2.cell? ⟨w1.heap.size, 0, none⟩ = some (.int .i64 (iN a b)) := by rw [hb2.cell (p := ⟨w1.heap.size, 0, none⟩) hz, x0]
        have c1 : w2.cell? ⟨w1.heap.size, 1, none⟩ = some (.int .i64 (iD a b)) := by rw [hb2.cell (p := ⟨w1.heap.size, 1, none⟩) hz, x1]
        have c2 : w2.cell? ⟨w1.heap.size, 2, none⟩ = some (.int .i64 (iE a b)) := by rw [hb2.cell (p := ⟨w1.heap.size, 2, none⟩) hz, x2]
        have c3 : ∀ o, w2.frozen? ⟨w1.heap.size, o, none⟩ = false := fun o => by rw [hb2.frozen (p := ⟨w1.heap.size, o, none⟩) hz, x3]
        have d0 : w2.cell? ⟨w.heap.size, 0, none⟩ = some (.int .i64 0) := by rw [hb2.cell (p := ⟨w.heap.size, 0, none⟩) (by simp; omega), y0]
        have d1 : w2.cell? ⟨w.heap.size, 1, none⟩ = some (.int .i64 0) := by rw [hb2.cell (p := ⟨w.heap.size, 1, none⟩) (by simp; omega), y1]
        have d2 : ∀ o, w2.frozen? ⟨w.heap.size, o, none⟩ = false := fun o => by rw [hb2.frozen (p := ⟨w.heap.size, o, none⟩) (by simp; omega), y2]
        have hz2 : w1.heap.size < w2.heap.size := by have := hb2.size; omega
        have hbel2 : Below w.heap.size w w2 := hbel.trans (hb2.mono (by omega))
        clear x0 x1 x2 x3 y0 y1 y2 hz hbel hb2
        go_wp2
        have hne2 : w.heap.size ≠ w1.heap.size := Nat.ne_of_lt hz1
        refine ⟨⟨k, a.tdiv 2, 1, rfl, rfl, ta, by omega, by rw [← EQ.out, EM.out], by have := MLH.out; rw [EM.out] at this; omega, ?_, ?_, ?_, ?_, ?_, ?_, ?_, ?_, ?_⟩, by have := MLH.out; rw [EM.out] at this; simpa [intOf] using this⟩
        · exact three0 _ _ _ c0
        · exact three1 _ _ _ c1
        · exact three2 _ _ _ c2
        · intro o; simp [c3]
        · exact (threeO _ _ _ _ hne2).trans d0
        · exact (threeO _ _ _ _ hne2).trans d1
        · intro o; simp [d2]
        · simp; omega
        · exact ((hbel2.setCell (Nat.le_of_lt hz1) _).setCell (Nat.le_of_lt hz1) _).setCell (Nat.le_of_lt hz1) _
      · have t0 : (b.tdiv 2 == 0) = false := by simpa using h0
        have M1 := Lib.hid (makein_any (a.tdiv 2) (b.tdiv 2) ta tb)
        have em : mDen b = b.tdiv 2 := by unfold mDen; rw [if_neg h0]
        have EM := Lib.hid em
        clear h0 em
        go_wp2_with fail
        refine (M1.out _).mono ?_
        rw [show inV (a.tdiv 2) (b.tdiv 2) = .agg #[.int .i64 (iN (a.tdiv 2) (b.tdiv 2)), .int .i64 (iD (a.tdiv 2) (b.tdiv 2)), .int .i64 (iE (a.tdiv 2) (b.tdiv 2))] from rfl]
        rintro e w2 ⟨rfl, hb2⟩
        have c0 : w2.cell? ⟨w1.heap.size, 0, none⟩ = some (.int .i64 (iN a b)) := by rw [hb2.cell (p := ⟨w1.heap.size, 0, none⟩) hz, x0]
        have c1 : w2.cell? ⟨w1.heap.size, 1, none⟩ = some (.int .i64 (iD a b)) := by rw [hb2.cell (p := ⟨w1.heap.size, 1, none⟩) hz, x1]
        have c2 : w2.cell? ⟨w1.heap.size, 2, none⟩ = some (.int .i64 (iE a b)) := by rw [hb2.cell (p := ⟨w1.heap.size, 2, none⟩) hz, x2]
        have c3 : ∀ o, w2.frozen? ⟨w1.heap.size, o, none⟩ = false := fun o => by rw [hb2.frozen (p := ⟨w1.heap.size, o, none⟩) hz, x3]
        have d0 : w2.cell? ⟨w.heap.size, 0, none⟩ = some (.int .i64 0) := by rw [hb2.cell (p := ⟨w.heap.size, 0, none⟩) (by simp; omega), y0]
        have d1 : w2.cell? ⟨w.heap.size, 1, none⟩ = some (.int .i64 0) := by rw [hb2.cell (p := ⟨w.heap.size, 1, none⟩) (by simp; omega), y1]
        have d2 : ∀ o, w2.frozen? ⟨w.heap.size, o, none⟩ = false := fun o => by rw [hb2.frozen (p := ⟨w.heap.size, o, none⟩) (by simp; omega), y2]
        have hz2 : w1.heap.size < w2.heap.size := by have := hb2.size; omega
        have hbel2 : Below w.heap.size w w2 := hbel.trans (hb2.mono (by omega))
        clear x0 x1 x2 x3 y0 y1 y2 hz hbel hb2
        go_wp2
        have hne2 : w.heap.size ≠ w1.heap.size := Nat.ne_of_lt hz1
        refine ⟨⟨k, a.tdiv 2, b.tdiv 2, rfl, rfl, ta, by omega, by rw [← EQ.out, EM.out], by have := MLH.out; rw [EM.out] at this; omega, ?_, ?_, ?_, ?_, ?_, ?_, ?_, ?_, ?_⟩, by have := MLH.out; rw [EM.out] at this; simpa [intOf] using this⟩
        · exact three0 _ _ _ c0
        · exact three1 _ _ _ c1
        · exact three2 _ _ _ c2
        · intro o; simp [c3]
        · exact (threeO _ _ _ _ hne2).trans d0
        · exact (threeO _ _ _ _ hne2).trans d1
        · intro o; simp [d2]
        · simp; omega
        · exact ((hbel2.setCell (Nat.le_of_lt hz1) _).setCell (Nat.le_of_lt hz1) _).setCell (Nat.le_of_lt hz1) _

end Go.Proofs.Ytieabeodommbiaa
