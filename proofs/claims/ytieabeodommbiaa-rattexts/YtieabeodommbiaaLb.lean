/- What the reference's MakeIn answers, as rational numbers; Made. -/
import Derived.Test.YtieabeodommbiaaQc
import Derived.Test.YtieabeodommbiaaQe
import Derived.Test.YtieabeodommbiaaQe0
import Derived.Test.YtieabeodommbiaaQe1
import Derived.Test.YtieabeodommbiaaQe2
import Derived.Test.YtieabeodommbiaaEvN8
namespace Go.Proofs.Ytieabeodommbiaa
open Go.RowKit (Below)

theorem absI_tdiv (a : Int) (g : Nat) : absI (a.tdiv g) = (a.natAbs / g : Nat) := by
  rw [absI_natAbs, Int.natAbs_tdiv]; rfl

theorem divInt_parts (a b : Int) (hb : b ≠ 0) : (Rat.divInt a b).num = b.sign * a / (Nat.gcd a.natAbs b.natAbs : Nat) ∧ (Rat.divInt a b).den = b.natAbs / Nat.gcd a.natAbs b.natAbs := by
  rw [Rat.num_divInt, Rat.den_divInt, if_neg hb]
  have e : Int.gcd b a = Nat.gcd a.natAbs b.natAbs := by rw [Int.gcd_comm]; rfl
  rw [e]
  exact ⟨rfl, rfl⟩

theorem num_abs (a b : Int) (hb : b ≠ 0) : (Rat.divInt a b).num.natAbs = a.natAbs / Nat.gcd a.natAbs b.natAbs := by
  rw [(divInt_parts a b hb).1]
  have hd : ((Nat.gcd a.natAbs b.natAbs : Nat) : Int) ∣ b.sign * a := Int.dvd_mul_of_dvd_right (Int.ofNat_dvd_left.2 (Nat.gcd_dvd_left _ _))
  rw [Int.natAbs_ediv_of_dvd hd, Int.natAbs_mul, Int.natAbs_sign_of_ne_zero hb, Nat.one_mul]
  rfl

theorem odd_coprime (m : Nat) (h : m % 2 = 1) : Nat.gcd (2 ^ 63) m = 1 := by
  have h2 : Nat.Coprime 2 m := by
    show Nat.gcd 2 m = 1
    rw [Nat.gcd_rec, h, Nat.gcd_one_left]
  exact Nat.Coprime.pow_left 63 h2

theorem mi_spec (n d : Int) (v : Value) (h : MI n d v) : v = resV (Rat.divInt n d) := by
  obtain ⟨a, b, k, e1, e2, hb, hodd, ha1, hb1, rfl⟩ := h
  have hq : Rat.divInt n d = Rat.divInt a b := by
    rw [e1, e2]
    have p : (2 : Int) ^ k ≠ 0 := Int.ne_of_gt (Int.pow_pos (by omega))
    exact Rat.divInt_mul_right p
  rw [hq]
  have hden := (divInt_parts a b hb).2
  have hnum := num_abs a b hb
  have hG : Int.gcd (absI a) (absI b) = Nat.gcd a.natAbs b.natAbs := by rw [absI_natAbs, absI_natAbs]; rfl
  have hgp : 0 < Nat.gcd a.natAbs b.natAbs := Nat.gcd_pos_of_pos_right _ (by omega)
  unfold resV
  by_cases hz : a = 0
  · subst hz
    have e : Rat.divInt 0 b = 0 := Rat.zero_divInt b
    rw [e]
    unfold miN miD miE
    simp [rN, rD, rE, okQ]
  · by_cases hl : a = -9223372036854775808 ∨ b = -9223372036854775808
    · have hno : ¬ okQ (Rat.divInt a b) := by
        unfold okQ
        rw [hnum, hden]
        rcases hl with rfl | rfl
        · have hbo : b.natAbs % 2 = 1 := by omega
          have := odd_coprime b.natAbs hbo
          rw [show (-9223372036854775808 : Int).natAbs = 2 ^ 63 from rfl, this]
          simp
        · have hao : a.natAbs % 2 = 1 := by omega
          have := odd_coprime a.natAbs hao
          rw [show (-9223372036854775808 : Int).natAbs = 2 ^ 63 from rfl, Nat.gcd_comm, this]
          simp
      unfold miN miD miE rN rD rE
      rw [if_neg hz, if_neg hz, if_neg hz, if_pos hl, if_pos hl, if_pos hl, if_neg hno, if_neg hno, if_neg hno]
    · have eA : absI (a.tdiv (Int.gcd (absI a) (absI b))) = ((Rat.divInt a b).num.natAbs : Int) := by rw [hG, absI_tdiv, hnum]
      have eB : absI (b.tdiv (Int.gcd (absI a) (absI b))) = ((Rat.divInt a b).den : Int) := by rw [hG, absI_tdiv, hden]
      unfold miN miD miE
      rw [if_neg hz, if_neg hz, if_neg hz, if_neg hl, if_neg hl, if_neg hl, eA, eB]
      by_cases hk : okQ (Rat.divInt a b)
      · have hk' := hk
        unfold okQ at hk'
        have hno : ¬ (4611686018427387904 < ((Rat.divInt a b).num.natAbs : Int) ∨ 4611686018427387904 < ((Rat.divInt a b).den : Int)) := by omega
        rw [if_neg hno, if_neg hno, if_neg hno]
        unfold rN rD rE
        rw [if_pos hk, if_pos hk, if_pos hk]
        have sg : (if (decide (a < 0) != decide (b < 0)) = true then -((Rat.divInt a b).num.natAbs : Int) else ((Rat.divInt a b).num.natAbs : Int)) = (Rat.divInt a b).num := by
          have h1 := (divInt_parts a b hb).1
          have hs : ∀ x : Int, 0 ≤ x → 0 ≤ x / ((Nat.gcd a.natAbs b.natAbs : Nat) : Int) := fun x hx => Int.ediv_nonneg hx (by omega)
          have hs2 : ∀ x : Int, x ≤ 0 → x / ((Nat.gcd a.natAbs b.natAbs : Nat) : Int) ≤ 0 := fun x hx => Int.ediv_nonpos_of_nonpos_of_neg hx (by omega)
          by_cases sa : a < 0 <;> by_cases sb : b < 0
          · rw [Int.sign_eq_neg_one_of_neg sb] at h1
            have := hs (-1 * a) (by omega)
            rw [← h1] at this
            clear h1 hs hs2
            simp only [sa, sb, decide_true, bne_self_eq_false, Bool.false_eq_true, if_false]; omega
          · rw [Int.sign_eq_one_of_pos (by omega)] at h1
            have := hs2 (1 * a) (by omega)
            rw [← h1] at this
            clear h1 hs hs2
            simp only [sa, sb, decide_true, decide_false, Bool.true_bne, Bool.not_false, if_true]; omega
          · rw [Int.sign_eq_neg_one_of_neg sb] at h1
            have := hs2 (-1 * a) (by omega)
            rw [← h1] at this
            clear h1 hs hs2
            simp only [sa, sb, decide_true, decide_false, Bool.false_bne, if_true]; omega
          · rw [Int.sign_eq_one_of_pos (by omega)] at h1
            have := hs (1 * a) (by omega)
            rw [← h1] at this
            clear h1 hs hs2
            simp only [sa, sb, decide_false, bne_self_eq_false, Bool.false_eq_true, if_false]; omega
        rw [sg]
      · have hk' := hk
        unfold okQ at hk'
        rw [if_pos (by omega), if_pos (by omega), if_pos (by omega)]
        unfold rN rD rE
        rw [if_neg hk, if_neg hk, if_neg hk]

theorem makein_q (n d : Int) (hn : -9223372036854775808 ≤ n ∧ n ≤ 9223372036854775807) (hd : -9223372036854775808 ≤ d ∧ d ≤ 9223372036854775807) (h0 : d ≠ 0) (w : World) :
    Calls Try.prog 12 #[.int .i64 n, .int .i64 d] w fun e w' => e = .returned (resV (Rat.divInt n d)) ∧ Below w.heap.size w w' := by
  refine (makein_1 n d hn hd h0 w).mono ?_
  rintro e w' ⟨v, h1, h2, h3⟩
  rw [mi_spec n d v h1] at h2
  exact ⟨h2, h3⟩

/-- what Made does where the fraction does not fit -/
def mDen (d : Int) : Int := if d.tdiv 2 = 0 then 1 else d.tdiv 2
def fitsND (n d : Int) : Prop := d ≠ 0 ∧ okQ (Rat.divInt n d)
instance (n d : Int) : Decidable (fitsND n d) := inferInstanceAs (Decidable (_ ∧ _))
def madeQ : Nat → Int → Int → Rat
  | 0, _, _ => 0
  | k + 1, n, d => if fitsND n d then Rat.divInt n d else madeQ k (n.tdiv 2) (mDen d)
def mu (n d : Int) : Nat := n.natAbs + d.natAbs + (if d = 0 then 2 else 0)

theorem small_fits (n d : Int) (hn : n.natAbs ≤ 4611686018427387904) (hd : d.natAbs ≤ 4611686018427387904) (h0 : d ≠ 0) : okQ (Rat.divInt n d) := by
  unfold okQ
  rw [num_abs n d h0, (divInt_parts n d h0).2]
  have h1 := Nat.div_le_self n.natAbs (Nat.gcd n.natAbs d.natAbs)
  have h2 := Nat.div_le_self d.natAbs (Nat.gcd n.natAbs d.natAbs)
  omega

theorem mu_less (n d : Int) (h : ¬ fitsND n d) : mu (n.tdiv 2) (mDen d) < mu n d := by
  have a1 : (n.tdiv 2).natAbs = n.natAbs / 2 := by rw [Int.natAbs_tdiv]; rfl
  have a2 : (d.tdiv 2).natAbs = d.natAbs / 2 := by rw [Int.natAbs_tdiv]; rfl
  unfold mu mDen
  by_cases h0 : d = 0
  · subst h0; simp [-Int.natAbs_tdiv]; omega
  · have hbig : ¬ (n.natAbs ≤ 4611686018427387904 ∧ d.natAbs ≤ 4611686018427387904) := fun ⟨x, y⟩ => h ⟨h0, small_fits n d x y h0⟩
    rw [if_neg h0]
    by_cases h1 : d.tdiv 2 = 0
    · rw [if_pos h1]; simp [-Int.natAbs_tdiv]; omega
    · rw [if_neg h1, if_neg h1]; omega

theorem madeQ_ok : ∀ (k : Nat) (n d : Int), okQ (madeQ k n d)
  | 0, _, _ => by simp [madeQ, okQ]
  | k + 1, n, d => by
    unfold madeQ
    split
    · rename_i h; exact h.2
    · exact madeQ_ok k _ _

/-- what MakeIn answers -/
def iN (n d : Int) : Int := if d = 0 then 0 else rN (Rat.divInt n d)
def iD (n d : Int) : Int := if d = 0 then 0 else rD (Rat.divInt n d)
def iE (n d : Int) : Int := if d = 0 then 3 else rE (Rat.divInt n d)
def inV (n d : Int) : Value := .agg #[.int .i64 (iN n d), .int .i64 (iD n d), .int .i64 (iE n d)]

theorem iE_zero (n d : Int) : (iE n d != 0) = !decide (fitsND n d) := by
  unfold iE fitsND rE
  by_cases h : d = 0
  · simp [h]
  · by_cases h2 : okQ (Rat.divInt n d) <;> simp [h, h2]

theorem in_frac (n d : Int) (h : fitsND n d) : iN n d = (Rat.divInt n d).num ∧ iD n d = (Rat.divInt n d).den := by
  unfold iN iD rN rD
  rw [if_neg h.1, if_neg h.1, if_pos h.2, if_pos h.2]
  exact ⟨rfl, rfl⟩

theorem makein_any (n d : Int) (hn : -9223372036854775808 ≤ n ∧ n ≤ 9223372036854775807) (hd : -9223372036854775808 ≤ d ∧ d ≤ 9223372036854775807) (w : World) :
    Calls Try.prog 12 #[.int .i64 n, .int .i64 d] w fun e w' => e = .returned (inV n d) ∧ Below w.heap.size w w' := by
  unfold inV iN iD iE
  by_cases h : d = 0
  · subst h; rw [if_pos rfl, if_pos rfl, if_pos rfl]; exact makein_0 n w
  · rw [if_neg h, if_neg h, if_neg h]; exact makein_q n d hn hd h w

/-- between two rounds of Made -/
def MadeRel (n d : Int) (w w1 : World) (k : Nat) (a b : Int) (wr : World) : Prop :=
  (-9223372036854775808 ≤ a ∧ a ≤ 9223372036854775807) ∧ (-9223372036854775808 ≤ b ∧ b ≤ 9223372036854775807) ∧ madeQ k a b = madeQ (mu n d + 1) n d ∧ mu a b < k ∧
  wr.cell? ⟨w1.heap.size, 0, none⟩ = some (.int .i64 (iN a b)) ∧ wr.cell? ⟨w1.heap.size, 1, none⟩ = some (.int .i64 (iD a b)) ∧ wr.cell? ⟨w1.heap.size, 2, none⟩ = some (.int .i64 (iE a b)) ∧
  (∀ o, wr.frozen? ⟨w1.heap.size, o, none⟩ = false) ∧
  wr.cell? ⟨w.heap.size, 0, none⟩ = some (.int .i64 0) ∧ wr.cell? ⟨w.heap.size, 1, none⟩ = some (.int .i64 0) ∧ (∀ o, wr.frozen? ⟨w.heap.size, o, none⟩ = false) ∧ w1.heap.size < wr.heap.size ∧ Below w.heap.size w wr


section
variable {w2 : World} {B : Nat} {u0 u1 u2 : Value}
theorem oth (w : World) {a b : Addr} (v : Value) (h : a ≠ b) : (w.setCell a v).cell? b = w.cell? b := World.cell?_setCell_other _ _ _ _ h
theorem three0 (v0 v1 v2 : Value) (c0 : w2.cell? ⟨B, 0, none⟩ = some u0) : (((w2.setCell ⟨B, 0, none⟩ v0).setCell ⟨B, 1, none⟩ v1).setCell ⟨B, 2, none⟩ v2).cell? ⟨B, 0, none⟩ = some v0 :=
  (oth _ _ (by simp)).trans ((oth _ _ (by simp)).trans (World.cell?_setCell_same (u := u0) (h := c0) ..))
theorem three1 (v0 v1 v2 : Value) (c1 : w2.cell? ⟨B, 1, none⟩ = some u1) : (((w2.setCell ⟨B, 0, none⟩ v0).setCell ⟨B, 1, none⟩ v1).setCell ⟨B, 2, none⟩ v2).cell? ⟨B, 1, none⟩ = some v1 :=
  (oth _ _ (by simp)).trans (World.cell?_setCell_same (u := u1) (h := (oth _ _ (by simp)).trans c1) ..)
theorem three2 (v0 v1 v2 : Value) (c2 : w2.cell? ⟨B, 2, none⟩ = some u2) : (((w2.setCell ⟨B, 0, none⟩ v0).setCell ⟨B, 1, none⟩ v1).setCell ⟨B, 2, none⟩ v2).cell? ⟨B, 2, none⟩ = some v2 :=
  World.cell?_setCell_same (u := u2) (h := (oth _ _ (by simp)).trans ((oth _ _ (by simp)).trans c2)) ..
theorem threeO (v0 v1 v2 : Value) (p : Addr) (h : p.block ≠ B) : (((w2.setCell ⟨B, 0, none⟩ v0).setCell ⟨B, 1, none⟩ v1).setCell ⟨B, 2, none⟩ v2).cell? p = w2.cell? p := by
  have n : ∀ i, (⟨B, i, none⟩ : Addr) ≠ p := fun i e => h (by rw [← e])
  exact (oth _ _ (n 2)).trans ((oth _ _ (n 1)).trans (oth _ _ (n 0)))
end

open Go.RowKit in
/-- Made -/
theorem made_c (n d : Int) (hn : -9223372036854775808 ≤ n ∧ n ≤ 9223372036854775807) (hd : -9223372036854775808 ≤ d ∧ d ≤ 9223372036854775807) (w : World) :
    Calls Try.prog 15 #[.int .i64 n, .int .i64 d] w fun e w' => e = .returned (frac (madeQ (mu n d + 1) n d)) ∧ Below w.heap.size w w' := by
  have M0 := Lib.hid (makein_any n d hn hd)
  have hV : inV n d = .agg #[.int .i64 (iN n d), .int .i64 (iD n d), .int .i64 (iE n d)] := rfl
  have HV := Lib.hid hV
  clear hV
  go_enter Try.func15, Try.ntmps15
  go_wp2_with fail
  refine (M0.out _).mono ?_
  rw [HV.out]
  rintro e w1 ⟨rfl, hb1⟩
  have hz1 : w.heap.size < w1.heap.size := by have := hb1.size; simp at this; omega
  have hB : Below w.heap.size w w1 := ((Below.refl _ _).alloc (Nat.le_refl _) _).trans (hb1.mono (by simp))
  have hc1 : w1.cell? ⟨w.heap.size, 0, none⟩ = some (.int .i64 0) := by rw [hb1.cell (p := ⟨w.heap.size, 0, none⟩) (by simp)]; simp
  have hc2 : w1.cell? ⟨w.heap.size, 1, none⟩ = some (.int .i64 0) := by rw [hb1.cell (p := ⟨w.heap.size, 1, none⟩) (by simp)]; simp
  have hf1 : ∀ o, w1.frozen? ⟨w.heap.size, o, none⟩ = false := fun o => by rw [hb1.frozen (p := ⟨w.heap.size, o, none⟩) (by simp)]; simp
  clear hb1
  go_wp2_with fail
  have hA := fun o => (Below.refl w1.heap.size w1).alloc (Nat.le_refl _) o
  have hA := hA (.cells #[.int .i64 (iN n d), .int .i64 (iD n d), .int .i64 (iE n d)] 28)
  have hL : w1.heap.size < (w1.alloc (.cells #[.int .i64 (iN n d), .int .i64 (iD n d), .int .i64 (iE n d)] 28)).heap.size := by simp
  go_loopw [0, 1] (fun x y wr => ∃ (k : Nat) (a b : Int), x = .int .i64 a ∧ y = .int .i64 b ∧ MadeRel n d w w1 k a b wr) (fun x y _ => mu (intOf x) (intOf y))
  case atStart =>
    refine ⟨mu n d + 1, n, d, rfl, rfl, hn, hd, rfl, by omega, by simp, by simp, by simp, by simp, by rw [hA.cell (p := ⟨w.heap.size, 0, none⟩) hz1, hc1], by rw [hA.cell (p := ⟨w.heap.size, 1, none⟩) hz1, hc2], fun o => by rw [hA.frozen (p := ⟨w.heap.size, o, none⟩) hz1, hf1], by simp, (hB.alloc (by omega) _)⟩
  case round =>
    obtain ⟨k, a, b, rfl, rfl, ha, hb, hq, hk, x0, x1, x2, x3, y0, y1, y2, hz, hbel⟩ := hrel
    have E := Lib.hid hq
    have hE := iE_zero a b
    clear hq hL hc1 hc2 hf1 hA
    obtain ⟨k, rfl⟩ : ∃ k', k = k' + 1 := ⟨k - 1, by omega⟩
    by_cases hf : fitsND a b
    · have e0 : (iE a b != 0) = false := by rw [hE]; simp [hf]
      have R : Hid (iN a b = (madeQ (mu n d + 1) n d).num ∧ iD a b = (madeQ (mu n d + 1) n d).den) := Lib.hid (by
        rw [← E.out]; unfold madeQ; rw [if_pos hf]; exact in_frac a b hf)
      clear hE hf
      go_wp2
      refine bodyPost_ret (v := frac (madeQ (mu n d + 1) n d)) ?_ rfl ⟨rfl, (hbel.setCell (Nat.le_refl _) _).setCell (Nat.le_refl _) _⟩
      simp [results, Try.results15, go_sem, y0, y1, frac, R.out.1, R.out.2]
    · have e0 : (iE a b != 0) = true := by rw [hE]; simp [hf]
      have ML := mu_less a b hf
      have EQ : Hid (madeQ k (a.tdiv 2) (mDen b) = madeQ (mu n d + 1) n d) := Lib.hid (by rw [← E.out]; conv => rhs; unfold madeQ; rw [if_neg hf])
      have ta : -9223372036854775808 ≤ a.tdiv 2 ∧ a.tdiv 2 ≤ 9223372036854775807 := by have : (a.tdiv 2).natAbs = a.natAbs / 2 := by { rw [Int.natAbs_tdiv]; rfl }; omega
      have tb : -9223372036854775808 ≤ b.tdiv 2 ∧ b.tdiv 2 ≤ 9223372036854775807 := by have : (b.tdiv 2).natAbs = b.natAbs / 2 := by { rw [Int.natAbs_tdiv]; rfl }; omega
      have MLH := Lib.hid ML
      clear hE hf E ML
      by_cases h0 : b.tdiv 2 = 0
      · have t0 : (b.tdiv 2 == 0) = true := by simpa using h0
        have M1 := Lib.hid (makein_any (a.tdiv 2) 1 ta (by omega))
        have em : mDen b = 1 := by unfold mDen; rw [if_pos h0]
        have EM := Lib.hid em
        clear h0 em
        go_wp2_with fail
        refine (M1.out _).mono ?_
        rw [show inV (a.tdiv 2) 1 = .agg #[.int .i64 (iN (a.tdiv 2) 1), .int .i64 (iD (a.tdiv 2) 1), .int .i64 (iE (a.tdiv 2) 1)] from rfl]
        rintro e w2 ⟨rfl, hb2⟩
        have c0 : w2.cell? ⟨w1.heap.size, 0, none⟩ = some (.int .i64 (iN a b)) := by rw [hb2.cell (p := ⟨w1.heap.size, 0, none⟩) hz, x0]
        have c1 : w2.cell? ⟨w1.heap.size, 1, none⟩ = some (.int .i64 (iD a b)) := by rw [hb2.cell (p := ⟨w1.heap.size, 1, none⟩) hz, x1]
        have c2 : w2.cell? ⟨w1.heap.size, 2, none⟩ = some (.int .i64 (iE a b)) := by rw [hb2.cell (p := ⟨w1.heap.size, 2, none⟩) hz, x2]
        have c3 : ∀ o, w2.frozen? ⟨w1.heap.size, o, none⟩ = false := fun o => by rw [hb2.frozen (p := ⟨w1.heap.size, o, none⟩) hz, x3]
        have d0 : w2.cell? ⟨w.heap.size, 0, none⟩ = some (.int .i64 0) := by rw [hb2.cell (p := ⟨w.heap.size, 0, none⟩) (by simp; omega), y0]
        have d1 : w2.cell? ⟨w.heap.size, 1, none⟩ = some (.int .i64 0) := by rw [hb2.cell (p := ⟨w.heap.size, 1, none⟩) (by simp; omega), y1]
        have d2 : ∀ o, w2.frozen? ⟨w.heap.size, o, none⟩ = false := fun o => by rw [hb2.frozen (p := ⟨w.heap.size, o, none⟩) (by simp; omega), y2]
        have hz2 : w1.heap.size < w2.heap.size := by have := hb2.size; omega
        have hbel2 : Below w.heap.size w w2 := hbel.trans (hb2.mono (by omega))
        clear x0 x1 x2 x3 y0 y1 y2 hz hbel hb2
        go_wp2
        have hne2 : w.heap.size ≠ w1.heap.size := Nat.ne_of_lt hz1
        refine ⟨⟨k, a.tdiv 2, 1, rfl, rfl, ta, by omega, by rw [← EQ.out, EM.out], by have := MLH.out; rw [EM.out] at this; omega, ?_, ?_, ?_, ?_, ?_, ?_, ?_, ?_, ?_⟩, by have := MLH.out; rw [EM.out] at this; simpa [intOf] using this⟩
        · exact three0 _ _ _ c0
        · exact three1 _ _ _ c1
        · exact three2 _ _ _ c2
        · intro o; simp [c3]
        · exact (threeO _ _ _ _ hne2).trans d0
        · exact (threeO _ _ _ _ hne2).trans d1
        · intro o; simp [d2]
        · simp; omega
        · exact ((hbel2.setCell (Nat.le_of_lt hz1) _).setCell (Nat.le_of_lt hz1) _).setCell (Nat.le_of_lt hz1) _
      · have t0 : (b.tdiv 2 == 0) = false := by simpa using h0
        have M1 := Lib.hid (makein_any (a.tdiv 2) (b.tdiv 2) ta tb)
        have em : mDen b = b.tdiv 2 := by unfold mDen; rw [if_neg h0]
        have EM := Lib.hid em
        clear h0 em
        go_wp2_with fail
        refine (M1.out _).mono ?_
        rw [show inV (a.tdiv 2) (b.tdiv 2) = .agg #[.int .i64 (iN (a.tdiv 2) (b.tdiv 2)), .int .i64 (iD (a.tdiv 2) (b.tdiv 2)), .int .i64 (iE (a.tdiv 2) (b.tdiv 2))] from rfl]
        rintro e w2 ⟨rfl, hb2⟩
        have c0 : w2.cell? ⟨w1.heap.size, 0, none⟩ = some (.int .i64 (iN a b)) := by rw [hb2.cell (p := ⟨w1.heap.size, 0, none⟩) hz, x0]
        have c1 : w2.cell? ⟨w1.heap.size, 1, none⟩ = some (.int .i64 (iD a b)) := by rw [hb2.cell (p := ⟨w1.heap.size, 1, none⟩) hz, x1]
        have c2 : w2.cell? ⟨w1.heap.size, 2, none⟩ = some (.int .i64 (iE a b)) := by rw [hb2.cell (p := ⟨w1.heap.size, 2, none⟩) hz, x2]
        have c3 : ∀ o, w2.frozen? ⟨w1.heap.size, o, none⟩ = false := fun o => by rw [hb2.frozen (p := ⟨w1.heap.size, o, none⟩) hz, x3]
        have d0 : w2.cell? ⟨w.heap.size, 0, none⟩ = some (.int .i64 0) := by rw [hb2.cell (p := ⟨w.heap.size, 0, none⟩) (by simp; omega), y0]
        have d1 : w2.cell? ⟨w.heap.size, 1, none⟩ = some (.int .i64 0) := by rw [hb2.cell (p := ⟨w.heap.size, 1, none⟩) (by simp; omega), y1]
        have d2 : ∀ o, w2.frozen? ⟨w.heap.size, o, none⟩ = false := fun o => by rw [hb2.frozen (p := ⟨w.heap.size, o, none⟩) (by simp; omega), y2]
        have hz2 : w1.heap.size < w2.heap.size := by have := hb2.size; omega
        have hbel2 : Below w.heap.size w w2 := hbel.trans (hb2.mono (by omega))
        clear x0 x1 x2 x3 y0 y1 y2 hz hbel hb2
        go_wp2
        have hne2 : w.heap.size ≠ w1.heap.size := Nat.ne_of_lt hz1
        refine ⟨⟨k, a.tdiv 2, b.tdiv 2, rfl, rfl, ta, by omega, by rw [← EQ.out, EM.out], by have := MLH.out; rw [EM.out] at this; omega, ?_, ?_, ?_, ?_, ?_, ?_, ?_, ?_, ?_⟩, by have := MLH.out; rw [EM.out] at this; simpa [intOf] using this⟩
        · exact three0 _ _ _ c0
        · exact three1 _ _ _ c1
        · exact three2 _ _ _ c2
        · intro o; simp [c3]
        · exact (threeO _ _ _ _ hne2).trans d0
        · exact (threeO _ _ _ _ hne2).trans d1
        · intro o; simp [d2]
        · simp; omega
        · exact ((hbel2.setCell (Nat.le_of_lt hz1) _).setCell (Nat.le_of_lt hz1) _).setCell (Nat.le_of_lt hz1) _

end Go.Proofs.Ytieabeodommbiaa

/- RatField: what it answers, for all numbers. -/
namespace Go.Proofs.Ytieabeodommbiaa
open Go.RowKit (Below)
open Go.Ev

theorem all_bools {f : Bool → Bool} (h : bools.all f = true) (b : Bool) : f b = true := by
  simp only [bools, List.all_cons, List.all_nil, Bool.and_true, Bool.and_eq_true] at h
  cases b
  · exact h.2
  · exact h.1

theorem ok0 : okQ 0 := by simp [okQ]
theorem ok1 : okQ 1 := by simp [okQ]
def kOf (b : Rat) : Nat := if b.num = 0 then 0 else if 0 < b.num then 1 else 2
theorem kOf_cases (b : Rat) : kOf b = 0 ∨ kOf b = 1 ∨ kOf b = 2 := by
  unfold kOf
  split
  · exact .inl rfl
  · split
    · exact .inr (.inl rfl)
    · exact .inr (.inr rfl)

section
variable [Rho]
/-- an argument, a result, and what they stand for -/
structure FA (x : AV) (v : Value) : Prop where
  good : all1 (Nat.blt · 0) x = true
  flat : x.flat1 = true
  vl : x.vl1 = v
structure FV (x : AV) (v : Value) : Prop where
  good : all2 (inS 0 []) x = true
  flat : x.flat = true
  fine : x.fine
  vl : x.vl = v

theorem holds2 {f : FuncId} {x y v : AV} {vx vy vv : Value} (hx : FA x vx) (hy : FA y vy) (hv : FV v vv) (hb : hasBody Try.prog f = true)
    (hc : ∀ w : World, Calls Try.prog f #[vx, vy] w fun e w' => e = .returned vv ∧ Below w.heap.size w w') : (F2 x y v).Holds Try.prog f := by
  refine fct_flat ?_ ?_ hv.flat hv.fine hb (fun w => ?_)
  · show ((([] : List ABlk).all _) && ((([x, y] : List AV).all (all1 (Nat.blt · 0))) && (all2 (inS 0 []) v && _))) = true
    simp [hx.good, hy.good, hv.good, nodupB]
  · simp [hx.flat, hy.flat]
  · rw [hv.vl]
    simp only [List.map_cons, List.map_nil, hx.vl, hy.vl]
    exact hc w

theorem fa_fr {i : Nat} {p : Rat} (h1 : Rho.ρ i = p.num) (h2 : Rho.ρ (i + 1) = p.den) : FA (fr i) (frac p) :=
  ⟨rfl, rfl, by show Value.agg #[.int .i64 (Rho.ρ i), .int .i64 (Rho.ρ (i + 1))] = _; rw [h1, h2]; rfl⟩
theorem fa_x {i : Nat} {n : Int} (h : Rho.ρ i = n) : FA (xs i) (.int .i64 n) := ⟨rfl, rfl, by show Value.int .i64 (Rho.ρ i) = _; rw [h]⟩
theorem fv_fr {i : Nat} {p : Rat} (hp : okQ p) (h1 : Rho.ρ i = p.num) (h2 : Rho.ρ (i + 1) = p.den) : FV (fr i) (frac p) :=
  ⟨rfl, rfl, fr_fine hp h1 h2, (fa_fr h1 h2).vl⟩
theorem fv_res {i : Nat} {p : Rat} (h1 : Rho.ρ i = rN p) (h2 : Rho.ρ (i + 1) = rD p) (h3 : Rho.ρ (i + 2) = rE p) : FV (resA i) (resV p) := by
  have := r_bd p
  refine ⟨rfl, rfl, ⟨ltf (by rw [h1]; exact this.1), ltf (by rw [h2]; exact this.2.1), ltf (by rw [h3]; exact this.2.2), trivial⟩, ?_⟩
  show Value.agg #[.int .i64 (Rho.ρ i), .int .i64 (Rho.ρ (i + 1)), .int .i64 (Rho.ρ (i + 2))] = _
  rw [h1, h2, h3]; rfl
theorem fv_R {i : Nat} {p : Rat} {c : Bool} (hc : c = decide (okQ p)) (h1 : Rho.ρ i = p.num) (h2 : Rho.ρ (i + 1) = p.den) : FV (R c i) (resV p) := by
  subst hc
  by_cases hp : okQ p
  · have := okQ_bd hp
    rw [decide_eq_true hp]
    refine ⟨rfl, rfl, ⟨ltf (by rw [h1]; exact this.1), ltf (by rw [h2]; exact this.2), trivial, trivial⟩, ?_⟩
    show Value.agg #[.int .i64 (Rho.ρ i), .int .i64 (Rho.ρ (i + 1)), .int .i64 0] = _
    unfold resV rN rD rE
    rw [h1, h2, if_pos hp, if_pos hp, if_pos hp]
  · rw [decide_eq_false hp]
    refine ⟨rfl, rfl, ⟨trivial, trivial, trivial, trivial⟩, ?_⟩
    unfold resV rN rD rE
    rw [if_neg hp, if_neg hp, if_neg hp]; rfl
theorem fa_b {b : Rat} (h1 : Rho.ρ 8 = b.num) (h2 : Rho.ρ 9 = b.den) : FA (bF (kOf b)) (frac b) := by
  unfold kOf
  split
  · rename_i h; exact ⟨rfl, rfl, by show Value.agg #[.int .i64 0, .int .i64 (Rho.ρ 9)] = _; unfold frac; rw [h2, h]⟩
  · split <;> exact ⟨rfl, rfl, by show Value.agg #[.int .i64 (Rho.ρ 8), .int .i64 (Rho.ρ 9)] = _; rw [h1, h2]; rfl⟩
theorem fv_b {b : Rat} (hb : okQ b) (h1 : Rho.ρ 8 = b.num) (h2 : Rho.ρ 9 = b.den) : FV (bF (kOf b)) (frac b) := by
  have hv : (bF (kOf b)).vl = frac b := (fa_b h1 h2).vl
  have h := okQ_bd hb
  revert hv
  unfold kOf
  split
  · exact fun hv => ⟨rfl, rfl, ⟨trivial, ltf (by rw [h2]; exact h.2), trivial⟩, hv⟩
  · split
    · exact fun hv => ⟨rfl, rfl, ⟨ltf (by rw [h1]; omega), ltf (by rw [h2]; exact h.2), trivial⟩, hv⟩
    · exact fun hv => ⟨rfl, rfl, ⟨ltf (by rw [h1]; omega), ltf (by rw [h2]; exact h.2), trivial⟩, hv⟩
theorem fa_z : FA zF (frac 0) := ⟨rfl, rfl, rfl⟩
theorem fa_o : FA oF (frac 1) := ⟨rfl, rfl, rfl⟩
theorem fv_z : FV zR (resV 0) := by
  refine ⟨rfl, rfl, ⟨trivial, trivial, trivial, trivial⟩, ?_⟩
  unfold resV rN rD rE
  rw [if_pos ok0, if_pos ok0, if_pos ok0]; rfl

theorem cifH {f : FuncId} {c : Bool} {F : Fct} (h : c = true → F.Holds Try.prog f) : ∀ F' ∈ cif c F, F'.Holds Try.prog f := by
  intro F' hF
  cases c
  · simp [cif] at hF
  · simp only [cif, if_pos, List.mem_singleton] at hF
    rw [hF]; exact h rfl
theorem appH {f : FuncId} {l m : List Fct} (h1 : ∀ F' ∈ l, F'.Holds Try.prog f) (h2 : ∀ F' ∈ m, F'.Holds Try.prog f) : ∀ F' ∈ l ++ m, F'.Holds Try.prog f := by
  intro F' hF
  rcases List.mem_append.1 hF with h | h
  · exact h1 F' h
  · exact h2 F' h
end

theorem body10 : hasBody Try.prog 10 = true := by kernel_rfl
theorem body15 : hasBody Try.prog 15 = true := by kernel_rfl
theorem ex_run : okRun Try.prog (orcOf []) 10 [] (.bool true) = true := by kernel_rfl
theorem ex_c (w : World) : Calls Try.prog 10 #[] w fun e w' => e = .returned (.bool true) ∧ Below w.heap.size w w' :=
  letI := rho []
  run_open fit (orcOf_ok (L := []) trivial) ex_run trivial w

theorem field_run (k : Nat) (hk : k = 0 ∨ k = 1 ∨ k = 2) (s t p q r L : Bool) : okRun Try.prog (orcOf (fieldFacts k s t p q r L)) 4 [xp 0, xp 2, xp 4] (.bool true) = true := by
  have h : runOf k s t = true := by
    rcases hk with rfl | rfl | rfl <;> cases s
    · exact all_bools run0fs t
    · exact all_bools run0ts t
    · exact all_bools run1fs t
    · exact all_bools run1ts t
    · exact all_bools run2fs t
    · exact all_bools run2ts t
  exact all_bools (all_bools (all_bools (all_bools h p) q) r) L

theorem field_c (x0 x1 x2 x3 x4 x5 : Int) (h0 : -9223372036854775808 ≤ x0 ∧ x0 ≤ 9223372036854775807) (h1 : -9223372036854775808 ≤ x1 ∧ x1 ≤ 9223372036854775807) (h2 : -9223372036854775808 ≤ x2 ∧ x2 ≤ 9223372036854775807)
    (h3 : -9223372036854775808 ≤ x3 ∧ x3 ≤ 9223372036854775807) (h4 : -9223372036854775808 ≤ x4 ∧ x4 ≤ 9223372036854775807) (h5 : -9223372036854775808 ≤ x5 ∧ x5 ≤ 9223372036854775807) (w : World) :
    Calls Try.prog 4 #[.agg #[.int .i64 x0, .int .i64 x1], .agg #[.int .i64 x2, .int .i64 x3], .agg #[.int .i64 x4, .int .i64 x5]] w fun e w' => e = .returned (.bool true) ∧ Below w.heap.size w w' := by
  have ma := made_c x0 x1 h0 h1
  have mb := made_c x2 x3 h2 h3
  have mc := made_c x4 x5 h4 h5
  have oa : okQ (madeQ (mu x0 x1 + 1) x0 x1) := madeQ_ok _ _ _
  have ob : okQ (madeQ (mu x2 x3 + 1) x2 x3) := madeQ_ok _ _ _
  have oc : okQ (madeQ (mu x4 x5 + 1) x4 x5) := madeQ_ok _ _ _
  generalize madeQ (mu x0 x1 + 1) x0 x1 = a at *
  generalize madeQ (mu x2 x3 + 1) x2 x3 = b at *
  generalize madeQ (mu x4 x5 + 1) x4 x5 = c at *
  letI := rho [x0, x1, x2, x3, x4, x5, a.num, a.den, b.num, b.den, c.num, c.den, (a + b).num, (a + b).den, (a * b).num, (a * b).den, (b + c).num, (b + c).den, rN (a + b + c), rD (a + b + c), rE (a + b + c),
    (b * c).num, (b * c).den, rN (a * b * c), rD (a * b * c), rE (a * b * c), (a * c).num, (a * c).den, ((a + b) * c).num, ((a + b) * c).den]
  have hk := kOf_cases b
  have A : FA (fr 6) (frac a) := fa_fr rfl rfl
  have B : FA (bF (kOf b)) (frac b) := fa_b rfl rfl
  have C : FA (fr 10) (frac c) := fa_fr rfl rfl
  have S : FA (fr 12) (frac (a + b)) := fa_fr rfl rfl
  have P : FA (fr 14) (frac (a * b)) := fa_fr rfl rfl
  have T : FA (fr 16) (frac (b + c)) := fa_fr rfl rfl
  have Q : FA (fr 21) (frac (b * c)) := fa_fr rfl rfl
  have RR : FA (fr 26) (frac (a * c)) := fa_fr rfl rfl
  have VA : FV (R true 6) (resV a) := fv_R (decide_eq_true oa).symm rfl rfl
  have VS : FV (R (decide (okQ (a + b))) 12) (resV (a + b)) := fv_R rfl rfl rfl
  have VP : FV (R (decide (okQ (a * b))) 14) (resV (a * b)) := fv_R rfl rfl rfl
  have VT : FV (R (decide (okQ (b + c))) 16) (resV (b + c)) := fv_R rfl rfl rfl
  have VQ : FV (R (decide (okQ (b * c))) 21) (resV (b * c)) := fv_R rfl rfl rfl
  have VR : FV (R (decide (okQ (a * c))) 26) (resV (a * c)) := fv_R rfl rfl rfl
  have VL : FV (R (decide (okQ ((a + b) * c))) 28) (resV ((a + b) * c)) := fv_R rfl rfl rfl
  have V3 : FV (resA 18) (resV (a + b + c)) := fv_res rfl rfl rfl
  have V4 : FV (resA 23) (resV (a * b * c)) := fv_res rfl rfl rfl
  refine run_open fit (orcOf_ok (L := fieldFacts (kOf b) (decide (okQ (a + b))) (decide (okQ (b + c))) (decide (okQ (a * b))) (decide (okQ (b * c))) (decide (okQ (a * c))) (decide (okQ ((a + b) * c)))) ⟨?_, ?_, ?_, ?_, ?_, ?_, trivial⟩)
    (field_run _ hk _ _ _ _ _ _) ⟨⟨ltf h0, ltf h1, trivial⟩, ⟨ltf h2, ltf h3, trivial⟩, ⟨ltf h4, ltf h5, trivial⟩, trivial⟩ w
  · exact one (fct_flat rfl rfl rfl trivial body10 ex_c)
  · exact two (holds2 (fa_x rfl) (fa_x rfl) (fv_fr oa rfl rfl) body15 ma) (two (holds2 (fa_x rfl) (fa_x rfl) (fv_b ob rfl rfl) body15 mb) (one (holds2 (fa_x rfl) (fa_x rfl) (fv_fr oc rfl rfl) body15 mc)))
  · refine two (holds2 A B VS body16 (addL a b oa ob)) (two (holds2 B A VS body16 ?_) (two (holds2 A fa_z VA body16 ?_) (two (holds2 B C VT body16 (addL b c ob oc)) (appH (cifH fun h => holds2 S C V3 body16 ?_) (appH (cifH fun h => holds2 A T V3 body16 ?_) (cifH fun h => holds2 RR Q VL body16 ?_))))))
    · rw [Rat.add_comm a b]; exact addL b a ob oa
    · have := addL a 0 oa ok0; rwa [Rat.add_zero] at this
    · exact addL (a + b) c (of_decide_eq_true h) oc
    · rw [Rat.add_assoc]; exact addL a (b + c) oa (of_decide_eq_true h)
    · rw [Bool.and_eq_true] at h
      rw [Rat.add_mul]; exact addL (a * c) (b * c) (of_decide_eq_true h.1) (of_decide_eq_true h.2)
  · refine two (holds2 A A fv_z body18 ?_) (cifH fun h => holds2 S B VA body18 ?_)
    · have := subL a a oa oa; rwa [Rat.sub_self] at this
    · have := subL (a + b) b (of_decide_eq_true h) ob
      rwa [show a + b - b = a by rw [Rat.sub_eq_add_neg, Rat.add_assoc, Rat.add_neg_cancel, Rat.add_zero]] at this
  · refine two (holds2 A B VP body20 (mulL a b oa ob)) (two (holds2 B A VP body20 ?_) (two (holds2 A fa_o VA body20 ?_) (two (holds2 A fa_z fv_z body20 ?_) (two (holds2 B C VQ body20 (mulL b c ob oc)) (two (holds2 A C VR body20 (mulL a c oa oc)) (appH (cifH fun h => holds2 P C V4 body20 ?_) (appH (cifH fun h => holds2 A Q V4 body20 ?_) (cifH fun h => holds2 S C VL body20 ?_))))))))
    · rw [Rat.mul_comm a b]; exact mulL b a ob oa
    · have := mulL a 1 oa ok1; rwa [Rat.mul_one] at this
    · have := mulL a 0 oa ok0; rwa [Rat.mul_zero] at this
    · exact mulL (a * b) c (of_decide_eq_true h) oc
    · rw [Rat.mul_assoc]; exact mulL a (b * c) oa (of_decide_eq_true h)
    · exact mulL (a + b) c (of_decide_eq_true h) oc
  · refine cifH fun h => holds2 P B VA body22 ?_
    rw [Bool.and_eq_true] at h
    have hb0 : b.num ≠ 0 := by
      intro e
      have h2 := h.2
      unfold kOf at h2
      rw [if_pos e] at h2
      cases h2
    have := divL (a * b) b (of_decide_eq_true h.1) ob hb0
    rwa [show a * b / b = a by rw [Rat.div_def, Rat.mul_assoc, Rat.mul_inv_cancel b (fun e => hb0 (by rw [e]; rfl)), Rat.mul_one]] at this

end Go.Proofs.Ytieabeodommbiaa

/- Make in rational numbers. -/
namespace Go.Proofs.Ytieabeodommbiaa
open Go.RowKit (Below)
open Go.Ev

theorem sgn_divInt (a b : Int) (hb : b ≠ 0) : (if sgn a b then -((Rat.divInt a b).num.natAbs : Int) else ((Rat.divInt a b).num.natAbs : Int)) = (Rat.divInt a b).num := by
  have h1 := (divInt_parts a b hb).1
  have hs : ∀ x : Int, 0 ≤ x → 0 ≤ x / ((Nat.gcd a.natAbs b.natAbs : Nat) : Int) := fun x hx => Int.ediv_nonneg hx (by omega)
  have hgp : 0 < Nat.gcd a.natAbs b.natAbs := Nat.gcd_pos_of_pos_right _ (by omega)
  have hs2 : ∀ x : Int, x ≤ 0 → x / ((Nat.gcd a.natAbs b.natAbs : Nat) : Int) ≤ 0 := fun x hx => Int.ediv_nonpos_of_nonpos_of_neg hx (by omega)
  unfold sgn
  by_cases sa : a < 0 <;> by_cases sb : b < 0
  · rw [Int.sign_eq_neg_one_of_neg sb] at h1
    have := hs (-1 * a) (by omega)
    rw [← h1] at this
    clear h1 hs hs2
    simp only [sa, sb, decide_true, bne_self_eq_false, Bool.false_eq_true, if_false]; omega
  · rw [Int.sign_eq_one_of_pos (by omega)] at h1
    have := hs2 (1 * a) (by omega)
    rw [← h1] at this
    clear h1 hs hs2
    simp only [sa, sb, decide_true, decide_false, Bool.true_bne, Bool.not_false, if_true]; omega
  · rw [Int.sign_eq_neg_one_of_neg sb] at h1
    have := hs2 (-1 * a) (by omega)
    rw [← h1] at this
    clear h1 hs hs2
    simp only [sa, sb, decide_true, decide_false, Bool.false_bne, if_true]; omega
  · rw [Int.sign_eq_one_of_pos (by omega)] at h1
    have := hs (1 * a) (by omega)
    rw [← h1] at this
    clear h1 hs hs2
    simp only [sa, sb, decide_false, bne_self_eq_false, Bool.false_eq_true, if_false]; omega

theorem make_q (n d : Int) (hn : -9223372036854775808 ≤ n ∧ n ≤ 9223372036854775807) (hd : -9223372036854775808 ≤ d ∧ d ≤ 9223372036854775807) (h0 : d ≠ 0) (w : World) :
    Calls Try.prog 38 #[.int .i64 n, .int .i64 d] w fun e w' => e = .returned (outV (Rat.divInt n d)) ∧ Below w.heap.size w w' := by
  have := make_c n d hn hd w
  have eg : gcdI (absI n) (absI d) = (Nat.gcd n.natAbs d.natAbs : Nat) := by rw [absI_natAbs d]; exact gcdI_pos n d.natAbs (by omega)
  have e1 : mkn n d = ((Rat.divInt n d).num.natAbs : Int) := by
    show (absI n).tdiv (gcdI (absI n) (absI d)) = _
    rw [eg, absI_natAbs, tdiv_nat, num_abs n d h0]
  have e2 : mkd n d = ((Rat.divInt n d).den : Int) := by
    show (absI d).tdiv (gcdI (absI n) (absI d)) = _
    rw [eg, absI_natAbs, tdiv_nat, (divInt_parts n d h0).2]
  obtain ⟨k1, k2, k3⟩ := out_spec (sgn n d) (mkn n d) (mkd n d) (Rat.divInt n d) e1 e2 (by rw [e1]; exact sgn_divInt n d h0)
  rw [k1, k2, k3] at this
  exact this

/-- Make where there is nothing to divide by -/
theorem make_0 (n : Int) (hn : -9223372036854775808 ≤ n ∧ n ≤ 9223372036854775807) (w : World) :
    Calls Try.prog 38 #[.int .i64 n, .int .i64 0] w fun e w' => e = .returned (.tuple #[.agg #[.int .i64 0, .int .i64 0], .int .i64 3]) ∧ Below w.heap.size w w' := by
  have := make_c n 0 hn (by omega) w
  have e2 : mkd n 0 = 0 := by show (absI 0).tdiv _ = 0; rw [show absI 0 = 0 from rfl]; exact Int.zero_tdiv _
  rw [e2, show fE (mkn n 0) 0 = 3 by simp [fE], show fD (mkn n 0) 0 = 0 by simp [fD, fE], show ∀ s, fN s (mkn n 0) 0 = 0 from fun s => by simp [fN, fE]] at this
  exact this

/-- what Valid asks of a valid fraction -/
theorem make_own (q : Rat) (h : okQ q) (w : World) : Calls Try.prog 38 #[.int .i64 q.num, .int .i64 q.den] w fun e w' => e = .returned (.tuple #[.agg #[.int .i64 q.num, .int .i64 q.den], .int .i64 0]) ∧ Below w.heap.size w w' := by
  have hb := okQ_bd h
  have := make_q q.num q.den (by omega) (by omega) (by omega) w
  rw [Rat.num_divInt_den] at this
  unfold outV rN rD rE at this
  rw [if_pos h, if_pos h, if_pos h] at this
  exact this
end Go.Proofs.Ytieabeodommbiaa

/- RatLowest, evaluated with letters. -/
namespace Go.Proofs.Ytieabeodommbiaa
open Go.Ev

/-- letters: 0 .. 3 the pairs' numbers, 4 the factor; 6, 8 the fractions; 10, 12, 14, 16 sum, difference, product, quotient; 18 the fraction of the numbers themselves; 20 that of the rests -/
abbrev M30 : Int := 1073741824
noncomputable abbrev nLX : SX := .bin .rem (.var 0 (-9223372036854775808) 9223372036854775807) (.lit M30)
noncomputable abbrev dLX : SX := .bin .rem (.var 1 (-9223372036854775808) 9223372036854775807) (.lit M30)
noncomputable abbrev kLX : SX := .var 4 (-2147483648) 2147483647
noncomputable abbrev kLA : AV := .sym .i32 kLX (-2147483648) 2147483647
noncomputable abbrev rLA (e : SX) : AV := .sym .i64 e (-1073741823) 1073741823
noncomputable abbrev rkLA (e : SX) : AV := .sym .i64 (.bin .mul e kLX) (-2305843007066210304) 2305843007066210304
/-- a result: 0: it fits, 1: it is too big, 2: division by 0 -/
noncomputable def R3 (c : Nat) (i : Nat) : AV := match c with | 0 => .agg [aN i, aD (i + 1), .int .i64 0] | 1 => .agg [.int .i64 0, .int .i64 0, .int .i64 2] | _ => .agg [.int .i64 0, .int .i64 0, .int .i64 3]
noncomputable abbrev ownF (i : Nat) : Fct := F2 (aN i) (aD (i + 1)) (.tup [.agg [aN i, aD (i + 1)], .int .i64 0])
noncomputable def lowFacts (s t p q c : Nat) (z : Nat) : List (FuncId × List Fct) :=
  [(10, [⟨[], [], .bool true, [], []⟩]),
   (15, [F2 (xs 0) (xs 1) (fr 6), F2 (xs 2) (xs 3) (fr 8)]),
   (16, [F2 (fr 6) (fr 8) (R3 s 10)]), (18, [F2 (fr 6) (fr 8) (R3 t 12)]), (20, [F2 (fr 6) (fr 8) (R3 p 14)]), (22, [F2 (fr 6) (fr 8) (R3 q 16)]),
   (11, F2 (xs 0) (xs 2) (R3 c 18) :: cif (Nat.beq z 2) (F2 (rLA nLX) (rLA dLX) (R3 0 20)) ++ cif (Nat.beq z 2) (F2 (rkLA nLX) (rkLA dLX) (R3 0 20))),
   (38, F2 (.int .i64 0) (.int .i64 0) (zeroR 3) :: (cif (Nat.beq s 0) (ownF 10) ++ (cif (Nat.beq t 0) (ownF 12) ++ (cif (Nat.beq p 0) (ownF 14) ++ (cif (Nat.beq q 0) (ownF 16) ++ cif (Nat.beq c 0) (ownF 18))))))]
/-- z: 0: the rest is 0, 1: the factor is, 2: neither is -/
noncomputable def lowTab (z : Nat) : KTab where
  cmps := [(.eql, dLX, .lit 0, Nat.beq z 0)] ++ ((if Nat.beq z 0 then [] else [(.eql, kLX, .lit 0, Nat.beq z 1)]) ++ (if Nat.beq z 2 then [(.eql, .wop .mul .i64 (.var 20 (-4611686018427387904) 4611686018427387904) dLX, .wop .mul .i64 (.var 21 1 4611686018427387904) nLX, true)] else []))
noncomputable def lowRun (s t p q c z : Nat) : Bool := @okRun (lowTab z).know Try.prog (orcOf (lowFacts s t p q c z)) 6 [xp 0, xp 2, kLA] (.bool true)
noncomputable def allB (f : Nat → Bool) : Bool := f 0 && f 1
noncomputable def allC (f : Nat → Bool) : Bool := f 0 && (f 1 && f 2)
end Go.Proofs.Ytieabeodommbiaa
