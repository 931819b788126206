/- Numbers as lists of bits: sums with signs, whatever the signs. -/
import Derived.Test.YtieabeodommbiaaNi
import Derived.Test.YtieabeodommbiaaNj
namespace Go.Proofs.Ytieabeodommbiaa
open Go.RowKit
set_option maxRecDepth 100000
set_option linter.unusedVariables false

/-- a list without zeros at its end that says less is not longer -/
theorem len_le {A B : List Int} (hA : Bits A) (hB : Bits B) (hC : Can B) (h : vl B ≤ vl A) : B.length ≤ A.length := by
  rcases snoc_cases B with rfl | ⟨k, b, rfl⟩
  · simp
  · have h1 := can_app.1 hC
    have h2 := (vl_bd (l := k) fun y hy => hB y (by simp [hy])).1
    have h3 := (vl_bd hA).2
    rw [vl_app, h1] at h
    rw [List.length_append, List.length_singleton]
    rcases Nat.lt_or_ge A.length (k.length + 1) with hl | hl
    · have := p2_le (show A.length ≤ k.length by omega)
      omega
    · exact hl
theorem minus_any {A B : List Int} {va vb : Value} {W : World} (hA : Bits A) (hB : Bits B) (hC : Can B) (ha : A.length ≤ 1000) (hle : vl B ≤ vl A) (na : Num A W va) (nb : Num B W vb) (w : World) (hw : Below W.heap.size W w) :
    Calls Try.prog 69 #[va, vb] w (CPost (vl A - vl B) A.length w) := by
  have na' := na.below hw
  have nb' := nb.below hw
  obtain ⟨aa, ca, rfl⟩ := na.shape
  obtain ⟨ab, cb, rfl⟩ := nb.shape
  exact nminus_c hA hB ha (len_le hA hB hC hle) hle rfl rfl na' nb'
theorem SgPost.le {n : Int} {l l' : Nat} (h : l ≤ l') {w w' : World} {e : Ending} (hp : SgPost n l w e w') : SgPost n l' w e w' := by
  obtain ⟨neg, K, v, h1, h2, h3, h4, h5, h6⟩ := hp
  exact ⟨neg, K, v, h1, h2, h3, h4, by omega, h6⟩
theorem sum_c {n m : Bool} {A B : List Int} {va vb : Value} {W : World} (hA : Bits A) (hB : Bits B) (cA : Can A) (cB : Can B) (ha : A.length ≤ 1000) (hb : B.length ≤ 1000) (na : Num A W va) (nb : Num B W vb) :
    Calls Try.prog 43 #[.agg #[.bool n, va], .agg #[.bool m, vb]] W (SgPost (sv n A + sv m B) (max A.length B.length + 1) W) := by
  obtain ⟨aa, ca, rfl⟩ := na.shape
  obtain ⟨ab, cb, rfl⟩ := nb.shape
  by_cases h : m = n
  · subst h
    exact sum_same m (fun w hw => nplus_any hA hB ha hb na nb w hw)
  · obtain rfl : m = !n := by cases n <;> cases m <;> simp_all
    by_cases hle : vl B ≤ vl A
    · exact (sum_ge n hle (fun w hw => compare_any hA hB ha hb na nb w hw) (fun w hw => minus_any hA hB cB ha hle na nb w hw)).mono fun e w => SgPost.le (by omega)
    · exact (sum_lt n (by omega) (fun w hw => compare_any hA hB ha hb na nb w hw) (fun w hw => minus_any hB hA cA hb (by omega) nb na w hw)).mono fun e w => SgPost.le (by omega)

/-! ### Gcd -/
def gI (a b : Int) : Int := Int.gcd a b
theorem gI_step {a b : Int} (ha : 0 ≤ a) (hb : 0 < b) : gI b (a % b) = gI a b := by
  obtain ⟨m, rfl⟩ := Int.eq_ofNat_of_zero_le ha
  obtain ⟨n, rfl⟩ := Int.eq_ofNat_of_zero_le (show 0 ≤ b by omega)
  show ((Nat.gcd n ((m : Int) % n).natAbs : Nat) : Int) = (Nat.gcd m n : Nat)
  rw [← Int.natCast_emod, Int.natAbs_natCast, Nat.gcd_comm n, ← Nat.gcd_rec, Nat.gcd_comm]
set_option maxHeartbeats 1600000 in
theorem ngcd_c (a b : Int) (a0 : 0 ≤ a) (a1 : a ≤ 9223372036854775807) (b0 : 0 ≤ b) (b1 : b ≤ 9223372036854775807) (W : World) : Calls Try.prog 39 #[.int .i64 a, .int .i64 b] W fun e W' => e = .returned (.int .i64 (gI a b)) ∧ Below W.heap.size W W' := by
  go_enter Try.func39, Try.ntmps39
  go_wp2
  go_loopw [0, 1] (fun x y wr => ∃ p q : Int, x = .int .i64 p ∧ y = .int .i64 q ∧ 0 ≤ p ∧ p ≤ 9223372036854775807 ∧ 0 ≤ q ∧ q ≤ 9223372036854775807 ∧ Hid (gI p q = gI a b) ∧ wr = W) (fun _ y _ => (intOf y).toNat)
  case atStart => exact ⟨a, b, rfl, rfl, a0, a1, b0, b1, rfl, rfl⟩
  case round =>
    obtain ⟨p, q, rfl, rfl, p0, p1, q0, q1, HP, rfl⟩ := hrel
    by_cases hq : 0 < q
    · have hm := Int.emod_nonneg p (show q ≠ 0 by omega)
      have hm2 := Int.emod_lt_of_pos p hq
      have HN := Lib.hid ((gI_step p0 hq).trans HP.out)
      go_wp2
      go_roundw
      case rel => exact ⟨q, p % q, rfl, rfl, q0, q1, hm, by omega, HN, trivial⟩
      case measure => simp [intOf]; omega
    · obtain rfl : q = 0 := by omega
      have hp : gI p 0 = p := by unfold gI; rw [Int.gcd_zero_right]; omega
      have HQ := Lib.hid (hp.symm.trans HP.out)
      clear hp
      go_wp2
      go_ret
      exact ⟨by have := HQ.out; subst this; rfl, Below.refl _ _⟩
end Go.Proofs.Ytieabeodommbiaa

/- Numbers as lists of bits: made. -/
namespace Go.Proofs.Ytieabeodommbiaa
open Go.RowKit
set_option maxRecDepth 100000
set_option linter.unusedVariables false

def mdX (n p q : Bool) (x : Int) : Int := if p && q then (if n then -x else x) else 0
def mdY (p q : Bool) (y : Int) : Int := if p && q then y else 0
def mdE (p q : Bool) : Int := if p && q then 0 else 2
set_option maxHeartbeats 6400000 in
theorem made_w (n p q : Bool) {x y : Int} {la lb ca cb : Nat} {aa ab : Option Addr} {W : World} (x0 : 0 ≤ x) (x1 : x ≤ 4611686018427387904)
    (hA : ∀ w : World, Below W.heap.size W w → Calls Try.prog 71 #[.slice aa la ca] w fun e w' => e = .returned (.tuple #[.int .i64 x, .bool p]) ∧ Below w.heap.size w w')
    (hB : ∀ w : World, Below W.heap.size W w → Calls Try.prog 71 #[.slice ab lb cb] w fun e w' => e = .returned (.tuple #[.int .i64 y, .bool q]) ∧ Below w.heap.size w w') :
    Calls Try.prog 46 #[.agg #[.bool n, .slice aa la ca], .slice ab lb cb] W fun e W' => e = .returned (.agg #[.int .i64 (mdX n p q x), .int .i64 (mdY p q y), .int .i64 (mdE p q)]) ∧ Below W.heap.size W W' := by
  have HA := Lib.hid hA
  have HB := Lib.hid hB
  clear hA hB
  obtain ⟨xv, HX⟩ : ∃ v, Hid (v = mdX n p q x) := ⟨_, rfl⟩
  obtain ⟨yv, HY⟩ : ∃ v, Hid (v = mdY p q y) := ⟨_, rfl⟩
  obtain ⟨ev, HE⟩ : ∃ v, Hid (v = mdE p q) := ⟨_, rfl⟩
  rw [← HX.out, ← HY.out, ← HE.out]
  cases n <;> cases p <;> cases q
  all_goals
    go_enter Try.func46, Try.ntmps46
    go_wp2_with fail
    refine (HA.out _ (((Below.refl _ _).alloc (Nat.le_refl _) _).alloc (by simp) _)).mono ?_
    rintro e w1 ⟨rfl, hb1⟩
    have h1 := hb1.mono (B' := W.heap.size + 2) (by simp)
    have HW : Hid (Below W.heap.size W w1) := Lib.hid ((((Below.refl _ _).alloc (Nat.le_refl _) _).alloc (by simp) _).trans (hb1.mono (by simp; omega)))
    clear hb1
    go_wp2_with fail
    refine (HB.out _ HW.out).mono ?_
    rintro e w2 ⟨rfl, hb2⟩
    have h2 := h1.trans (hb2.mono (by have := h1.size; simp at this; omega))
    have HW2 : Hid (Below W.heap.size W w2) := Lib.hid (HW.out.trans (hb2.mono HW.out.size))
    have b0 := h2.cell (p := ⟨W.heap.size, 0, none⟩) (by simp)
    simp at b0
    have q0 : w2.cell? ⟨W.heap.size + 1, 0, none⟩ = some (.int .i64 0) := by rw [h2.cell (by simp)]; exact World.cell?_alloc_at _ _ _ _ (by simp)
    have q1 : w2.cell? ⟨W.heap.size + 1, 1, none⟩ = some (.int .i64 0) := by rw [h2.cell (by simp)]; exact World.cell?_alloc_at _ _ _ _ (by simp)
    have q2 : w2.cell? ⟨W.heap.size + 1, 2, none⟩ = some (.int .i64 0) := by rw [h2.cell (by simp)]; exact World.cell?_alloc_at _ _ _ _ (by simp)
    have p0 : w2.frozen? ⟨W.heap.size + 1, 0, none⟩ = false := by rw [h2.frozen (by simp)]; exact World.frozen?_alloc_at _ _ _ _ (by simp)
    have p1 : w2.frozen? ⟨W.heap.size + 1, 1, none⟩ = false := by rw [h2.frozen (by simp)]; exact World.frozen?_alloc_at _ _ _ _ (by simp)
    have p2 : w2.frozen? ⟨W.heap.size + 1, 2, none⟩ = false := by rw [h2.frozen (by simp)]; exact World.frozen?_alloc_at _ _ _ _ (by simp)
    clear hb2 h1 h2
    go_wp2
    exact bodyPost_ret (v := .agg #[.int .i64 xv, .int .i64 yv, .int .i64 ev]) (by rw [HX.out, HY.out, HE.out]; simp [results, Try.results46, go_sem, q0, q1, q2, mdX, mdY, mdE]) rfl
      ⟨rfl, ((HW2.out.setCell (by simp) _).setCell (by simp) _).setCell (by simp) _⟩

theorem fits_any {A : List Int} {va : Value} {W : World} (hA : Bits A) (ha : A.length ≤ 1000) (na : Num A W va) (w : World) (hw : Below W.heap.size W w) :
    Calls Try.prog 71 #[va] w fun e w' => e = .returned (.tuple #[.int .i64 (if vl A ≤ 4611686018427387904 then vl A else 0), .bool (decide (vl A ≤ 4611686018427387904))]) ∧ Below w.heap.size w w' := by
  have na' := na.below hw
  obtain ⟨aa, ca, rfl⟩ := na.shape
  exact nfits_c hA ha rfl na'
/-- the fraction of a signed numerator and a denominator: it has an error if one of them is too great -/
theorem made_c' {n : Bool} {A B : List Int} {va vb : Value} {W : World} (hA : Bits A) (hB : Bits B) (ha : A.length ≤ 1000) (hb : B.length ≤ 1000) (na : Num A W va) (nb : Num B W vb) :
    Calls Try.prog 46 #[.agg #[.bool n, va], vb] W fun e W' => (e = .returned (if vl A ≤ 4611686018427387904 ∧ vl B ≤ 4611686018427387904 then .agg #[.int .i64 (sv n A), .int .i64 (vl B), .int .i64 0] else .agg #[.int .i64 0, .int .i64 0, .int .i64 2])) ∧ Below W.heap.size W W' := by
  have h0 := (vl_bd hA).1
  have f1 := fits_any hA ha na
  have f2 := fits_any hB hb nb
  obtain ⟨aa, ca, rfl⟩ := na.shape
  obtain ⟨ab, cb, rfl⟩ := nb.shape
  refine (made_w n (decide (vl A ≤ 4611686018427387904)) (decide (vl B ≤ 4611686018427387904)) (by split <;> omega) (by split <;> omega) f1 f2).mono ?_
  rintro e w ⟨rfl, hb⟩
  refine ⟨?_, hb⟩
  by_cases h1 : vl A ≤ 4611686018427387904 <;> by_cases h2 : vl B ≤ 4611686018427387904 <;> simp [h1, h2, mdX, mdY, mdE, sv]
end Go.Proofs.Ytieabeodommbiaa

/- The reference's comparison of fractions. -/
namespace Go.Proofs.Ytieabeodommbiaa
open Go.RowKit
set_option maxRecDepth 100000
set_option linter.unusedVariables false

theorem SgPost.open {n : Int} {l : Nat} {w w' : World} {e : Ending} (h : SgPost n l w e w') : ∃ neg K a c, e = .returned (.agg #[.bool neg, .slice a (List.length K) c]) ∧ Hid (sv neg K = n ∧ Bits K ∧ Can K ∧ K.length ≤ l ∧ Num K w' (.slice a K.length c)) ∧ Below w.heap.size w w' := by
  obtain ⟨neg, K, v, h1, h2, h3, h4, h5, h6, h7⟩ := h
  obtain ⟨a, c, rfl⟩ := h6.shape
  exact ⟨neg, K, a, c, h1, ⟨h2, h3, h4, h5, h6⟩, h7⟩
def nsgn (x : Int) : Int := if x = 0 then 0 else if x < 0 then -1 else 1
set_option maxHeartbeats 6400000 in
theorem rcmp_c (an ad bn bd : Int) (h1 : -4611686018427387904 ≤ an ∧ an ≤ 4611686018427387904) (h2 : 1 ≤ ad ∧ ad ≤ 4611686018427387904) (h3 : -4611686018427387904 ≤ bn ∧ bn ≤ 4611686018427387904) (h4 : 1 ≤ bd ∧ bd ≤ 4611686018427387904) (W : World) :
    Calls Try.prog 25 #[.agg #[.int .i64 an, .int .i64 ad], .agg #[.int .i64 bn, .int .i64 bd]] W fun e W' => e = .returned (.int .i64 (nsgn (an * bd - bn * ad))) ∧ Below W.heap.size W W' := by
  have P1 := Lib.hid (nproduct_c an bd h1.1 h1.2 (by omega) h4.2)
  have P2 := Lib.hid (nproduct_c bn ad h3.1 h3.2 (by omega) h2.2)
  go_enter Try.func25, Try.ntmps25
  go_wp2_with fail
  refine (P1.out _).mono ?_
  intro e w1 hh
  obtain ⟨n1, A, a1, c1, rfl, e1, hb1⟩ := SgPost.open hh
  have k1 : Below (W.heap.size + 2) ((W.alloc (.cells #[.int .i64 an, .int .i64 ad] 25)).alloc (.cells #[.int .i64 bn, .int .i64 bd] 25)) w1 := hb1.mono (by simp)
  have z1 : W.heap.size + 2 ≤ w1.heap.size := by have := k1.size; simpa using this
  have x1 : (w1.alloc (.cells #[.bool n1, .slice a1 A.length c1] 56)).cell? ⟨W.heap.size, 1, none⟩ = some (.int .i64 ad) := by rw [World.cell?_alloc_past _ _ _ (by first | (show _ < _; omega) | (simp; omega)), k1.cell (by simp)]; rw [World.cell?_alloc_past _ _ _ (by simp)]; exact World.cell?_alloc_at _ _ _ _ rfl
  have x2 : (w1.alloc (.cells #[.bool n1, .slice a1 A.length c1] 56)).cell? ⟨W.heap.size + 1, 0, none⟩ = some (.int .i64 bn) := by rw [World.cell?_alloc_past _ _ _ (by first | (show _ < _; omega) | (simp; omega)), k1.cell (by simp)]; exact World.cell?_alloc_at _ _ _ _ (by simp)
  have K1 : Hid (Below W.heap.size W w1) := Lib.hid ((((Below.refl _ _).alloc (Nat.le_refl _) _).alloc (by simp) _).trans (k1.mono (by omega)))
  clear hh hb1 k1
  go_wp2_with fail
  refine (P2.out _).mono ?_
  intro e w2 hh
  obtain ⟨n2, B, a2, c2, rfl, e2, hb2⟩ := SgPost.open hh
  have k2 : Below (w1.heap.size + 1) (w1.alloc (.cells #[.bool n1, .slice a1 A.length c1] 56)) w2 := hb2.mono (by simp)
  have z2 : w1.heap.size + 1 ≤ w2.heap.size := by have := k2.size; simpa using this
  have y1 : (w2.alloc (.cells #[.bool n2, .slice a2 B.length c2] 56)).cell? ⟨w1.heap.size, 0, none⟩ = some (.bool n1) := by rw [World.cell?_alloc_past _ _ _ (by first | (show _ < _; omega) | (simp; omega)), k2.cell (by simp)]; exact World.cell?_alloc_at _ _ _ _ rfl
  have y2 : (w2.alloc (.cells #[.bool n2, .slice a2 B.length c2] 56)).cell? ⟨w1.heap.size, 1, none⟩ = some (.slice a1 A.length c1) := by rw [World.cell?_alloc_past _ _ _ (by first | (show _ < _; omega) | (simp; omega)), k2.cell (by simp)]; exact World.cell?_alloc_at _ _ _ _ rfl
  have NA : Hid (Num A (w2.alloc (.cells #[.bool n2, .slice a2 B.length c2] 56)) (.slice a1 A.length c1)) := Lib.hid (((e1.out.2.2.2.2.below ((Below.refl _ _).alloc (Nat.le_refl _) _)).below hb2).below ((Below.refl _ _).alloc (Nat.le_refl _) _))
  have NB : Hid (Num B (w2.alloc (.cells #[.bool n2, .slice a2 B.length c2] 56)) (.slice a2 B.length c2)) := Lib.hid (e2.out.2.2.2.2.below ((Below.refl _ _).alloc (Nat.le_refl _) _))
  have K2 : Hid (Below W.heap.size W w2) := Lib.hid ((K1.out.alloc K1.out.size _).trans (hb2.mono (by have := K1.out.size; simp; omega)))
  have HS := Lib.hid (sum_c (n := n1) (m := !n2) e1.out.2.1 e2.out.2.1 e1.out.2.2.1 e2.out.2.2.1 (by have := e1.out.2.2.2.1; omega) (by have := e2.out.2.2.2.1; omega) NA.out NB.out)
  clear hh hb2 k2 x1 x2
  go_wp2_with fail
  refine HS.out.mono ?_
  intro e w3 hh
  obtain ⟨n3, K, a3, c3, rfl, e3, hb3⟩ := SgPost.open hh
  have K3 : Hid (Below W.heap.size W w3) := Lib.hid ((K2.out.alloc K2.out.size _).trans (hb3.mono (by have := K2.out.size; simp; omega)))
  have hv : sv n3 K = an * bd - bn * ad := by
    have q1 := e1.out.1
    have q2 := e2.out.1
    have q3 := e3.out.1
    rw [q3, q1]
    have : sv (!n2) B = - sv n2 B := by unfold sv; cases n2 <;> simp
    rw [this, q2]
    omega
  have hz := can_zero e3.out.2.1 e3.out.2.2.1
  have hp := (vl_bd e3.out.2.1).1
  have HV : Hid (nsgn (an * bd - bn * ad) = if K.length = 0 then 0 else if n3 = true then -1 else 1) := Lib.hid (by
    rw [← hv]
    unfold nsgn sv
    by_cases hk : K = []
    · have := hz.2 hk
      subst hk
      cases n3 <;> simp [vl]
    · have hk2 : K.length ≠ 0 := fun h => hk (List.length_eq_zero_iff.1 h)
      have : vl K ≠ 0 := fun h => hk (hz.1 h)
      rw [if_neg hk2]
      cases n3 <;> simp <;> (repeat' split) <;> omega)
  clear hh hb3 hv hz hp y1 y2 e1 e2
  by_cases hk : K.length = 0
  · have HVa := Lib.hid (HV.out.trans (if_pos hk))
    generalize K.length = l at *
    subst hk
    go_wp2
    go_ret
    exact ⟨by rw [HVa.out]; rfl, K3.out.alloc K3.out.size _⟩
  · have HVa := Lib.hid (HV.out.trans (if_neg hk))
    have hk' : ((K.length : Int) == 0) = false := by simpa using hk
    cases n3
    all_goals
      have HVb := Lib.hid (HVa.out.trans (by first | exact if_pos rfl | exact if_neg (by simp)))
      clear hk HVa
      go_wp2
      go_ret
      exact ⟨by rw [HVb.out]; rfl, K3.out.alloc K3.out.size _⟩
end Go.Proofs.Ytieabeodommbiaa
