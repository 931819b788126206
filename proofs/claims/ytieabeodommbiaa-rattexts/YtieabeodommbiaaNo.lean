/- Numbers as lists of bits: sums with signs, whatever the signs. -/
import Derived.Test.YtieabeodommbiaaNi
import Derived.Test.YtieabeodommbiaaNj
namespace Go.Proofs.Ytieabeodommbiaa
open Go.RowKit
set_option maxRecDepth 100000
set_option linter.unusedVariables false

/-- a list without zeros at its end that says less is not longer -/
theorem len_le {A B : List Int} (hA : Bits A) (hB : Bits B) (hC : Can B) (h : vl B ≤ vl A) : B.length ≤ A.length := by
  rcases snoc_cases B with rfl | ⟨k, b, rfl⟩
  · simp
  · have h1 := can_app.1 hC
    have h2 := (vl_bd (l := k) fun y hy => hB y (by simp [hy])).1
    have h3 := (vl_bd hA).2
    rw [vl_app, h1] at h
    rw [List.length_append, List.length_singleton]
    rcases Nat.lt_or_ge A.length (k.length + 1) with hl | hl
    · have := p2_le (show A.length ≤ k.length by omega)
      omega
    · exact hl
theorem minus_any {A B : List Int} {va vb : Value} {W : World} (hA : Bits A) (hB : Bits B) (hC : Can B) (ha : A.length ≤ 1000) (hle : vl B ≤ vl A) (na : Num A W va) (nb : Num B W vb) (w : World) (hw : Below W.heap.size W w) :
    Calls Try.prog 69 #[va, vb] w (CPost (vl A - vl B) A.length w) := by
  have na' := na.below hw
  have nb' := nb.below hw
  obtain ⟨aa, ca, rfl⟩ := na.shape
  obtain ⟨ab, cb, rfl⟩ := nb.shape
  exact nminus_c hA hB ha (len_le hA hB hC hle) hle rfl rfl na' nb'
theorem SgPost.le {n : Int} {l l' : Nat} (h : l ≤ l') {w w' : World} {e : Ending} (hp : SgPost n l w e w') : SgPost n l' w e w' := by
  obtain ⟨neg, K, v, h1, h2, h3, h4, h5, h6⟩ := hp
  exact ⟨neg, K, v, h1, h2, h3, h4, by omega, h6⟩
theorem sum_c {n m : Bool} {A B : List Int} {va vb : Value} {W : World} (hA : Bits A) (hB : Bits B) (cA : Can A) (cB : Can B) (ha : A.length ≤ 1000) (hb : B.length ≤ 1000) (na : Num A W va) (nb : Num B W vb) :
    Calls Try.prog 43 #[.agg #[.bool n, va], .agg #[.bool m, vb]] W (SgPost (sv n A + sv m B) (max A.length B.length + 1) W) := by
  obtain ⟨aa, ca, rfl⟩ := na.shape
  obtain ⟨ab, cb, rfl⟩ := nb.shape
  by_cases h : m = n
  · subst h
    exact sum_same m (fun w hw => nplus_any hA hB ha hb na nb w hw)
  · obtain rfl : m = !n := by cases n <;> cases m <;> simp_all
    by_cases hle : vl B ≤ vl A
    · exact (sum_ge n hle (fun w hw => compare_any hA hB ha hb na nb w hw) (fun w hw => minus_any hA hB cB ha hle na nb w hw)).mono fun e w => SgPost.le (by omega)
    · exact (sum_lt n (by omega) (fun w hw => compare_any hA hB ha hb na nb w hw) (fun w hw => minus_any hB hA cA hb (by omega) nb na w hw)).mono fun e w => SgPost.le (by omega)

/-! ### Gcd -/
def gI (a b : Int) : Int := Int.gcd a b
theorem gI_step {a b : Int} (ha : 0 ≤ a) (hb : 0 < b) : gI b (a % b) = gI a b := by
  obtain ⟨m, rfl⟩ := Int.eq_ofNat_of_zero_le ha
  obtain ⟨n, rfl⟩ := Int.eq_ofNat_of_zero_le (show 0 ≤ b by omega)
  show ((Nat.gcd n ((m : Int) % n).natAbs : Nat) : Int) = (Nat.gcd m n : Nat)
  rw [← Int.natCast_emod, Int.natAbs_natCast, Nat.gcd_comm n, ← Nat.gcd_rec, Nat.gcd_comm]
set_option maxHeartbeats 1600000 in
theorem ngcd_c (a b : Int) (a0 : 0 ≤ a) (a1 : a ≤ 9223372036854775807) (b0 : 0 ≤ b) (b1 : b ≤ 9223372036854775807) (W : World) : Calls Try.prog 39 #[.int .i64 a, .int .i64 b] W fun e W' => e = .returned (.int .i64 (gI a b)) ∧ Below W.heap.size W W' := by
  go_enter Try.func39, Try.ntmps39
  go_wp2
  go_loopw [0, 1] (fun x y wr => ∃ p q : Int, x = .int .i64 p ∧ y = .int .i64 q ∧ 0 ≤ p ∧ p ≤ 9223372036854775807 ∧ 0 ≤ q ∧ q ≤ 9223372036854775807 ∧ Hid (gI p q = gI a b) ∧ wr = W) (fun _ y _ => (intOf y).toNat)
  case atStart => exact ⟨a, b, rfl, rfl, a0, a1, b0, b1, rfl, rfl⟩
  case round =>
    obtain ⟨p, q, rfl, rfl, p0, p1, q0, q1, HP, rfl⟩ := hrel
    by_cases hq : 0 < q
    · have hm := Int.emod_nonneg p (show q ≠ 0 by omega)
      have hm2 := Int.emod_lt_of_pos p hq
      have HN := Lib.hid ((gI_step p0 hq).trans HP.out)
      go_wp2
      go_roundw
      case rel => exact ⟨q, p % q, rfl, rfl, q0, q1, hm, by omega, HN, trivial⟩
      case measure => simp [intOf]; omega
    · obtain rfl : q = 0 := by omega
      have hp : gI p 0 = p := by unfold gI; rw [Int.gcd_zero_right]; omega
      have HQ := Lib.hid (hp.symm.trans HP.out)
      clear hp
      go_wp2
      go_ret
      exact ⟨by have := HQ.out; subst this; rfl, Below.refl _ _⟩
end Go.Proofs.Ytieabeodommbiaa

/- Numbers as lists of bits: made. -/
namespace Go.Proofs.Ytieabeodommbiaa
open Go.RowKit
set_option maxRecDepth 100000
set_option linter.unusedVariables false

def mdX (n p q : Bool) (x : Int) : Int := if p && q then (if n then -x else x) else 0
def mdY (p q : Bool) (y : Int) : Int := if p && q then y else 0
def mdE (p q : Bool) : Int := if p && q then 0 else 2
set_option maxHeartbeats 6400000 in
theorem made_w (n p q : Bool) {x y : Int} {la lb ca cb : Nat} {aa ab : Option Addr} {W : World} (x0 : 0 ≤ x) (x1 : x ≤ 4611686018427387904)
    (hA : ∀ w : World, Below W.heap.size W w → Calls Try.prog 71 #[.slice aa la ca] w fun e w' => e = .returned (.tuple #[.int .i64 x, .bool p]) ∧ Below w.heap.size w w')
    (hB : ∀ w : World, Below W.heap.size W w → Calls Try.prog 71 #[.slice ab lb cb] w fun e w' => e = .returned (.tuple #[.int .i64 y, .bool q]) ∧ Below w.heap.size w w') :
    Calls Try.prog 46 #[.agg #[.bool n, .slice aa la ca], .slice ab lb cb] W fun e W' => e = .returned (.agg #[.int .i64 (mdX n p q x), .int .i64 (mdY p q y), .int .i64 (mdE p q)]) ∧ Below W.heap.size W W' := by
  have HA := Lib.hid hA
  have HB := Lib.hid hB
  clear hA hB
  obtain ⟨xv, HX⟩ : ∃ v, Hid (v = mdX n p q x) := ⟨_, rfl⟩
  obtain ⟨yv, HY⟩ : ∃ v, Hid (v = mdY p q y) := ⟨_, rfl⟩
  obtain ⟨ev, HE⟩ : ∃ v, Hid (v = mdE p q) := ⟨_, rfl⟩
  rw [← HX.out, ← HY.out, ← HE.out]
  cases n <;> cases p <;> cases q
  all_goals
    go_enter Try.func46, Try.ntmps46
    go_wp2_with fail
    refine (HA.out _ (((Below.refl _ _).alloc (Nat.le_refl _) _).alloc (by simp) _)).mono ?_
    rintro e w1 ⟨rfl, hb1⟩
    have h1 := hb1.mono (B' := W.heap.size + 2) (by simp)
    have HW : Hid (Below W.heap.size W w1) := Lib.hid ((((Below.refl _ _).alloc (Nat.le_refl _) _).alloc (by simp) _).trans (hb1.mono (by simp; omega)))
    clear hb1
    go_wp2_with fail
    refine (HB.out _ HW.out).mono ?_
    rintro e w2 ⟨rfl, hb2⟩
    have h2 := h1.trans (hb2.mono (by have := h1.size; simp at this; omega))
    have HW2 : Hid (Below W.heap.size W w2) := Lib.hid (HW.out.trans (hb2.mono HW.out.size))
    have b0 := h2.cell (p := ⟨W.heap.size, 0, none⟩) (by simp)
    simp at b0
    have q0 : w2.cell? ⟨W.heap.size + 1, 0, none⟩ = some (.int .i64 0) := by rw [h2.cell (by simp)]; exact World.cell?_alloc_at _ _ _ _ (by simp)
    have q1 : w2.cell? ⟨W.heap.size + 1, 1, none⟩ = some (.int .i64 0) := by rw [h2.cell (by simp)]; exact World.cell?_alloc_at _ _ _ _ (by simp)
    have q2 : w2.cell? ⟨W.heap.size + 1, 2, none⟩ = some (.int .i64 0) := by rw [h2.cell (by simp)]; exact World.cell?_alloc_at _ _ _ _ (by simp)
    have p0 : w2.frozen? ⟨W.heap.size + 1, 0, none⟩ = false := by rw [h2.frozen (by simp)]; exact World.frozen?_alloc_at _ _ _ _ (by simp)
    have p1 : w2.frozen? ⟨W.heap.size + 1, 1, none⟩ = false := by rw [h2.frozen (by simp)]; exact World.frozen?_alloc_at _ _ _ _ (by simp)
    have p2 : w2.frozen? ⟨W.heap.size + 1, 2, none⟩ = false := by rw [h2.frozen (by simp)]; exact World.frozen?_alloc_at _ _ _ _ (by simp)
    clear hb2 h1 h2
    go_wp2
    exact bodyPost_ret (v := .agg #[.int .i64 xv, .int .i64 yv, .int .i64 ev]) (by rw [HX.out, HY.out, HE.out]; simp [results, Try.results46, go_sem, q0, q1, q2, mdX, mdY, mdE]) rfl
      ⟨rfl, ((HW2.out.setCell (by simp) _).setCell (by simp) _).setCell (by simp) _⟩

theorem fits_any {A : List Int} {va : Value} {W : World} (hA : Bits A) (ha : A.length ≤ 1000) (na : Num A W va) (w : World) (hw : Below W.heap.size W w) :
    Calls Try.prog 71 #[va] w fun e w' => e = .returned (.tuple #[.int .i64 (if vl A ≤ 4611686018427387904 then vl A else 0), .bool (decide (vl A ≤ 4611686018427387904))]) ∧ Below w.heap.size w w' := by
  have na' := na.below hw
  obtain ⟨aa, ca, rfl⟩ := na.shape
  exact nfits_c hA ha rfl na'
/-- the fraction of a signed numerator and a denominator: it has an error if one of them is too great -/
theorem made_c' {n : Bool} {A B : List Int} {va vb : Value} {W : World} (hA : Bits A) (hB : Bits B) (ha : A.length ≤ 1000) (hb : B.length ≤ 1000) (na : Num A W va) (nb : Num B W vb) :
    Calls Try.prog 46 #[.agg #[.bool n, va], vb] W fun e W' => (e = .returned (if vl A ≤ 4611686018427387904 ∧ vl B ≤ 4611686018427387904 then .agg #[.int .i64 (sv n A), .int .i64 (vl B), .int .i64 0] else .agg #[.int .i64 0, .int .i64 0, .int .i64 2])) ∧ Below W.heap.size W W' := by
  have h0 := (vl_bd hA).1
  have f1 := fits_any hA ha na
  have f2 := fits_any hB hb nb
  obtain ⟨aa, ca, rfl⟩ := na.shape
  obtain ⟨ab, cb, rfl⟩ := nb.shape
  refine (made_w n (decide (vl A ≤ 4611686018427387904)) (decide (vl B ≤ 4611686018427387904)) (by split <;> omega) (by split <;> omega) f1 f2).mono ?_
  rintro e w ⟨rfl, hb⟩
  refine ⟨?_, hb⟩
  by_cases h1 : vl A ≤ 4611686018427387904 <;> by_cases h2 : vl B ≤ 4611686018427387904 <;> simp [h1, h2, mdX, mdY, mdE, sv]
end Go.Proofs.Ytieabeodommbiaa

/- The reference's comparison of fractions. -/
namespace Go.Proofs.Ytieabeodommbiaa
open Go.RowKit
set_option maxRecDepth 100000
set_option linter.unusedVariables false

theorem SgPost.open {n : Int} {l : Nat} {w w' : World} {e : Ending} (h : SgPost n l w e w') : ∃ neg K a c, e = .returned (.agg #[.bool neg, .slice a (List.length K) c]) ∧ Hid (sv neg K = n ∧ Bits K ∧ Can K ∧ K.length ≤ l ∧ Num K w' (.slice a K.length c)) ∧ Below w.heap.size w w' := by
  obtain ⟨neg, K, v, h1, h2, h3, h4, h5, h6, h7⟩ := h
  obtain ⟨a, c, rfl⟩ := h6.shape
  exact ⟨neg, K, a, c, h1, ⟨h2, h3, h4, h5, h6⟩, h7⟩
def nsgn (x : Int) : Int := if x = 0 then 0 else if x < 0 then -1 else 1
set_option maxHeartbeats 6400000 in
theorem rcmp_c (an ad bn bd : Int) (h1 : -4611686018427387904 ≤ an ∧ an ≤ 4611686018427387904) (h2 : 1 ≤ ad ∧ ad ≤ 4611686018427387904) (h3 : -4611686018427387904 ≤ bn ∧ bn ≤ 4611686018427387904) (h4 : 1 ≤ bd ∧ bd ≤ 4611686018427387904) (W : World) :
    Calls Try.prog 25 #[.agg #[.int .i64 an, .int .i64 ad], .agg #[.int .i64 bn, .int .i64 bd]] W fun e W' => e = .returned (.int .i64 (nsgn (an * bd - bn * ad))) ∧ Below W.heap.size W W' := by
  have P1 := Lib.hid (nproduct_c an bd h1.1 h1.2 (by omega) h4.2)
  have P2 := Lib.hid (nproduct_c bn ad h3.1 h3.2 (by omega) h2.2)
  go_enter Try.func25, Try.ntmps25
  go_wp2_with fail
  refine (P1.out _).mono ?_
  intro e w1 hh
  obtain ⟨n1, A, a1, c1, rfl, e1, hb1⟩ := SgPost.open hh
  have k1 : Below (W.heap.size + 2) ((W.alloc (.cells #[.int .i64 an, .int .i64 ad] 25)).alloc (.cells #[.int .i64 bn, .int .i64 bd] 25)) w1 := hb1.mono (by simp)
  have z1 : W.heap.size + 2 ≤ w1.heap.size := by have := k1.size; simpa using this
  have x1 : (w1.alloc (.cells #[.bool n1, .slice a1 A.length c1] 56)).cell? ⟨W.heap.size, 1, none⟩ = some (.int .i64 ad) := by rw [World.cell?_alloc_past _ _ _ (by first | (show _ < _; omega) | (simp; omega)), k1.cell (by simp)]; rw [World.cell?_alloc_past _ _ _ (by simp)]; exact World.cell?_alloc_at _ _ _ _ rfl
  have x2 : (w1.alloc (.cells #[.bool n1, .slice a1 A.length c1] 56)).cell? ⟨W.heap.size + 1, 0, none⟩ = some (.int .i64 bn) := by rw [World.cell?_alloc_past _ _ _ (by first | (show _ < _; omega) | (simp; omega)), k1.cell (by simp)]; exact World.cell?_alloc_at _ _ _ _ (by simp)
  have K1 : Hid (Below W.heap.size W w1) := Lib.hid ((((Below.refl _ _).alloc (Nat.le_refl _) _).alloc (by simp) _).trans (k1.mono (by omega)))
  clear hh hb1 k1
  go_wp2_with fail
  refine (P2.out _).mono ?_
  intro e w2 hh
  obtain ⟨n2, B, a2, c2, rfl, e2, hb2⟩ := SgPost.open hh
  have k2 : Below (w1.heap.size + 1) (w1.alloc (.cells #[.bool n1, .slice a1 A.length c1] 56)) w2 := hb2.mono (by simp)
  have z2 : w1.heap.size + 1 ≤ w2.heap.size := by have := k2.size; simpa using this
  have y1 : (w2.alloc (.cells #[.bool n2, .slice a2 B.length c2] 56)).cell? ⟨w1.heap.size, 0, none⟩ = some (.bool n1) := by rw [World.cell?_alloc_past _ _ _ (by first | (show _ < _; omega) | (simp; omega)), k2.cell (by simp)]; exact World.cell?_alloc_at _ _ _ _ rfl
  have y2 : (w2.alloc (.cells #[.bool n2, .slice a2 B.length c2] 56)).cell? ⟨w1.heap.size, 1, none⟩ = some (.slice a1 A.length c1) := by rw [World.cell?_alloc_past _ _ _ (by first | (show _ < _; omega) | (simp; omega)), k2.cell (by simp)]; exact World.cell?_alloc_at _ _ _ _ rfl
  have NA : Hid (Num A (w2.alloc (.cells #[.bool n2, .slice a2 B.length c2] 56)) (.slice a1 A.length c1)) := Lib.hid (((e1.out.2.2.2.2.below ((Below.refl _ _).alloc (Nat.le_refl _) _)).below hb2).below ((Below.refl _ _).alloc (Nat.le_refl _) _))
  have NB : Hid (Num B (w2.alloc (.cells #[.bool n2, .slice a2 B.length c2] 56)) (.slice a2 B.length c2)) := Lib.hid (e2.out.2.2.2.2.below ((Below.refl _ _).alloc (Nat.le_refl _) _))
  have K2 : Hid (Below W.heap.size W w2) := Lib.hid ((K1.out.alloc K1.out.size _).trans (hb2.mono (by have := K1.out.size; simp; omega)))
  have HS := Lib.hid (sum_c (n := n1) (m := !n2) e1.out.2.1 e2.out.2.1 e1.out.2.2.1 e2.out.2.2.1 (by have := e1.out.2.2.2.1; omega) (by have := e2.out.2.2.2.1; omega) NA.out NB.out)
  clear hh hb2 k2 x1 x2
  go_wp2_with fail
  refine HS.out.mono ?_
  intro e w3 hh
  obtain ⟨n3, K, a3, c3, rfl, e3, hb3⟩ := SgPost.open hh
  have K3 : Hid (Below W.heap.size W w3) := Lib.hid ((K2.out.alloc K2.out.size _).trans (hb3.mono (by have := K2.out.size; simp; omega)))
  have hv : sv n3 K = an * bd - bn * ad := by
    have q1 := e1.out.1
    have q2 := e2.out.1
    have q3 := e3.out.1
    rw [q3, q1]
    have : sv (!n2) B = - sv n2 B := by unfold sv; cases n2 <;> simp
    rw [this, q2]
    omega
  have hz := can_zero e3.out.2.1 e3.out.2.2.1
  have hp := (vl_bd e3.out.2.1).1
  have HV : Hid (nsgn (an * bd - bn * ad) = if K.length = 0 then 0 else if n3 = true then -1 else 1) := Lib.hid (by
    rw [← hv]
    unfold nsgn sv
    by_cases hk : K = []
    · have := hz.2 hk
      subst hk
      cases n3 <;> simp [vl]
    · have hk2 : K.length ≠ 0 := fun h => hk (List.length_eq_zero_iff.1 h)
      have : vl K ≠ 0 := fun h => hk (hz.1 h)
      rw [if_neg hk2]
      cases n3 <;> simp <;> (repeat' split) <;> omega)
  clear hh hb3 hv hz hp y1 y2 e1 e2
  by_cases hk : K.length = 0
  · have HVa := Lib.hid (HV.out.trans (if_pos hk))
    generalize K.length = l at *
    subst hk
    go_wp2
    go_ret
    exact ⟨by rw [HVa.out]; rfl, K3.out.alloc K3.out.size _⟩
  · have HVa := Lib.hid (HV.out.trans (if_neg hk))
    have hk' : ((K.length : Int) == 0) = false := by simpa using hk
    cases n3
    all_goals
      have HVb := Lib.hid (HVa.out.trans (by first | exact if_pos rfl | exact if_neg (by simp)))
      clear hk HVa
      go_wp2
      go_ret
      exact ⟨by rw [HVb.out]; rfl, K3.out.alloc K3.out.size _⟩
end Go.Proofs.Ytieabeodommbiaa

/- The reference's product of fractions. -/
namespace Go.Proofs.Ytieabeodommbiaa
open Go.RowKit
set_option maxRecDepth 100000
set_option linter.unusedVariables false

/-- the two arguments lie in their boxes -/
abbrev Boxes (W : World) (x0 x1 y0 y1 : Value) (w : World) : Prop := Below W.heap.size W w ∧ W.heap.size + 3 ≤ w.heap.size ∧ w.cell? ⟨W.heap.size, 0, none⟩ = some x0 ∧ w.cell? ⟨W.heap.size, 1, none⟩ = some x1 ∧ w.cell? ⟨W.heap.size + 1, 0, none⟩ = some y0 ∧ w.cell? ⟨W.heap.size + 1, 1, none⟩ = some y1
theorem keepB {W w w' : World} {x0 x1 y0 y1 : Value} (h : Boxes W x0 x1 y0 y1 w) (hb : Below w.heap.size w w') : Boxes W x0 x1 y0 y1 w' := by
  obtain ⟨h1, h2, h3, h4, h5, h6⟩ := h
  have hs := hb.size
  refine ⟨h1.trans (hb.mono (by omega)), by omega, ?_⟩
  rw [hb.cell (p := ⟨W.heap.size, 0, none⟩) (by simp; omega), hb.cell (p := ⟨W.heap.size, 1, none⟩) (by simp; omega), hb.cell (p := ⟨W.heap.size + 1, 0, none⟩) (by simp; omega), hb.cell (p := ⟨W.heap.size + 1, 1, none⟩) (by simp; omega)]
  exact ⟨h3, h4, h5, h6⟩
theorem setB {W w : World} {x0 x1 y0 y1 : Value} (h : Boxes W x0 x1 y0 y1 w) (k : Nat) (v : Value) : Boxes W x0 x1 y0 y1 (w.setCell ⟨W.heap.size + 1 + 1, k, none⟩ v) := by
  obtain ⟨h1, h2, h3, h4, h5, h6⟩ := h
  refine ⟨h1.setCell (by simp; omega) _, by simpa using h2, ?_⟩
  have e : ∀ b k', b ≠ W.heap.size + 1 + 1 → (w.setCell ⟨W.heap.size + 1 + 1, k, none⟩ v).cell? ⟨b, k', none⟩ = w.cell? ⟨b, k', none⟩ := fun b k' hb => World.cell?_of_block (Below.heap_setCell _ _ _ _ (by exact hb))
  rw [e _ _ (by omega), e _ _ (by omega), e _ _ (by omega), e _ _ (by omega)]
  exact ⟨h3, h4, h5, h6⟩
/-- the result's cells as they were made -/
def Res0 (B : Nat) (w : World) : Prop := w.cell? ⟨B + 1 + 1, 0, none⟩ = some (.int .i64 0) ∧ w.cell? ⟨B + 1 + 1, 1, none⟩ = some (.int .i64 0) ∧ w.cell? ⟨B + 1 + 1, 2, none⟩ = some (.int .i64 0) ∧ w.frozen? ⟨B + 1 + 1, 0, none⟩ = false ∧ w.frozen? ⟨B + 1 + 1, 1, none⟩ = false ∧ w.frozen? ⟨B + 1 + 1, 2, none⟩ = false
theorem Res0.keep {B : Nat} {w w' : World} (h : Res0 B w) (hb : Below w.heap.size w w') (hB : B + 3 ≤ w.heap.size) : Res0 B w' := by
  obtain ⟨h1, h2, h3, h4, h5, h6⟩ := h
  refine ⟨?_, ?_, ?_, ?_, ?_, ?_⟩
  · rw [hb.cell (by simp; omega)]; exact h1
  · rw [hb.cell (by simp; omega)]; exact h2
  · rw [hb.cell (by simp; omega)]; exact h3
  · rw [hb.frozen (by simp; omega)]; exact h4
  · rw [hb.frozen (by simp; omega)]; exact h5
  · rw [hb.frozen (by simp; omega)]; exact h6
/-- the world in which the two arguments and the result have their boxes -/
abbrev W3 (W : World) (x0 x1 y0 y1 : Value) : World := ((W.alloc (.cells #[x0, x1] 25)).alloc (.cells #[y0, y1] 25)).alloc (.cells #[.int .i64 0, .int .i64 0, .int .i64 0] 28)
theorem boxes0 (W : World) (x0 x1 y0 y1 : Value) : Boxes W x0 x1 y0 y1 (W3 W x0 x1 y0 y1) := by
  refine ⟨(((Below.refl _ _).alloc (Nat.le_refl _) _).alloc (by simp) _).alloc (by simp; omega) _, by simp, ?_, ?_, ?_, ?_⟩
  · rw [World.cell?_alloc_past _ _ _ (by simp; omega), World.cell?_alloc_past _ _ _ (by simp)]; exact World.cell?_alloc_at _ _ _ _ rfl
  · rw [World.cell?_alloc_past _ _ _ (by simp; omega), World.cell?_alloc_past _ _ _ (by simp)]; exact World.cell?_alloc_at _ _ _ _ rfl
  · rw [World.cell?_alloc_past _ _ _ (by simp)]; exact World.cell?_alloc_at _ _ _ _ (by simp)
  · rw [World.cell?_alloc_past _ _ _ (by simp)]; exact World.cell?_alloc_at _ _ _ _ (by simp)
theorem res0 (W : World) (x0 x1 y0 y1 : Value) : Res0 W.heap.size (W3 W x0 x1 y0 y1) := by
  refine ⟨?_, ?_, ?_, ?_, ?_, ?_⟩
  · exact World.cell?_alloc_at _ _ _ _ (by simp)
  · exact World.cell?_alloc_at _ _ _ _ (by simp)
  · exact World.cell?_alloc_at _ _ _ _ (by simp)
  all_goals exact World.frozen?_alloc_at _ _ _ _ (by simp)

theorem gI_pos {a b : Int} (ha : 0 ≤ a) (hb : 1 ≤ b) : 1 ≤ gI a b ∧ gI a b ≤ b := by
  unfold gI
  have h : 0 < Int.gcd a b := Int.gcd_pos_of_ne_zero_right _ (by omega)
  have h2 : (Int.gcd a b : Int) ∣ b := Int.gcd_dvd_right ..
  have h3 := Int.le_of_dvd (by omega) h2
  omega

/-- a numerator and a denominator fit -/
def fitI (n d : Int) : Prop := n.natAbs ≤ 4611686018427387904 ∧ d ≤ 4611686018427387904
instance (n d : Int) : Decidable (fitI n d) := inferInstanceAs (Decidable (_ ∧ _))
def rsN (n d : Int) : Int := if fitI n d then n else 0
def rsD (n d : Int) : Int := if fitI n d then d else 0
def rsE (n d : Int) : Int := if fitI n d then 0 else 2
abbrev RsPost (n d : Int) (w : World) (e : Ending) (w' : World) : Prop := e = .returned (.agg #[.int .i64 (rsN n d), .int .i64 (rsD n d), .int .i64 (rsE n d)]) ∧ Below w.heap.size w w'
theorem made_r {n : Bool} {A B : List Int} {va vb : Value} {W : World} (hA : Bits A) (hB : Bits B) (ha : A.length ≤ 1000) (hb : B.length ≤ 1000) (na : Num A W va) (nb : Num B W vb) :
    Calls Try.prog 46 #[.agg #[.bool n, va], vb] W (RsPost (sv n A) (vl B) W) := by
  refine (made_c' hA hB ha hb na nb).mono ?_
  rintro e w ⟨h, h2⟩
  refine ⟨h.trans ?_, h2⟩
  have h0 := (vl_bd hA).1
  have e : (vl A ≤ 4611686018427387904 ∧ vl B ≤ 4611686018427387904) ↔ fitI (sv n A) (vl B) := by
    unfold fitI sv
    cases n <;> simp <;> omega
  unfold rsN rsD rsE
  by_cases hc : fitI (sv n A) (vl B)
  · rw [if_pos (e.2 hc), if_pos hc, if_pos hc, if_pos hc]
  · rw [if_neg (fun h => hc (e.1 h)), if_neg hc, if_neg hc, if_neg hc]

theorem le127 : 127 ≤ 1000 := by decide
theorem drewB {W w : World} {x0 x1 y0 y1 : Value} (h : Boxes W x0 x1 y0 y1 w) : Boxes W x0 x1 y0 y1 w.drew := ⟨h.1.drew, by simpa using h.2.1, by simpa using h.2.2⟩
theorem BPost.open {n : Int} {w w' : World} {e : Ending} (h : BPost n w e w') : ∃ K a c, e = .returned (.slice a (List.length K) c) ∧ Hid (vl K = n ∧ Bits K ∧ Can K ∧ K.length ≤ 63 ∧ Num K w' (.slice a K.length c)) ∧ Below w.heap.size w w' := by
  obtain ⟨K, h1, h2, h3, h4, v, h5, h6, h7⟩ := h
  obtain ⟨a, c, rfl⟩ := h6.shape
  exact ⟨K, a, c, h5, ⟨h1, h2, h3, h4, h6⟩, h7⟩
/-- what the product of fractions calls -/
structure MH (an ad bn bd x y g h : Int) : Prop where
  s1 : ∀ w : World, Calls Try.prog 40 #[.int .i64 an] w fun e w' => e = .returned (.int .i64 x) ∧ Below w.heap.size w w'
  g1 : ∀ w : World, Calls Try.prog 39 #[.int .i64 x, .int .i64 bd] w fun e w' => e = .returned (.int .i64 g) ∧ Below w.heap.size w w'
  s2 : ∀ w : World, Calls Try.prog 40 #[.int .i64 bn] w fun e w' => e = .returned (.int .i64 y) ∧ Below w.heap.size w w'
  g2 : ∀ w : World, Calls Try.prog 39 #[.int .i64 y, .int .i64 ad] w fun e w' => e = .returned (.int .i64 h) ∧ Below w.heap.size w w'
  p : ∀ w : World, Calls Try.prog 44 #[.int .i64 (an.tdiv g), .int .i64 (bn.tdiv h)] w (SgPost (an.tdiv g * bn.tdiv h) 127 w)
  b1 : ∀ w : World, Calls Try.prog 48 #[.int .i64 (ad.tdiv h)] w (BPost (ad.tdiv h) w)
  b2 : ∀ w : World, Calls Try.prog 48 #[.int .i64 (bd.tdiv g)] w (BPost (bd.tdiv g) w)
set_option maxHeartbeats 6400000 in
theorem mulin_w {W : World} {an ad bn bd x y g h : Int} (H : MH an ad bn bd x y g h) (hg : 1 ≤ g ∧ g ≤ 4611686018427387904) (hh : 1 ≤ h ∧ h ≤ 4611686018427387904)
   (ha : -4611686018427387904 ≤ an ∧ an ≤ 4611686018427387904) (hb : -4611686018427387904 ≤ bn ∧ bn ≤ 4611686018427387904) (hd : 1 ≤ ad ∧ ad ≤ 4611686018427387904) (he : 1 ≤ bd ∧ bd ≤ 4611686018427387904)
   (ea : (an == 0) = false) (eb : (bn == 0) = false) (w1q : IntKind.i64.wrap (an.tdiv g) = an.tdiv g) (w2q : IntKind.i64.wrap (bn.tdiv h) = bn.tdiv h) (w3q : IntKind.i64.wrap (ad.tdiv h) = ad.tdiv h) (w4q : IntKind.i64.wrap (bd.tdiv g) = bd.tdiv g) (g0 : ¬ g = 0) (h0 : ¬ h = 0) :
   Calls Try.prog 21 #[.agg #[.int .i64 an, .int .i64 ad], .agg #[.int .i64 bn, .int .i64 bd]] W (RsPost (an.tdiv g * bn.tdiv h) (ad.tdiv h * bd.tdiv g) W) := by
  have HH := Lib.hid H
  have W1 := Lib.hid w1q
  have W2 := Lib.hid w2q
  have W3 := Lib.hid w3q
  have W4 := Lib.hid w4q
  clear H w1q w2q w3q w4q
  go_enter Try.func21, Try.ntmps21
  go_wp2_with fail
  have hb0 : Boxes W (.int .i64 an) (.int .i64 ad) (.int .i64 bn) (.int .i64 bd) (((W.alloc (.cells #[.int .i64 an, .int .i64 ad] 25)).alloc (.cells #[.int .i64 bn, .int .i64 bd] 25)).alloc (.cells #[.int .i64 0, .int .i64 0, .int .i64 0] 28)) := boxes0 W (.int .i64 an) (.int .i64 ad) (.int .i64 bn) (.int .i64 bd)
  have HR : Hid (Res0 W.heap.size (((W.alloc (.cells #[.int .i64 an, .int .i64 ad] 25)).alloc (.cells #[.int .i64 bn, .int .i64 bd] 25)).alloc (.cells #[.int .i64 0, .int .i64 0, .int .i64 0] 28))) := Lib.hid (res0 W (.int .i64 an) (.int .i64 ad) (.int .i64 bn) (.int .i64 bd))
  have hB0 : Below (((W.alloc (.cells #[.int .i64 an, .int .i64 ad] 25)).alloc (.cells #[.int .i64 bn, .int .i64 bd] 25)).alloc (.cells #[.int .i64 0, .int .i64 0, .int .i64 0] 28)).heap.size (((W.alloc (.cells #[.int .i64 an, .int .i64 ad] 25)).alloc (.cells #[.int .i64 bn, .int .i64 bd] 25)).alloc (.cells #[.int .i64 0, .int .i64 0, .int .i64 0] 28)) (((W.alloc (.cells #[.int .i64 an, .int .i64 ad] 25)).alloc (.cells #[.int .i64 bn, .int .i64 bd] 25)).alloc (.cells #[.int .i64 0, .int .i64 0, .int .i64 0] 28)) := Below.refl _ _
  generalize (((W.alloc (.cells #[.int .i64 an, .int .i64 ad] 25)).alloc (.cells #[.int .i64 bn, .int .i64 bd] 25)).alloc (.cells #[.int .i64 0, .int .i64 0, .int .i64 0] 28)) = w1 at *
  have hz1 : W.heap.size + 3 ≤ w1.heap.size := hb0.2.1
  have hS0 := drewB hb0
  have hB1 : Below w1.heap.size w1 w1.drew := hB0.drew
  clear hb0 hB0
  go_region_held3 (fun w' => Boxes W (.int .i64 an) (.int .i64 ad) (.int .i64 bn) (.int .i64 bd) w') (first | (with_reducible exact hS0) | (refine keepB ?_ hb3; assumption))
      (first | (go_at_call 40; with_reducible refine (HH.out.s1 _).mono ?_; rintro e v ⟨rfl, hb3⟩; have hB2 := (by assumption : Below w1.heap.size w1 _).trans (hb3.mono (by assumption : Below w1.heap.size w1 _).size)) | (go_at_call 39; with_reducible refine (HH.out.g1 _).mono ?_; rintro e v ⟨rfl, hb3⟩; have hB2 := (by assumption : Below w1.heap.size w1 _).trans (hb3.mono (by assumption : Below w1.heap.size w1 _).size)))
  clear hS0 hB1 hb3
  rename_i hHeld
  have hS0 := drewB hHeld
  have hB1 := hB2.drew
  clear hHeld hB2
  clear hb3 hB2
  go_wp2_with fail
  go_region_held3 (fun w' => Boxes W (.int .i64 an) (.int .i64 ad) (.int .i64 bn) (.int .i64 bd) w') (first | (with_reducible exact hS0) | (refine keepB ?_ hb3; assumption))
      (first | (go_at_call 40; with_reducible refine (HH.out.s2 _).mono ?_; rintro e v ⟨rfl, hb3⟩; have hB2 := (by assumption : Below w1.heap.size w1 _).trans (hb3.mono (by assumption : Below w1.heap.size w1 _).size)) | (go_at_call 39; with_reducible refine (HH.out.g2 _).mono ?_; rintro e v ⟨rfl, hb3⟩; have hB2 := (by assumption : Below w1.heap.size w1 _).trans (hb3.mono (by assumption : Below w1.heap.size w1 _).size)))
  clear hS0 hB1 hb3
  rename_i hHeld
  obtain ⟨h1, h2, c1, c2, c3, c4⟩ := hHeld
  have hS0 : Boxes W (.int .i64 an) (.int .i64 ad) (.int .i64 bn) (.int .i64 bd) v.drew := drewB ⟨h1, h2, c1, c2, c3, c4⟩
  have hB1 := hB2.drew
  clear hB2 h1 h2
  go_wp2_with fail
  clear c1 c2 c3 c4
  have w1q := W1.out
  have w2q := W2.out
  have w3q := W3.out
  have w4q := W4.out
  go_region_held3 (fun w' => Boxes W (.int .i64 an) (.int .i64 ad) (.int .i64 bn) (.int .i64 bd) w') (first | (with_reducible exact hS0) | (refine keepB ?_ hbM; assumption) | (refine keepB ?_ hbT; assumption) | (refine keepB ?_ hbE; assumption) | (refine keepB ?_ hbD; assumption) | (refine keepB ?_ hbP; assumption) | (refine setB (setB (setB ?_ _ _) _ _) _ _; assumption))
      (first | (go_at_call 44; with_reducible refine (HH.out.p _).mono ?_; intro e v hh; obtain ⟨neg, K, ka, kc, rfl, EK, hbP⟩ := SgPost.open hh; have hBP := hB1.trans (hbP.mono hB1.size); clear hh) | (go_at_call 48; with_reducible refine (HH.out.b1 _).mono ?_; intro e v hh; obtain ⟨D, da, dc, rfl, ED, hbD⟩ := BPost.open hh; have hBD := hBP.trans (hbD.mono hBP.size); clear hh) | (go_at_call 48; with_reducible refine (HH.out.b2 _).mono ?_; intro e v hh; obtain ⟨E, ea, ec, rfl, EE, hbE⟩ := BPost.open hh; have hBE := hBD.trans (hbE.mono hBD.size); clear hh) | (go_at_call 47; with_reducible refine (times_any ED.out.2.1 EE.out.2.1 ED.out.2.2.2.1 EE.out.2.2.2.1 (ED.out.2.2.2.2.below hbE) EE.out.2.2.2.2).mono ?_; intro e v hh; obtain ⟨T, ta, tc, rfl, ET, hbT⟩ := CPost.open hh; have hBT := hBE.trans (hbT.mono hBE.size); clear hh) | (go_at_call 46; have hX := made_r (n := neg) EK.out.2.1 ET.out.2.1 (Nat.le_trans EK.out.2.2.2.1 le127) (Nat.le_trans ET.out.2.2.2.1 le127) (((EK.out.2.2.2.2.below hbD).below hbE).below hbT) ET.out.2.2.2.2; rw [EK.out.1, ET.out.1, ED.out.1, EE.out.1] at hX; refine hX.mono ?_; intro e v hh; have he := hh.1; have hbM := hh.2; clear hh hX; subst he; have hBM := hBT.trans (hbM.mono hBT.size); have r0 := (HR.out.keep hBM hz1).1; have r1 := (HR.out.keep hBM hz1).2.1; have r2 := (HR.out.keep hBM hz1).2.2.1; have r3 := (HR.out.keep hBM hz1).2.2.2.1; have r4 := (HR.out.keep hBM hz1).2.2.2.2.1; have r5 := (HR.out.keep hBM hz1).2.2.2.2.2))
  rename_i hHeld
  have HF := Lib.hid hHeld.1
  clear hHeld
  go_wp2
  exact bodyPost_ret (v := .agg #[.int .i64 (rsN (an.tdiv g * bn.tdiv h) (ad.tdiv h * bd.tdiv g)), .int .i64 (rsD (an.tdiv g * bn.tdiv h) (ad.tdiv h * bd.tdiv g)), .int .i64 (rsE (an.tdiv g * bn.tdiv h) (ad.tdiv h * bd.tdiv g))]) (by simp [results, Try.results21, go_sem, r0, r1, r2]) rfl ⟨rfl, HF.out⟩
end Go.Proofs.Ytieabeodommbiaa
