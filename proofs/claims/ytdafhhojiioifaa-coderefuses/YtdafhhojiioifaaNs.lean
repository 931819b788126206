/- The reference's zero, Prime, parts. -/
import Derived.Test.YtdafhhojiioifaaNn0
namespace Go.Proofs.Ytdafhhojiioifaa
open Go.RowKit Go.Fl
set_option maxRecDepth 100000
set_option linter.unusedVariables false
set_option linter.unusedSimpArgs false
set_option linter.unusedSectionVars false
theorem rzero_c {L : List Nat} {a : Option Addr} {c : Nat} {W : World} (hl : L.length ≤ 100000) (h : NN L W (.slice a L.length c)) :
  Calls Try.prog 105 #[.slice a L.length c] W fun e w' => e = .returned (.bool (zV L)) ∧ Below W.heap.size W w' := by
 have HN := Lib.hid h
 clear h
 go_enter Try.func105, Try.ntmps105
 go_wp2
 go_loopw [3] (fun i wr => ∃ k : Nat, k ≤ L.length ∧ i = .int .i64 k ∧ Hid (∀ j, j < k → L.getD j 0 = 0) ∧ Hid (Below W.heap.size W wr)) (fun i _ => L.length - (intOf i).toNat)
 case atStart => exact ⟨0, Nat.zero_le _, rfl, Lib.hid (fun j hj => by omega), Below.refl _ _⟩
 case round =>
  obtain ⟨k, hk, rfl, KZ, KB⟩ := hrel
  by_cases hlt : k < L.length
  ·obtain ⟨x, hx⟩ : ∃ x, L.getD k 0 = x := ⟨_, rfl⟩
   obtain ⟨b1, o1, rfl, hc⟩ := (HN.out.below KB.out).at hlt
   rw [hx] at hc
   have hk5 : k < 100000 := by omega
   have HX := Lib.hid hx
   clear hx
   by_cases h0 : x = 0
   ·subst h0
    go_wp2
    go_roundw
    case rel => exact ⟨k + 1, by omega, by go_num, Lib.hid (fun j hj => by
     by_cases e : j = k
     ·rw [e]; exact HX.out
     ·exact KZ.out j (by omega)), KB⟩
    case measure => simp [intOf]; omega
   ·have HR : Hid (zV L = false) := Lib.hid (zV_no hlt (by rw [HX.out]; exact h0))
    have hx0 : ((x : Int) != 0) = true := by simpa using h0
    have HBF := Lib.hid KB.out
    go_wp2
    go_ret
    exact ⟨by rw [HR.out]; rfl, HBF.out⟩
  ·have HR : Hid (zV L = true) := Lib.hid (zV_yes fun j hj => KZ.out j (by omega))
   have hlt1 : ¬ (k : Int) < (L.length : Int) := by omega
   have HBF := Lib.hid KB.out
   go_wp2
   go_ret
   exact ⟨by rw [HR.out]; rfl, HBF.out⟩
/-- no divisor from d on -/
def prN (n : Nat) : Nat → Nat → Bool
 | 0, _ => true
 | k + 1, d => bif Nat.ble (Nat.mul d d) n then (bif Nat.beq (Nat.mod n d) 0 then false else prN n k (Nat.succ d)) else true
def isP (n : Nat) : Bool := prN n 20 2
set_option maxHeartbeats 3200000 in
theorem prime_c {n : Nat} (h2 : 2 ≤ n) (h6 : n ≤ 64) {W : World} : Calls Try.prog 103 #[.int .i64 (n : Nat)] W fun e w' => e = .returned (.bool (isP n)) ∧ w' = W := by
 obtain ⟨B, hB⟩ : ∃ B, isP n = B := ⟨_, rfl⟩
 rw [hB]
 have HB : Hid (prN n 20 2 = B) := Lib.hid hB
 have h2i : ¬ (n : Int) < 2 := by omega
 clear hB
 go_enter Try.func103, Try.ntmps103
 go_wp2
 go_loopw [3] (fun i wr => ∃ d k : Nat, 2 ≤ d ∧ d ≤ 9 ∧ d + k = 22 ∧ i = .int .i64 (d : Nat) ∧ Hid (prN n k d = B) ∧ wr = W) (fun i _ => 30 - (intOf i).toNat)
 case atStart => exact ⟨2, 20, by decide, by decide, rfl, rfl, HB, rfl⟩
 case round =>
  obtain ⟨d, k, hd2, hd9, hdk, rfl, HP, rfl⟩ := hrel
  obtain ⟨k', rfl⟩ : ∃ j, k = j + 1 := ⟨k - 1, by omega⟩
  obtain ⟨s, hs⟩ : ∃ s, d * d = s := ⟨_, rfl⟩
  have hsi : (d : Int) * (d : Int) = (s : Int) := by rw [← hs]; exact (Int.natCast_mul _ _).symm
  have hs81 : s ≤ 81 := by rw [← hs]; exact Nat.mul_le_mul hd9 hd9
  by_cases hle : s ≤ n
  ·have hlei : (s : Int) ≤ (n : Int) := by omega
   have hd8 : d ≤ 8 := by
    rcases Nat.lt_or_ge 8 d with h | h
    ·have : 9 * 9 ≤ d * d := Nat.mul_le_mul h h
     omega
    ·exact h
   obtain ⟨r, hr⟩ : ∃ r, n % d = r := ⟨_, rfl⟩
   have hri : (n : Int) % (d : Int) = (r : Int) := by rw [← hr]; exact (Int.natCast_emod _ _).symm
   have hrt : (n : Int).tmod (d : Int) = (r : Int) := by rw [Int.tmod_eq_emod_of_nonneg (by omega)]; exact hri
   have hdz : ((d : Int) == 0) = false := by simp; omega
   have hdz2 : ¬ d = 0 := by omega
   have hrd : r < d := by rw [← hr]; exact Nat.mod_lt _ (by omega)
   have HP2 : Hid ((bif Nat.beq r 0 then false else prN n k' (d + 1)) = B) := Lib.hid (by
    rw [← HP.out]
    show _ = bif Nat.ble (d * d) n then (bif Nat.beq (n % d) 0 then false else prN n k' (d + 1)) else true
    rw [hs, hr, Nat.ble_eq_true_of_le hle]; rfl)
   have hws := w64 (n := s) (by omega)
   have hwr := w64 (n := r) (by omega)
   clear hs hr
   by_cases h0 : r = 0
   ·subst h0
    have HR : Hid (B = false) := Lib.hid HP2.out.symm
    go_wp2
    go_ret
    exact ⟨by rw [HR.out]; rfl, by first | trivial | rfl⟩
   ·have h0i : ((r : Int) == 0) = false := by simpa using h0
    have HP3 : Hid (prN n k' (d + 1) = B) := Lib.hid (by
     rw [← HP2.out]
     cases hb : Nat.beq r 0 with
     | true => exact (h0 (Nat.eq_of_beq_eq_true hb)).elim
     | false => rfl)
    go_wp2
    go_roundw
    case rel => exact ⟨d + 1, k', by omega, by omega, by omega, by go_num, HP3, trivial⟩
    case measure => (try simp [intOf]); (try omega)
  ·have hlei : ¬ (s : Int) ≤ (n : Int) := by omega
   have HR : Hid (B = true) := Lib.hid (by
    rw [← HP.out]
    show (bif Nat.ble (d * d) n then _ else true) = true
    rw [hs]
    cases hb : Nat.ble s n with
    | true => exact (hle (Nat.le_of_ble_eq_true hb)).elim
    | false => rfl)
   have hws := w64 (n := s) (by omega)
   clear hs
   go_wp2
   go_ret
   exact ⟨by rw [HR.out]; rfl, by first | trivial | rfl⟩
/-- powers of p up to q: the last one and its exponent -/
def upF (q p : Nat) : Nat → Nat → Nat → Nat × Nat
 | 0, n, e => (n, e)
 | k + 1, n, e => bif Nat.blt n q then upF q p k (Nat.mul n p) (Nat.succ e) else (n, e)
def ptF (q : Nat) : Nat → Nat → Nat × Nat
 | 0, _ => (0, 0)
 | k + 1, p => bif Nat.ble p q then (bif isP p then (bif Nat.beq (upF q p 10 p 1).1 q then (p, (upF q p 10 p 1).2) else ptF q k (Nat.succ p)) else ptF q k (Nat.succ p)) else (0, 0)
end Go.Proofs.Ytdafhhojiioifaa

/- The reference's parts of a prime power. -/
namespace Go.Proofs.Ytdafhhojiioifaa
open Go.RowKit Go.Fl
set_option maxRecDepth 100000
set_option linter.unusedVariables false
set_option linter.unusedSimpArgs false
set_option linter.unusedSectionVars false
abbrev A2 (U : Nat × Nat) : Value := .agg #[.int .i64 (U.1 : Nat), .int .i64 (U.2 : Nat)]
set_option maxHeartbeats 6400000 in
theorem parts_c {q : Nat} (hq2 : 2 ≤ q) (hq6 : q ≤ 64) {W : World} : Calls Try.prog 89 #[.int .i64 (q : Nat)] W fun e w' => e = .returned (A2 (ptF q 70 2)) ∧ Below W.heap.size W w' := by
 obtain ⟨U, hU⟩ : ∃ U, ptF q 70 2 = U := ⟨_, rfl⟩
 rw [hU]
 have HU := Lib.hid hU
 obtain ⟨W0, hW0⟩ : ∃ W0, W.alloc (.cells #[.int .i64 0, .int .i64 0] 102) = W0 := ⟨_, rfl⟩
 have c0 : W0.cell? ⟨W.heap.size, 0, none⟩ = some (.int .i64 0) := by rw [← hW0]; exact World.cell?_alloc_at _ _ _ _ rfl
 have c1 : W0.cell? ⟨W.heap.size, 1, none⟩ = some (.int .i64 0) := by rw [← hW0]; exact World.cell?_alloc_at _ _ _ _ rfl
 have u0 : W0.frozen? ⟨W.heap.size, 0, none⟩ = false := by rw [← hW0]; exact World.frozen?_alloc_at _ _ _ _ rfl
 have u1 : W0.frozen? ⟨W.heap.size, 1, none⟩ = false := by rw [← hW0]; exact World.frozen?_alloc_at _ _ _ _ rfl
 have HB0 : Hid (Below W.heap.size W W0) := Lib.hid (by rw [← hW0]; exact (Below.refl _ _).alloc (Nat.le_refl _) _)
 have q2 : ¬ (q : Int) < 2 := by omega
 have q6 : ¬ (64 : Int) < (q : Int) := by omega
 have HEND : Hid (∀ (a b : Nat), U = (a, b) → ∀ w2, w2 = (W0.setCell ⟨W.heap.size, 0, none⟩ (.int .i64 (a : Nat))).setCell ⟨W.heap.size, 1, none⟩ (.int .i64 (b : Nat)) → w2.cell? ⟨W.heap.size, 0, none⟩ = some (.int .i64 (U.1 : Nat)) ∧ w2.cell? ⟨W.heap.size, 1, none⟩ = some (.int .i64 (U.2 : Nat)) ∧ Below W.heap.size W w2) := Lib.hid (by
  intro a b e w2 hw
  rw [e, hw]
  have k0 : (W0.setCell ⟨W.heap.size, 0, none⟩ (.int .i64 (a : Nat))).cell? ⟨W.heap.size, 0, none⟩ = some (.int .i64 (a : Nat)) := World.cell?_setCell_same _ _ _ c0
  have k1 : (W0.setCell ⟨W.heap.size, 0, none⟩ (.int .i64 (a : Nat))).cell? ⟨W.heap.size, 1, none⟩ = some (.int .i64 0) := (World.cell?_setCell_other _ _ _ _ (by simp)).trans c1
  exact ⟨(World.cell?_setCell_other _ _ _ _ (by simp)).trans k0, World.cell?_setCell_same _ _ _ k1, setCell_above (setCell_above HB0.out (Nat.le_refl _)) (Nat.le_refl _)⟩)
 clear hU
 go_enter Try.func89, Try.ntmps89
 go_wp2
 clear hW0
 go_loopw [3] (fun i wr => ∃ p k : Nat, 2 ≤ p ∧ p ≤ q + 1 ∧ p + k = 72 ∧ i = .int .i64 (p : Nat) ∧ Hid (ptF q k p = U) ∧ wr = W0) (fun i _ => 72 - (intOf i).toNat)
 case atStart => exact ⟨2, 70, by decide, by omega, rfl, rfl, HU, rfl⟩
 case round =>
  obtain ⟨p, k, hp2, hpq, hpk, rfl, HP, hwr⟩ := hrel
  subst hwr
  obtain ⟨k', rfl⟩ : ∃ j, k = j + 1 := ⟨k - 1, by omega⟩
  by_cases hle : p ≤ q
  ·have hlei : (p : Int) ≤ (q : Int) := by omega
   have hp6 : p ≤ 64 := by omega
   obtain ⟨B, hB⟩ : ∃ B, isP p = B := ⟨_, rfl⟩
   have HP2 : Hid ((bif B then (bif Nat.beq (upF q p 10 p 1).1 q then (p, (upF q p 10 p 1).2) else ptF q k' (p + 1)) else ptF q k' (p + 1)) = U) := Lib.hid (by
    rw [← HP.out]
    show _ = bif Nat.ble p q then (bif isP p then (bif Nat.beq (upF q p 10 p 1).1 q then (p, (upF q p 10 p 1).2) else ptF q k' (p + 1)) else ptF q k' (p + 1)) else (0, 0)
    rw [hB, Nat.ble_eq_true_of_le hle]; rfl)
   have HPR : Hid (Calls Try.prog 103 #[.int .i64 (p : Nat)] wr fun e w' => e = .returned (.bool B) ∧ w' = wr) := Lib.hid (by rw [← hB]; exact prime_c hp2 hp6)
   clear hB
   cases B with
   | false =>
    have HP3 : Hid (ptF q k' (p + 1) = U) := Lib.hid HP2.out
    go_wp2_with fail
    refine HPR.out.mono ?_
    rintro z w1 ⟨rfl, rfl⟩
    go_wp2
    go_roundw
    case rel => exact ⟨p + 1, k', by omega, by omega, by omega, by go_num, HP3, trivial⟩
    case measure => (try simp [intOf]); (try omega)
   | true =>
    obtain ⟨V, hV⟩ : ∃ V, upF q p 10 p 1 = V := ⟨_, rfl⟩
    have HV := Lib.hid hV
    have HP3 : Hid ((bif Nat.beq V.1 q then (p, V.2) else ptF q k' (p + 1)) = U) := Lib.hid (by rw [← HP2.out, ← hV]; rfl)
    clear hV
    go_wp2_with fail
    refine HPR.out.mono ?_
    rintro z w1 ⟨rfl, rfl⟩
    go_wp2
    obtain ⟨wo, hwo⟩ : ∃ w, w = w1 := ⟨_, rfl⟩
    go_loopw [4, 5] (fun x y wi => ∃ n e j : Nat, n ≤ 4096 ∧ e + j = 11 ∧ x = .int .i64 (n : Nat) ∧ y = .int .i64 (e : Nat) ∧ Hid (upF q p j n e = V) ∧ Hid (2 ^ e ≤ n) ∧ wi = w1) (fun _ y _ => 20 - (intOf y).toNat)
    case atStart => exact ⟨p, 1, 10, by omega, rfl, rfl, rfl, HV, Lib.hid (by omega), rfl⟩
    case round =>
     obtain ⟨n, e, j, hn, hej, rfl, rfl, HUP, HPW, hwi⟩ := hrel
     subst hwi
     have he12 : e ≤ 11 := by omega
     by_cases hnq : n < q
     ·have hnqi : (n : Int) < (q : Int) := by omega
      have he6 : e < 6 := by
       rcases Nat.lt_or_ge e 6 with h | h
       ·exact h
       ·have h1 := Nat.pow_le_pow_right (n := 2) (by decide) h
        have h2 := HPW.out
        have h3 : 2 ^ 6 = 64 := rfl
        omega
      obtain ⟨j', rfl⟩ : ∃ i, j = i + 1 := ⟨j - 1, by omega⟩
      obtain ⟨m, hm⟩ : ∃ m, n * p = m := ⟨_, rfl⟩
      have hmi : (n : Int) * (p : Int) = (m : Int) := by rw [← hm]; exact (Int.natCast_mul _ _).symm
      have hm4 : m ≤ 64 * 64 := by rw [← hm]; exact Nat.mul_le_mul (by omega) hp6
      have HU2 : Hid (upF q p j' m (e + 1) = V) := Lib.hid (by
       rw [← HUP.out]
       show _ = bif Nat.blt n q then upF q p j' (n * p) (e + 1) else (n, e)
       rw [blt_t hnq, hm]; rfl)
      have HPW2 : Hid (2 ^ (e + 1) ≤ m) := Lib.hid (by rw [Nat.pow_succ, ← hm]; exact Nat.mul_le_mul HPW.out hp2)
      have hwm := w64 (n := m) (Nat.lt_of_le_of_lt hm4 (by decide))
      clear hm
      go_wp2
      go_roundw
      case rel => exact ⟨m, e + 1, j', hm4, by omega, rfl, by go_num, HU2, HPW2, trivial⟩
      case measure => (try simp [intOf]); (try omega)
     ·have hnqi : ¬ (n : Int) < (q : Int) := by omega
      have HVE : Hid (V = (n, e)) := Lib.hid (by
       rw [← HUP.out]
       cases j with
       | zero => rfl
       | succ j =>
        show (bif Nat.blt n q then _ else (n, e)) = _
        rw [blt_f (by omega)]; rfl)
      by_cases he : n = q
      ·subst he
       have HE : Hid (U = (p, e)) := Lib.hid (by rw [← HP3.out, HVE.out]; simp only [Nat.beq_refl]; rfl)
       go_wp2
       obtain ⟨d0, d1, hb2⟩ := HEND.out p e HE.out _ rfl
       exact bodyPost_ret (v := A2 U) (by simp [results, Try.results89, go_sem, d0, d1]) rfl ⟨rfl, hb2⟩
      ·have hei : ((n : Int) == (q : Int)) = false := by simp; omega
       have HP4 : Hid (ptF q k' (p + 1) = U) := Lib.hid (by
        rw [← HP3.out, HVE.out]
        cases hb : Nat.beq n q with
        | true => exact (he (Nat.eq_of_beq_eq_true hb)).elim
        | false => rfl)
       go_wp2
       go_roundw
       case rel => exact ⟨p + 1, k', by omega, by omega, by omega, by go_num, HP4, trivial⟩
       case measure => (try simp [intOf]); (try omega)
  ·have hlei : ¬ (p : Int) ≤ (q : Int) := by omega
   have HE : Hid (U = (0, 0)) := Lib.hid (by
    rw [← HP.out]
    show (bif Nat.ble p q then _ else (0, 0)) = _
    cases hb : Nat.ble p q with
    | true => exact (hle (Nat.le_of_ble_eq_true hb)).elim
    | false => rfl)
   go_wp2
   obtain ⟨d0, d1, hb2⟩ := HEND.out 0 0 HE.out _ rfl
   have e0 : (.int .i64 ((0 : Nat) : Int) : Value) = .int .i64 0 := rfl
   rw [e0] at d0 d1 hb2
   exact bodyPost_ret (v := A2 U) (by simp [results, Try.results89, go_sem, d0, d1]) rfl ⟨rfl, hb2⟩
end Go.Proofs.Ytdafhhojiioifaa

/- The reference's irreducible polynomials, Make. -/
namespace Go.Proofs.Ytdafhhojiioifaa
open Go.RowKit Go.Fl
set_option maxRecDepth 100000
set_option linter.unusedVariables false
set_option linter.unusedSimpArgs false
set_option linter.unusedSectionVars false
/-- no divisor of degree d from the number n on -/
def irN (p d : Nat) (m : List Nat) : Nat → Nat → Bool
 | 0, _ => true
 | k + 1, n => bif zV (restL p m (dgL p d n ++ [1])) then false else irN p d m k (Nat.succ n)
def irD (p : Nat) (m : List Nat) : Nat → Nat → Bool
 | 0, _ => true
 | j + 1, d => bif Nat.ble (Nat.mul 2 d) (Nat.sub m.length 1) then (bif irN p d m (p ^ d) 0 then irD p m j (Nat.succ d) else false) else true
def irr (p : Nat) (m : List Nat) : Bool := irD p m 6 1
set_option maxHeartbeats 6400000 in
theorem irr_c {p : Nat} {m : List Nat} {am : Option Addr} {cm : Nat} (hp2 : 2 ≤ p) (hp6 : p ≤ 64) (hpd : ∀ d, 2 * d ≤ m.length - 1 → p ^ d ≤ 100000) (hm2 : 2 ≤ m.length) (hm7 : m.length ≤ 7) (hm : ∀ x ∈ m, x < p) {W : World} (nm : NN m W (.slice am m.length cm)) :
  Calls Try.prog 90 #[.int .i64 (p : Nat), .slice am m.length cm] W fun e w' => e = .returned (.bool (irr p m)) ∧ Below W.heap.size W w' := by
 obtain ⟨i0, hi, hz0, hz1, hz2⟩ := info_parts info3
 obtain ⟨B, hB⟩ : ∃ B, irr p m = B := ⟨_, rfl⟩
 rw [hB]
 have HB : Hid (irD p m 6 1 = B) := Lib.hid hB
 have hp0 : 0 < p := by omega
 have HM := Lib.hid hm
 have HN := Lib.hid nm
 obtain ⟨n, hn⟩ : ∃ n, m.length = n := ⟨_, rfl⟩
 have HNL := Lib.hid hn
 rw [hn] at hm2 hm7 ⊢
 have hpow : Hid (∀ d, 2 * d ≤ n - 1 → p ^ d ≤ 100000) := Lib.hid (by rw [← HNL.out]; exact hpd)
 clear hB hm nm hn hpd
 go_enter Try.func90, Try.ntmps90
 go_wp2
 go_loopw [5] (fun i wr => ∃ d k : Nat, 1 ≤ d ∧ d ≤ 4 ∧ d + k = 7 ∧ i = .int .i64 (d : Nat) ∧ Hid (irD p m k d = B) ∧ Hid (Below W.heap.size W wr)) (fun i _ => 20 - (intOf i).toNat)
 case atStart => exact ⟨1, 6, by decide, by decide, rfl, rfl, HB, Lib.hid (Below.refl _ _)⟩
 case round =>
  obtain ⟨d, k, hd1, hd4, hdk, rfl, HI, KB⟩ := hrel
  obtain ⟨k', rfl⟩ : ∃ j, k = j + 1 := ⟨k - 1, by omega⟩
  by_cases hle : 2 * d ≤ n - 1
  ·have hlei : 2 * (d : Int) ≤ (n : Int) - 1 := by omega
   have hd3 : d ≤ 3 := by omega
   obtain ⟨q, hq⟩ : ∃ q, p ^ d = q := ⟨_, rfl⟩
   have hqb : q ≤ 100000 := by rw [← hq]; exact hpow.out d hle
   have HI2 : Hid ((bif irN p d m q 0 then irD p m k' (d + 1) else false) = B) := Lib.hid (by
    rw [← HI.out]
    show _ = bif Nat.ble (2 * d) (m.length - 1) then (bif irN p d m (p ^ d) 0 then irD p m k' (d + 1) else false) else true
    rw [HNL.out, hq, Nat.ble_eq_true_of_le hle]; rfl)
   have HQ := Lib.hid hq
   have HPW : Hid (∀ w, Calls Try.prog 104 #[.int .i64 (p : Nat), .int .i64 (d : Nat)] w fun e w' => e = .returned (.int .i64 (q : Nat)) ∧ w' = w) := Lib.hid fun w => rpower_c hq hp6 hp0 (by omega) (by omega)
   clear hq
   obtain ⟨C, hC⟩ : ∃ C, irN p d m q 0 = C := ⟨_, rfl⟩
   rw [hC] at HI2
   have HC := Lib.hid hC
   clear hC
   go_wp2
   go_loopw [6] (fun i wi => ∃ t j : Nat, t + j = q ∧ i = .int .i64 (t : Nat) ∧ Hid (irN p d m j t = C) ∧ Hid (Below W.heap.size W wi)) (fun i _ => q - (intOf i).toNat)
   case atStart => exact ⟨0, q, by omega, rfl, HC, KB⟩
   case round =>
    obtain ⟨t, j, htj, rfl, HT, JB⟩ := hrel
    by_cases hlt : t < q
    ·have hlti : (t : Int) < (q : Int) := by omega
     obtain ⟨j', rfl⟩ : ∃ i, j = i + 1 := ⟨j - 1, by omega⟩
     obtain ⟨D, hD⟩ : ∃ D, dgL p d t = D := ⟨_, rfl⟩
     have HDL : Hid (D.length = d) := Lib.hid (by rw [← hD]; exact dgL_len _ _ _)
     have HDP : Hid (∀ x ∈ D, x < p) := Lib.hid (by rw [← hD]; exact dgL_lt hp0 _ _)
     have HDG : Hid (Calls Try.prog 84 #[.int .i64 (p : Nat), .int .i64 (d : Nat), .int .i64 (t : Nat)] wr (DPost D wr)) := Lib.hid (by rw [← hD]; exact rdigits_c hp0 hp6 (by omega) (by omega))
     obtain ⟨R, hR⟩ : ∃ R, restL p m (D ++ [1]) = R := ⟨_, rfl⟩
     obtain ⟨Z, hZ⟩ : ∃ Z, zV R = Z := ⟨_, rfl⟩
     have HT2 : Hid ((bif Z then false else irN p d m j' (t + 1)) = C) := Lib.hid (by rw [← HT.out, ← hZ, ← hR, ← hD]; rfl)
     have HRR := Lib.hid hR
     have HZZ := Lib.hid hZ
     have HLE : Hid (d ≤ m.length) := Lib.hid (by rw [HNL.out]; omega)
     have HRL : Hid (R.length = d) := Lib.hid (by rw [← hR, restL_len (by rw [List.length_append, HDL.out]; exact HLE.out), List.length_append, HDL.out]; rfl)
     clear hD hR hZ
     go_wp2_with fail
     refine (HPW.out _).mono ?_
     rintro z w1 ⟨rfl, rfl⟩
     go_wp2_with fail
     refine HDG.out.mono ?_
     rintro z w2 ⟨a2, c2, rfl, ho2, hb2⟩
     rw [HDL.out] at ho2 ⊢
     have HB2 := Lib.hid (JB.out.trans (hb2.mono JB.out.size))
     have HO2 := Lib.hid ho2
     have HSZ := Lib.hid hb2.size
     clear ho2 hb2
     go_wp2_with (at_builtin; refine wpList_append_own _ rfl _ _ 39 rfl w1.heap.size 3 i0 (.int .i64 0) 1 8 Try.underlying39 hi hz0 hz1 hz2 rfl (by decide) _ _ _ rfl (HO2.out.alloc _) ⟨w2.heap.size, 0, none⟩ 1 1 [.int .i64 1] rfl rfl (cell_one_new _ _ _) (fun u hu => by simp at hu; subst hu; rfl) ?c3 ?c4 ?c5 ?_)
     case c3 => unfold maxLen; omega
     case c4 => omega
     case c5 => have := HSZ.out; simp; omega
     intro v' w3 hown' hgrow hnil
     have HO3 : Hid (w3.ownsRow w1.heap.size 3 1 v' (d + 1) ((D ++ [1]).map N64)) := Lib.hid (by rw [List.map_append]; exact hown')
     have HB3 : Hid (Below W.heap.size W w3) := Lib.hid ((HB2.out.alloc HB2.out.size _).trans ((below_own hgrow (fun j hj => (HO2.out.lt j hj).1) (by have := HSZ.out; simp; omega)).mono JB.out.size))
     obtain ⟨a3, c3, hv3⟩ := own_slice HO3.out
     subst hv3
     have HREST : Hid (Calls Try.prog 91 #[.int .i64 (p : Nat), .slice am n cm, .slice a3 (d + 1) c3] w3 (VP R w3)) := Lib.hid (by
      have hl1 : (D ++ [1]).length = d + 1 := by rw [List.length_append, HDL.out]; rfl
      have h := rest_c (l := m) (m := D ++ [1]) (al := am) (cl := cm) (am := a3) (cm := c3) hp0 hp6 (by rw [HNL.out]; omega) (by rw [HNL.out]; omega) (by rw [hl1]; omega) (by rw [hl1]; exact HLE.out) HM.out (fun x hx => by
       rcases List.mem_append.1 hx with h | h
       ·exact Nat.le_of_lt (HDP.out x h)
       ·rw [List.mem_singleton] at h; omega) (HN.out.below (HB3.out)) (by rw [hl1]; exact NN.of_owns (by rw [hl1]; exact HO3.out))
      rw [hl1, HNL.out, HRR.out] at h
      exact h)
     clear hown' hgrow hnil
     go_wp2_with fail
     refine HREST.out.mono ?_
     rintro z w4 ⟨a4, c4, rfl, hn4, hb4⟩
     rw [HRL.out] at hn4 ⊢
     have HB4 := Lib.hid (HB3.out.trans (hb4.mono HB3.out.size))
     have HZC : Hid (Calls Try.prog 105 #[.slice a4 d c4] w4 fun e w' => e = .returned (.bool Z) ∧ Below w4.heap.size w4 w') := Lib.hid (by
      have h := rzero_c (L := R) (a := a4) (c := c4) (by rw [HRL.out]; omega) (by rw [HRL.out]; exact hn4)
      rw [HRL.out, HZZ.out] at h
      exact h)
     clear hn4 hb4
     go_wp2_with fail
     refine HZC.out.mono ?_
     rintro z w5 ⟨rfl, hb5⟩
     have HB5 := Lib.hid (HB4.out.trans (hb5.mono HB4.out.size))
     clear hb5
     cases Z with
     | true =>
      have HE : Hid (B = false) := Lib.hid (by rw [← HI2.out, ← HT2.out]; rfl)
      go_wp2
      go_ret
      exact ⟨by rw [HE.out]; rfl, HB5.out⟩
     | false =>
      have HT3 : Hid (irN p d m j' (t + 1) = C) := Lib.hid HT2.out
      have htq : t < 1000000 := by omega
      go_wp2
      go_roundw
      case rel => exact ⟨t + 1, j', by omega, by go_num, HT3, HB5⟩
      case measure => (try simp [intOf]); (try omega)
    ·have hlti : ¬ (t : Int) < (q : Int) := by omega
     obtain rfl : t = q := by omega
     obtain rfl : j = 0 := by omega
     have HE : Hid (irD p m k' (d + 1) = B) := Lib.hid (by rw [← HI2.out, ← HT.out]; rfl)
     go_wp2_with fail
     refine (HPW.out _).mono ?_
     rintro z w1 ⟨rfl, rfl⟩
     go_wp2
     go_roundw
     case rel => exact ⟨d + 1, k', by omega, by omega, by omega, by go_num, HE, JB⟩
     case measure => (try simp [intOf]); (try omega)
  ·have hlei : ¬ 2 * (d : Int) ≤ (n : Int) - 1 := by omega
   have HE : Hid (B = true) := Lib.hid (by
    rw [← HI.out]
    show (bif Nat.ble (2 * d) (m.length - 1) then _ else true) = true
    rw [HNL.out]
    cases hb : Nat.ble (2 * d) (n - 1) with
    | true => exact (hle (Nat.le_of_ble_eq_true hb)).elim
    | false => rfl)
   go_wp2
   go_ret
   exact ⟨by rw [HE.out]; rfl, KB.out⟩
end Go.Proofs.Ytdafhhojiioifaa

/- The reference's Make. -/
namespace Go.Proofs.Ytdafhhojiioifaa
open Go.RowKit Go.Fl
set_option maxRecDepth 100000
set_option linter.unusedVariables false
set_option linter.unusedSimpArgs false
set_option linter.unusedSectionVars false
/-- the first irreducible polynomial from the number n on -/
def mkN (p e : Nat) : Nat → Nat → Option (List Nat)
 | 0, _ => none
 | k + 1, n => bif irr p (dgL p e n ++ [1]) then some (dgL p e n) else mkN p e k (Nat.succ n)
/-- what is asked of a field that Make makes -/
structure MkOk (F : Gf) : Prop where
 pt : ptF F.q 70 2 = (F.p, F.e)
 md : mkN F.p F.e F.q 0 = some F.mod
 pw : ∀ d, 2 * d ≤ F.e → F.p ^ d ≤ 100000
abbrev SMN (p e g : Nat) (W w : World) : Prop := w.cell? ⟨g, 0, none⟩ = some (.int .i64 (p : Nat)) ∧ w.cell? ⟨g, 1, none⟩ = some (.int .i64 (e : Nat)) ∧ Hid (Below W.heap.size W w ∧ g < w.heap.size)
theorem SMN.keep {p e g : Nat} {W w w' : World} (h : SMN p e g W w) (hb : Below w.heap.size w w') : SMN p e g W w' :=
 ⟨(hb.cell (p := ⟨g, 0, none⟩) h.2.2.out.2).trans h.1, (hb.cell (p := ⟨g, 1, none⟩) h.2.2.out.2).trans h.2.1, Lib.hid ⟨h.2.2.out.1.trans (hb.mono h.2.2.out.1.size), Nat.lt_of_lt_of_le h.2.2.out.2 hb.size⟩⟩
theorem SMN.grown {p e g base : Nat} {W w w' : World} (h : SMN p e g W w) {row : Option Nat} (hg : w.grownBy w' row) (hr : ∀ k, row = some k → base ≤ k) (hb : base ≤ w.heap.size) (h1 : g < base) (h2 : W.heap.size ≤ base) : SMN p e g W w' := by
 have hl := below_own hg hr hb
 exact ⟨(hl.cell (p := ⟨g, 0, none⟩) h1).trans h.1, (hl.cell (p := ⟨g, 1, none⟩) h1).trans h.2.1, Lib.hid ⟨h.2.2.out.1.trans (hl.mono h2), Nat.lt_of_lt_of_le h.2.2.out.2 hl.size⟩⟩
/-- a zero field in a box that may be written -/
structure Z3 (g : Nat) (w : World) : Prop where
 c0 : w.cell? ⟨g, 0, none⟩ = some (.int .i64 0)
 c1 : w.cell? ⟨g, 1, none⟩ = some (.int .i64 0)
 c2 : w.cell? ⟨g, 2, none⟩ = some (.slice none 0 0)
 fz : ∀ i, w.frozen? ⟨g, i, none⟩ = false
theorem Z3.of {g : Nat} {w w' : World} (h : Z3 g w) (hb : w'.heap[g]? = w.heap[g]?) : Z3 g w' :=
 ⟨(World.cell?_of_block (w := w) hb).trans h.c0, (World.cell?_of_block (w := w) hb).trans h.c1, (World.cell?_of_block (w := w) hb).trans h.c2, fun i => (World.frozen?_of_block (w := w) hb).trans (h.fz i)⟩
theorem z3_new {g : Nat} (w : World) (hg : w.heap.size = g) : Z3 g (w.alloc (.cells #[.int .i64 0, .int .i64 0, .slice none 0 0] 53)) := by
 subst hg
 exact ⟨World.cell?_alloc_at _ _ _ _ rfl, World.cell?_alloc_at _ _ _ _ rfl, World.cell?_alloc_at _ _ _ _ rfl, fun i => World.frozen?_alloc_at _ _ _ _ rfl⟩
/-- a field that was made -/
def FPost (F : Gf) (W : World) (e : Ending) (w' : World) : Prop := ∃ b cap, e = .returned (.tuple #[FV F b cap, .int .i64 0]) ∧ FldAt F b cap w' ∧ Below W.heap.size W w' ∧ W.heap.size ≤ b
theorem FldAt.of_row {F : Gf} {g c : Nat} {w : World} (hF : F ∈ fds) (h : RC F.mod g c w) : F.e ≤ c ∧ FldAt F g c w := by
 have hl := mod_len F hF
 rcases h.2 with ⟨h, _⟩ | ⟨g', cap, cur, h1, _, h3, h4, h5, h6, h7⟩
 ·cases h
 ·injection h1 with a1 a2 a3
  injection a1 with a1
  injection a1 with a1
  subst a1 a3
  rw [hl] at h4 h7
  exact ⟨h4, hF, h4, cur, 3, (0, 0), h3, by rw [h6, Nat.mul_one], by rw [Nat.mul_one] at h7; exact h7⟩
set_option maxHeartbeats 12800000 in
theorem rmake_c {F : Gf} (hF : F ∈ fds) (hm : MkOk F) {W : World} : Calls Try.prog 71 #[.int .i64 (F.q : Nat)] W (FPost F W) := by
 obtain ⟨h1, hp6, h3, h4, h5, h6, h7⟩ := fd_small F hF
 obtain ⟨i0, hi, hz0, hz1, hz2⟩ := info_parts info3
 have hp0 : 0 < F.p := by omega
 have hq2 : 2 ≤ F.q := by
  rw [← h5]
  exact Nat.le_trans h1 (Nat.le_self_pow (by omega) _)
 have HPT := Lib.hid (parts_c (W := W.alloc (.cells #[.int .i64 0, .int .i64 0, .slice none 0 0] 53)) hq2 h6)
 rw [hm.pt] at HPT
 have HMK := Lib.hid hm.md
 have HPW := Lib.hid hm.pw
 have HMF : Hid (F ∈ fds) := Lib.hid hF
 have HMLN : Hid (F.mod.length = F.e) := Lib.hid (mod_len F hF)
 obtain ⟨p, hp⟩ : ∃ p, F.p = p := ⟨_, rfl⟩
 obtain ⟨e, he⟩ : ∃ e, F.e = e := ⟨_, rfl⟩
 obtain ⟨q, hq⟩ : ∃ q, F.q = q := ⟨_, rfl⟩
 obtain ⟨M, hM⟩ : ∃ M, F.mod = M := ⟨_, rfl⟩
 have HFE : Hid (∀ b cap, FV F b cap = .agg #[.int .i64 (p : Nat), .int .i64 (e : Nat), .slice (some ⟨b, 0, none⟩) e cap]) := Lib.hid fun b cap => by rw [← hp, ← he]
 have HME := Lib.hid hM
 rw [hp] at h1 hp6 hp0 HMK HPW HPT
 rw [he] at h3 h4 HMK HPW HPT HMLN
 rw [hq] at h6 hq2 HMK ⊢
 rw [hM] at HMK HMLN
 obtain ⟨W0, hW0⟩ : ∃ W0, W.alloc (.cells #[.int .i64 0, .int .i64 0, .slice none 0 0] 53) = W0 := ⟨_, rfl⟩
 rw [hW0] at HPT
 rw [hq] at HPT
 have HZ0 : Hid (Z3 W.heap.size W0) := Lib.hid (by rw [← hW0]; exact z3_new W rfl)
 have HB0 : Hid (Below W.heap.size W W0) := Lib.hid (by rw [← hW0]; exact (Below.refl _ _).alloc (Nat.le_refl _) _)
 have HS0 : Hid (W0.heap.size = W.heap.size + 1) := Lib.hid (by rw [← hW0]; simp)
 have hpz : ((p : Int) == 0) = false := by simp; omega
 clear hF hm h5 h7 hp he hq hM
 go_enter Try.func71, Try.ntmps71
 go_wp2_with fail
 clear hW0
 refine HPT.out.mono ?_
 rintro z w1 ⟨rfl, hb1⟩
 obtain ⟨g4, hg4⟩ : ∃ g, w1.heap.size = g := ⟨_, rfl⟩
 obtain ⟨w2, hw2⟩ : ∃ w, w1.alloc (.cells #[.int .i64 (p : Nat), .int .i64 (e : Nat)] 102) = w := ⟨_, rfl⟩
 have hal : Below w1.heap.size w1 w2 := by rw [← hw2]; exact (Below.refl _ _).alloc (Nat.le_refl _) _
 have hsm : SMN p e g4 W w2 := ⟨by rw [← hw2, ← hg4]; exact World.cell?_alloc_at _ _ _ _ rfl, by rw [← hw2, ← hg4]; exact World.cell?_alloc_at _ _ _ _ rfl, Lib.hid ⟨(HB0.out.trans (hb1.mono HB0.out.size)).trans (hal.mono (Nat.le_trans HB0.out.size hb1.size)), by rw [← hw2, ← hg4]; simp⟩⟩
 have HSM := Lib.hid hsm
 have HGG : Hid (W.heap.size < g4) := Lib.hid (by rw [← hg4]; have := hb1.size; have := HS0.out; omega)
 have HZ2 : Hid (Z3 W.heap.size w2) := Lib.hid (HZ0.out.of ((hal.block _ (by rw [hg4]; exact HGG.out)).trans (hb1.block _ (by rw [HS0.out]; omega))))
 have HCT : Hid (mkN p e q 0 = some M) := HMK
 obtain ⟨k0, k1, -⟩ := hsm
 clear hb1 hal
 go_wp2
 clear hw2 hg4 k0 k1
 go_loopw [5] (fun i wr => ∃ n k : Nat, n + k = q ∧ i = .int .i64 (n : Nat) ∧ Hid (mkN p e k n = some M) ∧ Hid (SMN p e g4 W wr) ∧ Hid (Z3 W.heap.size wr)) (fun i _ => q - (intOf i).toNat)
 case atStart => exact ⟨0, q, by omega, rfl, HMK, HSM, HZ2⟩
 case round =>
  obtain ⟨n, k, hnk, rfl, HK, KS, KZ⟩ := hrel
  obtain ⟨k0, k1, -⟩ := KS.out
  cases k with
  | zero => exact absurd HK.out (by simp [mkN])
  | succ k' =>
   have hnq : n < q := by omega
   have hnqi : (n : Int) < (q : Int) := by omega
   obtain ⟨D, hD⟩ : ∃ D, dgL p e n = D := ⟨_, rfl⟩
   have HDL : Hid (D.length = e) := Lib.hid (by rw [← hD]; exact dgL_len _ _ _)
   have HDP : Hid (∀ x ∈ D, x < p) := Lib.hid (by rw [← hD]; exact dgL_lt hp0 _ _)
   have HDG : Hid (Calls Try.prog 84 #[.int .i64 (p : Nat), .int .i64 (e : Nat), .int .i64 (n : Nat)] wr (DPost D wr)) := Lib.hid (by rw [← hD]; exact rdigits_c hp0 hp6 (by omega) (by omega))
   obtain ⟨B, hB⟩ : ∃ B, irr p (D ++ [1]) = B := ⟨_, rfl⟩
   have HK2 : Hid ((bif B then some D else mkN p e k' (n + 1)) = some M) := Lib.hid (by rw [← HK.out, ← hB, ← hD]; rfl)
   have HBB := Lib.hid hB
   clear hD hB
   go_wp2_with fail
   refine HDG.out.mono ?_
   rintro z w3 ⟨a3, c3, rfl, ho3, hb3⟩
   rw [HDL.out] at ho3 ⊢
   obtain ⟨g6, c6, hg, hgb, hR6⟩ := RC.of_own ho3 HDL.out (by omega)
   injection hg with hg1 _ hg3
   subst hg1 hg3
   have HS3 := Lib.hid (SMN.keep KS.out hb3)
   have HZ3 : Hid (Z3 W.heap.size w3) := Lib.hid (KZ.out.of (hb3.block _ (World.block_lt_of_cell? _ _ KZ.out.c0)))
   have hS0 : SMN p e g4 W w3.drew := ⟨HS3.out.1, HS3.out.2.1, Lib.hid ⟨HS3.out.2.2.out.1.drew, HS3.out.2.2.out.2⟩⟩
   have HKP0 : Hid (RC D g6 c3 w3.drew) := Lib.hid hR6
   obtain ⟨base, hbs⟩ : ∃ g, g = w3.heap.size := ⟨_, rfl⟩
   have HBS : Hid (W.heap.size < base ∧ g4 < base ∧ g6 < base) := Lib.hid ⟨by rw [hbs]; exact World.block_lt_of_cell? _ _ HZ3.out.c0, by rw [hbs]; exact HS3.out.2.2.out.2, by rw [hbs]; exact hR6.lt⟩
   have HSZ0 : Hid (base ≤ w3.drew.heap.size) := Lib.hid (by rw [hbs]; exact Nat.le_refl _)
   have HW3 : Hid (∀ w', Below base w3.drew w' → Z3 W.heap.size w') := Lib.hid fun w' hb => HZ3.out.of (hb.block _ HBS.out.1)
   have HBL0 : Hid (Below base w3.drew w3.drew) := Lib.hid (Below.refl _ _)
   have HG6 : Hid (W.heap.size ≤ g6 ∧ wr.heap.size ≤ g6 ∧ W.heap.size < wr.heap.size) := Lib.hid ⟨Nat.le_trans KS.out.2.2.out.1.size hgb, hgb, World.block_lt_of_cell? _ _ KZ.out.c0⟩
   obtain ⟨wD, hwD⟩ : ∃ w, w = w3.drew := ⟨_, rfl⟩
   rw [← hwD] at HW3
   have HBLw : Hid (Below base wD w3.drew) := Lib.hid (by rw [hwD]; exact Below.refl _ _)
   have HLE : Hid (D.length + 1 ≤ 7 ∧ 1 ≤ D.length) := Lib.hid (by rw [HDL.out]; omega)
   clear ho3 hb3 hgb hR6 hbs hwD k0 k1
   obtain ⟨k0, k1, -⟩ := HS3.out
   go_wp2
   clear k0 k1
   refine wp_region_held_drew (S := fun w' => SMN p e g4 W w') (by kernel_rfl) (by with_reducible exact hS0) (fun hHeld => ?_)
   refine Rg.tk 0 ⟨some 24,.indexAddr 102 (.tmp 4) (.const (Value.int IntKind.i64 0)),0,"ref.go:122",#[],none⟩ ?_
   try simp only [Rg.gp]
   refine Rg.tk 1 ⟨some 25,.load 3 (.tmp 24),3,"ref.go:122",#[⟨0,.data⟩],none⟩ ?_
   try simp only [Rg.gp]
   refine Rg.tk 3 ⟨some 27,.move (.tmp 6),39,"ref.go:122",#[],none⟩ ?_
   try simp only [Rg.gp]
   refine wpAnyH_ready (rs := [2, 5]) (by kernel_rfl) (by simp) ?_
   refine (AllReadyH.cons (o := ⟨some 26,.buildSlice 39 0 #[],39,"ref.go:122",#[],none⟩) rfl (fun K hK => ?_) (AllReadyH.cons (o := ⟨some 29,.buildSlice 39 1 #[(0, .const (Value.int IntKind.i64 1))],39,"ref.go:122",#[],none⟩) rfl (fun K hK => ?_) AllReadyH.nil))
   ·go_simp
    refine hK.out _ _ ?_ (fun hHeld => ?_)
    ·(try dsimp only)
     exact SMN.keep hHeld ((Below.refl _ _).alloc (Nat.le_refl _) _)
    clear hK K
    try simp only [Rg.gp]
    obtain ⟨g5, hg5⟩ : ∃ g, w3.drew.heap.size = g := ⟨_, rfl⟩
    obtain ⟨v5, hv5⟩ : ∃ v, w3.drew.alloc (.cells #[] 3) = v := ⟨_, rfl⟩
    have hE5 : v5.ownsRow base 3 1 (.slice (some ⟨g5, 0, none⟩) 0 0) 0 [] := by rw [← hv5, ← hg5]; exact own_empty _ _ HSZ0.out
    have ha5 : Below w3.drew.heap.size w3.drew v5 := by rw [← hv5]; exact (Below.refl _ _).alloc (Nat.le_refl _) _
    have HE5 := Lib.hid hE5
    have HKP5 := Lib.hid (HKP0.out.below ha5)
    have HBL5 := Lib.hid (HBL0.out.trans (ha5.mono HSZ0.out))
    have HSZ5 : Hid (base ≤ v5.heap.size) := Lib.hid (Nat.le_trans HSZ0.out ha5.size)
    have HG5 : Hid (base ≤ g5 ∧ g5 < v5.heap.size) := Lib.hid ⟨by rw [← hg5]; exact HSZ0.out, by rw [← hg5, ← hv5]; simp⟩
    rw [show (w3.alloc (.cells #[] 3)).drew = v5 from hv5, show w3.heap.size = g5 from hg5]
    first | rw [hv5] at hHeld | rw [show (w3.alloc (.cells #[] 3)).drew = v5 from hv5] at hHeld
    clear hE5 ha5 hv5 hg5
    refine wpAnyH_ready (rs := [4, 5]) (by kernel_rfl) (by simp) ?_
    refine (AllReadyH.cons (o := ⟨some 28,.call ⟨.builtin Builtin.append,#[.tmp 26,.tmp 27],#[39,39]⟩,39,"ref.go:122",#[⟨2,.data⟩,⟨3,.data⟩],none⟩) rfl (fun K hK => ?_) (AllReadyH.cons (o := ⟨some 29,.buildSlice 39 1 #[(0, .const (Value.int IntKind.i64 1))],39,"ref.go:122",#[],none⟩) rfl (fun K hK => ?_) AllReadyH.nil))
    ·refine step_append_own rfl _ _ 39 rfl base 3 i0 (.int .i64 0) 1 8 Try.underlying39 hi hz0 hz1 hz2 rfl (by decide) _ _ _ rfl HE5.out ⟨g6, 0, none⟩ e c3 (D.map N64) rfl (by rw [List.length_map, HDL.out, Nat.mul_one]) (HKP5.out.news) (fun u hu => by obtain ⟨y, _, rfl⟩ := List.mem_map.1 hu; rfl) (by unfold maxLen; omega) (by omega) HSZ5.out ?_
     intro v8 w8 hown8 hgrow8
     refine hK.out _ _ ?_ (fun hHeld => ?_)
     ·(try dsimp only)
      exact SMN.grown hHeld hgrow8 (fun k e => by cases e; exact HG5.out.1) HSZ5.out HBS.out.2.1 (Nat.le_of_lt HBS.out.1)
     clear hK K
     try simp only [Rg.gp]
     have HR8 : Hid (w8.ownsRow base 3 1 v8 e (D.map N64)) := Lib.hid (by first | exact hown8 | (have h := hown8; rwa [Nat.zero_add, List.nil_append] at h))
     have hbl8 : Below base v5 w8 := below_own hgrow8 (fun k e => by cases e; exact HG5.out.1) HSZ5.out
     have HKP8 := Lib.hid (HKP5.out.of (hbl8.block _ HBS.out.2.2))
     have HBL8 := Lib.hid (HBL5.out.trans hbl8)
     have HSZ8 : Hid (base ≤ w8.heap.size) := Lib.hid (Nat.le_trans HSZ5.out hbl8.size)
     clear hown8 hbl8 hgrow8
     refine Rg.rd1 5 ⟨some 29,.buildSlice 39 1 #[(0, .const (Value.int IntKind.i64 1))],39,"ref.go:122",#[],none⟩ fun K hK => ?_
     go_simp
     refine hK.out _ _ ?_ (fun hHeld => ?_)
     ·(try dsimp only)
      exact SMN.keep hHeld ((Below.refl _ _).alloc (Nat.le_refl _) _)
     clear hK K
     try simp only [Rg.gp]
     obtain ⟨g9, hg9⟩ : ∃ g, w8.heap.size = g := ⟨_, rfl⟩
     obtain ⟨v9, hv9⟩ : ∃ v, w8.alloc (.cells #[.int .i64 1] 3) = v := ⟨_, rfl⟩
     have ha9 : Below w8.heap.size w8 v9 := by rw [← hv9]; exact (Below.refl _ _).alloc (Nat.le_refl _) _
     have HO9 : Hid (RC [1] g9 1 v9) := Lib.hid (by rw [← hv9, ← hg9]; exact one_cell _)
     have HKP9 := Lib.hid (HKP8.out.below ha9)
     have HBL9 := Lib.hid (HBL8.out.trans (ha9.mono HSZ8.out))
     have HSZ9 : Hid (base ≤ v9.heap.size) := Lib.hid (Nat.le_trans HSZ8.out ha9.size)
     have HG9 : Hid (base ≤ g9 ∧ g9 < v9.heap.size) := Lib.hid ⟨by rw [← hg9]; exact HSZ8.out, by rw [← hg9, ← hv9]; simp⟩
     have HR9 := Lib.hid (own_belowK HR8.out ha9)
     rw [hv9, hg9]
     rw [hv9] at hHeld
     clear ha9 hv9 hg9
     refine Rg.rd1 6 ⟨some 30,.call ⟨.builtin Builtin.append,#[.tmp 28,.tmp 29],#[39,39]⟩,39,"ref.go:122",#[⟨4,.data⟩,⟨5,.data⟩,⟨4,.chain⟩],none⟩ fun K hK => ?_
     refine step_append_own rfl _ _ 39 rfl base 3 i0 (.int .i64 0) 1 8 Try.underlying39 hi hz0 hz1 hz2 rfl (by decide) _ _ _ rfl HR9.out ⟨g9, 0, none⟩ 1 1 [.int .i64 1] rfl rfl (HO9.out.news) (fun u hu => by simp at hu; subst hu; rfl) (by unfold maxLen; omega) (by omega) HSZ9.out ?_
     intro v10 w10 hown10 hgrow10
     refine hK.out _ _ ?_ (fun hHeld => ?_)
     ·(try dsimp only)
      exact SMN.grown hHeld hgrow10 (fun k e => (HR9.out.lt k e).1) HSZ9.out HBS.out.2.1 (Nat.le_of_lt HBS.out.1)
     clear hK K
     try simp only [Rg.gp]
     have HR10 : Hid (w10.ownsRow base 3 1 v10 (e + 1) ((D ++ [1]).map N64)) := Lib.hid (by rw [List.map_append]; exact hown10)
     have hbl10 : Below base v9 w10 := below_own hgrow10 (fun k e => (HR9.out.lt k e).1) HSZ9.out
     have HKP10 := Lib.hid (HKP9.out.of (hbl10.block _ HBS.out.2.2))
     have HBL10 := Lib.hid (HBL9.out.trans hbl10)
     have HSZ10 : Hid (base ≤ w10.heap.size) := Lib.hid (Nat.le_trans HSZ9.out hbl10.size)
     obtain ⟨a10, c10, hv10⟩ := own_slice HR10.out
     subst hv10
     clear hown10 hbl10 hgrow10
     refine Rg.rd1 7 ⟨some 31,.call ⟨.value (.func 90),#[.tmp 25,.tmp 30],#[3,39]⟩,4,"ref.go:122",#[⟨1,.data⟩,⟨6,.data⟩,⟨6,.chain⟩],none⟩ fun K hK => ?_
     have hl1 : (D ++ [1]).length = e + 1 := by rw [List.length_append, HDL.out]; rfl
     have hirr := irr_c (p := p) (m := D ++ [1]) (am := a10) (cm := c10) h1 hp6 (fun d hd => HPW.out d (by rw [hl1] at hd; omega)) (by rw [hl1]; omega) (by rw [hl1]; omega) (fun x hx => by
      rcases List.mem_append.1 hx with h | h
      ·exact HDP.out x h
      ·rw [List.mem_singleton] at h; omega) (by rw [hl1]; exact NN.of_owns (by rw [hl1]; exact HR10.out))
     rw [hl1, HBB.out] at hirr
     go_simp
     go_at_call 90
     with_reducible refine hirr.mono ?_
     rintro z w11 ⟨rfl, hb11⟩
     refine hK.out _ _ ?_ (fun hHeld => ?_)
     ·(try dsimp only)
      exact SMN.keep hHeld hb11
     clear hK K
     try simp only [Rg.gp]
     have HKP11 := Lib.hid (HKP10.out.below hb11)
     have HZ11 := Lib.hid (HW3.out w11 (HBLw.out.trans (HBL10.out.trans (hb11.mono HSZ10.out))))
     clear hirr hb11 hl1
     refine wpAnyH_done (by kernel_rfl) ?_ _
     have HSF := Lib.hid hHeld
     clear hHeld hS0
     obtain ⟨k0, k1, -⟩ := HSF.out
     cases B with
     | true =>
      have HDM : Hid (D = M) := Lib.hid (by have h := HK2.out; simp only [cond_true] at h; injection h)
      obtain ⟨z0, z1, z2, zf⟩ := HZ11.out
      have u0 := zf 0
      have u1 := zf 1
      have u2 := zf 2
      clear zf
      have HFX : Hid (∀ w', w' = ((w11.setCell ⟨W.heap.size, 0, none⟩ (.int .i64 (p : Nat))).setCell ⟨W.heap.size, 1, none⟩ (.int .i64 (e : Nat))).setCell ⟨W.heap.size, 2, none⟩ (.slice (some ⟨g6, 0, none⟩) e c3) →
        w'.cell? ⟨W.heap.size, 0, none⟩ = some (.int .i64 (p : Nat)) ∧ w'.cell? ⟨W.heap.size, 1, none⟩ = some (.int .i64 (e : Nat)) ∧ w'.cell? ⟨W.heap.size, 2, none⟩ = some (.slice (some ⟨g6, 0, none⟩) e c3) ∧ FldAt F g6 c3 w' ∧ Below W.heap.size W w' ∧ W.heap.size ≤ g6) := Lib.hid (by
       intro w' hw
       have hb := Nat.le_refl W.heap.size
       have hB := setCell_above (i := 2) (v := .slice (some ⟨g6, 0, none⟩) e c3) (setCell_above (i := 1) (v := .int .i64 (e : Nat)) (setCell_above (i := 0) (v := .int .i64 (p : Nat)) HSF.out.2.2.out.1 hb) hb) hb
       rw [← hw] at hB
       have hg6 : W.heap.size < g6 := by have := HG6.out; omega
       have hblk : w'.heap[g6]? = w11.heap[g6]? := by
        rw [hw, Below.heap_setCell _ _ _ _ (by show g6 ≠ W.heap.size; omega), Below.heap_setCell _ _ _ _ (by show g6 ≠ W.heap.size; omega), Below.heap_setCell _ _ _ _ (by show g6 ≠ W.heap.size; omega)]
       have hrow := HKP11.out.of hblk
       rw [HDM.out, ← HME.out] at hrow
       refine ⟨?_, ?_, ?_, (FldAt.of_row HMF.out hrow).2, hB, by omega⟩
       ·rw [hw, World.cell?_setCell_other _ _ _ _ (by simp), World.cell?_setCell_other _ _ _ _ (by simp)]; exact World.cell?_setCell_same _ _ _ z0
       ·rw [hw, World.cell?_setCell_other _ _ _ _ (by simp)]; exact World.cell?_setCell_same _ _ _ ((World.cell?_setCell_other _ _ _ _ (by simp)).trans z1)
       ·rw [hw]; exact World.cell?_setCell_same _ _ _ ((World.cell?_setCell_other _ _ _ _ (by simp)).trans ((World.cell?_setCell_other _ _ _ _ (by simp)).trans z2)))
      go_wp2
      obtain ⟨d0, d1, d2, hfa, hbw, hgw⟩ := HFX.out _ rfl
      exact bodyPost_ret (v := .tuple #[.agg #[.int .i64 (p : Nat), .int .i64 (e : Nat), .slice (some ⟨g6, 0, none⟩) e c3], .int .i64 0]) (by simp [results, Try.results71, go_sem, d0, d1, d2]) rfl ⟨g6, c3, by rw [HFE.out], hfa, hbw, hgw⟩
     | false =>
      have HK3 : Hid (mkN p e k' (n + 1) = some M) := Lib.hid HK2.out
      have hn64 : n < 64 := by omega
      go_wp2
      go_roundw
      case rel => exact ⟨n + 1, k', by omega, by go_num, HK3, HSF, HZ11⟩
      case measure => (try simp [intOf]); (try omega)
    ·go_simp
     refine hK.out _ _ ?_ (fun hHeld => ?_)
     ·(try dsimp only)
      exact SMN.keep hHeld ((Below.refl _ _).alloc (Nat.le_refl _) _)
     clear hK K
     try simp only [Rg.gp]
     obtain ⟨g9, hg9⟩ : ∃ g, v5.heap.size = g := ⟨_, rfl⟩
     obtain ⟨v9, hv9⟩ : ∃ v, v5.alloc (.cells #[.int .i64 1] 3) = v := ⟨_, rfl⟩
     have ha9 : Below v5.heap.size v5 v9 := by rw [← hv9]; exact (Below.refl _ _).alloc (Nat.le_refl _) _
     have HO9 : Hid (RC [1] g9 1 v9) := Lib.hid (by rw [← hv9, ← hg9]; exact one_cell _)
     have HKP9 := Lib.hid (HKP5.out.below ha9)
     have HBL9 := Lib.hid (HBL5.out.trans (ha9.mono HSZ5.out))
     have HSZ9 : Hid (base ≤ v9.heap.size) := Lib.hid (Nat.le_trans HSZ5.out ha9.size)
     have HG9 : Hid (base ≤ g9 ∧ g9 < v9.heap.size) := Lib.hid ⟨by rw [← hg9]; exact HSZ5.out, by rw [← hg9, ← hv9]; simp⟩
     have HE9 := Lib.hid (own_belowK HE5.out ha9)
     have HNE9 : Hid (g9 ≠ g5) := Lib.hid (by have h := HG5.out.2; have h2 : v5.heap.size ≤ v5.heap.size := Nat.le_refl _; rw [← hg9]; omega)
     rw [hv9, hg9]
     rw [hv9] at hHeld
     clear ha9 hv9 hg9
     refine Rg.rd1 4 ⟨some 28,.call ⟨.builtin Builtin.append,#[.tmp 26,.tmp 27],#[39,39]⟩,39,"ref.go:122",#[⟨2,.data⟩,⟨3,.data⟩],none⟩ fun K hK => ?_
     refine step_append_own rfl _ _ 39 rfl base 3 i0 (.int .i64 0) 1 8 Try.underlying39 hi hz0 hz1 hz2 rfl (by decide) _ _ _ rfl HE9.out ⟨g6, 0, none⟩ e c3 (D.map N64) rfl (by rw [List.length_map, HDL.out, Nat.mul_one]) (HKP9.out.news) (fun u hu => by obtain ⟨y, _, rfl⟩ := List.mem_map.1 hu; rfl) (by unfold maxLen; omega) (by omega) HSZ9.out ?_
     intro v8 w8 hown8 hgrow8
     refine hK.out _ _ ?_ (fun hHeld => ?_)
     ·(try dsimp only)
      exact SMN.grown hHeld hgrow8 (fun k e => by cases e; exact HG5.out.1) HSZ9.out HBS.out.2.1 (Nat.le_of_lt HBS.out.1)
     clear hK K
     try simp only [Rg.gp]
     have HR8 : Hid (w8.ownsRow base 3 1 v8 e (D.map N64)) := Lib.hid (by first | exact hown8 | (have h := hown8; rwa [Nat.zero_add, List.nil_append] at h))
     have hbl8 : Below base v9 w8 := below_own hgrow8 (fun k e => by cases e; exact HG5.out.1) HSZ9.out
     have HKP8 := Lib.hid (HKP9.out.of (hbl8.block _ HBS.out.2.2))
     have HBL8 := Lib.hid (HBL9.out.trans hbl8)
     have HSZ8 : Hid (base ≤ w8.heap.size) := Lib.hid (Nat.le_trans HSZ9.out hbl8.size)
     have HO8 := Lib.hid (HO9.out.kept hgrow8 (by intro e; injection e with e; exact HNE9.out e.symm))
     clear hown8 hbl8 hgrow8
     refine Rg.rd1 6 ⟨some 30,.call ⟨.builtin Builtin.append,#[.tmp 28,.tmp 29],#[39,39]⟩,39,"ref.go:122",#[⟨4,.data⟩,⟨5,.data⟩,⟨4,.chain⟩],none⟩ fun K hK => ?_
     refine step_append_own rfl _ _ 39 rfl base 3 i0 (.int .i64 0) 1 8 Try.underlying39 hi hz0 hz1 hz2 rfl (by decide) _ _ _ rfl HR8.out ⟨g9, 0, none⟩ 1 1 [.int .i64 1] rfl rfl (HO8.out.news) (fun u hu => by simp at hu; subst hu; rfl) (by unfold maxLen; omega) (by omega) HSZ8.out ?_
     intro v10 w10 hown10 hgrow10
     refine hK.out _ _ ?_ (fun hHeld => ?_)
     ·(try dsimp only)
      exact SMN.grown hHeld hgrow10 (fun k e => (HR8.out.lt k e).1) HSZ8.out HBS.out.2.1 (Nat.le_of_lt HBS.out.1)
     clear hK K
     try simp only [Rg.gp]
     have HR10 : Hid (w10.ownsRow base 3 1 v10 (e + 1) ((D ++ [1]).map N64)) := Lib.hid (by rw [List.map_append]; exact hown10)
     have hbl10 : Below base w8 w10 := below_own hgrow10 (fun k e => (HR8.out.lt k e).1) HSZ8.out
     have HKP10 := Lib.hid (HKP8.out.of (hbl10.block _ HBS.out.2.2))
     have HBL10 := Lib.hid (HBL8.out.trans hbl10)
     have HSZ10 : Hid (base ≤ w10.heap.size) := Lib.hid (Nat.le_trans HSZ8.out hbl10.size)
     obtain ⟨a10, c10, hv10⟩ := own_slice HR10.out
     subst hv10
     clear hown10 hbl10 hgrow10
     refine Rg.rd1 7 ⟨some 31,.call ⟨.value (.func 90),#[.tmp 25,.tmp 30],#[3,39]⟩,4,"ref.go:122",#[⟨1,.data⟩,⟨6,.data⟩,⟨6,.chain⟩],none⟩ fun K hK => ?_
     have hl1 : (D ++ [1]).length = e + 1 := by rw [List.length_append, HDL.out]; rfl
     have hirr := irr_c (p := p) (m := D ++ [1]) (am := a10) (cm := c10) h1 hp6 (fun d hd => HPW.out d (by rw [hl1] at hd; omega)) (by rw [hl1]; omega) (by rw [hl1]; omega) (fun x hx => by
      rcases List.mem_append.1 hx with h | h
      ·exact HDP.out x h
      ·rw [List.mem_singleton] at h; omega) (by rw [hl1]; exact NN.of_owns (by rw [hl1]; exact HR10.out))
     rw [hl1, HBB.out] at hirr
     go_simp
     go_at_call 90
     with_reducible refine hirr.mono ?_
     rintro z w11 ⟨rfl, hb11⟩
     refine hK.out _ _ ?_ (fun hHeld => ?_)
     ·(try dsimp only)
      exact SMN.keep hHeld hb11
     clear hK K
     try simp only [Rg.gp]
     have HKP11 := Lib.hid (HKP10.out.below hb11)
     have HZ11 := Lib.hid (HW3.out w11 (HBLw.out.trans (HBL10.out.trans (hb11.mono HSZ10.out))))
     clear hirr hb11 hl1
     refine wpAnyH_done (by kernel_rfl) ?_ _
     have HSF := Lib.hid hHeld
     clear hHeld hS0
     obtain ⟨k0, k1, -⟩ := HSF.out
     cases B with
     | true =>
      have HDM : Hid (D = M) := Lib.hid (by have h := HK2.out; simp only [cond_true] at h; injection h)
      obtain ⟨z0, z1, z2, zf⟩ := HZ11.out
      have u0 := zf 0
      have u1 := zf 1
      have u2 := zf 2
      clear zf
      have HFX : Hid (∀ w', w' = ((w11.setCell ⟨W.heap.size, 0, none⟩ (.int .i64 (p : Nat))).setCell ⟨W.heap.size, 1, none⟩ (.int .i64 (e : Nat))).setCell ⟨W.heap.size, 2, none⟩ (.slice (some ⟨g6, 0, none⟩) e c3) →
        w'.cell? ⟨W.heap.size, 0, none⟩ = some (.int .i64 (p : Nat)) ∧ w'.cell? ⟨W.heap.size, 1, none⟩ = some (.int .i64 (e : Nat)) ∧ w'.cell? ⟨W.heap.size, 2, none⟩ = some (.slice (some ⟨g6, 0, none⟩) e c3) ∧ FldAt F g6 c3 w' ∧ Below W.heap.size W w' ∧ W.heap.size ≤ g6) := Lib.hid (by
       intro w' hw
       have hb := Nat.le_refl W.heap.size
       have hB := setCell_above (i := 2) (v := .slice (some ⟨g6, 0, none⟩) e c3) (setCell_above (i := 1) (v := .int .i64 (e : Nat)) (setCell_above (i := 0) (v := .int .i64 (p : Nat)) HSF.out.2.2.out.1 hb) hb) hb
       rw [← hw] at hB
       have hg6 : W.heap.size < g6 := by have := HG6.out; omega
       have hblk : w'.heap[g6]? = w11.heap[g6]? := by
        rw [hw, Below.heap_setCell _ _ _ _ (by show g6 ≠ W.heap.size; omega), Below.heap_setCell _ _ _ _ (by show g6 ≠ W.heap.size; omega), Below.heap_setCell _ _ _ _ (by show g6 ≠ W.heap.size; omega)]
       have hrow := HKP11.out.of hblk
       rw [HDM.out, ← HME.out] at hrow
       refine ⟨?_, ?_, ?_, (FldAt.of_row HMF.out hrow).2, hB, by omega⟩
       ·rw [hw, World.cell?_setCell_other _ _ _ _ (by simp), World.cell?_setCell_other _ _ _ _ (by simp)]; exact World.cell?_setCell_same _ _ _ z0
       ·rw [hw, World.cell?_setCell_other _ _ _ _ (by simp)]; exact World.cell?_setCell_same _ _ _ ((World.cell?_setCell_other _ _ _ _ (by simp)).trans z1)
       ·rw [hw]; exact World.cell?_setCell_same _ _ _ ((World.cell?_setCell_other _ _ _ _ (by simp)).trans ((World.cell?_setCell_other _ _ _ _ (by simp)).trans z2)))
      go_wp2
      obtain ⟨d0, d1, d2, hfa, hbw, hgw⟩ := HFX.out _ rfl
      exact bodyPost_ret (v := .tuple #[.agg #[.int .i64 (p : Nat), .int .i64 (e : Nat), .slice (some ⟨g6, 0, none⟩) e c3], .int .i64 0]) (by simp [results, Try.results71, go_sem, d0, d1, d2]) rfl ⟨g6, c3, by rw [HFE.out], hfa, hbw, hgw⟩
     | false =>
      have HK3 : Hid (mkN p e k' (n + 1) = some M) := Lib.hid HK2.out
      have hn64 : n < 64 := by omega
      go_wp2
      go_roundw
      case rel => exact ⟨n + 1, k', by omega, by go_num, HK3, HSF, HZ11⟩
      case measure => (try simp [intOf]); (try omega)
   ·go_simp
    refine hK.out _ _ ?_ (fun hHeld => ?_)
    ·(try dsimp only)
     exact SMN.keep hHeld ((Below.refl _ _).alloc (Nat.le_refl _) _)
    clear hK K
    try simp only [Rg.gp]
    obtain ⟨g9, hg9⟩ : ∃ g, w3.drew.heap.size = g := ⟨_, rfl⟩
    obtain ⟨v9, hv9⟩ : ∃ v, w3.drew.alloc (.cells #[.int .i64 1] 3) = v := ⟨_, rfl⟩
    have ha9 : Below w3.drew.heap.size w3.drew v9 := by rw [← hv9]; exact (Below.refl _ _).alloc (Nat.le_refl _) _
    have HO9 : Hid (RC [1] g9 1 v9) := Lib.hid (by rw [← hv9, ← hg9]; exact one_cell _)
    have HKP9 := Lib.hid (HKP0.out.below ha9)
    have HBL9 := Lib.hid (HBL0.out.trans (ha9.mono HSZ0.out))
    have HSZ9 : Hid (base ≤ v9.heap.size) := Lib.hid (Nat.le_trans HSZ0.out ha9.size)
    have HG9 : Hid (base ≤ g9 ∧ g9 < v9.heap.size) := Lib.hid ⟨by rw [← hg9]; exact HSZ0.out, by rw [← hg9, ← hv9]; simp⟩
    rw [show (w3.alloc (.cells #[.int .i64 1] 3)).drew = v9 from hv9, show w3.heap.size = g9 from hg9]
    first | rw [hv9] at hHeld | rw [show (w3.alloc (.cells #[.int .i64 1] 3)).drew = v9 from hv9] at hHeld
    clear ha9 hv9 hg9
    refine Rg.rd1 2 ⟨some 26,.buildSlice 39 0 #[],39,"ref.go:122",#[],none⟩ fun K hK => ?_
    go_simp
    refine hK.out _ _ ?_ (fun hHeld => ?_)
    ·(try dsimp only)
     exact SMN.keep hHeld ((Below.refl _ _).alloc (Nat.le_refl _) _)
    clear hK K
    try simp only [Rg.gp]
    obtain ⟨g5, hg5⟩ : ∃ g, v9.heap.size = g := ⟨_, rfl⟩
    obtain ⟨v5, hv5⟩ : ∃ v, v9.alloc (.cells #[] 3) = v := ⟨_, rfl⟩
    have hE5 : v5.ownsRow base 3 1 (.slice (some ⟨g5, 0, none⟩) 0 0) 0 [] := by rw [← hv5, ← hg5]; exact own_empty _ _ HSZ9.out
    have ha5 : Below v9.heap.size v9 v5 := by rw [← hv5]; exact (Below.refl _ _).alloc (Nat.le_refl _) _
    have HE5 := Lib.hid hE5
    have HKP5 := Lib.hid (HKP9.out.below ha5)
    have HBL5 := Lib.hid (HBL9.out.trans (ha5.mono HSZ9.out))
    have HSZ5 : Hid (base ≤ v5.heap.size) := Lib.hid (Nat.le_trans HSZ9.out ha5.size)
    have HG5 : Hid (base ≤ g5 ∧ g5 < v5.heap.size) := Lib.hid ⟨by rw [← hg5]; exact HSZ9.out, by rw [← hg5, ← hv5]; simp⟩
    have HO5 := Lib.hid (HO9.out.below ha5)
    have HNE5 : Hid (g9 ≠ g5) := Lib.hid (by have h := HG9.out.2; rw [← hg5]; omega)
    rw [hv5, hg5]
    rw [hv5] at hHeld
    clear hE5 ha5 hv5 hg5
    refine Rg.rd1 4 ⟨some 28,.call ⟨.builtin Builtin.append,#[.tmp 26,.tmp 27],#[39,39]⟩,39,"ref.go:122",#[⟨2,.data⟩,⟨3,.data⟩],none⟩ fun K hK => ?_
    refine step_append_own rfl _ _ 39 rfl base 3 i0 (.int .i64 0) 1 8 Try.underlying39 hi hz0 hz1 hz2 rfl (by decide) _ _ _ rfl HE5.out ⟨g6, 0, none⟩ e c3 (D.map N64) rfl (by rw [List.length_map, HDL.out, Nat.mul_one]) (HKP5.out.news) (fun u hu => by obtain ⟨y, _, rfl⟩ := List.mem_map.1 hu; rfl) (by unfold maxLen; omega) (by omega) HSZ5.out ?_
    intro v8 w8 hown8 hgrow8
    refine hK.out _ _ ?_ (fun hHeld => ?_)
    ·(try dsimp only)
     exact SMN.grown hHeld hgrow8 (fun k e => by cases e; exact HG5.out.1) HSZ5.out HBS.out.2.1 (Nat.le_of_lt HBS.out.1)
    clear hK K
    try simp only [Rg.gp]
    have HR8 : Hid (w8.ownsRow base 3 1 v8 e (D.map N64)) := Lib.hid (by first | exact hown8 | (have h := hown8; rwa [Nat.zero_add, List.nil_append] at h))
    have hbl8 : Below base v5 w8 := below_own hgrow8 (fun k e => by cases e; exact HG5.out.1) HSZ5.out
    have HKP8 := Lib.hid (HKP5.out.of (hbl8.block _ HBS.out.2.2))
    have HBL8 := Lib.hid (HBL5.out.trans hbl8)
    have HSZ8 : Hid (base ≤ w8.heap.size) := Lib.hid (Nat.le_trans HSZ5.out hbl8.size)
    have HO8 := Lib.hid (HO5.out.kept hgrow8 (by intro e; injection e with e; exact HNE5.out e.symm))
    clear hown8 hbl8 hgrow8
    refine Rg.rd1 6 ⟨some 30,.call ⟨.builtin Builtin.append,#[.tmp 28,.tmp 29],#[39,39]⟩,39,"ref.go:122",#[⟨4,.data⟩,⟨5,.data⟩,⟨4,.chain⟩],none⟩ fun K hK => ?_
    refine step_append_own rfl _ _ 39 rfl base 3 i0 (.int .i64 0) 1 8 Try.underlying39 hi hz0 hz1 hz2 rfl (by decide) _ _ _ rfl HR8.out ⟨g9, 0, none⟩ 1 1 [.int .i64 1] rfl rfl (HO8.out.news) (fun u hu => by simp at hu; subst hu; rfl) (by unfold maxLen; omega) (by omega) HSZ8.out ?_
    intro v10 w10 hown10 hgrow10
    refine hK.out _ _ ?_ (fun hHeld => ?_)
    ·(try dsimp only)
     exact SMN.grown hHeld hgrow10 (fun k e => (HR8.out.lt k e).1) HSZ8.out HBS.out.2.1 (Nat.le_of_lt HBS.out.1)
    clear hK K
    try simp only [Rg.gp]
    have HR10 : Hid (w10.ownsRow base 3 1 v10 (e + 1) ((D ++ [1]).map N64)) := Lib.hid (by rw [List.map_append]; exact hown10)
    have hbl10 : Below base w8 w10 := below_own hgrow10 (fun k e => (HR8.out.lt k e).1) HSZ8.out
    have HKP10 := Lib.hid (HKP8.out.of (hbl10.block _ HBS.out.2.2))
    have HBL10 := Lib.hid (HBL8.out.trans hbl10)
    have HSZ10 : Hid (base ≤ w10.heap.size) := Lib.hid (Nat.le_trans HSZ8.out hbl10.size)
    obtain ⟨a10, c10, hv10⟩ := own_slice HR10.out
    subst hv10
    clear hown10 hbl10 hgrow10
    refine Rg.rd1 7 ⟨some 31,.call ⟨.value (.func 90),#[.tmp 25,.tmp 30],#[3,39]⟩,4,"ref.go:122",#[⟨1,.data⟩,⟨6,.data⟩,⟨6,.chain⟩],none⟩ fun K hK => ?_
    have hl1 : (D ++ [1]).length = e + 1 := by rw [List.length_append, HDL.out]; rfl
    have hirr := irr_c (p := p) (m := D ++ [1]) (am := a10) (cm := c10) h1 hp6 (fun d hd => HPW.out d (by rw [hl1] at hd; omega)) (by rw [hl1]; omega) (by rw [hl1]; omega) (fun x hx => by
     rcases List.mem_append.1 hx with h | h
     ·exact HDP.out x h
     ·rw [List.mem_singleton] at h; omega) (by rw [hl1]; exact NN.of_owns (by rw [hl1]; exact HR10.out))
    rw [hl1, HBB.out] at hirr
    go_simp
    go_at_call 90
    with_reducible refine hirr.mono ?_
    rintro z w11 ⟨rfl, hb11⟩
    refine hK.out _ _ ?_ (fun hHeld => ?_)
    ·(try dsimp only)
     exact SMN.keep hHeld hb11
    clear hK K
    try simp only [Rg.gp]
    have HKP11 := Lib.hid (HKP10.out.below hb11)
    have HZ11 := Lib.hid (HW3.out w11 (HBLw.out.trans (HBL10.out.trans (hb11.mono HSZ10.out))))
    clear hirr hb11 hl1
    refine wpAnyH_done (by kernel_rfl) ?_ _
    have HSF := Lib.hid hHeld
    clear hHeld hS0
    obtain ⟨k0, k1, -⟩ := HSF.out
    cases B with
    | true =>
     have HDM : Hid (D = M) := Lib.hid (by have h := HK2.out; simp only [cond_true] at h; injection h)
     obtain ⟨z0, z1, z2, zf⟩ := HZ11.out
     have u0 := zf 0
     have u1 := zf 1
     have u2 := zf 2
     clear zf
     have HFX : Hid (∀ w', w' = ((w11.setCell ⟨W.heap.size, 0, none⟩ (.int .i64 (p : Nat))).setCell ⟨W.heap.size, 1, none⟩ (.int .i64 (e : Nat))).setCell ⟨W.heap.size, 2, none⟩ (.slice (some ⟨g6, 0, none⟩) e c3) →
       w'.cell? ⟨W.heap.size, 0, none⟩ = some (.int .i64 (p : Nat)) ∧ w'.cell? ⟨W.heap.size, 1, none⟩ = some (.int .i64 (e : Nat)) ∧ w'.cell? ⟨W.heap.size, 2, none⟩ = some (.slice (some ⟨g6, 0, none⟩) e c3) ∧ FldAt F g6 c3 w' ∧ Below W.heap.size W w' ∧ W.heap.size ≤ g6) := Lib.hid (by
      intro w' hw
      have hb := Nat.le_refl W.heap.size
      have hB := setCell_above (i := 2) (v := .slice (some ⟨g6, 0, none⟩) e c3) (setCell_above (i := 1) (v := .int .i64 (e : Nat)) (setCell_above (i := 0) (v := .int .i64 (p : Nat)) HSF.out.2.2.out.1 hb) hb) hb
      rw [← hw] at hB
      have hg6 : W.heap.size < g6 := by have := HG6.out; omega
      have hblk : w'.heap[g6]? = w11.heap[g6]? := by
       rw [hw, Below.heap_setCell _ _ _ _ (by show g6 ≠ W.heap.size; omega), Below.heap_setCell _ _ _ _ (by show g6 ≠ W.heap.size; omega), Below.heap_setCell _ _ _ _ (by show g6 ≠ W.heap.size; omega)]
      have hrow := HKP11.out.of hblk
      rw [HDM.out, ← HME.out] at hrow
      refine ⟨?_, ?_, ?_, (FldAt.of_row HMF.out hrow).2, hB, by omega⟩
      ·rw [hw, World.cell?_setCell_other _ _ _ _ (by simp), World.cell?_setCell_other _ _ _ _ (by simp)]; exact World.cell?_setCell_same _ _ _ z0
      ·rw [hw, World.cell?_setCell_other _ _ _ _ (by simp)]; exact World.cell?_setCell_same _ _ _ ((World.cell?_setCell_other _ _ _ _ (by simp)).trans z1)
      ·rw [hw]; exact World.cell?_setCell_same _ _ _ ((World.cell?_setCell_other _ _ _ _ (by simp)).trans ((World.cell?_setCell_other _ _ _ _ (by simp)).trans z2)))
     go_wp2
     obtain ⟨d0, d1, d2, hfa, hbw, hgw⟩ := HFX.out _ rfl
     exact bodyPost_ret (v := .tuple #[.agg #[.int .i64 (p : Nat), .int .i64 (e : Nat), .slice (some ⟨g6, 0, none⟩) e c3], .int .i64 0]) (by simp [results, Try.results71, go_sem, d0, d1, d2]) rfl ⟨g6, c3, by rw [HFE.out], hfa, hbw, hgw⟩
    | false =>
     have HK3 : Hid (mkN p e k' (n + 1) = some M) := Lib.hid HK2.out
     have hn64 : n < 64 := by omega
     go_wp2
     go_roundw
     case rel => exact ⟨n + 1, k', by omega, by go_num, HK3, HSF, HZ11⟩
     case measure => (try simp [intOf]); (try omega)
end Go.Proofs.Ytdafhhojiioifaa

/- The reference's fields of bytes. -/
namespace Go.Proofs.Ytdafhhojiioifaa
open Go.RowKit Go.Fl
set_option maxRecDepth 100000
set_option linter.unusedVariables false
set_option linter.unusedSimpArgs false
set_option linter.unusedSectionVars false
theorem mk_k : ∀ F ∈ fds, ptF F.q 70 2 = (F.p, F.e) ∧ mkN F.p F.e F.q 0 = some F.mod ∧ ∀ d, d < 7 → 2 * d ≤ F.e → F.p ^ d ≤ 100000 := by decide +kernel
theorem mkOk {F : Gf} (h : F ∈ fds) : MkOk F := by
 obtain ⟨h1, h2, h3⟩ := mk_k F h
 have h4 := (fd_small F h).2.2.2.1
 exact ⟨h1, h2, fun d hd => h3 d (by omega) hd⟩
/-- the field of a byte -/
def fdB (x : Nat) : Gf := fds.getD (x % 10) ⟨2, 1, 2, 1, [0], 1, 0⟩
theorem fdB_take (x : Nat) : fdB x ∈ fds.take 10 := by
 have h : x % 10 < (fds.take 10).length := by show x % 10 < 10; omega
 have e : (fds.take 10)[x % 10]? = some (fdB x) := by
  unfold fdB
  rw [List.getD_eq_getElem?_getD, List.getElem?_take_of_lt (by omega)]
  have h2 : x % 10 < fds.length := by show x % 10 < 27; omega
  rw [List.getElem?_eq_getElem h2]; rfl
 exact List.mem_of_getElem? e
theorem fdB_fds (x : Nat) : fdB x ∈ fds := List.mem_of_mem_take (fdB_take x)
def szs : List Nat := [2, 3, 4, 5, 7, 8, 9, 11, 13, 16]
theorem szs_q : ∀ i, i < 10 → szs.getD i 0 = (fds.getD i ⟨2, 1, 2, 1, [0], 1, 0⟩).q := by decide +kernel
end Go.Proofs.Ytdafhhojiioifaa
