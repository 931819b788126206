/- The reference's digits, number, power. -/
import Derived.Test.YtdafhhojiioifaaNj
import Derived.Test.YtdafhhojiioifaaSa
import Derived.Maps.AppendAt
import Derived.Test.YtdafhhojiioifaaEvTk
namespace Go.Proofs.Ytdafhhojiioifaa
open Go.RowKit Go.Fl
set_option maxRecDepth 100000
set_option linter.unusedVariables false
set_option linter.unusedSimpArgs false
set_option linter.unusedSectionVars false
theorem own_empty (w : World) (base : Nat) (hb : base ≤ w.heap.size) : (w.alloc (.cells #[] 3)).ownsRow base 3 1 (.slice (some ⟨w.heap.size, 0, none⟩) 0 0) 0 [] := World.ownsRow_made w #[] 0 hb (Nat.zero_le _) rfl
/-- a row of its own is answered -/
def DPost (L : List Nat) (W : World) (e : Ending) (w' : World) : Prop := ∃ a c, e = .returned (.slice a L.length c) ∧ w'.ownsRow W.heap.size 3 1 (.slice a L.length c) L.length (L.map N64) ∧ Below W.heap.size W w'
theorem own_weak {w : World} {base b' e size n : Nat} {v : Value} {xs : List Value} (h : w.ownsRow base e size v n xs) (hb : b' ≤ base) : w.ownsRow b' e size v n xs :=
 ⟨h.1, h.2.imp_right fun ⟨g, cap, cur, h1, h2, h3⟩ => ⟨g, cap, cur, h1, Nat.le_trans hb h2, h3⟩⟩
theorem own_slice {w : World} {base n : Nat} {v : Value} {xs : List Value} (h : w.ownsRow base 3 1 v n xs) : ∃ a c, v = .slice a n c := by
 rcases h.2 with ⟨e, e2⟩ | ⟨_, _, _, e, _⟩
 ·exact ⟨none, 0, by rw [e, e2]⟩
 ·exact ⟨_, _, e⟩
/-- what grew above a place is as it was below it -/
theorem below_own {w w' : World} {base : Nat} {row : Option Nat} (hg : w.grownBy w' row) (hr : ∀ k, row = some k → base ≤ k) (hb : base ≤ w.heap.size) : Below base w w' :=
 ⟨hg.os, hg.tape, hg.output, hg.size, fun k hk => hg.block k (by omega) fun e => by have := hr k e.symm; omega⟩
/-- e digits, the least one first -/
def dgL (p : Nat) : Nat → Nat → List Nat
 | 0, _ => []
 | e + 1, n => n % p :: dgL p e (n / p)
theorem dgL_len (p : Nat) : ∀ e n, (dgL p e n).length = e
 | 0, _ => rfl
 | e + 1, n => by show (dgL p e (n / p)).length + 1 = _; rw [dgL_len p e]
theorem dgL_lt {p : Nat} (hp : 0 < p) : ∀ e n, ∀ x ∈ dgL p e n, x < p
 | 0, _, x, h => by cases h
 | e + 1, n, x, h => by
  rcases List.mem_cons.1 h with rfl | h
  ·exact Nat.mod_lt _ hp
  ·exact dgL_lt hp e _ x h
theorem dgL_succ (p : Nat) : ∀ k n, dgL p (k + 1) n = dgL p k n ++ [n / p ^ k % p]
 | 0, n => by simp [dgL]
 | k + 1, n => by
  show n % p :: dgL p (k + 1) (n / p) = n % p :: (dgL p k (n / p) ++ [n / p ^ (k + 1) % p])
  rw [dgL_succ p k (n / p), Nat.div_div_eq_div_mul, Nat.pow_succ, Nat.mul_comm p]
set_option maxHeartbeats 3200000 in
theorem rdigits_c {p e n0 : Nat} (hp : 0 < p) (hp6 : p ≤ 64) (he : e ≤ 20) (hn0 : n0 ≤ 100000) {W : World} : Calls Try.prog 84 #[.int .i64 (p : Nat), .int .i64 (e : Nat), .int .i64 (n0 : Nat)] W (DPost (dgL p e n0) W) := by
 obtain ⟨i0, hi, hz0, hz1, hz2⟩ := info_parts info3
 obtain ⟨W0, hW0⟩ : ∃ W0, W.alloc (.cells #[] 3) = W0 := ⟨_, rfl⟩
 have HB0 : Hid (Below W.heap.size W W0) := Lib.hid (by rw [← hW0]; exact (Below.refl _ _).alloc (Nat.le_refl _) _)
 have HO0 : Hid (W0.ownsRow W.heap.size 3 1 (.slice (some ⟨W.heap.size, 0, none⟩) 0 0) 0 []) := Lib.hid (by rw [← hW0]; exact own_empty _ _ (Nat.le_refl _))
 have hpz : ((p : Int) == 0) = false := by simp; omega
 have hpz2 : ¬ p = 0 := by omega
 go_enter Try.func84, Try.ntmps84
 go_wp2
 clear hW0
 go_loopw [2, 7, 8] (fun a v i wr => ∃ (k r : Nat) (aP : Option Addr) (cP : Nat), k ≤ e ∧ r ≤ n0 ∧ a = .int .i64 (r : Nat) ∧ v = .slice aP k cP ∧ i = .int .i64 (k : Nat) ∧ Hid (n0 / p ^ k = r) ∧ Hid (wr.ownsRow W.heap.size 3 1 (.slice aP k cP) k ((dgL p k n0).map N64)) ∧ Hid (Below W.heap.size W wr)) (fun _ _ i _ => e - (intOf i).toNat)
 case atStart => exact ⟨0, n0, _, _, Nat.zero_le _, Nat.le_refl _, rfl, rfl, rfl, Lib.hid (by simp), HO0, HB0⟩
 case round =>
  obtain ⟨k, r, aP, cP, hk, hr, rfl, rfl, rfl, HR, HO, HB⟩ := hrel
  by_cases hlt : k < e
  ·have hlti : (k : Int) < (e : Int) := by omega
   obtain ⟨d, hd⟩ : ∃ d, r % p = d := ⟨_, rfl⟩
   obtain ⟨s, hs⟩ : ∃ s, r / p = s := ⟨_, rfl⟩
   have hsr : s ≤ n0 := by rw [← hs]; exact Nat.le_trans (Nat.div_le_self _ _) hr
   have hdp : d < p := by rw [← hd]; exact Nat.mod_lt _ hp
   have hdi : (r : Int) % (p : Int) = (d : Int) := by rw [← hd]; exact (Int.natCast_emod _ _).symm
   have hsi : (r : Int) / (p : Int) = (s : Int) := by rw [← hs]; exact (Int.natCast_ediv _ _).symm
   have hti : (r : Int).tmod (p : Int) = (d : Int) := by rw [Int.tmod_eq_emod_of_nonneg (by omega)]; exact hdi
   have hqi : (r : Int).tdiv (p : Int) = (s : Int) := by rw [Int.tdiv_eq_ediv_of_nonneg (by omega)]; exact hsi
   have HNX : Hid (dgL p (k + 1) n0 = dgL p k n0 ++ [d]) := Lib.hid (by rw [dgL_succ, HR.out, hd])
   have HR2 : Hid (n0 / p ^ (k + 1) = s) := Lib.hid (by rw [Nat.pow_succ, ← Nat.div_div_eq_div_mul, HR.out, hs])
   have HSZ : Hid (W.heap.size ≤ wr.heap.size) := Lib.hid HB.out.size
   have HSR := Lib.hid hsr
   have hws := w64 (n := s) (Nat.lt_of_le_of_lt hsr (Nat.lt_of_le_of_lt hn0 (by decide)))
   have hwd := w64 (n := d) (Nat.lt_trans hdp (Nat.lt_of_le_of_lt hp6 (by decide)))
   have HKE : Hid (k ≤ 20) := Lib.hid (by omega)
   clear hd hs hr HR hsr
   go_wp2_with (at_builtin; refine wpList_append_own _ rfl _ _ 39 rfl W.heap.size 3 i0 (.int .i64 0) 1 8 Try.underlying39 hi hz0 hz1 hz2 rfl (by decide) _ _ _ rfl (HO.out.alloc _) ⟨wr.heap.size, 0, none⟩ 1 1 [.int .i64 (d : Nat)] rfl rfl (cell_one_new _ _ _) (fun u hu => by simp at hu; subst hu; rfl) ?c3 ?c4 ?c5 ?_)
   case c3 => have := HKE.out; unfold maxLen; omega
   case c4 => have := HKE.out; omega
   case c5 => have := HSZ.out; simp; omega
   intro v' w7 hown' hgrow hnil
   have HO7 : Hid (w7.ownsRow W.heap.size 3 1 v' (k + 1) ((dgL p (k + 1) n0).map N64)) := Lib.hid (by rw [HNX.out, List.map_append]; exact hown')
   have HB7 : Hid (Below W.heap.size W w7) := Lib.hid ((HB.out.alloc HSZ.out _).trans (below_own hgrow (fun j hj => (HO.out.lt j hj).1) (by have := HSZ.out; simp; omega)))
   obtain ⟨aP2, cP2, hvs⟩ := own_slice HO7.out
   subst hvs
   clear hown' hgrow hnil
   go_wp2
   go_roundw
   case rel => exact ⟨k + 1, s, aP2, cP2, hlt, HSR.out, rfl, rfl, by go_num, HR2, HO7, HB7⟩
   case measure => (try simp [intOf]); (try omega)
  ·have hlti : ¬ (k : Int) < (e : Int) := by omega
   obtain rfl : k = e := by omega
   have HL : Hid ((dgL p k n0).length = k) := Lib.hid (dgL_len p k n0)
   clear hk
   go_wp2
   go_ret
   exact ⟨aP, cP, by rw [HL.out]; rfl, by rw [HL.out]; exact HO.out, HB.out⟩
/-- the number with these digits -/
def numL (p : Nat) : List Nat → Nat
 | [] => 0
 | x :: l => numL p l * p + x
theorem numL_lt {p : Nat} (hp : p ≤ 64) : ∀ (l : List Nat), (∀ x ∈ l, x < 64) → numL p l < 64 ^ l.length
 | [], _ => by simp [numL]
 | x :: l, h => by
  have h1 := numL_lt hp l (fun y hy => h y (List.mem_cons_of_mem _ hy))
  have h2 := h x List.mem_cons_self
  have h3 : numL p l * p ≤ (64 ^ l.length - 1) * 64 := Nat.mul_le_mul (by omega) hp
  show numL p l * p + x < 64 ^ (l.length + 1)
  rw [Nat.pow_succ]
  have h4 : 0 < 64 ^ l.length := Nat.pow_pos (by decide)
  rw [Nat.sub_mul] at h3
  omega
theorem numL_drop {p : Nat} {L : List Nat} {k : Nat} (hk : k < L.length) : numL p (L.drop k) = numL p (L.drop (k + 1)) * p + L.getD k 0 := by
 rw [List.drop_eq_getElem_cons hk, List.getD_eq_getElem?_getD, List.getElem?_eq_getElem hk]; rfl
set_option maxHeartbeats 3200000 in
theorem rnumber_c {p : Nat} {L : List Nat} {a : Option Addr} {c : Nat} (hp : p ≤ 64) (hl : L.length ≤ 7) (hL : ∀ x ∈ L, x < 64) {W : World} (h : NN L W (.slice a L.length c)) :
  Calls Try.prog 85 #[.int .i64 (p : Nat), .slice a L.length c] W fun e w' => e = .returned (.int .i64 (numL p L : Nat)) ∧ Below W.heap.size W w' := by
 have HV : Hid (∀ k, k < L.length → L.getD k 0 < 64) := Lib.hid fun k hk => by
  rw [List.getD_eq_getElem?_getD, List.getElem?_eq_getElem hk]; exact hL _ (List.getElem_mem hk)
 have HT : Hid (∀ k, numL p (L.drop k) < 4398046511104) := Lib.hid fun k => by
  refine Nat.lt_of_lt_of_le (numL_lt hp _ fun x hx => hL x (List.mem_of_mem_drop hx)) ?_
  refine Nat.le_trans (Nat.pow_le_pow_right (by decide) (show (L.drop k).length ≤ 7 by rw [List.length_drop]; omega)) (by decide)
 have HN := Lib.hid h
 clear h hL
 obtain ⟨n, hn⟩ : ∃ n, L.length = n := ⟨_, rfl⟩
 rw [hn] at hl ⊢
 have HNL := Lib.hid hn
 clear hn
 go_enter Try.func85, Try.ntmps85
 go_wp2
 go_loopw [5, 6] (fun x i wr => ∃ k : Nat, k ≤ n ∧ x = .int .i64 (numL p (L.drop k) : Nat) ∧ i = .int .i64 ((k : Nat) - (1 : Int)) ∧ wr = W) (fun _ i _ => (intOf i + 1).toNat)
 case atStart => exact ⟨n, Nat.le_refl _, by rw [← HNL.out]; simp [numL], by go_num, rfl⟩
 case round =>
  obtain ⟨k1, hk, rfl, rfl, rfl⟩ := hrel
  cases k1 with
  | succ k =>
   have h1 : ((k + 1 : Nat) : Int) - 1 = (k : Int) := by omega
   have h0 : (0 : Int) ≤ (k : Int) := by omega
   obtain ⟨x, hx⟩ : ∃ x, L.getD k 0 = x := ⟨_, rfl⟩
   have hx6 : x < 64 := by rw [← hx]; exact HV.out k (by rw [HNL.out]; omega)
   have hnn := HN.out
   obtain ⟨b1, o1, rfl, hc⟩ := hnn.at (k := k) (by rw [HNL.out]; omega)
   rw [hx] at hc
   obtain ⟨y, hy⟩ : ∃ y, numL p (L.drop (k + 1)) = y := ⟨_, rfl⟩
   have hy2 : y < 4398046511104 := by rw [← hy]; exact HT.out _
   obtain ⟨t, ht⟩ : ∃ t, y * p = t := ⟨_, rfl⟩
   have ht2 : t ≤ 4398046511104 * 64 := by rw [← ht]; exact Nat.mul_le_mul (by omega) hp
   have hti : (y : Int) * (p : Int) = (t : Int) := by rw [← ht]; exact (Int.natCast_mul _ _).symm
   obtain ⟨s, hs⟩ : ∃ s, t + x = s := ⟨_, rfl⟩
   have hsi : (t : Int) + (x : Int) = (s : Int) := by omega
   have HS : Hid (numL p (L.drop k) = s) := Lib.hid (by rw [numL_drop (by rw [HNL.out]; omega), hy, ht, hx, hs])
   have hs2 : s ≤ 281474976711000 := by omega
   have hkn : (k : Int) < (n : Int) := by omega
   have hwt := w64 (n := t) (Nat.lt_of_le_of_lt ht2 (by decide))
   have hws := w64 (n := s) (Nat.lt_of_le_of_lt hs2 (by decide))
   rw [h1, hy]
   have HK := Lib.hid hk
   clear hx hy ht hs hnn h1 hk
   go_wp2
   go_roundw
   case rel => exact ⟨k, by have := HK.out; omega, by rw [HS.out], by go_num, trivial⟩
   case measure => (try simp [intOf]); (try omega)
  | zero =>
   have h1 : ((0 : Nat) : Int) - 1 = -1 := rfl
   rw [h1]
   go_wp2
   go_ret
   exact ⟨by first | rfl | (rw [List.drop_zero]; rfl), Below.refl _ _⟩
set_option maxHeartbeats 3200000 in
theorem rpower_c {p n q : Nat} (hq : p ^ n = q) (hp : p ≤ 64) (hp0 : 0 < p) (hb : q ≤ 1000000) (hn : n ≤ 20) {W : World} : Calls Try.prog 104 #[.int .i64 (p : Nat), .int .i64 (n : Nat)] W fun e w' => e = .returned (.int .i64 (q : Nat)) ∧ w' = W := by
 have hpow : Hid (∀ k, k ≤ n → p ^ k ≤ 1000000) := Lib.hid fun k hk => Nat.le_trans (Nat.pow_le_pow_right hp0 hk) (by omega)
 have HQ := Lib.hid hq
 clear hb hq
 go_enter Try.func104, Try.ntmps104
 go_wp2
 go_loopw [5, 6] (fun x i wr => ∃ k : Nat, k ≤ n ∧ x = .int .i64 (p ^ k : Nat) ∧ i = .int .i64 (k : Nat) ∧ wr = W) (fun _ i _ => n - (intOf i).toNat)
 case atStart => exact ⟨0, Nat.zero_le _, by simp, rfl, rfl⟩
 case round =>
  obtain ⟨k, hk, rfl, rfl, rfl⟩ := hrel
  by_cases hlt : k < n
  ·have hli : (k : Int) < (n : Int) := by omega
   obtain ⟨x, hx⟩ : ∃ x, p ^ k = x := ⟨_, rfl⟩
   obtain ⟨y, hy⟩ : ∃ y, x * p = y := ⟨_, rfl⟩
   have hyk : Hid (p ^ (k + 1) = y) := Lib.hid (by rw [Nat.pow_succ, hx, hy])
   have hy6 : y ≤ 1000000 := by rw [← hyk.out]; exact hpow.out _ (by omega)
   have hyi : (x : Int) * (p : Int) = (y : Int) := by rw [← hy]; exact (Int.natCast_mul _ _).symm
   have hwy := w64 (n := y) (Nat.lt_of_le_of_lt hy6 (by decide))
   rw [hx]
   clear hx hy
   go_wp2
   go_roundw
   case rel => exact ⟨k + 1, hlt, by rw [hyk.out], by go_num, trivial⟩
   case measure => (try simp [intOf]); (try omega)
  ·have hli : ¬ (k : Int) < (n : Int) := by omega
   obtain rfl : k = n := by omega
   rw [HQ.out]
   go_wp2
   go_ret
   exact ⟨rfl, by first | trivial | rfl⟩
theorem rsize_c {F : Gf} {b cap : Nat} {W : World} (h : FldAt F b cap W) : Calls Try.prog 96 #[FV F b cap] W fun e w' => e = .returned (.int .i64 (F.q : Nat)) ∧ Below W.heap.size W w' := by
 obtain ⟨h1, h2, h3, h4, h5, h6, h7⟩ := fd_small F h.mem
 obtain ⟨W0, hW0⟩ : ∃ W0, W.alloc (.cells #[.int .i64 F.p, .int .i64 F.e, FM F b cap] 53) = W0 := ⟨_, rfl⟩
 have hal : Below W.heap.size W W0 := by rw [← hW0]; exact (Below.refl _ _).alloc (Nat.le_refl _) _
 have HC := Lib.hid (rpower_c (W := W0) h5 h2 (by omega) (by omega) (by omega))
 obtain ⟨f0, f1, f2⟩ : FB3 W.heap.size F b cap W0 := by rw [← hW0]; exact fb3_new W rfl
 have HB := Lib.hid hal
 clear hal h1 h2 h3 h4 h5 h6 h7
 go_enter Try.func96, Try.ntmps96
 go_wp2_with fail
 refine (HC.out).mono ?_
 rintro z w1 ⟨rfl, rfl⟩
 go_wp2
 go_ret
 exact ⟨rfl, HB.out⟩
end Go.Proofs.Ytdafhhojiioifaa

/- The reference's sums and opposites. -/
namespace Go.Proofs.Ytdafhhojiioifaa
open Go.RowKit Go.Fl
set_option maxRecDepth 100000
set_option linter.unusedVariables false
set_option linter.unusedSimpArgs false
set_option linter.unusedSectionVars false
/-- a row that may be written -/
def RC (L : List Nat) (g c : Nat) (w : World) : Prop := w.ownsRow 0 3 1 (.slice (some ⟨g, 0, none⟩) L.length c) L.length (L.map N64)
section
variable {L : List Nat} {g c : Nat} {w w' : World}
theorem RC.lt (h : RC L g c w) : g < w.heap.size := (World.ownsRow.lt h g rfl).2
theorem RC.below (h : RC L g c w) (hb : Below w.heap.size w w') : RC L g c w' := own_belowK h hb
theorem RC.drew (h : RC L g c w) : RC L g c w.drew := h
theorem RC.nn (h : RC L g c w) : NN L w (.slice (some ⟨g, 0, none⟩) L.length c) := NN.of_owns h
theorem RC.cell (h : RC L g c w) {t : Nat} (ht : t < L.length) : w.cell? ⟨g, t, none⟩ = some (.int .i64 (L.getD t 0 : Nat)) := by
 rw [World.ownsRow.cellAt h t (by omega), List.getElem?_map, List.getElem?_eq_getElem ht]
 simp [List.getD, ht]
theorem RC.frozen (h : RC L g c w) (t : Nat) : w.frozen? ⟨g, t, none⟩ = false := World.ownsRow.frozenAt h t
theorem RC.set (h : RC L g c w) (t x : Nat) : RC (L.set t x) g c (w.setCell ⟨g, t, none⟩ (.int .i64 x)) := by
 unfold RC
 rw [List.length_set, List.map_set]
 exact (World.ownsRow.stored h t (.int .i64 x)).1
theorem RC.of_own {v : Value} {base n : Nat} (h : w.ownsRow base 3 1 v n (L.map N64)) (hn : L.length = n) (h0 : 0 < n) : ∃ g c, v = .slice (some ⟨g, 0, none⟩) n c ∧ base ≤ g ∧ RC L g c w := by
 subst hn
 have h2 := h.2
 rcases h.2 with ⟨_, h⟩ | ⟨g', cap, cur, h1, h5, h3⟩
 ·omega
 ·exact ⟨g', cap, h1, h5, h.1, .inr ⟨g', cap, cur, rfl, Nat.zero_le _, h3⟩⟩
theorem RC.of (h : RC L g c w) (hb : w'.heap[g]? = w.heap[g]?) : RC L g c w' := by
 refine ⟨h.1, h.2.imp_right ?_⟩
 rintro ⟨g', cap, cur, a1, a2, a3, a4⟩
 have e : g' = g := by simp only [Value.slice.injEq, Option.some.injEq, Addr.mk.injEq] at a1; exact a1.1.1.symm
 subst e
 exact ⟨g', cap, cur, a1, a2, hb.trans a3, a4⟩
end
/-- the first k places done -/
def mapK (f : Nat → Nat) (X : List Nat) (k : Nat) : List Nat := (List.range X.length).map fun j => bif Nat.blt j k then f j else X.getD j 0
theorem mapK_len (f : Nat → Nat) (X : List Nat) (k : Nat) : (mapK f X k).length = X.length := by simp [mapK]
theorem mapK_get {f : Nat → Nat} {X : List Nat} {k j : Nat} (hj : j < X.length) : (mapK f X k).getD j 0 = bif Nat.blt j k then f j else X.getD j 0 := by
 unfold mapK
 rw [List.getD_eq_getElem?_getD, List.getElem?_map, List.getElem?_range hj]; rfl
theorem getDxK {a b : List Nat} (hl : a.length = b.length) (h : ∀ j, j < a.length → a.getD j 0 = b.getD j 0) : a = b := by
 apply List.ext_getElem hl
 intro i h1 h2
 have := h i h1
 rwa [List.getD_eq_getElem?_getD, List.getD_eq_getElem?_getD, List.getElem?_eq_getElem h1, List.getElem?_eq_getElem h2] at this
theorem mapK_zero (f : Nat → Nat) (X : List Nat) : mapK f X 0 = X := getDxK (mapK_len _ _ _) fun j hj => by
 rw [mapK_len] at hj
 rw [mapK_get hj, blt_f (Nat.zero_le j)]; rfl
theorem mapK_hi {f : Nat → Nat} {X : List Nat} {k : Nat} (hk : k < X.length) : (mapK f X k).getD k 0 = X.getD k 0 := by
 rw [mapK_get hk, blt_f (Nat.le_refl k)]; rfl
theorem mapK_succ {f : Nat → Nat} {X : List Nat} {k : Nat} (hk : k < X.length) : (mapK f X k).set k (f k) = mapK f X (k + 1) := by
 refine getDxK (by rw [List.length_set, mapK_len, mapK_len]) fun j hj => ?_
 rw [List.length_set, mapK_len] at hj
 rw [mapK_get hj, List.getD_eq_getElem?_getD, List.getElem?_set]
 by_cases e : k = j
 ·subst e
  rw [if_pos rfl, if_pos (by rw [mapK_len]; exact hk), blt_t (Nat.lt_succ_self k)]; rfl
 ·rw [if_neg e, ← List.getD_eq_getElem?_getD, mapK_get hj]
  by_cases h : j < k
  ·rw [blt_t h, blt_t (show j < k + 1 by omega)]
  ·rw [blt_f (show k ≤ j by omega), blt_f (show k + 1 ≤ j by omega)]
theorem mapK_full (f : Nat → Nat) (X : List Nat) : mapK f X X.length = (List.range X.length).map f := List.map_congr_left fun j hj => by rw [blt_t (List.mem_range.1 hj)]; rfl
theorem radd_e (p : Nat) : ∀ e x y, numL p ((List.range e).map fun j => ((dgL p e x).getD j 0 + (dgL p e y).getD j 0) % p) = addD p e x y
 | 0, x, y => rfl
 | e + 1, x, y => by
  rw [List.range_succ_eq_map, List.map_cons, List.map_map]
  show numL p ((List.range e).map fun j => ((dgL p e (x / p)).getD j 0 + (dgL p e (y / p)).getD j 0) % p) * p + (x % p + y % p) % p = (x % p + y % p) % p + p * addD p e (x / p) (y / p)
  rw [radd_e p e, Nat.mul_comm, Nat.add_comm]
theorem rneg_e (p : Nat) : ∀ e x, numL p ((List.range e).map fun j => (p - (dgL p e x).getD j 0) % p) = negD p e x
 | 0, x => rfl
 | e + 1, x => by
  rw [List.range_succ_eq_map, List.map_cons, List.map_map]
  show numL p ((List.range e).map fun j => (p - (dgL p e (x / p)).getD j 0) % p) * p + (p - x % p) % p = (p - x % p) % p + p * negD p e (x / p)
  rw [rneg_e p e, Nat.mul_comm, Nat.add_comm]
theorem getD_lt {p : Nat} (hp : 0 < p) {L : List Nat} (h : ∀ x ∈ L, x < p) (k : Nat) : L.getD k 0 < p := by
 rw [List.getD_eq_getElem?_getD]
 rcases Nat.lt_or_ge k L.length with hk | hk
 ·rw [List.getElem?_eq_getElem hk]; exact h _ (List.getElem_mem hk)
 ·rw [List.getElem?_eq_none hk]; exact hp
abbrev SBN (F : Gf) (b cap g : Nat) (W w : World) : Prop := FB3 g F b cap w ∧ Hid (Below W.heap.size W w)
theorem SBN.keep {F : Gf} {b cap g : Nat} {W w w' : World} (h : SBN F b cap g W w) (hb : Below w.heap.size w w') : SBN F b cap g W w' := ⟨h.1.below hb, Lib.hid (h.2.out.trans (hb.mono h.2.out.size))⟩
set_option maxHeartbeats 6400000 in
theorem radd_c {F : Gf} {b cap : Nat} {W : World} {x y : Nat} (hx : x < F.q) (hy : y < F.q) (h : FldAt F b cap W) : Calls Try.prog 73 #[FV F b cap, .int .i64 x, .int .i64 y] W fun e w' => e = .returned (.int .i64 (F.add x y : Nat)) ∧ Below W.heap.size W w' := by
 obtain ⟨h1, hp6, h3, h4, h5, h6, h7⟩ := fd_small F h.mem
 have hp0 : 0 < F.p := by omega
 have hx0 : x ≤ 100000 := by omega
 have hy0 : y ≤ 100000 := by omega
 have he20 : F.e ≤ 20 := by omega
 obtain ⟨X, hX⟩ : ∃ X, dgL F.p F.e x = X := ⟨_, rfl⟩
 obtain ⟨Y, hY⟩ : ∃ Y, dgL F.p F.e y = Y := ⟨_, rfl⟩
 have hXl : X.length = F.e := by rw [← hX]; exact dgL_len _ _ _
 have hYl : Y.length = F.e := by rw [← hY]; exact dgL_len _ _ _
 have HXP : Hid (∀ k, X.getD k 0 < F.p) := Lib.hid fun k => by rw [← hX]; exact getD_lt hp0 (dgL_lt hp0 _ _) k
 have HYP : Hid (∀ k, Y.getD k 0 < F.p) := Lib.hid fun k => by rw [← hY]; exact getD_lt hp0 (dgL_lt hp0 _ _) k
 have HR : Hid (numL F.p ((List.range X.length).map fun j => (X.getD j 0 + Y.getD j 0) % F.p) = F.add x y) := Lib.hid (by rw [hXl, ← hX, ← hY]; exact radd_e F.p F.e x y)
 have HDX : Hid (∀ w, Calls Try.prog 84 #[.int .i64 (F.p : Nat), .int .i64 (F.e : Nat), .int .i64 (x : Nat)] w (DPost X w)) := Lib.hid fun w => by rw [← hX]; exact rdigits_c hp0 hp6 he20 hx0
 have HDY : Hid (∀ w, Calls Try.prog 84 #[.int .i64 (F.p : Nat), .int .i64 (F.e : Nat), .int .i64 (y : Nat)] w (DPost Y w)) := Lib.hid fun w => by rw [← hY]; exact rdigits_c hp0 hp6 he20 hy0
 have HXL := Lib.hid hXl
 have HYL := Lib.hid hYl
 have HE : Hid (0 < F.e ∧ F.e ≤ 6) := Lib.hid ⟨by omega, h4⟩
 obtain ⟨W0, hW0⟩ : ∃ W0, W.alloc (.cells #[.int .i64 F.p, .int .i64 F.e, FM F b cap] 53) = W0 := ⟨_, rfl⟩
 have hal : Below W.heap.size W W0 := by rw [← hW0]; exact (Below.refl _ _).alloc (Nat.le_refl _) _
 have hS0 : SBN F b cap W.heap.size W W0.drew := ⟨by rw [← hW0]; exact fb3_new W rfl, Lib.hid hal.drew⟩
 have hgl : W.heap.size < W0.heap.size := by rw [← hW0]; simp
 have HGL := Lib.hid hgl
 clear h hal hgl h1 h3 h4 h5 h6 h7 hX hY hXl hYl hx hy
 go_enter Try.func73, Try.ntmps73
 go_wp2
 clear hW0
 refine wp_region_held_drew (S := fun w' => SBN F b cap W.heap.size W w') (by kernel_rfl) (by with_reducible exact hS0) (fun hHeld => ?_)
 refine Rg.tk 0 ⟨some 10,.fieldAddr 53 (.tmp 3) 0,0,"ref.go:172",#[],none⟩ ?_
 try simp only [Rg.gp]
 refine Rg.tk 1 ⟨some 11,.load 3 (.tmp 10),3,"ref.go:172",#[⟨0,.data⟩],none⟩ ?_
 try simp only [Rg.gp]
 refine Rg.tk 2 ⟨some 12,.fieldAddr 53 (.tmp 3) 1,0,"ref.go:172",#[],none⟩ ?_
 try simp only [Rg.gp]
 refine Rg.tk 3 ⟨some 13,.load 3 (.tmp 12),3,"ref.go:172",#[⟨2,.data⟩],none⟩ ?_
 try simp only [Rg.gp]
 refine Rg.tk 4 ⟨some 14,.move (.tmp 1),3,"ref.go:172",#[],none⟩ ?_
 try simp only [Rg.gp]
 refine Rg.tk 6 ⟨some 16,.fieldAddr 53 (.tmp 3) 0,0,"ref.go:172",#[],none⟩ ?_
 try simp only [Rg.gp]
 refine Rg.tk 7 ⟨some 17,.load 3 (.tmp 16),3,"ref.go:172",#[⟨6,.data⟩],none⟩ ?_
 try simp only [Rg.gp]
 refine Rg.tk 8 ⟨some 18,.fieldAddr 53 (.tmp 3) 1,0,"ref.go:172",#[],none⟩ ?_
 try simp only [Rg.gp]
 refine Rg.tk 9 ⟨some 19,.load 3 (.tmp 18),3,"ref.go:172",#[⟨8,.data⟩],none⟩ ?_
 try simp only [Rg.gp]
 refine Rg.tk 10 ⟨some 20,.move (.tmp 2),3,"ref.go:172",#[],none⟩ ?_
 try simp only [Rg.gp]
 refine Rg.rd1 5 ⟨some 15,.call ⟨.value (.func 84),#[.tmp 11,.tmp 13,.tmp 14],#[3,3,3]⟩,39,"ref.go:172",#[⟨1,.data⟩,⟨3,.data⟩,⟨4,.data⟩],none⟩ fun K hK => ?_
 go_simp
 go_at_call 84
 with_reducible refine (HDX.out _).mono ?_
 rintro z v1 ⟨a1, c1, rfl, ho1, hb1⟩
 rw [HXL.out] at ho1 ⊢

 refine hK.out _ _ ?_ (fun hHeld => ?_)
 ·(try dsimp only)
  exact SBN.keep hHeld hb1
 clear hK K
 try simp only [Rg.gp]
 refine Rg.rd1 11 ⟨some 21,.call ⟨.value (.func 84),#[.tmp 17,.tmp 19,.tmp 20],#[3,3,3]⟩,39,"ref.go:172",#[⟨7,.data⟩,⟨9,.data⟩,⟨10,.data⟩,⟨5,.chain⟩],none⟩ fun K hK => ?_
 go_simp
 go_at_call 84
 with_reducible refine (HDY.out _).mono ?_
 rintro z v2 ⟨a2, c2, rfl, ho2, hb2⟩
 rw [HYL.out] at ho2 ⊢

 refine hK.out _ _ ?_ (fun hHeld => ?_)
 ·(try dsimp only)
  exact SBN.keep hHeld hb2
 clear hK K
 try simp only [Rg.gp]
 refine Rg.tk 12 ⟨some 7,.assign (.tmp 15),39,"ref.go:172",#[⟨5,.data⟩,⟨11,.chain⟩,⟨0,.phase⟩,⟨1,.phase⟩,⟨2,.phase⟩,⟨3,.phase⟩,⟨4,.phase⟩,⟨5,.phase⟩,⟨6,.textOnly Go.Departure.lateStores⟩,⟨7,.textOnly Go.Departure.lateStores⟩,⟨8,.textOnly Go.Departure.lateStores⟩,⟨9,.textOnly Go.Departure.lateStores⟩,⟨10,.textOnly Go.Departure.lateStores⟩,⟨11,.textOnly Go.Departure.lateStoresUnsure⟩],none⟩ ?_
 try simp only [Rg.gp]
 refine Rg.tk 13 ⟨some 8,.assign (.tmp 21),39,"ref.go:172",#[⟨11,.data⟩,⟨12,.chain⟩,⟨0,.phase⟩,⟨1,.phase⟩,⟨2,.phase⟩,⟨3,.phase⟩,⟨4,.phase⟩,⟨5,.phase⟩,⟨6,.phase⟩,⟨7,.phase⟩,⟨8,.phase⟩,⟨9,.phase⟩,⟨10,.phase⟩,⟨11,.phase⟩,⟨12,.phase⟩],none⟩ ?_
 try simp only [Rg.gp]
 refine wpAnyH_done (by kernel_rfl) ?_ _
 obtain ⟨g1, c1', hg, hgb, hR1⟩ := RC.of_own ho1 HXL.out HE.out.1
 injection hg with hg1 _ hg3
 subst hg1 hg3
 obtain ⟨g2, c2', hg, hgb2, hR2⟩ := RC.of_own ho2 HYL.out HE.out.1
 injection hg with hg1 _ hg3
 subst hg1 hg3
 have HX2 := Lib.hid (hR1.below hb2)
 have HY2 := Lib.hid hR2
 have HF2 := Lib.hid hHeld
 have HGG : Hid (W.heap.size < g1 ∧ g1 < g2) := Lib.hid ⟨by have := HGL.out; have : W0.heap.size ≤ g1 := hgb; omega, Nat.lt_of_lt_of_le hR1.lt hgb2⟩
 clear hHeld hS0 ho1 ho2 hb1 hb2 hgb hgb2 hR1 hR2
 go_wp2
 go_loopw [9] (fun i wr => ∃ k : Nat, k ≤ F.e ∧ i = .int .i64 (k : Nat) ∧ Hid (RC (mapK (fun j => (X.getD j 0 + Y.getD j 0) % F.p) X k) g1 c1 wr) ∧ Hid (RC Y g2 c2 wr) ∧ Hid (FB3 W.heap.size F b cap wr) ∧ Hid (Below W.heap.size W wr)) (fun i _ => F.e - (intOf i).toNat)
 case atStart => exact ⟨0, Nat.zero_le _, rfl, by rw [mapK_zero]; exact HX2, HY2, Lib.hid HF2.out.1, HF2.out.2⟩
 case round =>
  obtain ⟨k, hk, rfl, KX, KY, KF, KB⟩ := hrel
  obtain ⟨f0, f1, f2⟩ := KF.out
  by_cases hlt : k < F.e
  ·have hlti : (k : Int) < (F.e : Int) := by omega
   obtain ⟨u, hu⟩ : ∃ u, X.getD k 0 = u := ⟨_, rfl⟩
   obtain ⟨v, hv⟩ : ∃ v, Y.getD k 0 = v := ⟨_, rfl⟩
   have hun : u < F.p := by rw [← hu]; exact HXP.out k
   have hvn : v < F.p := by rw [← hv]; exact HYP.out k
   have hci : wr.drew.cell? ⟨g1, k, none⟩ = some (.int .i64 (u : Nat)) := by
    rw [KX.out.drew.cell (by rw [mapK_len, HXL.out]; exact hlt), mapK_hi (by rw [HXL.out]; exact hlt), hu]
   have hfz : wr.drew.frozen? ⟨g1, k, none⟩ = false := KX.out.drew.frozen k
   have hS0 : wr.drew.cell? ⟨W.heap.size, 0, none⟩ = some (.int .i64 (F.p : Nat)) ∧ wr.drew.cell? ⟨g2, k, none⟩ = some (.int .i64 (v : Nat)) := ⟨f0, by rw [KY.out.drew.cell (by rw [HYL.out]; exact hlt), hv]⟩
   obtain ⟨t, ht⟩ : ∃ t, u + v = t := ⟨_, rfl⟩
   have hti : (u : Int) + (v : Int) = (t : Int) := by omega
   have ht2 : t ≤ 128 := by omega
   obtain ⟨r, hr⟩ : ∃ r, t % F.p = r := ⟨_, rfl⟩
   have hri : (t : Int) % (F.p : Int) = (r : Int) := by rw [← hr]; exact (Int.natCast_emod _ _).symm
   have hrt : (t : Int).tmod (F.p : Int) = (r : Int) := by rw [Int.tmod_eq_emod_of_nonneg (by omega)]; exact hri
   have hrp : r < F.p := by rw [← hr]; exact Nat.mod_lt _ hp0
   have hpz : ((F.p : Int) == 0) = false := by simp; omega
   have hpz2 : ¬ F.p = 0 := by omega
   have HSS : Hid ((mapK (fun j => (X.getD j 0 + Y.getD j 0) % F.p) X k).set k r = mapK (fun j => (X.getD j 0 + Y.getD j 0) % F.p) X (k + 1)) := Lib.hid (by rw [← mapK_succ (by rw [HXL.out]; exact hlt)]; congr 1; show r = (X.getD k 0 + Y.getD k 0) % F.p; rw [hu, hv, ht, hr])
   have hwr := w64 (n := r) (Nat.lt_trans hrp (Nat.lt_of_le_of_lt hp6 (by decide)))
   have hwt := w64 (n := t) (Nat.lt_of_le_of_lt ht2 (by decide))
   have HLTK := Lib.hid hlt
   clear hu hv ht hr hk
   go_wp2
   refine wp_region_held_drew (S := fun w' => w'.cell? ⟨W.heap.size, 0, none⟩ = some (.int .i64 (F.p : Nat)) ∧ w'.cell? ⟨g2, k, none⟩ = some (.int .i64 (v : Nat))) (by kernel_rfl) (by with_reducible exact hS0) (fun hHeld => ?_)
   refine Rg.tk 0 ⟨some 28,.move (.tmp 7),39,"ref.go:174",#[],none⟩ ?_
   try simp only [Rg.gp]
   refine Rg.tk 1 ⟨some 29,.move (.tmp 9),3,"ref.go:174",#[],none⟩ ?_
   try simp only [Rg.gp]
   refine Rg.tk 2 ⟨some 30,.move (.tmp 7),39,"ref.go:174",#[],none⟩ ?_
   try simp only [Rg.gp]
   refine Rg.tk 3 ⟨some 31,.move (.tmp 9),3,"ref.go:174",#[],none⟩ ?_
   try simp only [Rg.gp]
   refine Rg.tk 4 ⟨some 32,.indexAddr 39 (.tmp 30) (.tmp 31),0,"ref.go:174",#[⟨2,.data⟩,⟨3,.data⟩],none⟩ ?_
   try simp only [Rg.gp]
   refine Rg.tk 6 ⟨some 34,.move (.tmp 8),39,"ref.go:174",#[],none⟩ ?_
   try simp only [Rg.gp]
   refine Rg.tk 7 ⟨some 35,.move (.tmp 9),3,"ref.go:174",#[],none⟩ ?_
   try simp only [Rg.gp]
   refine Rg.tk 8 ⟨some 36,.indexAddr 39 (.tmp 34) (.tmp 35),0,"ref.go:174",#[⟨6,.data⟩,⟨7,.data⟩],none⟩ ?_
   try simp only [Rg.gp]
   refine Rg.tk 9 ⟨some 37,.load 3 (.tmp 36),3,"ref.go:174",#[⟨8,.data⟩],none⟩ ?_
   try simp only [Rg.gp]
   refine Rg.tk 11 ⟨some 39,.fieldAddr 53 (.tmp 3) 0,0,"ref.go:174",#[],none⟩ ?_
   try simp only [Rg.gp]
   refine Rg.tk 12 ⟨some 40,.load 3 (.tmp 39),3,"ref.go:174",#[⟨11,.data⟩],none⟩ ?_
   try simp only [Rg.gp]
   refine Rg.rd1 5 ⟨some 33,.load 3 (.tmp 32),3,"ref.go:174",#[⟨4,.data⟩],none⟩ fun K hK => ?_
   go_simp
   refine hK.out _ _ ?_ (fun hHeld => ?_)
   ·(try dsimp only)
    exact hHeld
   clear hK K
   try simp only [Rg.gp]
   refine Rg.tk 10 ⟨some 38,.binOp BinOp.add 3 (.tmp 33) (.tmp 37) 3,3,"ref.go:174",#[⟨5,.data⟩,⟨9,.data⟩],none⟩ ?_
   try simp only [Rg.gp]
   refine Rg.tk 13 ⟨some 41,.binOp BinOp.rem 3 (.tmp 38) (.tmp 40) 3,3,"ref.go:174",#[⟨10,.data⟩,⟨12,.data⟩],none⟩ ?_
   try simp only [Rg.gp]
   refine Rg.tk 14 ⟨some 42,.indexAddr 39 (.tmp 28) (.tmp 29),0,"ref.go:174",#[⟨0,.data⟩,⟨1,.data⟩,⟨0,.phase⟩,⟨1,.phase⟩,⟨2,.phase⟩,⟨3,.phase⟩,⟨4,.phase⟩,⟨5,.phase⟩,⟨6,.phase⟩,⟨7,.phase⟩,⟨8,.phase⟩,⟨9,.phase⟩,⟨10,.phase⟩,⟨11,.phase⟩,⟨12,.phase⟩,⟨13,.phase⟩],none⟩ ?_
   try simp only [Rg.gp]
   refine Rg.rd1 15 ⟨none,.store 3 (.tmp 42) (.tmp 41),0,"ref.go:174",#[⟨14,.data⟩,⟨13,.data⟩,⟨0,.phase⟩,⟨1,.phase⟩,⟨2,.phase⟩,⟨3,.phase⟩,⟨4,.phase⟩,⟨5,.phase⟩,⟨6,.phase⟩,⟨7,.phase⟩,⟨8,.phase⟩,⟨9,.phase⟩,⟨10,.phase⟩,⟨11,.phase⟩,⟨12,.phase⟩,⟨13,.phase⟩],none⟩ fun K hK => ?_
   go_simp
   refine hK.out _ _ ?_ (fun hHeld => ?_)
   ·(try dsimp only)
    exact ⟨(World.cell?_setCell_other _ _ _ _ (by have h := HGG.out; simp; try omega)).trans hHeld.1, (World.cell?_setCell_other _ _ _ _ (by have h := HGG.out; simp; try omega)).trans hHeld.2⟩
   clear hK K
   try simp only [Rg.gp]
   refine wpAnyH_done (by kernel_rfl) ?_ _
   clear hHeld hS0
   have hgg := HGG.out
   have HX3 : Hid (RC (mapK (fun j => (X.getD j 0 + Y.getD j 0) % F.p) X (k + 1)) g1 c1 (wr.drew.setCell ⟨g1, k, none⟩ (.int .i64 (r : Nat)))) := Lib.hid (by rw [← HSS.out]; exact KX.out.drew.set k r)
   have HY3 : Hid (RC Y g2 c2 (wr.drew.setCell ⟨g1, k, none⟩ (.int .i64 (r : Nat)))) := Lib.hid (KY.out.of (Below.heap_setCell _ _ _ _ (by show g2 ≠ g1; omega)))
   have HF3 : Hid (FB3 W.heap.size F b cap (wr.drew.setCell ⟨g1, k, none⟩ (.int .i64 (r : Nat)))) := Lib.hid (KF.out.of (Below.heap_setCell _ _ _ _ (by show W.heap.size ≠ g1; omega)))
   have HB3 : Hid (Below W.heap.size W (wr.drew.setCell ⟨g1, k, none⟩ (.int .i64 (r : Nat)))) := Lib.hid (setCell_above KB.out.drew (by omega))
   clear hgg
   go_wp2
   go_roundw
   case rel => exact ⟨k + 1, HLTK.out, by go_num, HX3, HY3, HF3, HB3⟩
   case measure => have h := HLTK.out; (try simp [intOf]); (try omega)
  ·have hlti : ¬ (k : Int) < (F.e : Int) := by omega
   obtain rfl : k = F.e := by omega
   have hxx : mapK (fun j => (X.getD j 0 + Y.getD j 0) % F.p) X F.e = (List.range X.length).map fun j => (X.getD j 0 + Y.getD j 0) % F.p := by rw [← HXL.out]; exact mapK_full _ X
   rw [hxx] at KX
   obtain ⟨Z, hZ⟩ : ∃ Z, ((List.range X.length).map fun j => (X.getD j 0 + Y.getD j 0) % F.p) = Z := ⟨_, rfl⟩
   have hZl : Z.length = F.e := by rw [← hZ]; simp; exact HXL.out
   have hZ6 : ∀ z ∈ Z, z < 64 := fun z hz => by
    rw [← hZ] at hz
    obtain ⟨j, _, rfl⟩ := List.mem_map.1 hz
    exact Nat.lt_of_lt_of_le (Nat.mod_lt _ hp0) hp6
   have HRZ := Lib.hid HR.out
   rw [hZ] at KX HRZ
   have hnn := KX.out.nn
   have HC : Hid (Calls Try.prog 85 #[.int .i64 (F.p : Nat), .slice (some ⟨g1, 0, none⟩) F.e c1] wr fun e w' => e = .returned (.int .i64 (F.add x y : Nat)) ∧ Below wr.heap.size wr w') := Lib.hid (by
    have t := rnumber_c hp6 (by rw [hZl]; have := HE.out.2; omega) hZ6 hnn
    rw [hZl, HRZ.out] at t
    exact t)
   clear hxx hZ hZl hZ6 hnn hk
   go_wp2_with fail
   refine HC.out.mono ?_
   rintro z w5 ⟨rfl, hb⟩
   have HBF := Lib.hid (KB.out.trans (hb.mono KB.out.size))
   clear hb f0 f1 f2
   go_wp2
   go_ret
   exact ⟨rfl, HBF.out⟩
set_option maxHeartbeats 6400000 in
theorem rneg_c {F : Gf} {b cap : Nat} {W : World} {x : Nat} (hx : x < F.q) (h : FldAt F b cap W) : Calls Try.prog 67 #[FV F b cap, .int .i64 x] W fun e w' => e = .returned (.int .i64 (F.neg x : Nat)) ∧ Below W.heap.size W w' := by
 obtain ⟨h1, hp6, h3, h4, h5, h6, h7⟩ := fd_small F h.mem
 have hp0 : 0 < F.p := by omega
 have hx0 : x ≤ 100000 := by omega
 have he20 : F.e ≤ 20 := by omega
 obtain ⟨X, hX⟩ : ∃ X, dgL F.p F.e x = X := ⟨_, rfl⟩
 have hXl : X.length = F.e := by rw [← hX]; exact dgL_len _ _ _
 have HXP : Hid (∀ k, X.getD k 0 < F.p) := Lib.hid fun k => by rw [← hX]; exact getD_lt hp0 (dgL_lt hp0 _ _) k
 have HR : Hid (numL F.p ((List.range X.length).map fun j => (F.p - X.getD j 0) % F.p) = F.neg x) := Lib.hid (by rw [hXl, ← hX]; exact rneg_e F.p F.e x)
 have HDX : Hid (∀ w, Calls Try.prog 84 #[.int .i64 (F.p : Nat), .int .i64 (F.e : Nat), .int .i64 (x : Nat)] w (DPost X w)) := Lib.hid fun w => by rw [← hX]; exact rdigits_c hp0 hp6 he20 hx0
 have HXL := Lib.hid hXl
 have HE : Hid (0 < F.e ∧ F.e ≤ 6) := Lib.hid ⟨by omega, h4⟩
 obtain ⟨W0, hW0⟩ : ∃ W0, W.alloc (.cells #[.int .i64 F.p, .int .i64 F.e, FM F b cap] 53) = W0 := ⟨_, rfl⟩
 have hal : Below W.heap.size W W0 := by rw [← hW0]; exact (Below.refl _ _).alloc (Nat.le_refl _) _
 have hS0 : SBN F b cap W.heap.size W W0 := ⟨by rw [← hW0]; exact fb3_new W rfl, Lib.hid hal⟩
 have hgl : W.heap.size < W0.heap.size := by rw [← hW0]; simp
 have HGL := Lib.hid hgl
 clear h hal hgl h1 h3 h4 h5 h6 h7 hX hXl hx
 obtain ⟨f0, f1, f2⟩ := hS0.1
 have HS0 := Lib.hid hS0
 go_enter Try.func67, Try.ntmps67
 go_wp2_with fail
 clear hW0 hS0
 refine (HDX.out _).mono ?_
 rintro z v1 ⟨a1, c1, rfl, ho1, hb1⟩
 rw [HXL.out] at ho1 ⊢
 obtain ⟨g1, c1', hg, hgb, hR1⟩ := RC.of_own ho1 HXL.out HE.out.1
 injection hg with hg1 _ hg3
 subst hg1 hg3
 have HF2 := Lib.hid (SBN.keep HS0.out hb1)
 have HX2 := Lib.hid hR1
 have HGG : Hid (W.heap.size < g1) := Lib.hid (by have := HGL.out; omega)
 clear ho1 hb1 hgb hR1 f0 f1 f2
 go_wp2
 go_loopw [6] (fun i wr => ∃ k : Nat, k ≤ F.e ∧ i = .int .i64 (k : Nat) ∧ Hid (RC (mapK (fun j => (F.p - X.getD j 0) % F.p) X k) g1 c1 wr) ∧ Hid (FB3 W.heap.size F b cap wr) ∧ Hid (Below W.heap.size W wr)) (fun i _ => F.e - (intOf i).toNat)
 case atStart => exact ⟨0, Nat.zero_le _, rfl, by rw [mapK_zero]; exact HX2, Lib.hid HF2.out.1, HF2.out.2⟩
 case round =>
  obtain ⟨k, hk, rfl, KX, KF, KB⟩ := hrel
  obtain ⟨f0, f1, f2⟩ := KF.out
  by_cases hlt : k < F.e
  ·have hlti : (k : Int) < (F.e : Int) := by omega
   obtain ⟨u, hu⟩ : ∃ u, X.getD k 0 = u := ⟨_, rfl⟩
   have hun : u < F.p := by rw [← hu]; exact HXP.out k
   have hci : wr.drew.cell? ⟨g1, k, none⟩ = some (.int .i64 (u : Nat)) := by
    rw [KX.out.drew.cell (by rw [mapK_len, HXL.out]; exact hlt), mapK_hi (by rw [HXL.out]; exact hlt), hu]
   have hfz : wr.drew.frozen? ⟨g1, k, none⟩ = false := KX.out.drew.frozen k
   have hS0 : wr.drew.cell? ⟨W.heap.size, 0, none⟩ = some (.int .i64 (F.p : Nat)) ∧ True := ⟨f0, trivial⟩
   obtain ⟨t, ht⟩ : ∃ t, F.p - u = t := ⟨_, rfl⟩
   have hti : (F.p : Int) - (u : Int) = (t : Int) := by omega
   have ht2 : t ≤ 128 := by omega
   obtain ⟨r, hr⟩ : ∃ r, t % F.p = r := ⟨_, rfl⟩
   have hri : (t : Int) % (F.p : Int) = (r : Int) := by rw [← hr]; exact (Int.natCast_emod _ _).symm
   have hrt : (t : Int).tmod (F.p : Int) = (r : Int) := by rw [Int.tmod_eq_emod_of_nonneg (by omega)]; exact hri
   have hrp : r < F.p := by rw [← hr]; exact Nat.mod_lt _ hp0
   have hpz : ((F.p : Int) == 0) = false := by simp; omega
   have hpz2 : ¬ F.p = 0 := by omega
   have HSS : Hid ((mapK (fun j => (F.p - X.getD j 0) % F.p) X k).set k r = mapK (fun j => (F.p - X.getD j 0) % F.p) X (k + 1)) := Lib.hid (by rw [← mapK_succ (by rw [HXL.out]; exact hlt)]; congr 1; show r = (F.p - X.getD k 0) % F.p; rw [hu, ht, hr])
   have hwr := w64 (n := r) (Nat.lt_trans hrp (Nat.lt_of_le_of_lt hp6 (by decide)))
   have hwt := w64 (n := t) (Nat.lt_of_le_of_lt ht2 (by decide))
   have HLTK := Lib.hid hlt
   clear hu ht hr hk
   go_wp2
   refine wp_region_held_drew (S := fun w' => w'.cell? ⟨W.heap.size, 0, none⟩ = some (.int .i64 (F.p : Nat)) ∧ True) (by kernel_rfl) (by with_reducible exact hS0) (fun hHeld => ?_)
   refine Rg.tk 0 ⟨some 19,.move (.tmp 5),39,"ref.go:183",#[],none⟩ ?_
   try simp only [Rg.gp]
   refine Rg.tk 1 ⟨some 20,.move (.tmp 6),3,"ref.go:183",#[],none⟩ ?_
   try simp only [Rg.gp]
   refine Rg.tk 2 ⟨some 21,.fieldAddr 53 (.tmp 2) 0,0,"ref.go:183",#[],none⟩ ?_
   try simp only [Rg.gp]
   refine Rg.tk 3 ⟨some 22,.load 3 (.tmp 21),3,"ref.go:183",#[⟨2,.data⟩],none⟩ ?_
   try simp only [Rg.gp]
   refine Rg.tk 4 ⟨some 23,.move (.tmp 5),39,"ref.go:183",#[],none⟩ ?_
   try simp only [Rg.gp]
   refine Rg.tk 5 ⟨some 24,.move (.tmp 6),3,"ref.go:183",#[],none⟩ ?_
   try simp only [Rg.gp]
   refine Rg.tk 6 ⟨some 25,.indexAddr 39 (.tmp 23) (.tmp 24),0,"ref.go:183",#[⟨4,.data⟩,⟨5,.data⟩],none⟩ ?_
   try simp only [Rg.gp]
   refine Rg.tk 9 ⟨some 28,.fieldAddr 53 (.tmp 2) 0,0,"ref.go:183",#[],none⟩ ?_
   try simp only [Rg.gp]
   refine Rg.tk 10 ⟨some 29,.load 3 (.tmp 28),3,"ref.go:183",#[⟨9,.data⟩],none⟩ ?_
   try simp only [Rg.gp]
   refine Rg.rd1 7 ⟨some 26,.load 3 (.tmp 25),3,"ref.go:183",#[⟨6,.data⟩],none⟩ fun K hK => ?_
   go_simp
   refine hK.out _ _ ?_ (fun hHeld => ?_)
   ·(try dsimp only)
    exact hHeld
   clear hK K
   try simp only [Rg.gp]
   refine Rg.tk 8 ⟨some 27,.binOp BinOp.sub 3 (.tmp 22) (.tmp 26) 3,3,"ref.go:183",#[⟨3,.data⟩,⟨7,.data⟩],none⟩ ?_
   try simp only [Rg.gp]
   refine Rg.tk 11 ⟨some 30,.binOp BinOp.rem 3 (.tmp 27) (.tmp 29) 3,3,"ref.go:183",#[⟨8,.data⟩,⟨10,.data⟩],none⟩ ?_
   try simp only [Rg.gp]
   refine Rg.tk 12 ⟨some 31,.indexAddr 39 (.tmp 19) (.tmp 20),0,"ref.go:183",#[⟨0,.data⟩,⟨1,.data⟩,⟨0,.phase⟩,⟨1,.phase⟩,⟨2,.phase⟩,⟨3,.phase⟩,⟨4,.phase⟩,⟨5,.phase⟩,⟨6,.phase⟩,⟨7,.phase⟩,⟨8,.phase⟩,⟨9,.phase⟩,⟨10,.phase⟩,⟨11,.phase⟩],none⟩ ?_
   try simp only [Rg.gp]
   refine Rg.rd1 13 ⟨none,.store 3 (.tmp 31) (.tmp 30),0,"ref.go:183",#[⟨12,.data⟩,⟨11,.data⟩,⟨0,.phase⟩,⟨1,.phase⟩,⟨2,.phase⟩,⟨3,.phase⟩,⟨4,.phase⟩,⟨5,.phase⟩,⟨6,.phase⟩,⟨7,.phase⟩,⟨8,.phase⟩,⟨9,.phase⟩,⟨10,.phase⟩,⟨11,.phase⟩],none⟩ fun K hK => ?_
   go_simp
   refine hK.out _ _ ?_ (fun hHeld => ?_)
   ·(try dsimp only)
    exact ⟨(World.cell?_setCell_other _ _ _ _ (by have h := HGG.out; simp; try omega)).trans hHeld.1, trivial⟩
   clear hK K
   try simp only [Rg.gp]
   refine wpAnyH_done (by kernel_rfl) ?_ _
   clear hHeld hS0
   have hgg := HGG.out
   have HX3 : Hid (RC (mapK (fun j => (F.p - X.getD j 0) % F.p) X (k + 1)) g1 c1 (wr.drew.setCell ⟨g1, k, none⟩ (.int .i64 (r : Nat)))) := Lib.hid (by rw [← HSS.out]; exact KX.out.drew.set k r)
   have HF3 : Hid (FB3 W.heap.size F b cap (wr.drew.setCell ⟨g1, k, none⟩ (.int .i64 (r : Nat)))) := Lib.hid (KF.out.of (Below.heap_setCell _ _ _ _ (by show W.heap.size ≠ g1; omega)))
   have HB3 : Hid (Below W.heap.size W (wr.drew.setCell ⟨g1, k, none⟩ (.int .i64 (r : Nat)))) := Lib.hid (setCell_above KB.out.drew (by omega))
   clear hgg
   go_wp2
   go_roundw
   case rel => exact ⟨k + 1, HLTK.out, by go_num, HX3, HF3, HB3⟩
   case measure => have h := HLTK.out; (try simp [intOf]); (try omega)
  ·have hlti : ¬ (k : Int) < (F.e : Int) := by omega
   obtain rfl : k = F.e := by omega
   have hxx : mapK (fun j => (F.p - X.getD j 0) % F.p) X F.e = (List.range X.length).map fun j => (F.p - X.getD j 0) % F.p := by rw [← HXL.out]; exact mapK_full _ X
   rw [hxx] at KX
   obtain ⟨Z, hZ⟩ : ∃ Z, ((List.range X.length).map fun j => (F.p - X.getD j 0) % F.p) = Z := ⟨_, rfl⟩
   have hZl : Z.length = F.e := by rw [← hZ]; simp; exact HXL.out
   have hZ6 : ∀ z ∈ Z, z < 64 := fun z hz => by
    rw [← hZ] at hz
    obtain ⟨j, _, rfl⟩ := List.mem_map.1 hz
    exact Nat.lt_of_lt_of_le (Nat.mod_lt _ hp0) hp6
   have HRZ := Lib.hid HR.out
   rw [hZ] at KX HRZ
   have hnn := KX.out.nn
   have HC : Hid (Calls Try.prog 85 #[.int .i64 (F.p : Nat), .slice (some ⟨g1, 0, none⟩) F.e c1] wr fun e w' => e = .returned (.int .i64 (F.neg x : Nat)) ∧ Below wr.heap.size wr w') := Lib.hid (by
    have t := rnumber_c hp6 (by rw [hZl]; have := HE.out.2; omega) hZ6 hnn
    rw [hZl, HRZ.out] at t
    exact t)
   clear hxx hZ hZl hZ6 hnn hk
   go_wp2_with fail
   refine HC.out.mono ?_
   rintro z w5 ⟨rfl, hb⟩
   have HBF := Lib.hid (KB.out.trans (hb.mono KB.out.size))
   clear hb f0 f1 f2
   go_wp2
   go_ret
   exact ⟨rfl, HBF.out⟩
end Go.Proofs.Ytdafhhojiioifaa

/- The reference's remainder of polynomials. -/
namespace Go.Proofs.Ytdafhhojiioifaa
open Go.RowKit Go.Fl
set_option maxRecDepth 100000
set_option linter.unusedVariables false
set_option linter.unusedSimpArgs false
set_option linter.unusedSectionVars false
/-- a list is answered -/
def VP (L : List Nat) (W : World) (e : Ending) (w' : World) : Prop := ∃ a c, e = .returned (.slice a L.length c) ∧ NN L w' (.slice a L.length c) ∧ Below W.heap.size W w'
/-- a multiple of m taken off, k places -/
def rsI (p c : Nat) (m : List Nat) (i0 : Nat) : Nat → List Nat → List Nat
 | 0, o => o
 | k + 1, o => (fun o => o.set (Nat.add i0 k) (Nat.mod (Nat.add (o.getD (Nat.add i0 k) 0) (Nat.mul (Nat.sub p c) (m.getD k 0))) p)) (rsI p c m i0 k o)
/-- the rounds from the end -/
def rsO (p : Nat) (m : List Nat) (d n : Nat) : Nat → List Nat → List Nat
 | 0, o => o
 | j + 1, o => (fun o => rsI p (o.getD (Nat.sub (Nat.sub n 1) j) 0) m (Nat.sub (Nat.sub (Nat.sub n 1) j) d) (Nat.succ d) o) (rsO p m d n j o)
def restL (p : Nat) (l m : List Nat) : List Nat := (rsO p m (Nat.sub m.length 1) l.length (Nat.sub l.length (Nat.sub m.length 1)) l).take (Nat.sub m.length 1)
theorem rsI_len (p c : Nat) (m : List Nat) (i0 : Nat) (o : List Nat) : ∀ k, (rsI p c m i0 k o).length = o.length
 | 0 => rfl
 | k + 1 => by show (List.set _ _ _).length = _; rw [List.length_set, rsI_len p c m i0 o k]
theorem rsO_len (p : Nat) (m : List Nat) (d n : Nat) (o : List Nat) : ∀ j, (rsO p m d n j o).length = o.length
 | 0 => rfl
 | j + 1 => by show (rsI _ _ _ _ _ _).length = _; rw [rsI_len, rsO_len p m d n o j]
theorem set_lt {p : Nat} {o : List Nat} (h : ∀ x ∈ o, x < p) {t y : Nat} (hy : y < p) : ∀ x ∈ o.set t y, x < p := fun x hx => by
 rcases List.mem_or_eq_of_mem_set hx with hx | rfl
 ·exact h x hx
 ·exact hy
theorem rsI_lt {p : Nat} (hp : 0 < p) (c : Nat) (m : List Nat) (i0 : Nat) {o : List Nat} (h : ∀ x ∈ o, x < p) : ∀ k, ∀ x ∈ rsI p c m i0 k o, x < p
 | 0 => h
 | k + 1 => set_lt (rsI_lt hp c m i0 h k) (Nat.mod_lt _ hp)
theorem rsO_lt {p : Nat} (hp : 0 < p) (m : List Nat) (d n : Nat) {o : List Nat} (h : ∀ x ∈ o, x < p) : ∀ j, ∀ x ∈ rsO p m d n j o, x < p
 | 0 => h
 | j + 1 => rsI_lt hp _ m _ (rsO_lt hp m d n h j) _
theorem restL_lt {p : Nat} (hp : 0 < p) {l m : List Nat} (h : ∀ x ∈ l, x < p) : ∀ x ∈ restL p l m, x < p := fun x hx => rsO_lt hp m _ _ h _ x (List.mem_of_mem_take hx)
theorem restL_len {p : Nat} {l m : List Nat} (h : m.length - 1 ≤ l.length) : (restL p l m).length = m.length - 1 := by
 unfold restL
 rw [List.length_take, rsO_len]
 show min (m.length - 1) l.length = _
 omega
set_option maxHeartbeats 6400000 in
theorem rest_c {p : Nat} {l m : List Nat} {al am : Option Addr} {cl cm : Nat} (hp0 : 0 < p) (hp6 : p ≤ 64) (hl : l.length ≤ 100) (hl0 : 0 < l.length) (hm0 : 0 < m.length) (hml : m.length - 1 ≤ l.length) (hlp : ∀ x ∈ l, x < p) (hmp : ∀ x ∈ m, x ≤ p) {W : World} (nl : NN l W (.slice al l.length cl)) (nm : NN m W (.slice am m.length cm)) :
  Calls Try.prog 91 #[.int .i64 (p : Nat), .slice al l.length cl, .slice am m.length cm] W (VP (restL p l m) W) := by
 obtain ⟨i0, hi, hz0, hz1, hz2⟩ := info_parts info3
 obtain ⟨W0, hW0⟩ : ∃ W0, W.alloc (.cells #[] 3) = W0 := ⟨_, rfl⟩
 have HB0 : Hid (Below W.heap.size W W0) := Lib.hid (by rw [← hW0]; exact (Below.refl _ _).alloc (Nat.le_refl _) _)
 have HO0 : Hid (W0.ownsRow W.heap.size 3 1 (.slice (some ⟨W.heap.size, 0, none⟩) 0 0) 0 []) := Lib.hid (by rw [← hW0]; exact own_empty _ _ (Nat.le_refl _))
 have HLP := Lib.hid hlp
 have HMP : Hid (∀ k, m.getD k 0 ≤ p) := Lib.hid fun k => by
  rw [List.getD_eq_getElem?_getD]
  rcases Nat.lt_or_ge k m.length with hk | hk
  ·rw [List.getElem?_eq_getElem hk]; exact hmp _ (List.getElem_mem hk)
  ·rw [List.getElem?_eq_none hk]; exact Nat.zero_le _
 have HNM := Lib.hid nm
 have hcl : ∃ b o, al = some ⟨b, o, none⟩ ∧ ∀ t, t < l.length → W.cell? ⟨b, o + t, none⟩ = some (.int .i64 (l.getD t 0 : Nat)) := by
  rcases nl with ⟨e, _⟩ | ⟨b, o, c, e, g1, g2, g3⟩
  ·rw [e] at hl0; simp at hl0
  ·injection e with e1 e2 e3; exact ⟨b, o, e1, g3⟩
 obtain ⟨bl, ol, rfl, hcl⟩ := hcl
 have HCL : Hid (∀ (j : Nat) (u : Value), (l.map N64)[j]? = some u → W0.cell? ((⟨bl, ol, none⟩ : Addr).add j) = some u) := Lib.hid (num_cellsK fun t ht => (HB0.out.cell (p := ⟨bl, ol + t, none⟩) (World.block_lt_of_cell? W _ (hcl t ht))).trans (hcl t ht))
 obtain ⟨n, hn⟩ : ∃ n, l.length = n := ⟨_, rfl⟩
 obtain ⟨d, hd⟩ : ∃ d, m.length - 1 = d := ⟨_, rfl⟩
 have hdi : (m.length : Int) - 1 = (d : Int) := by omega
 have HML : Hid (m.length = d + 1) := Lib.hid (by omega)
 have HRL : Hid ((restL p l m).length = d) := Lib.hid (by rw [restL_len hml, hd])
 have HR : Hid (restL p l m = (rsO p m d n (n - d) l).take d) := Lib.hid (by unfold restL; rw [← hd, ← hn]; rfl)
 have HNL := Lib.hid hn
 have HML7 : Hid (m.length ≤ 101) := Lib.hid (by omega)
 rw [hd] at hml
 rw [hn] at hl hl0 hml
 have HOL : Hid (∀ j, (rsO p m d n j l).length = n) := Lib.hid fun j => by rw [rsO_len, hn]
 have HW0 : Hid (W0.heap.size = W.heap.size + 1) := Lib.hid (by rw [← hW0]; simp)
 rw [hn]
 have hml1 : (m.length : Int) ≤ 101 := by omega
 clear hlp hmp nl nm hcl hd hn
 go_enter Try.func91, Try.ntmps91
 go_wp2_with (at_builtin; refine wpList_append_own _ rfl _ _ 39 rfl W.heap.size 3 i0 (.int .i64 0) 1 8 Try.underlying39 hi hz0 hz1 hz2 rfl (by decide) _ _ _ rfl HO0.out ⟨bl, ol, none⟩ n cl (l.map N64) rfl (by rw [List.length_map, HNL.out, Nat.mul_one]) HCL.out (fun u hu => by obtain ⟨y, _, rfl⟩ := List.mem_map.1 hu; rfl) ?c3 ?c4 ?c5 ?_)
 case c3 => unfold maxLen; omega
 case c4 => omega
 case c5 => rw [HW0.out]; omega
 intro v' w1 hown' hgrow hnil
 have hown2 : w1.ownsRow W.heap.size 3 1 v' n (l.map N64) := by first | exact hown' | (have h := hown'; rwa [Nat.zero_add, List.nil_append] at h)
 obtain ⟨g, c, rfl, hgb, hRC⟩ := RC.of_own hown2 HNL.out hl0
 have HX : Hid (RC (rsO p m d n 0 l) g c w1) := Lib.hid hRC
 have HG : Hid (W.heap.size ≤ g) := Lib.hid hgb
 have HB1 : Hid (Below W.heap.size W w1) := Lib.hid (HB0.out.trans (below_own hgrow (fun j hj => by simp [Value.ownBlock] at hj; omega) (by rw [HW0.out]; omega)))
 clear hown' hown2 hgrow hnil hRC hgb hW0
 go_wp2
 go_loopw [9] (fun i wr => ∃ j : Nat, j ≤ n - d ∧ i = .int .i64 ((n : Int) - 1 - (j : Nat)) ∧ Hid (RC (rsO p m d n j l) g c wr) ∧ Hid (Below W.heap.size W wr)) (fun i _ => (intOf i + 1 - (d : Int)).toNat)
 case atStart => exact ⟨0, Nat.zero_le _, by go_num, HX, HB1⟩
 case round =>
  obtain ⟨j, hj, rfl, KX, KB⟩ := hrel
  by_cases hlt : j < n - d
  ·obtain ⟨i, hii⟩ : ∃ i, n - 1 - j = i := ⟨_, rfl⟩
   have hie : (n : Int) - 1 - (j : Int) = (i : Int) := by omega
   obtain ⟨o, ho⟩ : ∃ o, rsO p m d n j l = o := ⟨_, rfl⟩
   have hol : o.length = n := by rw [← ho]; exact HOL.out j
   have HOP : Hid (∀ x ∈ o, x < p) := Lib.hid (by rw [← ho]; exact rsO_lt hp0 m d n HLP.out j)
   obtain ⟨cc, hcc⟩ : ∃ cc, o.getD i 0 = cc := ⟨_, rfl⟩
   have hccp : cc < p := by rw [← hcc]; exact getD_lt hp0 HOP.out i
   obtain ⟨s, hs⟩ : ∃ s, i - d = s := ⟨_, rfl⟩
   have hsi : (i : Int) - (d : Int) = (s : Int) := by omega
   have HNX : Hid (rsO p m d n (j + 1) l = rsI p cc m s (d + 1) o) := Lib.hid (by
    show rsI p ((rsO p m d n j l).getD (n - 1 - j) 0) m (n - 1 - j - d) (d + 1) (rsO p m d n j l) = _
    rw [ho, hii, hcc, hs])
   rw [ho] at KX
   have hin : i < n := by omega
   have hini : (i : Int) < (n : Int) := by omega
   have hid : (d : Int) ≤ (i : Int) := by omega
   have hcel := KX.out.cell (t := i) (by rw [hol]; exact hin)
   rw [hcc] at hcel
   have HOL2 : Hid (∀ k, (rsI p cc m s k o).length = n) := Lib.hid fun k => by rw [rsI_len, hol]
   have HIP : Hid (∀ k, ∀ x ∈ rsI p cc m s k o, x < p) := Lib.hid fun k => rsI_lt hp0 cc m s HOP.out k
   have HX0 : Hid (RC (rsI p cc m s 0 o) g c wr) := KX
   have HSD : Hid (s + d = i) := Lib.hid (by omega)
   have HLTJ := Lib.hid hlt
   have HIE := Lib.hid hii
   have hnn : (n : Int) - 1 - (j : Int) = (i : Int) := hie
   rw [hie]
   clear ho hcc hs hj hol hii hie hnn
   go_wp2
   clear hcel
   go_loopw [11] (fun kk wi => ∃ k : Nat, k ≤ d + 1 ∧ kk = .int .i64 (k : Nat) ∧ Hid (RC (rsI p cc m s k o) g c wi) ∧ Hid (Below W.heap.size W wi)) (fun kk _ => d + 1 - (intOf kk).toNat)
   case atStart => exact ⟨0, Nat.zero_le _, rfl, HX0, KB⟩
   case round =>
    obtain ⟨k, hk, rfl, JX, JB⟩ := hrel
    by_cases hkd : k < d + 1
    ·have hkdi : (k : Int) ≤ (d : Int) := by omega
     obtain ⟨Q, hQ⟩ : ∃ Q, rsI p cc m s k o = Q := ⟨_, rfl⟩
     have hQl : Q.length = n := by rw [← hQ]; exact HOL2.out k
     obtain ⟨t, ht⟩ : ∃ t, s + k = t := ⟨_, rfl⟩
     have hti : (s : Int) + (k : Int) = (t : Int) := by omega
     have htn : t < n := by have := HSD.out; omega
     have htni : (t : Int) < (n : Int) := by omega
     obtain ⟨u, hu⟩ : ∃ u, Q.getD t 0 = u := ⟨_, rfl⟩
     have hup : u < p := by rw [← hu, ← hQ]; exact getD_lt hp0 (HIP.out k) t
     obtain ⟨mk, hmk⟩ : ∃ x, m.getD k 0 = x := ⟨_, rfl⟩
     have hmkp : mk ≤ p := by rw [← hmk]; exact HMP.out k
     rw [hQ] at JX
     have hci : wr.drew.cell? ⟨g, t, none⟩ = some (.int .i64 (u : Nat)) := by rw [JX.out.drew.cell (by rw [hQl]; exact htn), hu]
     have hfz : wr.drew.frozen? ⟨g, t, none⟩ = false := JX.out.drew.frozen t
     obtain ⟨bm, om, rfl, hcm⟩ := HNM.out.at (k := k) (by rw [HML.out]; exact hkd)
     rw [hmk] at hcm
     have hbm := World.block_lt_of_cell? W _ hcm
     have HBM : Hid (bm ≠ g) := Lib.hid (by have := HG.out; have : bm < W.heap.size := hbm; omega)
     have hS0 : wr.drew.cell? ⟨bm, om + k, none⟩ = some (.int .i64 (mk : Nat)) ∧ True := ⟨(JB.out.drew.cell (p := ⟨bm, om + k, none⟩) hbm).trans hcm, trivial⟩
     have hkm : k < m.length := by rw [HML.out]; exact hkd
     have hkmi : (k : Int) < (m.length : Int) := by omega
     obtain ⟨q, hq⟩ : ∃ q, p - cc = q := ⟨_, rfl⟩
     have hqi : (p : Int) - (cc : Int) = (q : Int) := by omega
     have hq6 : q ≤ 64 := by omega
     obtain ⟨y, hy⟩ : ∃ y, q * mk = y := ⟨_, rfl⟩
     have hy2 : y ≤ 64 * 64 := by rw [← hy]; exact Nat.mul_le_mul hq6 (by omega)
     have hyi : (q : Int) * (mk : Int) = (y : Int) := by rw [← hy]; exact (Int.natCast_mul _ _).symm
     obtain ⟨z, hz⟩ : ∃ z, u + y = z := ⟨_, rfl⟩
     have hzi : (u : Int) + (y : Int) = (z : Int) := by omega
     have hz2 : z ≤ 5000 := by omega
     obtain ⟨r, hr⟩ : ∃ r, z % p = r := ⟨_, rfl⟩
     have hri : (z : Int) % (p : Int) = (r : Int) := by rw [← hr]; exact (Int.natCast_emod _ _).symm
     have hrt : (z : Int).tmod (p : Int) = (r : Int) := by rw [Int.tmod_eq_emod_of_nonneg (by omega)]; exact hri
     have hrp : r < p := by rw [← hr]; exact Nat.mod_lt _ hp0
     have hpz : ((p : Int) == 0) = false := by simp; omega
     have hpz2 : ¬ p = 0 := by omega
     have HSS : Hid (rsI p cc m s (k + 1) o = Q.set t r) := Lib.hid (by
      show (rsI p cc m s k o).set (s + k) (((rsI p cc m s k o).getD (s + k) 0 + (p - cc) * m.getD k 0) % p) = _
      rw [hQ, ht, hu, hmk, hq, hy, hz, hr])
     have hws := w64 (n := s) (by omega)
     have hwt := w64 (n := t) (by omega)
     have hwr := w64 (n := r) (Nat.lt_trans hrp (Nat.lt_of_le_of_lt hp6 (by decide)))
     have hwq := w64 (n := q) (Nat.lt_of_le_of_lt hq6 (by decide))
     have hwy := w64 (n := y) (Nat.lt_of_le_of_lt hy2 (by decide))
     have hwz := w64 (n := z) (Nat.lt_of_le_of_lt hz2 (by decide))
     have HKD := Lib.hid hkd
     clear hu hmk hq hy hz hr ht hQ hQl hcm hbm hk
     go_wp2
     refine wp_region_held_drew (S := fun w' => w'.cell? ⟨bm, om + k, none⟩ = some (.int .i64 (mk : Nat)) ∧ True) (by kernel_rfl) (by with_reducible exact hS0) (fun hHeld => ?_)
     refine Rg.tk 0 ⟨some 35,.move (.tmp 7),39,"ref.go:77",#[],none⟩ ?_
     try simp only [Rg.gp]
     refine Rg.tk 1 ⟨some 36,.move (.tmp 9),3,"ref.go:77",#[],none⟩ ?_
     try simp only [Rg.gp]
     refine Rg.tk 2 ⟨some 37,.move (.tmp 8),3,"ref.go:77",#[],none⟩ ?_
     try simp only [Rg.gp]
     refine Rg.tk 3 ⟨some 38,.binOp BinOp.sub 3 (.tmp 36) (.tmp 37) 3,3,"ref.go:77",#[⟨1,.data⟩,⟨2,.data⟩],none⟩ ?_
     try simp only [Rg.gp]
     refine Rg.tk 4 ⟨some 39,.move (.tmp 11),3,"ref.go:77",#[],none⟩ ?_
     try simp only [Rg.gp]
     refine Rg.tk 5 ⟨some 40,.binOp BinOp.add 3 (.tmp 38) (.tmp 39) 3,3,"ref.go:77",#[⟨3,.data⟩,⟨4,.data⟩],none⟩ ?_
     try simp only [Rg.gp]
     refine Rg.tk 6 ⟨some 41,.move (.tmp 7),39,"ref.go:77",#[],none⟩ ?_
     try simp only [Rg.gp]
     refine Rg.tk 7 ⟨some 42,.move (.tmp 9),3,"ref.go:77",#[],none⟩ ?_
     try simp only [Rg.gp]
     refine Rg.tk 8 ⟨some 43,.move (.tmp 8),3,"ref.go:77",#[],none⟩ ?_
     try simp only [Rg.gp]
     refine Rg.tk 9 ⟨some 44,.binOp BinOp.sub 3 (.tmp 42) (.tmp 43) 3,3,"ref.go:77",#[⟨7,.data⟩,⟨8,.data⟩],none⟩ ?_
     try simp only [Rg.gp]
     refine Rg.tk 10 ⟨some 45,.move (.tmp 11),3,"ref.go:77",#[],none⟩ ?_
     try simp only [Rg.gp]
     refine Rg.tk 11 ⟨some 46,.binOp BinOp.add 3 (.tmp 44) (.tmp 45) 3,3,"ref.go:77",#[⟨9,.data⟩,⟨10,.data⟩],none⟩ ?_
     try simp only [Rg.gp]
     refine Rg.tk 12 ⟨some 47,.indexAddr 39 (.tmp 41) (.tmp 46),0,"ref.go:77",#[⟨6,.data⟩,⟨11,.data⟩],none⟩ ?_
     try simp only [Rg.gp]
     refine Rg.tk 14 ⟨some 49,.move (.tmp 0),3,"ref.go:77",#[],none⟩ ?_
     try simp only [Rg.gp]
     refine Rg.tk 15 ⟨some 50,.move (.tmp 10),3,"ref.go:77",#[],none⟩ ?_
     try simp only [Rg.gp]
     refine Rg.tk 16 ⟨some 51,.binOp BinOp.sub 3 (.tmp 49) (.tmp 50) 3,3,"ref.go:77",#[⟨14,.data⟩,⟨15,.data⟩],none⟩ ?_
     try simp only [Rg.gp]
     refine Rg.tk 17 ⟨some 52,.move (.tmp 2),39,"ref.go:77",#[],none⟩ ?_
     try simp only [Rg.gp]
     refine Rg.tk 18 ⟨some 53,.move (.tmp 11),3,"ref.go:77",#[],none⟩ ?_
     try simp only [Rg.gp]
     refine Rg.tk 19 ⟨some 54,.indexAddr 39 (.tmp 52) (.tmp 53),0,"ref.go:77",#[⟨17,.data⟩,⟨18,.data⟩],none⟩ ?_
     try simp only [Rg.gp]
     refine Rg.tk 20 ⟨some 55,.load 3 (.tmp 54),3,"ref.go:77",#[⟨19,.data⟩],none⟩ ?_
     try simp only [Rg.gp]
     refine Rg.tk 21 ⟨some 56,.binOp BinOp.mul 3 (.tmp 51) (.tmp 55) 3,3,"ref.go:77",#[⟨16,.data⟩,⟨20,.data⟩],none⟩ ?_
     try simp only [Rg.gp]
     refine Rg.tk 23 ⟨some 58,.move (.tmp 0),3,"ref.go:77",#[],none⟩ ?_
     try simp only [Rg.gp]
     refine Rg.rd1 13 ⟨some 48,.load 3 (.tmp 47),3,"ref.go:77",#[⟨12,.data⟩],none⟩ fun K hK => ?_
     go_simp
     refine hK.out _ _ ?_ (fun hHeld => ?_)
     ·(try dsimp only)
      exact hHeld
     clear hK K
     try simp only [Rg.gp]
     refine Rg.tk 22 ⟨some 57,.binOp BinOp.add 3 (.tmp 48) (.tmp 56) 3,3,"ref.go:77",#[⟨13,.data⟩,⟨21,.data⟩],none⟩ ?_
     try simp only [Rg.gp]
     refine Rg.tk 24 ⟨some 59,.binOp BinOp.rem 3 (.tmp 57) (.tmp 58) 3,3,"ref.go:77",#[⟨22,.data⟩,⟨23,.data⟩],none⟩ ?_
     try simp only [Rg.gp]
     refine Rg.tk 25 ⟨some 60,.indexAddr 39 (.tmp 35) (.tmp 40),0,"ref.go:77",#[⟨0,.data⟩,⟨5,.data⟩,⟨0,.phase⟩,⟨1,.phase⟩,⟨2,.phase⟩,⟨3,.phase⟩,⟨4,.phase⟩,⟨5,.phase⟩,⟨6,.phase⟩,⟨7,.phase⟩,⟨8,.phase⟩,⟨9,.phase⟩,⟨10,.phase⟩,⟨11,.phase⟩,⟨12,.phase⟩,⟨13,.phase⟩,⟨14,.phase⟩,⟨15,.phase⟩,⟨16,.phase⟩,⟨17,.phase⟩,⟨18,.phase⟩,⟨19,.phase⟩,⟨20,.phase⟩,⟨21,.phase⟩,⟨22,.phase⟩,⟨23,.phase⟩,⟨24,.phase⟩],none⟩ ?_
     try simp only [Rg.gp]
     refine Rg.rd1 26 ⟨none,.store 3 (.tmp 60) (.tmp 59),0,"ref.go:77",#[⟨25,.data⟩,⟨24,.data⟩,⟨0,.phase⟩,⟨1,.phase⟩,⟨2,.phase⟩,⟨3,.phase⟩,⟨4,.phase⟩,⟨5,.phase⟩,⟨6,.phase⟩,⟨7,.phase⟩,⟨8,.phase⟩,⟨9,.phase⟩,⟨10,.phase⟩,⟨11,.phase⟩,⟨12,.phase⟩,⟨13,.phase⟩,⟨14,.phase⟩,⟨15,.phase⟩,⟨16,.phase⟩,⟨17,.phase⟩,⟨18,.phase⟩,⟨19,.phase⟩,⟨20,.phase⟩,⟨21,.phase⟩,⟨22,.phase⟩,⟨23,.phase⟩,⟨24,.phase⟩],none⟩ fun K hK => ?_
     go_simp
     refine hK.out _ _ ?_ (fun hHeld => ?_)
     ·(try dsimp only)
      exact ⟨(World.cell?_setCell_other _ _ _ _ (by have h := HBM.out; simp; try (intro e; exact (h e.symm).elim))).trans hHeld.1, trivial⟩
     clear hK K
     try simp only [Rg.gp]
     refine wpAnyH_done (by kernel_rfl) ?_ _
     clear hHeld hS0
     have HX3 : Hid (RC (rsI p cc m s (k + 1) o) g c (wr.drew.setCell ⟨g, t, none⟩ (.int .i64 (r : Nat)))) := Lib.hid (by rw [HSS.out]; exact JX.out.drew.set t r)
     have HB3 : Hid (Below W.heap.size W (wr.drew.setCell ⟨g, t, none⟩ (.int .i64 (r : Nat)))) := Lib.hid (setCell_above JB.out.drew HG.out)
     go_wp2
     go_roundw
     case rel => exact ⟨k + 1, HKD.out, by go_num, HX3, HB3⟩
     case measure => have h := HKD.out; (try simp [intOf]); (try omega)
    ·have hkdi : ¬ (k : Int) ≤ (d : Int) := by omega
     obtain rfl : k = d + 1 := by omega
     rw [← HNX.out] at JX
     have HIE2 := HIE.out
     have HJN : Hid (j + 1 ≤ n - d) := Lib.hid hlt
     have hstep : IntKind.i64.wrap ((i : Int) - 1) = (n : Int) - 1 - ((j + 1 : Nat) : Int) := (IntWalk.i64_in _ (by omega)).trans (by omega)
     go_wp2
     go_roundw
     case rel => exact ⟨j + 1, HJN.out, by first | (refine congrArg _ ?_; have := HIE.out; omega) | go_num, JX, JB⟩
     case measure => have h1 := HIE.out; have h2 := HJN.out; (try simp [intOf]); (try omega)
  ·have hdi2 : ¬ (d : Int) ≤ (n : Int) - 1 - (j : Int) := by omega
   obtain rfl : j = n - d := by omega
   have hmin : ¬ n < d := by omega
   have hmini : ¬ (n : Int) < (d : Int) := by omega
   have hmin2 : (d : Int) ≤ (n : Int) := by omega
   have hl2 := HOL.out (n - d)
   have HCP : Hid (n ≤ c) := Lib.hid (by
    rcases KX.out.2 with ⟨h, _⟩ | ⟨g', cap, cur, h, _, _, h4, _⟩
    ·cases h
    ·rw [hl2] at h h4; injection h with _ _ h3; omega)
   have hdc : d ≤ c := by have := HCP.out; omega
   have hdci : (d : Int) ≤ (c : Int) := by omega
   have HNT : Hid (NN (restL p l m) wr (.slice (some ⟨g, 0, none⟩) d c)) := Lib.hid (by
    rw [HR.out]
    exact KX.out.nn.take (by rw [hl2]; omega))
   have HKB := Lib.hid KB.out
   clear hl2 hj
   go_wp2
   ·go_ret
    exact ⟨some ⟨g, 0, none⟩, c, by rw [HRL.out]; rfl, by rw [HRL.out]; exact HNT.out, HKB.out⟩
   ·have he : n = d := by omega
    go_ret
    exact ⟨some ⟨g, 0, none⟩, c, by rw [HRL.out, ← he]; rfl, by rw [HRL.out]; exact HNT.out, HKB.out⟩
end Go.Proofs.Ytdafhhojiioifaa
