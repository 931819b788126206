/- The sum of reduced rows by a row's coordinates. -/
import Derived.Test.YteeofijcndgbfaaWb
import Derived.Test.YteeofijcndgbfaaVd
namespace Go.Proofs.Yteeofijcndgbfaa
open Go.RowKit Go.Fl
set_option maxRecDepth 100000
set_option linter.unusedVariables false
set_option linter.unusedSimpArgs false
set_option linter.unusedSectionVars false
theorem pcV_len (n : Nat) (R : List (List Nat)) (V : List Nat) : (pcV n R V).length = R.length := by simp
theorem pcV_snoc {n k : Nat} {R : List (List Nat)} {V : List Nat} (hk : k < R.length) : pcV n (R.take (k + 1)) V = pcV n (R.take k) V ++ [V.getD (pvt (Go.Fl.fn (R.getD k [])) n) 0] := by
 unfold pcV; rw [take_snoc (d := []) hk, List.map_append]; rfl
theorem pcV_vn {F : Gf} (hF : Ok F) {n m : Nat} {R : List (List Nat)} {V : List Nat} (lr : R.length = m) (hV : In F V) : Vn F m (pcV n R V) := ⟨by rw [pcV_len, lr], fun x hx => by
 obtain ⟨r, _, rfl⟩ := List.mem_map.1 hx
 exact hV.get hF _⟩
set_option maxHeartbeats 3200000 in
theorem sum_c {F : Gf} {b cap n m ca cx : Nat} {R : List (List Nat)} {V : List Nat} {aa ax : Option Addr} {W : World} (hA : FldAt F b cap W) (hn : n ≤ 100) (hm : m ≤ 100) (la : R.length = m) (ma : Mn F n R) (mv : Vn F n V) (hp : ∀ k, k < m → pvt (Go.Fl.fn (R.getD k [])) n < n) (na : MM R W (.slice aa m ca)) (nx : NN V W (.slice ax n cx)) :
  Calls Try.prog 37 #[FV F b cap, .int .i64 (n : Nat), .slice aa m ca, .slice ax n cx] W (VPn (coK F n R (pcV n R V) m) n W) := by
 obtain ⟨i0, hi, hz0, hz1, hz2⟩ := info_parts info3
 have HFF : Hid (Ok F) := Lib.hid (ok_mem hA.mem)
 obtain ⟨w1, hw1⟩ : ∃ w1, w1 = W.alloc (.cells #[.int .i64 F.p, .int .i64 F.e, FM F b cap] 29) := ⟨_, rfl⟩
 have HAL : Hid (Below W.heap.size W w1) := Lib.hid (by rw [hw1]; exact (Below.refl _ _).alloc (Nat.le_refl _) _)
 have HS1 : Hid (w1.heap.size = W.heap.size + 1) := Lib.hid (by rw [hw1]; simp)
 have HFB : Hid (FBx W.heap.size F b cap w1) := Lib.hid (by rw [hw1]; exact FBx.new W F b cap)
 have HF1 := Lib.hid (hA.below HAL.out)
 have HBb : Hid (b < W.heap.size) := Lib.hid hA.lt
 have HNA := Lib.hid (na.below HAL.out)
 have HNX := Lib.hid (nx.below HAL.out)
 have HMA := Lib.hid ma
 have HMV := Lib.hid mv
 have HLA := Lib.hid la
 have HP := Lib.hid hp
 obtain ⟨w2, hw2⟩ : ∃ w2, w2 = w1.alloc (.cells #[] 3) := ⟨_, rfl⟩
 have HB2 : Hid (Below (W.heap.size + 1) w1 w2) := Lib.hid (by rw [hw2]; exact (Below.refl _ _).alloc (by rw [HS1.out]; exact Nat.le_refl _) _)
 have HO2 : Hid (w2.ownsRow (W.heap.size + 1) 3 1 (.slice (some ⟨W.heap.size + 1, 0, none⟩) 0 0) 0 []) := Lib.hid (by rw [hw2]; have := own_empty w1 (W.heap.size + 1) (by rw [HS1.out]; exact Nat.le_refl _); rwa [HS1.out] at this)
 have HW2 := Lib.hid (by rw [hw1] at hw2; exact hw2)
 clear hA na nx hw1 hw2 ma mv la hp
 go_enter Try.func37, Try.ntmps37
 go_wp2
 rw [← HW2.out]
 clear HW2
 go_loopw [9, 10] (fun v i wr => ∃ (k : Nat) (aP : Option Addr) (cP : Nat), k ≤ m ∧ v = .slice aP k cP ∧ i = .int .i64 k ∧ Hid (wr.ownsRow (W.heap.size + 1) 3 1 (.slice aP k cP) k ((pcV n (R.take k) V).map N64)) ∧ Hid (Below (W.heap.size + 1) w1 wr)) (fun _ i _ => m - (intOf i).toNat)
 case atStart => exact ⟨0, _, _, Nat.zero_le _, rfl, rfl, HO2, HB2⟩
 case round =>
  obtain ⟨k, aP, cP, hk, rfl, rfl, HO, KB⟩ := hrel
  have HBw : Hid (Below w1.heap.size w1 wr) := Lib.hid (by rw [HS1.out]; exact KB.out)
  by_cases hlt : k < m
  ·have hk5 : k < 100 := by omega
   have hkA : k < R.length := by rw [HLA.out]; exact hlt
   obtain ⟨Y, hY⟩ : ∃ L, Hid (R.getD k [] = L) := ⟨_, Lib.hid rfl⟩
   have HVY : Hid (Vn F n Y) := Lib.hid (by rw [← hY.out]; exact mrow HMA.out hkA)
   obtain ⟨b1, o1, rfl, a1, c1, hc1, hny⟩ := MM.at (R := R) (by rw [HLA.out]; exact HNA.out.below HBw.out) hkA
   rw [hY.out, HVY.out.len] at hc1 hny
   obtain ⟨pv, hpv⟩ : ∃ d, Hid (pvt (Go.Fl.fn Y) n = d) := ⟨_, Lib.hid rfl⟩
   have hpl : pv < n := by have := HP.out k hlt; rw [hY.out, hpv.out] at this; exact this
   have HPV : Hid (Calls Try.prog 45 #[.slice a1 n c1] wr fun e w' => e = .returned (.int .i64 (pv : Nat)) ∧ Below wr.heap.size wr w') := Lib.hid (by
    have t := pivot_c (L := Y) (a := a1) (c := c1) (W := wr) (by rw [HVY.out.len]; omega) (by rw [HVY.out.len]; exact hny)
    rw [HVY.out.len, hpv.out] at t; exact t)
   obtain ⟨y, hy⟩ : ∃ y, Hid (V.getD pv 0 = y) := ⟨_, Lib.hid rfl⟩
   have HSN : Hid (pcV n (R.take (k + 1)) V = pcV n (R.take k) V ++ [y]) := Lib.hid (by rw [pcV_snoc hkA, hY.out, hpv.out, hy.out])
   clear hny hkA
   go_wp2_with fail
   with_reducible refine HPV.out.mono ?_
   rintro e w6 ⟨rfl, hb6⟩
   have HKS : Hid (W.heap.size + 1 ≤ w6.heap.size) := Lib.hid (by have := HBw.out.size; have := HS1.out; have := hb6.size; omega)
   have KB6 : Hid (Below (W.heap.size + 1) w1 w6) := Lib.hid (KB.out.trans (hb6.mono (by have := HBw.out.size; have := HS1.out; omega)))
   have HO6 := Lib.hid (own_belowK HO.out hb6)
   obtain ⟨b2, o2, rfl, hc2⟩ := (HNX.out.below (by rw [HS1.out]; exact KB6.out)).atm HMV.out.len hpl
   rw [hy.out] at hc2
   obtain ⟨CL, hCL⟩ : ∃ L, pcV n (R.take k) V = L := ⟨_, rfl⟩
   rw [hCL] at HO6 HSN
   clear hb6 HPV hc1 hCL
   go_wp2_with (at_builtin; refine wpList_append_own _ rfl _ _ 27 rfl (W.heap.size + 1) 3 i0 (.int .i64 0) 1 8 Try.underlying27 hi hz0 hz1 hz2 rfl (by decide) _ _ _ rfl (HO6.out.alloc _) ⟨w6.heap.size, 0, none⟩ 1 1 [.int .i64 (y : Nat)] rfl rfl (cell_one_new _ _ _) (fun u hu => by simp at hu; subst hu; rfl) ?c3 ?c4 ?c5 ?_)
   case c3 => unfold maxLen; omega
   case c4 => omega
   case c5 => have := HKS.out; simp; omega
   intro v' w7 hown' hgrow hnil
   have HO7 : Hid (w7.ownsRow (W.heap.size + 1) 3 1 v' (k + 1) ((pcV n (R.take (k + 1)) V).map N64)) := Lib.hid (by rw [HSN.out, List.map_append]; exact hown')
   have HB7 : Hid (Below (W.heap.size + 1) w1 w7) := Lib.hid ((KB6.out.alloc HKS.out _).trans (Bx.below (Bx.grown hgrow fun j hj => (HO6.out.lt j hj).1) (by have := HKS.out; simp; omega) fun j hj => hj))
   obtain ⟨aP2, cP2, hvs⟩ : ∃ a c, v' = .slice a (k + 1) c := by
    rcases HO7.out.2 with ⟨e, e2⟩ | ⟨_, _, _, e, _⟩
    ·exact ⟨none, 0, by rw [e, e2]⟩
    ·exact ⟨_, _, e⟩
   subst hvs
   clear hown' hgrow hnil
   go_wp2
   go_roundw
   case rel => exact ⟨k + 1, aP2, cP2, by omega, rfl, by go_num, HO7, HB7⟩
   case measure => simp [intOf]; omega
  ·obtain rfl : m = k := by omega
   have hlt1 : ¬ (m : Int) < (m : Int) := by omega
   obtain ⟨wz, hwz⟩ : ∃ w, w = wr := ⟨_, rfl⟩
   subst hwz
   obtain ⟨CV, hCV⟩ : ∃ L, pcV n R V = L := ⟨_, rfl⟩
   have HCV : Hid (Vn F m CV) := Lib.hid (by rw [← hCV]; exact pcV_vn HFF.out HLA.out HMV.out.el)
   have HNC : Hid (NN CV wz (.slice aP m cP)) := Lib.hid (by
    have h := HO.out
    rw [List.take_of_length_le (by rw [HLA.out]; exact Nat.le_refl _), hCV] at h
    rw [← HCV.out.len] at h ⊢
    exact NN.of_owns h)
   have hBz : Below W.heap.size W wz := HAL.out.trans (HBw.out.mono HAL.out.size)
   have HBZ := Lib.hid hBz
   have HCO : Hid (Calls Try.prog 40 #[FV F b cap, .int .i64 (n : Nat), .slice aa m ca, .slice aP m cP] wz (VPn (coK F n R CV m) n wz)) := Lib.hid (by
    have t := combine_c (HF1.out.below HBw.out) (by omega) (by omega) HLA.out HMA.out HCV.out (HNA.out.below HBw.out) HNC.out
    exact t.mono fun _ _ h => h.n (coK_vn HFF.out m).len)
   have HCVE := Lib.hid hCV
   obtain ⟨x0, x1, x2⟩ := HFB.out.below HBw.out (by rw [HS1.out]; exact Nat.lt_succ_self _)
   clear hBz hCV
   go_wp2_with fail
   with_reducible refine HCO.out.mono ?_
   rintro e w9 ⟨a9, c9, rfl, hn9, hb9⟩
   have HN9 := Lib.hid hn9
   have HB9 := Lib.hid (HBZ.out.trans (hb9.mono HBZ.out.size))
   clear hn9 hb9 HCO x0 x1 x2
   go_wp2
   go_ret
   exact ⟨a9, c9, rfl, by rw [HCVE.out]; exact HN9.out, HB9.out⟩
end Go.Proofs.Yteeofijcndgbfaa

/- A matrix whose rows are slices that lie elsewhere, in a row of slices of the call's own. -/
namespace Go.Proofs.Yteeofijcndgbfaa
open Go.RowKit Go.Fl
set_option linter.unusedVariables false
set_option linter.unusedSectionVars false
/-- the slices us lie in a row of the call's own (base is the least block that it may have), and each reads as a row of L; the rows lie in other blocks -/
structure LR (L : List (List Nat)) (us : List Value) (base g c : Nat) (w : World) : Prop where
 len : us.length = L.length
 own : w.ownsRow base 27 1 (.slice (some ⟨g, 0, none⟩) L.length c) L.length us
 row : ∀ i, i < L.length → NN (L.getD i []) w (us.getD i undef)
 off : ∀ i, i < L.length → ∀ b o n k, us.getD i undef = .slice (some ⟨b, o, none⟩) n k → b ≠ g
section
variable {L : List (List Nat)} {us : List Value} {base g c : Nat} {w w' : World}
theorem LR.lt (h : LR L us base g c w) : base ≤ g ∧ g < w.heap.size := World.ownsRow.lt h.own g rfl
theorem LR.below (h : LR L us base g c w) (hb : Below w.heap.size w w') : LR L us base g c w' :=
 ⟨h.len, own_belowK h.own hb, fun i hi => (h.row i hi).below hb, h.off⟩
theorem NN.setOther {R : List Nat} {v : Value} (h : NN R w v) {j : Nat} {x : Value} (hs : ∀ b o n k, v = .slice (some ⟨b, o, none⟩) n k → b ≠ g) : NN R (w.setCell ⟨g, j, none⟩ x) v :=
 h.bx (S := fun k => k = g) (Bx.set (S := fun k => k = g) rfl _) fun r o n k e h => hs r o n k e h
/-- a slice stored into the row -/
theorem LR.set (h : LR L us base g c w) {i : Nat} (hi : i < L.length) {Y : List Nat} {u : Value} (hu : NN Y w u) (ho : ∀ b o n k, u = .slice (some ⟨b, o, none⟩) n k → b ≠ g) : LR (L.set i Y) (us.set i u) base g c (w.setCell ⟨g, i, none⟩ u) := by
 have hlu : i < us.length := by rw [h.len]; exact hi
 have gu : ∀ k, k < us.length → (us.set i u).getD k undef = if k = i then u else us.getD k undef := fun k hk => by
  simp only [List.getD_eq_getElem?_getD, List.getElem?_set]
  by_cases e : i = k
  ·subst e; rw [if_pos rfl, if_pos rfl, if_pos hk]; rfl
  ·rw [if_neg e, if_neg fun h => e h.symm]
 refine ⟨by rw [List.length_set, List.length_set, h.len], by rw [List.length_set]; exact (World.ownsRow.stored h.own i u).1, fun k hk => ?_, fun k hk => ?_⟩
 ·rw [List.length_set] at hk
  rw [gu k (by rw [h.len]; exact hk), set_get hk]
  by_cases e : k = i
  ·rw [if_pos e, if_pos e]; exact hu.setOther ho
  ·rw [if_neg e, if_neg e]; exact (h.row k hk).setOther (h.off k hk)
 ·rw [List.length_set] at hk
  rw [gu k (by rw [h.len]; exact hk)]
  by_cases e : k = i
  ·rw [if_pos e]; exact ho
  ·rw [if_neg e]; exact h.off k hk
theorem LR.cell (h : LR L us base g c w) {i : Nat} (hi : i < L.length) : w.cell? ⟨g, i, none⟩ = some (us.getD i undef) := by
 rw [World.ownsRow.cellAt h.own i (by omega), List.getD_eq_getElem?_getD, List.getElem?_eq_getElem (by rw [h.len]; exact hi)]; rfl
theorem LR.frozen (h : LR L us base g c w) (i : Nat) : w.frozen? ⟨g, i, none⟩ = false := World.ownsRow.frozenAt h.own i
theorem LR.mm (h : LR L us base g c w) : MM L w (.slice (some ⟨g, 0, none⟩) L.length c) := by
 have hc : L.length ≤ c := by
  rcases h.own.2 with ⟨e, _⟩ | ⟨g', cap, cur, e, _, _, h5, _⟩
  ·cases e
  ·injection e with e1 e2 e3; subst e3; exact h5
 refine .inr ⟨g, 0, c, rfl, hc, h.lt.2, fun t ht => ?_⟩
 obtain ⟨a', c', e⟩ := (h.row t ht).shape
 refine ⟨a', c', by rw [Nat.zero_add, h.cell ht, e], by rw [← e]; exact h.row t ht⟩
end
/-- the slices that a matrix's cells hold -/
theorem MM.vals {R : List (List Nat)} {w : World} {b o c : Nat} (h : MM R w (.slice (some ⟨b, o, none⟩) R.length c)) : ∃ us : List Value, us.length = R.length ∧ (∀ (j : Nat) (u : Value), us[j]? = some u → w.cell? ((⟨b, o, none⟩ : Addr).add j) = some u) ∧ (∀ u ∈ us, u.oneCell' = true) ∧ ∀ i, i < R.length → NN (R.getD i []) w (us.getD i undef) := by
 have hk : ∀ k, ∃ u : Value, k < R.length → w.cell? ⟨b, o + k, none⟩ = some u ∧ NN (R.getD k []) w u ∧ u.oneCell' = true := fun k => by
  by_cases hk : k < R.length
  ·obtain ⟨b', o', e, a', c', h1, h2⟩ := h.at hk
   injection e with e
   injection e with e1 e2
   subst e1 e2
   exact ⟨_, fun _ => ⟨h1, h2, rfl⟩⟩
  ·exact ⟨undef, fun h => absurd h hk⟩
 obtain ⟨f, hf⟩ := Classical.axiomOfChoice hk
 have hg : ∀ j u, ((List.range R.length).map f)[j]? = some u → j < R.length ∧ u = f j := fun j u hu => by
  rw [List.getElem?_map, Option.map_eq_some_iff] at hu
  obtain ⟨k, h1, h2⟩ := hu
  have hj : j < R.length := by
   rcases Nat.lt_or_ge j R.length with h | h
   ·exact h
   ·rw [List.getElem?_eq_none (by simpa using h)] at h1; cases h1
  rw [List.getElem?_range hj] at h1
  injection h1 with h1
  subst h1
  exact ⟨hj, h2.symm⟩
 refine ⟨(List.range R.length).map f, by simp, fun j u hu => ?_, fun u hu => ?_, fun i hi => ?_⟩
 ·obtain ⟨hj, rfl⟩ := hg j u hu
  rw [show (⟨b, o, none⟩ : Addr).add j = ⟨b, o + j, none⟩ from by unfold Addr.add; split <;> simp_all]
  exact (hf j hj).1
 ·obtain ⟨k, h1, rfl⟩ := List.mem_map.1 hu
  exact (hf k (List.mem_range.1 h1)).2.2
 ·rw [range_get' f hi]
  exact (hf i hi).2.1
end Go.Proofs.Yteeofijcndgbfaa
