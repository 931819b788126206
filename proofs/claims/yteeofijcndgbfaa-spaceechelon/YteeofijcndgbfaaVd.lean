/- A matrix turned. -/
import Derived.Test.YteeofijcndgbfaaVb
import Derived.Test.YteeofijcndgbfaaTs
namespace Go.Proofs.Yteeofijcndgbfaa
open Go.RowKit Go.Fl
set_option maxRecDepth 100000
set_option linter.unusedVariables false
set_option linter.unusedSimpArgs false
set_option linter.unusedSectionVars false
theorem tuM_succ (k : Nat) (A : List (List Nat)) : tuM (k + 1) A = tuM k A ++ [clM A k] := by unfold tuM; rw [List.range_succ, List.map_append]; rfl
theorem clM_len (A : List (List Nat)) (k : Nat) : (clM A k).length = A.length := by simp
theorem clM_snoc {A : List (List Nat)} {r k : Nat} (hr : r < A.length) : clM (A.take (r + 1)) k = clM (A.take r) k ++ [(A.getD r []).getD k 0] := by
 unfold clM; rw [take_snoc (d := []) hr, List.map_append]; rfl
/-- the turned matrix, its rows in blocks of their own -/
def TuO (n : Nat) (A : List (List Nat)) (W : World) (e : Ending) (w' : World) : Prop := ∃ us a c, e = .returned (.slice a n c) ∧ OL (tuM n A) us W.heap.size w' (.slice a n c) ∧ Below W.heap.size W w'
set_option maxHeartbeats 3200000 in
theorem turn_o {n m ca : Nat} {A : List (List Nat)} {aa : Option Addr} {W : World} (hn : n ≤ 100) (hm : m ≤ 100) (la : A.length = m) (hw : ∀ k, k < m → n ≤ (A.getD k []).length) (na : MM A W (.slice aa m ca)) :
  Calls Try.prog 38 #[.int .i64 (n : Nat), .slice aa m ca] W (TuO n A W) := by
 obtain ⟨i0, hi, hz0, hz1, hz2⟩ := info_parts info3
 obtain ⟨j0, ji, jz0, jz1, jz2⟩ := info_parts info27
 have HWD := Lib.hid hw
 have HLA := Lib.hid la
 obtain ⟨w2, hw2⟩ : ∃ w2, w2 = W.alloc (.cells #[] 27) := ⟨_, rfl⟩
 have HB2 : Hid (Below W.heap.size W w2) := Lib.hid (by rw [hw2]; exact (Below.refl _ _).alloc (Nat.le_refl _) _)
 have HO2 : Hid (OL [] [] W.heap.size w2 (.slice (some ⟨W.heap.size, 0, none⟩) 0 0)) := Lib.hid (by rw [hw2]; exact OL.nil W.heap.size W (Nat.le_refl _))
 have HW2 := Lib.hid hw2
 have HNA := Lib.hid na
 clear na hw2 hw la
 go_enter Try.func38, Try.ntmps38
 go_wp2
 rw [← HW2.out]
 clear HW2
 go_loopw [5, 6] (fun v i wr => ∃ (k : Nat) (us : List Value), k ≤ n ∧ i = .int .i64 k ∧ Hid (OL (tuM k A) us W.heap.size wr v) ∧ Hid (Below W.heap.size W wr)) (fun _ i _ => n - (intOf i).toNat)
 case atStart => exact ⟨0, [], Nat.zero_le _, rfl, HO2, HB2⟩
 case round =>
  obtain ⟨k, us, hk, rfl, HO, KB⟩ := hrel
  obtain ⟨aP, cP, hvs⟩ := HO.out.shape
  rw [tuM_len] at hvs
  subst hvs
  by_cases hlt : k < n
  ·obtain ⟨wo, hwo⟩ : ∃ w, w = wr := ⟨_, rfl⟩
   subst hwo
   have hk5 : k < 100 := by omega
   obtain ⟨w4, hw4⟩ : ∃ w, w = wo.alloc (.cells #[] 3) := ⟨_, rfl⟩
   have HE4 : Hid (w4.ownsRow wo.heap.size 3 1 (.slice (some ⟨wo.heap.size, 0, none⟩) 0 0) 0 []) := Lib.hid (by rw [hw4]; exact own_empty wo wo.heap.size (Nat.le_refl _))
   have HB4 : Hid (Below wo.heap.size wo w4) := Lib.hid (by rw [hw4]; exact (Below.refl _ _).alloc (Nat.le_refl _) _)
   have HW4 := Lib.hid hw4
   clear hw4
   go_wp2
   rw [← HW4.out]
   clear HW4
   go_loopw [7, 8] (fun v i wr => ∃ (r : Nat) (aV : Option Addr) (cV : Nat), r ≤ m ∧ v = .slice aV r cV ∧ i = .int .i64 r ∧ Hid (wr.ownsRow wo.heap.size 3 1 (.slice aV r cV) r ((clM (A.take r) k).map N64)) ∧ Hid (Below wo.heap.size wo wr)) (fun _ i _ => m - (intOf i).toNat)
   case atStart => exact ⟨0, _, _, Nat.zero_le _, rfl, rfl, HE4, HB4⟩
   case round =>
    obtain ⟨r, aV, cV, hr, rfl, rfl, HV, KV⟩ := hrel
    by_cases hlr : r < m
    ·have hr5 : r < 100 := by omega
     have hrA : r < A.length := by rw [HLA.out]; exact hlr
     obtain ⟨b1, o1, rfl, a1, c1, hc1, hn1⟩ := MM.at (R := A) (by rw [HLA.out]; exact HNA.out.below (KB.out.trans (KV.out.mono KB.out.size))) hrA
     obtain ⟨Y, hY⟩ : ∃ L, Hid (A.getD r [] = L) := ⟨_, Lib.hid rfl⟩
     have HSN : Hid (clM (A.take (r + 1)) k = clM (A.take r) k ++ [Y.getD k 0]) := Lib.hid (by rw [clM_snoc hrA, hY.out])
     have hky : k < Y.length := by have := HWD.out r hlr; rw [hY.out] at this; omega
     rw [hY.out] at hc1 hn1
     obtain ⟨b2, o2, rfl, hc2⟩ := hn1.at hky
     obtain ⟨y, hy⟩ : ∃ y, Hid (Y.getD k 0 = y) := ⟨_, Lib.hid rfl⟩
     rw [hy.out] at hc2 HSN
     obtain ⟨ly, hly⟩ : ∃ l, Y.length = l := ⟨_, rfl⟩
     rw [hly] at hc1 hky
     have HKS : Hid (wo.heap.size ≤ wr.heap.size) := Lib.hid KV.out.size
     obtain ⟨CL, hCL⟩ : ∃ L, clM (A.take r) k = L := ⟨_, rfl⟩
     rw [hCL] at HV HSN
     clear hn1 hrA hly hCL
     go_wp2_with (at_builtin; refine wpList_append_own _ rfl _ _ 27 rfl wo.heap.size 3 i0 (.int .i64 0) 1 8 Try.underlying27 hi hz0 hz1 hz2 rfl (by decide) _ _ _ rfl (HV.out.alloc _) ⟨wr.heap.size, 0, none⟩ 1 1 [.int .i64 (y : Nat)] rfl rfl (cell_one_new _ _ _) (fun u hu => by simp at hu; subst hu; rfl) ?c3 ?c4 ?c5 ?_)
     case c3 => unfold maxLen; omega
     case c4 => omega
     case c5 => have := HKS.out; simp; omega
     intro v' w7 hown' hgrow hnil
     have HO7 : Hid (w7.ownsRow wo.heap.size 3 1 v' (r + 1) ((clM (A.take (r + 1)) k).map N64)) := Lib.hid (by rw [HSN.out, List.map_append]; exact hown')
     have HB7 : Hid (Below wo.heap.size wo w7) := Lib.hid ((KV.out.alloc HKS.out _).trans (Bx.below (Bx.grown hgrow fun j hj => (HV.out.lt j hj).1) (by have := HKS.out; simp; omega) fun j hj => hj))
     obtain ⟨aP2, cP2, hvs⟩ : ∃ a c, v' = .slice a (r + 1) c := by
      rcases HO7.out.2 with ⟨e, e2⟩ | ⟨_, _, _, e, _⟩
      ·exact ⟨none, 0, by rw [e, e2]⟩
      ·exact ⟨_, _, e⟩
     subst hvs
     clear hown' hgrow hnil
     go_wp2
     go_roundw
     case rel => exact ⟨r + 1, aP2, cP2, by omega, rfl, by go_num, HO7, HB7⟩
     case measure => simp [intOf]; omega
    ·obtain rfl : m = r := by omega
     have hlr1 : ¬ (m : Int) < (m : Int) := by omega
     obtain ⟨w6, hw6⟩ : ∃ w, w = wr := ⟨_, rfl⟩
     subst hw6
     have HR2 : Hid (w6.ownsRow 0 3 1 (.slice aV m cV) m ((clM A k).map N64)) := Lib.hid (by have h := HV.out; rw [List.take_of_length_le (by rw [HLA.out]; exact Nat.le_refl _)] at h; exact own_weak h (Nat.zero_le _))
     have HO6 := Lib.hid (HO.out.below KV.out)
     have KB6 : Hid (Below W.heap.size W w6) := Lib.hid (KB.out.trans (KV.out.mono KB.out.size))
     have HK6 : Hid (W.heap.size ≤ w6.heap.size) := Lib.hid KB6.out.size
     have HDL := Lib.hid (tuM_len k A)
     have hown6 := HO6.out.own
     rw [HDL.out] at hown6
     have HOW := Lib.hid hown6
     clear hown6
     go_wp2_with (at_builtin; refine wpList_append_own_at _ rfl _ _ 30 rfl W.heap.size 27 j0 (.slice none 0 0) 1 24 Try.underlying30 ji jz0 jz1 jz2 rfl (by decide) _ _ _ rfl (HOW.out.alloc _) ⟨w6.heap.size, 0, none⟩ 1 1 [.slice aV m cV] rfl rfl (cell_one_new _ _ _) (fun u hu => by simp at hu; subst hu; rfl) ?d3 ?d4 ?d5 ?_)
     case d3 => unfold maxLen; omega
     case d4 => omega
     case d5 => have := HK6.out; simp; omega
     intro v' w7 hown' hgrow hnil hat
     have hal2 : Below w6.heap.size w6 (w6.alloc (.cells #[.slice aV m cV] 27)) := (Below.refl _ _).alloc (Nat.le_refl _) _
     have HO7 : Hid (OL (tuM (k + 1) A) (us ++ [.slice aV m cV]) W.heap.size w7 v') := Lib.hid (by
      rw [tuM_succ]
      exact OL.push (HO6.out.below hal2) (by rw [clM_len, HLA.out]; exact own_belowK HR2.out hal2) (by rw [HDL.out]) hown' hgrow)
     have HB7 : Hid (Below W.heap.size W w7) := Lib.hid ((KB6.out.alloc HK6.out _).trans (Bx.below (Bx.grown hgrow fun j hj => (HOW.out.lt j hj).1) (by have := HK6.out; simp; omega) fun j hj => hj))
     clear hown' hgrow hnil hat hal2
     go_wp2
     go_roundw
     case rel => exact ⟨k + 1, us ++ [.slice aV m cV], by omega, by go_num, HO7, HB7⟩
     case measure => simp [intOf]; omega
  ·obtain rfl : n = k := by omega
   have hlt1 : ¬ (n : Int) < (n : Int) := by omega
   go_wp2
   go_ret
   exact ⟨us, aP, cP, rfl, HO.out, KB.out⟩
theorem turn_c {n m ca : Nat} {A : List (List Nat)} {aa : Option Addr} {W : World} (hn : n ≤ 100) (hm : m ≤ 100) (la : A.length = m) (hw : ∀ k, k < m → n ≤ (A.getD k []).length) (na : MM A W (.slice aa m ca)) :
  Calls Try.prog 38 #[.int .i64 (n : Nat), .slice aa m ca] W (MPn (tuM n A) n W) := (turn_o hn hm la hw na).mono fun _ _ ⟨_, a, c, h1, h2, h3⟩ => ⟨a, c, h1, h2.mm, h3⟩
end Go.Proofs.Yteeofijcndgbfaa
