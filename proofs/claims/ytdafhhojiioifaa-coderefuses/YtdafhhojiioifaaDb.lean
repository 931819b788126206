/- The reference reduces rows. -/
import Derived.Test.YtdafhhojiioifaaDa
namespace Go.Proofs.Ytdafhhojiioifaa
open Go.RowKit Go.Fl
set_option maxRecDepth 100000
set_option linter.unusedVariables false
set_option linter.unusedSimpArgs false
set_option linter.unusedSectionVars false

open Go.RowKit
def swL (M : List (List Nat)) (a i : Nat) : List (List Nat) := (M.set a (M.getD i [])).set i (M.getD a [])
def uV (F : Gf) (M : List (List Nat)) (a c : Nat) : List Nat := tiV F (F.inv ((M.getD a []).getD c 0)) (M.getD a [])
def isJ (F : Gf) (M : List (List Nat)) (a c j : Nat) : List (List Nat) := (List.range M.length).map fun k => if k = a then uV F M a c else if k < j then plV F (M.getD k []) (tiV F (F.neg ((M.getD k []).getD c 0)) (uV F M a c)) else M.getD k []
section
variable {F : Gf} {M : List (List Nat)} {a c j k n : Nat}
theorem swL_len (M : List (List Nat)) (a i : Nat) : (swL M a i).length = M.length := by simp [swL]
theorem isJ_len : (isJ F M a c j).length = M.length := by simp [isJ]
theorem isJ_get (hk : k < M.length) : (isJ F M a c j).getD k [] = if k = a then uV F M a c else if k < j then plV F (M.getD k []) (tiV F (F.neg ((M.getD k []).getD c 0)) (uV F M a c)) else M.getD k [] := by
 unfold isJ
 rw [List.getD_eq_getElem?_getD, List.getElem?_map, List.getElem?_range hk]; rfl
theorem getD_ext2 {A B : List (List Nat)} (hl : A.length = B.length) (h : ∀ k, k < A.length → A.getD k [] = B.getD k []) : A = B := List.ext_getElem hl fun i h1 h2 => by
 have := h i h1
 rw [List.getD_eq_getElem?_getD, List.getD_eq_getElem?_getD, List.getElem?_eq_getElem h1, List.getElem?_eq_getElem h2] at this
 exact this
theorem set_getD {A : List (List Nat)} {i k : Nat} {x : List Nat} (hk : k < A.length) : (A.set i x).getD k [] = if i = k then x else A.getD k [] := by
 rw [List.getD_eq_getElem?_getD, List.getElem?_set, List.getD_eq_getElem?_getD]
 by_cases e : i = k
 ·rw [if_pos e, if_pos e, if_pos (by omega)]; rfl
 ·rw [if_neg e, if_neg e]
theorem isJ_set (hj : j < M.length) (hja : j ≠ a) : (isJ F M a c j).set j (plV F (M.getD j []) (tiV F (F.neg ((M.getD j []).getD c 0)) (uV F M a c))) = isJ F M a c (j + 1) := by
 refine getD_ext2 (by rw [List.length_set, isJ_len, isJ_len]) fun k hk => ?_
 rw [List.length_set, isJ_len] at hk
 rw [set_getD (by rw [isJ_len]; exact hk), isJ_get hk, isJ_get hk]
 by_cases e : j = k
 ·subst e; rw [if_pos rfl, if_neg hja, if_pos (Nat.lt_succ_self _)]
 ·rw [if_neg e]
  by_cases e3 : k = a
  ·rw [if_pos e3, if_pos e3]
  ·rw [if_neg e3, if_neg e3]
   by_cases e2 : k < j
   ·rw [if_pos e2, if_pos (by omega)]
   ·rw [if_neg e2, if_neg (by omega)]
theorem isJ_skip : isJ F M a c (a + 1) = isJ F M a c a := by
 refine getD_ext2 (by rw [isJ_len, isJ_len]) fun k hk => ?_
 rw [isJ_len] at hk
 rw [isJ_get hk, isJ_get hk]
 by_cases e : k = a
 ·rw [if_pos e, if_pos e]
 ·rw [if_neg e, if_neg e]
  by_cases e2 : k < a
  ·rw [if_pos e2, if_pos (by omega)]
  ·rw [if_neg e2, if_neg (by omega)]
theorem swL_at {i : Nat} (ha : a < M.length) : (swL M a i).getD a [] = M.getD i [] := by
 unfold swL
 rw [set_getD (by rw [List.length_set]; exact ha), set_getD ha]
 by_cases e : i = a
 ·rw [if_pos e, e]
 ·rw [if_neg e, if_pos rfl]
theorem sw_start {i : Nat} (ha : a < M.length) (hi : i < M.length) : (M.set i (M.getD a [])).set a (tiV F (F.inv ((M.getD i []).getD c 0)) (M.getD i [])) = isJ F (swL M a i) a c 0 := by
 refine getD_ext2 (by rw [List.length_set, List.length_set, isJ_len, swL_len]) fun k hk => ?_
 rw [List.length_set, List.length_set] at hk
 rw [set_getD (by rw [List.length_set]; exact hk), set_getD hk, isJ_get (by rw [swL_len]; exact hk)]
 unfold uV
 rw [swL_at ha]
 by_cases e : a = k
 ·rw [if_pos e, if_pos e.symm]
 ·rw [if_neg e, if_neg (show ¬ k = a from fun h => e h.symm), if_neg (Nat.not_lt_zero _)]
  unfold swL
  rw [set_getD (by rw [List.length_set]; exact hk), set_getD hk, if_neg e]
theorem map_fn_get {M : List (List Nat)} {k : Nat} : (M.map fn).getD k pz = fn (M.getD k []) := by
 rw [List.getD_eq_getElem?_getD, List.getElem?_map, List.getD_eq_getElem?_getD]
 cases M[k]? <;> rfl
theorem swL_fn (M : List (List Nat)) (a i : Nat) : (swL M a i).map fn = swp (M.map fn) a i := by
 unfold swL swp
 rw [List.map_set, List.map_set, map_fn_get, map_fn_get]
theorem getD_ext3 {A B : List Cf} (hl : A.length = B.length) (h : ∀ k, k < A.length → A.getD k pz = B.getD k pz) : A = B := List.ext_getElem hl fun i h1 h2 => by
 have := h i h1
 rw [List.getD_eq_getElem?_getD, List.getD_eq_getElem?_getD, List.getElem?_eq_getElem h1, List.getElem?_eq_getElem h2] at this
 exact this
theorem swL_mn {i : Nat} (h : Mn F n M) (ha : a < M.length) (hi : i < M.length) : Mn F n (swL M a i) := fun r hr => by
 obtain ⟨k, hk, rfl⟩ := List.getElem_of_mem hr
 have e : (swL M a i)[k] = (swL M a i).getD k [] := by rw [List.getD_eq_getElem?_getD, List.getElem?_eq_getElem hk]; rfl
 rw [swL_len] at hk
 rw [e]
 unfold swL
 rw [set_getD (by rw [List.length_set]; exact hk), set_getD hk]
 split
 ·exact mrow h ha
 ·split
  ·exact mrow h hi
  ·exact mrow h hk
variable (hF : Ok F)
include hF
theorem uV_vn (h : Mn F n M) (ha : a < M.length) : Vn F n (uV F M a c) := tiV_vn hF (mrow h ha)
theorem isJ_mn (h : Mn F n M) (ha : a < M.length) : Mn F n (isJ F M a c j) := fun r hr => by
 obtain ⟨k, hk, rfl⟩ := List.mem_map.1 hr
 rw [List.mem_range] at hk
 split
 ·exact uV_vn hF h ha
 ·split
  ·exact plV_vn hF (mrow h hk)
  ·exact mrow h hk
theorem uV_fn (h : Mn F n M) (ha : a < M.length) : fn (uV F M a c) = rowU F (M.map fn) a c := by
 unfold uV rowU
 rw [tiV_fn hF (mrow h ha).len, map_fn_get]
 rfl
theorem isJ_fn (h : Mn F n M) (ha : a < M.length) : (isJ F M a c M.length).map fn = iso F (M.map fn) a c := by
 refine getD_ext3 (by rw [List.length_map, isJ_len, iso_len, List.length_map]) fun k hk => ?_
 rw [List.length_map, isJ_len] at hk
 rw [map_fn_get, isJ_get hk, iso_at (by rw [List.length_map]; exact hk)]
 by_cases e : k = a
 ·rw [if_pos e, if_pos e, uV_fn hF h ha]
 ·rw [if_neg e, if_neg e, if_pos hk, plV_fn hF (mrow h hk).len (by rw [tiV_len, (uV_vn hF h ha).len]), tiV_fn hF (uV_vn hF h ha).len, uV_fn hF h ha, map_fn_get]
  rfl
end
/-- a matrix whose first columns are swept -/
structure SwL (F : Gf) (n col : Nat) (P : List Nat) (S M : List (List Nat)) : Prop where
 mn : Mn F n M
 len : M.length = S.length
 sw : Sw F n col P (M.map fn)
 sp : ∀ v, Sp F (M.map fn) v ↔ Sp F (S.map fn) v
section
variable {F : Gf} (hF : Ok F) {n col : Nat} {P : List Nat} {S M : List (List Nat)}
include hF
theorem SwL.start (h : Mn F n S) : SwL F n 0 [] S S := ⟨h, rfl, Sw.start hF (h.vs hF), fun _ => Iff.rfl⟩
theorem SwL.none (h : SwL F n col P S M) (hz : ∀ k, P.length ≤ k → k < M.length → (M.getD k []).getD col 0 = 0) : SwL F n (col + 1) P S M :=
 ⟨h.mn, h.len, h.sw.none hF fun k hk hk' => by rw [List.length_map] at hk; rw [map_fn_get]; exact hz k hk' hk, h.sp⟩
theorem SwL.piv (h : SwL F n col P S M) {p : Nat} (hp : P.length ≤ p) (hpm : p < M.length) (hy : (M.getD p []).getD col 0 ≠ 0) : SwL F n (col + 1) (P ++ [col]) S (isJ F (swL M P.length p) P.length col (swL M P.length p).length) := by
 have ha : P.length < M.length := by omega
 have hm := swL_mn h.mn ha hpm
 have ha' : P.length < (swL M P.length p).length := by rw [swL_len]; exact ha
 have hl : ∀ x, (x : List (List Nat)) = M → (x.map fn).length = M.length := fun x e => by rw [e, List.length_map]
 have hs : Sw F n col P ((swL M P.length p).map fn) := by rw [swL_fn]; exact h.sw.swap hF (by rw [List.length_map]; exact hpm) hp
 have hc : ((swL M P.length p).map fn).getD P.length pz col ≠ 0 := by rw [map_fn_get, swL_at ha]; exact hy
 refine ⟨isJ_mn hF hm ha', by rw [isJ_len, swL_len]; exact h.len, ?_, fun v => ?_⟩
 ·rw [isJ_fn hF hm ha']; exact hs.piv hF (by rw [List.length_map]; exact ha') hc
 ·rw [isJ_fn hF hm ha', iso_sp hF hs.vs (by rw [List.length_map]; exact ha') hc, swL_fn]
  exact (swp_sp hF h.sw.vs (by rw [List.length_map]; exact ha) (by rw [List.length_map]; exact hpm) v).trans (h.sp v)
theorem SwL.fin (h : SwL F n col P S M) (hS : Mn F n S) (hc : col ≤ n) (he : col = n ∨ P.length = M.length) : M.take P.length = redM F n S := by
 have hw : Sw F n n P (M.map fn) := by
  rcases he with rfl | e
  ·exact h.sw
  ·exact ⟨h.sw.lt, fun p hp => Nat.lt_of_lt_of_le (h.sw.bd p hp) hc, h.sw.le, h.sw.vs, h.sw.lo, h.sw.pv, fun k hk hk' => by rw [List.length_map] at hk; omega⟩
 exact (Sw.redM hF hS (fun r hr => (h.mn r hr).len) hw h.sp).1
end
/-- the reduced rows are the first of a list of the call's own -/
def RDP (F : Gf) (n : Nat) (S : List (List Nat)) (W : World) (e : Ending) (w' : World) : Prop := ∃ (g l c : Nat) (D : List (List Nat)) (us : List Value), e = .returned (.slice (some ⟨g, 0, none⟩) (redM F n S).length c) ∧ OL D us W.heap.size w' (.slice (some ⟨g, 0, none⟩) l c) ∧ D.length = l ∧ D.take (redM F n S).length = redM F n S ∧ (redM F n S).length ≤ l ∧ Below W.heap.size W w'
set_option maxHeartbeats 12800000 in
theorem rreduce_c {F : Gf} {b cap n m cs : Nat} {S : List (List Nat)} {sa : Option Addr} {W : World} (hA : FldAt F b cap W) (hn1 : 1 ≤ n) (hn : n ≤ 100) (hm : m ≤ 1000) (ms : Mn F n S) (ls : S.length = m) (ns : MM S W (.slice sa m cs)) :
  Calls Try.prog 53 #[FV F b cap, .int .i64 (n : Nat), .slice sa m cs] W (RDP F n S W) := by
 obtain ⟨i0, hi, hz0, hz1, hz2⟩ := info_parts info3
 obtain ⟨j0, ji, jz0, jz1, jz2⟩ := info_parts info22
 have HFF : Hid (Ok F) := Lib.hid (ok_mem hA.mem)
 obtain ⟨W0, hW0⟩ : ∃ W0, W.alloc (.cells #[.int .i64 F.p, .int .i64 F.e, FM F b cap] 53) = W0 := ⟨_, rfl⟩
 have HF0 : Hid (FB3 W.heap.size F b cap W0) := Lib.hid (by rw [← hW0]; exact fb3_new W rfl)
 have HB0 : Hid (Below W.heap.size W W0) := Lib.hid (by rw [← hW0]; exact (Below.refl _ _).alloc (Nat.le_refl _) _)
 have HA0 := Lib.hid (hA.below HB0.out)
 have HLT : Hid (W.heap.size < W0.heap.size) := Lib.hid HF0.out.lt
 have HNS := Lib.hid (ns.below HB0.out)
 have HMS := Lib.hid ms
 have HLS := Lib.hid ls
 obtain ⟨W1, hW1⟩ : ∃ w, w = W0.alloc (.cells #[] 39) := ⟨_, rfl⟩
 have HAL : Hid (Below W0.heap.size W0 W1) := Lib.hid (by rw [hW1]; exact (Below.refl _ _).alloc (Nat.le_refl _) _)
 have HO0 : Hid (OL [] [] W0.heap.size W1 (.slice (some ⟨W.heap.size + 1, 0, none⟩) 0 0)) := Lib.hid (by
  have hs : W0.heap.size = W.heap.size + 1 := by rw [← hW0]; simp
  have h := OL.nil W0.heap.size W0 (Nat.le_refl _)
  rw [hs] at h
  rw [hW1, hs]; exact h)
 have HG0 : Hid (W0.heap.size ≤ W.heap.size + 1) := Lib.hid (by rw [← hW0]; simp)
 have HW0 := Lib.hid hW0
 have HW1 := Lib.hid hW1
 clear hW0 hW1 hA ms ls ns
 go_enter Try.func53, Try.ntmps53
 go_wp2_with fail
 rw [HW0.out]
 go_wp2
 rw [← HW1.out]
 go_loopw [7, 8] (fun v i wr => ∃ (k : Nat) (us : List Value) (g c : Nat), k ≤ m ∧ v = .slice (some ⟨g, 0, none⟩) k c ∧ i = .int .i64 (k : Nat) ∧ Hid (W0.heap.size ≤ g) ∧ Hid (OL (S.take k) us W0.heap.size wr (.slice (some ⟨g, 0, none⟩) k c)) ∧ Hid (Below W0.heap.size W0 wr)) (fun _ i _ => m - (intOf i).toNat)
 case atStart => exact ⟨0, [], W.heap.size + 1, 0, Nat.zero_le _, rfl, rfl, HG0, HO0, HAL⟩
 case round =>
  obtain ⟨k, us, g, cm, hk, rfl, rfl, HGF, KO, KB⟩ := hrel
  have HTL : Hid ((S.take k).length = k) := Lib.hid (by rw [List.length_take, HLS.out]; omega)
  by_cases hlt : k < m
  ·obtain ⟨bs, os, has, ar, cr, hcr, hnr⟩ := (HNS.out.below KB.out).at' (fun t ht => (mrow HMS.out ht).len) hlt
   subst has
   have HKS : Hid (k < S.length) := Lib.hid (by rw [HLS.out]; exact hlt)
   have HVR : Hid (Vn F n (S.getD k [])) := Lib.hid (mrow HMS.out HKS.out)
   have HST : Hid (S.take (k + 1) = S.take k ++ [S.getD k []]) := Lib.hid (by rw [List.take_succ_eq_append_getElem HKS.out, List.getD_eq_getElem?_getD, List.getElem?_eq_getElem HKS.out]; rfl)
   obtain ⟨br, or', har, hbr, -⟩ := hnr.at' (k := 0) (by omega)
   subst har
   have HNR := Lib.hid hnr
   have hal3 : Below wr.heap.size wr (wr.alloc (.cells #[] 3)) := (Below.refl _ _).alloc (Nat.le_refl _) _
   have HNW : Hid (∀ j u, ((S.getD k []).map N64)[j]? = some u → (wr.alloc (.cells #[] 3)).cell? ((⟨br, or', none⟩ : Addr).add j) = some u) := Lib.hid (by
    rcases HNR.out.below hal3 with ⟨e, h⟩ | ⟨b', off', cap', h, g1, g2, g3⟩
    ·cases h
    ·cases h
     exact fun j u h => num_cellsK g3 j _ h)
   have hcr3 := (hal3.cell (p := ⟨bs, os + k, none⟩) (World.block_lt_of_cell? _ _ hcr)).trans hcr
   have HOE := Lib.hid (own_empty wr W0.heap.size KB.out.size)
   have hk10 : k < 1000 := by omega
   clear hcr hnr hbr
   go_wp2_with (at_builtin; refine wpList_append_own _ rfl _ _ 39 rfl W0.heap.size 3 i0 (.int .i64 0) 1 8 Try.underlying39 hi hz0 hz1 hz2 rfl (by decide) (.slice (some ⟨wr.heap.size, 0, none⟩) 0 0) 0 [] rfl HOE.out ⟨br, or', none⟩ n cr ((S.getD k []).map N64) rfl (by rw [List.length_map, HVR.out.len, Nat.mul_one]) HNW.out (fun u hu => by obtain ⟨y, _, rfl⟩ := List.mem_map.1 hu; rfl) ?d3 ?d4 ?d5 ?_)
   case d3 => unfold maxLen; omega
   case d4 => omega
   case d5 => have := KB.out.size; simp; omega
   intro v4 w4 hown4 hgrow4 hnil4
   replace hown4 : w4.ownsRow W0.heap.size 3 1 v4 n ((S.getD k []).map N64) := by first | exact hown4 | simpa using hown4
   obtain ⟨a4, c4, hv4⟩ := own_slice hown4
   subst hv4
   have HR4 : Hid (w4.ownsRow 0 3 1 (.slice a4 n c4) n ((S.getD k []).map N64)) := Lib.hid (own_weak hown4 (Nat.zero_le _))
   have HB4 : Hid (Below wr.heap.size wr w4) := Lib.hid (hal3.grown hgrow4 (by simp) (fun k hk => by cases hk; exact Nat.le_refl _))
   have HO4 := Lib.hid (KO.out.below HB4.out)
   have HBW4 : Hid (Below W0.heap.size W0 w4) := Lib.hid (KB.out.trans (HB4.out.mono KB.out.size))
   clear hown4 hgrow4 hnil4 hcr3 hal3
   go_wp2_with (at_builtin; refine wpList_append_own _ rfl _ _ 22 rfl W0.heap.size 39 j0 (.slice none 0 0) 1 24 Try.underlying22 ji jz0 jz1 jz2 rfl (by decide) (.slice (some ⟨g, 0, none⟩) k cm) k us rfl (by have := HO4.out.own.alloc (.cells #[.slice a4 n c4] 39); rw [HTL.out] at this; exact this) ⟨w4.heap.size, 0, none⟩ 1 1 [.slice a4 n c4] rfl rfl (cell_one_new _ _ _) (fun u hu => by simp at hu; subst hu; rfl) ?e3 ?e4 ?e5 ?_)
   case e3 => unfold maxLen; omega
   case e4 => omega
   case e5 => have := HBW4.out.size; simp; omega
   intro v' w9 hown' hgrow hnil
   have hal2 : Below w4.heap.size w4 (w4.alloc (.cells #[.slice a4 n c4] 39)) := (Below.refl _ _).alloc (Nat.le_refl _) _
   have HO9 : Hid (OL (S.take (k + 1)) (us ++ [.slice a4 n c4]) W0.heap.size w9 v') := Lib.hid (by
    rw [HST.out]
    refine OL.push (HO4.out.below hal2) ?_ (by rw [HTL.out]) hown' hgrow
    have := own_belowK HR4.out hal2
    rw [HVR.out.len]; exact this)
   have HB9 : Hid (Below W0.heap.size W0 w9) := Lib.hid ((HBW4.out.trans (hal2.mono HBW4.out.size)).trans (OL.grown (m := 0) (xs := []) (HO4.out.below hal2) (Nat.le_trans HBW4.out.size hal2.size) hgrow))
   have HTL9 : Hid ((S.take (k + 1)).length = k + 1) := Lib.hid (by rw [List.length_take, HLS.out]; omega)
   obtain ⟨g9, c9, hv9, hg9, -⟩ := HO9.out.sl (i := 0) (by rw [HTL9.out]; omega)
   rw [HTL9.out] at hv9
   subst hv9
   have HG9 := Lib.hid hg9
   clear hown' hgrow hnil hal2 hg9
   go_wp2
   go_roundw
   case rel => exact ⟨k + 1, _, g9, c9, by omega, rfl, by go_num, HG9, HO9, HB9⟩
   case measure => simp [intOf]; omega
  ·obtain rfl : k = m := by omega
   have hlt1 : ¬ (k : Int) < (k : Int) := by omega
   have HOS : Hid (OL S us W0.heap.size wr (.slice (some ⟨g, 0, none⟩) k cm)) := Lib.hid (by have := KO.out; rwa [List.take_of_length_le (by rw [HLS.out]; exact Nat.le_refl _)] at this)
   obtain ⟨m, hmk⟩ : ∃ x, x = k := ⟨_, rfl⟩
   subst hmk
   obtain ⟨wo, hwo⟩ : ∃ w, w = wr := ⟨_, rfl⟩
   subst hwo
   clear KO HTL hlt
   go_wp2
   go_loopw [9, 10] (fun r i wr => ∃ (col rr : Nat) (P : List Nat) (M : List (List Nat)) (us : List Value), col ≤ n ∧ rr ≤ m ∧ Hid (P.length = rr) ∧ r = .int .i64 (rr : Nat) ∧ i = .int .i64 (col : Nat) ∧ Hid (SwL F n col P S M) ∧ Hid (OL M us W0.heap.size wr (.slice (some ⟨g, 0, none⟩) m cm)) ∧ Hid (Below W0.heap.size W0 wr)) (fun _ i _ => n - (intOf i).toNat)
   case atStart => exact ⟨0, 0, [], S, us, Nat.zero_le _, Nat.zero_le _, rfl, rfl, rfl, Lib.hid (SwL.start HFF.out HMS.out), HOS, KB⟩
   case round =>
    obtain ⟨col, rr, P, M, us, hcl, hrm, HP, rfl, rfl, HSW, HOM, KB⟩ := hrel
    have HML : Hid (M.length = m) := Lib.hid (by rw [HSW.out.len, HLS.out])
    have HMN := Lib.hid HSW.out.mn
    by_cases hcn : col < n
    ·by_cases hrm2 : rr < m
     ·replace hrm := hrm2
      have HRR : Hid (rr < M.length) := Lib.hid (by rw [HML.out]; exact hrm)
      have HOM' : Hid (OL M us W0.heap.size wr (.slice (some ⟨g, 0, none⟩) M.length cm)) := Lib.hid (by rw [HML.out]; exact HOM.out)
      obtain ⟨wo, hwo⟩ : ∃ w, w = wr := ⟨_, rfl⟩
      subst hwo
      clear hrm2
      go_wp2
      go_loopw [11] (fun i wr => ∃ p : Nat, rr ≤ p ∧ p ≤ m ∧ i = .int .i64 (p : Nat) ∧ Hid (∀ k, rr ≤ k → k < p → (M.getD k []).getD col 0 = 0) ∧ wr = wo) (fun i _ => m - (intOf i).toNat)
      case atStart => exact ⟨rr, Nat.le_refl _, Nat.le_of_lt hrm, rfl, Lib.hid (fun k h1 h2 => by omega), rfl⟩
      case round =>
       obtain ⟨p, hp1, hp2, rfl, KZ, rfl⟩ := hrel
       by_cases hpm : p < m
       ·have HPM : Hid (p < M.length) := Lib.hid (by rw [HML.out]; exact hpm)
        have hcp := HOM'.out.cell HPM.out
        obtain ⟨ap, cp, husp⟩ := HOM'.out.usl HPM.out
        have hnp := HOM'.out.nn HPM.out
        have hrp := HOM'.out.row p HPM.out
        have HVP : Hid (Vn F n (M.getD p [])) := Lib.hid (mrow HMN.out HPM.out)
        rw [husp] at hcp hnp hrp
        rw [HVP.out.len] at hcp hnp
        obtain ⟨bx, ox, hap, hbx, hcy⟩ := hnp.at' hcn
        subst hap
        obtain ⟨yy, hyy⟩ : ∃ x, Hid ((M.getD p []).getD col 0 = x) := ⟨_, Lib.hid rfl⟩
        rw [hyy.out] at hcy
        have hpi : (p : Int) < (m : Int) := by omega
        by_cases hy0 : yy = 0
        ·have HZ2 : Hid (∀ k, rr ≤ k → k < p + 1 → (M.getD k []).getD col 0 = 0) := Lib.hid fun k h1 h2 => by
          by_cases e : k = p
          ·rw [e, hyy.out, hy0]
          ·exact KZ.out k h1 (by omega)
         subst hy0
         clear hnp hrp
         go_wp2
         go_roundw
         case rel => exact ⟨p + 1, by omega, by omega, by go_num, HZ2, trivial⟩
         case measure => simp [intOf]; omega
        ·have hy0i : ((yy : Int) == 0) = false := by simp; omega
         have HY0 : Hid (yy ≠ 0) := Lib.hid hy0
         have hpmi : ((p : Int) == (m : Int)) = false := by simp; omega
         have HYQ : Hid (yy < F.q) := Lib.hid (by rw [← hyy.out]; exact HVP.out.el.get HFF.out col)
         obtain ⟨iy, hiy⟩ : ∃ x, Hid (F.inv yy = x) := ⟨_, Lib.hid rfl⟩
         obtain ⟨Y, HYE⟩ : ∃ y, Hid (tiV F iy (M.getD p []) = y) := ⟨_, Lib.hid rfl⟩
         have HVY : Hid (Vn F n Y) := Lib.hid (by rw [← HYE.out]; exact tiV_vn HFF.out HVP.out)
         have HYL : Hid (Y.length = n) := Lib.hid HVY.out.len
         obtain ⟨M', HM'⟩ : ∃ x, Hid (swL M rr p = x) := ⟨_, Lib.hid rfl⟩
         have HML' : Hid (M'.length = m) := Lib.hid (by rw [← HM'.out, swL_len, HML.out])
         have HMN' : Hid (Mn F n M') := Lib.hid (by rw [← HM'.out]; exact swL_mn HMN.out HRR.out HPM.out)
         have HYU : Hid (uV F M' rr col = Y) := Lib.hid (by unfold uV; rw [← HM'.out, swL_at HRR.out, hyy.out, hiy.out, HYE.out])
         have HSW0 : Hid ((M.set p (M.getD rr [])).set rr Y = isJ F M' rr col 0) := Lib.hid (by
          have := sw_start (F := F) (c := col) HRR.out HPM.out
          rw [hyy.out, hiy.out, HYE.out, HM'.out] at this; exact this)
         have HSN : Hid (SwL F n (col + 1) (P ++ [col]) S (isJ F M' rr col M'.length)) := Lib.hid (by
          have := HSW.out.piv HFF.out (p := p) (by rw [HP.out]; exact hp1) HPM.out (by rw [hyy.out]; exact hy0)
          rw [HP.out, HM'.out] at this; exact this)
         have hcr := HOM'.out.cell HRR.out
         obtain ⟨ar, cr, husr⟩ := HOM'.out.usl HRR.out
         have hrr := HOM'.out.row rr HRR.out
         have HVR : Hid (Vn F n (M.getD rr [])) := Lib.hid (mrow HMN.out HRR.out)
         rw [husr] at hcr hrr
         rw [HVR.out.len] at hcr
         have hfp := HOM'.out.frozen p
         obtain ⟨w3, hw3⟩ : ∃ w, w = wr.setCell ⟨g, p, none⟩ (.slice ar n cr) := ⟨_, rfl⟩
         have HO3 : Hid (OL (M.set p (M.getD rr [])) (us.set p (.slice ar n cr)) W0.heap.size w3 (.slice (some ⟨g, 0, none⟩) m cm)) := Lib.hid (by
          have h := HOM'.out.set HPM.out (L := M.getD rr []) (u := .slice ar n cr) (by rw [HVR.out.len] at hrr ⊢; exact hrr)
          rw [← hw3, HML.out] at h; exact h)
         have HB3 : Hid (Below W0.heap.size W0 w3) := Lib.hid (by rw [hw3]; exact KB.out.setCell (by exact HGF.out) _)
         have hbg : ¬ bx = g := fun e => own_ty hrp HOM'.out.own (by decide) bx rfl (by rw [e]; rfl)
         have HNP3 : Hid (NN (M.getD p []) w3 (.slice (some ⟨bx, ox, none⟩) n cp)) := Lib.hid (by
          refine hnp.bx (S := fun k => k = g) (by rw [hw3]; exact Bx.set (S := fun k => k = g) rfl _) fun r o n' c' e => ?_
          injection e with e1; injection e1 with e1; injection e1 with e1
          rw [← e1]; exact hbg)
         have hcy3 : w3.cell? ⟨bx, ox + col, none⟩ = some (.int .i64 (yy : Nat)) := by rw [hw3]; exact (World.cell?_setCell_other _ _ _ _ (by intro e; injection e with e1; exact hbg e1.symm)).trans hcy
         have hS16 : SU F b cap W.heap.size w3 bx (ox + col) yy w3.drew := ⟨(HF0.out.of (HB3.out.block _ HLT.out)).of rfl, (HA0.out.of (HB3.out.block b (FldAt.lt HA0.out))).of rfl, hcy3, Lib.hid ⟨(Below.refl _ _).drew, Nat.lt_of_lt_of_le HLT.out HB3.out.size, Nat.lt_of_lt_of_le (FldAt.lt HA0.out) HB3.out.size, World.block_lt_of_cell? _ _ hcy3⟩⟩
         have HW3 := Lib.hid hw3
         have hri : (rr : Int) < (m : Int) := by omega
         clear hnp hrp hrr husp husr hw3 hbg hcy3 hy0 hbx
         go_wp2_with fail
         rw [← HW3.out]
         refine wp_region_held_drew (S := fun w' => SU F b cap W.heap.size w3 bx (ox + col) yy w') (by kernel_rfl) (by with_reducible exact hS16) (fun hHeld => ?_)
         refine Rg.tk 0 ⟨some 76,.load 53 (.tmp 3),53,"ref.go:106",#[],none⟩ ?_
         try simp only [Rg.gp]
         refine Rg.tk 1 ⟨some 77,.move (.tmp 12),39,"ref.go:106",#[],none⟩ ?_
         try simp only [Rg.gp]
         refine Rg.tk 2 ⟨some 78,.move (.tmp 10),3,"ref.go:106",#[],none⟩ ?_
         try simp only [Rg.gp]
         refine Rg.tk 3 ⟨some 79,.indexAddr 39 (.tmp 77) (.tmp 78),0,"ref.go:106",#[⟨1,.data⟩,⟨2,.data⟩],none⟩ ?_
         try simp only [Rg.gp]
         refine Rg.tk 4 ⟨some 80,.load 3 (.tmp 79),3,"ref.go:106",#[⟨3,.data⟩],none⟩ ?_
         try simp only [Rg.gp]
         refine Rg.rd1 5 ⟨some 81,.call ⟨.value (.func 78),#[.tmp 76,.tmp 80],#[53,3]⟩,46,"ref.go:106",#[⟨0,.data⟩,⟨4,.data⟩],none⟩ fun K hK => ?_
         go_simp
         go_at_call 78
         with_reducible refine (show Calls Try.prog 78 #[FV F b cap, .int .i64 (yy : Nat)] _ (fun e w' => e = .returned (.tuple #[.int .i64 (iy : Nat), .int .i64 0]) ∧ Below _ _ w') from by have t := rinv_c hHeld.2.1 HYQ.out HY0.out; rw [hiy.out] at t; exact t).mono ?_
         rintro e7 v4 ⟨rfl, hb4⟩
         refine hK.out _ _ ?_ (fun hHeld => ?_)
         ·(try dsimp only)
          exact SU.go hHeld (hb4.mono hHeld.2.2.2.out.1.size)
         clear hK K
         try simp only [Rg.gp]
         refine Rg.tk 6 ⟨some 75,.move (.tmp 81),46,"ref.go:106",#[⟨5,.data⟩],none⟩ ?_
         try simp only [Rg.gp]
         refine Rg.tk 7 ⟨some 82,.extract (.tmp 75) 0,3,"ref.go:106",#[⟨6,.data⟩],none⟩ ?_
         try simp only [Rg.gp]
         refine Rg.tk 8 ⟨some 83,.extract (.tmp 75) 1,33,"ref.go:106",#[⟨6,.data⟩,⟨9,.gcOnly Go.Departure.lateStores⟩],none⟩ ?_
         try simp only [Rg.gp]
         refine Rg.tk 9 ⟨some 13,.assign (.tmp 82),3,"ref.go:106",#[⟨7,.data⟩,⟨5,.chain⟩,⟨0,.phase⟩,⟨1,.phase⟩,⟨2,.phase⟩,⟨3,.phase⟩,⟨4,.phase⟩,⟨5,.phase⟩,⟨6,.phase⟩,⟨7,.phase⟩,⟨8,.textOnly Go.Departure.lateStores⟩],none⟩ ?_
         try simp only [Rg.gp]
         refine Rg.tk 10 ⟨some 14,.assign (.tmp 83),33,"ref.go:106",#[⟨8,.data⟩,⟨9,.chain⟩,⟨0,.phase⟩,⟨1,.phase⟩,⟨2,.phase⟩,⟨3,.phase⟩,⟨4,.phase⟩,⟨5,.phase⟩,⟨6,.phase⟩,⟨7,.phase⟩,⟨8,.phase⟩,⟨9,.phase⟩],none⟩ ?_
         try simp only [Rg.gp]
         refine wpAnyH_done (by kernel_rfl) ?_ _
         have HB34 : Hid (Below w3.heap.size w3 v4) := Lib.hid hHeld.2.2.2.out.1
         clear hHeld hS16 hb4
         have HO4 := Lib.hid (HO3.out.below HB34.out)
         have HB4 : Hid (Below W0.heap.size W0 v4) := Lib.hid (HB3.out.trans (HB34.out.mono HB3.out.size))
         have HT : Hid (Calls Try.prog 40 #[FV F b cap, .int .i64 (iy : Nat), .slice (some ⟨bx, ox, none⟩) n cp] v4 (TPost Y n v4)) := Lib.hid (by
          rw [← HYE.out]
          exact rtimes_c (HA0.out.of (HB4.out.block b (FldAt.lt HA0.out))) (by omega) (by rw [← hiy.out]; exact HFF.out.inv_lt _) HVP.out (HNP3.out.below HB34.out))
         obtain ⟨x0, x1, x2⟩ := HF0.out.of (HB4.out.block _ HLT.out)
         go_wp2_with fail
         with_reducible refine HT.out.mono ?_
         rintro e w5 ⟨a5, c5, rfl, ho5, hb5⟩
         have HO5 := Lib.hid (HO4.out.below hb5)
         have HR5 := Lib.hid ho5
         have HB5 : Hid (Below W0.heap.size W0 w5) := Lib.hid (HB4.out.trans (hb5.mono HB4.out.size))
         have HRP : Hid (rr < (M.set p (M.getD rr [])).length) := Lib.hid (by rw [List.length_set, HML.out]; exact hrm)
         have HO5' : Hid (OL (M.set p (M.getD rr [])) (us.set p (.slice ar n cr)) W0.heap.size w5 (.slice (some ⟨g, 0, none⟩) (M.set p (M.getD rr [])).length cm)) := Lib.hid (by rw [List.length_set, HML.out]; exact HO5.out)
         have hf5 := HO5'.out.frozen rr
         have hc5 := HO5'.out.cell HRP.out
         obtain ⟨w6, hw6⟩ : ∃ w, w = w5.setCell ⟨g, rr, none⟩ (.slice a5 n c5) := ⟨_, rfl⟩
         have HO6 : Hid (OL (isJ F M' rr col 0) ((us.set p (.slice ar n cr)).set rr (.slice a5 n c5)) W0.heap.size w6 (.slice (some ⟨g, 0, none⟩) m cm)) := Lib.hid (by
          have h := HO5'.out.set HRP.out (L := Y) (u := .slice a5 n c5) (by have := own_weak HR5.out (Nat.zero_le _); rw [HYL.out]; exact this)
          rw [← hw6, HSW0.out, List.length_set, HML.out] at h
          exact h)
         have HB6 : Hid (Below W0.heap.size W0 w6) := Lib.hid (by rw [hw6]; exact HB5.out.setCell (by exact HGF.out) _)
         have HW6 := Lib.hid hw6
         clear hw6 ho5 hb5 HT x0 x1 x2
         go_wp2
         rw [← HW6.out]
         go_loopw [15] (fun i wr => ∃ j : Nat, j ≤ m ∧ i = .int .i64 (j : Nat) ∧ (∃ us, Hid (OL (isJ F M' rr col j) us W0.heap.size wr (.slice (some ⟨g, 0, none⟩) m cm))) ∧ Hid (Below W0.heap.size W0 wr)) (fun i _ => m - (intOf i).toNat)
         case atStart => exact ⟨0, Nat.zero_le _, rfl, ⟨_, HO6⟩, HB6⟩
         case round =>
          obtain ⟨j, hj, rfl, ⟨us2, JO⟩, JB⟩ := hrel
          have HLJ : Hid ((isJ F M' rr col j).length = m) := Lib.hid (by rw [isJ_len, HML'.out])
          by_cases hjm : j < m
          ·by_cases hjr : j = rr
           ·have HSK : Hid (isJ F M' rr col (j + 1) = isJ F M' rr col j) := Lib.hid (by rw [hjr]; exact isJ_skip)
            have hjri : ((j : Int) != (rr : Int)) = false := by rw [hjr]; simp
            clear hjr
            go_wp2
            go_roundw
            case rel => exact ⟨j + 1, by omega, by go_num, ⟨us2, by rw [HSK.out]; exact JO⟩, JB⟩
            case measure => simp [intOf]; omega
           ·have hjri : ((j : Int) != (rr : Int)) = true := by simp; omega
            have HJN : Hid (j ≠ rr) := Lib.hid hjr
            have HJR : Hid (j < (isJ F M' rr col j).length) := Lib.hid (by rw [HLJ.out]; exact hjm)
            have HRR : Hid (rr < (isJ F M' rr col j).length) := Lib.hid (by rw [HLJ.out]; exact hrm)
            have JO' : Hid (OL (isJ F M' rr col j) us2 W0.heap.size wr (.slice (some ⟨g, 0, none⟩) (isJ F M' rr col j).length cm)) := Lib.hid (by rw [HLJ.out]; exact JO.out)
            have hcj := JO'.out.cell HJR.out
            have hcr := JO'.out.cell HRR.out
            obtain ⟨aj, cj, husj⟩ := JO'.out.usl HJR.out
            obtain ⟨ar2, cr2, husr⟩ := JO'.out.usl HRR.out
            have hnj := JO'.out.nn HJR.out
            have hnr := JO'.out.nn HRR.out
            have hown := JO'.out.row j HJR.out
            rw [husj] at hcj hnj hown
            rw [husr] at hcr hnr
            have eJ : (isJ F M' rr col j).getD j [] = M'.getD j [] := by rw [isJ_get (by rw [HML'.out]; exact hjm), if_neg hjr, if_neg (Nat.lt_irrefl _)]
            have eR : (isJ F M' rr col j).getD rr [] = Y := by rw [isJ_get (by rw [HML'.out]; exact hrm), if_pos rfl]; exact HYU.out
            have HVJ : Hid (Vn F n (M'.getD j [])) := Lib.hid (mrow HMN'.out (by rw [HML'.out]; exact hjm))
            rw [eJ, HVJ.out.len] at hcj hnj
            rw [eR, HYL.out] at hcr hnr
            rw [eJ] at hown
            obtain ⟨V2, hV2⟩ : ∃ v, Hid (M'.getD j [] = v) := ⟨_, Lib.hid rfl⟩
            rw [hV2.out] at hnj HVJ hown
            obtain ⟨bj, oj, haj, hbj, hcy⟩ := hnj.at' hcn
            subst haj
            have HBG : Hid (¬ bj = g) := Lib.hid (fun e => own_ty hown JO'.out.own (by decide) bj rfl (by rw [e]; rfl))
            obtain ⟨yj, hyj⟩ : ∃ x, Hid (V2.getD col 0 = x) := ⟨_, Lib.hid rfl⟩
            rw [hyj.out] at hcy
            have HYJ : Hid (yj < F.q) := Lib.hid (by rw [← hyj.out]; exact HVJ.out.el.get HFF.out col)
            obtain ⟨nj, hnjy⟩ : ∃ x, Hid (F.neg yj = x) := ⟨_, Lib.hid rfl⟩
            obtain ⟨Y2, hY2⟩ : ∃ y, Hid (tiV F nj Y = y) := ⟨_, Lib.hid rfl⟩
            have HVY2 : Hid (Vn F n Y2) := Lib.hid (by rw [← hY2.out]; exact tiV_vn HFF.out HVY.out)
            have HYN : Hid (Y2.length = n) := Lib.hid HVY2.out.len
            have HPN : Hid ((plV F V2 Y2).length = n) := Lib.hid (by rw [plV_len, HVJ.out.len])
            have HSET : Hid ((isJ F M' rr col j).set j (plV F V2 Y2) = isJ F M' rr col (j + 1)) := Lib.hid (by
             have := isJ_set (F := F) (M := M') (a := rr) (c := col) (j := j) (by rw [HML'.out]; exact hjm) hjr
             rw [HYU.out, hV2.out, hyj.out, hnjy.out, hY2.out] at this; exact this)
            have hfa : ∀ w', Below wr.heap.size wr w' → FldAt F b cap w' := fun w' hb => HA0.out.of ((JB.out.trans (hb.mono JB.out.size)).block b (FldAt.lt HA0.out))
            have HNG : Hid (∀ w', Below wr.heap.size wr w' → Calls Try.prog 67 #[FV F b cap, .int .i64 (yj : Nat)] w' fun e w'' => e = .returned (.int .i64 (nj : Nat)) ∧ Below w'.heap.size w' w'') := Lib.hid fun w' hb => by rw [← hnjy.out]; exact rneg_c HYJ.out (hfa w' hb)
            have HTM : Hid (∀ w', Below wr.heap.size wr w' → Calls Try.prog 40 #[FV F b cap, .int .i64 (nj : Nat), .slice ar2 n cr2] w' (TPost Y2 n w')) := Lib.hid fun w' hb => by
             rw [← hY2.out]
             exact rtimes_c (hfa w' hb) (by omega) (by rw [← hnjy.out]; exact HFF.out.neg_lt _) HVY.out (hnr.below hb)
            have HPL : Hid (∀ (a5 : Option Addr) (c5 : Nat) (w' : World), Below wr.heap.size wr w' → NN Y2 w' (.slice a5 n c5) → Calls Try.prog 41 #[FV F b cap, .slice (some ⟨bj, oj, none⟩) n cj, .slice a5 n c5] w' (TPost (plV F V2 Y2) n w')) := Lib.hid fun a5 c5 w' hb hn5 => rplus_c (hfa w' hb) (by omega) HVJ.out HVY2.out (hnj.below hb) hn5
            have HGW : Hid (g < wr.heap.size) := Lib.hid (World.block_lt_of_cell? _ _ hcr)
            have HCJ : Hid (wr.drew.cell? ⟨g, j, none⟩ = some (.slice (some ⟨bj, oj, none⟩) n cj)) := Lib.hid hcj
            have hS22 : FB3 W.heap.size F b cap wr.drew ∧ wr.drew.cell? ⟨g, rr, none⟩ = some (.slice ar2 n cr2) ∧ wr.drew.cell? ⟨bj, oj + col, none⟩ = some (.int .i64 (yj : Nat)) := ⟨(HF0.out.of (JB.out.block _ HLT.out)).of rfl, hcr, hcy⟩
            clear hcj hcr hcy hnj hnr hown husj husr eJ eR hfa hbj hjr
            go_wp2_with fail
            refine wp_region_held_drew (S := fun w' => FB3 W.heap.size F b cap w' ∧ w'.cell? ⟨g, rr, none⟩ = some (.slice ar2 n cr2) ∧ w'.cell? ⟨bj, oj + col, none⟩ = some (.int .i64 (yj : Nat))) (by kernel_rfl) (by with_reducible exact hS22) (fun hHeld => ?_)
            refine Rg.tk 0 ⟨some 100,.move (.tmp 7),22,"ref.go:110",#[],none⟩ ?_
            try simp only [Rg.gp]
            refine Rg.tk 1 ⟨some 101,.move (.tmp 15),3,"ref.go:110",#[],none⟩ ?_
            try simp only [Rg.gp]
            refine Rg.tk 2 ⟨some 102,.load 53 (.tmp 3),53,"ref.go:110",#[],none⟩ ?_
            try simp only [Rg.gp]
            refine Rg.tk 3 ⟨some 103,.move (.tmp 7),22,"ref.go:110",#[],none⟩ ?_
            try simp only [Rg.gp]
            refine Rg.tk 4 ⟨some 104,.move (.tmp 15),3,"ref.go:110",#[],none⟩ ?_
            try simp only [Rg.gp]
            refine Rg.tk 5 ⟨some 105,.indexAddr 22 (.tmp 103) (.tmp 104),0,"ref.go:110",#[⟨3,.data⟩,⟨4,.data⟩],none⟩ ?_
            try simp only [Rg.gp]
            refine Rg.tk 7 ⟨some 107,.load 53 (.tmp 3),53,"ref.go:110",#[],none⟩ ?_
            try simp only [Rg.gp]
            refine Rg.tk 8 ⟨some 108,.load 53 (.tmp 3),53,"ref.go:110",#[],none⟩ ?_
            try simp only [Rg.gp]
            refine Rg.tk 9 ⟨some 109,.move (.tmp 7),22,"ref.go:110",#[],none⟩ ?_
            try simp only [Rg.gp]
            refine Rg.tk 10 ⟨some 110,.move (.tmp 15),3,"ref.go:110",#[],none⟩ ?_
            try simp only [Rg.gp]
            refine Rg.tk 11 ⟨some 111,.indexAddr 22 (.tmp 109) (.tmp 110),0,"ref.go:110",#[⟨9,.data⟩,⟨10,.data⟩],none⟩ ?_
            try simp only [Rg.gp]
            refine Rg.tk 13 ⟨some 113,.move (.tmp 10),3,"ref.go:110",#[],none⟩ ?_
            try simp only [Rg.gp]
            refine Rg.tk 17 ⟨some 117,.move (.tmp 7),22,"ref.go:110",#[],none⟩ ?_
            try simp only [Rg.gp]
            refine Rg.tk 18 ⟨some 118,.move (.tmp 9),3,"ref.go:110",#[],none⟩ ?_
            try simp only [Rg.gp]
            refine Rg.tk 19 ⟨some 119,.indexAddr 22 (.tmp 117) (.tmp 118),0,"ref.go:110",#[⟨17,.data⟩,⟨18,.data⟩],none⟩ ?_
            try simp only [Rg.gp]
            refine Rg.tk 20 ⟨some 120,.load 39 (.tmp 119),39,"ref.go:110",#[⟨19,.data⟩],none⟩ ?_
            try simp only [Rg.gp]
            refine wpAnyH_ready (rs := [6, 12]) (by kernel_rfl) (by simp) ?_
            refine (AllReadyH.cons (o := ⟨some 106,.load 39 (.tmp 105),39,"ref.go:110",#[⟨5,.data⟩],none⟩) rfl (fun K hK => ?_) (AllReadyH.cons (o := ⟨some 112,.load 39 (.tmp 111),39,"ref.go:110",#[⟨11,.data⟩],none⟩) rfl (fun K hK => ?_) AllReadyH.nil))
            ·first
              | have hcj := (HB5.out.cell (p := ⟨g, j, none⟩) HGW.out).trans HCJ.out
              | have hcj := (HB4.out.cell (p := ⟨g, j, none⟩) HGW.out).trans HCJ.out
              | have hcj := HCJ.out
             go_simp
             refine hK.out _ _ ?_ (fun hHeld => ?_)
             ·(try dsimp only)
              exact hHeld
             clear hK K
             try simp only [Rg.gp]
             refine Rg.rd1 12 ⟨some 112,.load 39 (.tmp 111),39,"ref.go:110",#[⟨11,.data⟩],none⟩ fun K hK => ?_
             first
              | have hcj := (HB5.out.cell (p := ⟨g, j, none⟩) HGW.out).trans HCJ.out
              | have hcj := (HB4.out.cell (p := ⟨g, j, none⟩) HGW.out).trans HCJ.out
              | have hcj := HCJ.out
             go_simp
             refine hK.out _ _ ?_ (fun hHeld => ?_)
             ·(try dsimp only)
              exact hHeld
             clear hK K
             try simp only [Rg.gp]
             refine Rg.tk 14 ⟨some 114,.indexAddr 39 (.tmp 112) (.tmp 113),0,"ref.go:110",#[⟨12,.data⟩,⟨13,.data⟩],none⟩ ?_
             try simp only [Rg.gp]
             refine Rg.tk 15 ⟨some 115,.load 3 (.tmp 114),3,"ref.go:110",#[⟨14,.data⟩],none⟩ ?_
             try simp only [Rg.gp]
             refine Rg.rd1 16 ⟨some 116,.call ⟨.value (.func 67),#[.tmp 108,.tmp 115],#[53,3]⟩,3,"ref.go:110",#[⟨8,.data⟩,⟨15,.data⟩],none⟩ fun K hK => ?_
             have HFX : FB3 W.heap.size F b cap _ := hHeld.1
             go_simp
             go_at_call 67
             with_reducible refine (HNG.out _ (Below.refl _ _).drew).mono ?_
             rintro e4 v4 ⟨rfl, hb4⟩
             have HB4 : Hid (Below wr.heap.size wr v4) := Lib.hid ((Below.refl _ _).drew.trans hb4)
             refine hK.out _ _ ?_ (fun hHeld => ?_)
             ·(try dsimp only)
              exact ⟨hHeld.1.below hb4, (hb4.cell (p := ⟨g, rr, none⟩) (World.block_lt_of_cell? _ _ hHeld.2.1)).trans hHeld.2.1, (hb4.cell (p := ⟨bj, oj + col, none⟩) (World.block_lt_of_cell? _ _ hHeld.2.2)).trans hHeld.2.2⟩
             clear hK K
             try simp only [Rg.gp]
             refine Rg.rd1 21 ⟨some 121,.call ⟨.value (.func 40),#[.tmp 107,.tmp 116,.tmp 120],#[53,3,39]⟩,39,"ref.go:110",#[⟨7,.data⟩,⟨16,.data⟩,⟨20,.data⟩,⟨16,.chain⟩],none⟩ fun K hK => ?_
             go_simp
             go_at_call 40
             with_reducible refine (HTM.out _ HB4.out).mono ?_
             rintro e5 v5 ⟨a5, c5, rfl, ho5, hb5⟩
             have HO5 := Lib.hid ho5
             have HB5 : Hid (Below wr.heap.size wr v5) := Lib.hid (HB4.out.trans (hb5.mono HB4.out.size))
             refine hK.out _ _ ?_ (fun hHeld => ?_)
             ·(try dsimp only)
              exact ⟨hHeld.1.below hb5, (hb5.cell (p := ⟨g, rr, none⟩) (World.block_lt_of_cell? _ _ hHeld.2.1)).trans hHeld.2.1, (hb5.cell (p := ⟨bj, oj + col, none⟩) (World.block_lt_of_cell? _ _ hHeld.2.2)).trans hHeld.2.2⟩
             clear hK K
             try simp only [Rg.gp]
             refine Rg.rd1 22 ⟨some 122,.call ⟨.value (.func 41),#[.tmp 102,.tmp 106,.tmp 121],#[53,39,39]⟩,39,"ref.go:110",#[⟨2,.data⟩,⟨6,.data⟩,⟨21,.data⟩,⟨21,.chain⟩],none⟩ fun K hK => ?_
             go_simp
             go_at_call 41
             with_reducible refine (HPL.out _ _ _ HB5.out (by have h := NN.of_owns (show v5.ownsRow v4.heap.size 3 1 (.slice a5 Y2.length c5) Y2.length (Y2.map N64) from by rw [HYN.out]; exact HO5.out); rw [HYN.out] at h; exact h)).mono ?_
             rintro e6 v6 ⟨a6, c6, rfl, ho6, hb6⟩
             have HO6 := Lib.hid ho6
             have HB6 : Hid (Below wr.heap.size wr v6) := Lib.hid (HB5.out.trans (hb6.mono HB5.out.size))
             have JO6 := Lib.hid (JO'.out.below HB6.out)
             have hf6 := JO6.out.frozen j
             have hc6 := JO6.out.cell HJR.out
             refine hK.out _ _ ?_ (fun hHeld => ?_)
             ·(try dsimp only)
              exact ⟨hHeld.1.below hb6, (hb6.cell (p := ⟨g, rr, none⟩) (World.block_lt_of_cell? _ _ hHeld.2.1)).trans hHeld.2.1, (hb6.cell (p := ⟨bj, oj + col, none⟩) (World.block_lt_of_cell? _ _ hHeld.2.2)).trans hHeld.2.2⟩
             clear hK K
             try simp only [Rg.gp]
             refine Rg.tk 23 ⟨some 123,.indexAddr 22 (.tmp 100) (.tmp 101),0,"ref.go:110",#[⟨0,.data⟩,⟨1,.data⟩,⟨0,.phase⟩,⟨1,.phase⟩,⟨2,.phase⟩,⟨3,.phase⟩,⟨4,.phase⟩,⟨5,.phase⟩,⟨6,.phase⟩,⟨7,.phase⟩,⟨8,.phase⟩,⟨9,.phase⟩,⟨10,.phase⟩,⟨11,.phase⟩,⟨12,.phase⟩,⟨13,.phase⟩,⟨14,.phase⟩,⟨15,.phase⟩,⟨16,.phase⟩,⟨17,.phase⟩,⟨18,.phase⟩,⟨19,.phase⟩,⟨20,.phase⟩,⟨21,.phase⟩,⟨22,.phase⟩],none⟩ ?_
             try simp only [Rg.gp]
             refine Rg.rd1 24 ⟨none,.store 39 (.tmp 123) (.tmp 122),0,"ref.go:110",#[⟨23,.data⟩,⟨22,.data⟩,⟨22,.chain⟩,⟨0,.phase⟩,⟨1,.phase⟩,⟨2,.phase⟩,⟨3,.phase⟩,⟨4,.phase⟩,⟨5,.phase⟩,⟨6,.phase⟩,⟨7,.phase⟩,⟨8,.phase⟩,⟨9,.phase⟩,⟨10,.phase⟩,⟨11,.phase⟩,⟨12,.phase⟩,⟨13,.phase⟩,⟨14,.phase⟩,⟨15,.phase⟩,⟨16,.phase⟩,⟨17,.phase⟩,⟨18,.phase⟩,⟨19,.phase⟩,⟨20,.phase⟩,⟨21,.phase⟩,⟨22,.phase⟩],none⟩ fun K hK => ?_
             go_simp
             refine hK.out _ _ ?_ (fun hHeld => ?_)
             ·(try dsimp only)
              exact ⟨hHeld.1.of (Below.heap_setCell _ _ _ _ (by have := HGF.out; show W.heap.size ≠ g; have := HLT.out; omega)), (World.cell?_setCell_other _ _ _ _ (by simp; exact HJN.out)).trans hHeld.2.1, (World.cell?_setCell_other _ _ _ _ (by intro e; injection e with e1; exact HBG.out e1.symm)).trans hHeld.2.2⟩
             clear hK K
             try simp only [Rg.gp]
             refine wpAnyH_done (by kernel_rfl) ?_ _
             clear hHeld hS22
             have HO8 : Hid (OL (isJ F M' rr col (j + 1)) (us2.set j (.slice a6 n c6)) W0.heap.size (v6.setCell ⟨g, j, none⟩ (.slice a6 n c6)) (.slice (some ⟨g, 0, none⟩) m cm)) := Lib.hid (by
              have h := JO6.out.set HJR.out (L := plV F V2 Y2) (u := .slice a6 n c6) (by have := own_weak HO6.out (Nat.zero_le _); rw [HPN.out]; exact this)
              rw [HSET.out, HLJ.out] at h
              exact h)
             have HB8 : Hid (Below W0.heap.size W0 (v6.setCell ⟨g, j, none⟩ (.slice a6 n c6))) := Lib.hid ((JB.out.trans (HB6.out.mono JB.out.size)).setCell (by exact HGF.out) _)
             go_wp2
             go_roundw
             case rel => exact ⟨j + 1, by omega, by go_num, ⟨_, HO8⟩, HB8⟩
             case measure => simp [intOf]; omega
            ·first
              | have hcj := (HB5.out.cell (p := ⟨g, j, none⟩) HGW.out).trans HCJ.out
              | have hcj := (HB4.out.cell (p := ⟨g, j, none⟩) HGW.out).trans HCJ.out
              | have hcj := HCJ.out
             go_simp
             refine hK.out _ _ ?_ (fun hHeld => ?_)
             ·(try dsimp only)
              exact hHeld
             clear hK K
             try simp only [Rg.gp]
             refine Rg.tk 14 ⟨some 114,.indexAddr 39 (.tmp 112) (.tmp 113),0,"ref.go:110",#[⟨12,.data⟩,⟨13,.data⟩],none⟩ ?_
             try simp only [Rg.gp]
             refine Rg.tk 15 ⟨some 115,.load 3 (.tmp 114),3,"ref.go:110",#[⟨14,.data⟩],none⟩ ?_
             try simp only [Rg.gp]
             refine wpAnyH_ready (rs := [6, 16]) (by kernel_rfl) (by simp) ?_
             refine (AllReadyH.cons (o := ⟨some 106,.load 39 (.tmp 105),39,"ref.go:110",#[⟨5,.data⟩],none⟩) rfl (fun K hK => ?_) (AllReadyH.cons (o := ⟨some 116,.call ⟨.value (.func 67),#[.tmp 108,.tmp 115],#[53,3]⟩,3,"ref.go:110",#[⟨8,.data⟩,⟨15,.data⟩],none⟩) rfl (fun K hK => ?_) AllReadyH.nil))
             ·first
               | have hcj := (HB5.out.cell (p := ⟨g, j, none⟩) HGW.out).trans HCJ.out
               | have hcj := (HB4.out.cell (p := ⟨g, j, none⟩) HGW.out).trans HCJ.out
               | have hcj := HCJ.out
              go_simp
              refine hK.out _ _ ?_ (fun hHeld => ?_)
              ·(try dsimp only)
               exact hHeld
              clear hK K
              try simp only [Rg.gp]
              refine Rg.rd1 16 ⟨some 116,.call ⟨.value (.func 67),#[.tmp 108,.tmp 115],#[53,3]⟩,3,"ref.go:110",#[⟨8,.data⟩,⟨15,.data⟩],none⟩ fun K hK => ?_
              have HFX : FB3 W.heap.size F b cap _ := hHeld.1
              go_simp
              go_at_call 67
              with_reducible refine (HNG.out _ (Below.refl _ _).drew).mono ?_
              rintro e4 v4 ⟨rfl, hb4⟩
              have HB4 : Hid (Below wr.heap.size wr v4) := Lib.hid ((Below.refl _ _).drew.trans hb4)
              refine hK.out _ _ ?_ (fun hHeld => ?_)
              ·(try dsimp only)
               exact ⟨hHeld.1.below hb4, (hb4.cell (p := ⟨g, rr, none⟩) (World.block_lt_of_cell? _ _ hHeld.2.1)).trans hHeld.2.1, (hb4.cell (p := ⟨bj, oj + col, none⟩) (World.block_lt_of_cell? _ _ hHeld.2.2)).trans hHeld.2.2⟩
              clear hK K
              try simp only [Rg.gp]
              refine Rg.rd1 21 ⟨some 121,.call ⟨.value (.func 40),#[.tmp 107,.tmp 116,.tmp 120],#[53,3,39]⟩,39,"ref.go:110",#[⟨7,.data⟩,⟨16,.data⟩,⟨20,.data⟩,⟨16,.chain⟩],none⟩ fun K hK => ?_
              go_simp
              go_at_call 40
              with_reducible refine (HTM.out _ HB4.out).mono ?_
              rintro e5 v5 ⟨a5, c5, rfl, ho5, hb5⟩
              have HO5 := Lib.hid ho5
              have HB5 : Hid (Below wr.heap.size wr v5) := Lib.hid (HB4.out.trans (hb5.mono HB4.out.size))
              refine hK.out _ _ ?_ (fun hHeld => ?_)
              ·(try dsimp only)
               exact ⟨hHeld.1.below hb5, (hb5.cell (p := ⟨g, rr, none⟩) (World.block_lt_of_cell? _ _ hHeld.2.1)).trans hHeld.2.1, (hb5.cell (p := ⟨bj, oj + col, none⟩) (World.block_lt_of_cell? _ _ hHeld.2.2)).trans hHeld.2.2⟩
              clear hK K
              try simp only [Rg.gp]
              refine Rg.rd1 22 ⟨some 122,.call ⟨.value (.func 41),#[.tmp 102,.tmp 106,.tmp 121],#[53,39,39]⟩,39,"ref.go:110",#[⟨2,.data⟩,⟨6,.data⟩,⟨21,.data⟩,⟨21,.chain⟩],none⟩ fun K hK => ?_
              go_simp
              go_at_call 41
              with_reducible refine (HPL.out _ _ _ HB5.out (by have h := NN.of_owns (show v5.ownsRow v4.heap.size 3 1 (.slice a5 Y2.length c5) Y2.length (Y2.map N64) from by rw [HYN.out]; exact HO5.out); rw [HYN.out] at h; exact h)).mono ?_
              rintro e6 v6 ⟨a6, c6, rfl, ho6, hb6⟩
              have HO6 := Lib.hid ho6
              have HB6 : Hid (Below wr.heap.size wr v6) := Lib.hid (HB5.out.trans (hb6.mono HB5.out.size))
              have JO6 := Lib.hid (JO'.out.below HB6.out)
              have hf6 := JO6.out.frozen j
              have hc6 := JO6.out.cell HJR.out
              refine hK.out _ _ ?_ (fun hHeld => ?_)
              ·(try dsimp only)
               exact ⟨hHeld.1.below hb6, (hb6.cell (p := ⟨g, rr, none⟩) (World.block_lt_of_cell? _ _ hHeld.2.1)).trans hHeld.2.1, (hb6.cell (p := ⟨bj, oj + col, none⟩) (World.block_lt_of_cell? _ _ hHeld.2.2)).trans hHeld.2.2⟩
              clear hK K
              try simp only [Rg.gp]
              refine Rg.tk 23 ⟨some 123,.indexAddr 22 (.tmp 100) (.tmp 101),0,"ref.go:110",#[⟨0,.data⟩,⟨1,.data⟩,⟨0,.phase⟩,⟨1,.phase⟩,⟨2,.phase⟩,⟨3,.phase⟩,⟨4,.phase⟩,⟨5,.phase⟩,⟨6,.phase⟩,⟨7,.phase⟩,⟨8,.phase⟩,⟨9,.phase⟩,⟨10,.phase⟩,⟨11,.phase⟩,⟨12,.phase⟩,⟨13,.phase⟩,⟨14,.phase⟩,⟨15,.phase⟩,⟨16,.phase⟩,⟨17,.phase⟩,⟨18,.phase⟩,⟨19,.phase⟩,⟨20,.phase⟩,⟨21,.phase⟩,⟨22,.phase⟩],none⟩ ?_
              try simp only [Rg.gp]
              refine Rg.rd1 24 ⟨none,.store 39 (.tmp 123) (.tmp 122),0,"ref.go:110",#[⟨23,.data⟩,⟨22,.data⟩,⟨22,.chain⟩,⟨0,.phase⟩,⟨1,.phase⟩,⟨2,.phase⟩,⟨3,.phase⟩,⟨4,.phase⟩,⟨5,.phase⟩,⟨6,.phase⟩,⟨7,.phase⟩,⟨8,.phase⟩,⟨9,.phase⟩,⟨10,.phase⟩,⟨11,.phase⟩,⟨12,.phase⟩,⟨13,.phase⟩,⟨14,.phase⟩,⟨15,.phase⟩,⟨16,.phase⟩,⟨17,.phase⟩,⟨18,.phase⟩,⟨19,.phase⟩,⟨20,.phase⟩,⟨21,.phase⟩,⟨22,.phase⟩],none⟩ fun K hK => ?_
              go_simp
              refine hK.out _ _ ?_ (fun hHeld => ?_)
              ·(try dsimp only)
               exact ⟨hHeld.1.of (Below.heap_setCell _ _ _ _ (by have := HGF.out; show W.heap.size ≠ g; have := HLT.out; omega)), (World.cell?_setCell_other _ _ _ _ (by simp; exact HJN.out)).trans hHeld.2.1, (World.cell?_setCell_other _ _ _ _ (by intro e; injection e with e1; exact HBG.out e1.symm)).trans hHeld.2.2⟩
              clear hK K
              try simp only [Rg.gp]
              refine wpAnyH_done (by kernel_rfl) ?_ _
              clear hHeld hS22
              have HO8 : Hid (OL (isJ F M' rr col (j + 1)) (us2.set j (.slice a6 n c6)) W0.heap.size (v6.setCell ⟨g, j, none⟩ (.slice a6 n c6)) (.slice (some ⟨g, 0, none⟩) m cm)) := Lib.hid (by
               have h := JO6.out.set HJR.out (L := plV F V2 Y2) (u := .slice a6 n c6) (by have := own_weak HO6.out (Nat.zero_le _); rw [HPN.out]; exact this)
               rw [HSET.out, HLJ.out] at h
               exact h)
              have HB8 : Hid (Below W0.heap.size W0 (v6.setCell ⟨g, j, none⟩ (.slice a6 n c6))) := Lib.hid ((JB.out.trans (HB6.out.mono JB.out.size)).setCell (by exact HGF.out) _)
              go_wp2
              go_roundw
              case rel => exact ⟨j + 1, by omega, by go_num, ⟨_, HO8⟩, HB8⟩
              case measure => simp [intOf]; omega
             ·have HFX : FB3 W.heap.size F b cap _ := hHeld.1
              go_simp
              go_at_call 67
              with_reducible refine (HNG.out _ (Below.refl _ _).drew).mono ?_
              rintro e4 v4 ⟨rfl, hb4⟩
              have HB4 : Hid (Below wr.heap.size wr v4) := Lib.hid ((Below.refl _ _).drew.trans hb4)
              refine hK.out _ _ ?_ (fun hHeld => ?_)
              ·(try dsimp only)
               exact ⟨hHeld.1.below hb4, (hb4.cell (p := ⟨g, rr, none⟩) (World.block_lt_of_cell? _ _ hHeld.2.1)).trans hHeld.2.1, (hb4.cell (p := ⟨bj, oj + col, none⟩) (World.block_lt_of_cell? _ _ hHeld.2.2)).trans hHeld.2.2⟩
              clear hK K
              try simp only [Rg.gp]
              refine wpAnyH_ready (rs := [6, 21]) (by kernel_rfl) (by simp) ?_
              refine (AllReadyH.cons (o := ⟨some 106,.load 39 (.tmp 105),39,"ref.go:110",#[⟨5,.data⟩],none⟩) rfl (fun K hK => ?_) (AllReadyH.cons (o := ⟨some 121,.call ⟨.value (.func 40),#[.tmp 107,.tmp 116,.tmp 120],#[53,3,39]⟩,39,"ref.go:110",#[⟨7,.data⟩,⟨16,.data⟩,⟨20,.data⟩,⟨16,.chain⟩],none⟩) rfl (fun K hK => ?_) AllReadyH.nil))
              ·first
                | have hcj := (HB5.out.cell (p := ⟨g, j, none⟩) HGW.out).trans HCJ.out
                | have hcj := (HB4.out.cell (p := ⟨g, j, none⟩) HGW.out).trans HCJ.out
                | have hcj := HCJ.out
               go_simp
               refine hK.out _ _ ?_ (fun hHeld => ?_)
               ·(try dsimp only)
                exact hHeld
               clear hK K
               try simp only [Rg.gp]
               refine Rg.rd1 21 ⟨some 121,.call ⟨.value (.func 40),#[.tmp 107,.tmp 116,.tmp 120],#[53,3,39]⟩,39,"ref.go:110",#[⟨7,.data⟩,⟨16,.data⟩,⟨20,.data⟩,⟨16,.chain⟩],none⟩ fun K hK => ?_
               go_simp
               go_at_call 40
               with_reducible refine (HTM.out _ HB4.out).mono ?_
               rintro e5 v5 ⟨a5, c5, rfl, ho5, hb5⟩
               have HO5 := Lib.hid ho5
               have HB5 : Hid (Below wr.heap.size wr v5) := Lib.hid (HB4.out.trans (hb5.mono HB4.out.size))
               refine hK.out _ _ ?_ (fun hHeld => ?_)
               ·(try dsimp only)
                exact ⟨hHeld.1.below hb5, (hb5.cell (p := ⟨g, rr, none⟩) (World.block_lt_of_cell? _ _ hHeld.2.1)).trans hHeld.2.1, (hb5.cell (p := ⟨bj, oj + col, none⟩) (World.block_lt_of_cell? _ _ hHeld.2.2)).trans hHeld.2.2⟩
               clear hK K
               try simp only [Rg.gp]
               refine Rg.rd1 22 ⟨some 122,.call ⟨.value (.func 41),#[.tmp 102,.tmp 106,.tmp 121],#[53,39,39]⟩,39,"ref.go:110",#[⟨2,.data⟩,⟨6,.data⟩,⟨21,.data⟩,⟨21,.chain⟩],none⟩ fun K hK => ?_
               go_simp
               go_at_call 41
               with_reducible refine (HPL.out _ _ _ HB5.out (by have h := NN.of_owns (show v5.ownsRow v4.heap.size 3 1 (.slice a5 Y2.length c5) Y2.length (Y2.map N64) from by rw [HYN.out]; exact HO5.out); rw [HYN.out] at h; exact h)).mono ?_
               rintro e6 v6 ⟨a6, c6, rfl, ho6, hb6⟩
               have HO6 := Lib.hid ho6
               have HB6 : Hid (Below wr.heap.size wr v6) := Lib.hid (HB5.out.trans (hb6.mono HB5.out.size))
               have JO6 := Lib.hid (JO'.out.below HB6.out)
               have hf6 := JO6.out.frozen j
               have hc6 := JO6.out.cell HJR.out
               refine hK.out _ _ ?_ (fun hHeld => ?_)
               ·(try dsimp only)
                exact ⟨hHeld.1.below hb6, (hb6.cell (p := ⟨g, rr, none⟩) (World.block_lt_of_cell? _ _ hHeld.2.1)).trans hHeld.2.1, (hb6.cell (p := ⟨bj, oj + col, none⟩) (World.block_lt_of_cell? _ _ hHeld.2.2)).trans hHeld.2.2⟩
               clear hK K
               try simp only [Rg.gp]
               refine Rg.tk 23 ⟨some 123,.indexAddr 22 (.tmp 100) (.tmp 101),0,"ref.go:110",#[⟨0,.data⟩,⟨1,.data⟩,⟨0,.phase⟩,⟨1,.phase⟩,⟨2,.phase⟩,⟨3,.phase⟩,⟨4,.phase⟩,⟨5,.phase⟩,⟨6,.phase⟩,⟨7,.phase⟩,⟨8,.phase⟩,⟨9,.phase⟩,⟨10,.phase⟩,⟨11,.phase⟩,⟨12,.phase⟩,⟨13,.phase⟩,⟨14,.phase⟩,⟨15,.phase⟩,⟨16,.phase⟩,⟨17,.phase⟩,⟨18,.phase⟩,⟨19,.phase⟩,⟨20,.phase⟩,⟨21,.phase⟩,⟨22,.phase⟩],none⟩ ?_
               try simp only [Rg.gp]
               refine Rg.rd1 24 ⟨none,.store 39 (.tmp 123) (.tmp 122),0,"ref.go:110",#[⟨23,.data⟩,⟨22,.data⟩,⟨22,.chain⟩,⟨0,.phase⟩,⟨1,.phase⟩,⟨2,.phase⟩,⟨3,.phase⟩,⟨4,.phase⟩,⟨5,.phase⟩,⟨6,.phase⟩,⟨7,.phase⟩,⟨8,.phase⟩,⟨9,.phase⟩,⟨10,.phase⟩,⟨11,.phase⟩,⟨12,.phase⟩,⟨13,.phase⟩,⟨14,.phase⟩,⟨15,.phase⟩,⟨16,.phase⟩,⟨17,.phase⟩,⟨18,.phase⟩,⟨19,.phase⟩,⟨20,.phase⟩,⟨21,.phase⟩,⟨22,.phase⟩],none⟩ fun K hK => ?_
               go_simp
               refine hK.out _ _ ?_ (fun hHeld => ?_)
               ·(try dsimp only)
                exact ⟨hHeld.1.of (Below.heap_setCell _ _ _ _ (by have := HGF.out; show W.heap.size ≠ g; have := HLT.out; omega)), (World.cell?_setCell_other _ _ _ _ (by simp; exact HJN.out)).trans hHeld.2.1, (World.cell?_setCell_other _ _ _ _ (by intro e; injection e with e1; exact HBG.out e1.symm)).trans hHeld.2.2⟩
               clear hK K
               try simp only [Rg.gp]
               refine wpAnyH_done (by kernel_rfl) ?_ _
               clear hHeld hS22
               have HO8 : Hid (OL (isJ F M' rr col (j + 1)) (us2.set j (.slice a6 n c6)) W0.heap.size (v6.setCell ⟨g, j, none⟩ (.slice a6 n c6)) (.slice (some ⟨g, 0, none⟩) m cm)) := Lib.hid (by
                have h := JO6.out.set HJR.out (L := plV F V2 Y2) (u := .slice a6 n c6) (by have := own_weak HO6.out (Nat.zero_le _); rw [HPN.out]; exact this)
                rw [HSET.out, HLJ.out] at h
                exact h)
               have HB8 : Hid (Below W0.heap.size W0 (v6.setCell ⟨g, j, none⟩ (.slice a6 n c6))) := Lib.hid ((JB.out.trans (HB6.out.mono JB.out.size)).setCell (by exact HGF.out) _)
               go_wp2
               go_roundw
               case rel => exact ⟨j + 1, by omega, by go_num, ⟨_, HO8⟩, HB8⟩
               case measure => simp [intOf]; omega
              ·go_simp
               go_at_call 40
               with_reducible refine (HTM.out _ HB4.out).mono ?_
               rintro e5 v5 ⟨a5, c5, rfl, ho5, hb5⟩
               have HO5 := Lib.hid ho5
               have HB5 : Hid (Below wr.heap.size wr v5) := Lib.hid (HB4.out.trans (hb5.mono HB4.out.size))
               refine hK.out _ _ ?_ (fun hHeld => ?_)
               ·(try dsimp only)
                exact ⟨hHeld.1.below hb5, (hb5.cell (p := ⟨g, rr, none⟩) (World.block_lt_of_cell? _ _ hHeld.2.1)).trans hHeld.2.1, (hb5.cell (p := ⟨bj, oj + col, none⟩) (World.block_lt_of_cell? _ _ hHeld.2.2)).trans hHeld.2.2⟩
               clear hK K
               try simp only [Rg.gp]
               refine Rg.rd1 6 ⟨some 106,.load 39 (.tmp 105),39,"ref.go:110",#[⟨5,.data⟩],none⟩ fun K hK => ?_
               first
                | have hcj := (HB5.out.cell (p := ⟨g, j, none⟩) HGW.out).trans HCJ.out
                | have hcj := (HB4.out.cell (p := ⟨g, j, none⟩) HGW.out).trans HCJ.out
                | have hcj := HCJ.out
               go_simp
               refine hK.out _ _ ?_ (fun hHeld => ?_)
               ·(try dsimp only)
                exact hHeld
               clear hK K
               try simp only [Rg.gp]
               refine Rg.rd1 22 ⟨some 122,.call ⟨.value (.func 41),#[.tmp 102,.tmp 106,.tmp 121],#[53,39,39]⟩,39,"ref.go:110",#[⟨2,.data⟩,⟨6,.data⟩,⟨21,.data⟩,⟨21,.chain⟩],none⟩ fun K hK => ?_
               go_simp
               go_at_call 41
               with_reducible refine (HPL.out _ _ _ HB5.out (by have h := NN.of_owns (show v5.ownsRow v4.heap.size 3 1 (.slice a5 Y2.length c5) Y2.length (Y2.map N64) from by rw [HYN.out]; exact HO5.out); rw [HYN.out] at h; exact h)).mono ?_
               rintro e6 v6 ⟨a6, c6, rfl, ho6, hb6⟩
               have HO6 := Lib.hid ho6
               have HB6 : Hid (Below wr.heap.size wr v6) := Lib.hid (HB5.out.trans (hb6.mono HB5.out.size))
               have JO6 := Lib.hid (JO'.out.below HB6.out)
               have hf6 := JO6.out.frozen j
               have hc6 := JO6.out.cell HJR.out
               refine hK.out _ _ ?_ (fun hHeld => ?_)
               ·(try dsimp only)
                exact ⟨hHeld.1.below hb6, (hb6.cell (p := ⟨g, rr, none⟩) (World.block_lt_of_cell? _ _ hHeld.2.1)).trans hHeld.2.1, (hb6.cell (p := ⟨bj, oj + col, none⟩) (World.block_lt_of_cell? _ _ hHeld.2.2)).trans hHeld.2.2⟩
               clear hK K
               try simp only [Rg.gp]
               refine Rg.tk 23 ⟨some 123,.indexAddr 22 (.tmp 100) (.tmp 101),0,"ref.go:110",#[⟨0,.data⟩,⟨1,.data⟩,⟨0,.phase⟩,⟨1,.phase⟩,⟨2,.phase⟩,⟨3,.phase⟩,⟨4,.phase⟩,⟨5,.phase⟩,⟨6,.phase⟩,⟨7,.phase⟩,⟨8,.phase⟩,⟨9,.phase⟩,⟨10,.phase⟩,⟨11,.phase⟩,⟨12,.phase⟩,⟨13,.phase⟩,⟨14,.phase⟩,⟨15,.phase⟩,⟨16,.phase⟩,⟨17,.phase⟩,⟨18,.phase⟩,⟨19,.phase⟩,⟨20,.phase⟩,⟨21,.phase⟩,⟨22,.phase⟩],none⟩ ?_
               try simp only [Rg.gp]
               refine Rg.rd1 24 ⟨none,.store 39 (.tmp 123) (.tmp 122),0,"ref.go:110",#[⟨23,.data⟩,⟨22,.data⟩,⟨22,.chain⟩,⟨0,.phase⟩,⟨1,.phase⟩,⟨2,.phase⟩,⟨3,.phase⟩,⟨4,.phase⟩,⟨5,.phase⟩,⟨6,.phase⟩,⟨7,.phase⟩,⟨8,.phase⟩,⟨9,.phase⟩,⟨10,.phase⟩,⟨11,.phase⟩,⟨12,.phase⟩,⟨13,.phase⟩,⟨14,.phase⟩,⟨15,.phase⟩,⟨16,.phase⟩,⟨17,.phase⟩,⟨18,.phase⟩,⟨19,.phase⟩,⟨20,.phase⟩,⟨21,.phase⟩,⟨22,.phase⟩],none⟩ fun K hK => ?_
               go_simp
               refine hK.out _ _ ?_ (fun hHeld => ?_)
               ·(try dsimp only)
                exact ⟨hHeld.1.of (Below.heap_setCell _ _ _ _ (by have := HGF.out; show W.heap.size ≠ g; have := HLT.out; omega)), (World.cell?_setCell_other _ _ _ _ (by simp; exact HJN.out)).trans hHeld.2.1, (World.cell?_setCell_other _ _ _ _ (by intro e; injection e with e1; exact HBG.out e1.symm)).trans hHeld.2.2⟩
               clear hK K
               try simp only [Rg.gp]
               refine wpAnyH_done (by kernel_rfl) ?_ _
               clear hHeld hS22
               have HO8 : Hid (OL (isJ F M' rr col (j + 1)) (us2.set j (.slice a6 n c6)) W0.heap.size (v6.setCell ⟨g, j, none⟩ (.slice a6 n c6)) (.slice (some ⟨g, 0, none⟩) m cm)) := Lib.hid (by
                have h := JO6.out.set HJR.out (L := plV F V2 Y2) (u := .slice a6 n c6) (by have := own_weak HO6.out (Nat.zero_le _); rw [HPN.out]; exact this)
                rw [HSET.out, HLJ.out] at h
                exact h)
               have HB8 : Hid (Below W0.heap.size W0 (v6.setCell ⟨g, j, none⟩ (.slice a6 n c6))) := Lib.hid ((JB.out.trans (HB6.out.mono JB.out.size)).setCell (by exact HGF.out) _)
               go_wp2
               go_roundw
               case rel => exact ⟨j + 1, by omega, by go_num, ⟨_, HO8⟩, HB8⟩
               case measure => simp [intOf]; omega
          ·have hjm2 : j = m := by omega
           have hjl1 : ¬ (j : Int) < (m : Int) := by omega
           have HOE : Hid (OL (isJ F M' rr col M'.length) us2 W0.heap.size wr (.slice (some ⟨g, 0, none⟩) m cm)) := Lib.hid (by have h := JO.out; rw [hjm2] at h; rw [HML'.out]; exact h)
           clear hjm2
           go_wp2
           go_roundw
           case rel => exact ⟨col + 1, rr + 1, P ++ [col], isJ F M' rr col M'.length, us2, by omega, by omega, Lib.hid (by rw [List.length_append, HP.out]; rfl), by go_num, by go_num, HSN, HOE, JB⟩
           case measure => simp [intOf]; omega
       ·have hpe : p = m := by omega
        subst hpe
        have HSN : Hid (SwL F n (col + 1) P S M) := Lib.hid (HSW.out.none HFF.out fun k h1 h2 => KZ.out k (by rw [← HP.out]; exact h1) (by rw [← HML.out]; exact h2))
        have hpmi : ((p : Int) == (p : Int)) = true := by simp
        have hpi : ¬ (p : Int) < (p : Int) := by omega
        go_wp2
        go_roundw
        case rel => exact ⟨col + 1, rr, P, M, us, by omega, by omega, HP, rfl, by go_num, HSN, HOM, KB⟩
        case measure => simp [intOf]; omega
     ·have hrme : rr = m := by omega
      have HEND : Hid (M.take rr = redM F n S) := Lib.hid (by
       rw [← HP.out]
       exact HSW.out.fin HFF.out HMS.out hcl (.inr (by rw [HP.out, HML.out]; exact hrme)))
      have hri : ¬ (rr : Int) < (m : Int) := by omega
      clear hrme
      have HOZ : Hid (OL M us W.heap.size wr (.slice (some ⟨g, 0, none⟩) m cm)) := Lib.hid (HOM.out.weak HB0.out.size)
      have HRL : Hid ((redM F n S).length = rr) := Lib.hid (by rw [← HEND.out, List.length_take, HML.out]; omega)
      have HBF := Lib.hid (HB0.out.trans (KB.out.mono HB0.out.size))
      have hcm : rr ≤ cm := by
       obtain ⟨g', cap', cur', h1, h2, h3, h4, h5, h6⟩ := HOM.out.own.2.resolve_left (fun h => by cases h.1)
       injection h1 with h1 h7 h8
       omega
      go_wp2
      go_ret
      exact ⟨g, m, cm, M, us, by rw [HRL.out]; rfl, HOZ.out, HML.out, by rw [HRL.out]; exact HEND.out, by rw [HRL.out]; exact hrm, HBF.out⟩
    ·have hcne : col = n := by omega
     have HEND : Hid (M.take rr = redM F n S) := Lib.hid (by
      rw [← HP.out]
      exact HSW.out.fin HFF.out HMS.out hcl (.inl hcne))
     have hci : ¬ (col : Int) < (n : Int) := by omega
     have HOZ : Hid (OL M us W.heap.size wr (.slice (some ⟨g, 0, none⟩) m cm)) := Lib.hid (HOM.out.weak HB0.out.size)
     have HRL : Hid ((redM F n S).length = rr) := Lib.hid (by rw [← HEND.out, List.length_take, HML.out]; omega)
     have HBF := Lib.hid (HB0.out.trans (KB.out.mono HB0.out.size))
     have hcm : rr ≤ cm := by
      obtain ⟨g', cap', cur', h1, h2, h3, h4, h5, h6⟩ := HOM.out.own.2.resolve_left (fun h => by cases h.1)
      injection h1 with h1 h7 h8
      omega
     go_wp2
     go_ret
     exact ⟨g, m, cm, M, us, by rw [HRL.out]; rfl, HOZ.out, HML.out, by rw [HRL.out]; exact HEND.out, by rw [HRL.out]; exact hrm, HBF.out⟩

end Go.Proofs.Ytdafhhojiioifaa
