/- The words of a code in their order. -/
import Derived.Test.YtdafhhojiioifaaEb
import Derived.Test.YtdafhhojiioifaaDh
namespace Go.Proofs.Ytdafhhojiioifaa
open Go.RowKit Go.Fl
set_option maxRecDepth 100000
set_option linter.unusedVariables false
set_option linter.unusedSimpArgs false
set_option linter.unusedSectionVars false

theorem getD_mem {α : Type} {l : List α} {d : α} {i : Nat} (h : i < l.length) : l.getD i d ∈ l := by
 rw [List.getD_eq_getElem?_getD, List.getElem?_eq_getElem h]; exact List.getElem_mem h
theorem getD_hi {l : List Nat} {i : Nat} (h : l.length ≤ i) : l.getD i 0 = 0 := by
 rw [List.getD_eq_getElem?_getD, List.getElem?_eq_none h]; rfl
theorem wd_at {F : Gf} (hF : Ok F) {n a : Nat} {w X : List Nat} (hw : w.length = n) (hX : X.length = n) (j : Nat) : (plV F w (tiV F a X)).getD j 0 = F.add (w.getD j 0) (F.mul a (X.getD j 0)) := by
 have h := congrFun (plV_fn hF hw (show (tiV F a X).length = n by rw [tiV_len, hX])) j
 rw [tiV_fn hF hX] at h; exact h
theorem vn_lt {F : Gf} (hF : Ok F) {n : Nat} {w : List Nat} (hw : Vn F n w) (j : Nat) : w.getD j 0 < F.q := hw.fn hF j
/-- the first difference of two words: the second one is greater there -/
def LTat (j : Nat) (V W : List Nat) : Prop := (∀ i, i < j → V.getD i 0 = W.getD i 0) ∧ V.getD j 0 < W.getD j 0
theorem getD_ext4 {A B : List Nat} (hl : A.length = B.length) (h : ∀ k, k < A.length → A.getD k 0 = B.getD k 0) : A = B := list_ext hl h
theorem flat_at {α β : Type} {q : Nat} {f : α → List β} (hf : ∀ a, (f a).length = q) (hq : 0 < q) (d : β) (e : α) : ∀ (l : List α) (x : Nat), x < l.length * q → (l.flatMap f).getD x d = (f (l.getD (x / q) e)).getD (x % q) d
 | [], x, h => by simp at h
 | a :: l, x, h => by
  rw [List.flatMap_cons]
  by_cases hx : x < q
  ·rw [List.getD_eq_getElem?_getD, List.getElem?_append_left (by rw [hf]; exact hx), Nat.div_eq_of_lt hx, Nat.mod_eq_of_lt hx, List.getD_eq_getElem?_getD]; rfl
  ·have hx' : q ≤ x := by omega
   have hl : x - q < l.length * q := by rw [List.length_cons, Nat.succ_mul] at h; omega
   have ih := flat_at hf hq d e l (x - q) hl
   have e1 : x = (x - q) + q := by omega
   have e2 : x / q = (x - q) / q + 1 := by conv => lhs; rw [e1]; rw [Nat.add_div_right _ hq]
   have e3 : x % q = (x - q) % q := by conv => lhs; rw [e1]; rw [Nat.add_mod_right]
   rw [List.getD_eq_getElem?_getD, List.getElem?_append_right (by rw [hf]; exact hx'), hf, ← List.getD_eq_getElem?_getD, ih, e2, e3]
   rfl
section
variable {F : Gf} {n m : Nat} {G : List (List Nat)} {L : List (Nat × Cf)} (h : VC F n m G L)
include h
theorem VC.lenL : L.length = m := by rw [← h.rm.len, h.gc.len]
theorem VC.pvL {t : Nat} (ht : t < m) : ∃ hl : t < L.length, pvA n G t = (L[t]).1 ∧ Go.Fl.fn (G.getD t []) = (L[t]).2 := by
 have hl : t < L.length := by rw [h.lenL]; exact ht
 exact ⟨hl, (h.rm.pv h.ok hl).1, h.rm.fnr hl⟩
theorem VC.pvLt {t : Nat} (ht : t < m) : pvA n G t < n := by
 obtain ⟨hl, e1, _⟩ := h.pvL ht
 rw [e1]; exact (h.rm.red.ro _ (List.getElem_mem hl)).bd
theorem VC.pvMono {s t : Nat} (hst : s < t) (ht : t < m) : pvA n G s < pvA n G t := by
 obtain ⟨hl, e1, _⟩ := h.pvL ht
 obtain ⟨hs, e2, _⟩ := h.pvL (show s < m by omega)
 rw [e1, e2]
 exact (List.pairwise_iff_getElem.1 h.rm.red.pw s t hs hl hst).1
theorem VC.rowLo {t j : Nat} (ht : t < m) (hj : j < pvA n G t) : (G.getD t []).getD j 0 = 0 := by
 obtain ⟨hl, e1, e2⟩ := h.pvL ht
 rw [e1] at hj
 have := (h.rm.red.ro _ (List.getElem_mem hl)).lo j hj
 rw [← e2] at this; exact this
theorem VC.rowOne {t : Nat} (ht : t < m) : (G.getD t []).getD (pvA n G t) 0 = 1 := by
 obtain ⟨hl, e1, e2⟩ := h.pvL ht
 have := (h.rm.red.ro _ (List.getElem_mem hl)).one
 rw [← e2, ← e1] at this; exact this
theorem VC.rowOff {s t : Nat} (hs : s < m) (ht : t < m) (hne : s ≠ t) : (G.getD s []).getD (pvA n G t) 0 = 0 := by
 obtain ⟨ls, _, e2⟩ := h.pvL hs
 obtain ⟨lt, e1, _⟩ := h.pvL ht
 have hp := List.pairwise_iff_getElem.1 h.rm.red.pw
 have : (L[s]).2 (L[t]).1 = 0 := by
  rcases Nat.lt_or_gt_of_ne hne with k | k
  ·exact (hp s t ls lt k).2.1
  ·exact (hp t s lt ls k).2.2
 rw [← e2, ← e1] at this; exact this
theorem VC.rowVn {t : Nat} (ht : t < m) : Vn F n (G.getD t []) := mrow h.gc.mn (by rw [h.gc.len]; exact ht)
/-- words of the first rows are 0 at the pivots of the others -/
theorem VC.wdZero : ∀ k, k ≤ m → ∀ w ∈ wdK F n G k, ∀ t, k ≤ t → t < m → ∀ j, j ≤ pvA n G t → (∀ s, s < k → j ≠ pvA n G s → True) → (j = pvA n G t) → w.getD j 0 = 0
 | 0, _, w, hw, t, _, _, j, _, _, _ => by
  rw [show w = List.replicate n 0 from List.mem_singleton.1 hw]
  by_cases hj : j < n
  ·rw [List.getD_eq_getElem?_getD, List.getElem?_replicate, if_pos hj]; rfl
  ·exact getD_hi (by simp; omega)
 | k + 1, hk, w, hw, t, hkt, ht, j, hj, hd, hje => by
  obtain ⟨v, hv, h2⟩ := List.mem_flatMap.1 hw
  obtain ⟨r, hr, rfl⟩ := List.mem_map.1 h2
  obtain ⟨a, ha, rfl⟩ := List.mem_map.1 hr
  have hvn := wdK_mn h.ok (n := n) (G := G) k v hv
  rw [wd_at h.ok hvn.len (h.rowVn (show k < m by omega)).len, VC.wdZero k (by omega) v hv t (by omega) ht j hj (fun _ _ _ => trivial) hje, hje, h.rowOff (by omega) ht (by omega), Ok.mul_z, h.ok.add_zero h.ok.zero_lt]
theorem VC.wdZ {k : Nat} (hk : k ≤ m) {w : List Nat} (hw : w ∈ wdK F n G k) {t : Nat} (hkt : k ≤ t) (ht : t < m) : w.getD (pvA n G t) 0 = 0 := h.wdZero k hk w hw t hkt ht _ (Nat.le_refl _) (fun _ _ _ => trivial) rfl
/-- THE ORDER: of two words the later one is greater at the first pivot where they differ -/
theorem VC.lex : ∀ k, k ≤ m → (wdK F n G k).Pairwise fun V W => ∃ t, t < k ∧ LTat (pvA n G t) V W
 | 0, _ => List.pairwise_singleton _ _
 | k + 1, hk => by
  have hkm : k < m := by omega
  have hX := h.rowVn hkm
  show (List.flatMap _ _).Pairwise _
  rw [List.pairwise_flatMap]
  refine ⟨fun w hw => ?_, ?_⟩
  ·have hwn := wdK_mn h.ok (n := n) (G := G) k w hw
   rw [List.pairwise_map]
   refine List.pairwise_iff_getElem.2 fun i j hi hj hij => ?_
   rw [muK_len] at hi hj
   have e : ∀ i (hi : i < F.q), (muK F (G.getD k []) F.q)[i]'(by rw [muK_len]; exact hi) = tiV F i (G.getD k []) := fun i hi => by
    have := muK_at (F := F) (X := G.getD k []) hi
    rw [List.getD_eq_getElem?_getD, List.getElem?_eq_getElem (by rw [muK_len]; exact hi)] at this; exact this
   rw [e i hi, e j hj]
   refine ⟨k, Nat.lt_succ_self _, fun s hs => ?_, ?_⟩
   ·rw [wd_at h.ok hwn.len hX.len, wd_at h.ok hwn.len hX.len, h.rowLo hkm hs, Ok.mul_z, Ok.mul_z]
   ·rw [wd_at h.ok hwn.len hX.len, wd_at h.ok hwn.len hX.len, h.rowOne hkm, h.wdZ (by omega) hw (Nat.le_refl _) hkm, h.ok.mul_one hi, h.ok.mul_one hj, Ok.add_comm, h.ok.add_zero hi, Ok.add_comm, h.ok.add_zero hj]; exact hij
  ·refine (VC.lex k (by omega)).imp_of_mem fun {V W} hV hW hVW x hx y hy => ?_
   obtain ⟨t, ht, h1, h2⟩ := hVW
   obtain ⟨r, hr, rfl⟩ := List.mem_map.1 hx
   obtain ⟨a, ha, rfl⟩ := List.mem_map.1 hr
   obtain ⟨r2, hr2, rfl⟩ := List.mem_map.1 hy
   obtain ⟨b, hb, rfl⟩ := List.mem_map.1 hr2
   have hVn := wdK_mn h.ok (n := n) (G := G) k V hV
   have hWn := wdK_mn h.ok (n := n) (G := G) k W hW
   have hp := h.pvMono ht hkm
   have z : ∀ {v : List Nat} (a j : Nat), Vn F n v → j ≤ pvA n G t → (plV F v (tiV F a (G.getD k []))).getD j 0 = v.getD j 0 := fun {v} a j hv hj => by
    rw [wd_at h.ok hv.len hX.len, h.rowLo hkm (by omega), Ok.mul_z, h.ok.add_zero (vn_lt h.ok hv j)]
   refine ⟨t, by omega, fun s hs => ?_, ?_⟩
   ·rw [z a s hVn (by omega), z b s hWn (by omega)]; exact h1 s hs
   ·rw [z a _ hVn (Nat.le_refl _), z b _ hWn (Nat.le_refl _)]; exact h2
theorem VC.nodup : (wdK F n G m).Nodup := (h.lex m (Nat.le_refl _)).imp fun {V W} hVW e => by
 obtain ⟨t, _, _, h2⟩ := hVW
 rw [e] at h2; omega
/-- the word of the message of a word -/
theorem VC.encMsg {V : List Nat} (hV : Vn F n V) (hs : Sp F (G.map Go.Fl.fn) (fn V)) : enK F n G (mgK n G V m) m = V := by
 have hmg : ∀ t, t < m → (mgK n G V m).getD t 0 = V.getD (pvA n G t) 0 := fun t ht => by
  have ht' : t < G.length := by rw [h.gc.len]; exact ht
  unfold mgK pvA
  rw [List.getD_eq_getElem?_getD, List.getElem?_map, List.getElem?_take_of_lt ht, List.getElem?_eq_getElem ht', List.getD_eq_getElem?_getD (l := G), List.getElem?_eq_getElem ht']; rfl
 have hen : ∀ k, k ≤ m → fn (enK F n G (mgK n G V m) k) = cb F ((G.take k).map Go.Fl.fn) (fn (mgK n G V m)) := by
  intro k
  induction k with
  | zero => intro _; exact (wtV_pz (n := n) (by simp [enK])).1 (wtV_zero.2 fun x hx => List.eq_of_mem_replicate (by unfold enK at hx; exact hx))
  | succ k ih =>
   intro hk
   have hk' : k < G.length := by rw [h.gc.len]; omega
   have hX := h.rowVn (show k < m by omega)
   show fn (plV F (enK F n G (mgK n G V m) k) (tiV F ((mgK n G V m).getD k 0) (G.getD k []))) = _
   rw [plV_fn h.ok (enK_vn h.ok k).len (by rw [tiV_len, hX.len]), tiV_fn h.ok hX.len, ih (by omega), List.take_succ_eq_append_getElem hk', List.map_append, cb_app h.ok]
   congr 1
   have e : ((G.take k).map Go.Fl.fn).length = k := by rw [List.length_map, List.length_take]; omega
   rw [e]
   have e2 : G.getD k [] = G[k] := by rw [List.getD_eq_getElem?_getD, List.getElem?_eq_getElem hk']; rfl
   rw [e2]
   have hel : El F (ps F ((mgK n G V m).getD k 0) (Go.Fl.fn G[k])) := el_s h.ok _ _
   funext j
   show _ = F.add (F.mul (fn (mgK n G V m) (0 + k)) (Go.Fl.fn G[k] j)) 0
   rw [Nat.zero_add]
   exact (h.ok.add_zero (h.ok.mul_lt _ _)).symm
 refine fn_inj (by rw [(enK_vn h.ok m).len, hV.len]) ?_
 have hml : G.take m = G := by rw [← h.gc.len, List.take_length]
 rw [hen m (Nat.le_refl _), hml, h.rows]
 rw [h.rows] at hs
 refine ((h.rm.red.red.sum h.ok hs).trans (cb_congr h.ok fun i hi => ?_)).symm
 have hi' : i < m := by rw [← h.lenL]; simpa using hi
 obtain ⟨hl, e1, _⟩ := h.pvL hi'
 rw [map_fst_getD hl, ← e1]
 exact (hmg i hi').symm
theorem VC.mgVn {V : List Nat} (hV : Vn F n V) : (mgK n G V m).length = m ∧ In F (mgK n G V m) := by
 have hm : m ≤ G.length := by rw [h.gc.len]; exact Nat.le_refl _
 refine ⟨by unfold mgK; rw [List.length_map, List.length_take]; omega, fun x hx => ?_⟩
 obtain ⟨r, _, rfl⟩ := List.mem_map.1 hx
 exact vn_lt h.ok hV _
theorem VC.encIn {M : List Nat} (hM : In F M) (hl : M.length = m) : ∀ k, k ≤ m → enK F n G M k ∈ wdK F n G k
 | 0, _ => List.mem_singleton.2 rfl
 | k + 1, hk => by
  refine List.mem_flatMap.2 ⟨_, VC.encIn hM hl k (by omega), List.mem_map.2 ⟨_, List.mem_map.2 ⟨M.getD k 0, List.mem_range.2 ?_, rfl⟩, rfl⟩⟩
  exact hM _ (getD_mem (by rw [hl]; omega))
theorem VC.memIff {V : List Nat} (hV : Vn F n V) : V ∈ wdK F n G m ↔ Sp F (G.map Go.Fl.fn) (fn V) := by
 constructor
 ·exact h.word_sp m (Nat.le_refl _) V
 ·intro hs
  obtain ⟨h1, h2⟩ := h.mgVn hV
  rw [← h.encMsg hV hs]
  exact h.encIn h2 h1 m (Nat.le_refl _)
end

end Go.Proofs.Ytdafhhojiioifaa
