/- The inverse matrix. -/
import Derived.Test.YteeofijcndgbfaaUa
namespace Go.Proofs.Yteeofijcndgbfaa
open Go.Fl
set_option linter.unusedVariables false
set_option linter.unusedSectionVars false
abbrev eL (n k : Nat) : List Nat := (List.replicate n 0).set k 1
theorem eL_fn {n k : Nat} (hk : k < n) : Go.Fl.fn (eL n k) = un k := funext fun j => by
 show (List.set _ _ _).getD j 0 = if j = k then 1 else 0
 rw [List.getD_eq_getElem?_getD, List.getElem?_set]
 by_cases h : k = j
 ·subst h; rw [if_pos rfl, if_pos rfl]; simp [hk]
 ·rw [if_neg h, if_neg (fun e => h e.symm), List.getElem?_replicate]; split <;> rfl
theorem idM_get {n i k : Nat} (hk : k < i) : (idM n i).getD k [] = eL n k := by
 unfold idM
 rw [List.getD_eq_getElem?_getD, List.getElem?_map, List.getElem?_range hk]; rfl
theorem pw_len : ∀ {P : List Nat} {a b : Nat}, P.Pairwise (· < ·) → (∀ p ∈ P, a ≤ p ∧ p < b) → P.length ≤ b - a
 | [], _, _, _, _ => Nat.zero_le _
 | p :: P, a, b, h, k => by
  rw [List.pairwise_cons] at h
  have h1 := k p (by simp)
  have := pw_len (a := p + 1) (b := b) h.2 fun x hx => ⟨h.1 x hx, (k x (by simp [hx])).2⟩
  rw [List.length_cons]; omega
theorem pw_range : ∀ {P : List Nat} {a : Nat}, P.Pairwise (· < ·) → (∀ p ∈ P, a ≤ p ∧ p < a + P.length) → P = List.range' a P.length
 | [], _, _, _ => rfl
 | p :: P, a, h, k => by
  rw [List.pairwise_cons] at h
  rw [List.length_cons] at k ⊢
  have h1 := k p (by simp)
  have h2 := pw_len (a := p + 1) (b := a + (P.length + 1)) h.2 fun x hx => ⟨h.1 x hx, (k x (by simp [hx])).2⟩
  obtain rfl : p = a := by omega
  rw [List.range'_succ]
  congr 1
  exact pw_range h.2 fun x hx => ⟨h.1 x hx, by have := (k x (by simp [hx])).2; omega⟩
theorem pw_all {P : List Nat} {n : Nat} (h : P.Pairwise (· < ·)) (k : ∀ p ∈ P, p < n) (hl : P.length = n) : P = List.range n := by
 have := pw_range (a := 0) h fun p hp => ⟨Nat.zero_le _, by have := k p hp; omega⟩
 rw [this, hl, List.range_eq_range']
/-- the second half -/
abbrev hf (n : Nat) (f : Cf) : Cf := fun j => f (n + j)
/-- the halves changed -/
def sg (n : Nat) (f : Cf) : Cf := fun j => if j < n then f (n + j) else if j < n + n then f (j - n) else 0
section
variable {F : Gf} (hF : Ok F)
include hF
theorem lin_sp {n : Nat} {g h : Cf} (hg : El F g) (hh : El F h) {R : List Cf} (hR : Els F R) (H : ∀ r ∈ R, dt F n r g = dt F n (hf n r) h) {v : Cf} (hv : Sp F R v) : dt F n v g = dt F n (hf n v) h := by
 obtain ⟨c, hc, rfl⟩ := hv
 induction R generalizing c with
 | nil =>
  show dt F n pz g = dt F n pz h
  rw [dt_z hF, dt_z hF]
 | cons r R ih =>
  have h1 := ih (fun x hx => hR x (by simp [hx])) (fun x hx => H x (by simp [hx])) (fun i => c (i + 1)) (fun i => hc (i + 1))
  show dt F n (pa F (ps F (c 0) r) (cb F R fun i => c (i + 1))) g = dt F n (pa F (ps F (c 0) (hf n r)) (hf n (cb F R fun i => c (i + 1)))) h
  have e1 : El F (hf n (cb F R fun i => c (i + 1))) := fun i => cb_el hF _ _ _
  rw [dt_pa hF (el_s hF _ _) (cb_el hF _ _) hg, dt_pa hF (el_s hF _ _) e1 hh, dt_ps hF (hc 0), dt_ps hF (hc 0), h1, H r (by simp)]
theorem cb_sg (n : Nat) : ∀ (R : List Cf) (a : Cf), cb F (R.map (sg n)) a = sg n (cb F R a)
 | [], a => funext fun j => by
  show 0 = sg n pz j
  unfold sg
  split
  ·rfl
  ·split <;> rfl
 | r :: R, a => by
  show pa F (ps F (a 0) (sg n r)) (cb F (R.map (sg n)) fun i => a (i + 1)) = sg n (pa F (ps F (a 0) r) (cb F R fun i => a (i + 1)))
  rw [cb_sg n R]
  funext j
  show F.add (F.mul (a 0) (sg n r j)) (sg n _ j) = sg n _ j
  unfold sg
  split
  ·rfl
  ·split
   ·rfl
   ·rw [Ok.mul_z]; exact hF.add_zero hF.zero_lt
theorem sp_sg {n : Nat} {R : List Cf} {v : Cf} (h : Sp F R v) : Sp F (R.map (sg n)) (sg n v) := by
 obtain ⟨c, hc, rfl⟩ := h
 exact ⟨c, hc, cb_sg hF n R c⟩
omit hF in
theorem bes_at {A B : List (List Nat)} {n k : Nat} (la : A.length = n) (lb : B.length = n) (ma : Mn F n A) (hk : k < n) (j : Nat) : Go.Fl.fn ((besM A B).getD k []) j = if j < n then Go.Fl.fn (A.getD k []) j else Go.Fl.fn (B.getD k []) (j - n) := by
 rw [besM_get (by omega) (by omega), fn_app, (mrow ma (by omega)).len]
omit hF in
theorem map_getD' {M : List (List Nat)} {k : Nat} : (M.map Go.Fl.fn).getD k pz = Go.Fl.fn (M.getD k []) := map_fn_get
omit hF in
theorem mem_at {M : List (List Nat)} {r : Cf} (h : r ∈ M.map Go.Fl.fn) : ∃ k, k < M.length ∧ r = Go.Fl.fn (M.getD k []) := by
 obtain ⟨x, hx, rfl⟩ := List.mem_map.1 h
 obtain ⟨k, hk, rfl⟩ := List.getElem_of_mem hx
 exact ⟨k, hk, by rw [List.getD_eq_getElem?_getD, List.getElem?_eq_getElem hk]; rfl⟩
theorem bes_sg {A B : List (List Nat)} {n k : Nat} (la : A.length = n) (lb : B.length = n) (ma : Mn F n A) (mb : Mn F n B) (hk : k < n) : sg n (Go.Fl.fn ((besM A B).getD k [])) = Go.Fl.fn ((besM B A).getD k []) := funext fun j => by
 rw [bes_at lb la mb hk]
 unfold sg
 rw [bes_at la lb ma hk, bes_at la lb ma hk]
 split
 ·rw [if_neg (by omega), show n + j - n = j by omega]
 ·split
  ·rw [if_pos (by omega)]
  ·rw [fn_ge (by rw [(mrow ma (by omega)).len]; omega)]
/-- the spans of two, their halves changed -/
theorem sp_turn {A B C D : List (List Nat)} {n : Nat} (la : A.length = n) (lb : B.length = n) (lc : C.length = n) (ld : D.length = n) (ma : Mn F n A) (mb : Mn F n B) (mc : Mn F n C) (md : Mn F n D)
  (h : ∀ v, Sp F ((besM A B).map Go.Fl.fn) v → Sp F ((besM C D).map Go.Fl.fn) v) (v : Cf) (hv : Sp F ((besM B A).map Go.Fl.fn) v) : Sp F ((besM D C).map Go.Fl.fn) v := by
 have e1 := ((besM_mn la lb ma mb).vs hF).els
 have e2 := ((besM_mn ld lc md mc).vs hF).els
 have e3 : ((besM C D).map Go.Fl.fn).map (sg n) = (besM D C).map Go.Fl.fn := by
  rw [List.map_map]
  apply List.ext_getElem (by rw [List.length_map, List.length_map, besM_len lc ld, besM_len ld lc])
  intro k h1 h2
  rw [List.length_map, besM_len lc ld] at h1
  have := bes_sg hF lc ld mc md h1
  rw [List.getD_eq_getElem?_getD, List.getElem?_eq_getElem (by rw [besM_len lc ld]; exact h1), List.getD_eq_getElem?_getD, List.getElem?_eq_getElem (by rw [besM_len ld lc]; exact h1)] at this
  rw [List.getElem_map, List.getElem_map]; exact this
 refine Sp.le hF e2 (fun r hr => ?_) hv
 obtain ⟨k, hk, rfl⟩ := mem_at hr
 rw [besM_len lb la] at hk
 rw [← bes_sg hF la lb ma mb hk, ← e3]
 refine sp_sg hF (h _ ?_)
 rw [← map_getD']
 exact Sp.get hF e1 (by rw [List.length_map, besM_len la lb]; exact hk)
/-- the identity beside a matrix is reduced -/
theorem bes_redL {C : List (List Nat)} {n : Nat} (lc : C.length = n) (mc : Mn F n C) : RedL F (n + n) ((List.range n).map fun k => (k, Go.Fl.fn ((besM (idM n n) C).getD k []))) := by
 have hi := idM_mn hF n n
 have hm := besM_mn (idM_len n n) lc hi mc
 have hl := besM_len (idM_len n n) lc
 have hat : ∀ k, k < n → ∀ j, j < n → Go.Fl.fn ((besM (idM n n) C).getD k []) j = if j = k then 1 else 0 := fun k hk j hj => by
  rw [bes_at (idM_len n n) lc hi hk, if_pos hj, idM_get hk, eL_fn hk]; rfl
 constructor
 ·rw [List.pairwise_map]
  refine List.Pairwise.imp_of_mem ?_ (List.pairwise_lt_range (n := n))
  intro a b ha hb hab
  have ha := List.mem_range.1 ha
  have hb := List.mem_range.1 hb
  refine ⟨hab, ?_, ?_⟩
  ·show Go.Fl.fn _ b = 0
   rw [hat a ha b hb, if_neg (by omega)]
  ·show Go.Fl.fn _ a = 0
   rw [hat b hb a ha, if_neg (by omega)]
 ·intro a ha
  obtain ⟨k, hk, rfl⟩ := List.mem_map.1 ha
  have hk := List.mem_range.1 hk
  have hv := mrow hm (k := k) (by omega)
  exact ⟨by show k < n + n; omega, hv.fn hF, by show Go.Fl.fn _ k = 1; rw [hat k hk k hk, if_pos rfl], fun j hj => by
   have hj : j < k := hj
   show Go.Fl.fn _ j = 0
   rw [hat k hk j (by omega), if_neg (by omega)], hv.hi⟩
omit hF in
theorem rg_snd {M : List (List Nat)} {n : Nat} (hl : M.length = n) : ((List.range n).map fun k => (k, Go.Fl.fn (M.getD k []))).map Prod.snd = M.map Go.Fl.fn := by
 rw [List.map_map]
 apply List.ext_getElem (by simp [hl])
 intro k h1 h2
 rw [List.length_map] at h2
 simp [List.getD_eq_getElem?_getD, List.getElem?_eq_getElem h2]
omit hF in
theorem rg_fst {n : Nat} {f : Nat → Cf} : ((List.range n).map fun k => (k, f k)).map Prod.fst = List.range n := by
 rw [List.map_map]
 exact List.map_id _
theorem bes_red {C U : List (List Nat)} {n : Nat} (lc : C.length = n) (mc : Mn F n C) (hU : Mn F (n + n) U) (hs : ∀ v, Sp F ((besM (idM n n) C).map Go.Fl.fn) v ↔ Sp F (U.map Go.Fl.fn) v) : besM (idM n n) C = redM F (n + n) U := by
 have h := (bes_redL hF lc mc).red
 rw [rg_snd (besM_len (idM_len n n) lc), rg_fst] at h
 exact (redM_of hF hU (fun r hr => (besM_mn (idM_len n n) lc (idM_mn hF n n) mc r hr).len) h hs).1
omit hF in
theorem bes_drop {A B : List (List Nat)} {n : Nat} (la : A.length = n) (lb : B.length = n) (ma : Mn F n A) : (besM A B).map (List.drop n) = B := by
 apply List.ext_getElem (by rw [List.length_map, besM_len la lb, lb])
 intro k h1 h2
 rw [List.length_map, besM_len la lb] at h1
 have := besM_get (A := A) (B := B) (k := k) (by omega) (by omega)
 rw [List.getD_eq_getElem?_getD, List.getElem?_eq_getElem (by rw [besM_len la lb]; exact h1)] at this
 rw [List.getElem_map, show (besM A B)[k]'(by rw [besM_len la lb]; exact h1) = A.getD k [] ++ B.getD k [] from this, List.drop_left' (mrow ma (by omega)).len, List.getD_eq_getElem?_getD, List.getElem?_eq_getElem h2]; rfl
theorem sp_unit {A : List (List Nat)} {n k : Nat} (hA : Mn F n A) (hp : (pivM F n A).length = n) (hk : k < n) : Sp F (A.map Go.Fl.fn) (un k) := by
 have h := redM_red hF hA
 have hP := pw_all h.lt h.bd hp
 have hl := h.len
 rw [hp] at hl
 rw [hP] at h
 rw [← redM_sp hF hA]
 have e : ((redM F n A).map Go.Fl.fn).getD k pz = un k := funext fun j => by
  rcases Nat.lt_or_ge j n with hj | hj
  ·have := h.pv j (by omega) k (by omega)
   rw [List.getD_eq_getElem?_getD (l := List.range n), List.getElem?_range hj] at this
   rw [show ((some j).getD 0) = j from rfl] at this
   rw [this]; unfold un; by_cases e : k = j
   ·rw [if_pos e, if_pos e.symm]
   ·rw [if_neg e, if_neg (fun h => e h.symm)]
  ·rw [h.hi (((redM F n A).map Go.Fl.fn).getD k pz) (by rw [List.getD_eq_getElem?_getD, List.getElem?_eq_getElem (by omega)]; exact List.getElem_mem _) j hj]
   unfold un; rw [if_neg (by omega)]
 rw [← e]
 exact Sp.get hF h.el (by omega)
theorem inv_some {A : List (List Nat)} {n : Nat} (hA : Mn F n A) (la : A.length = n) (hp : (pivM F n A).length = n) : ∃ B, invM F n A = some B ∧ Mn F n B ∧ B.length = n ∧ ∀ v, Sp F ((besM (idM n n) B).map Go.Fl.fn) v ↔ Sp F ((besM A (idM n n)).map Go.Fl.fn) v := by
 have hi := idM_mn hF n n
 have hT := besM_mn la (idM_len n n) hA hi
 have hTl := besM_len la (idM_len n n)
 have hex : ∀ k, ∃ w, k < n → Sp F ((besM A (idM n n)).map Go.Fl.fn) w ∧ cut n w = un k := fun k => by
  by_cases hk : k < n
  ·have h := sp_unit hF hA hp hk
   rw [← besM_cut la (idM_len n n) hA, sp_cut hF] at h
   obtain ⟨w, h⟩ := h
   exact ⟨w, fun _ => h⟩
  ·exact ⟨pz, fun h => absurd h hk⟩
 obtain ⟨w, hw⟩ := Classical.axiomOfChoice hex
 have hB : Mn F n ((List.range n).map fun k => toV n (hf n (w k))) := fun r hr => by
  obtain ⟨k, hk, rfl⟩ := List.mem_map.1 hr
  exact toV_vn fun j => (hw k (List.mem_range.1 hk)).1.el hF _
 have lB : ((List.range n).map fun k => toV n (hf n (w k))).length = n := by simp
 have gB : ∀ k, k < n → ((List.range n).map fun k => toV n (hf n (w k))).getD k [] = toV n (hf n (w k)) := fun k hk => by
  rw [List.getD_eq_getElem?_getD, List.getElem?_map, List.getElem?_range hk]; rfl
 generalize ((List.range n).map fun k => toV n (hf n (w k))) = B at hB lB gB
 have hfw : ∀ k, k < n → Go.Fl.fn ((besM (idM n n) B).getD k []) = w k := fun k hk => funext fun j => by
  rw [bes_at (idM_len n n) lB hi hk, gB k hk, idM_get hk, eL_fn hk]
  obtain ⟨h1, h2⟩ := hw k hk
  by_cases hj : j < n
  ·rw [if_pos hj, ← h2, cut_at _ hj]
  ·rw [if_neg hj]
   by_cases hj2 : j - n < n
   ·show (toV n _).getD _ _ = _
    rw [toV_get _ hj2]; show w k (n + (j - n)) = _; rw [show n + (j - n) = j by omega]
   ·rw [fn_ge (by rw [toV_len]; omega), Sp.hi hF (hT.vs hF) h1 j (by omega)]
 have hL := bes_redL hF lB hB
 have e1 := rg_snd (M := besM (idM n n) B) (besM_len (idM_len n n) lB)
 have h1 : ∀ v, Sp F ((besM (idM n n) B).map Go.Fl.fn) v → Sp F ((besM A (idM n n)).map Go.Fl.fn) v := fun v hv => by
  refine Sp.le hF (hT.vs hF).els (fun r hr => ?_) hv
  obtain ⟨k, hk, rfl⟩ := mem_at hr
  rw [besM_len (idM_len n n) lB] at hk
  rw [hfw k hk]; exact (hw k hk).1
 have hs : ∀ v, Sp F ((besM (idM n n) B).map Go.Fl.fn) v ↔ Sp F ((besM A (idM n n)).map Go.Fl.fn) v := fun v => ⟨h1 v, fun hv => by
  have := hL.fill hF (hT.vs hF).els (fun v hv => h1 v (by rw [← e1]; exact hv)) (by simp [hTl]) hv
  rwa [e1] at this⟩
 refine ⟨B, ?_, hB, lB, hs⟩
 unfold invM
 rw [if_neg (by omega), ← bes_red hF lB hB hT hs, bes_drop (idM_len n n) lB hi]
end
end Go.Proofs.Yteeofijcndgbfaa
