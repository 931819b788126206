/- The vectors that a matrix takes to zero, one by one, as lists. -/
import Derived.Test.YtdafhhojiioifaaEvWi
namespace Go.Fl
set_option linter.unusedSectionVars false
set_option linter.unusedVariables false
variable {F : Gf}
theorem range_get' {α : Type} {d : α} {n j : Nat} (f : Nat → α) (h : j < n) : ((List.range n).map f).getD j d = f j := by
 rw [List.getD_eq_getElem?_getD, List.getElem?_map, List.getElem?_range h]; rfl
theorem list_ext {a b : List Nat} (hl : a.length = b.length) (h : ∀ j, j < a.length → a.getD j 0 = b.getD j 0) : a = b := by
 apply List.ext_getElem hl
 intro i h1 h2
 have := h i h1
 rwa [List.getD_eq_getElem?_getD, List.getD_eq_getElem?_getD, List.getElem?_eq_getElem h1, List.getElem?_eq_getElem h2] at this
/-- the vector of a free coordinate when the first i pivots are done -/
def xK (F : Gf) (L : List (Nat × Cf)) (n j i : Nat) : List Nat := (List.range n).map fun t => if isP (L.take i) t then kv F L j t else if t = j then 1 else 0
theorem xK_len (F : Gf) (L : List (Nat × Cf)) (n j i : Nat) : (xK F L n j i).length = n := by simp [xK]
theorem xK_get {L : List (Nat × Cf)} {n j i t : Nat} (h : t < n) : (xK F L n j i).getD t 0 = if isP (L.take i) t then kv F L j t else if t = j then 1 else 0 := range_get' _ h
theorem xK_zero (F : Gf) (L : List (Nat × Cf)) (n j : Nat) : (List.replicate n 0).set j 1 = xK F L n j 0 := list_ext (by simp [xK]) fun t ht => by
 have ht' : t < n := by simpa using ht
 rw [xK_get ht', List.take_zero]
 simp only [List.getD_eq_getElem?_getD, List.getElem?_set, List.length_replicate, isP, List.any_nil]
 by_cases e : j = t
 ·subst e; simp [ht']
 ·rw [if_neg e]; simp [ht', Ne.symm e]
theorem isP_take {L : List (Nat × Cf)} {i t : Nat} (hi : i < L.length) : isP (L.take (i + 1)) t = (isP (L.take i) t || ((L[i]).1 == t)) := by
 unfold isP
 rw [List.take_succ_eq_append_getElem hi, List.any_append]
 simp
section
variable (hF : Ok F)
include hF
theorem xK_succ {n : Nat} {L : List (Nat × Cf)} (h : RedL F n L) {i j : Nat} (hi : i < L.length) : (xK F L n j i).set (L[i]).1 (F.neg ((L[i]).2 j)) = xK F L n j (i + 1) := list_ext (by simp [xK_len]) fun t ht => by
 rw [List.length_set, xK_len] at ht
 rw [xK_get ht, isP_take hi]
 simp only [List.getD_eq_getElem?_getD, List.getElem?_set, xK_len]
 by_cases e : (L[i]).1 = t
 ·subst e
  simp [ht, kv_piv hF h (List.getElem_mem hi) j]
 ·rw [if_neg e, ← List.getD_eq_getElem?_getD, xK_get ht]
  simp [e]
theorem xK_end {n : Nat} {L : List (Nat × Cf)} (j : Nat) : xK F L n j L.length = toV n (kv F L j) := list_ext (by rw [xK_len, toV_len]) fun t ht => by
 rw [xK_len] at ht
 rw [xK_get ht, toV_get _ ht, List.take_length]
 by_cases e : isP L t = true
 ·rw [if_pos e]
 ·rw [if_neg e, kv_free hF (by simpa using e)]
/-- those of the first j coordinates -/
def Dk (F : Gf) (L : List (Nat × Cf)) (n j : Nat) : List (List Nat) := ((List.range j).filter fun x => !isP L x).map fun x => toV n (kv F L x)
omit hF in
theorem Dk_no {L : List (Nat × Cf)} {n j : Nat} (h : isP L j = true) : Dk F L n (j + 1) = Dk F L n j := by
 unfold Dk; rw [List.range_succ, List.filter_append]; simp [h]
omit hF in
theorem Dk_yes {L : List (Nat × Cf)} {n j : Nat} (h : isP L j = false) : Dk F L n (j + 1) = Dk F L n j ++ [toV n (kv F L j)] := by
 unfold Dk; rw [List.range_succ, List.filter_append]; simp [h]
omit hF in
theorem Dk_len (L : List (Nat × Cf)) (n j : Nat) : (Dk F L n j).length ≤ j := by
 unfold Dk
 rw [List.length_map]
 exact Nat.le_trans (List.length_filter_le _ _) (by simp)
theorem Dk_mn {n : Nat} {L : List (Nat × Cf)} (j : Nat) : Mn F n (Dk F L n j) := fun r hr => by
 obtain ⟨x, _, rfl⟩ := List.mem_map.1 hr
 exact toV_vn (kv_el hF L x)
theorem Dk_ker {n : Nat} {S : List (List Nat)} (hS : Mn F n S) : redM F n (Dk F (redL F n (S.map Go.Fl.fn)) n n) = kerM F n S := by
 obtain ⟨h1, -, -⟩ := redL_ok hF (Mn.vs hF hS)
 unfold redM kerM kerL
 congr 2
 unfold Dk frees
 rw [List.map_map]
 refine List.map_congr_left fun x hx => ?_
 exact fn_toV (kvs_vs hF h1 _ (List.mem_map.2 ⟨x, hx, rfl⟩)).2
theorem redM_row {n : Nat} {S : List (List Nat)} {i j : Nat} (hi : i < (redL F n (S.map Go.Fl.fn)).length) (hj : j < n) : ((redM F n S).getD i []).getD j 0 = ((redL F n (S.map Go.Fl.fn))[i]).2 j := by
 unfold redM
 rw [show ((redL F n (S.map Go.Fl.fn)).map fun a => toV n a.2).getD i [] = toV n ((redL F n (S.map Go.Fl.fn))[i]).2 from by
  rw [List.getD_eq_getElem?_getD, List.getElem?_map, List.getElem?_eq_getElem hi]; rfl]
 exact toV_get _ hj
end
theorem redM_len (n : Nat) (S : List (List Nat)) : (redM F n S).length = (redL F n (S.map Go.Fl.fn)).length := by simp [redM]
theorem pivM_len (n : Nat) (S : List (List Nat)) : (pivM F n S).length = (redL F n (S.map Go.Fl.fn)).length := by simp [pivM]
theorem pivM_get {n : Nat} {S : List (List Nat)} {i : Nat} (hi : i < (redL F n (S.map Go.Fl.fn)).length) : (pivM F n S).getD i 0 = ((redL F n (S.map Go.Fl.fn))[i]).1 := map_fst_getD hi
end Go.Fl

/- Products of rows and a vector, one coordinate after the other. -/
namespace Go.Fl
set_option linter.unusedSectionVars false
set_option linter.unusedVariables false
variable {F : Gf}
/-- the product of rows and a vector -/
def apM (F : Gf) (n : Nat) (A : List (List Nat)) (x : List Nat) : List Nat := A.map fun r => dt F n (Go.Fl.fn r) (Go.Fl.fn x)
theorem apM_len (n : Nat) (A : List (List Nat)) (x : List Nat) : (apM F n A x).length = A.length := by simp [apM]
theorem apM_snoc {n : Nat} {A : List (List Nat)} {x : List Nat} {t : Nat} (ht : t < A.length) : apM F n (A.take (t + 1)) x = apM F n (A.take t) x ++ [dt F n (Go.Fl.fn (A.getD t [])) (Go.Fl.fn x)] := by
 unfold apM
 rw [List.take_succ_eq_append_getElem ht, List.map_append]
 simp [List.getD_eq_getElem?_getD, List.getElem?_eq_getElem ht]
theorem apM_get {n : Nat} {A : List (List Nat)} {x : List Nat} {t : Nat} (ht : t < A.length) : (apM F n A x).getD t 0 = dt F n (Go.Fl.fn (A.getD t [])) (Go.Fl.fn x) := by
 unfold apM
 rw [List.getD_eq_getElem?_getD, List.getElem?_map, List.getD_eq_getElem?_getD, List.getElem?_eq_getElem ht]; rfl
/-- the first k products -/
def dK (F : Gf) (v w : Cf) (k : Nat) : Nat := sm F (fun j => F.mul (v j) (w j)) (List.range k)
theorem dK_zero (v w : Cf) : dK F v w 0 = 0 := rfl
theorem dK_end (v w : Cf) (n : Nat) : dK F v w n = dt F n v w := rfl
section
variable (hF : Ok F)
include hF
theorem sm_snoc {f : Nat → Nat} (hf : ∀ x, f x < F.q) (x : Nat) : ∀ l : List Nat, sm F f (l ++ [x]) = F.add (sm F f l) (f x)
 | [] => by show F.add (f x) 0 = F.add 0 (f x); rw [Ok.add_comm]
 | y :: l => by
  show F.add (f y) (sm F f (l ++ [x])) = F.add (F.add (f y) (sm F f l)) (f x)
  rw [sm_snoc hf x l, hF.add_assoc]
theorem dK_succ {v w : Cf} (hv : El F v) (hw : El F w) (k : Nat) : dK F v w (k + 1) = F.add (dK F v w k) (F.mul (v k) (w k)) := by
 unfold dK
 rw [List.range_succ, sm_snoc hF (fun j => hF.mul_lt _ _)]
theorem dK_lt (v w : Cf) (k : Nat) : dK F v w k < F.q := sm_lt hF _ _
theorem apM_in {n : Nat} {A : List (List Nat)} {x : List Nat} : In F (apM F n A x) := fun y hy => by
 obtain ⟨r, _, rfl⟩ := List.mem_map.1 hy
 exact dt_lt hF _ _ _
end
end Go.Fl

/- The first columns of a swept matrix; solutions of equations. -/
namespace Go.Fl
set_option linter.unusedSectionVars false
set_option linter.unusedVariables false
variable {F : Gf}
/-- the first c coordinates -/
def cut (c : Nat) (f : Cf) : Cf := fun j => if j < c then f j else 0
theorem cut_at {c j : Nat} (f : Cf) (h : j < c) : cut c f j = f j := if_pos h
theorem cut_hi {c j : Nat} (f : Cf) (h : c ≤ j) : cut c f j = 0 := if_neg (by omega)
theorem fn_app (x y : List Nat) (j : Nat) : Go.Fl.fn (x ++ y) j = if j < x.length then Go.Fl.fn x j else Go.Fl.fn y (j - x.length) := by
 show (x ++ y).getD j 0 = if j < x.length then x.getD j 0 else y.getD (j - x.length) 0
 simp only [List.getD_eq_getElem?_getD]
 by_cases h : j < x.length
 ·rw [if_pos h, List.getElem?_append_left h]
 ·rw [if_neg h, List.getElem?_append_right (by omega)]
theorem cut_app {x y : List Nat} {c : Nat} (h : x.length = c) : cut c (Go.Fl.fn (x ++ y)) = Go.Fl.fn x := funext fun j => by
 unfold cut
 rw [fn_app]
 by_cases e : j < c
 ·rw [if_pos e, if_pos (by omega)]
 ·rw [if_neg e, fn_ge (by omega)]
section
variable (hF : Ok F)
include hF
theorem cut_el {c : Nat} {f : Cf} (h : El F f) : El F (cut c f) := fun j => by
 unfold cut; split
 ·exact h j
 ·exact hF.zero_lt
theorem cb_cut (c : Nat) : ∀ (R : List Cf) (a : Cf), cb F (R.map (cut c)) a = cut c (cb F R a)
 | [], a => funext fun j => by show 0 = (if j < c then 0 else 0); split <;> rfl
 | r :: R, a => by
  show pa F (ps F (a 0) (cut c r)) (cb F (R.map (cut c)) fun i => a (i + 1)) = cut c (pa F (ps F (a 0) r) (cb F R fun i => a (i + 1)))
  rw [cb_cut c R]
  funext j
  show F.add (F.mul (a 0) (if j < c then r j else 0)) (if j < c then _ else 0) = if j < c then F.add (F.mul (a 0) (r j)) _ else 0
  split
  ·rfl
  ·rw [Ok.mul_z, hF.add_zero hF.zero_lt]
theorem sp_cut {c : Nat} {R : List Cf} {x : Cf} : Sp F (R.map (cut c)) x ↔ ∃ v, Sp F R v ∧ cut c v = x := by
 constructor
 ·rintro ⟨a, ha, rfl⟩; exact ⟨cb F R a, ⟨a, ha, rfl⟩, (cb_cut hF c R a).symm⟩
 ·rintro ⟨v, ⟨a, ha, rfl⟩, rfl⟩; exact ⟨a, ha, cb_cut hF c R a⟩
theorem map_getD {c : Nat} {M : List Cf} {k : Nat} : (M.map (cut c)).getD k pz = cut c (M.getD k pz) := by
 rw [List.getD_eq_getElem?_getD, List.getElem?_map, List.getD_eq_getElem?_getD]
 cases M[k]? with
 | some v => rfl
 | none => funext j; show 0 = (if j < c then 0 else 0); split <;> rfl
/-- the first columns of a matrix whose first columns are swept -/
theorem Sw.cut {n c : Nat} {P : List Nat} {M : List Cf} (h : Sw F n c P M) : Sw F c c P (M.map (Go.Fl.cut c)) where
 lt := h.lt
 bd := h.bd
 le := by rw [List.length_map]; exact h.le
 vs := fun v hv => by
  obtain ⟨r, hr, rfl⟩ := List.mem_map.1 hv
  exact ⟨cut_el hF (h.vs r hr).1, fun j hj => cut_hi r hj⟩
 lo := fun i hi j hj => by
  have hb := h.bd (P.getD i 0) (by rw [List.getD_eq_getElem?_getD, List.getElem?_eq_getElem hi]; exact List.getElem_mem hi)
  rw [map_getD hF, cut_at _ (by omega)]; exact h.lo i hi j hj
 pv := fun i hi k hk => by
  have hb := h.bd (P.getD i 0) (by rw [List.getD_eq_getElem?_getD, List.getElem?_eq_getElem hi]; exact List.getElem_mem hi)
  rw [List.length_map] at hk
  rw [map_getD hF, cut_at _ hb]; exact h.pv i hi k hk
 be := fun k hk hp j hj => by
  rw [List.length_map] at hk
  rw [map_getD hF, cut_at _ hj]; exact h.be k hk hp j hj
/-- the pivots of the first columns -/
theorem Sw.pivs {n c : Nat} {P : List Nat} {M : List Cf} {T : List Cf} {A : List (List Nat)} (h : Sw F n c P M) (hA : Mn F c A) (hs : ∀ v, Sp F M v ↔ Sp F T v) (hT : T.map (Go.Fl.cut c) = A.map Go.Fl.fn) : P = pivM F c A := by
 obtain ⟨h1, h2⟩ := (h.cut hF).fin hF
 obtain ⟨g1, g2, -⟩ := redL_ok hF (Mn.vs hF hA)
 refine (h1.uniq hF g1.red fun v => (h2 v).trans ?_).1
 rw [g2, sp_cut hF, ← hT, sp_cut hF]
 exact ⟨fun ⟨v, a, b⟩ => ⟨v, (hs v).1 a, b⟩, fun ⟨v, a, b⟩ => ⟨v, (hs v).2 a, b⟩⟩
/-- nothing is left of the equations: all columns are swept -/
theorem Sw.solved {n : Nat} {P : List Nat} {M T : List (List Nat)} (hT : Mn F (n + 1) T) (h : Sw F (n + 1) n P (M.map Go.Fl.fn)) (hl : ∀ r ∈ M, r.length = n + 1) (hs : ∀ v, Sp F (M.map Go.Fl.fn) v ↔ Sp F (T.map Go.Fl.fn) v)
  (hz : ∀ k, k < M.length → P.length ≤ k → (M.getD k []).getD n 0 = 0) : M.take P.length = Go.Fl.redM F (n + 1) T ∧ P = pivM F (n + 1) T := by
 refine Sw.redM hF hT hl (h.none hF fun k hk hp => ?_) hs
 rw [List.length_map] at hk
 have := hz k hk hp
 rw [List.getD_eq_getElem?_getD, List.getElem?_map]
 rw [List.getD_eq_getElem?_getD (l := M)] at this
 cases e : M[k]? with
 | some v => rw [e] at this; exact this
 | none => rfl
/-- something is left: the last column has a pivot -/
theorem Sw.unsolved {n k : Nat} {P : List Nat} {M T : List (List Nat)} (hT : Mn F (n + 1) T) (h : Sw F (n + 1) n P (M.map Go.Fl.fn)) (hs : ∀ v, Sp F (M.map Go.Fl.fn) v ↔ Sp F (T.map Go.Fl.fn) v)
  (hk : k < M.length) (hp : P.length ≤ k) (hz : (M.getD k []).getD n 0 ≠ 0) : n ∈ pivM F (n + 1) T := by
 have hk' : k < (M.map Go.Fl.fn).length := by rw [List.length_map]; exact hk
 have ha : P.length < (M.map Go.Fl.fn).length := by omega
 have h1 := h.swap hF hk' hp
 have hc : (swp (M.map Go.Fl.fn) P.length k).getD P.length pz n ≠ 0 := by
  rw [swp_at ha hk']
  have e : (M.map Go.Fl.fn).getD k pz n ≠ 0 := by
   rw [List.getD_eq_getElem?_getD, List.getElem?_map, List.getElem?_eq_getElem hk]
   rw [List.getD_eq_getElem?_getD (l := M), List.getElem?_eq_getElem hk] at hz
   exact hz
  split
  ·rename_i e'; rw [e']; exact e
  ·rw [if_pos rfl]; exact e
 have ha2 : P.length < (swp (M.map Go.Fl.fn) P.length k).length := by rw [swp_len]; exact ha
 have h2 := h1.piv hF ha2 hc
 obtain ⟨r1, r2⟩ := h2.fin hF
 obtain ⟨g1, g2, -⟩ := redL_ok hF (Mn.vs hF hT)
 have e := (r1.uniq hF g1.red fun v => (r2 v).trans ((iso_sp hF h1.vs ha2 hc v).trans ((swp_sp hF h.vs ha hk' v).trans ((hs v).trans (g2 v).symm)))).1
 show n ∈ (redL F (n + 1) (T.map Go.Fl.fn)).map Prod.fst
 rw [← e]; simp
end
/-- the solution when the first k pivots are done -/
def sxK (L : List (Nat × Cf)) (n k : Nat) : List Nat := (List.range n).map fun j => match (L.take k).find? (fun a => a.1 == j) with
 | some a => a.2 n
 | none => 0
theorem sxK_len (L : List (Nat × Cf)) (n k : Nat) : (sxK L n k).length = n := by simp [sxK]
theorem sxK_zero (L : List (Nat × Cf)) (n : Nat) : sxK L n 0 = List.replicate n 0 := by
 refine list_ext (by simp [sxK]) fun j hj => ?_
 rw [sxK_len] at hj
 unfold sxK
 rw [range_get' _ hj]; simp [hj]
theorem sxK_succ {n N : Nat} {L : List (Nat × Cf)} (h : RedL F N L) {k : Nat} (hk : k < L.length) : (sxK L n k).set (L[k]).1 ((L[k]).2 n) = sxK L n (k + 1) := by
 refine list_ext (by simp [sxK_len]) fun j hj => ?_
 rw [List.length_set, sxK_len] at hj
 have e1 : ∀ i, (sxK L n i).getD j 0 = match (L.take i).find? (fun a => a.1 == j) with | some a => a.2 n | none => 0 := fun i => range_get' _ hj
 rw [e1, List.take_succ_eq_append_getElem hk, List.find?_append]
 simp only [List.getD_eq_getElem?_getD, List.getElem?_set, sxK_len]
 by_cases e : (L[k]).1 = j
 ·subst e
  have hnone : (L.take k).find? (fun a => a.1 == (L[k]).1) = none := by
   rw [List.find?_eq_none]
   intro a ha
   obtain ⟨i, hi, rfl⟩ := List.getElem_of_mem ha
   rw [List.length_take] at hi
   have hp := List.pairwise_iff_getElem.1 h.pw
   have := (hp i k (by omega) hk (by omega)).1
   rw [List.getElem_take]
   simp; omega
  rw [if_pos rfl, if_pos hj, hnone]
  simp
 ·rw [if_neg e]
  have := e1 k
  rw [List.getD_eq_getElem?_getD] at this
  rw [this]
  cases (L.take k).find? (fun a => a.1 == j) with
  | some a => rfl
  | none => simp [e]
/-- the solution of equations whose last column is what is asked for -/
def solM (F : Gf) (n : Nat) (T : List (List Nat)) : Option (List Nat) := if n ∈ pivM F (n + 1) T then none else some (sxK (redL F (n + 1) (T.map Go.Fl.fn)) n (redL F (n + 1) (T.map Go.Fl.fn)).length)
end Go.Fl
