/- What the inverse does. -/
import Derived.Test.YteeofijcndgbfaaVa
namespace Go.Proofs.Yteeofijcndgbfaa
open Go.Fl
set_option linter.unusedVariables false
set_option linter.unusedSectionVars false
/-- a column -/
abbrev clM (A : List (List Nat)) (i : Nat) : List Nat := A.map fun r => r.getD i 0
/-- a matrix turned -/
def tuM (n : Nat) (A : List (List Nat)) : List (List Nat) := (List.range n).map (clM A)
theorem tuM_len (n : Nat) (A : List (List Nat)) : (tuM n A).length = n := by simp [tuM]
theorem tuM_get {n i : Nat} {A : List (List Nat)} (hi : i < n) : (tuM n A).getD i [] = clM A i := by
 unfold tuM; rw [List.getD_eq_getElem?_getD, List.getElem?_map, List.getElem?_range hi]; rfl
section
variable {F : Gf} (hF : Ok F)
include hF
theorem clM_vn {A : List (List Nat)} {n m : Nat} (hA : Mn F n A) (la : A.length = m) (i : Nat) : Vn F m (clM A i) := ⟨by simp [la], fun x hx => by
 obtain ⟨r, hr, rfl⟩ := List.mem_map.1 hx
 exact (hA r hr).el.get hF i⟩
theorem tuM_mn {A : List (List Nat)} {n m : Nat} (hA : Mn F n A) (la : A.length = m) (k : Nat) : Mn F m (tuM k A) := fun r hr => by
 obtain ⟨i, _, rfl⟩ := List.mem_map.1 hr
 exact clM_vn hF hA la i
theorem dt_un {n k : Nat} {f : Cf} (hf : El F f) (hk : k < n) : dt F n (un k) f = f k := by
 unfold dt
 rw [sm_one hF (f := fun j => F.mul (un k j) (f j)) (fun j => hF.mul_lt _ _) (x := k) List.nodup_range (List.mem_range.2 hk) (fun y _ h => by
  show F.mul (if y = k then 1 else 0) (f y) = 0
  rw [if_neg h, Ok.z_mul])]
 show F.mul (if k = k then 1 else 0) (f k) = f k
 rw [if_pos rfl, hF.one_mul (hf k)]
omit hF in
theorem apM_len (n : Nat) (A : List (List Nat)) (V : List Nat) : (apM F n A V).length = A.length := by simp [apM]
omit hF in
theorem apM_get {n k : Nat} {A : List (List Nat)} {V : List Nat} (hk : k < A.length) : (apM F n A V).getD k 0 = dt F n (Go.Fl.fn (A.getD k [])) (Go.Fl.fn V) := by
 unfold apM
 rw [List.getD_eq_getElem?_getD, List.getElem?_map, List.getD_eq_getElem?_getD, List.getElem?_eq_getElem hk]; rfl
theorem apM_vn {n m : Nat} {A : List (List Nat)} (la : A.length = m) (V : List Nat) : Vn F m (apM F n A V) := ⟨by rw [apM_len, la], fun x hx => by
 obtain ⟨r, _, rfl⟩ := List.mem_map.1 hx
 exact dt_lt hF _ _ _⟩
theorem apM_unit {n i : Nat} {A : List (List Nat)} (hA : Mn F n A) (hi : i < n) : apM F n A (eL n i) = clM A i := by
 unfold apM clM
 refine List.map_congr_left fun r hr => ?_
 rw [eL_fn hi, dt_comm hF, dt_un hF ((hA r hr).fn hF) hi]; rfl
omit hF in
theorem vn_ext {n : Nat} {a b : List Nat} (ha : a.length = n) (hb : b.length = n) (h : ∀ j, j < n → a.getD j 0 = b.getD j 0) : a = b := by
 apply List.ext_getElem (by omega)
 intro j h1 h2
 have := h j (by omega)
 rwa [List.getD_eq_getElem?_getD, List.getD_eq_getElem?_getD, List.getElem?_eq_getElem h1, List.getElem?_eq_getElem h2] at this
theorem hf_bes {A B : List (List Nat)} {n k : Nat} (la : A.length = n) (lb : B.length = n) (ma : Mn F n A) (hk : k < n) : hf n (Go.Fl.fn ((besM A B).getD k [])) = Go.Fl.fn (B.getD k []) := funext fun j => by
 show Go.Fl.fn _ (n + j) = _
 rw [bes_at la lb ma hk, if_neg (by omega), show n + j - n = j by omega]
theorem dt_bes {A B : List (List Nat)} {n k : Nat} (la : A.length = n) (lb : B.length = n) (ma : Mn F n A) (hk : k < n) (g : Cf) : dt F n (Go.Fl.fn ((besM A B).getD k [])) g = dt F n (Go.Fl.fn (A.getD k [])) g := by
 unfold dt
 refine sm_congr hF fun j hj => ?_
 rw [bes_at la lb ma hk, if_pos (List.mem_range.1 hj)]
/-- the inverse takes back what the matrix did -/
theorem inv_left {A B : List (List Nat)} {n : Nat} (hA : Mn F n A) (la : A.length = n) (hB : Mn F n B) (lb : B.length = n) (hs : ∀ v, Sp F ((besM (idM n n) B).map Go.Fl.fn) v ↔ Sp F ((besM A (idM n n)).map Go.Fl.fn) v) {V : List Nat} (hV : Vn F n V) :
  apM F n B (apM F n A V) = V := by
 have hi := idM_mn hF n n
 have hT := besM_mn la (idM_len n n) hA hi
 have hR := besM_mn (idM_len n n) lb hi hB
 refine vn_ext (by rw [apM_len, lb]) hV.len fun k hk => ?_
 rw [apM_get (by omega)]
 have h := lin_sp hF (n := n) (g := Go.Fl.fn V) (h := Go.Fl.fn (apM F n A V)) (hV.fn hF) ((apM_vn hF la V).fn hF) (hT.vs hF).els (fun r hr => by
  obtain ⟨j, hj, rfl⟩ := mem_at hr
  rw [besM_len la (idM_len n n)] at hj
  rw [hf_bes hF la (idM_len n n) hA hj, dt_bes hF la (idM_len n n) hA hj, idM_get hj, eL_fn hj, dt_un hF ((apM_vn hF la V).fn hF) hj]
  exact (apM_get (by omega)).symm)
  ((hs _).1 (Sp.get hF (hR.vs hF).els (i := k) (by rw [List.length_map, besM_len (idM_len n n) lb]; exact hk)))
 rw [map_getD', hf_bes hF (idM_len n n) lb hi hk, dt_bes hF (idM_len n n) lb hi hk, idM_get hk, eL_fn hk, dt_un hF (hV.fn hF) hk] at h
 exact h.symm
theorem inv_cols {A B : List (List Nat)} {n : Nat} (hA : Mn F n A) (la : A.length = n) (hB : Mn F n B) (lb : B.length = n) (hs : ∀ v, Sp F ((besM (idM n n) B).map Go.Fl.fn) v ↔ Sp F ((besM A (idM n n)).map Go.Fl.fn) v) {i : Nat} (hi : i < n) :
  apM F n B (clM A i) = eL n i := by
 rw [← apM_unit hF hA hi]
 exact inv_left hF hA la hB lb hs (by have := mrow (idM_mn hF n n) (k := i) (by rw [idM_len]; exact hi); rwa [idM_get hi] at this)
/-- the matrix is the inverse's inverse -/
theorem inv_turn {A B : List (List Nat)} {n : Nat} (hA : Mn F n A) (la : A.length = n) (hB : Mn F n B) (lb : B.length = n) (hs : ∀ v, Sp F ((besM (idM n n) B).map Go.Fl.fn) v ↔ Sp F ((besM A (idM n n)).map Go.Fl.fn) v) (v : Cf) : Sp F ((besM (idM n n) A).map Go.Fl.fn) v ↔ Sp F ((besM B (idM n n)).map Go.Fl.fn) v := by
 have hi := idM_mn hF n n
 have li := idM_len n n
 exact ⟨sp_turn hF la li li lb hA hi hi hB (fun v => (hs v).2) v, sp_turn hF li lb la li hi hB hA hi (fun v => (hs v).1) v⟩
theorem inv_right {A B : List (List Nat)} {n : Nat} (hA : Mn F n A) (la : A.length = n) (hB : Mn F n B) (lb : B.length = n) (hs : ∀ v, Sp F ((besM (idM n n) B).map Go.Fl.fn) v ↔ Sp F ((besM A (idM n n)).map Go.Fl.fn) v) {i : Nat} (hi : i < n) :
  apM F n A (clM B i) = eL n i := inv_cols hF hB lb hA la (inv_turn hF hA la hB lb hs) hi
theorem inv_back {A B : List (List Nat)} {n : Nat} (hA : Mn F n A) (la : A.length = n) (hB : Mn F n B) (lb : B.length = n) (hs : ∀ v, Sp F ((besM (idM n n) B).map Go.Fl.fn) v ↔ Sp F ((besM A (idM n n)).map Go.Fl.fn) v) :
  invM F n B = some A := by
 have hi := idM_mn hF n n
 have li := idM_len n n
 have ht := inv_turn hF hA la hB lb hs
 have hU := besM_mn lb li hB hi
 have h1 := bes_red hF la hA hU ht
 have hu : ∀ k, k < n → Sp F (B.map Go.Fl.fn) (un k) := fun k hk => by
  rw [← besM_cut lb li hB, sp_cut hF]
  refine ⟨_, (ht _).1 (Sp.get hF ((besM_mn li la hi hA).vs hF).els (i := k) (by rw [List.length_map, besM_len li la]; exact hk)), ?_⟩
  funext j
  rw [map_getD']
  unfold cut
  split
  ·rename_i hj
   rw [bes_at li la hi hk, if_pos hj, idM_get hk, eL_fn hk]
  ·unfold un; rw [if_neg (by omega)]
 have hL : RedL F n ((List.range n).map fun k => (k, un k)) := by
  constructor
  ·rw [List.pairwise_map]
   refine List.Pairwise.imp_of_mem ?_ (List.pairwise_lt_range (n := n))
   intro a b ha hb hab
   exact ⟨hab, if_neg (by omega), if_neg (by omega)⟩
  ·intro a ha
   obtain ⟨k, hk, rfl⟩ := List.mem_map.1 ha
   have hk := List.mem_range.1 hk
   exact ⟨hk, el_un hF k, if_pos rfl, fun j hj => if_neg (by have : j < k := hj; omega), fun j hj => if_neg (by omega)⟩
 obtain ⟨g1, g2, -⟩ := redL_ok hF (hB.vs hF)
 have h2 := hL.le_len hF g1 (fun v hv => (g2 v).2 (Sp.le hF (hB.vs hF).els (fun r hr => by
  obtain ⟨a, ha, rfl⟩ := List.mem_map.1 hr
  obtain ⟨k, hk, rfl⟩ := List.mem_map.1 ha
  exact hu k (List.mem_range.1 hk)) hv))
 unfold invM
 rw [if_neg (by unfold pivM; rw [List.length_map]; rw [List.length_map, List.length_range] at h2; omega), ← h1, bes_drop li la hi]
theorem inv_none {A : List (List Nat)} {n : Nat} (hA : Mn F n A) (h : (pivM F n A).length < n) : invM F n A = none ∧ (redM F n A).length < n ∧ 0 < (kerM F n A).length := by
 have := rank_null hF hA
 have e : (pivM F n A).length = (redM F n A).length := by unfold pivM redM; rw [List.length_map, List.length_map]
 exact ⟨if_pos h, by omega, by omega⟩
theorem piv_le {A : List (List Nat)} {n : Nat} (hA : Mn F n A) : (pivM F n A).length ≤ n := by
 have := rank_null hF hA
 have e : (pivM F n A).length = (redM F n A).length := by unfold pivM redM; rw [List.length_map, List.length_map]
 omega
theorem piv_red {A : List (List Nat)} {n : Nat} : (pivM F n A).length = (redM F n A).length := by unfold pivM redM; rw [List.length_map, List.length_map]
end
end Go.Proofs.Yteeofijcndgbfaa
