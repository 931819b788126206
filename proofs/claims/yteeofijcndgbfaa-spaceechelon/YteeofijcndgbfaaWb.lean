/- What Solve answers; the alternative. -/
import Derived.Test.YteeofijcndgbfaaVb
namespace Go.Proofs.Yteeofijcndgbfaa
open Go.Fl
set_option linter.unusedVariables false
set_option linter.unusedSectionVars false
section
variable {F : Gf} (hF : Ok F)
include hF
theorem sm_snoc (f : Nat → Nat) (hf : ∀ x, f x < F.q) (x : Nat) : ∀ l, sm F f (l ++ [x]) = F.add (sm F f l) (f x)
 | [] => by
  show F.add (f x) 0 = F.add 0 (f x)
  rw [Ok.add_comm]
 | y :: l => by
  show F.add (f y) (sm F f (l ++ [x])) = F.add (F.add (f y) (sm F f l)) (f x)
  rw [sm_snoc f hf x l, hF.add_assoc]
theorem dt_succ (n : Nat) (v w : Cf) : dt F (n + 1) v w = F.add (dt F n v w) (F.mul (v n) (w n)) := by
 unfold dt
 rw [List.range_succ, sm_snoc hF (fun j => F.mul (v j) (w j)) fun x => hF.mul_lt _ _]
omit hF in
theorem clM_at {A : List (List Nat)} {k j : Nat} (hk : k < A.length) : Go.Fl.fn (clM A j) k = (A.getD k []).getD j 0 := by
 show (A.map fun r => r.getD j 0).getD k 0 = _
 rw [List.getD_eq_getElem?_getD, List.getElem?_map, List.getD_eq_getElem?_getD (l := A), List.getElem?_eq_getElem hk]; rfl
theorem coK_at {A : List (List Nat)} {C : List Nat} {n : Nat} (hA : Mn F n A) (j : Nat) : ∀ k, k ≤ A.length → Go.Fl.fn (coK F n A C k) j = dt F k (Go.Fl.fn C) (Go.Fl.fn (clM A j))
 | 0, _ => by
  show (List.replicate n 0).getD j 0 = 0
  rw [List.getD_eq_getElem?_getD, List.getElem?_replicate]; split <;> rfl
 | k + 1, hk => by
  show Go.Fl.fn (moV F (coK F n A C k) (C.getD k 0) (A.getD k [])) j = _
  rw [moV_fn hF (coK_vn hF k) (mrow hA (by omega)), dt_succ hF]
  show F.add (Go.Fl.fn (coK F n A C k) j) (F.mul (C.getD k 0) (Go.Fl.fn (A.getD k []) j)) = _
  rw [coK_at hA j k (by omega), clM_at (A := A) (by omega)]; rfl
/-- a vector of the turned matrix's kernel takes its rows to zero -/
theorem ker_turn {A : List (List Nat)} {C : List Nat} {n m : Nat} (hA : Mn F n A) (la : A.length = m) (hC : C ∈ kerM F m (tuM n A)) : Vn F m C ∧ coK F n A C m = List.replicate n 0 := by
 have hX := tuM_mn hF hA la n
 have hK := (kerM_ok hF hX).1
 have hv := hK C hC
 refine ⟨hv, vn_ext (coK_vn hF m).len (by simp) fun j hj => ?_⟩
 have h1 := (ker_iff hF hX hv).1 (Sp.mem hF (hK.vs hF).els (List.mem_map.2 ⟨C, hC, rfl⟩)) (clM A j) (List.mem_map.2 ⟨j, List.mem_range.2 hj, rfl⟩)
 have h2 := coK_at hF (C := C) hA j m (by omega)
 rw [dt_comm hF] at h1
 rw [h1] at h2
 rw [show (coK F n A C m).getD j 0 = 0 from h2]; simp [hj]
theorem sp_cols {A : List (List Nat)} {n m : Nat} (hA : Mn F n A) (la : A.length = m) {V : List Nat} (hV : Vn F m V) (h : Sp F ((tuM n A).map Go.Fl.fn) (Go.Fl.fn V)) : ∃ x, Vn F n x ∧ apM F n A x = V := by
 obtain ⟨c, hc, e⟩ := h
 refine ⟨toV n c, toV_vn hc, vn_ext (by rw [apM_len, la]) hV.len fun k hk => ?_⟩
 rw [apM_get (by omega)]
 have e1 : cb F ((tuM n A).map Go.Fl.fn) c = cb F ((List.range n).map fun j => Go.Fl.fn (clM A j)) fun i => c ((List.range n).getD i 0) := by
  unfold tuM
  rw [List.map_map]
  refine cb_congr hF fun i hi => ?_
  rw [List.length_map, List.length_range] at hi
  rw [List.getD_eq_getElem?_getD, List.getElem?_range hi]; rfl
 have e2 := congrFun e k
 rw [e1, cb_sm hF] at e2
 rw [show V.getD k 0 = Go.Fl.fn V k from rfl, ← e2, dt_comm hF]
 unfold dt
 refine sm_congr hF fun j hj => ?_
 rw [clM_at (by omega)]
 show F.mul ((toV n c).getD j 0) _ = _
 rw [toV_get c (List.mem_range.1 hj)]; rfl
/-- what all vectors of the turned matrix's kernel take to zero is a product -/
theorem fred {A : List (List Nat)} {n m : Nat} (hA : Mn F n A) (la : A.length = m) {V : List Nat} (hV : Vn F m V) (h : ∀ C ∈ kerM F m (tuM n A), dt F m (Go.Fl.fn C) (Go.Fl.fn V) = 0) : ∃ x, Vn F n x ∧ apM F n A x = V := by
 have hX := tuM_mn hF hA la n
 have h1 := (ker_iff hF (kerM_ok hF hX).1 hV).2 h
 rw [kerM_kerM hF hX, redM_sp hF hX] at h1
 exact sp_cols hF hA la hV h1
theorem lin_pt {n : Nat} {g : Cf} (hg : El F g) {R : List Cf} (hR : Els F R) (H : ∀ r ∈ R, dt F n r g = r n) {v : Cf} (hv : Sp F R v) : dt F n v g = v n := by
 obtain ⟨c, hc, rfl⟩ := hv
 induction R generalizing c with
 | nil => exact dt_z hF n g
 | cons r R ih =>
  have h1 := ih (fun x hx => hR x (by simp [hx])) (fun x hx => H x (by simp [hx])) (fun i => c (i + 1)) (fun i => hc (i + 1))
  show dt F n (pa F (ps F (c 0) r) (cb F R fun i => c (i + 1))) g = F.add (F.mul (c 0) (r n)) (cb F R (fun i => c (i + 1)) n)
  rw [dt_pa hF (el_s hF _ _) (cb_el hF _ _) hg, dt_ps hF (hc 0), h1, H r (by simp)]
theorem eq_mn {A : List (List Nat)} {V : List Nat} {n m : Nat} (hA : Mn F n A) (la : A.length = m) (hV : Vn F m V) : Mn F (n + 1) (eqM A V) := besM_mn la (by rw [colM_len, hV.len]) hA (colM_mn hV.el)
omit hF in
theorem eq_at {A : List (List Nat)} {V : List Nat} {n m k : Nat} (hA : Mn F n A) (la : A.length = m) (lv : V.length = m) (hk : k < m) (j : Nat) : Go.Fl.fn ((eqM A V).getD k []) j = if j < n then (A.getD k []).getD j 0 else if j = n then V.getD k 0 else 0 := by
 have e : (colM V).getD k [] = [V.getD k 0] := by
  unfold colM
  rw [List.getD_eq_getElem?_getD, List.getElem?_map, List.getD_eq_getElem?_getD, List.getElem?_eq_getElem (by omega)]; rfl
 rw [besM_get (by omega) (by rw [colM_len]; omega), fn_app, (mrow hA (by omega)).len, e]
 split
 ·rfl
 ·split
  ·rename_i h; subst h; rw [Nat.sub_self]; rfl
  ·exact fn_ge (by simp; omega)
/-- a product of the matrix solves its equations -/
theorem eq_dt {A : List (List Nat)} {V x : List Nat} {n m : Nat} (hA : Mn F n A) (la : A.length = m) (hV : Vn F m V) (hx : apM F n A x = V) : ∀ r ∈ (eqM A V).map Go.Fl.fn, dt F n r (Go.Fl.fn x) = r n := fun r hr => by
 obtain ⟨k, hk, rfl⟩ := mem_at hr
 have hk : k < m := by rwa [besM_len la (by rw [colM_len, hV.len])] at hk
 have e : V.getD k 0 = dt F n (Go.Fl.fn (A.getD k [])) (Go.Fl.fn x) := by rw [← hx]; exact apM_get (by omega)
 rw [eq_at hA la hV.len hk, if_neg (Nat.lt_irrefl n), if_pos rfl, e]
 unfold dt
 refine sm_congr hF fun j hj => ?_
 rw [eq_at hA la hV.len hk, if_pos (List.mem_range.1 hj)]; rfl
theorem sol_is {A : List (List Nat)} {V x : List Nat} {n m : Nat} (hA : Mn F n A) (la : A.length = m) (hV : Vn F m V) (hx : Vn F n x) (e : apM F n A x = V) : ∃ y, solM F n (eqM A V) = some y := by
 have hT := eq_mn hF hA la hV
 obtain ⟨h1, h2, -⟩ := redL_ok hF (hT.vs hF)
 unfold solM
 by_cases h : n ∈ pivM F (n + 1) (eqM A V)
 ·exfalso
  obtain ⟨a, ha, h3⟩ := List.mem_map.1 h
  have ro := h1.ro a ha
  have h4 := lin_pt hF (hx.fn hF) (hT.vs hF).els (eq_dt hF hA la hV e) ((h2 _).1 (Sp.mem hF h1.red.el (List.mem_map.2 ⟨a, ha, rfl⟩)))
  have h5 : dt F n a.2 (Go.Fl.fn x) = 0 := sm_zero hF fun j hj => by rw [ro.lo j (by rw [h3]; exact List.mem_range.1 hj), Ok.z_mul]
  have h6 := ro.one
  rw [h3] at h6
  omega
 ·exact ⟨_, if_neg h⟩
theorem sol_some {A : List (List Nat)} {V x : List Nat} {n m : Nat} (hA : Mn F n A) (la : A.length = m) (hV : Vn F m V) (h : solM F n (eqM A V) = some x) : Vn F n x ∧ apM F n A x = V ∧ ∀ j, j < n → x.getD j 0 ≠ 0 → ∃ i, i < (redM F n A).length ∧ pvt (Go.Fl.fn ((redM F n A).getD i [])) n = j := by
 have hT := eq_mn hF hA la hV
 obtain ⟨h1, h2, -⟩ := redL_ok hF (hT.vs hF)
 unfold solM at h
 by_cases hp : n ∈ pivM F (n + 1) (eqM A V)
 ·rw [if_pos hp] at h; cases h
 rw [if_neg hp] at h
 injection h with h
 unfold pivM at hp
 generalize hL : redL F (n + 1) ((eqM A V).map Go.Fl.fn) = L at h1 h2 h hp
 have hb : ∀ a ∈ L, a.1 < n := fun a ha => by
  have := (h1.ro a ha).bd
  have h3 : a.1 ≠ n := fun e => hp (List.mem_map.2 ⟨a, ha, e⟩)
  omega
 have hg : ∀ j, j < n → x.getD j 0 = match L.find? (fun a => a.1 == j) with | some a => a.2 n | none => 0 := fun j hj => by
  rw [← h]
  unfold sxK
  rw [range_get' _ hj, List.take_of_length_le (Nat.le_refl _)]; rfl
 have x2 : ∀ j, j < n → x.getD j 0 ≠ 0 → ∃ a ∈ L, a.1 = j := fun j hj hn => by
  rw [hg j hj] at hn
  cases e : L.find? (fun a => a.1 == j) with
  | some a => exact ⟨a, List.mem_of_find?_eq_some e, by simpa using List.find?_some e⟩
  | none => rw [e] at hn; exact absurd rfl hn
 have x1 : ∀ a ∈ L, x.getD a.1 0 = a.2 n := fun a ha => by
  rw [hg a.1 (hb a ha)]
  cases e : L.find? (fun c => c.1 == a.1) with
  | some c => rw [h1.inj hF (List.mem_of_find?_eq_some e) ha (by simpa using List.find?_some e)]
  | none => rw [List.find?_eq_none] at e; exact absurd (e a ha) (by simp)
 have hx : Vn F n x := ⟨by rw [← h, sxK_len], fun y hy => by
  rw [← h] at hy
  obtain ⟨j, _, rfl⟩ := List.mem_map.1 hy
  try dsimp only
  split
  ·rename_i a ha
   exact (h1.ro a (List.mem_of_mem_take (List.mem_of_find?_eq_some ha))).el n
  ·exact hF.zero_lt⟩
 have hdt : ∀ r ∈ L.map Prod.snd, dt F n r (Go.Fl.fn x) = r n := fun r hr => by
  obtain ⟨a, ha, rfl⟩ := List.mem_map.1 hr
  unfold dt
  rw [sm_one hF (f := fun j => F.mul (a.2 j) (Go.Fl.fn x j)) (fun j => hF.mul_lt _ _) (x := a.1) List.nodup_range (List.mem_range.2 (hb a ha)) (fun y hy hne => by
   have hy := List.mem_range.1 hy
   show F.mul (a.2 y) (x.getD y 0) = 0
   by_cases h0 : x.getD y 0 = 0
   ·rw [h0, Ok.mul_z]
   ·obtain ⟨c, hc, rfl⟩ := x2 y hy h0
    rw [h1.at hF ha hc fun e => hne e.symm, Ok.z_mul])]
  show F.mul (a.2 a.1) (x.getD a.1 0) = a.2 n
  rw [(h1.ro a ha).one, x1 a ha, hF.one_mul ((h1.ro a ha).el n)]
 refine ⟨hx, vn_ext (by rw [apM_len, la]) hV.len fun k hk => ?_, fun j hj hn => ?_⟩
 ·rw [apM_get (by omega)]
  have h3 := lin_pt hF (hx.fn hF) h1.red.el hdt ((h2 _).2 (Sp.get hF (hT.vs hF).els (i := k) (by rw [List.length_map, besM_len la (by rw [colM_len, hV.len])]; exact hk)))
  rw [map_getD', eq_at hA la hV.len hk, if_neg (Nat.lt_irrefl n), if_pos rfl] at h3
  rw [← h3]
  unfold dt
  refine sm_congr hF fun j hj => ?_
  rw [eq_at hA la hV.len hk, if_pos (List.mem_range.1 hj)]; rfl
 ·obtain ⟨a, ha, rfl⟩ := x2 j hj hn
  have hM : RedL F n (L.map fun a => (a.1, cut n a.2)) := by
   constructor
   ·rw [List.pairwise_map]
    refine List.Pairwise.imp_of_mem ?_ h1.pw
    intro a b ha hb' h
    exact ⟨h.1, by show cut n a.2 b.1 = 0; rw [cut_at _ (hb b hb')]; exact h.2.1, by show cut n b.2 a.1 = 0; rw [cut_at _ (hb a ha)]; exact h.2.2⟩
   ·intro c hc
    obtain ⟨a, ha, rfl⟩ := List.mem_map.1 hc
    have ro := h1.ro a ha
    exact ⟨hb a ha, cut_el hF ro.el, by show cut n a.2 a.1 = 1; rw [cut_at _ (hb a ha)]; exact ro.one, fun j hj => by
     have hj : j < a.1 := hj
     show cut n a.2 j = 0
     rw [cut_at _ (by have := hb a ha; omega)]; exact ro.lo j hj, fun j hj => cut_hi _ hj⟩
  obtain ⟨g1, g2, -⟩ := redL_ok hF (hA.vs hF)
  have e : redL F n (A.map Go.Fl.fn) = L.map fun a => (a.1, cut n a.2) := RedL.ext hF g1 hM fun v => by
   rw [g2, ← besM_cut (B := colM V) la (by rw [colM_len, hV.len]) hA, show (L.map fun a => (a.1, cut n a.2)).map Prod.snd = (L.map Prod.snd).map (cut n) from by rw [List.map_map, List.map_map]; rfl, sp_cut hF, sp_cut hF]
   exact ⟨fun ⟨u, p, q⟩ => ⟨u, (h2 u).2 p, q⟩, fun ⟨u, p, q⟩ => ⟨u, (h2 u).1 p, q⟩⟩
  obtain ⟨i, hi, hai⟩ := List.getElem_of_mem ha
  have er : redM F n A = L.map fun a => toV n (cut n a.2) := by
   unfold redM; rw [e, List.map_map]; rfl
  refine ⟨i, by rw [er, List.length_map]; exact hi, ?_⟩
  rw [er, List.getD_eq_getElem?_getD, List.getElem?_map, List.getElem?_eq_getElem hi, hai]
  show pvt (Go.Fl.fn (toV n (cut n a.2))) n = a.1
  rw [fn_toV fun j hj => cut_hi _ hj]
  have ro := h1.ro a ha
  exact pvt_of (hb a ha) (by rw [cut_at _ (hb a ha), ro.one]; exact Nat.one_ne_zero) fun j hj => by rw [cut_at _ (by have := hb a ha; omega)]; exact ro.lo j hj
end
end Go.Proofs.Yteeofijcndgbfaa

/- Sums by pivots, the turned matrix's equations, elementary steps. -/
namespace Go.Proofs.Yteeofijcndgbfaa
open Go.Fl
set_option linter.unusedVariables false
set_option linter.unusedSectionVars false
section
variable {F : Gf} (hF : Ok F)
include hF
theorem coK_cb {A : List (List Nat)} {C : List Nat} {n m : Nat} (hA : Mn F n A) (la : A.length = m) : Go.Fl.fn (coK F n A C m) = cb F (A.map Go.Fl.fn) (Go.Fl.fn C) := funext fun j => by
 rw [coK_at hF hA j m (by omega)]
 have e1 : cb F (A.map Go.Fl.fn) (Go.Fl.fn C) = cb F ((List.range m).map fun i => Go.Fl.fn (A.getD i [])) fun i => Go.Fl.fn C ((List.range m).getD i 0) := by
  have e : A.map Go.Fl.fn = (List.range m).map fun i => Go.Fl.fn (A.getD i []) := by
   apply List.ext_getElem (by simp [la])
   intro k h1 h2
   rw [List.length_map] at h1
   simp [List.getD_eq_getElem?_getD, List.getElem?_eq_getElem h1]
  rw [e]
  refine cb_congr hF fun i hi => ?_
  rw [List.length_map, List.length_range] at hi
  rw [List.getD_eq_getElem?_getD, List.getElem?_range hi]; rfl
 rw [e1, cb_sm hF]
 unfold dt
 refine sm_congr hF fun i hi => ?_
 rw [clM_at (by have := List.mem_range.1 hi; omega)]; rfl
/-- the coordinates at the pivots -/
abbrev pcV (n : Nat) (R : List (List Nat)) (V : List Nat) : List Nat := R.map fun r => V.getD (pvt (Go.Fl.fn r) n) 0
theorem red_pvt {n : Nat} {P : List Nat} {R : List (List Nat)} (h : Red F n P (R.map Go.Fl.fn)) {i : Nat} (hi : i < R.length) : pvt (Go.Fl.fn (R.getD i [])) n = P.getD i 0 := by
 have hl := h.len
 rw [List.length_map] at hl
 have hi' : i < (R.map Go.Fl.fn).length := by rw [List.length_map]; exact hi
 have e := map_fn_getD hi pz
 refine pvt_of (h.bd _ (by rw [List.getD_eq_getElem?_getD, List.getElem?_eq_getElem (by omega)]; exact List.getElem_mem _)) ?_ fun j hj => ?_
 ·have := h.pv i hi' i hi'
  rw [if_pos rfl, e] at this
  rw [this]; exact Nat.one_ne_zero
 ·have := h.lo i hi' j hj
  rwa [e] at this
/-- a row is the sum of the reduced rows, each times its coordinate at the pivot -/
theorem sum_red {A : List (List Nat)} {V : List Nat} {n : Nat} (hA : Mn F n A) (hV : V ∈ A) : coK F n (redM F n A) (pcV n (redM F n A) V) (redM F n A).length = V := by
 have hR := redM_red hF hA
 have hN := (redM_ok hF hA).1
 have hs := (redM_sp hF hA (Go.Fl.fn V)).2 (Sp.mem hF (hA.vs hF).els (List.mem_map.2 ⟨V, hV, rfl⟩))
 have h := hR.sum hF hs
 refine fn_inj ((coK_vn hF _).len.trans (hA V hV).len.symm) ?_
 rw [coK_cb hF hN rfl, h]
 refine cb_congr hF fun i hi => ?_
 rw [List.length_map] at hi
 show (List.map _ _).getD i 0 = _
 rw [List.getD_eq_getElem?_getD, List.getElem?_map, List.getElem?_eq_getElem hi]
 have := red_pvt hF hR hi
 rw [List.getD_eq_getElem?_getD, List.getElem?_eq_getElem hi] at this
 show V.getD (pvt (Go.Fl.fn (redM F n A)[i]) n) 0 = _
 rw [show pvt (Go.Fl.fn (redM F n A)[i]) n = (pivM F n A).getD i 0 from this]; rfl
theorem tuM_tuM {A : List (List Nat)} {n m : Nat} (hA : Mn F n A) (la : A.length = m) : tuM m (tuM n A) = A := by
 apply List.ext_getElem (by rw [tuM_len, la])
 intro k h1 h2
 have hk : k < m := by omega
 have e := tuM_get (A := tuM n A) hk
 rw [List.getD_eq_getElem?_getD, List.getElem?_eq_getElem h1] at e
 have hv := mrow hA (k := k) h2
 have e2 : A.getD k [] = A[k] := by rw [List.getD_eq_getElem?_getD, List.getElem?_eq_getElem h2]; rfl
 rw [e2] at hv
 rw [show (tuM m (tuM n A))[k] = clM (tuM n A) k from e]
 refine vn_ext (n := n) (by rw [List.length_map, tuM_len]) hv.len fun j hj => ?_
 have e3 := clM_at (A := tuM n A) (k := j) (j := k) (by rw [tuM_len]; exact hj)
 rw [tuM_get hj] at e3
 rw [show (clM (tuM n A) k).getD j 0 = Go.Fl.fn (clM (tuM n A) k) j from rfl, e3, ← e2]
 exact clM_at h2
/-- what is in the rows' span is a sum of rows, which the turned matrix's equations give -/
theorem turned_sol {A : List (List Nat)} {V : List Nat} {n m : Nat} (hA : Mn F n A) (la : A.length = m) (hV : Vn F n V) (h : Sp F (A.map Go.Fl.fn) (Go.Fl.fn V)) : ∃ y, solM F m (eqM (tuM n A) V) = some y ∧ Vn F m y ∧ coK F n A y m = V := by
 have hT := tuM_mn hF hA la n
 obtain ⟨x, hx1, hx2⟩ := sp_cols hF hT (tuM_len n A) hV (by rw [tuM_tuM hF hA la]; exact h)
 obtain ⟨y, hy⟩ := sol_is hF hT (tuM_len n A) hV hx1 hx2
 obtain ⟨h1, h2, -⟩ := sol_some hF hT (tuM_len n A) hV hy
 refine ⟨y, hy, h1, vn_ext (coK_vn hF m).len hV.len fun j hj => ?_⟩
 rw [show (coK F n A y m).getD j 0 = Go.Fl.fn (coK F n A y m) j from rfl, coK_at hF hA j m (by omega), dt_comm hF, ← h2, apM_get (by rw [tuM_len]; exact hj), tuM_get hj]
theorem sp_set {A : List (List Nat)} {w : List Nat} {n i : Nat} (hA : Mn F n A) (hi : i < A.length) (hw : Vn F n w) (h1 : Sp F (A.map Go.Fl.fn) (Go.Fl.fn w)) (h2 : Sp F ((A.set i w).map Go.Fl.fn) (Go.Fl.fn (A.getD i []))) (v : Cf) : Sp F ((A.set i w).map Go.Fl.fn) v ↔ Sp F (A.map Go.Fl.fn) v := by
 have hM : Mn F n (A.set i w) := fun r hr => by
  rcases List.mem_or_eq_of_mem_set hr with h | rfl
  ·exact hA r h
  ·exact hw
 constructor
 ·refine Sp.le hF (hA.vs hF).els fun r hr => ?_
  obtain ⟨x, hx, rfl⟩ := List.mem_map.1 hr
  rcases List.mem_or_eq_of_mem_set hx with h | rfl
  ·exact Sp.mem hF (hA.vs hF).els (List.mem_map.2 ⟨x, h, rfl⟩)
  ·exact h1
 ·refine Sp.le hF (hM.vs hF).els fun r hr => ?_
  obtain ⟨k, hk, rfl⟩ := mem_at hr
  by_cases e : k = i
  ·rw [e]; exact h2
  ·have e2 : (A.set i w).getD k [] = A.getD k [] := by rw [set_get hk, if_neg e]
   rw [← e2, ← map_getD']
   exact Sp.get hF (hM.vs hF).els (by rw [List.length_map, List.length_set]; exact hk)
theorem set_mn {A : List (List Nat)} {w : List Nat} {n i : Nat} (hA : Mn F n A) (hw : Vn F n w) : Mn F n (A.set i w) := fun r hr => by
 rcases List.mem_or_eq_of_mem_set hr with h | rfl
 ·exact hA r h
 ·exact hw
theorem row_sp {A : List (List Nat)} {n k : Nat} (hA : Mn F n A) (hk : k < A.length) : Sp F (A.map Go.Fl.fn) (Go.Fl.fn (A.getD k [])) := by
 rw [← map_getD']; exact Sp.get hF (hA.vs hF).els (by rw [List.length_map]; exact hk)
/-- two rows changed -/
theorem sp_swap {A : List (List Nat)} {n i k : Nat} (hA : Mn F n A) (hi : i < A.length) (hk : k < A.length) (v : Cf) : Sp F (((A.set i (A.getD k [])).set k (A.getD i [])).map Go.Fl.fn) v ↔ Sp F (A.map Go.Fl.fn) v := by
 have hM := set_mn hF (i := k) (set_mn hF (i := i) hA (mrow hA hk)) (mrow hA hi)
 have hg : ∀ j, j < A.length → ((A.set i (A.getD k [])).set k (A.getD i [])).getD j [] = if j = k then A.getD i [] else if j = i then A.getD k [] else A.getD j [] := fun j hj => by
  rw [set_get (by rw [List.length_set]; exact hj), set_get hj]
 constructor
 ·refine Sp.le hF (hA.vs hF).els fun r hr => ?_
  obtain ⟨j, hj, rfl⟩ := mem_at hr
  rw [List.length_set, List.length_set] at hj
  rw [hg j hj]
  split
  ·exact row_sp hF hA hi
  ·split
   ·exact row_sp hF hA hk
   ·exact row_sp hF hA hj
 ·refine Sp.le hF (hM.vs hF).els fun r hr => ?_
  obtain ⟨j, hj, rfl⟩ := mem_at hr
  have hl : ∀ t, t < A.length → t < ((A.set i (A.getD k [])).set k (A.getD i [])).length := fun t ht => by rw [List.length_set, List.length_set]; exact ht
  by_cases e1 : j = i
  ·have := row_sp hF hM (hl k hk)
   rw [hg k hk, if_pos rfl] at this
   rw [e1]; exact this
  ·by_cases e2 : j = k
   ·have := row_sp hF hM (hl i hi)
    rw [hg i hi] at this
    by_cases e3 : i = k
    ·exact absurd (e2.trans e3.symm) e1
    ·rw [if_neg e3, if_pos rfl] at this
     rw [e2]; exact this
   ·have := row_sp hF hM (hl j hj)
    rwa [hg j hj, if_neg e2, if_neg e1] at this
/-- a multiple of another row added -/
theorem sp_more {A : List (List Nat)} {n i k c : Nat} (hA : Mn F n A) (hi : i < A.length) (hk : k < A.length) (hne : i ≠ k) (hc : c < F.q) (v : Cf) : Sp F ((A.set i (moV F (A.getD i []) c (A.getD k []))).map Go.Fl.fn) v ↔ Sp F (A.map Go.Fl.fn) v := by
 have vi := mrow hA hi
 have vk := mrow hA hk
 have hw : Vn F n (moV F (A.getD i []) c (A.getD k [])) := moV_vn hF vi
 have hM := set_mn hF (i := i) hA hw
 refine sp_set hF hA hi hw ?_ ?_ v
 ·rw [moV_fn hF vi vk]
  exact Sp.add hF (hA.vs hF).els (row_sp hF hA hi) (Sp.smul hF (hA.vs hF).els hc (row_sp hF hA hk))
 ·have s1 := row_sp hF hM (k := i) (by rw [List.length_set]; exact hi)
  have s2 := row_sp hF hM (k := k) (by rw [List.length_set]; exact hk)
  rw [set_get hi, if_pos rfl, moV_fn hF vi vk] at s1
  rw [set_get hk, if_neg (fun e => hne e.symm)] at s2
  have s3 := Sp.add hF (hM.vs hF).els s1 (Sp.smul hF (hM.vs hF).els (hF.neg_lt c) s2)
  have e : pa F (pa F (Go.Fl.fn (A.getD i [])) (ps F c (Go.Fl.fn (A.getD k [])))) (ps F (F.neg c) (Go.Fl.fn (A.getD k []))) = Go.Fl.fn (A.getD i []) := by
   rw [pa_assoc hF, ← add_ps hF hc (hF.neg_lt c) (vk.fn hF), hF.add_neg, z_ps hF, pa_zero hF (vi.fn hF)]
  rwa [e] at s3
/-- a row times a number that is not 0 -/
theorem sp_times {A : List (List Nat)} {w : List Nat} {n k c : Nat} (hA : Mn F n A) (hk : k < A.length) (hw : Vn F n w) (e : Go.Fl.fn w = ps F c (Go.Fl.fn (A.getD k []))) (hc : c < F.q) (h0 : c ≠ 0) (v : Cf) : Sp F ((A.set k w).map Go.Fl.fn) v ↔ Sp F (A.map Go.Fl.fn) v := by
 have vk := mrow hA hk
 have hM := set_mn hF (i := k) hA hw
 refine sp_set hF hA hk hw (by rw [e]; exact Sp.smul hF (hA.vs hF).els hc (row_sp hF hA hk)) ?_ v
 have s1 := row_sp hF hM (k := k) (by rw [List.length_set]; exact hk)
 rw [set_get hk, if_pos rfl, e] at s1
 have s2 := Sp.smul hF (hM.vs hF).els (hF.inv_lt c) s1
 have e2 : ps F (F.inv c) (ps F c (Go.Fl.fn (A.getD k []))) = Go.Fl.fn (A.getD k []) := by
  rw [← ps_ps hF, Ok.mul_comm, hF.mul_inv hc h0, one_ps hF (vk.fn hF)]
 rwa [e2] at s2
end
end Go.Proofs.Yteeofijcndgbfaa
