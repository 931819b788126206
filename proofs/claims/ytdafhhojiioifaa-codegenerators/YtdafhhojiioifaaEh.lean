/- Other generators of a code. -/
import Derived.Test.YtdafhhojiioifaaEe
namespace Go.Proofs.Ytdafhhojiioifaa
open Go.RowKit Go.Fl
set_option maxRecDepth 100000
set_option linter.unusedVariables false
set_option linter.unusedSimpArgs false
set_option linter.unusedSectionVars false

theorem gd_snoc {D : List (List Nat)} {X : List Nat} {i : Nat} (hi : i < D.length) : (D ++ [X]).getD i [] = D.getD i [] := by
 rw [List.getD_eq_getElem?_getD, List.getElem?_append_left hi, ← List.getD_eq_getElem?_getD]
theorem gd_last {D : List (List Nat)} {X : List Nat} : (D ++ [X]).getD D.length [] = X := by
 rw [List.getD_eq_getElem?_getD, List.getElem?_append_right (Nat.le_refl _), Nat.sub_self]; rfl
theorem mem_gd {D : List (List Nat)} {r : List Nat} (h : r ∈ D) : ∃ i, i < D.length ∧ D.getD i [] = r := by
 obtain ⟨i, hi, rfl⟩ := List.getElem_of_mem h
 exact ⟨i, hi, by rw [List.getD_eq_getElem?_getD, List.getElem?_eq_getElem hi]; rfl⟩
theorem fn_mem {D : List (List Nat)} {i : Nat} (hi : i < D.length) : fn (D.getD i []) ∈ D.map Go.Fl.fn := List.mem_map.2 ⟨_, getD_mem hi, rfl⟩
theorem sp_ps {F : Gf} (hF : Ok F) {R : List Cf} (hR : Els F R) {a : Nat} {x : Cf} (ha : a < F.q) (h0 : a ≠ 0) (hx : El F x) (h : Sp F R (ps F a x)) : Sp F R x := by
 have h2 := Sp.smul hF hR (hF.inv_lt a) h
 have e : ps F (F.inv a) (ps F a x) = x := funext fun j => by
  show F.mul (F.inv a) (F.mul a (x j)) = x j
  rw [← hF.mul_assoc, Ok.mul_comm (F.inv a), hF.mul_inv ha h0, Ok.mul_comm, hF.mul_one (hx j)]
 rw [e] at h2; exact h2
/-- rows that are made of the first k rows of a code, turned by t -/
structure GI (F : Gf) (n m : Nat) (G : List (List Nat)) (t k : Nat) (D : List (List Nat)) : Prop where
 len : D.length = k
 mn : Mn F n D
 sp : ∀ r ∈ D, Sp F (G.map Go.Fl.fn) (fn r)
 gen : ∀ i, i < k → Sp F (D.map Go.Fl.fn) (fn (G.getD ((i + t) % m) []))
section
variable {F : Gf} {n m : Nat} {G : List (List Nat)} {L : List (Nat × Cf)} (h : VC F n m G L)
include h
omit h in
theorem GI.nil (t : Nat) : GI F n m G t 0 [] := ⟨rfl, fun r hr => by simp at hr, fun r hr => by simp at hr, fun i hi => by omega⟩
theorem VC.spRow {j : Nat} (hj : j < m) : Sp F (G.map Go.Fl.fn) (fn (G.getD j [])) := Sp.mem h.ok h.els (fn_mem (by rw [h.gc.len]; exact hj))
theorem VC.spTi {V : List Nat} {a : Nat} (ha : a < F.q) (hV : Vn F n V) (hs : Sp F (G.map Go.Fl.fn) (fn V)) : Sp F (G.map Go.Fl.fn) (fn (tiV F a V)) := by
 rw [tiV_fn h.ok hV.len]; exact Sp.smul h.ok h.els ha hs
theorem VC.spPl {V X : List Nat} (hV : Vn F n V) (hX : Vn F n X) (h1 : Sp F (G.map Go.Fl.fn) (fn V)) (h2 : Sp F (G.map Go.Fl.fn) (fn X)) : Sp F (G.map Go.Fl.fn) (fn (plV F V X)) := by
 rw [plV_fn h.ok hV.len hX.len]; exact Sp.add h.ok h.els h1 h2
theorem VC.spZ : Sp F (G.map Go.Fl.fn) (fn (List.replicate n 0)) := by
 rw [(wtV_pz (n := n) (by simp)).1 (wtV_zero.2 fun x hx => List.eq_of_mem_replicate hx)]; exact Sp.zero h.ok _
theorem GI.push {t k a : Nat} {D : List (List Nat)} (hD : GI F n m G t k D) (hk : k < m) (ha : a < F.q) (h0 : a ≠ 0) : GI F n m G t (k + 1) (D ++ [tiV F a (G.getD ((k + t) % m) [])]) := by
 have hj : (k + t) % m < m := Nat.mod_lt _ (by omega)
 have hg := h.rowVn hj
 have ht := tiV_vn (c := a) h.ok hg
 have hmn : Mn F n (D ++ [tiV F a (G.getD ((k + t) % m) [])]) := fun r hr => by
  rcases List.mem_append.1 hr with h1 | h1
  ·exact hD.mn r h1
  ·rw [List.mem_singleton] at h1; rw [h1]; exact ht
 have els := (Mn.vs h.ok hmn).els
 refine ⟨by rw [List.length_append, hD.len]; rfl, hmn, fun r hr => ?_, fun i hi => ?_⟩
 ·rcases List.mem_append.1 hr with h1 | h1
  ·exact hD.sp r h1
  ·rw [List.mem_singleton] at h1; rw [h1]; exact h.spTi ha hg (h.spRow hj)
 ·by_cases e : i < k
  ·have := hD.gen i e
   rw [List.map_append]
   exact Sp.app_l h.ok (Mn.vs h.ok hD.mn).els (fun x hx => els x (by rw [List.map_append]; exact List.mem_append_right _ hx)) this
  ·obtain rfl : i = k := by omega
   refine sp_ps h.ok els ha h0 (hg.fn h.ok) ?_
   rw [← tiV_fn h.ok hg.len]
   exact Sp.mem h.ok els (List.mem_map.2 ⟨_, by simp, rfl⟩)
theorem GI.odd {t k i j : Nat} {D : List (List Nat)} (hD : GI F n m G t k D) (hi : i < k) (hj : j < k) (hne : i ≠ j) : GI F n m G t k (D.set i (plV F (D.getD i []) (D.getD j []))) := by
 have hi' : i < D.length := by rw [hD.len]; exact hi
 have hj' : j < D.length := by rw [hD.len]; exact hj
 have vi := mrow hD.mn hi'
 have vj := mrow hD.mn hj'
 have hmn : Mn F n (D.set i (plV F (D.getD i []) (D.getD j []))) := fun r hr => by
  rcases List.mem_or_eq_of_mem_set hr with h1 | h1
  ·exact hD.mn r h1
  ·rw [h1]; exact plV_vn h.ok vi
 have els := (Mn.vs h.ok hmn).els
 have hl : (D.set i (plV F (D.getD i []) (D.getD j []))).length = D.length := List.length_set
 have gd : ∀ k, k < D.length → (D.set i (plV F (D.getD i []) (D.getD j []))).getD k [] = if i = k then plV F (D.getD i []) (D.getD j []) else D.getD k [] := fun k hk => set_getD hk
 refine ⟨by rw [hl, hD.len], hmn, fun r hr => ?_, fun s hs => ?_⟩
 ·rcases List.mem_or_eq_of_mem_set hr with h1 | h1
  ·exact hD.sp r h1
  ·rw [h1]; exact h.spPl vi vj (hD.sp _ (getD_mem hi')) (hD.sp _ (getD_mem hj'))
 ·refine Sp.le h.ok els (fun x hx => ?_) (hD.gen s hs)
  obtain ⟨r, hr, rfl⟩ := List.mem_map.1 hx
  obtain ⟨u, hu, rfl⟩ := mem_gd hr
  have hjn : Sp F ((D.set i (plV F (D.getD i []) (D.getD j []))).map Go.Fl.fn) (fn (D.getD j [])) := by
   have := Sp.mem h.ok els (fn_mem (D := D.set i (plV F (D.getD i []) (D.getD j []))) (i := j) (by rw [hl]; exact hj'))
   rw [gd j hj', if_neg hne] at this; exact this
  by_cases e : i = u
  ·subst e
   have h1 := Sp.mem h.ok els (fn_mem (D := D.set i (plV F (D.getD i []) (D.getD j []))) (i := i) (by rw [hl]; exact hi'))
   rw [gd i hi', if_pos rfl] at h1
   have h2 := Sp.add h.ok els h1 (Sp.smul h.ok els (h.ok.neg_lt 1) hjn)
   have e2 : pa F (fn (plV F (D.getD i []) (D.getD j []))) (ps F (F.neg 1) (fn (D.getD j []))) = fn (D.getD i []) := funext fun k => by
    have l1 := vn_lt h.ok vi k
    have l2 := vn_lt h.ok vj k
    rw [plV_fn h.ok vi.len vj.len]
    show F.add (F.add ((D.getD i []).getD k 0) ((D.getD j []).getD k 0)) (F.mul (F.neg 1) ((D.getD j []).getD k 0)) = (D.getD i []).getD k 0
    rw [Ok.mul_comm, mul_neg h.ok (by have := h.q2; omega), h.ok.mul_one l2, h.ok.add_assoc, h.ok.add_neg, h.ok.add_zero l1]
   rw [e2] at h2; exact h2
  ·have := Sp.mem h.ok els (fn_mem (D := D.set i (plV F (D.getD i []) (D.getD j []))) (i := u) (by rw [hl]; exact hu))
   rw [gd u hu, if_neg e] at this; exact this
/-- the rows, a sum of them and nothing generate the code -/
theorem GI.all {t : Nat} {D : List (List Nat)} {S : List Nat} (hD : GI F n m G t m D) (hS : Vn F n S) (hs : Sp F (G.map Go.Fl.fn) (fn S)) : Mn F n (D ++ [S, List.replicate n 0]) ∧ (∀ r ∈ D ++ [S, List.replicate n 0], Sp F (G.map Go.Fl.fn) (fn r)) ∧ redM F n (D ++ [S, List.replicate n 0]) = G := by
 have hz : Vn F n (List.replicate n 0) := rep_vn h.ok n
 have hmn : Mn F n (D ++ [S, List.replicate n 0]) := fun r hr => by
  rcases List.mem_append.1 hr with h1 | h1
  ·exact hD.mn r h1
  ·simp only [List.mem_cons, List.not_mem_nil, or_false] at h1
   rcases h1 with rfl | rfl
   ·exact hS
   ·exact hz
 have els := (Mn.vs h.ok hmn).els
 have hsp : ∀ r ∈ D ++ [S, List.replicate n 0], Sp F (G.map Go.Fl.fn) (fn r) := fun r hr => by
  rcases List.mem_append.1 hr with h1 | h1
  ·exact hD.sp r h1
  ·simp only [List.mem_cons, List.not_mem_nil, or_false] at h1
   rcases h1 with rfl | rfl
   ·exact hs
   ·exact h.spZ
 refine ⟨hmn, hsp, (redM_ext h.ok hmn h.gc.mn fun v => ⟨fun hv => ?_, fun hv => ?_⟩).trans h.redM⟩
 ·refine Sp.le h.ok h.els (fun x hx => ?_) hv
  obtain ⟨r, hr, rfl⟩ := List.mem_map.1 hx
  exact hsp r hr
 ·refine Sp.le h.ok els (fun x hx => ?_) hv
  obtain ⟨r, hr, rfl⟩ := List.mem_map.1 hx
  obtain ⟨u, hu, rfl⟩ := mem_gd hr
  rw [h.gc.len] at hu
  have hm : 0 < m := by omega
  have e : ((u + (m - t % m)) % m + t) % m = u := by
   rw [Nat.mod_add_mod, Nat.add_assoc]
   have h1 : t % m ≤ m := Nat.le_of_lt (Nat.mod_lt _ hm)
   have h2 : m - t % m + t = m + m * (t / m) := by have := Nat.mod_add_div t m; omega
   rw [h2, ← Nat.add_assoc, Nat.add_mul_mod_self_left, Nat.add_mod_right, Nat.mod_eq_of_lt hu]
  have h1 := hD.gen ((u + (m - t % m)) % m) (Nat.mod_lt _ hm)
  rw [e] at h1
  rw [List.map_append]
  exact Sp.app_l h.ok (Mn.vs h.ok hD.mn).els (fun x hx => els x (by rw [List.map_append]; exact List.mem_append_right _ hx)) h1
end
theorem cells_new {w : World} {xs : List Value} {ty : TypeId} : ∀ j u, xs[j]? = some u → (w.alloc (.cells xs.toArray ty)).cell? ((⟨w.heap.size, 0, none⟩ : Addr).add j) = some u := fun j u hu => by
 have hadd : (⟨w.heap.size, 0, none⟩ : Addr).add j = ⟨w.heap.size, j, none⟩ := by unfold Addr.add; split <;> simp_all
 rw [hadd]
 exact (World.cell?_alloc_at _ _ _ _ rfl).trans (by simpa using hu)
section
variable {D : List (List Nat)} {us : List Value} {base : Nat} {w w' : World} {v v' : Value}
/-- another row outlives what is done to a row of rows -/
theorem OL.keepRow {u : Value} {k : Nat} {xs : List Value} (h : OL D us base w v) (hr : w.ownsRow 0 3 1 u k xs) (hg : w.grownBy w' v.ownBlock) : w'.ownsRow 0 3 1 u k xs :=
 own_bx2 hr ⟨hg.os, hg.tape, hg.output, hg.size, hg.block⟩ (own_ty hr h.own (by decide))
theorem OL.push2 (h : OL D us base w v) {X Y : List Nat} {x y : Value} (hx : w.ownsRow 0 3 1 x X.length (X.map N64)) (hy : w.ownsRow 0 3 1 y Y.length (Y.map N64)) (hown : w'.ownsRow base 39 1 v' (D.length + 2) (us ++ [x, y])) (hg : w.grownBy w' v.ownBlock) : OL (D ++ [X, Y]) (us ++ [x, y]) base w' v' := by
 have hbx : Bx (fun k => some k = v.ownBlock) w w' := ⟨hg.os, hg.tape, hg.output, hg.size, hg.block⟩
 refine ⟨by rw [List.length_append]; exact hown, fun i hi => ?_⟩
 rw [List.length_append] at hi
 have hi2 : i < D.length + 2 := hi
 by_cases e : i < D.length
 ·have e1 : (D ++ [X, Y]).getD i [] = D.getD i [] := by rw [List.getD_eq_getElem?_getD, List.getElem?_append_left e, ← List.getD_eq_getElem?_getD]
  have e2 : (us ++ [x, y]).getD i undef = us.getD i undef := by rw [List.getD_eq_getElem?_getD, List.getElem?_append_left (by rw [h.ulen]; exact e), ← List.getD_eq_getElem?_getD]
  rw [e1, e2]; exact own_bx2 (h.row i e) hbx (own_ty (h.row i e) h.own (by decide))
 ·by_cases e3 : i = D.length
  ·subst e3
   have e1 : (D ++ [X, Y]).getD D.length [] = X := by rw [List.getD_eq_getElem?_getD, List.getElem?_append_right (Nat.le_refl _), Nat.sub_self]; rfl
   have e2 : (us ++ [x, y]).getD D.length undef = x := by rw [← h.ulen, List.getD_eq_getElem?_getD, List.getElem?_append_right (Nat.le_refl _), Nat.sub_self]; rfl
   rw [e1, e2]; exact own_bx2 hx hbx (own_ty hx h.own (by decide))
  ·have e4 : i = D.length + 1 := by omega
   subst e4
   have e1 : (D ++ [X, Y]).getD (D.length + 1) [] = Y := by rw [List.getD_eq_getElem?_getD, List.getElem?_append_right (by omega), show D.length + 1 - D.length = 1 by omega]; rfl
   have e2 : (us ++ [x, y]).getD (D.length + 1) undef = y := by rw [← h.ulen, List.getD_eq_getElem?_getD, List.getElem?_append_right (by omega), show us.length + 1 - us.length = 1 by omega]; rfl
   rw [e1, e2]; exact own_bx2 hy hbx (own_ty hy h.own (by decide))
end

end Go.Proofs.Ytdafhhojiioifaa
