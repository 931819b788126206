/- Words of a code, and syndromes. -/
import Derived.Test.YtdafhhojiioifaaDg
namespace Go.Proofs.Ytdafhhojiioifaa
open Go.RowKit Go.Fl
set_option maxRecDepth 100000
set_option linter.unusedVariables false
set_option linter.unusedSimpArgs false
set_option linter.unusedSectionVars false

theorem wtV_zero {L : List Nat} : wtV L = 0 ↔ ∀ x ∈ L, x = 0 := by
 unfold wtV
 rw [List.countP_eq_zero]
 exact ⟨fun h x hx => by simpa using h x hx, fun h x hx => by simpa using h x hx⟩
theorem wtV_pz {n : Nat} {L : List Nat} (hl : L.length = n) : wtV L = 0 ↔ fn L = pz := by
 rw [wtV_zero]
 constructor
 ·intro h
  funext j
  show L.getD j 0 = 0
  by_cases hj : j < L.length
  ·rw [List.getD_eq_getElem?_getD, List.getElem?_eq_getElem hj]; exact h _ (List.getElem_mem hj)
  ·rw [List.getD_eq_getElem?_getD, List.getElem?_eq_none (by omega)]; rfl
 ·intro h x hx
  obtain ⟨j, hj, rfl⟩ := List.getElem_of_mem hx
  have := congrFun h j
  have e : L.getD j 0 = 0 := this
  rw [List.getD_eq_getElem?_getD, List.getElem?_eq_getElem hj] at e
  exact e
theorem clr_zero {F : Gf} (hF : Ok F) {n : Nat} {L : List (Nat × Cf)} (h : RedL F n L) {v : Cf} (hv : El F v) : clr F L v = pz ↔ Sp F (L.map Prod.snd) v := by
 have eL := h.red.el
 have ev : Els F (v :: L.map Prod.snd) := Els.cons hv eL
 have e := clr_sp hF h hv
 constructor
 ·intro hz
  have h1 : Sp F (v :: L.map Prod.snd) v := Sp.mem hF ev (by simp)
  have h2 := (e v).2 h1
  rw [hz] at h2
  exact (Sp.cons_z hF eL v).1 h2
 ·intro hs
  have h2 : Sp F (clr F L v :: L.map Prod.snd) (clr F L v) := Sp.mem hF (Els.cons (clr_el hF _ _) eL) (by simp)
  have h1 : Sp F (L.map Prod.snd) (clr F L v) := Sp.le hF eL (fun r hr => by
   rcases List.mem_cons.1 hr with rfl | hr
   ·exact hs
   ·exact Sp.mem hF eL hr) ((e _).1 h2)
  rw [h.red.sum hF h1]
  refine (cb_congr (d := pz) hF fun i hi => ?_).trans (cb_z hF _)
  have hi' : i < L.length := by simpa using hi
  rw [map_fst_getD hi']
  exact clr_at hF h hv _ (List.getElem_mem hi')
section
variable {F : Gf} {n m : Nat} {G : List (List Nat)} {L : List (Nat × Cf)} (h : VC F n m G L)
include h
theorem VC.rows : G.map Go.Fl.fn = L.map Prod.snd := by
 rw [h.rm.eq]; exact rows_map h.ok h.rm.red
theorem VC.prsE : Go.Fl.prs n G = L := by
 unfold Go.Fl.prs
 rw [h.rm.eq, List.map_map]
 conv => rhs; rw [← List.map_id L]
 refine List.map_congr_left fun a ha => ?_
 have hr := h.rm.red.ro a ha
 show (pvt (fn (toV n a.2)) n, fn (toV n a.2)) = a
 rw [fn_toV hr.hi, hr.pvt h.ok]
theorem VC.els : Els F (G.map Go.Fl.fn) := (Mn.vs h.ok h.gc.mn).els
/-- what is left of a word is 0 exactly if it is one of the code -/
theorem VC.rest {V : List Nat} (hV : Vn F n V) : wtV (rsV F n G V) = 0 ↔ Sp F (G.map Go.Fl.fn) (fn V) := by
 have hp : (Go.Fl.prs n G).Perm L := by rw [h.prsE]
 rw [wtV_pz (rsV_vn h.ok hV).len, rs_clr h.ok h.rm.red hp (fun r hr => (h.gc.mn r hr).len) hV, clr_zero h.ok h.rm.red (hV.fn h.ok), h.rows]
theorem VC.ker {V : List Nat} (hV : Vn F n V) : Sp F (G.map Go.Fl.fn) (fn V) ↔ ∀ r ∈ kerM F n G, Go.Fl.dt F n (fn V) (fn r) = 0 := by
 have hk := h.dual.gc.mn
 have e := ker_iff h.ok hk hV
 rw [h.back] at e
 rw [e]
 exact ⟨fun k r hr => by rw [dt_comm h.ok]; exact k r hr, fun k r hr => by rw [dt_comm h.ok]; exact k r hr⟩
theorem VC.sy0 {V : List Nat} (hV : Vn F n V) : wtV (rsV F n G V) = 0 ↔ wtV (syV F n G V) = 0 := by
 rw [h.rest hV, h.ker hV, wtV_zero]
 unfold syV
 constructor
 ·intro k x hx
  obtain ⟨r, hr, rfl⟩ := List.mem_map.1 hx
  exact k r hr
 ·intro k r hr
  exact k _ (List.mem_map.2 ⟨r, hr, rfl⟩)
theorem VC.sy_len {V : List Nat} : (syV F n G V).length = (kerM F n G).length := by unfold syV; rw [List.length_map]
theorem VC.sy_vn {V : List Nat} (hV : Vn F n V) : Vn F (kerM F n G).length (syV F n G V) := ⟨h.sy_len, fun x hx => by
 obtain ⟨r, hr, rfl⟩ := List.mem_map.1 hx
 exact dt_lt h.ok _ _ _⟩
theorem VC.sy_plus {V X : List Nat} (hV : Vn F n V) (hX : Vn F n X) : syV F n G (plV F V X) = plV F (syV F n G V) (syV F n G X) := by
 refine list_ext (by rw [plV_len, h.sy_len, h.sy_len]) fun j hj => ?_
 rw [h.sy_len] at hj
 rw [plV_get (by rw [h.sy_len]; exact hj)]
 have e : ∀ Y : List Nat, (syV F n G Y).getD j 0 = Go.Fl.dt F n (fn Y) (fn ((kerM F n G).getD j [])) := fun Y => by
  unfold syV
  rw [List.getD_eq_getElem?_getD, List.getElem?_map, List.getD_eq_getElem?_getD, List.getElem?_eq_getElem hj]; rfl
 rw [e, e, e, plV_fn h.ok hV.len hX.len]
 exact dt_pa h.ok (hV.fn h.ok) (hX.fn h.ok) ((mrow h.dual.gc.mn hj).fn h.ok)
theorem VC.sy_word {V X : List Nat} (hV : Vn F n V) (hX : Vn F n X) (hs : Sp F (G.map Go.Fl.fn) (fn X)) : syV F n G (plV F V X) = syV F n G V := by
 rw [h.sy_plus hV hX]
 have h0 := wtV_zero.1 ((h.sy0 hX).1 ((h.rest hX).2 hs))
 refine list_ext (plV_len _ _ _) fun j hj => ?_
 rw [plV_len] at hj
 have hj2 : j < (syV F n G X).length := by rw [h.sy_len] at hj ⊢; exact hj
 rw [plV_get hj]
 have e : (syV F n G X).getD j 0 = 0 := by
  rw [List.getD_eq_getElem?_getD, List.getElem?_eq_getElem hj2]; exact h0 _ (List.getElem_mem hj2)
 have e2 : (syV F n G V).getD j 0 < F.q := by
  rw [List.getD_eq_getElem?_getD, List.getElem?_eq_getElem hj]; exact (h.sy_vn hV).el _ (List.getElem_mem hj)
 rw [e, h.ok.add_zero e2]
theorem VC.word_sp : ∀ k, k ≤ m → ∀ w ∈ wdK F n G k, Sp F (G.map Go.Fl.fn) (fn w)
 | 0, _, w, hw => by
  rw [show w = List.replicate n 0 from List.mem_singleton.1 hw]
  have e : fn (List.replicate n 0) = pz := (wtV_pz (n := n) (by simp)).1 (wtV_zero.2 fun x hx => List.eq_of_mem_replicate hx)
  rw [e]; exact Sp.zero h.ok _
 | k + 1, hk, w, hw => by
  obtain ⟨v, hv, h2⟩ := List.mem_flatMap.1 hw
  obtain ⟨r, hr, rfl⟩ := List.mem_map.1 h2
  obtain ⟨a, ha, rfl⟩ := List.mem_map.1 hr
  have hk' : k < G.length := by rw [h.gc.len]; omega
  have hg := mrow h.gc.mn hk'
  have hvn := wdK_mn h.ok (n := n) (G := G) k v hv
  rw [plV_fn h.ok hvn.len (tiV_vn h.ok hg).len, tiV_fn h.ok hg.len]
  refine Sp.add h.ok h.els (VC.word_sp k (by omega) v hv) (Sp.smul h.ok h.els (List.mem_range.1 ha) (Sp.mem h.ok h.els (List.mem_map.2 ⟨_, ?_, rfl⟩)))
  rw [List.getD_eq_getElem?_getD, List.getElem?_eq_getElem hk']; exact List.getElem_mem hk'
theorem VC.q2 : 2 ≤ F.q := h.ok.q2
theorem VC.m8 (hq : F.q ^ m ≤ 256) : m ≤ 8 := by
 have h2 := Nat.pow_le_pow_left h.q2 m
 refine Classical.byContradiction fun hn => ?_
 have h3 : (2 : Nat) ^ 9 ≤ 2 ^ m := Nat.pow_le_pow_right (by omega) (by omega)
 have h4 : (2 : Nat) ^ 9 = 512 := by decide
 omega
end
theorem cnK_eq {q : Nat} (hq : 1 ≤ q) : ∀ {k : Nat}, q ^ k ≤ 4096 → cnK q k = q ^ k
 | 0, _ => rfl
 | k + 1, h => by
  have h1 : q ^ k ≤ q ^ (k + 1) := Nat.pow_le_pow_right hq (by omega)
  have e := cnK_eq hq (k := k) (Nat.le_trans h1 h)
  unfold cnK
  rw [e, ← Nat.pow_succ, if_pos (Nat.lt_succ_of_le h)]
theorem VC.few {F : Gf} {n m : Nat} {G : List (List Nat)} {L : List (Nat × Cf)} (h : VC F n m G L) (hq : F.q ^ m ≤ 256) : cnK F.q m ≤ 4096 := by
 have := h.q2
 rw [cnK_eq (by omega) (by omega)]; omega

end Go.Proofs.Ytdafhhojiioifaa
