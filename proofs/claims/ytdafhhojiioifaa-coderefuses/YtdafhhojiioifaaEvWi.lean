/- The kernel of a reduced matrix, its rank, the kernel of the kernel; sums and intersections of spans and their ranks. -/
import Derived.Test.YtdafhhojiioifaaEvWe
namespace Go.Fl
set_option linter.unusedSectionVars false
set_option linter.unusedVariables false
variable {F : Gf}
section
variable (hF : Ok F)
include hF
theorem kvs_vs {n : Nat} {L : List (Nat × Cf)} (h : RedL F n L) : Vs F n ((frees n L).map (kv F L)) := fun v hv => by
 obtain ⟨j, hj, rfl⟩ := List.mem_map.1 hv
 refine ⟨kv_el hF L j, fun x hx => ?_⟩
 have hnp : isP L x = false := by
  cases e : isP L x
  ·rfl
  ·obtain ⟨a, ha, rfl⟩ := isP_iff.1 e
   have := (h.ro a ha).bd; omega
 unfold frees at hj
 rw [List.mem_filter, List.mem_range] at hj
 rw [kv_free hF hnp, if_neg (by omega)]
theorem Sp.hi {n : Nat} {R : List Cf} (hR : Vs F n R) {v : Cf} (hv : Sp F R v) : ∀ j, n ≤ j → v j = 0 := fun j hj => by
 obtain ⟨c, hc, rfl⟩ := hv
 refine cb_at0 hF fun i hi => .inr ?_
 rw [List.getD_eq_getElem?_getD, List.getElem?_eq_getElem hi]
 exact (hR _ (List.getElem_mem hi)).2 j hj
theorem RedL.vs {n : Nat} {L : List (Nat × Cf)} (h : RedL F n L) : Vs F n (L.map Prod.snd) := fun v hv => by
 obtain ⟨a, ha, rfl⟩ := List.mem_map.1 hv
 exact ⟨(h.ro a ha).el, (h.ro a ha).hi⟩
/-- THE KERNEL IS WHAT IS TAKEN TO ZERO -/
theorem kerL_ok {n : Nat} {L : List (Nat × Cf)} (h : RedL F n L) : RedL F n (kerL F n L) ∧ (∀ v, Sp F ((kerL F n L).map Prod.snd) v ↔ El F v ∧ (∀ j, n ≤ j → v j = 0) ∧ ∀ a ∈ L, dt F n a.2 v = 0) ∧ (kerL F n L).length + L.length = n := by
 have hv := kvs_vs hF h
 obtain ⟨h1, h2, h3⟩ := redL_ok hF hv
 refine ⟨h1, fun v => (h2 v).trans ⟨fun hs => ⟨hs.el hF, Sp.hi hF hv hs, fun a ha => ?_⟩, fun ⟨g1, g2, g3⟩ => ?_⟩, ?_⟩
 ·rw [dt_comm hF]
  refine dt_sp hF (h.ro a ha).el hv.els (fun r hr => ?_) hs
  obtain ⟨j, hj, rfl⟩ := List.mem_map.1 hr
  rw [dt_comm hF]
  exact kv_zero hF h hj a ha
 ·rw [kv_all hF h g1 g2 g3]
  exact ⟨_, fun i => g1 _, rfl⟩
 ·have e1 := (kvs_ind hF n L).le hF h1.red.el fun v hv' => (h2 v).2 (Sp.mem hF hv.els hv')
  have e2 := frees_len hF h
  unfold kerL
  rw [List.length_map] at h3 e1
  rw [List.length_map] at e1
  omega
theorem RedL.ext {n : Nat} {L M : List (Nat × Cf)} (h : RedL F n L) (h' : RedL F n M) (hs : ∀ v, Sp F (L.map Prod.snd) v ↔ Sp F (M.map Prod.snd) v) : L = M := by
 obtain ⟨e1, e2⟩ := h.red.uniq hF h'.red hs
 have hl : L.length = M.length := by have := congrArg List.length e1; simpa using this
 apply List.ext_getElem hl
 intro i h1 h2
 have f1 : (L.map Prod.fst)[i]'(by simpa using h1) = (M.map Prod.fst)[i]'(by simpa using h2) := by congr 1
 have f2 : (L.map Prod.snd)[i]'(by simpa using h1) = (M.map Prod.snd)[i]'(by simpa using h2) := by congr 1
 rw [List.getElem_map, List.getElem_map] at f1 f2
 exact Prod.ext f1 f2
/-- THE KERNEL OF THE KERNEL -/
theorem kerL_kerL {n : Nat} {L : List (Nat × Cf)} (h : RedL F n L) : kerL F n (kerL F n L) = L := by
 obtain ⟨h1, h2, h3⟩ := kerL_ok hF h
 obtain ⟨g1, g2, g3⟩ := kerL_ok hF h1
 have hsub : ∀ v, Sp F (L.map Prod.snd) v → Sp F ((kerL F n (kerL F n L)).map Prod.snd) v := fun v hv => by
  refine (g2 v).2 ⟨hv.el hF, Sp.hi hF (RedL.vs hF h) hv, fun b hb => ?_⟩
  rw [dt_comm hF]
  have hb' := (h2 b.2).1 (Sp.mem hF h1.red.el (List.mem_map.2 ⟨b, hb, rfl⟩))
  exact dt_sp hF hb'.1 h.red.el (fun r hr => by obtain ⟨a, ha, rfl⟩ := List.mem_map.1 hr; exact hb'.2.2 a ha) hv
 refine g1.ext hF h fun v => ⟨fun hv => h.fill hF g1.red.el hsub (by rw [List.length_map]; omega) hv, hsub v⟩
/-- reduced matrices of spans, one within the other: their ranks -/
theorem RedL.le_len {n : Nat} {L M : List (Nat × Cf)} (h : RedL F n L) (h' : RedL F n M) (hs : ∀ v, Sp F (L.map Prod.snd) v → Sp F (M.map Prod.snd) v) : L.length ≤ M.length := by
 have := (h.ind hF).le hF h'.red.el fun v hv => hs v (Sp.mem hF h.red.el hv)
 simpa using this
end
/-- the least span with both, and what is in both -/
def joinL (F : Gf) (n : Nat) (A B : List Cf) : List (Nat × Cf) := redL F n (A ++ B)
def meetL (F : Gf) (n : Nat) (L M : List (Nat × Cf)) : List (Nat × Cf) := kerL F n (joinL F n ((kerL F n L).map Prod.snd) ((kerL F n M).map Prod.snd))
section
variable (hF : Ok F)
include hF
theorem Vs.app {n : Nat} {A B : List Cf} (hA : Vs F n A) (hB : Vs F n B) : Vs F n (A ++ B) := fun v hv => by
 rcases List.mem_append.1 hv with hv | hv
 ·exact hA v hv
 ·exact hB v hv
theorem joinL_ok {n : Nat} {A B : List Cf} (hA : Vs F n A) (hB : Vs F n B) : RedL F n (joinL F n A B) ∧ ∀ v, Sp F ((joinL F n A B).map Prod.snd) v ↔ Sp F (A ++ B) v :=
 ⟨(redL_ok hF (Vs.app hF hA hB)).1, (redL_ok hF (Vs.app hF hA hB)).2.1⟩
theorem meetL_ok {n : Nat} {L M : List (Nat × Cf)} (hL : RedL F n L) (hM : RedL F n M) : RedL F n (meetL F n L M) ∧ ∀ v, Sp F ((meetL F n L M).map Prod.snd) v ↔ Sp F (L.map Prod.snd) v ∧ Sp F (M.map Prod.snd) v := by
 obtain ⟨a1, a2, a3⟩ := kerL_ok hF hL
 obtain ⟨b1, b2, b3⟩ := kerL_ok hF hM
 obtain ⟨j1, j2⟩ := joinL_ok hF (RedL.vs hF a1) (RedL.vs hF b1)
 obtain ⟨k1, k2, k3⟩ := kerL_ok hF j1
 obtain ⟨aa1, aa2, -⟩ := kerL_ok hF a1
 obtain ⟨bb1, bb2, -⟩ := kerL_ok hF b1
 rw [kerL_kerL hF hL] at aa2
 rw [kerL_kerL hF hM] at bb2
 refine ⟨k1, fun v => (k2 v).trans ⟨fun ⟨g1, g2, g3⟩ => ?_, fun ⟨hl, hm⟩ => ?_⟩⟩
 ·have ho : ∀ x, Sp F ((kerL F n L).map Prod.snd ++ (kerL F n M).map Prod.snd) x → dt F n x v = 0 := fun x hx =>
   dt_sp hF g1 j1.red.el (fun r hr => by obtain ⟨a, ha, rfl⟩ := List.mem_map.1 hr; exact g3 a ha) ((j2 x).2 hx)
  refine ⟨(aa2 v).2 ⟨g1, g2, fun a ha => ho _ (Sp.app_l hF a1.red.el b1.red.el (Sp.mem hF a1.red.el (List.mem_map.2 ⟨a, ha, rfl⟩)))⟩,
   (bb2 v).2 ⟨g1, g2, fun a ha => ho _ (Sp.app_r hF a1.red.el b1.red.el (Sp.mem hF b1.red.el (List.mem_map.2 ⟨a, ha, rfl⟩)))⟩⟩
 ·obtain ⟨l1, l2, l3⟩ := (aa2 v).1 hl
  obtain ⟨m1, m2, m3⟩ := (bb2 v).1 hm
  refine ⟨l1, l2, fun a ha => dt_sp hF l1 (a1.red.el.app b1.red.el) (fun r hr => ?_) ((j2 _).1 (Sp.mem hF j1.red.el (List.mem_map.2 ⟨a, ha, rfl⟩)))⟩
  rcases List.mem_append.1 hr with hr | hr
  ·obtain ⟨a, ha, rfl⟩ := List.mem_map.1 hr; exact l3 a ha
  ·obtain ⟨a, ha, rfl⟩ := List.mem_map.1 hr; exact m3 a ha
end
end Go.Fl

/- The ranks of a sum and an intersection, the modular law, and what is known of solutions. -/
namespace Go.Fl
set_option linter.unusedSectionVars false
set_option linter.unusedVariables false
variable {F : Gf}
theorem sorted_le {P Q : List Nat} (hP : P.Pairwise (· < ·)) (hQ : Q.Pairwise (· < ·)) (h : ∀ x ∈ P, x ∈ Q) : P.length ≤ Q.length := by
 have e : Q.filter (fun x => decide (x ∈ P)) = P := sorted_ext (hQ.filter _) hP fun x => by
  rw [List.mem_filter]; exact ⟨fun h => by simpa using h.2, fun hx => ⟨h x hx, by simpa using hx⟩⟩
 rw [← e]
 exact List.length_filter_le _ _
theorem len_filter' {α : Type} (p : α → Bool) : ∀ l : List α, (l.filter p).length + (l.filter fun x => !p x).length = l.length
 | [] => rfl
 | x :: l => by
  have := len_filter' p l
  rw [List.filter_cons, List.filter_cons]
  cases hp : p x <;> simp <;> omega
section
variable (hF : Ok F)
include hF
/-- a reduced matrix's rows and some more make a greater span, with as many as it has rows -/
theorem ext_basis {n : Nat} {I L : List (Nat × Cf)} (hI : RedL F n I) (hL : RedL F n L) (hs : ∀ v, Sp F (I.map Prod.snd) v → Sp F (L.map Prod.snd) v) :
  ∃ X, Vs F n X ∧ X.length + I.length = L.length ∧ (∀ x ∈ X, Sp F (L.map Prod.snd) x) ∧ ∀ v, Sp F (L.map Prod.snd) v → Sp F (I.map Prod.snd ++ X) v := by
 have hsub : ∀ x ∈ I.map Prod.fst, x ∈ L.map Prod.fst := fun x hx => hI.red.sub_piv hF hL.red hs hx
 have hX : ∀ r ∈ (L.filter fun a => !isP I a.1).map Prod.snd, r ∈ L.map Prod.snd := fun r hr => by
  obtain ⟨a, ha, rfl⟩ := List.mem_map.1 hr
  exact List.mem_map.2 ⟨a, (List.mem_filter.1 ha).1, rfl⟩
 have hXS : ∀ r ∈ (L.filter fun a => !isP I a.1).map Prod.snd, Sp F (L.map Prod.snd) r := fun r hr => Sp.mem hF hL.red.el (hX r hr)
 have hXV : Vs F n ((L.filter fun a => !isP I a.1).map Prod.snd) := fun r hr => RedL.vs hF hL r (hX r hr)
 refine ⟨_, hXV, ?_, hXS, fun v hv => ?_⟩
 ·have e : ((L.filter fun a => isP I a.1).map Prod.fst) = I.map Prod.fst := by
   refine sorted_ext ?_ hI.red.lt fun x => ?_
   ·rw [List.pairwise_map]; exact (hL.pw.filter _).imp fun h => h.1
   ·simp only [List.mem_map, List.mem_filter, isP_iff]
    constructor
    ·rintro ⟨a, ⟨_, b, hb, e⟩, rfl⟩; exact ⟨b, hb, e⟩
    ·rintro ⟨b, hb, rfl⟩
     obtain ⟨a, ha, e⟩ := List.mem_map.1 (hsub b.1 (List.mem_map.2 ⟨b, hb, rfl⟩))
     exact ⟨a, ⟨ha, b, hb, e.symm⟩, e⟩
  have e2 := congrArg List.length e
  rw [List.length_map, List.length_map] at e2
  have := len_filter' (fun a => isP I a.1) L
  rw [List.length_map]
  omega
 ·have hV : Vs F n (I.map Prod.snd ++ (L.filter fun a => !isP I a.1).map Prod.snd) := Vs.app hF (RedL.vs hF hI) hXV
  obtain ⟨k1, k2, -⟩ := redL_ok hF hV
  refine (k2 v).1 (k1.fill hF hL.red.el (fun v hv => ?_) ?_ hv)
  ·refine Sp.le hF hL.red.el (fun r hr => ?_) ((k2 v).1 hv)
   rcases List.mem_append.1 hr with hr | hr
   ·exact hs r (Sp.mem hF hI.red.el hr)
   ·exact hXS r hr
  ·have := sorted_le hL.red.lt k1.red.lt fun x hx => by
    obtain ⟨a, ha, rfl⟩ := List.mem_map.1 hx
    have one : ∀ b : Nat × Cf, Ro F n b → b.1 = a.1 → b.2 ∈ I.map Prod.snd ++ (L.filter fun a => !isP I a.1).map Prod.snd → a.1 ∈ (redL F n (I.map Prod.snd ++ (L.filter fun a => !isP I a.1).map Prod.snd)).map Prod.fst := fun b hb e hm =>
     k1.red.lead hF ((k2 b.2).2 (Sp.mem hF hV.els hm)) (fun k hk => hb.lo k (by omega)) (by rw [← e, hb.one]; exact Nat.one_ne_zero)
    by_cases hp : isP I a.1 = true
    ·obtain ⟨b, hb, e⟩ := isP_iff.1 hp
     exact one b (hI.ro b hb) e (List.mem_append_left _ (List.mem_map.2 ⟨b, hb, rfl⟩))
    ·exact one a (hL.ro a ha) rfl (List.mem_append_right _ (List.mem_map.2 ⟨a, List.mem_filter.2 ⟨ha, by simpa using hp⟩, rfl⟩))
   rw [List.length_map, List.length_map] at this
   rw [List.length_map]
   exact this
theorem dim_le {n : Nat} {L M : List (Nat × Cf)} (hL : RedL F n L) (hM : RedL F n M) : (joinL F n (L.map Prod.snd) (M.map Prod.snd)).length + (meetL F n L M).length ≤ L.length + M.length := by
 obtain ⟨j1, j2⟩ := joinL_ok hF (RedL.vs hF hL) (RedL.vs hF hM)
 obtain ⟨i1, i2⟩ := meetL_ok hF hL hM
 obtain ⟨X, x1, x2, x3, x4⟩ := ext_basis hF i1 hL fun v hv => ((i2 v).1 hv).1
 obtain ⟨Y, y1, y2, y3, y4⟩ := ext_basis hF i1 hM fun v hv => ((i2 v).1 hv).2
 have hV := Vs.app hF (Vs.app hF (RedL.vs hF i1) x1) y1
 have := (j1.ind hF).le hF hV.els fun v hv => by
  have hv2 := (j2 v).1 (Sp.mem hF j1.red.el hv)
  refine Sp.le hF hV.els (fun r hr => ?_) hv2
  rcases List.mem_append.1 hr with hr | hr
  ·exact Sp.app_l hF (Vs.app hF (RedL.vs hF i1) x1).els y1.els (x4 r (Sp.mem hF hL.red.el hr))
  ·refine Sp.le hF hV.els (fun z hz => Sp.mem hF hV.els ?_) (y4 r (Sp.mem hF hM.red.el hr))
   rcases List.mem_append.1 hz with hz | hz
   ·exact List.mem_append_left _ (List.mem_append_left _ hz)
   ·exact List.mem_append_right _ hz
 simp only [List.length_map, List.length_append] at this
 omega
/-- THE RANKS OF SUM AND INTERSECTION ARE TOGETHER THOSE OF BOTH -/
theorem dim_eq {n : Nat} {L M : List (Nat × Cf)} (hL : RedL F n L) (hM : RedL F n M) : (joinL F n (L.map Prod.snd) (M.map Prod.snd)).length + (meetL F n L M).length = L.length + M.length := by
 obtain ⟨a1, a2, a3⟩ := kerL_ok hF hL
 obtain ⟨b1, b2, b3⟩ := kerL_ok hF hM
 obtain ⟨j1, j2⟩ := joinL_ok hF (RedL.vs hF hL) (RedL.vs hF hM)
 have h1 := dim_le hF hL hM
 have h2 := dim_le hF a1 b1
 obtain ⟨m1, m2⟩ := joinL_ok hF (RedL.vs hF a1) (RedL.vs hF b1)
 have h3 := (kerL_ok hF m1).2.2
 have h4 := (kerL_ok hF j1).2.2
 have e : meetL F n (kerL F n L) (kerL F n M) = kerL F n (joinL F n (L.map Prod.snd) (M.map Prod.snd)) := by
  unfold meetL
  rw [kerL_kerL hF hL, kerL_kerL hF hM]
 rw [e] at h2
 have e2 : meetL F n L M = kerL F n (joinL F n ((kerL F n L).map Prod.snd) ((kerL F n M).map Prod.snd)) := rfl
 rw [e2] at h1 ⊢
 omega
/-- the modular law -/
theorem modular {A B C : List Cf} (hA : Els F A) (hB : Els F B) (hC : Els F C) (hs : ∀ v, Sp F A v → Sp F C v) {v : Cf} : (∃ x y, Sp F A x ∧ (Sp F B y ∧ Sp F C y) ∧ v = pa F x y) ↔ Sp F (A ++ B) v ∧ Sp F C v := by
 constructor
 ·rintro ⟨x, y, hx, ⟨hy, hy'⟩, rfl⟩
  exact ⟨Sp.add hF (hA.app hB) (Sp.app_l hF hA hB hx) (Sp.app_r hF hA hB hy), Sp.add hF hC (hs x hx) hy'⟩
 ·rintro ⟨h, hc⟩
  obtain ⟨x, y, hx, hy, rfl⟩ := Sp.app hF h
  refine ⟨x, y, hx, ⟨hy, ?_⟩, rfl⟩
  have := Sp.add hF hC hc (Sp.smul hF hC (hF.neg_lt 1) (hs x hx))
  rwa [show pa F (pa F x y) (ps F (F.neg 1) x) = y from by
   rw [pa_comm hF x, pa_assoc hF, pa_neg hF (hx.el hF), pa_zero hF (hy.el hF)]] at this
/-- what is 0 at the free coordinates is known by its products -/
theorem sol_uniq {n : Nat} {L : List (Nat × Cf)} (h : RedL F n L) {x y : Cf} (hx : El F x) (hy : El F y) (xh : ∀ j, n ≤ j → x j = 0) (yh : ∀ j, n ≤ j → y j = 0)
  (xf : ∀ j ∈ frees n L, x j = 0) (yf : ∀ j ∈ frees n L, y j = 0) (e : ∀ a ∈ L, dt F n a.2 x = dt F n a.2 y) : x = y := funext fun j => by
 by_cases hj : j < n
 ·cases hp : isP L j
  ·have hm : j ∈ frees n L := by unfold frees; rw [List.mem_filter]; exact ⟨List.mem_range.2 hj, by simp [hp]⟩
   rw [xf j hm, yf j hm]
  ·obtain ⟨a, ha, rfl⟩ := isP_iff.1 hp
   have := e a ha
   rw [dt_row hF h ha hx, dt_row hF h ha hy, sm_zero hF fun j hj => by rw [xf j hj, Ok.mul_z], sm_zero hF fun j hj => by rw [yf j hj, Ok.mul_z], hF.add_zero (hx _), hF.add_zero (hy _)] at this
   exact this
 ·rw [xh j (by omega), yh j (by omega)]
end
end Go.Fl

/- Sweeping a matrix column by column. -/
namespace Go.Fl
set_option linter.unusedSectionVars false
set_option linter.unusedVariables false
variable {F : Gf}
/-- the first columns of M are swept: P are their pivots -/
structure Sw (F : Gf) (n col : Nat) (P : List Nat) (M : List Cf) : Prop where
 lt : P.Pairwise (· < ·)
 bd : ∀ p ∈ P, p < col
 le : P.length ≤ M.length
 vs : Vs F n M
 lo : ∀ i, i < P.length → ∀ j, j < P.getD i 0 → M.getD i pz j = 0
 pv : ∀ i, i < P.length → ∀ k, k < M.length → M.getD k pz (P.getD i 0) = if k = i then 1 else 0
 be : ∀ k, k < M.length → P.length ≤ k → ∀ j, j < col → M.getD k pz j = 0
/-- two rows exchanged -/
def swp (M : List Cf) (a i : Nat) : List Cf := (M.set a (M.getD i pz)).set i (M.getD a pz)
/-- the row a made 1 in the column, and the others 0 -/
def rowU (F : Gf) (M : List Cf) (a c : Nat) : Cf := ps F (F.inv (M.getD a pz c)) (M.getD a pz)
def iso (F : Gf) (M : List Cf) (a c : Nat) : List Cf := (List.range M.length).map fun k => if k = a then rowU F M a c else mns F (M.getD k pz) (M.getD k pz c) (rowU F M a c)
theorem swp_len (M : List Cf) (a i : Nat) : (swp M a i).length = M.length := by simp [swp]
theorem swp_at {M : List Cf} {a i k : Nat} (ha : a < M.length) (hi : i < M.length) : (swp M a i).getD k pz = if k = i then M.getD a pz else if k = a then M.getD i pz else M.getD k pz := by
 unfold swp
 simp only [List.getD_eq_getElem?_getD, List.getElem?_set, List.length_set]
 by_cases h1 : i = k
 ·subst h1; simp [hi]
 ·by_cases h2 : a = k
  ·subst h2; simp [h1, ha, Ne.symm h1]
  ·simp [h1, h2, Ne.symm h1, Ne.symm h2]
theorem iso_len (M : List Cf) (a c : Nat) : (iso F M a c).length = M.length := by simp [iso]
theorem iso_at {M : List Cf} {a c k : Nat} (hk : k < M.length) : (iso F M a c).getD k pz = if k = a then rowU F M a c else mns F (M.getD k pz) (M.getD k pz c) (rowU F M a c) := by
 unfold iso
 rw [List.getD_eq_getElem?_getD, List.getElem?_map, List.getElem?_range hk]
 rfl
theorem mem_get {M : List Cf} {r : Cf} (h : r ∈ M) : ∃ i, i < M.length ∧ M.getD i pz = r := by
 obtain ⟨i, hi, rfl⟩ := List.getElem_of_mem h
 exact ⟨i, hi, by rw [List.getD_eq_getElem?_getD, List.getElem?_eq_getElem hi]; rfl⟩
theorem get_mem {M : List Cf} {i : Nat} (h : i < M.length) : M.getD i pz ∈ M := by
 rw [List.getD_eq_getElem?_getD, List.getElem?_eq_getElem h]; exact List.getElem_mem h
theorem getD_snoc {P : List Nat} {c i : Nat} : (P ++ [c]).getD i 0 = if i < P.length then P.getD i 0 else if i = P.length then c else 0 := by
 rw [List.getD_eq_getElem?_getD, List.getElem?_append]
 split
 ·rfl
 ·rename_i h
  split
  ·rename_i e; subst e; simp
  ·rw [List.getElem?_eq_none (by simp; omega)]; rfl
section
variable (hF : Ok F)
include hF
theorem Vs.get {n : Nat} {M : List Cf} (h : Vs F n M) (k : Nat) : El F (M.getD k pz) ∧ ∀ j, n ≤ j → M.getD k pz j = 0 := by
 by_cases hk : k < M.length
 ·exact h _ (get_mem hk)
 ·rw [List.getD_eq_getElem?_getD, List.getElem?_eq_none (by omega)]; exact ⟨el_z hF, fun _ _ => rfl⟩
theorem swp_vs {n : Nat} {M : List Cf} (h : Vs F n M) {a i : Nat} (ha : a < M.length) (hi : i < M.length) : Vs F n (swp M a i) := fun r hr => by
 obtain ⟨k, hk, rfl⟩ := mem_get hr
 rw [swp_at ha hi]
 split
 ·exact Vs.get hF h _
 ·split
  ·exact Vs.get hF h _
  ·exact Vs.get hF h _
theorem swp_sp {n : Nat} {M : List Cf} (h : Vs F n M) {a i : Nat} (ha : a < M.length) (hi : i < M.length) (v : Cf) : Sp F (swp M a i) v ↔ Sp F M v := by
 have h' := swp_vs hF h ha hi
 constructor
 ·refine Sp.le hF h.els fun r hr => ?_
  obtain ⟨k, hk, rfl⟩ := mem_get hr
  rw [swp_len] at hk
  rw [swp_at ha hi]
  split
  ·exact Sp.get hF h.els ha
  ·split
   ·exact Sp.get hF h.els hi
   ·exact Sp.get hF h.els hk
 ·refine Sp.le hF h'.els fun r hr => ?_
  obtain ⟨k, hk, rfl⟩ := mem_get hr
  by_cases e1 : k = i
  ·subst e1
   have := Sp.get hF h'.els (i := a) (by rw [swp_len]; exact ha)
   rw [swp_at ha hi] at this
   split at this
   ·rename_i e; subst e; exact this
   ·rw [if_pos rfl] at this; exact this
  ·by_cases e2 : k = a
   ·subst e2
    have := Sp.get hF h'.els (i := i) (by rw [swp_len]; exact hi)
    rw [swp_at ha hi, if_pos rfl] at this
    exact this
   ·have := Sp.get hF h'.els (i := k) (by rw [swp_len]; exact hk)
    rw [swp_at ha hi, if_neg e1, if_neg e2] at this
    exact this
theorem rowU_el (M : List Cf) (a c : Nat) : El F (rowU F M a c) := el_s hF _ _
theorem rowU_at0 {M : List Cf} {a c j : Nat} (h : M.getD a pz j = 0) : rowU F M a c j = 0 := by
 show F.mul _ (M.getD a pz j) = 0
 rw [h, Ok.mul_z]
theorem rowU_one {n : Nat} {M : List Cf} (h : Vs F n M) {a c : Nat} (hc : M.getD a pz c ≠ 0) : rowU F M a c c = 1 := by
 show F.mul _ (M.getD a pz c) = 1
 rw [Ok.mul_comm]; exact hF.mul_inv ((Vs.get hF h a).1 c) hc
theorem iso_vs {n : Nat} {M : List Cf} (h : Vs F n M) {a c : Nat} : Vs F n (iso F M a c) := fun r hr => by
 obtain ⟨k, hk, rfl⟩ := mem_get hr
 rw [iso_len] at hk
 rw [iso_at hk]
 have hu : ∀ j, n ≤ j → rowU F M a c j = 0 := fun j hj => rowU_at0 hF ((Vs.get hF h a).2 j hj)
 split
 ·exact ⟨rowU_el hF _ _ _, hu⟩
 ·exact ⟨mns_el hF _ _ _, fun j hj => by rw [mns_at0 hF (Vs.get hF h k).1 (.inr (hu j hj))]; exact (Vs.get hF h k).2 j hj⟩
theorem iso_sp {n : Nat} {M : List Cf} (h : Vs F n M) {a c : Nat} (ha : a < M.length) (hc : M.getD a pz c ≠ 0) (v : Cf) : Sp F (iso F M a c) v ↔ Sp F M v := by
 have h' : Vs F n (iso F M a c) := iso_vs hF h
 have hq := (Vs.get hF h a).1 c
 constructor
 ·refine Sp.le hF h.els fun r hr => ?_
  obtain ⟨k, hk, rfl⟩ := mem_get hr
  rw [iso_len] at hk
  rw [iso_at hk]
  have hu : Sp F M (rowU F M a c) := Sp.smul hF h.els (hF.inv_lt _) (Sp.get hF h.els ha)
  split
  ·exact hu
  ·exact Sp.add hF h.els (Sp.get hF h.els hk) (Sp.smul hF h.els (hF.neg_lt _) hu)
 ·refine Sp.le hF h'.els fun r hr => ?_
  obtain ⟨k, hk, rfl⟩ := mem_get hr
  have hu : Sp F (iso F M a c) (rowU F M a c) := by
   have := Sp.get hF h'.els (i := a) (by rw [iso_len]; exact ha)
   rw [iso_at ha, if_pos rfl] at this; exact this
  have hk' := Sp.get hF h'.els (i := k) (by rw [iso_len]; exact hk)
  rw [iso_at hk] at hk'
  split at hk'
  ·rename_i e
   subst e
   have := Sp.smul hF h'.els hq hu
   unfold rowU at this
   rw [← ps_ps hF, hF.mul_inv hq hc, one_ps hF (Vs.get hF h k).1] at this
   exact this
  ·have hel := (Vs.get hF h k).1
   rw [mns_back hF hel (rowU_el hF M a c) (hel c)]
   exact Sp.add hF h'.els hk' (Sp.smul hF h'.els (hel c) hu)
theorem Sw.start {n : Nat} {M : List Cf} (h : Vs F n M) : Sw F n 0 [] M :=
 ⟨.nil, fun _ h => (by cases h), by simp, h, fun _ h => (by simp at h), fun _ h => (by simp at h), fun _ _ _ j hj => (by omega)⟩
/-- no row has this column -/
theorem Sw.none {n c : Nat} {P : List Nat} {M : List Cf} (h : Sw F n c P M) (hz : ∀ k, k < M.length → P.length ≤ k → M.getD k pz c = 0) : Sw F n (c + 1) P M where
 lt := h.lt
 bd := fun p hp => Nat.lt_succ_of_lt (h.bd p hp)
 le := h.le
 vs := h.vs
 lo := h.lo
 pv := h.pv
 be := fun k hk hk' j hj => by
  rcases Nat.lt_or_ge j c with e | e
  ·exact h.be k hk hk' j e
  ·obtain rfl : j = c := by omega
   exact hz k hk hk'
theorem Sw.swap {n c : Nat} {P : List Nat} {M : List Cf} (h : Sw F n c P M) {i : Nat} (hi : i < M.length) (hle : P.length ≤ i) : Sw F n c P (swp M P.length i) := by
 have ha : P.length < M.length := by omega
 have key : ∀ k, k < P.length → (swp M P.length i).getD k pz = M.getD k pz := fun k hk => by rw [swp_at ha hi, if_neg (by omega), if_neg (by omega)]
 refine ⟨h.lt, h.bd, by rw [swp_len]; exact h.le, swp_vs hF h.vs ha hi, fun k hk j hj => by rw [key k hk]; exact h.lo k hk j hj, fun k hk l hl => ?_, fun k hk hk' j hj => ?_⟩
 ·rw [swp_len] at hl
  rw [swp_at ha hi]
  split
  ·rename_i e; subst e
   rw [h.pv k hk _ ha, if_neg (by omega), if_neg (by omega)]
  ·split
   ·rename_i e; subst e
    rw [h.pv k hk _ hi, if_neg (by omega), if_neg (by omega)]
   ·exact h.pv k hk l hl
 ·rw [swp_len] at hk
  rw [swp_at ha hi]
  split
  ·exact h.be _ ha (Nat.le_refl _) j hj
  ·split
   ·exact h.be _ hi hle j hj
   ·exact h.be k hk hk' j hj
/-- THE COLUMN OF A NEW PIVOT -/
theorem Sw.piv {n c : Nat} {P : List Nat} {M : List Cf} (h : Sw F n c P M) (ha : P.length < M.length) (hc : M.getD P.length pz c ≠ 0) : Sw F n (c + 1) (P ++ [c]) (iso F M P.length c) := by
 have hel : ∀ k, El F (M.getD k pz) := fun k => (Vs.get hF h.vs k).1
 have hu0 : ∀ j, j < c → rowU F M P.length c j = 0 := fun j hj => rowU_at0 hF (h.be _ ha (Nat.le_refl _) j hj)
 have hbd : ∀ i, i < P.length → P.getD i 0 < c := fun i hi => h.bd _ (by rw [List.getD_eq_getElem?_getD, List.getElem?_eq_getElem hi]; exact List.getElem_mem hi)
 have low : ∀ k, k < M.length → ∀ j, j < c → (iso F M P.length c).getD k pz j = M.getD k pz j := fun k hk j hj => by
  rw [iso_at hk]
  split
  ·rename_i e; subst e; rw [hu0 j hj, h.be _ ha (Nat.le_refl _) j hj]
  ·exact mns_at0 hF (hel k) (.inr (hu0 j hj))
 have atc : ∀ k, k < M.length → (iso F M P.length c).getD k pz c = if k = P.length then 1 else 0 := fun k hk => by
  rw [iso_at hk]
  split
  ·exact rowU_one hF h.vs hc
  ·exact mns_at1 hF (hel k) (rowU_one hF h.vs hc)
 refine ⟨?_, ?_, by rw [iso_len, List.length_append]; exact ha, iso_vs hF h.vs, ?_, ?_, ?_⟩
 ·rw [List.pairwise_append]
  exact ⟨h.lt, List.pairwise_singleton _ _, fun x hx y hy => by simp at hy; subst hy; exact h.bd x hx⟩
 ·intro p hp
  rcases List.mem_append.1 hp with hp | hp
  ·exact Nat.lt_succ_of_lt (h.bd p hp)
  ·simp at hp; omega
 ·intro i hi j hj
  rw [List.length_append] at hi
  rw [getD_snoc] at hj
  split at hj
  ·rename_i hi'
   rw [low i (by omega) j (by have := hbd i hi'; omega)]
   exact h.lo i hi' j hj
  ·obtain rfl : i = P.length := by simp at hi; omega
   rw [if_pos rfl] at hj
   rw [low _ ha j hj]; exact h.be _ ha (Nat.le_refl _) j hj
 ·intro i hi k hk
  rw [iso_len] at hk
  rw [List.length_append] at hi
  rw [getD_snoc]
  split
  ·rename_i hi'
   rw [low k hk _ (hbd i hi')]; exact h.pv i hi' k hk
  ·obtain rfl : i = P.length := by simp at hi; omega
   rw [if_pos rfl]; exact atc k hk
 ·intro k hk hk' j hj
  rw [iso_len] at hk
  rw [List.length_append] at hk'
  simp at hk'
  rcases Nat.lt_or_ge j c with e | e
  ·rw [low k hk j e]; exact h.be k hk (by omega) j e
  ·obtain rfl : j = c := by omega
   rw [atc k hk, if_neg (by omega)]
/-- all columns swept: the first rows are reduced, the others are zero -/
theorem Sw.fin {n : Nat} {P : List Nat} {M : List Cf} (h : Sw F n n P M) : Red F n P (M.take P.length) ∧ ∀ v, Sp F (M.take P.length) v ↔ Sp F M v := by
 have hl : (M.take P.length).length = P.length := by rw [List.length_take]; have := h.le; omega
 have hg : ∀ i, i < P.length → (M.take P.length).getD i pz = M.getD i pz := fun i hi => by
  rw [List.getD_eq_getElem?_getD, List.getD_eq_getElem?_getD, List.getElem?_take_of_lt hi]
 have hle := h.le
 refine ⟨⟨h.lt, hl.symm, h.bd, fun r hr => h.vs.els r (List.mem_of_mem_take hr), fun i hi j hj => ?_, fun i hi k hk => ?_, fun r hr => (h.vs r (List.mem_of_mem_take hr)).2⟩, fun v => ⟨?_, ?_⟩⟩
 ·rw [hl] at hi; rw [hg i hi]; exact h.lo i hi j hj
 ·rw [hl] at hi hk; rw [hg k hk]; exact h.pv i hi k (by omega)
 ·exact Sp.le hF h.vs.els fun r hr => Sp.mem hF h.vs.els (List.mem_of_mem_take hr)
 ·have ht : Els F (M.take P.length) := fun r hr => h.vs.els r (List.mem_of_mem_take hr)
  refine Sp.le hF ht fun r hr => ?_
  obtain ⟨k, hk, rfl⟩ := mem_get hr
  by_cases e : k < P.length
  ·rw [← hg k e]; exact Sp.get hF ht (by omega)
  ·have : M.getD k pz = pz := funext fun j => by
    rcases Nat.lt_or_ge j n with hj | hj
    ·exact h.be k hk (by omega) j hj
    ·exact (Vs.get hF h.vs k).2 j hj
   rw [this]; exact Sp.zero hF _
end
end Go.Fl

/- Vectors as lists of n numbers; the reduced matrix and the kernel as lists of such; a sweep's end is the reduced matrix. -/
namespace Go.Fl
set_option linter.unusedSectionVars false
set_option linter.unusedVariables false
variable {F : Gf}
def toV (n : Nat) (f : Cf) : List Nat := (List.range n).map f
structure Vn (F : Gf) (n : Nat) (l : List Nat) : Prop where
 len : l.length = n
 el : In F l
def Mn (F : Gf) (n : Nat) (M : List (List Nat)) : Prop := ∀ r ∈ M, Vn F n r
theorem toV_len (n : Nat) (f : Cf) : (toV n f).length = n := by simp [toV]
theorem toV_get {n i : Nat} (f : Cf) (h : i < n) : (toV n f).getD i 0 = f i := by
 unfold toV
 rw [List.getD_eq_getElem?_getD, List.getElem?_map, List.getElem?_range h]; rfl
theorem fn_toV {n : Nat} {f : Cf} (h : ∀ j, n ≤ j → f j = 0) : fn (toV n f) = f := funext fun j => by
 rcases Nat.lt_or_ge j n with e | e
 ·exact toV_get f e
 ·rw [fn_ge (by rw [toV_len]; exact e), h j e]
theorem toV_fn {n : Nat} {l : List Nat} (h : l.length = n) : toV n (fn l) = l := by
 apply List.ext_getElem (by rw [toV_len, h])
 intro i h1 h2
 simp [toV, fn, List.getD_eq_getElem?_getD, List.getElem?_eq_getElem h2]
theorem toV_in {n : Nat} {f : Cf} (h : El F f) : In F (toV n f) := fun x hx => by
 obtain ⟨i, _, rfl⟩ := List.mem_map.1 hx; exact h i
theorem toV_vn {n : Nat} {f : Cf} (h : El F f) : Vn F n (toV n f) := ⟨toV_len n f, toV_in h⟩
theorem fn_inj {a b : List Nat} (hl : a.length = b.length) (h : fn a = fn b) : a = b := by rw [← toV_fn (n := b.length) hl, h, toV_fn rfl]
theorem Vn.hi {n : Nat} {l : List Nat} (h : Vn F n l) : ∀ j, n ≤ j → fn l j = 0 := fun j hj => fn_ge (by rw [h.len]; exact hj)
/-- the reduced matrix of a list of vectors -/
def redM (F : Gf) (n : Nat) (S : List (List Nat)) : List (List Nat) := (redL F n (S.map fn)).map fun a => toV n a.2
def pivM (F : Gf) (n : Nat) (S : List (List Nat)) : List Nat := (redL F n (S.map fn)).map Prod.fst
/-- the reduced matrix of what they take to zero -/
def kerM (F : Gf) (n : Nat) (S : List (List Nat)) : List (List Nat) := (kerL F n (redL F n (S.map fn))).map fun a => toV n a.2
section
variable (hF : Ok F)
include hF
theorem Vn.fn {n : Nat} {l : List Nat} (h : Vn F n l) : El F (Go.Fl.fn l) := h.el.el hF
theorem Mn.vs {n : Nat} {M : List (List Nat)} (h : Mn F n M) : Vs F n (M.map Go.Fl.fn) := fun v hv => by
 obtain ⟨r, hr, rfl⟩ := List.mem_map.1 hv
 exact ⟨(h r hr).fn hF, (h r hr).hi⟩
theorem rows_map {n : Nat} {L : List (Nat × Cf)} (h : RedL F n L) : (L.map fun a => toV n a.2).map Go.Fl.fn = L.map Prod.snd := by
 rw [List.map_map]
 refine List.map_congr_left fun a ha => ?_
 exact fn_toV (h.ro a ha).hi
theorem redM_ok {n : Nat} {S : List (List Nat)} (h : Mn F n S) : Mn F n (redM F n S) ∧ RedL F n (redL F n (S.map Go.Fl.fn)) ∧ (redM F n S).map Go.Fl.fn = (redL F n (S.map Go.Fl.fn)).map Prod.snd := by
 obtain ⟨h1, h2, h3⟩ := redL_ok hF (Mn.vs hF h)
 refine ⟨fun r hr => ?_, h1, rows_map hF h1⟩
 obtain ⟨a, ha, rfl⟩ := List.mem_map.1 hr
 exact toV_vn (h1.ro a ha).el
theorem kerM_ok {n : Nat} {S : List (List Nat)} (h : Mn F n S) : Mn F n (kerM F n S) ∧ (kerM F n S).map Go.Fl.fn = (kerL F n (redL F n (S.map Go.Fl.fn))).map Prod.snd := by
 obtain ⟨h1, h2, h3⟩ := redL_ok hF (Mn.vs hF h)
 obtain ⟨k1, k2, k3⟩ := kerL_ok hF h1
 refine ⟨fun r hr => ?_, rows_map hF k1⟩
 obtain ⟨a, ha, rfl⟩ := List.mem_map.1 hr
 exact toV_vn (k1.ro a ha).el
/-- what is reduced and has the span of S is its reduced matrix -/
theorem redM_of {n : Nat} {S : List (List Nat)} (h : Mn F n S) {P : List Nat} {R : List (List Nat)} (hl : ∀ r ∈ R, r.length = n) (hr : Red F n P (R.map Go.Fl.fn)) (hs : ∀ v, Sp F (R.map Go.Fl.fn) v ↔ Sp F (S.map Go.Fl.fn) v) : R = redM F n S ∧ P = pivM F n S := by
 obtain ⟨h1, h2, -⟩ := redL_ok hF (Mn.vs hF h)
 obtain ⟨e1, e2⟩ := hr.uniq hF h1.red fun v => (hs v).trans (h2 v).symm
 refine ⟨?_, e1⟩
 have e3 := congrArg (List.map (toV n)) e2
 rw [List.map_map, List.map_map] at e3
 rw [show R = R.map (toV n ∘ Go.Fl.fn) from by
  conv => lhs; rw [← List.map_id R]
  exact List.map_congr_left fun r hr => (toV_fn (hl r hr)).symm, e3]
 rfl
/-- A SWEEP's END IS THE REDUCED MATRIX -/
theorem Sw.redM {n : Nat} {S : List (List Nat)} (h : Mn F n S) {P : List Nat} {M : List (List Nat)} (hl : ∀ r ∈ M, r.length = n) (hw : Sw F n n P (M.map Go.Fl.fn)) (hs : ∀ v, Sp F (M.map Go.Fl.fn) v ↔ Sp F (S.map Go.Fl.fn) v) : M.take P.length = Go.Fl.redM F n S ∧ P = pivM F n S := by
 obtain ⟨h1, h2⟩ := hw.fin hF
 rw [← List.map_take] at h1 h2
 exact redM_of hF h (fun r hr => hl r (List.mem_of_mem_take hr)) h1 fun v => (h2 v).trans (hs v)
theorem redM_ext {n : Nat} {S T : List (List Nat)} (h : Mn F n S) (h' : Mn F n T) (hs : ∀ v, Sp F (S.map Go.Fl.fn) v ↔ Sp F (T.map Go.Fl.fn) v) : Go.Fl.redM F n S = Go.Fl.redM F n T := by
 obtain ⟨a1, a2, -⟩ := redL_ok hF (Mn.vs hF h)
 obtain ⟨b1, b2, -⟩ := redL_ok hF (Mn.vs hF h')
 unfold Go.Fl.redM
 rw [a1.ext hF b1 fun v => (a2 v).trans ((hs v).trans (b2 v).symm)]
/-! ### the reference: coordinates taken off one after another -/
theorem mns_mns {v x y : Cf} {c : Nat} (hx : El F x) (hy : El F y) (hc : c < F.q) : mns F (mns F v c x) 1 y = mns F v 1 (pa F (ps F c x) y) := funext fun j => by
 show F.add (F.add (v j) (F.mul (F.neg c) (x j))) (F.mul (F.neg 1) (y j)) = F.add (v j) (F.mul (F.neg 1) (F.add (F.mul c (x j)) (y j)))
 rw [hF.add_assoc, hF.mul_add (hF.mul_lt _ _) (hy j) (hF.neg_lt _), ← hF.mul_assoc, hF.neg_mul hc]
theorem clr_fold : ∀ {L : List (Nat × Cf)}, L.Pairwise (fun a b => a.1 < b.1 ∧ a.2 b.1 = 0 ∧ b.2 a.1 = 0) → (∀ a ∈ L, El F a.2) → ∀ {v : Cf}, El F v → L.foldl (fun x a => mns F x (x a.1) a.2) v = clr F L v
 | [], _, _, v, hv => by
  show v = mns F v 1 pz
  exact funext fun j => (mns_at0 hF hv (.inr rfl)).symm
 | a :: L, h, he, v, hv => by
  rw [List.pairwise_cons] at h
  show L.foldl _ (mns F v (v a.1) a.2) = mns F v 1 (pa F (ps F (v a.1) a.2) (cb F (L.map Prod.snd) fun i => v ((L.map Prod.fst).getD i 0)))
  rw [clr_fold h.2 (fun b hb => he b (List.mem_cons_of_mem _ hb)) (mns_el hF v (v a.1) a.2)]
  unfold clr
  rw [← mns_mns hF (he a (by simp)) (cb_el hF _ _) (hv _)]
  congr 1
  refine cb_congr hF fun i hi => ?_
  rw [List.length_map] at hi
  rw [map_fst_getD hi]
  exact mns_at0 hF hv (.inr (h.1 _ (List.getElem_mem hi)).2.1)
end
end Go.Fl
