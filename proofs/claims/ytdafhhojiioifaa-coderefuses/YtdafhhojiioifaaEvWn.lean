/- Rows found one by one, in any order of their pivots: put in order they are the reduced matrix. -/
import Derived.Test.YtdafhhojiioifaaEvWl
namespace Go.Fl
set_option linter.unusedSectionVars false
set_option linter.unusedVariables false
variable {F : Gf}
def plV (F : Gf) (V W : List Nat) : List Nat := (List.range V.length).map fun j => F.add (V.getD j 0) (W.getD j 0)
def tiV (F : Gf) (c : Nat) (V : List Nat) : List Nat := (List.range V.length).map fun j => F.mul c (V.getD j 0)
/-- w less the multiple of r that makes it 0 at the pivot of r -/
def clV (F : Gf) (n : Nat) (w r : List Nat) : List Nat := plV F w (tiV F (F.neg (w.getD (pvt (fn r) n) 0)) r)
def rsV (F : Gf) (n : Nat) (D : List (List Nat)) (w : List Nat) : List Nat := D.foldl (clV F n) w
def rdS (F : Gf) (n : Nat) (D : List (List Nat)) (r : List Nat) : List (List Nat) :=
 if pvt (fn (rsV F n D r)) n = n then D else
  D.map (fun x => clV F n x (tiV F (F.inv ((rsV F n D r).getD (pvt (fn (rsV F n D r)) n) 0)) (rsV F n D r))) ++ [tiV F (F.inv ((rsV F n D r).getD (pvt (fn (rsV F n D r)) n) 0)) (rsV F n D r)]
def rdD (F : Gf) (n : Nat) (S : List (List Nat)) : List (List Nat) := S.foldl (rdS F n) []
/-- rows in the order of their pivots, the pivots below m -/
def ioK (n : Nat) (D : List (List Nat)) (m : Nat) : List (List Nat) := (List.range m).flatMap fun t => D.filter fun r => pvt (fn r) n == t
theorem ioK_succ (n : Nat) (D : List (List Nat)) (m : Nat) : ioK n D (m + 1) = ioK n D m ++ D.filter fun r => pvt (fn r) n == m := by
 unfold ioK; rw [List.range_succ, List.flatMap_append]; simp
theorem plV_len (F : Gf) (V W : List Nat) : (plV F V W).length = V.length := by simp [plV]
theorem tiV_len (F : Gf) (c : Nat) (V : List Nat) : (tiV F c V).length = V.length := by simp [tiV]
theorem clV_len (F : Gf) (n : Nat) (w r : List Nat) : (clV F n w r).length = w.length := by unfold clV; rw [plV_len]
theorem foldl_inv {α β : Type} {f : β → α → β} (p : β → Prop) : ∀ (l : List α) (b : β), p b → (∀ b a, a ∈ l → p b → p (f b a)) → p (l.foldl f b)
 | [], b, h, _ => h
 | a :: l, b, h, hs => foldl_inv p l (f b a) (hs b a (by simp) h) fun b' a' ha => hs b' a' (by simp [ha])
/-- what a row and its pivot are as a pair -/
def prs (n : Nat) (D : List (List Nat)) : List (Nat × Cf) := D.map fun r => (pvt (fn r) n, fn r)
theorem filter_one {L : List (Nat × Cf)} (h : L.Pairwise fun a b => a.1 < b.1) (t : Nat) : (L.filter fun a => a.1 == t).length ≤ 1 := by
 induction L with
 | nil => simp
 | cons a L ih =>
  rw [List.pairwise_cons] at h
  rw [List.filter_cons]
  split
  ·rename_i e
   have e : a.1 = t := by simpa using e
   rw [show L.filter (fun a => a.1 == t) = [] from List.filter_eq_nil_iff.2 fun b hb => by have := h.1 b hb; simp; omega]
   simp
  ·exact ih h.2
theorem perm_one {α : Type} {A B : List α} (h : A.Perm B) (hl : B.length ≤ 1) : A = B := by
 match B, hl with
 | [], _ => exact List.perm_nil.1 h
 | [b], _ => exact List.perm_singleton.1 h
theorem sort_sorted : ∀ (m s : Nat) {L : List (Nat × Cf)}, L.Pairwise (fun a b => a.1 < b.1) → (∀ a ∈ L, s ≤ a.1 ∧ a.1 < s + m) → (List.range' s m).flatMap (fun t => L.filter fun a => a.1 == t) = L
 | 0, s, L, _, h => by
  have : L = [] := List.eq_nil_iff_forall_not_mem.2 fun a ha => by have := h a ha; omega
  rw [this]; simp
 | m + 1, s, L, hp, h => by
  rw [List.range'_succ, List.flatMap_cons]
  match L, hp, h with
  | [], _, _ => simp
  | a :: L, hp, h =>
   rw [List.pairwise_cons] at hp
   by_cases e : a.1 = s
   ·have e1 : (a :: L).filter (fun x => x.1 == s) = [a] := by
     rw [List.filter_cons, if_pos (by simpa using e), show L.filter (fun x => x.1 == s) = [] from List.filter_eq_nil_iff.2 fun b hb => by have := hp.1 b hb; simp; omega]
    have e2 : (List.range' (s + 1) m).flatMap (fun t => (a :: L).filter fun x => x.1 == t) = (List.range' (s + 1) m).flatMap (fun t => L.filter fun x => x.1 == t) := by
     rw [List.flatMap_def, List.flatMap_def]
     congr 1
     refine List.map_congr_left fun t ht => ?_
     rw [List.mem_range'_1] at ht
     rw [List.filter_cons, if_neg (by simp; omega)]
    rw [e1, e2, sort_sorted m (s + 1) hp.2 fun b hb => ⟨by have := hp.1 b hb; omega, by have := h b (by simp [hb]); omega⟩]
    rfl
   ·have e1 : (a :: L).filter (fun x => x.1 == s) = [] := List.filter_eq_nil_iff.2 fun b hb => by
     have := h b hb
     have ha := h a (by simp)
     rcases List.mem_cons.1 hb with rfl | hb
     ·simpa using e
     ·have := hp.1 b hb; simp; omega
    rw [e1, List.nil_append]
    refine sort_sorted m (s + 1) (List.pairwise_cons.2 hp) fun b hb => ?_
    have hs := h b hb
    have ha := h a (by simp)
    rcases List.mem_cons.1 hb with rfl | hb'
    ·omega
    ·have := hp.1 b hb'; omega
/-- rows that are those of a reduced matrix but for their order, put in order -/
theorem io_eq {n : Nat} {D : List (List Nat)} {L : List (Nat × Cf)} (hL : RedL F n L) (hp : (prs n D).Perm L) (hl : ∀ r ∈ D, r.length = n) : ioK n D n = L.map fun a => toV n a.2 := by
 have hs := sort_sorted n 0 (hL.pw.imp fun h => h.1) (fun a ha => ⟨Nat.zero_le _, by have := (hL.ro a ha).bd; omega⟩)
 rw [← List.range_eq_range'] at hs
 have key : ∀ t, (prs n D).filter (fun a => a.1 == t) = L.filter (fun a => a.1 == t) := fun t =>
  perm_one (hp.filter _) (filter_one (hL.pw.imp fun h => h.1) t)
 have e : ∀ t, D.filter (fun r => pvt (fn r) n == t) = ((prs n D).filter (fun a => a.1 == t)).map fun a => toV n a.2 := fun t => by
  unfold prs
  rw [List.filter_map, List.map_map]
  have : ∀ l : List (List Nat), (∀ r ∈ l, r.length = n) → l.map ((fun a : Nat × Cf => toV n a.2) ∘ fun r => (pvt (fn r) n, fn r)) = l := fun l hl => by
   conv => rhs; rw [← List.map_id l]
   exact List.map_congr_left fun r hr => toV_fn (hl r hr)
  rw [this _ fun r hr => hl r (List.mem_filter.1 hr).1]
  rfl
 unfold ioK
 rw [← hs, List.map_flatMap]
 rw [List.flatMap_def, List.flatMap_def]
 congr 1
 exact List.map_congr_left fun t _ => by rw [e, key]
variable (hF : Ok F)
include hF
theorem plV_fn {n : Nat} {V W : List Nat} (hv : V.length = n) (hw : W.length = n) : fn (plV F V W) = pa F (fn V) (fn W) := funext fun j => by
 show (plV F V W).getD j 0 = F.add (V.getD j 0) (W.getD j 0)
 by_cases h : j < n
 ·unfold plV; rw [range_get' _ (by omega)]
 ·have e1 : ∀ {L : List Nat}, L.length = n → L.getD j 0 = 0 := fun hl => by rw [List.getD_eq_getElem?_getD, List.getElem?_eq_none (by omega)]; rfl
  rw [e1 (by rw [plV_len, hv]), e1 hv, e1 hw, hF.add_zero hF.zero_lt]
theorem tiV_fn {n c : Nat} {V : List Nat} (hv : V.length = n) : fn (tiV F c V) = ps F c (fn V) := funext fun j => by
 show (tiV F c V).getD j 0 = F.mul c (V.getD j 0)
 by_cases h : j < n
 ·unfold tiV; rw [range_get' _ (by omega)]
 ·have e1 : ∀ {L : List Nat}, L.length = n → L.getD j 0 = 0 := fun hl => by rw [List.getD_eq_getElem?_getD, List.getElem?_eq_none (by omega)]; rfl
  rw [e1 (by rw [tiV_len, hv]), e1 hv, Ok.mul_z]
theorem plV_vn {n : Nat} {V W : List Nat} (hv : Vn F n V) : Vn F n (plV F V W) := ⟨by rw [plV_len, hv.len], fun x hx => by
 obtain ⟨j, _, rfl⟩ := List.mem_map.1 hx; exact hF.add_lt _ _⟩
theorem tiV_vn {n c : Nat} {V : List Nat} (hv : Vn F n V) : Vn F n (tiV F c V) := ⟨by rw [tiV_len, hv.len], fun x hx => by
 obtain ⟨j, _, rfl⟩ := List.mem_map.1 hx; exact hF.mul_lt _ _⟩
theorem clV_vn {n : Nat} {w r : List Nat} (hw : Vn F n w) : Vn F n (clV F n w r) := plV_vn hF hw
theorem rsV_vn {n : Nat} {D : List (List Nat)} {w : List Nat} (hw : Vn F n w) : Vn F n (rsV F n D w) := foldl_inv _ D w hw fun b a _ hb => clV_vn hF hb
theorem clV_fn {n : Nat} {w r : List Nat} (hw : w.length = n) (hr : r.length = n) : fn (clV F n w r) = mns F (fn w) (fn w (pvt (fn r) n)) (fn r) := by
 unfold clV
 rw [plV_fn hF hw (by rw [tiV_len, hr]), tiV_fn hF hr]; rfl
theorem mns_swap {v x y : Cf} {c d : Nat} : mns F (mns F v c x) d y = mns F (mns F v d y) c x := funext fun j => by
 show F.add (F.add (v j) _) _ = F.add (F.add (v j) _) _
 rw [hF.add_assoc, hF.add_assoc, Ok.add_comm (ps F (F.neg c) x j)]
theorem fold_perm {U L : List (Nat × Cf)} (h : U.Perm L) : (∀ a ∈ U, ∀ b ∈ U, a ≠ b → a.2 b.1 = 0) → ∀ {v : Cf}, El F v → U.foldl (fun x a => mns F x (x a.1) a.2) v = L.foldl (fun x a => mns F x (x a.1) a.2) v := by
 induction h with
 | nil => intros; rfl
 | cons a _ ih => intro h v hv; exact ih (fun b hb c hc => h b (by simp [hb]) c (by simp [hc])) (mns_el hF _ _ _)
 | swap a b l =>
  intro h v hv
  show l.foldl _ (mns F (mns F v (v b.1) b.2) (mns F v (v b.1) b.2 a.1) a.2) = l.foldl _ (mns F (mns F v (v a.1) a.2) (mns F v (v a.1) a.2 b.1) b.2)
  by_cases e : a = b
  ·rw [e]
  ·rw [mns_at0 hF hv (.inr (h b (by simp) a (by simp) fun e' => e e'.symm)), mns_at0 hF hv (.inr (h a (by simp) b (by simp) e)), mns_swap hF]
 | trans h1 _ ih1 ih2 => intro h v hv; rw [ih1 h hv, ih2 (fun a ha b hb => h a (h1.mem_iff.2 ha) b (h1.mem_iff.2 hb)) hv]
theorem RedL.zero {n : Nat} {L : List (Nat × Cf)} (h : RedL F n L) : ∀ a ∈ L, ∀ b ∈ L, a ≠ b → a.2 b.1 = 0 := fun a ha b hb hne => by
 obtain ⟨i, hi, rfl⟩ := List.getElem_of_mem ha
 obtain ⟨k, hk, rfl⟩ := List.getElem_of_mem hb
 have hp := List.pairwise_iff_getElem.1 h.pw
 rcases Nat.lt_trichotomy i k with e | e | e
 ·exact (hp i k hi hk e).2.1
 ·subst e; exact absurd rfl hne
 ·exact (hp k i hk hi e).2.2
theorem Ro.pvt {n : Nat} {a : Nat × Cf} (h : Ro F n a) : Go.Fl.pvt a.2 n = a.1 := pvt_uniq (Nat.le_of_lt h.bd) h.lo fun _ => by rw [h.one]; exact Nat.one_ne_zero
theorem rs_clr {n : Nat} {D : List (List Nat)} {L : List (Nat × Cf)} {w : List Nat} (hL : RedL F n L) (hp : (prs n D).Perm L) (hl : ∀ r ∈ D, r.length = n) (hw : Vn F n w) : fn (rsV F n D w) = clr F L (fn w) := by
 rw [← clr_fold hF hL.pw (fun a ha => (hL.ro a ha).el) (hw.fn hF), ← fold_perm hF hp (fun a ha b hb => RedL.zero hF hL a (hp.mem_iff.1 ha) b (hp.mem_iff.1 hb)) (hw.fn hF)]
 clear hp
 unfold rsV prs
 induction D generalizing w with
 | nil => rfl
 | cons r D ih =>
  show fn (D.foldl (clV F n) (clV F n w r)) = _
  rw [ih (fun x hx => hl x (by simp [hx])) (clV_vn hF hw), clV_fn hF hw.len (hl r (by simp))]
  rfl
theorem rdS_ok {n : Nat} {D : List (List Nat)} {L : List (Nat × Cf)} {r : List Nat} (hL : RedL F n L) (hp : (prs n D).Perm L) (hD : Mn F n D) (hr : Vn F n r) : (prs n (rdS F n D r)).Perm (putL F n L (fn r)) ∧ Mn F n (rdS F n D r) := by
 have e := rs_clr hF hL hp (fun r hr => (hD r hr).len) hr
 have hx := rsV_vn (D := D) hF hr
 unfold rdS putL
 rw [e]
 by_cases hn : pvt (clr F L (fn r)) n = n
 ·rw [if_pos hn, if_pos hn]; exact ⟨hp, hD⟩
 ·rw [if_neg hn, if_neg hn]
  have hput := (putL_ok hF hL (hr.fn hF) hr.hi).1
  unfold putL at hput
  rw [if_neg hn] at hput
  obtain ⟨p, hpp⟩ : ∃ p, pvt (clr F L (fn r)) n = p := ⟨_, rfl⟩
  have hv : (rsV F n D r).getD p 0 = clr F L (fn r) p := by rw [← e]; rfl
  rw [hpp] at hput ⊢
  rw [hv]
  obtain ⟨y, hy⟩ : ∃ y, tiV F (F.inv (clr F L (fn r) p)) (rsV F n D r) = y := ⟨_, rfl⟩
  have hfy : fn y = ps F (F.inv (clr F L (fn r) p)) (clr F L (fn r)) := by rw [← hy, tiV_fn hF hx.len, e]
  have hvy : Vn F n y := by rw [← hy]; exact tiV_vn hF hx
  rw [hy]
  rw [← hfy] at hput ⊢
  obtain ⟨A, hA⟩ : ∃ A, L.takeWhile (fun a => decide (a.1 < p)) = A := ⟨_, rfl⟩
  obtain ⟨B, hB⟩ : ∃ B, L.dropWhile (fun a => decide (a.1 < p)) = B := ⟨_, rfl⟩
  have hAB : L = A ++ B := by rw [← hA, ← hB, List.takeWhile_append_dropWhile]
  rw [hA, hB] at hput ⊢
  have hpy : pvt (fn y) n = p := (hput.ro (p, fn y) (by simp)).pvt hF
  refine ⟨?_, fun x hx => ?_⟩
  ·have h1 : prs n (D.map (fun x => clV F n x y) ++ [y]) = (prs n D).map (off F p (fn y)) ++ [(p, fn y)] := by
    unfold prs
    rw [List.map_append, List.map_map, List.map_map, List.map_cons, List.map_nil, hpy]
    congr 1
    refine List.map_congr_left fun x hx => ?_
    have hm : (pvt (fn x) n, fn x) ∈ A ++ B := by rw [← hAB]; exact hp.mem_iff.1 (List.mem_map.2 ⟨x, hx, rfl⟩)
    have hro : Ro F n (off F p (fn y) (pvt (fn x) n, fn x)) := by
     refine hput.ro _ ?_
     rcases List.mem_append.1 hm with h | h
     ·exact List.mem_append_left _ (List.mem_map.2 ⟨_, h, rfl⟩)
     ·exact List.mem_append_right _ (List.mem_cons_of_mem _ (List.mem_map.2 ⟨_, h, rfl⟩))
    have hq := hro.pvt hF
    show (pvt (fn (clV F n x y)) n, fn (clV F n x y)) = off F p (fn y) (pvt (fn x) n, fn x)
    rw [clV_fn hF (hD x hx).len hvy.len, hpy]
    exact Prod.ext hq rfl
   rw [h1]
   refine ((hp.map _).append_right _).trans ?_
   rw [hAB, List.map_append, List.append_assoc]
   refine List.Perm.append_left _ ?_
   exact List.perm_append_comm
  ·rcases List.mem_append.1 hx with h | h
   ·obtain ⟨z, hz, rfl⟩ := List.mem_map.1 h; exact clV_vn hF (hD z hz)
   ·rw [List.mem_singleton] at h; rw [h]; exact hvy
theorem rdD_ok {n : Nat} : ∀ {S : List (List Nat)}, Mn F n S → ∀ k, k ≤ S.length → (prs n (rdD F n (S.take k))).Perm (redL F n ((S.take k).map Go.Fl.fn)) ∧ Mn F n (rdD F n (S.take k))
 | S, hS, 0, _ => ⟨by simp [rdD, redL, prs], fun r hr => by simp [rdD] at hr⟩
 | S, hS, k + 1, hk => by
  obtain ⟨h1, h2⟩ := rdD_ok hS k (by omega)
  have hT : Mn F n (S.take k) := fun r hr => hS r (List.mem_of_mem_take hr)
  have hL := (redL_ok hF (Mn.vs hF hT)).1
  have := rdS_ok hF hL h1 h2 (hS (S[k]) (List.getElem_mem _))
  rw [List.take_succ_eq_append_getElem (by omega)]
  unfold rdD redL at this ⊢
  rw [List.foldl_append, List.map_append, List.foldl_append]
  exact this
omit hF in
theorem rdD_succ {n : Nat} {S : List (List Nat)} {k : Nat} (hk : k < S.length) : rdD F n (S.take (k + 1)) = rdS F n (rdD F n (S.take k)) (S.getD k []) := by
 rw [List.take_succ_eq_append_getElem hk, List.getD_eq_getElem?_getD, List.getElem?_eq_getElem hk]
 unfold rdD; rw [List.foldl_append]; rfl
/-- REDUCED -/
theorem io_red {n : Nat} {S : List (List Nat)} (hS : Mn F n S) : ioK n (rdD F n S) n = redM F n S := by
 obtain ⟨h1, h2⟩ := rdD_ok hF hS S.length (Nat.le_refl _)
 rw [List.take_length] at h1 h2
 exact io_eq (redL_ok hF (Mn.vs hF hS)).1 h1 fun r hr => (h2 r hr).len
theorem rdD_len {n : Nat} {S : List (List Nat)} (hS : Mn F n S) {k : Nat} (hk : k ≤ S.length) : (rdD F n (S.take k)).length ≤ k := by
 obtain ⟨h1, h2⟩ := rdD_ok hF hS k hk
 have := h1.length_eq
 have hT : Mn F n (S.take k) := fun r hr => hS r (List.mem_of_mem_take hr)
 have h3 := (redL_ok hF (Mn.vs hF hT)).2.2
 rw [List.length_map, List.length_take] at h3
 unfold prs at this
 rw [List.length_map] at this
 omega
end Go.Fl

/- Kernels, ranks: what is said of lists of numbers. -/
namespace Go.Fl
set_option linter.unusedVariables false
set_option linter.unusedSectionVars false
variable {F : Gf} (hF : Ok F)
include hF
theorem ker_iff {n : Nat} {A : List (List Nat)} {V : List Nat} (hA : Mn F n A) (hV : Vn F n V) : Sp F ((kerM F n A).map Go.Fl.fn) (Go.Fl.fn V) ↔ ∀ r ∈ A, dt F n (Go.Fl.fn r) (Go.Fl.fn V) = 0 := by
 obtain ⟨hL, hs, -⟩ := redL_ok hF (hA.vs hF)
 have hv := hV.fn hF
 rw [(kerM_ok hF hA).2, (kerL_ok hF hL).2.1]
 have eA := (hA.vs hF).els
 constructor
 ·rintro ⟨-, -, h⟩ r hr
  have h1 := (hs _).2 (Sp.mem hF eA (List.mem_map.2 ⟨r, hr, rfl⟩ : Go.Fl.fn r ∈ A.map Go.Fl.fn))
  exact dt_sp hF hv hL.red.el (fun x hx => by obtain ⟨a, ha, rfl⟩ := List.mem_map.1 hx; exact h a ha) h1
 ·intro h
  refine ⟨hv, hV.hi, fun a ha => ?_⟩
  have h1 := (hs _).1 (Sp.mem hF hL.red.el (List.mem_map.2 ⟨a, ha, rfl⟩ : a.2 ∈ (redL F n (A.map Go.Fl.fn)).map Prod.snd))
  exact dt_sp hF hv eA (fun x hx => by obtain ⟨r, hr, rfl⟩ := List.mem_map.1 hx; exact h r hr) h1
theorem rank_null {n : Nat} {A : List (List Nat)} (hA : Mn F n A) : (kerM F n A).length + (redM F n A).length = n := by
 obtain ⟨hL, -, -⟩ := redL_ok hF (hA.vs hF)
 have := (kerL_ok hF hL).2.2
 unfold kerM redM
 rw [List.length_map, List.length_map]; exact this
theorem kerM_red {n : Nat} {A : List (List Nat)} (hA : Mn F n A) : Red F n ((kerL F n (redL F n (A.map Go.Fl.fn))).map Prod.fst) ((kerM F n A).map Go.Fl.fn) := by
 obtain ⟨hL, -, -⟩ := redL_ok hF (hA.vs hF)
 rw [(kerM_ok hF hA).2]; exact (kerL_ok hF hL).1.red
theorem redM_red {n : Nat} {A : List (List Nat)} (hA : Mn F n A) : Red F n (pivM F n A) ((redM F n A).map Go.Fl.fn) := by
 obtain ⟨-, hL, e⟩ := redM_ok hF hA
 rw [e]; exact hL.red
theorem redL_self {n : Nat} {L : List (Nat × Cf)} (h : RedL F n L) : redL F n (L.map Prod.snd) = L := by
 obtain ⟨h1, h2, -⟩ := redL_ok hF (RedL.vs hF h)
 exact RedL.ext hF h1 h h2
theorem kerM_kerM {n : Nat} {A : List (List Nat)} (hA : Mn F n A) : kerM F n (kerM F n A) = redM F n A := by
 obtain ⟨hL, -, -⟩ := redL_ok hF (hA.vs hF)
 have e := (kerM_ok hF hA).2
 unfold redM
 rw [show kerM F n (kerM F n A) = (kerL F n (redL F n ((kerM F n A).map Go.Fl.fn))).map fun a => toV n a.2 from rfl, e, redL_self hF (kerL_ok hF hL).1, kerL_kerL hF hL]
end Go.Fl
