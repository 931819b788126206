/- How far words are apart. -/
import Derived.Test.YtdafhhojiioifaaEe
namespace Go.Proofs.Ytdafhhojiioifaa
open Go.RowKit Go.Fl
set_option maxRecDepth 100000
set_option linter.unusedVariables false
set_option linter.unusedSimpArgs false
set_option linter.unusedSectionVars false

theorem sum_add (f g : Nat → Nat) : ∀ l : List Nat, (l.map fun t => f t + g t).sum = (l.map f).sum + (l.map g).sum
 | [] => rfl
 | a :: l => by simp only [List.map_cons, List.sum_cons, sum_add f g l]; omega
theorem sum_ind (x : Nat) : ∀ n, ((List.range n).map fun t => if x = t then 1 else 0).sum = if x < n then 1 else 0
 | 0 => by simp
 | n + 1 => by
  rw [List.range_succ, List.map_append, List.sum_append, sum_ind x n]
  simp only [List.map_cons, List.map_nil, List.sum_cons, List.sum_nil]
  by_cases h : x = n
  ·rw [if_pos h, if_neg (by omega), if_pos (by omega)]; rfl
  ·rw [if_neg h]
   by_cases h2 : x < n
   ·rw [if_pos h2, if_pos (by omega)]; rfl
   ·rw [if_neg h2, if_neg (by omega)]; rfl
theorem sum_z : ∀ l : List Nat, (l.map fun _ => 0).sum = 0
 | [] => rfl
 | a :: l => by simp only [List.map_cons, List.sum_cons, sum_z l]
theorem cw_sum {n : Nat} : ∀ {l : List (List Nat)}, (∀ w ∈ l, wtV w ≤ n) → (cwL n l).sum = l.length
 | [], _ => by unfold cwL; exact sum_z _
 | w :: l, h => by
  have ih := cw_sum (n := n) (l := l) fun x hx => h x (by simp [hx])
  unfold cwL at ih ⊢
  have e : ((List.range (n + 1)).map fun t => (w :: l).countP fun x => wtV x == t) = (List.range (n + 1)).map fun t => (l.countP fun x => wtV x == t) + if wtV w = t then 1 else 0 := List.map_congr_left fun t _ => by
   rw [List.countP_cons]
   by_cases k : wtV w = t
   ·rw [if_pos k, if_pos (by simpa using k)]
   ·rw [if_neg k, if_neg (by simpa using k)]
  rw [e, sum_add, ih, sum_ind, if_pos (by have := h w (by simp); omega)]; rfl
theorem countP_uniq {α : Type} {p : α → Bool} {x : α} : ∀ {l : List α}, l.Nodup → x ∈ l → (∀ y ∈ l, p y = true ↔ y = x) → l.countP p = 1
 | [], _, hx, _ => by simp at hx
 | a :: l, hn, hx, hp => by
  rw [List.nodup_cons] at hn
  rw [List.countP_cons]
  by_cases e : a = x
  ·rw [if_pos ((hp a (by simp)).2 e)]
   have : l.countP p = 0 := List.countP_eq_zero.2 fun y hy hpy => hn.1 (by have := (hp y (by simp [hy])).1 hpy; rw [e, ← this]; exact hy)
   omega
  ·rw [if_neg (fun h => e ((hp a (by simp)).1 h))]
   rcases List.mem_cons.1 hx with h | h
   ·exact absurd h.symm e
   ·have := countP_uniq hn.2 h fun y hy => hp y (by simp [hy]); omega
theorem wtV_range (L : List Nat) : wtV L = (List.range L.length).countP fun j => L.getD j 0 != 0 := by
 have e : L = (List.range L.length).map fun j => L.getD j 0 := List.ext_getElem (by simp) fun i h1 h2 => by
  rw [List.getElem_map, List.getElem_range, List.getD_eq_getElem?_getD, List.getElem?_eq_getElem h1]; rfl
 conv => lhs; rw [e]
 unfold wtV
 rw [List.countP_map]; rfl
/-- the difference of two words -/
def dfV (F : Gf) (V X : List Nat) : List Nat := plV F V (tiV F (F.neg 1) X)
section
variable {F : Gf} (hF : Ok F) {n : Nat} {V X : List Nat} (hV : Vn F n V) (hX : Vn F n X)
include hF hV hX
omit hX in
theorem dfV_vn : Vn F n (dfV F V X) := plV_vn hF hV
theorem df_at (j : Nat) : (dfV F V X).getD j 0 = F.add (V.getD j 0) (F.neg (X.getD j 0)) := by
 have h := vn_lt hF hX j
 unfold dfV
 rw [wd_at hF hV.len hX.len, Ok.mul_comm, mul_neg hF (by have := hF.q2; omega), hF.mul_one h]
theorem df_zero (j : Nat) : (dfV F V X).getD j 0 = 0 ↔ V.getD j 0 = X.getD j 0 := by
 have h1 := vn_lt hF hV j
 have h2 := vn_lt hF hX j
 rw [df_at hF hV hX]
 constructor
 ·intro e
  have h3 : F.add (F.add (V.getD j 0) (F.neg (X.getD j 0))) (X.getD j 0) = V.getD j 0 := by
   rw [hF.add_assoc, Ok.add_comm (F.neg (X.getD j 0)), hF.add_neg, hF.add_zero h1]
  rw [e, Ok.add_comm, hF.add_zero h2] at h3
  exact h3.symm
 ·intro e
  rw [e, hF.add_neg]
theorem apK_df : apK V X n = wtV (dfV F V X) := by
 rw [wtV_range, (dfV_vn hF hV (X := X)).len]
 unfold apK
 refine List.countP_congr fun j _ => ?_
 have h := df_zero hF hV hX j
 simp only [bne_iff_ne, ne_eq, h]
theorem df_df : dfV F V (dfV F V X) = X := by
 have hd := dfV_vn hF hV (X := X)
 refine list_ext (by rw [(dfV_vn hF hV (X := dfV F V X)).len, hX.len]) fun j _ => ?_
 have h1 := vn_lt hF hV j
 have h2 := vn_lt hF hX j
 rw [df_at hF hV hd, df_at hF hV hX]
 have e : F.add (F.add (V.getD j 0) (F.neg (X.getD j 0))) (F.neg (F.add (V.getD j 0) (F.neg (X.getD j 0)))) = 0 := hF.add_neg _
 obtain ⟨d, hd2⟩ : ∃ d, d = F.neg (F.add (V.getD j 0) (F.neg (X.getD j 0))) := ⟨_, rfl⟩
 have hdl : d < F.q := by rw [hd2]; exact hF.neg_lt _
 rw [← hd2] at e ⊢
 have e2 : F.add (F.add (V.getD j 0) d) (F.neg (X.getD j 0)) = 0 := by
  rw [hF.add_assoc, Ok.add_comm d, ← hF.add_assoc]; exact e
 have e3 : F.add (F.add (F.add (V.getD j 0) d) (F.neg (X.getD j 0))) (X.getD j 0) = F.add (V.getD j 0) d := by
  rw [hF.add_assoc, Ok.add_comm (F.neg (X.getD j 0)), hF.add_neg, hF.add_zero (hF.add_lt _ _)]
 rw [e2, Ok.add_comm, hF.add_zero h2] at e3
 exact e3.symm
end
section
variable {F : Gf} {n m : Nat} {G : List (List Nat)} {L : List (Nat × Cf)} (h : VC F n m G L)
include h
theorem VC.wVn {w : List Nat} (hw : w ∈ wdK F n G m) : Vn F n w := wdK_mn h.ok m w hw
theorem VC.dfIn {a x : List Nat} (ha : a ∈ wdK F n G m) (hx : x ∈ wdK F n G m) : dfV F a x ∈ wdK F n G m := by
 have va := h.wVn ha
 have vx := h.wVn hx
 rw [h.memIff (dfV_vn h.ok va)]
 unfold dfV
 rw [plV_fn h.ok va.len (by rw [tiV_len, vx.len]), tiV_fn h.ok vx.len]
 exact Sp.add h.ok h.els ((h.memIff va).1 ha) (Sp.smul h.ok h.els (h.ok.neg_lt _) ((h.memIff vx).1 hx))
theorem VC.dfPerm {a : List Nat} (ha : a ∈ wdK F n G m) : ((wdK F n G m).map (dfV F a)).Perm (wdK F n G m) := by
 have va := h.wVn ha
 have hn : ((wdK F n G m).map (dfV F a)).Nodup := List.pairwise_map.2 (h.nodup.imp_of_mem fun {x y} hx hy hne e => hne (by rw [← df_df h.ok va (h.wVn hx), e, df_df h.ok va (h.wVn hy)]))
 refine (List.perm_ext_iff_of_nodup hn h.nodup).2 fun x => ⟨fun hx => ?_, fun hx => ?_⟩
 ·obtain ⟨y, hy, rfl⟩ := List.mem_map.1 hx
  exact h.dfIn ha hy
 ·exact List.mem_map.2 ⟨_, h.dfIn ha hx, df_df h.ok va (h.wVn hx)⟩
theorem VC.near {a : List Nat} (ha : a ∈ wdK F n G m) (d : Nat) : ((wdK F n G m).countP fun x => apK a x n == d) = (wdK F n G m).countP fun x => wtV x == d := by
 have va := h.wVn ha
 rw [← (h.dfPerm ha).countP_eq, List.countP_map]
 refine List.countP_congr fun x hx => ?_
 show (apK a (dfV F a x) n == d) = true ↔ _
 rw [apK_df h.ok va (dfV_vn h.ok va), df_df h.ok va (h.wVn hx)]
theorem VC.wtLe {w : List Nat} (hw : w ∈ wdK F n G m) : wtV w ≤ n := by
 have := wtV_le w
 rw [(h.wVn hw).len] at this; exact this
theorem VC.one0 : ((wdK F n G m).countP fun x => wtV x == 0) = 1 := by
 have vz : Vn F n (List.replicate n 0) := rep_vn h.ok n
 have e : fn (List.replicate n 0) = pz := (wtV_pz (n := n) (by simp)).1 (wtV_zero.2 fun x hx => List.eq_of_mem_replicate hx)
 have hz : List.replicate n 0 ∈ wdK F n G m := (h.memIff vz).2 (by rw [e]; exact Sp.zero h.ok _)
 refine countP_uniq h.nodup hz fun y hy => ?_
 rw [beq_iff_eq, wtV_pz (h.wVn hy).len]
 constructor
 ·intro k
  exact fn_inj (by rw [(h.wVn hy).len, List.length_replicate]) (k.trans e.symm)
 ·intro k
  rw [k]; exact e
theorem VC.cwSum : (cwL n (wdK F n G m)).sum = (wdK F n G m).length := cw_sum fun w hw => h.wtLe hw
theorem VC.cw0 : (cwL n (wdK F n G m)).getD 0 0 = 1 := by rw [cwL_get _ (by omega)]; exact h.one0
theorem VC.dsNone (hz : ∀ j, 1 ≤ j → j ≤ n → (cwL n (wdK F n G m)).getD j 0 = 0) : (wdK F n G m).length = 1 := by
 have h1 : ((wdK F n G m).countP fun x => wtV x == 0) = (wdK F n G m).length := List.countP_eq_length.2 fun w hw => by
  have hn := h.wtLe hw
  by_cases e : wtV w = 0
  ·simpa using e
  ·have h2 := hz (wtV w) (by omega) hn
   rw [cwL_get _ (by omega)] at h2
   exact absurd (beq_self_eq_true (wtV w)) (List.countP_eq_zero.1 h2 w hw)
 rw [← h1]; exact h.one0
theorem VC.dsSome {d : Nat} (hd : 1 ≤ d) (hd2 : d ≤ n) (hc : (cwL n (wdK F n G m)).getD d 0 ≠ 0) : (wdK F n G m).length ≠ 1 := by
 rw [cwL_get _ (by omega)] at hc
 intro e
 have h1 := h.one0
 rw [← e] at h1
 refine hc (List.countP_eq_zero.2 fun w hw k => ?_)
 have h2 := (List.countP_eq_length.1 h1) w hw
 have h3 : wtV w = 0 := by simpa using h2
 have h4 : wtV w = d := by simpa using k
 omega
theorem VC.dsMin {a x : List Nat} {d : Nat} (ha : a ∈ wdK F n G m) (hx : x ∈ wdK F n G m) (hz : ∀ j, 1 ≤ j → j < d → (cwL n (wdK F n G m)).getD j 0 = 0) (h0 : apK a x n ≠ 0) : d ≤ apK a x n := by
 refine Classical.byContradiction fun hlt => ?_
 have e := apK_df h.ok (h.wVn ha) (h.wVn hx)
 have hm := h.dfIn ha hx
 have hn := h.wtLe hm
 have h2 := hz (apK a x n) (by omega) (by omega)
 rw [cwL_get _ (by rw [e]; omega)] at h2
 exact List.countP_eq_zero.1 h2 _ hm (by rw [e]; simp)
end
theorem take_sum {C : List Nat} {k : Nat} (hk : k < C.length) : (C.take (k + 1)).sum = (C.take k).sum + C.getD k 0 := by
 rw [List.take_succ_eq_append_getElem hk, List.sum_append, List.getD_eq_getElem?_getD, List.getElem?_eq_getElem hk]; simp
theorem take_sum_le (C : List Nat) (k : Nat) : (C.take k).sum ≤ C.sum := by
 conv => rhs; rw [← List.take_append_drop k C, List.sum_append]
 omega
theorem take_cnt {α : Type} {p : α → Bool} {l : List α} {d : α} {k : Nat} (hk : k < l.length) : (l.take (k + 1)).countP p = (l.take k).countP p + if p (l.getD k d) = true then 1 else 0 := by
 rw [List.take_succ_eq_append_getElem hk, List.countP_append, List.countP_cons, List.countP_nil, List.getD_eq_getElem?_getD, List.getElem?_eq_getElem hk]; simp

end Go.Proofs.Ytdafhhojiioifaa
