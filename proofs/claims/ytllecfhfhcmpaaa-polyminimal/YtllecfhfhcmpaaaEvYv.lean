/- Polynomials: common divisors of multiples; exact division. -/
import Derived.Test.YtllecfhfhcmpaaaEvYs
import Derived.Test.YtllecfhfhcmpaaaEvYu
namespace Go.Fl
set_option linter.unusedVariables false
set_option linter.unusedSectionVars false

variable {F : Gf}
section
variable (hF : Ok F)
include hF
theorem gcd_mul {C : List Nat} (hC : Po F C) (c0 : C ≠ []) : ∀ (n : Nat) (A B : List Nat), Po F A → Po F B → B.length ≤ n → ∃ G, Po F G ∧ (∀ d, Po F d → (Dv F d G ↔ Dv F d A ∧ Dv F d B)) ∧ (∀ d, Po F d → (Dv F d (mulP F G C) ↔ Dv F d (mulP F A C) ∧ Dv F d (mulP F B C))) := by
 have hnil : ∀ A, Po F A → ∃ G, Po F G ∧ (∀ d, Po F d → (Dv F d G ↔ Dv F d A ∧ Dv F d [])) ∧ (∀ d, Po F d → (Dv F d (mulP F G C) ↔ Dv F d (mulP F A C) ∧ Dv F d (mulP F [] C))) := fun A hA =>
  ⟨A, hA, fun d _ => ⟨fun h => ⟨h, dv_nil hF d⟩, fun h => h.1⟩, fun d _ => ⟨fun h => ⟨h, dv_nil hF d⟩, fun h => h.1⟩⟩
 intro n
 induction n with
 | zero =>
  intro A B hA hB hl
  obtain rfl : B = [] := List.length_eq_zero_iff.1 (by omega)
  exact hnil A hA
 | succ n ih =>
  intro A B hA hB hl
  by_cases hb : B = []
  ·subst hb; exact hnil A hA
  ·obtain ⟨Q, R, hd⟩ := DM.exists hF hA hB hb
   have hlR := hd.len
   obtain ⟨G, hG, h1, h2⟩ := ih B R hB hd.r (by omega)
   have hP := mulP_po hF
   have e0 : mulP F A C = addP F (mulP F Q (mulP F B C)) (mulP F R C) := by
    rw [← mulP_assoc hF hd.q.el hB.el hC.el, ← mulP_addP hF (hP _ _).el hd.r.el hC.el, ← fn_DM hF hA hB.el hd]
   have pc := List.length_pos_iff.2 c0
   have pb := List.length_pos_iff.2 hb
   have hl2 : (mulP F R C).length < (mulP F B C).length := by
    rw [mulP_len hF hB hC hb c0]
    by_cases hr : R = []
    ·have e : (mulP F R C).length = 0 := by rw [hr]; rfl
     omega
    ·rw [mulP_len hF hd.r hC hr c0]; have := List.length_pos_iff.2 hr; omega
   have hd2 : DM F (mulP F A C) (mulP F B C) Q (mulP F R C) := by rw [e0]; exact DM.of hF hd.q (hP _ _) (hP _ _) hl2
   refine ⟨G, hG, fun d p => ?_, fun d p => ?_⟩
   ·rw [h1 d p]; exact GR.step hF hA hB (GR.refl F A B) hd d p
   ·rw [h2 d p]; exact GR.step hF (hP _ _) (hP _ _) (GR.refl F _ _) hd2 d p
theorem get_last {l : List Nat} {x : Nat} (h : l.getLast? = some x) : l.getD (l.length - 1) 0 = x := by
 rw [List.getD_eq_getElem?_getD, ← List.getLast?_eq_getElem?, h]; rfl
theorem IsGcd.mul {A B G C : List Nat} (hA : Po F A) (hB : Po F B) (h : IsGcd F A B G) (hC : Po F C) (c1 : C.getLast? = some 1) : IsGcd F (mulP F A C) (mulP F B C) (mulP F G C) := by
 have c0 : C ≠ [] := by rintro rfl; simp at c1
 obtain ⟨G', hG', h1, h2⟩ := gcd_mul hF hC c0 _ A B hA hB (Nat.le_refl _)
 have d1 : Dv F G G' := (h1 G h.po).2 ((h.dv G h.po).1 (dv_refl hF h.po))
 have d2 : Dv F G' G := (h.dv G' hG').2 ((h1 G' hG').1 (dv_refl hF hG'))
 have m : ∀ {X Y : List Nat}, Po F X → Dv F X Y → Dv F (mulP F X C) (mulP F Y C) := by
  rintro X Y hX ⟨c, hc, rfl⟩
  exact ⟨c, hc, mulP_assoc hF hc.el hX.el hC.el⟩
 refine ⟨mulP_po hF _ _, ?_, fun d p => ?_⟩
 ·rcases h.mo with rfl | hm
  ·exact .inl rfl
  ·right
   have g0 : G ≠ [] := by rintro rfl; simp at hm
   have ht := mulP_top hF h.po hC g0 c0
   have hl := mulP_len hF h.po hC g0 c0
   have pc := List.length_pos_iff.2 c0
   have pg := List.length_pos_iff.2 g0
   refine last_get hF (mulP_ne hF h.po hC g0 c0) ?_
   have e : (mulP F G C).length - 1 = G.length - 1 + (C.length - 1) := by omega
   rw [e]
   refine ht.trans ?_
   rw [get_last hF hm, get_last hF c1]
   exact hF.mul_one hF.one_lt
 ·rw [← h2 d p]
  exact ⟨fun hh => dv_trans hF p hh (m h.po d1), fun hh => dv_trans hF p hh (m hG' d2)⟩
theorem dm_exact {A g : List Nat} (hA : Po F A) (hg : Po F g) (g0 : g ≠ []) (h : Dv F g A) : ∃ Q, DM F A g Q [] := by
 obtain ⟨c, hc, rfl⟩ := h
 refine ⟨c, ?_⟩
 have := DM.of hF hc hg (Po.nil (F := F)) (List.length_pos_iff.2 g0)
 rwa [addP_nil hF (mulP_po hF _ _)] at this
theorem IsGcd.symm {A B G : List Nat} (h : IsGcd F A B G) : IsGcd F B A G := ⟨h.po, h.mo, fun d p => (h.dv d p).trans And.comm⟩
theorem IsGcd.zero {G : List Nat} (h : IsGcd F [] [] G) : G = [] := by
 obtain ⟨c, -, e⟩ := (h.dv [] Po.nil).2 ⟨dv_nil hF _, dv_nil hF _⟩
 rw [e, mulP_nil hF]
theorem IsGcd.ne {A B G : List Nat} (h : IsGcd F A B G) (n : ¬ (A = [] ∧ B = [])) : G ≠ [] := fun e => n (by
 obtain ⟨⟨c, -, h1⟩, ⟨c', -, h2⟩⟩ := (h.dv G h.po).1 (dv_refl hF h.po)
 rw [h1, h2, e, mulP_nil hF, mulP_nil hF]; exact ⟨rfl, rfl⟩)
theorem gcd_exists {A B : List Nat} (hA : Po F A) (hB : Po F B) : ∃ G, IsGcd F A B G := by
 obtain ⟨G, hG, h1, -⟩ := gcd_mul hF (po_one hF 1 hF.one_lt (by decide)) (by simp) _ A B hA hB (Nat.le_refl _)
 exact ⟨_, GR.fin hF hG fun d p => ⟨fun h => (h1 d p).1 h.1, fun h => ⟨(h1 d p).2 h, dv_nil hF d⟩⟩⟩
theorem dv_len {d a : List Nat} (hd : Po F d) (h : Dv F d a) (a0 : a ≠ []) : d.length ≤ a.length := by
 obtain ⟨c, hc, rfl⟩ := h
 have c0 : c ≠ [] := by rintro rfl; exact a0 rfl
 have d0 : d ≠ [] := by rintro rfl; exact a0 (mulP_nil hF c)
 rw [mulP_len hF hc hd c0 d0]
 have := List.length_pos_iff.2 c0
 omega
theorem IsGcd.len {A B G : List Nat} {n : Nat} (h : IsGcd F A B G) (hA : A.length ≤ n) (hB : B.length ≤ n) : G.length ≤ n := by
 obtain ⟨h1, h2⟩ := (h.dv G h.po).1 (dv_refl hF h.po)
 by_cases a0 : A = []
 ·by_cases b0 : B = []
  ·subst a0 b0
   rw [h.zero hF]; exact Nat.zero_le _
  ·exact Nat.le_trans (dv_len hF h.po h2 b0) hB
 ·exact Nat.le_trans (dv_len hF h.po h1 a0) hA
end
end Go.Fl
