/- Numbers of words. -/
import Derived.Test.YtdafhhojiioifaaEe
namespace Go.Proofs.Ytdafhhojiioifaa
open Go.RowKit Go.Fl
set_option maxRecDepth 100000
set_option linter.unusedVariables false
set_option linter.unusedSimpArgs false
set_option linter.unusedSectionVars false

/-- the number that a message is -/
def atJ (q : Nat) (M : List Nat) : Nat → Nat
 | 0 => 0
 | k + 1 => atJ q M k * q + M.getD k 0
def atP (q n : Nat) (G : List (List Nat)) (w : List Nat) : Nat → Nat
 | 0 => 0
 | k + 1 => atP q n G w k * q + w.getD (pvA n G k) 0
theorem atJ_lt {q : Nat} {M : List Nat} (hM : ∀ k, M.getD k 0 < q) : ∀ k, atJ q M k < q ^ k
 | 0 => by show 0 < 1; omega
 | k + 1 => by
  have h1 := atJ_lt hM k
  have h2 := hM k
  show atJ q M k * q + M.getD k 0 < q ^ (k + 1)
  rw [Nat.pow_succ]
  have h3 : (atJ q M k + 1) * q ≤ q ^ k * q := Nat.mul_le_mul_right q h1
  rw [Nat.add_mul] at h3
  omega
section
variable {F : Gf} {n m : Nat} {G : List (List Nat)} {L : List (Nat × Cf)} (h : VC F n m G L)
include h
theorem VC.mgAt {V : List Nat} {t : Nat} (ht : t < m) : (mgK n G V m).getD t 0 = V.getD (pvA n G t) 0 := by
 have ht' : t < G.length := by rw [h.gc.len]; exact ht
 unfold mgK pvA
 rw [List.getD_eq_getElem?_getD, List.getElem?_map, List.getElem?_take_of_lt ht, List.getElem?_eq_getElem ht', List.getD_eq_getElem?_getD (l := G), List.getElem?_eq_getElem ht']; rfl
theorem VC.atJP {V : List Nat} : ∀ k, k ≤ m → atJ F.q (mgK n G V m) k = atP F.q n G V k
 | 0, _ => rfl
 | k + 1, hk => by
  show atJ F.q (mgK n G V m) k * F.q + _ = atP F.q n G V k * F.q + _
  rw [VC.atJP k (by omega), h.mgAt (by omega)]
theorem VC.atPl {v : List Nat} (hv : Vn F n v) {k a : Nat} (hk : k < m) : ∀ t, t ≤ k → atP F.q n G (plV F v (tiV F a (G.getD k []))) t = atP F.q n G v t
 | 0, _ => rfl
 | t + 1, ht => by
  show atP F.q n G (plV F v (tiV F a (G.getD k []))) t * F.q + _ = atP F.q n G v t * F.q + _
  rw [VC.atPl hv hk t (by omega), wd_at h.ok hv.len (h.rowVn hk).len, h.rowOff hk (by omega) (by omega), Ok.mul_z, h.ok.add_zero (vn_lt h.ok hv _)]
/-- the number of a word is that of its message -/
theorem VC.digits : ∀ k, k ≤ m → ∀ x, x < F.q ^ k → atP F.q n G ((wdK F n G k).getD x []) k = x
 | 0, _, x, hx => by
  have : x = 0 := by have h1 : F.q ^ 0 = 1 := rfl; omega
  subst this; rfl
 | k + 1, hk, x, hx => by
  have hq : 0 < F.q := by have := h.q2; omega
  have hxl : x < (wdK F n G k).length * F.q := by rw [wdK_len, ← Nat.pow_succ]; exact hx
  have hxd : x / F.q < F.q ^ k := by rw [Nat.div_lt_iff_lt_mul hq, ← Nat.pow_succ]; exact hx
  have e := flat_at (f := fun w => (muK F (G.getD k []) F.q).map fun m => plV F w m) (q := F.q) (fun a => by rw [List.length_map, muK_len]) hq [] [] (wdK F n G k) x hxl
  have e2 : (wdK F n G (k + 1)).getD x [] = plV F ((wdK F n G k).getD (x / F.q) []) (tiV F (x % F.q) (G.getD k [])) := by
   refine e.trans ?_
   have hm := Nat.mod_lt x hq
   rw [List.getD_eq_getElem?_getD, List.getElem?_map]
   have e3 := muK_at (F := F) (X := G.getD k []) hm
   rw [List.getD_eq_getElem?_getD, List.getElem?_eq_getElem (by rw [muK_len]; exact hm)] at e3
   rw [List.getElem?_eq_getElem (by rw [muK_len]; exact hm)]
   show plV F _ ((muK F (G.getD k []) F.q)[x % F.q]'_) = _
   rw [show (muK F (G.getD k []) F.q)[x % F.q]'(by rw [muK_len]; exact hm) = tiV F (x % F.q) (G.getD k []) from e3]
  have hmem : (wdK F n G k).getD (x / F.q) [] ∈ wdK F n G k := getD_mem (by rw [wdK_len]; exact hxd)
  have hv := wdK_mn h.ok (n := n) (G := G) k _ hmem
  rw [e2]
  show atP F.q n G _ k * F.q + _ = x
  rw [h.atPl hv (by omega) k (Nat.le_refl _), VC.digits k (by omega) _ hxd, wd_at h.ok hv.len (h.rowVn (by omega)).len, h.rowOne (by omega), h.wdZ (by omega) hmem (Nat.le_refl _) (by omega), h.ok.mul_one (Nat.mod_lt x hq), Ok.add_comm, h.ok.add_zero (Nat.mod_lt x hq)]
  have := Nat.div_add_mod x F.q
  rw [Nat.mul_comm]; exact this
theorem VC.msgNum {x : Nat} (hx : x < F.q ^ m) : atJ F.q (mgK n G ((wdK F n G m).getD x []) m) m = x := by
 rw [h.atJP m (Nat.le_refl _)]; exact h.digits m (Nat.le_refl _) x hx
/-- where a word is greater than the one in front of it -/
theorem VC.next {x : Nat} (hx : x + 1 < F.q ^ m) : ∃ p, p < n ∧ LTat p ((wdK F n G m).getD x []) ((wdK F n G m).getD (x + 1) []) := by
 have hl := wdK_len F n G m
 have hp := List.pairwise_iff_getElem.1 (h.lex m (Nat.le_refl _)) x (x + 1) (by omega) (by omega) (by omega)
 obtain ⟨t, ht, hlt⟩ := hp
 refine ⟨pvA n G t, h.pvLt ht, ?_⟩
 rw [List.getD_eq_getElem?_getD, List.getElem?_eq_getElem (by omega), List.getD_eq_getElem?_getD, List.getElem?_eq_getElem (by omega)]
 exact hlt
end

end Go.Proofs.Ytdafhhojiioifaa
