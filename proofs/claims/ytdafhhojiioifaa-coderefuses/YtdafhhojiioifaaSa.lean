/- Matrices as they lie; the small functions that only read. -/
import Derived.Test.YtdafhhojiioifaaBa
import Derived.Test.YtdafhhojiioifaaEvWi
namespace Go.Proofs.Ytdafhhojiioifaa
open Go.RowKit Go.Fl
set_option maxRecDepth 100000
set_option linter.unusedVariables false
set_option linter.unusedSimpArgs false
set_option linter.unusedSectionVars false
theorem NN.at {L : List Nat} {w : World} {a : Option Addr} {c : Nat} (h : NN L w (.slice a L.length c)) {k : Nat} (hk : k < L.length) : ∃ b o, a = some ⟨b, o, none⟩ ∧ w.cell? ⟨b, o + k, none⟩ = some (.int .i64 (L.getD k 0 : Nat)) := by
 rcases h with ⟨e, h⟩ | ⟨b', off', cap', h, g1, g2, g3⟩
 ·rw [e] at hk; simp at hk
 ·injection h with h1 h2 h3; exact ⟨b', off', h1, g3 k hk⟩
/-- a list of rows that reads as R -/
def MM (R : List (List Nat)) (w : World) (v : Value) : Prop := (R = [] ∧ v = .slice none 0 0) ∨ ∃ b off cap, v = .slice (some ⟨b, off, none⟩) R.length cap ∧ R.length ≤ cap ∧ b < w.heap.size ∧
 ∀ t, t < R.length → ∃ a c, w.cell? ⟨b, off + t, none⟩ = some (.slice a (R.getD t []).length c) ∧ NN (R.getD t []) w (.slice a (R.getD t []).length c)
theorem MM.below {R : List (List Nat)} {w w' : World} {v : Value} (h : MM R w v) (hb : Below w.heap.size w w') : MM R w' v := by
 rcases h with h | ⟨b, off, cap, h1, h2, h3, h4⟩
 ·exact .inl h
 ·refine .inr ⟨b, off, cap, h1, h2, Nat.lt_of_lt_of_le h3 hb.size, fun t ht => ?_⟩
  obtain ⟨a, c, g1, g2⟩ := h4 t ht
  exact ⟨a, c, (hb.cell h3).trans g1, g2.below hb⟩
theorem MM.at {R : List (List Nat)} {w : World} {a : Option Addr} {c : Nat} (h : MM R w (.slice a R.length c)) {k : Nat} (hk : k < R.length) : ∃ b o, a = some ⟨b, o, none⟩ ∧ ∃ a' c', w.cell? ⟨b, o + k, none⟩ = some (.slice a' (R.getD k []).length c') ∧ NN (R.getD k []) w (.slice a' (R.getD k []).length c') := by
 rcases h with ⟨e, h⟩ | ⟨b', off', cap', h, g1, g2, g3⟩
 ·rw [e] at hk; simp at hk
 ·injection h with h1 h2 h3; exact ⟨b', off', h1, g3 k hk⟩
theorem MM.shape {R : List (List Nat)} {w : World} {v : Value} (h : MM R w v) : ∃ a c, v = .slice a R.length c := by
 rcases h with ⟨rfl, h⟩ | ⟨b, off, cap, h, _⟩
 ·exact ⟨none, 0, h⟩
 ·exact ⟨_, _, h⟩
/-- all are 0 -/
def zV (L : List Nat) : Bool := L.all (· == 0)
theorem zV_no {L : List Nat} {k : Nat} (hk : k < L.length) (h : L.getD k 0 ≠ 0) : zV L = false := by
 unfold zV
 rw [List.all_eq_false]
 refine ⟨L[k], List.getElem_mem hk, ?_⟩
 rw [List.getD_eq_getElem?_getD, List.getElem?_eq_getElem hk] at h
 simpa using h
theorem zV_yes {L : List Nat} (h : ∀ j, j < L.length → L.getD j 0 = 0) : zV L = true := by
 unfold zV
 rw [List.all_eq_true]
 intro x hx
 obtain ⟨i, hi, rfl⟩ := List.getElem_of_mem hx
 have := h i hi
 rw [List.getD_eq_getElem?_getD, List.getElem?_eq_getElem hi] at this
 simpa using this
/-- the rows have elements of a field with q elements -/
def elM (q : Nat) (R : List (List Nat)) : Bool := R.all fun r => r.all fun x => decide (x < q)
theorem elM_no {q : Nat} {R : List (List Nat)} {t k : Nat} (ht : t < R.length) (hk : k < (R.getD t []).length) (h : ¬ (R.getD t []).getD k 0 < q) : elM q R = false := by
 unfold elM
 rw [List.all_eq_false]
 refine ⟨R[t], List.getElem_mem ht, ?_⟩
 have e : R.getD t [] = R[t] := by rw [List.getD_eq_getElem?_getD, List.getElem?_eq_getElem ht]; rfl
 rw [e] at hk h
 rw [Bool.not_eq_true, List.all_eq_false]
 refine ⟨R[t][k], List.getElem_mem hk, ?_⟩
 rw [List.getD_eq_getElem?_getD, List.getElem?_eq_getElem hk] at h
 simpa using h
theorem elM_yes {q : Nat} {R : List (List Nat)} (h : ∀ t, t < R.length → ∀ k, k < (R.getD t []).length → (R.getD t []).getD k 0 < q) : elM q R = true := by
 unfold elM
 rw [List.all_eq_true]
 intro r hr
 obtain ⟨t, ht, rfl⟩ := List.getElem_of_mem hr
 rw [List.all_eq_true]
 intro x hx
 obtain ⟨k, hk, rfl⟩ := List.getElem_of_mem hx
 have e : R.getD t [] = R[t] := by rw [List.getD_eq_getElem?_getD, List.getElem?_eq_getElem ht]; rfl
 have := h t ht k (by rw [e]; exact hk)
 rw [e, List.getD_eq_getElem?_getD, List.getElem?_eq_getElem hk] at this
 simpa using this
end Go.Proofs.Ytdafhhojiioifaa
