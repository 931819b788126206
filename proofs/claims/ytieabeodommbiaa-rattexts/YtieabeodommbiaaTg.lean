/- Reading fractions: Parse and ParseIn answer the same. -/
import Derived.Test.YtieabeodommbiaaTe
import Derived.Test.YtieabeodommbiaaTf
import Derived.Test.YtieabeodommbiaaNu
namespace Go.Proofs.Ytieabeodommbiaa
open Go.RowKit
set_option linter.unusedVariables false

theorem textT_eq (n : Int) (d : Nat) : textT n d = textL n d := rfl
/-- a text of a fraction -/
def psEx (l : List UInt8) : Prop := ∃ q : Rat, okQ q ∧ textL q.num q.den = l
open Classical in
noncomputable def psN (l : List UInt8) : Int := if h : psEx l then (Classical.choose h).num else 0
open Classical in
noncomputable def psD (l : List UInt8) : Int := if h : psEx l then ((Classical.choose h).den : Int) else 0
open Classical in
noncomputable def psE (l : List UInt8) : Int := if psEx l then 0 else 5
theorem ps_res (l : List UInt8) (n d : Int) (hA : ∀ q : Rat, okQ q → textL q.num q.den = l → n = q.num ∧ d = q.den) :
    Hid ((vldB n d = true ∧ textL n d.toNat = l ∧ psN l = n ∧ psD l = d ∧ psE l = 0) ∨ ((vldB n d = false ∨ (vldB n d = true ∧ textL n d.toNat ≠ l)) ∧ psN l = 0 ∧ psD l = 0 ∧ psE l = 5)) := by
  refine Lib.hid ?_
  by_cases h : psEx l
  · left
    obtain ⟨h1, h2⟩ := Classical.choose_spec h
    obtain ⟨e1, e2⟩ := hA _ h1 h2
    unfold psN psD psE
    rw [dif_pos h, dif_pos h, if_pos h]
    generalize Classical.choose h = q at *
    subst e1
    subst e2
    refine ⟨vld_own q h1, ?_, rfl, rfl, rfl⟩
    rw [Int.toNat_natCast]; exact h2
  · right
    unfold psN psD psE
    rw [dif_neg h, dif_neg h, if_neg h]
    refine ⟨?_, rfl, rfl, rfl⟩
    cases hv : vldB n d
    · exact .inl rfl
    · refine .inr ⟨rfl, fun ht => h ?_⟩
      have h0 : d ≠ 0 := by
        intro h0
        subst h0
        unfold vldB at hv
        simp at hv
      obtain ⟨k1, k2, k3⟩ := (vld_iff h0).1 hv
      refine ⟨_, k1, ?_⟩
      rw [k2]
      rw [← k3, Int.toNat_natCast] at ht
      rw [← ht]
/-- what a valid fraction's text is -/
theorem vld_text (n d : Int) (hv : vldB n d = true) (w : World) : Calls Try.prog 30 #[.agg #[.int .i64 n, .int .i64 d]] w fun e w' => e = .returned (strV (textL n d.toNat)) ∧ Below w.heap.size w w' := by
  have h0 : d ≠ 0 := by
    intro h0
    subst h0
    unfold vldB at hv
    simp at hv
  obtain ⟨k1, k2, k3⟩ := (vld_iff h0).1 hv
  have := text_q _ k1 w
  unfold frac at this
  rw [k2, k3] at this
  have e : (Rat.divInt n d).den = d.toNat := by omega
  rw [e] at this
  exact this
theorem vld_rtext (n d : Int) (hv : vldB n d = true) (w : World) : Calls Try.prog 31 #[.agg #[.int .i64 n, .int .i64 d]] w fun e w' => e = .returned (strV (textL n d.toNat)) ∧ Below w.heap.size w w' := by
  have h0 : d ≠ 0 := by
    intro h0
    subst h0
    unfold vldB at hv
    simp at hv
  obtain ⟨k1, k2, k3⟩ := (vld_iff h0).1 hv
  have := rtext_q _ k1 w
  unfold frac at this
  rw [k2, k3] at this
  have e : (Rat.divInt n d).den = d.toNat := by omega
  rw [e] at this
  exact this
theorem first_of {P : Nat → Prop} : ∀ n, (∃ j, j < n ∧ P j) → ∃ i, i < n ∧ P i ∧ ∀ j, j < i → ¬ P j
  | 0, ⟨j, h, _⟩ => by omega
  | n + 1, ⟨j, h, hp⟩ => by
    by_cases k : ∃ j, j < n ∧ P j
    · obtain ⟨i, h1, h2⟩ := first_of n k
      exact ⟨i, by omega, h2⟩
    · have : j = n := by
        rcases Nat.lt_succ_iff_lt_or_eq.1 h with h | h
        · exact absurd ⟨j, h, hp⟩ k
        · exact h
      subst this
      exact ⟨j, by omega, hp, fun i hi hpi => k ⟨i, hi, hpi⟩⟩
theorem below_drewn (w : World) (n : Nat) : Below w.heap.size w (w.drewN n) := nbelow_drewN (Below.refl _ _) n
theorem parse_c (l : List UInt8) (hl : l.length ≤ 1000) (W : World) : Calls Try.prog 60 #[strV l] W fun z W' => z = .returned (.tuple #[.agg #[.int .i64 (psN l), .int .i64 (psD l)], .int .i64 (psE l)]) ∧ Below W.heap.size W W' := by
  by_cases h : ∃ j, j < l.length ∧ l.getD j 0 = 47
  · obtain ⟨i, h1, h2, h3⟩ := first_of (P := fun j => l.getD j 0 = 47) _ h
    have hc : ∀ w : World, Calls Try.prog 72 #[strV l] w fun e w' => e = .returned (.tuple #[strV (l.take i), strV (l.drop (i + 1))]) ∧ Below w.heap.size w w' := fun w => (cutS_c l hl w).mono (by
      rintro e w' (⟨j, k1, k2, k3, k4, n, rfl⟩ | ⟨k1, k2⟩)
      · have : j = i := by
          rcases Nat.lt_trichotomy j i with hh | hh | hh
          · exact absurd k2 (h3 j hh)
          · exact hh
          · exact absurd h2 (k3 i hh)
        subst this
        exact ⟨k4, below_drewn w n⟩
      · exact absurd h2 (k1 i h1))
    have b1 := numF_bd (l.take i)
    have b2 := numF_bd (l.drop (i + 1))
    refine parse_w l _ _ (textL (numF (l.take i)) (numF (l.drop (i + 1))).toNat) (numF (l.take i)) (numF (l.drop (i + 1))) (vldB (numF (l.take i)) (numF (l.drop (i + 1)))) hc (num_c _ (by rw [List.length_take]; omega)) (num_c _ (by rw [List.length_drop]; omega))
      (valid_q _ _ (by omega) (by omega)) (vld_text _ _) _ _ _ (ps_res l _ _ (fun q hq ht => ?_)) W
    have hb := okQ_bd hq
    rw [← textT_eq] at ht
    unfold textT at ht
    by_cases hd : q.den = 1
    · rw [if_pos hd] at ht
      subst ht
      exact absurd h2 (not_cut (head_47 _) h1)
    · rw [if_neg hd] at ht
      subst ht
      obtain ⟨e1, e2⟩ := cut_at47 (head_47 _) h1 h2 h3
      rw [e1, e2, num_head _ (by omega), num_digs _ (by omega)]
      exact ⟨rfl, rfl⟩
  · have h' : ∀ j, j < l.length → l.getD j 0 ≠ 47 := fun j hj k => h ⟨j, hj, k⟩
    have hc : ∀ w : World, Calls Try.prog 72 #[strV l] w fun e w' => e = .returned (.tuple #[strV l, strV [49]]) ∧ Below w.heap.size w w' := fun w => (cutS_c l hl w).mono (by
      rintro e w' (⟨j, k1, k2, k3, k4, n, rfl⟩ | ⟨k1, k2, n, rfl⟩)
      · exact absurd k2 (h' j k1)
      · exact ⟨k2, below_drewn w n⟩)
    have b1 := numF_bd l
    have b2 := numF_bd [49]
    refine parse_w l _ _ (textL (numF l) (numF [49]).toNat) (numF l) (numF [49]) (vldB (numF l) (numF [49])) hc (num_c _ hl) (num_c _ (by simp))
      (valid_q _ _ (by omega) (by omega)) (vld_text _ _) _ _ _ (ps_res l _ _ (fun q hq ht => ?_)) W
    have hb := okQ_bd hq
    rw [← textT_eq] at ht
    unfold textT at ht
    by_cases hd : q.den = 1
    · rw [if_pos hd] at ht
      subst ht
      rw [num_head _ (by omega), hd]
      exact ⟨rfl, by decide⟩
    · rw [if_neg hd] at ht
      subst ht
      refine absurd ?_ (h' (headT q.num).length (by simp))
      rw [List.getD_eq_getElem?_getD, List.getElem?_append_right (Nat.le_refl _)]
      simp
theorem parsed_c (l : List UInt8) (hl : l.length ≤ 1000) (W : World) : Calls Try.prog 33 #[strV l] W fun z W' => z = .returned (.agg #[.int .i64 (psN l), .int .i64 (psD l), .int .i64 (psE l)]) ∧ Below W.heap.size W W' :=
  parsed_w l _ _ _ (parse_c l hl) W
theorem rAt_le (l : List UInt8) : rAt l ≤ l.length := by unfold rAt; omega
theorem rN0_le (l : List UInt8) : rN0 l ≤ 4611686018427387909 := by unfold rN0; exact rdF_bd _ _ _ (by omega)
theorem rDen_le (l : List UInt8) : rDen l ≤ 4611686018427387909 := by
  unfold rDen
  split
  · exact rdF_bd _ _ _ (by omega)
  · omega
theorem parsein_c (l : List UInt8) (hl : l.length ≤ 1000) (W : World) : Calls Try.prog 35 #[strV l] W fun z W' => z = .returned (.agg #[.int .i64 (psN l), .int .i64 (psD l), .int .i64 (psE l)]) ∧ Below W.heap.size W W' := by
  have k1 := rAt_le l
  have k2 := rN0_le l
  have k3 := rDen_le l
  have k4 : -4611686018427387909 ≤ rNum l ∧ rNum l ≤ 4611686018427387909 := by unfold rNum; split <;> omega
  have hres := ps_res l (rNum l) (rDen l) (fun q hq ht => by
    have hb := okQ_bd hq
    rw [← textT_eq] at ht
    subst ht
    obtain ⟨e1, e2⟩ := ref_reads q.num q.den (by omega) (by omega)
    rw [e1, e2]
    exact ⟨rfl, rfl⟩)
  have hr1 : ∀ w : World, Calls Try.prog 61 #[strV l, .int .i64 ((if l.head? = some 45 then 1 else 0 : Nat) : Int)] w fun z w' => z = .returned (.tuple #[.int .i64 (rN0 l), .int .i64 (rAt l)]) ∧ w' = w := fun w => by
    refine read_c l _ hl ?_ w
    split
    · rename_i h
      rcases l with _ | ⟨b, l⟩
      · cases h
      · simp
    · omega
  have hr2 : (rAt l : Int) < l.length → ∀ w : World, Calls Try.prog 61 #[strV l, .int .i64 ((rAt l : Int) + 1)] w fun z w' => z = .returned (.tuple #[.int .i64 (rDen l), .int .i64 ((l.length - (rdF 19 0 (l.drop (rAt l + 1))).2 : Nat) : Int)]) ∧ w' = w := fun h w => by
    have := read_c l (rAt l + 1) hl (by omega) w
    have e : rDen l = (rdF 19 0 (l.drop (rAt l + 1))).1 := by unfold rDen; rw [if_pos (by omega)]
    rw [e]
    rwa [Int.natCast_add] at this
  have h1 : ¬ (rAt l : Int) < l.length → (rDen l : Int) = 1 := fun h => by unfold rDen; rw [if_neg (by omega)]; rfl
  have hv := rvalid_q (rNum l) (rDen l) (by omega)
  have ht := vld_rtext (rNum l) (rDen l)
  by_cases h0 : l.length = 0
  · have h45 : ¬ l.head? = some 45 := by rw [List.length_eq_zero_iff.1 h0]; simp
    have e : rNum l = rN0 l := by unfold rNum; rw [if_neg h45]
    rw [e] at hres hv ht
    rw [if_neg h45] at hr1
    exact parsein_e l _ _ _ _ _ _ (by omega) (by omega) hl h0 ⟨hr1, hr2, hv, ht⟩ h1 _ _ _ hres W
  · by_cases h45 : l.head? = some 45
    · have e : rNum l = -(rN0 l : Int) := by unfold rNum; rw [if_pos h45]
      rw [e] at hres hv ht
      rw [if_pos h45] at hr1
      refine parsein_p l _ _ _ _ _ _ (by omega) (by omega) hl (by omega) ?_ ⟨hr1, hr2, hv, ht⟩ h1 _ _ _ hres W
      rcases l with _ | ⟨b, l⟩
      · cases h45
      · simp at h45; subst h45; rfl
    · have e : rNum l = rN0 l := by unfold rNum; rw [if_neg h45]
      rw [e] at hres hv ht
      rw [if_neg h45] at hr1
      refine parsein_n l _ _ _ _ _ _ (by omega) (by omega) hl (by omega) ?_ ⟨hr1, hr2, hv, ht⟩ h1 _ _ _ hres W
      rcases l with _ | ⟨b, l⟩
      · simp at h0
      · intro hb; exact h45 (by simp at hb ⊢; exact hb)
/-- what is read of a fraction's text -/
theorem ps_own (q : Rat) (hq : okQ q) : psN (textL q.num q.den) = q.num ∧ psD (textL q.num q.den) = q.den ∧ psE (textL q.num q.den) = 0 := by
  have hb := okQ_bd hq
  have he : psEx (textL q.num q.den) := ⟨q, hq, rfl⟩
  unfold psN psD psE
  rw [dif_pos he, dif_pos he, if_pos he]
  obtain ⟨h1, h2⟩ := Classical.choose_spec he
  generalize Classical.choose he = p at *
  have hp := okQ_bd h1
  obtain ⟨e1, e2⟩ := ref_reads p.num p.den (by omega) (by omega)
  obtain ⟨e3, e4⟩ := ref_reads q.num q.den (by omega) (by omega)
  rw [textT_eq, h2, ← textT_eq] at e1 e2
  exact ⟨e1.symm.trans e3, by rw [← e2, e4], rfl⟩
/-- what was read has that text -/
theorem ps_text (l : List UInt8) (h : psE l = 0) (w : World) : Calls Try.prog 30 #[.agg #[.int .i64 (psN l), .int .i64 (psD l)]] w fun e w' => e = .returned (strV l) ∧ Below w.heap.size w w' := by
  have he : psEx l := by
    unfold psE at h
    split at h
    · assumption
    · cases h
  unfold psN psD
  rw [dif_pos he, dif_pos he]
  obtain ⟨h1, h2⟩ := Classical.choose_spec he
  generalize Classical.choose he = p at *
  have := text_q p h1 w
  rw [h2] at this
  exact this
theorem psE_cases (l : List UInt8) : psE l = 0 ∨ psE l = 5 := by unfold psE; split <;> simp
end Go.Proofs.Ytieabeodommbiaa
