/- Which fractions are valid: the program's word and the reference's. -/
import Derived.Test.YtieabeodommbiaaNr
namespace Go.Proofs.Ytieabeodommbiaa
open Go.RowKit
set_option maxRecDepth 100000
set_option linter.unusedVariables false

theorem keepV {B : Nat} {x y : Value} {w w' : World} (h : w.cell? ⟨B, 0, none⟩ = some x ∧ w.cell? ⟨B, 1, none⟩ = some y ∧ B < w.heap.size) (hb : Below w.heap.size w w') : w'.cell? ⟨B, 0, none⟩ = some x ∧ w'.cell? ⟨B, 1, none⟩ = some y ∧ B < w'.heap.size :=
  ⟨(hb.cell h.2.2).trans h.1, (hb.cell h.2.2).trans h.2.1, Nat.lt_of_lt_of_le h.2.2 hb.size⟩
set_option maxHeartbeats 1600000 in
theorem valid_w {n d x y e : Int} {b : Bool} (h1 : (e == 0) = false → b = false) (h2 : (e == 0) = true → (b = true ∧ x = n ∧ y = d) ∨ (b = false ∧ (((x == n) = false) ∨ ((x == n) = true ∧ (y == d) = false))))
    (m : ∀ w : World, Calls Try.prog 38 #[.int .i64 n, .int .i64 d] w fun z w' => z = .returned (.tuple #[.agg #[.int .i64 x, .int .i64 y], .int .i64 e]) ∧ Below w.heap.size w w') (W : World) :
    Calls Try.prog 13 #[.agg #[.int .i64 n, .int .i64 d]] W fun z W' => z = .returned (.bool b) ∧ Below W.heap.size W W' := by
  have HM := Lib.hid m
  have H1 := Lib.hid h1
  have H2 := Lib.hid h2
  clear m h1 h2
  go_enter Try.func13, Try.ntmps13
  go_wp2_with fail
  refine (HM.out _).mono ?_
  rintro z w ⟨rfl, hb⟩
  have HW : Hid (Below W.heap.size W w) := Lib.hid (((Below.refl _ _).alloc (Nat.le_refl _) _).trans (hb.mono (by simp)))
  have b0 := hb.cell (p := ⟨W.heap.size, 0, none⟩) (by simp)
  have b1 := hb.cell (p := ⟨W.heap.size, 1, none⟩) (by simp)
  have hz := hb.size
  simp at b0 b1 hz
  have c0 : ∀ o, (w.alloc o).cell? ⟨W.heap.size, 0, none⟩ = some (.int .i64 n) := fun o => by rw [World.cell?_alloc_past _ _ _ (by show _ < _; omega)]; exact b0
  have c1 : ∀ o, (w.alloc o).cell? ⟨W.heap.size, 1, none⟩ = some (.int .i64 d) := fun o => by rw [World.cell?_alloc_past _ _ _ (by show _ < _; omega)]; exact b1
  clear hb hz
  cases he : (e == 0)
  · have hb := H1.out he
    subst hb
    go_wp2
    go_ret
    exact ⟨rfl, HW.out.alloc HW.out.size _⟩
  · rcases H2.out he with ⟨rfl, rfl, rfl⟩ | ⟨rfl, h⟩
    · go_wp2
      go_ret
      exact ⟨rfl, HW.out.alloc HW.out.size _⟩
    · rcases h with h | ⟨h, h'⟩
      · go_wp2
        go_ret
        exact ⟨rfl, HW.out.alloc HW.out.size _⟩
      · go_wp2
        go_ret
        exact ⟨rfl, HW.out.alloc HW.out.size _⟩
abbrev VS (W : World) (n d : Int) (w : World) : Prop := Below W.heap.size W w ∧ w.cell? ⟨W.heap.size, 0, none⟩ = some (.int .i64 n) ∧ w.cell? ⟨W.heap.size, 1, none⟩ = some (.int .i64 d) ∧ W.heap.size < w.heap.size
theorem keepVS {W w w' : World} {n d : Int} (h : VS W n d w) (hb : Below w.heap.size w w') : VS W n d w' := ⟨h.1.trans (hb.mono h.1.size), keepV h.2 hb⟩
theorem vs0 (W : World) (n d : Int) : VS W n d (W.alloc (.cells #[.int .i64 n, .int .i64 d] 25)).drew := by
  refine ⟨((Below.refl _ _).alloc (Nat.le_refl _) _).drew, ?_, ?_, by simp⟩
  · simp
  · simp
theorem most_s (W : World) : Calls Try.prog 37 #[] W fun e W' => e = .returned (.int .i64 4611686018427387904) ∧ W' = W := by
  go_enter Try.func37, Try.ntmps37
  go_wp2
  go_ret
  exact ⟨rfl, rfl⟩
set_option maxHeartbeats 3200000 in
theorem rvalid_w {n d x g : Int} (hn : -9223372036854775808 ≤ n ∧ n ≤ 9223372036854775807) (b : Bool)
    (s : -4611686018427387904 ≤ n → n ≤ 4611686018427387904 → ∀ w : World, Calls Try.prog 40 #[.int .i64 n] w fun e w' => e = .returned (.int .i64 x) ∧ Below w.heap.size w w')
    (m : -4611686018427387904 ≤ n → n ≤ 4611686018427387904 → 1 ≤ d → d ≤ 4611686018427387904 → ∀ w : World, Calls Try.prog 39 #[.int .i64 x, .int .i64 d] w fun e w' => e = .returned (.int .i64 g) ∧ Below w.heap.size w w')
    (hb : b = true ↔ (1 ≤ d ∧ d ≤ 4611686018427387904 ∧ -4611686018427387904 ≤ n ∧ n ≤ 4611686018427387904 ∧ g = 1)) (W : World) :
    Calls Try.prog 14 #[.agg #[.int .i64 n, .int .i64 d]] W fun z W' => z = .returned (.bool b) ∧ Below W.heap.size W W' := by
  have MO := Lib.hid nmost_c
  have HV0 := vs0 W n d
  have MS := Lib.hid most_s
  have HBI := Lib.hid hb
  clear hb
  have wq : IntKind.i64.wrap (-4611686018427387904) = -4611686018427387904 := wrap_of (by omega)
  by_cases d1 : 1 ≤ d
  · by_cases d2 : d ≤ 4611686018427387904
    · by_cases n1 : -4611686018427387904 ≤ n
      · by_cases n2 : n ≤ 4611686018427387904
        · have HS := Lib.hid (s n1 n2)
          have HM := Lib.hid (m n1 n2 d1 d2)
          have HG : Hid (b = decide (g = 1)) := Lib.hid (by
            have := HBI.out
            cases b <;> simp_all)
          clear s m HBI
          cases hg : (g == 1)
          · have hb : Hid (b = false) := Lib.hid (HG.out.trans (by simpa using hg))
            clear HG
            go_enter Try.func14, Try.ntmps14
            go_wp2_with fail
            go_region_held3 (fun w' => VS W n d w') (first | (with_reducible exact HV0) | (refine keepVS ?_ hb3; assumption)) (first | (go_at_call 37; with_reducible refine (MO.out _).mono ?_; rintro e v ⟨rfl, hb3⟩) | (go_at_call 40; with_reducible refine (HS.out _).mono ?_; rintro e v ⟨rfl, hb3⟩) | (go_at_call 39; with_reducible refine (HM.out _).mono ?_; rintro e v ⟨rfl, hb3⟩))
            rename_i hHeld
            have HF := Lib.hid hHeld.1
            clear hHeld
            go_wp2
            go_ret
            exact ⟨by rw [hb.out]; rfl, HF.out⟩
          · have hb : Hid (b = true) := Lib.hid (HG.out.trans (by simpa using hg))
            clear HG
            go_enter Try.func14, Try.ntmps14
            go_wp2_with fail
            go_region_held3 (fun w' => VS W n d w') (first | (with_reducible exact HV0) | (refine keepVS ?_ hb3; assumption)) (first | (go_at_call 37; with_reducible refine (MO.out _).mono ?_; rintro e v ⟨rfl, hb3⟩) | (go_at_call 40; with_reducible refine (HS.out _).mono ?_; rintro e v ⟨rfl, hb3⟩) | (go_at_call 39; with_reducible refine (HM.out _).mono ?_; rintro e v ⟨rfl, hb3⟩))
            rename_i hHeld
            have HF := Lib.hid hHeld.1
            clear hHeld
            go_wp2
            go_ret
            exact ⟨by rw [hb.out]; rfl, HF.out⟩
        · have hb : Hid (b = false) := Lib.hid (by cases hbb : b with | false => rfl | true => exact absurd (HBI.out.1 hbb).2.2.2.1 n2)
          have dq : decide (n ≤ 4611686018427387904) = false := by simpa using n2
          clear s m HBI
          go_enter Try.func14, Try.ntmps14
          go_wp2_with fail
          have hb0 := HV0.2.1
          have hb1 := HV0.2.2.1
          go_quiet ((go_at_call 37; refine Calls.quiet_of_same (MS.out _)))
          go_wp2
          go_ret
          exact ⟨by rw [hb.out]; rfl, nbelow_drewN ((Below.refl _ _).alloc (Nat.le_refl _) _) _⟩
      · have hb : Hid (b = false) := Lib.hid (by cases hbb : b with | false => rfl | true => exact absurd (HBI.out.1 hbb).2.2.1 n1)
        have dq : decide (-4611686018427387904 ≤ n) = false := by simpa using n1
        clear s m HBI
        go_enter Try.func14, Try.ntmps14
        go_wp2_with fail
        have hb0 := HV0.2.1
        have hb1 := HV0.2.2.1
        go_quiet ((go_at_call 37; refine Calls.quiet_of_same (MS.out _)))
        go_wp2
        go_ret
        exact ⟨by rw [hb.out]; rfl, nbelow_drewN ((Below.refl _ _).alloc (Nat.le_refl _) _) _⟩
    · have hb : Hid (b = false) := Lib.hid (by cases hbb : b with | false => rfl | true => exact absurd (HBI.out.1 hbb).2.1 d2)
      have dq : decide (d ≤ 4611686018427387904) = false := by simpa using d2
      clear s m HBI
      go_enter Try.func14, Try.ntmps14
      go_wp2_with fail
      have hb0 := HV0.2.1
      have hb1 := HV0.2.2.1
      go_quiet ((go_at_call 37; refine Calls.quiet_of_same (MS.out _)))
      go_wp2
      go_ret
      exact ⟨by rw [hb.out]; rfl, nbelow_drewN ((Below.refl _ _).alloc (Nat.le_refl _) _) _⟩
  · have hb : Hid (b = false) := Lib.hid (by cases hbb : b with | false => rfl | true => exact absurd (HBI.out.1 hbb).1 d1)
    have dq : decide (1 ≤ d) = false := by simpa using d1
    clear s m HBI
    go_enter Try.func14, Try.ntmps14
    go_wp2_with fail
    have hb0 := HV0.2.1
    have hb1 := HV0.2.2.1
    go_quiet ((go_at_call 37; refine Calls.quiet_of_same (MS.out _)))
    go_wp2
    go_ret
    exact ⟨by rw [hb.out]; rfl, nbelow_drewN ((Below.refl _ _).alloc (Nat.le_refl _) _) _⟩
/-- n / d is as a valid fraction is -/
def vldB (n d : Int) : Bool := decide (1 ≤ d ∧ d ≤ 4611686018427387904 ∧ -4611686018427387904 ≤ n ∧ n ≤ 4611686018427387904 ∧ gI (ab n) d = 1)
theorem gI_nat' {a d : Int} (hd : 1 ≤ d) : gI (ab a) d = (Nat.gcd a.natAbs d.natAbs : Nat) := by
  unfold gI
  rw [ab_nat]
  rfl
theorem vld_iff {n d : Int} (h0 : d ≠ 0) : vldB n d = true ↔ okQ (Rat.divInt n d) ∧ (Rat.divInt n d).num = n ∧ ((Rat.divInt n d).den : Int) = d := by
  unfold vldB
  rw [decide_eq_true_iff]
  obtain ⟨p1, p2⟩ := divInt_parts n d h0
  constructor
  · rintro ⟨h1, h2, h3, h4, h5⟩
    rw [gI_nat' h1] at h5
    have hg : Nat.gcd n.natAbs d.natAbs = 1 := by omega
    rw [hg, Int.sign_eq_one_of_pos (by omega)] at p1
    rw [hg] at p2
    simp at p1 p2
    refine ⟨?_, p1, by omega⟩
    unfold okQ
    omega
  · rintro ⟨h1, h2, h3⟩
    have hp := (Rat.divInt n d).den_pos
    unfold okQ at h1
    have hd : 1 ≤ d := by omega
    refine ⟨hd, by omega, by omega, by omega, ?_⟩
    rw [gI_nat' hd]
    have e : d.natAbs / Nat.gcd n.natAbs d.natAbs = d.natAbs := by omega
    have hg : 0 < Nat.gcd n.natAbs d.natAbs := Nat.gcd_pos_of_pos_right _ (by omega)
    rcases Nat.lt_or_ge 1 (Nat.gcd n.natAbs d.natAbs) with h | h
    · have := Nat.div_lt_self (show 0 < d.natAbs by omega) h
      omega
    · omega
theorem valid_q (n d : Int) (hn : -9223372036854775808 ≤ n ∧ n ≤ 9223372036854775807) (hd : -9223372036854775808 ≤ d ∧ d ≤ 9223372036854775807) (W : World) :
    Calls Try.prog 13 #[.agg #[.int .i64 n, .int .i64 d]] W fun z W' => z = .returned (.bool (vldB n d)) ∧ Below W.heap.size W W' := by
  by_cases h0 : d = 0
  · subst h0
    refine valid_w (x := 0) (y := 0) (e := 3) (fun _ => ?_) (fun h => by cases h) (make_0 n hn) W
    unfold vldB; simp
  · have hm := make_q n d hn hd h0
    by_cases hk : okQ (Rat.divInt n d)
    · have e : outV (Rat.divInt n d) = .tuple #[.agg #[.int .i64 (Rat.divInt n d).num, .int .i64 (Rat.divInt n d).den], .int .i64 0] := by
        unfold outV rN rD rE; rw [if_pos hk, if_pos hk, if_pos hk]
      rw [e] at hm
      refine valid_w (fun h => by cases h) (fun _ => ?_) hm W
      by_cases hv : vldB n d = true
      · have := (vld_iff h0).1 hv
        exact .inl ⟨hv, this.2.1, this.2.2⟩
      · right
        refine ⟨by simpa using hv, ?_⟩
        by_cases h1 : (Rat.divInt n d).num = n
        · right
          refine ⟨by simpa using h1, ?_⟩
          refine beq_false_of_ne (fun h2 => hv ((vld_iff h0).2 ⟨hk, h1, h2⟩))
        · exact .inl (beq_false_of_ne h1)
    · have e : outV (Rat.divInt n d) = .tuple #[.agg #[.int .i64 0, .int .i64 0], .int .i64 2] := by
        unfold outV rN rD rE; rw [if_neg hk, if_neg hk, if_neg hk]
      rw [e] at hm
      refine valid_w (fun _ => ?_) (fun h => by cases h) hm W
      cases hv : vldB n d
      · rfl
      · exact absurd ((vld_iff h0).1 hv).1 hk
theorem rvalid_q (n d : Int) (hn : -9223372036854775808 ≤ n ∧ n ≤ 9223372036854775807) (W : World) :
    Calls Try.prog 14 #[.agg #[.int .i64 n, .int .i64 d]] W fun z W' => z = .returned (.bool (vldB n d)) ∧ Below W.heap.size W W' := by
  refine rvalid_w (x := ab n) (g := gI (ab n) d) hn (vldB n d) (fun h1 h2 => nsize_c n h1 h2) (fun h1 h2 h3 h4 => ngcd_c (ab n) d (ab_bd h1 h2).1 (by have := (ab_bd h1 h2).2; omega) (by omega) (by omega)) ?_ W
  unfold vldB
  rw [decide_eq_true_iff]
theorem vld_own (q : Rat) (h : okQ q) : vldB q.num q.den = true := by
  have := okQ_bd h
  rw [vld_iff (by omega), Rat.num_divInt_den]
  exact ⟨h, rfl, rfl⟩
end Go.Proofs.Ytieabeodommbiaa
