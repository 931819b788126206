/- Reading fractions: the reference's ParseIn, walked. -/
import Derived.Test.YtieabeodommbiaaTe
namespace Go.Proofs.Ytieabeodommbiaa
open Go.RowKit
set_option maxRecDepth 100000
set_option linter.unusedVariables false

/-- what ParseIn calls -/
structure PI (l T : List UInt8) (i n0 at0 x d n : Int) (v : Bool) : Prop where
  r1 : ∀ w : World, Calls Try.prog 61 #[strV l, .int .i64 i] w fun z w' => z = .returned (.tuple #[.int .i64 n0, .int .i64 at0]) ∧ w' = w
  r2 : at0 < l.length → ∀ w : World, Calls Try.prog 61 #[strV l, .int .i64 (at0 + 1)] w fun z w' => z = .returned (.tuple #[.int .i64 d, .int .i64 x]) ∧ w' = w
  vd : ∀ w : World, Calls Try.prog 14 #[.agg #[.int .i64 n, .int .i64 d]] w fun z w' => z = .returned (.bool v) ∧ Below w.heap.size w w'
  t : v = true → ∀ w : World, Calls Try.prog 31 #[.agg #[.int .i64 n, .int .i64 d]] w fun z w' => z = .returned (strV T) ∧ Below w.heap.size w w'
set_option maxHeartbeats 12800000 in
theorem parsein_e (l T : List UInt8) (n0 at0 x d : Int) (v : Bool) (hat0 : 0 ≤ at0 ∧ at0 ≤ 1000) (hn0 : 0 ≤ n0 ∧ n0 ≤ 4611686018427387909) (hll : l.length ≤ 1000) (hl : l.length = 0) (H : PI l T 0 n0 at0 x d n0 v) (h1 : ¬ at0 < l.length → d = 1)
    (a b e : Int) (hr : Hid ((v = true ∧ T = l ∧ a = n0 ∧ b = d ∧ e = 0) ∨ ((v = false ∨ (v = true ∧ T ≠ l)) ∧ a = 0 ∧ b = 0 ∧ e = 5))) (W : World) :
    Calls Try.prog 35 #[strV l] W fun z W' => z = .returned (.agg #[.int .i64 a, .int .i64 b, .int .i64 e]) ∧ Below W.heap.size W W' := by
  have hd0 : decide (0 < l.length) = false := by simp [hl]
  have HL := Lib.hid hl
  clear hl
  by_cases hat : at0 < l.length
  · have hda : decide (at0 < (l.length : Int)) = true := by simpa using hat
    have HR := Lib.hid (H.r2 hat)
    have HH := Lib.hid H
    clear H hat
    go_enter Try.func35, Try.ntmps35
    go_wp2_with fail
    with_reducible refine (HH.out.r1 _).mono ?_
    rintro z w ⟨rfl, rfl⟩
    go_wp2_with fail
    with_reducible refine (HR.out _).mono ?_
    rintro z w ⟨rfl, rfl⟩
    go_wp2_with fail
    with_reducible refine (HH.out.vd _).mono ?_
    rintro z w4 ⟨rfl, hb4⟩
    have a0 : w4.cell? ⟨W.heap.size + 1, 0, none⟩ = some (.int .i64 n0) := (hb4.cell (by simp)).trans (World.cell?_alloc_at _ _ _ _ (by simp))
    have a1 : w4.cell? ⟨W.heap.size + 1, 1, none⟩ = some (.int .i64 d) := (hb4.cell (by simp)).trans (World.cell?_alloc_at _ _ _ _ (by simp))
    have hz4 : W.heap.size + 1 + 1 ≤ w4.heap.size := by have := hb4.size; simpa using this
    have K4 : Hid (Below (W.heap.size + 1) (W.alloc (.cells #[.int .i64 0, .int .i64 0, .int .i64 0] 28)) w4) := Lib.hid ((((Below.refl _ _).alloc (by simp) _).trans (hb4.mono (by simp))))
    clear hb4
    rcases hr.out with ⟨rfl, rfl, rfl, rfl, rfl⟩ | ⟨hv, rfl, rfl, rfl⟩
    · have H5 := Lib.hid (HH.out.t rfl)
      clear hr
      go_wp2_with fail
      with_reducible refine (H5.out _).mono ?_
      rintro z w5 ⟨rfl, hb5⟩
      have b0 := (hb5.cell (p := ⟨W.heap.size + 1, 0, none⟩) (by show W.heap.size + 1 < _; omega)).trans a0
      have b1 := (hb5.cell (p := ⟨W.heap.size + 1, 1, none⟩) (by show W.heap.size + 1 < _; omega)).trans a1
      have K5 : Hid (Below (W.heap.size + 1) (W.alloc (.cells #[.int .i64 0, .int .i64 0, .int .i64 0] 28)) w5) := Lib.hid (K4.out.trans (hb5.mono (by omega)))
      have r0 : w5.cell? ⟨W.heap.size, 0, none⟩ = some (.int .i64 0) := (K5.out.cell (by simp)).trans (World.cell?_alloc_at _ _ _ _ rfl)
      have r1 : w5.cell? ⟨W.heap.size, 1, none⟩ = some (.int .i64 0) := (K5.out.cell (by simp)).trans (World.cell?_alloc_at _ _ _ _ rfl)
      have r2 : w5.cell? ⟨W.heap.size, 2, none⟩ = some (.int .i64 0) := (K5.out.cell (by simp)).trans (World.cell?_alloc_at _ _ _ _ rfl)
      have p0 : w5.frozen? ⟨W.heap.size, 0, none⟩ = false := (K5.out.frozen (by simp)).trans (World.frozen?_alloc_at _ _ _ _ rfl)
      have p1 : w5.frozen? ⟨W.heap.size, 1, none⟩ = false := (K5.out.frozen (by simp)).trans (World.frozen?_alloc_at _ _ _ _ rfl)
      have p2 : w5.frozen? ⟨W.heap.size, 2, none⟩ = false := (K5.out.frozen (by simp)).trans (World.frozen?_alloc_at _ _ _ _ rfl)
      have KF : Hid (Below W.heap.size W w5) := Lib.hid (((Below.refl _ _).alloc (Nat.le_refl _) _).trans (K5.out.mono (by omega)))
      clear hb5 a0 a1
      go_wp2
      exact bodyPost_ret (v := .agg #[.int .i64 a, .int .i64 b, .int .i64 0]) (by simp [results, Try.results35, go_sem, r0, r1, r2]) rfl ⟨rfl, ((KF.out.setCell (Nat.le_refl _) _).setCell (Nat.le_refl _) _).setCell (Nat.le_refl _) _⟩
    · rcases hv with rfl | ⟨rfl, hT⟩
      · clear hr
        have r0 : w4.cell? ⟨W.heap.size, 0, none⟩ = some (.int .i64 0) := (K4.out.cell (by simp)).trans (World.cell?_alloc_at _ _ _ _ rfl)
        have r1 : w4.cell? ⟨W.heap.size, 1, none⟩ = some (.int .i64 0) := (K4.out.cell (by simp)).trans (World.cell?_alloc_at _ _ _ _ rfl)
        have r2 : w4.cell? ⟨W.heap.size, 2, none⟩ = some (.int .i64 0) := (K4.out.cell (by simp)).trans (World.cell?_alloc_at _ _ _ _ rfl)
        have p0 : w4.frozen? ⟨W.heap.size, 0, none⟩ = false := (K4.out.frozen (by simp)).trans (World.frozen?_alloc_at _ _ _ _ rfl)
        have p1 : w4.frozen? ⟨W.heap.size, 1, none⟩ = false := (K4.out.frozen (by simp)).trans (World.frozen?_alloc_at _ _ _ _ rfl)
        have p2 : w4.frozen? ⟨W.heap.size, 2, none⟩ = false := (K4.out.frozen (by simp)).trans (World.frozen?_alloc_at _ _ _ _ rfl)
        have KF : Hid (Below W.heap.size W w4) := Lib.hid (((Below.refl _ _).alloc (Nat.le_refl _) _).trans (K4.out.mono (by omega)))
        clear a0 a1
        go_wp2
        exact bodyPost_ret (v := .agg #[.int .i64 0, .int .i64 0, .int .i64 5]) (by simp [results, Try.results35, go_sem, r0, r1, r2]) rfl ⟨rfl, ((KF.out.setCell (Nat.le_refl _) _).setCell (Nat.le_refl _) _).setCell (Nat.le_refl _) _⟩
      · have H5 := Lib.hid (HH.out.t rfl)
        have HNE := Lib.hid (str_ne hT)
        clear hr hT
        go_wp2_with fail
        with_reducible refine (H5.out _).mono ?_
        rintro z w5 ⟨rfl, hb5⟩
        have b0 := (hb5.cell (p := ⟨W.heap.size + 1, 0, none⟩) (by show W.heap.size + 1 < _; omega)).trans a0
        have b1 := (hb5.cell (p := ⟨W.heap.size + 1, 1, none⟩) (by show W.heap.size + 1 < _; omega)).trans a1
        have K5 : Hid (Below (W.heap.size + 1) (W.alloc (.cells #[.int .i64 0, .int .i64 0, .int .i64 0] 28)) w5) := Lib.hid (K4.out.trans (hb5.mono (by omega)))
        have r0 : w5.cell? ⟨W.heap.size, 0, none⟩ = some (.int .i64 0) := (K5.out.cell (by simp)).trans (World.cell?_alloc_at _ _ _ _ rfl)
        have r1 : w5.cell? ⟨W.heap.size, 1, none⟩ = some (.int .i64 0) := (K5.out.cell (by simp)).trans (World.cell?_alloc_at _ _ _ _ rfl)
        have r2 : w5.cell? ⟨W.heap.size, 2, none⟩ = some (.int .i64 0) := (K5.out.cell (by simp)).trans (World.cell?_alloc_at _ _ _ _ rfl)
        have p0 : w5.frozen? ⟨W.heap.size, 0, none⟩ = false := (K5.out.frozen (by simp)).trans (World.frozen?_alloc_at _ _ _ _ rfl)
        have p1 : w5.frozen? ⟨W.heap.size, 1, none⟩ = false := (K5.out.frozen (by simp)).trans (World.frozen?_alloc_at _ _ _ _ rfl)
        have p2 : w5.frozen? ⟨W.heap.size, 2, none⟩ = false := (K5.out.frozen (by simp)).trans (World.frozen?_alloc_at _ _ _ _ rfl)
        have KF : Hid (Below W.heap.size W w5) := Lib.hid (((Below.refl _ _).alloc (Nat.le_refl _) _).trans (K5.out.mono (by omega)))
        clear hb5 a0 a1
        have hne := HNE.out
        go_wp2
        exact bodyPost_ret (v := .agg #[.int .i64 0, .int .i64 0, .int .i64 5]) (by simp [results, Try.results35, go_sem, r0, r1, r2]) rfl ⟨rfl, ((KF.out.setCell (Nat.le_refl _) _).setCell (Nat.le_refl _) _).setCell (Nat.le_refl _) _⟩
  · have hda : decide (at0 < (l.length : Int)) = false := by simpa using hat
    obtain rfl := h1 hat
    have HH := Lib.hid H
    clear H hat
    go_enter Try.func35, Try.ntmps35
    go_wp2_with fail
    with_reducible refine (HH.out.r1 _).mono ?_
    rintro z w ⟨rfl, rfl⟩
    go_wp2_with fail
    with_reducible refine (HH.out.vd _).mono ?_
    rintro z w4 ⟨rfl, hb4⟩
    have a0 : w4.cell? ⟨W.heap.size + 1, 0, none⟩ = some (.int .i64 n0) := (hb4.cell (by simp)).trans (World.cell?_alloc_at _ _ _ _ (by simp))
    have a1 : w4.cell? ⟨W.heap.size + 1, 1, none⟩ = some (.int .i64 1) := (hb4.cell (by simp)).trans (World.cell?_alloc_at _ _ _ _ (by simp))
    have hz4 : W.heap.size + 1 + 1 ≤ w4.heap.size := by have := hb4.size; simpa using this
    have K4 : Hid (Below (W.heap.size + 1) (W.alloc (.cells #[.int .i64 0, .int .i64 0, .int .i64 0] 28)) w4) := Lib.hid ((((Below.refl _ _).alloc (by simp) _).trans (hb4.mono (by simp))))
    clear hb4
    rcases hr.out with ⟨rfl, rfl, rfl, rfl, rfl⟩ | ⟨hv, rfl, rfl, rfl⟩
    · have H5 := Lib.hid (HH.out.t rfl)
      clear hr
      go_wp2_with fail
      with_reducible refine (H5.out _).mono ?_
      rintro z w5 ⟨rfl, hb5⟩
      have b0 := (hb5.cell (p := ⟨W.heap.size + 1, 0, none⟩) (by show W.heap.size + 1 < _; omega)).trans a0
      have b1 := (hb5.cell (p := ⟨W.heap.size + 1, 1, none⟩) (by show W.heap.size + 1 < _; omega)).trans a1
      have K5 : Hid (Below (W.heap.size + 1) (W.alloc (.cells #[.int .i64 0, .int .i64 0, .int .i64 0] 28)) w5) := Lib.hid (K4.out.trans (hb5.mono (by omega)))
      have r0 : w5.cell? ⟨W.heap.size, 0, none⟩ = some (.int .i64 0) := (K5.out.cell (by simp)).trans (World.cell?_alloc_at _ _ _ _ rfl)
      have r1 : w5.cell? ⟨W.heap.size, 1, none⟩ = some (.int .i64 0) := (K5.out.cell (by simp)).trans (World.cell?_alloc_at _ _ _ _ rfl)
      have r2 : w5.cell? ⟨W.heap.size, 2, none⟩ = some (.int .i64 0) := (K5.out.cell (by simp)).trans (World.cell?_alloc_at _ _ _ _ rfl)
      have p0 : w5.frozen? ⟨W.heap.size, 0, none⟩ = false := (K5.out.frozen (by simp)).trans (World.frozen?_alloc_at _ _ _ _ rfl)
      have p1 : w5.frozen? ⟨W.heap.size, 1, none⟩ = false := (K5.out.frozen (by simp)).trans (World.frozen?_alloc_at _ _ _ _ rfl)
      have p2 : w5.frozen? ⟨W.heap.size, 2, none⟩ = false := (K5.out.frozen (by simp)).trans (World.frozen?_alloc_at _ _ _ _ rfl)
      have KF : Hid (Below W.heap.size W w5) := Lib.hid (((Below.refl _ _).alloc (Nat.le_refl _) _).trans (K5.out.mono (by omega)))
      clear hb5 a0 a1
      go_wp2
      exact bodyPost_ret (v := .agg #[.int .i64 a, .int .i64 1, .int .i64 0]) (by simp [results, Try.results35, go_sem, r0, r1, r2]) rfl ⟨rfl, ((KF.out.setCell (Nat.le_refl _) _).setCell (Nat.le_refl _) _).setCell (Nat.le_refl _) _⟩
    · rcases hv with rfl | ⟨rfl, hT⟩
      · clear hr
        have r0 : w4.cell? ⟨W.heap.size, 0, none⟩ = some (.int .i64 0) := (K4.out.cell (by simp)).trans (World.cell?_alloc_at _ _ _ _ rfl)
        have r1 : w4.cell? ⟨W.heap.size, 1, none⟩ = some (.int .i64 0) := (K4.out.cell (by simp)).trans (World.cell?_alloc_at _ _ _ _ rfl)
        have r2 : w4.cell? ⟨W.heap.size, 2, none⟩ = some (.int .i64 0) := (K4.out.cell (by simp)).trans (World.cell?_alloc_at _ _ _ _ rfl)
        have p0 : w4.frozen? ⟨W.heap.size, 0, none⟩ = false := (K4.out.frozen (by simp)).trans (World.frozen?_alloc_at _ _ _ _ rfl)
        have p1 : w4.frozen? ⟨W.heap.size, 1, none⟩ = false := (K4.out.frozen (by simp)).trans (World.frozen?_alloc_at _ _ _ _ rfl)
        have p2 : w4.frozen? ⟨W.heap.size, 2, none⟩ = false := (K4.out.frozen (by simp)).trans (World.frozen?_alloc_at _ _ _ _ rfl)
        have KF : Hid (Below W.heap.size W w4) := Lib.hid (((Below.refl _ _).alloc (Nat.le_refl _) _).trans (K4.out.mono (by omega)))
        clear a0 a1
        go_wp2
        exact bodyPost_ret (v := .agg #[.int .i64 0, .int .i64 0, .int .i64 5]) (by simp [results, Try.results35, go_sem, r0, r1, r2]) rfl ⟨rfl, ((KF.out.setCell (Nat.le_refl _) _).setCell (Nat.le_refl _) _).setCell (Nat.le_refl _) _⟩
      · have H5 := Lib.hid (HH.out.t rfl)
        have HNE := Lib.hid (str_ne hT)
        clear hr hT
        go_wp2_with fail
        with_reducible refine (H5.out _).mono ?_
        rintro z w5 ⟨rfl, hb5⟩
        have b0 := (hb5.cell (p := ⟨W.heap.size + 1, 0, none⟩) (by show W.heap.size + 1 < _; omega)).trans a0
        have b1 := (hb5.cell (p := ⟨W.heap.size + 1, 1, none⟩) (by show W.heap.size + 1 < _; omega)).trans a1
        have K5 : Hid (Below (W.heap.size + 1) (W.alloc (.cells #[.int .i64 0, .int .i64 0, .int .i64 0] 28)) w5) := Lib.hid (K4.out.trans (hb5.mono (by omega)))
        have r0 : w5.cell? ⟨W.heap.size, 0, none⟩ = some (.int .i64 0) := (K5.out.cell (by simp)).trans (World.cell?_alloc_at _ _ _ _ rfl)
        have r1 : w5.cell? ⟨W.heap.size, 1, none⟩ = some (.int .i64 0) := (K5.out.cell (by simp)).trans (World.cell?_alloc_at _ _ _ _ rfl)
        have r2 : w5.cell? ⟨W.heap.size, 2, none⟩ = some (.int .i64 0) := (K5.out.cell (by simp)).trans (World.cell?_alloc_at _ _ _ _ rfl)
        have p0 : w5.frozen? ⟨W.heap.size, 0, none⟩ = false := (K5.out.frozen (by simp)).trans (World.frozen?_alloc_at _ _ _ _ rfl)
        have p1 : w5.frozen? ⟨W.heap.size, 1, none⟩ = false := (K5.out.frozen (by simp)).trans (World.frozen?_alloc_at _ _ _ _ rfl)
        have p2 : w5.frozen? ⟨W.heap.size, 2, none⟩ = false := (K5.out.frozen (by simp)).trans (World.frozen?_alloc_at _ _ _ _ rfl)
        have KF : Hid (Below W.heap.size W w5) := Lib.hid (((Below.refl _ _).alloc (Nat.le_refl _) _).trans (K5.out.mono (by omega)))
        clear hb5 a0 a1
        have hne := HNE.out
        go_wp2
        exact bodyPost_ret (v := .agg #[.int .i64 0, .int .i64 0, .int .i64 5]) (by simp [results, Try.results35, go_sem, r0, r1, r2]) rfl ⟨rfl, ((KF.out.setCell (Nat.le_refl _) _).setCell (Nat.le_refl _) _).setCell (Nat.le_refl _) _⟩
set_option maxHeartbeats 12800000 in
theorem parsein_p (l T : List UInt8) (n0 at0 x d : Int) (v : Bool) (hat0 : 0 ≤ at0 ∧ at0 ≤ 1000) (hn0 : 0 ≤ n0 ∧ n0 ≤ 4611686018427387909) (hll : l.length ≤ 1000) (hl : 0 < l.length) (hx : l.getD 0 0 = 45) (H : PI l T 1 n0 at0 x d (-n0) v) (h1 : ¬ at0 < l.length → d = 1)
    (a b e : Int) (hr : Hid ((v = true ∧ T = l ∧ a = (-n0) ∧ b = d ∧ e = 0) ∨ ((v = false ∨ (v = true ∧ T ≠ l)) ∧ a = 0 ∧ b = 0 ∧ e = 5))) (W : World) :
    Calls Try.prog 35 #[strV l] W fun z W' => z = .returned (.agg #[.int .i64 a, .int .i64 b, .int .i64 e]) ∧ Below W.heap.size W W' := by
  have hd0 : decide (0 < l.length) = true := decide_eq_true hl
  have hi0 : ∀ w : World, (Instr.index 9 (strV l) (.int .i64 0)).run Try.prog w = .ok (.int .u8 45) w := fun w => by have := idx_l l 0 hl w; rw [hx] at this; exact this
  have HL := Lib.hid hl
  clear hl hx
  by_cases hat : at0 < l.length
  · have hda : decide (at0 < (l.length : Int)) = true := by simpa using hat
    have HR := Lib.hid (H.r2 hat)
    have HH := Lib.hid H
    clear H hat
    go_enter Try.func35, Try.ntmps35
    go_wp2_with fail
    with_reducible refine (HH.out.r1 _).mono ?_
    rintro z w ⟨rfl, rfl⟩
    go_wp2_with fail
    with_reducible refine (HR.out _).mono ?_
    rintro z w ⟨rfl, rfl⟩
    go_wp2_with fail
    with_reducible refine (HH.out.vd _).mono ?_
    rintro z w4 ⟨rfl, hb4⟩
    have a0 : w4.cell? ⟨W.heap.size + 1, 0, none⟩ = some (.int .i64 (-n0)) := (hb4.cell (by simp)).trans (World.cell?_alloc_at _ _ _ _ (by simp))
    have a1 : w4.cell? ⟨W.heap.size + 1, 1, none⟩ = some (.int .i64 d) := (hb4.cell (by simp)).trans (World.cell?_alloc_at _ _ _ _ (by simp))
    have hz4 : W.heap.size + 1 + 1 ≤ w4.heap.size := by have := hb4.size; simpa using this
    have K4 : Hid (Below (W.heap.size + 1) (W.alloc (.cells #[.int .i64 0, .int .i64 0, .int .i64 0] 28)) w4) := Lib.hid ((((Below.refl _ _).alloc (by simp) _).trans (hb4.mono (by simp))))
    clear hb4
    rcases hr.out with ⟨rfl, rfl, rfl, rfl, rfl⟩ | ⟨hv, rfl, rfl, rfl⟩
    · have H5 := Lib.hid (HH.out.t rfl)
      clear hr
      go_wp2_with fail
      with_reducible refine (H5.out _).mono ?_
      rintro z w5 ⟨rfl, hb5⟩
      have b0 := (hb5.cell (p := ⟨W.heap.size + 1, 0, none⟩) (by show W.heap.size + 1 < _; omega)).trans a0
      have b1 := (hb5.cell (p := ⟨W.heap.size + 1, 1, none⟩) (by show W.heap.size + 1 < _; omega)).trans a1
      have K5 : Hid (Below (W.heap.size + 1) (W.alloc (.cells #[.int .i64 0, .int .i64 0, .int .i64 0] 28)) w5) := Lib.hid (K4.out.trans (hb5.mono (by omega)))
      have r0 : w5.cell? ⟨W.heap.size, 0, none⟩ = some (.int .i64 0) := (K5.out.cell (by simp)).trans (World.cell?_alloc_at _ _ _ _ rfl)
      have r1 : w5.cell? ⟨W.heap.size, 1, none⟩ = some (.int .i64 0) := (K5.out.cell (by simp)).trans (World.cell?_alloc_at _ _ _ _ rfl)
      have r2 : w5.cell? ⟨W.heap.size, 2, none⟩ = some (.int .i64 0) := (K5.out.cell (by simp)).trans (World.cell?_alloc_at _ _ _ _ rfl)
      have p0 : w5.frozen? ⟨W.heap.size, 0, none⟩ = false := (K5.out.frozen (by simp)).trans (World.frozen?_alloc_at _ _ _ _ rfl)
      have p1 : w5.frozen? ⟨W.heap.size, 1, none⟩ = false := (K5.out.frozen (by simp)).trans (World.frozen?_alloc_at _ _ _ _ rfl)
      have p2 : w5.frozen? ⟨W.heap.size, 2, none⟩ = false := (K5.out.frozen (by simp)).trans (World.frozen?_alloc_at _ _ _ _ rfl)
      have KF : Hid (Below W.heap.size W w5) := Lib.hid (((Below.refl _ _).alloc (Nat.le_refl _) _).trans (K5.out.mono (by omega)))
      clear hb5 a0 a1
      go_wp2
      exact bodyPost_ret (v := .agg #[.int .i64 (-n0), .int .i64 b, .int .i64 0]) (by simp [results, Try.results35, go_sem, r0, r1, r2]) rfl ⟨rfl, ((KF.out.setCell (Nat.le_refl _) _).setCell (Nat.le_refl _) _).setCell (Nat.le_refl _) _⟩
    · rcases hv with rfl | ⟨rfl, hT⟩
      · clear hr
        have r0 : w4.cell? ⟨W.heap.size, 0, none⟩ = some (.int .i64 0) := (K4.out.cell (by simp)).trans (World.cell?_alloc_at _ _ _ _ rfl)
        have r1 : w4.cell? ⟨W.heap.size, 1, none⟩ = some (.int .i64 0) := (K4.out.cell (by simp)).trans (World.cell?_alloc_at _ _ _ _ rfl)
        have r2 : w4.cell? ⟨W.heap.size, 2, none⟩ = some (.int .i64 0) := (K4.out.cell (by simp)).trans (World.cell?_alloc_at _ _ _ _ rfl)
        have p0 : w4.frozen? ⟨W.heap.size, 0, none⟩ = false := (K4.out.frozen (by simp)).trans (World.frozen?_alloc_at _ _ _ _ rfl)
        have p1 : w4.frozen? ⟨W.heap.size, 1, none⟩ = false := (K4.out.frozen (by simp)).trans (World.frozen?_alloc_at _ _ _ _ rfl)
        have p2 : w4.frozen? ⟨W.heap.size, 2, none⟩ = false := (K4.out.frozen (by simp)).trans (World.frozen?_alloc_at _ _ _ _ rfl)
        have KF : Hid (Below W.heap.size W w4) := Lib.hid (((Below.refl _ _).alloc (Nat.le_refl _) _).trans (K4.out.mono (by omega)))
        clear a0 a1
        go_wp2
        exact bodyPost_ret (v := .agg #[.int .i64 0, .int .i64 0, .int .i64 5]) (by simp [results, Try.results35, go_sem, r0, r1, r2]) rfl ⟨rfl, ((KF.out.setCell (Nat.le_refl _) _).setCell (Nat.le_refl _) _).setCell (Nat.le_refl _) _⟩
      · have H5 := Lib.hid (HH.out.t rfl)
        have HNE := Lib.hid (str_ne hT)
        clear hr hT
        go_wp2_with fail
        with_reducible refine (H5.out _).mono ?_
        rintro z w5 ⟨rfl, hb5⟩
        have b0 := (hb5.cell (p := ⟨W.heap.size + 1, 0, none⟩) (by show W.heap.size + 1 < _; omega)).trans a0
        have b1 := (hb5.cell (p := ⟨W.heap.size + 1, 1, none⟩) (by show W.heap.size + 1 < _; omega)).trans a1
        have K5 : Hid (Below (W.heap.size + 1) (W.alloc (.cells #[.int .i64 0, .int .i64 0, .int .i64 0] 28)) w5) := Lib.hid (K4.out.trans (hb5.mono (by omega)))
        have r0 : w5.cell? ⟨W.heap.size, 0, none⟩ = some (.int .i64 0) := (K5.out.cell (by simp)).trans (World.cell?_alloc_at _ _ _ _ rfl)
        have r1 : w5.cell? ⟨W.heap.size, 1, none⟩ = some (.int .i64 0) := (K5.out.cell (by simp)).trans (World.cell?_alloc_at _ _ _ _ rfl)
        have r2 : w5.cell? ⟨W.heap.size, 2, none⟩ = some (.int .i64 0) := (K5.out.cell (by simp)).trans (World.cell?_alloc_at _ _ _ _ rfl)
        have p0 : w5.frozen? ⟨W.heap.size, 0, none⟩ = false := (K5.out.frozen (by simp)).trans (World.frozen?_alloc_at _ _ _ _ rfl)
        have p1 : w5.frozen? ⟨W.heap.size, 1, none⟩ = false := (K5.out.frozen (by simp)).trans (World.frozen?_alloc_at _ _ _ _ rfl)
        have p2 : w5.frozen? ⟨W.heap.size, 2, none⟩ = false := (K5.out.frozen (by simp)).trans (World.frozen?_alloc_at _ _ _ _ rfl)
        have KF : Hid (Below W.heap.size W w5) := Lib.hid (((Below.refl _ _).alloc (Nat.le_refl _) _).trans (K5.out.mono (by omega)))
        clear hb5 a0 a1
        have hne := HNE.out
        go_wp2
        exact bodyPost_ret (v := .agg #[.int .i64 0, .int .i64 0, .int .i64 5]) (by simp [results, Try.results35, go_sem, r0, r1, r2]) rfl ⟨rfl, ((KF.out.setCell (Nat.le_refl _) _).setCell (Nat.le_refl _) _).setCell (Nat.le_refl _) _⟩
  · have hda : decide (at0 < (l.length : Int)) = false := by simpa using hat
    obtain rfl := h1 hat
    have HH := Lib.hid H
    clear H hat
    go_enter Try.func35, Try.ntmps35
    go_wp2_with fail
    with_reducible refine (HH.out.r1 _).mono ?_
    rintro z w ⟨rfl, rfl⟩
    go_wp2_with fail
    with_reducible refine (HH.out.vd _).mono ?_
    rintro z w4 ⟨rfl, hb4⟩
    have a0 : w4.cell? ⟨W.heap.size + 1, 0, none⟩ = some (.int .i64 (-n0)) := (hb4.cell (by simp)).trans (World.cell?_alloc_at _ _ _ _ (by simp))
    have a1 : w4.cell? ⟨W.heap.size + 1, 1, none⟩ = some (.int .i64 1) := (hb4.cell (by simp)).trans (World.cell?_alloc_at _ _ _ _ (by simp))
    have hz4 : W.heap.size + 1 + 1 ≤ w4.heap.size := by have := hb4.size; simpa using this
    have K4 : Hid (Below (W.heap.size + 1) (W.alloc (.cells #[.int .i64 0, .int .i64 0, .int .i64 0] 28)) w4) := Lib.hid ((((Below.refl _ _).alloc (by simp) _).trans (hb4.mono (by simp))))
    clear hb4
    rcases hr.out with ⟨rfl, rfl, rfl, rfl, rfl⟩ | ⟨hv, rfl, rfl, rfl⟩
    · have H5 := Lib.hid (HH.out.t rfl)
      clear hr
      go_wp2_with fail
      with_reducible refine (H5.out _).mono ?_
      rintro z w5 ⟨rfl, hb5⟩
      have b0 := (hb5.cell (p := ⟨W.heap.size + 1, 0, none⟩) (by show W.heap.size + 1 < _; omega)).trans a0
      have b1 := (hb5.cell (p := ⟨W.heap.size + 1, 1, none⟩) (by show W.heap.size + 1 < _; omega)).trans a1
      have K5 : Hid (Below (W.heap.size + 1) (W.alloc (.cells #[.int .i64 0, .int .i64 0, .int .i64 0] 28)) w5) := Lib.hid (K4.out.trans (hb5.mono (by omega)))
      have r0 : w5.cell? ⟨W.heap.size, 0, none⟩ = some (.int .i64 0) := (K5.out.cell (by simp)).trans (World.cell?_alloc_at _ _ _ _ rfl)
      have r1 : w5.cell? ⟨W.heap.size, 1, none⟩ = some (.int .i64 0) := (K5.out.cell (by simp)).trans (World.cell?_alloc_at _ _ _ _ rfl)
      have r2 : w5.cell? ⟨W.heap.size, 2, none⟩ = some (.int .i64 0) := (K5.out.cell (by simp)).trans (World.cell?_alloc_at _ _ _ _ rfl)
      have p0 : w5.frozen? ⟨W.heap.size, 0, none⟩ = false := (K5.out.frozen (by simp)).trans (World.frozen?_alloc_at _ _ _ _ rfl)
      have p1 : w5.frozen? ⟨W.heap.size, 1, none⟩ = false := (K5.out.frozen (by simp)).trans (World.frozen?_alloc_at _ _ _ _ rfl)
      have p2 : w5.frozen? ⟨W.heap.size, 2, none⟩ = false := (K5.out.frozen (by simp)).trans (World.frozen?_alloc_at _ _ _ _ rfl)
      have KF : Hid (Below W.heap.size W w5) := Lib.hid (((Below.refl _ _).alloc (Nat.le_refl _) _).trans (K5.out.mono (by omega)))
      clear hb5 a0 a1
      go_wp2
      exact bodyPost_ret (v := .agg #[.int .i64 (-n0), .int .i64 1, .int .i64 0]) (by simp [results, Try.results35, go_sem, r0, r1, r2]) rfl ⟨rfl, ((KF.out.setCell (Nat.le_refl _) _).setCell (Nat.le_refl _) _).setCell (Nat.le_refl _) _⟩
    · rcases hv with rfl | ⟨rfl, hT⟩
      · clear hr
        have r0 : w4.cell? ⟨W.heap.size, 0, none⟩ = some (.int .i64 0) := (K4.out.cell (by simp)).trans (World.cell?_alloc_at _ _ _ _ rfl)
        have r1 : w4.cell? ⟨W.heap.size, 1, none⟩ = some (.int .i64 0) := (K4.out.cell (by simp)).trans (World.cell?_alloc_at _ _ _ _ rfl)
        have r2 : w4.cell? ⟨W.heap.size, 2, none⟩ = some (.int .i64 0) := (K4.out.cell (by simp)).trans (World.cell?_alloc_at _ _ _ _ rfl)
        have p0 : w4.frozen? ⟨W.heap.size, 0, none⟩ = false := (K4.out.frozen (by simp)).trans (World.frozen?_alloc_at _ _ _ _ rfl)
        have p1 : w4.frozen? ⟨W.heap.size, 1, none⟩ = false := (K4.out.frozen (by simp)).trans (World.frozen?_alloc_at _ _ _ _ rfl)
        have p2 : w4.frozen? ⟨W.heap.size, 2, none⟩ = false := (K4.out.frozen (by simp)).trans (World.frozen?_alloc_at _ _ _ _ rfl)
        have KF : Hid (Below W.heap.size W w4) := Lib.hid (((Below.refl _ _).alloc (Nat.le_refl _) _).trans (K4.out.mono (by omega)))
        clear a0 a1
        go_wp2
        exact bodyPost_ret (v := .agg #[.int .i64 0, .int .i64 0, .int .i64 5]) (by simp [results, Try.results35, go_sem, r0, r1, r2]) rfl ⟨rfl, ((KF.out.setCell (Nat.le_refl _) _).setCell (Nat.le_refl _) _).setCell (Nat.le_refl _) _⟩
      · have H5 := Lib.hid (HH.out.t rfl)
        have HNE := Lib.hid (str_ne hT)
        clear hr hT
        go_wp2_with fail
        with_reducible refine (H5.out _).mono ?_
        rintro z w5 ⟨rfl, hb5⟩
        have b0 := (hb5.cell (p := ⟨W.heap.size + 1, 0, none⟩) (by show W.heap.size + 1 < _; omega)).trans a0
        have b1 := (hb5.cell (p := ⟨W.heap.size + 1, 1, none⟩) (by show W.heap.size + 1 < _; omega)).trans a1
        have K5 : Hid (Below (W.heap.size + 1) (W.alloc (.cells #[.int .i64 0, .int .i64 0, .int .i64 0] 28)) w5) := Lib.hid (K4.out.trans (hb5.mono (by omega)))
        have r0 : w5.cell? ⟨W.heap.size, 0, none⟩ = some (.int .i64 0) := (K5.out.cell (by simp)).trans (World.cell?_alloc_at _ _ _ _ rfl)
        have r1 : w5.cell? ⟨W.heap.size, 1, none⟩ = some (.int .i64 0) := (K5.out.cell (by simp)).trans (World.cell?_alloc_at _ _ _ _ rfl)
        have r2 : w5.cell? ⟨W.heap.size, 2, none⟩ = some (.int .i64 0) := (K5.out.cell (by simp)).trans (World.cell?_alloc_at _ _ _ _ rfl)
        have p0 : w5.frozen? ⟨W.heap.size, 0, none⟩ = false := (K5.out.frozen (by simp)).trans (World.frozen?_alloc_at _ _ _ _ rfl)
        have p1 : w5.frozen? ⟨W.heap.size, 1, none⟩ = false := (K5.out.frozen (by simp)).trans (World.frozen?_alloc_at _ _ _ _ rfl)
        have p2 : w5.frozen? ⟨W.heap.size, 2, none⟩ = false := (K5.out.frozen (by simp)).trans (World.frozen?_alloc_at _ _ _ _ rfl)
        have KF : Hid (Below W.heap.size W w5) := Lib.hid (((Below.refl _ _).alloc (Nat.le_refl _) _).trans (K5.out.mono (by omega)))
        clear hb5 a0 a1
        have hne := HNE.out
        go_wp2
        exact bodyPost_ret (v := .agg #[.int .i64 0, .int .i64 0, .int .i64 5]) (by simp [results, Try.results35, go_sem, r0, r1, r2]) rfl ⟨rfl, ((KF.out.setCell (Nat.le_refl _) _).setCell (Nat.le_refl _) _).setCell (Nat.le_refl _) _⟩
set_option maxHeartbeats 12800000 in
theorem parsein_n (l T : List UInt8) (n0 at0 x d : Int) (v : Bool) (hat0 : 0 ≤ at0 ∧ at0 ≤ 1000) (hn0 : 0 ≤ n0 ∧ n0 ≤ 4611686018427387909) (hll : l.length ≤ 1000) (hl : 0 < l.length) (hx : l.getD 0 0 ≠ 45) (H : PI l T 0 n0 at0 x d n0 v) (h1 : ¬ at0 < l.length → d = 1)
    (a b e : Int) (hr : Hid ((v = true ∧ T = l ∧ a = n0 ∧ b = d ∧ e = 0) ∨ ((v = false ∨ (v = true ∧ T ≠ l)) ∧ a = 0 ∧ b = 0 ∧ e = 5))) (W : World) :
    Calls Try.prog 35 #[strV l] W fun z W' => z = .returned (.agg #[.int .i64 a, .int .i64 b, .int .i64 e]) ∧ Below W.heap.size W W' := by
  have hd0 : decide (0 < l.length) = true := decide_eq_true hl
  have hi0 : ∀ w : World, (Instr.index 9 (strV l) (.int .i64 0)).run Try.prog w = .ok (.int .u8 ((l.getD 0 0).toNat : Int)) w := fun w => idx_l l 0 hl w
  have hxx : (((l.getD 0 0).toNat : Int) == 45) = false := beq_false_of_ne (fun h => hx (UInt8.toNat_inj.1 (by show _ = 45; omega)))
  generalize ((l.getD 0 0).toNat : Int) = y at *
  have HL := Lib.hid hl
  clear hl hx
  by_cases hat : at0 < l.length
  · have hda : decide (at0 < (l.length : Int)) = true := by simpa using hat
    have HR := Lib.hid (H.r2 hat)
    have HH := Lib.hid H
    clear H hat
    go_enter Try.func35, Try.ntmps35
    go_wp2_with fail
    with_reducible refine (HH.out.r1 _).mono ?_
    rintro z w ⟨rfl, rfl⟩
    go_wp2_with fail
    with_reducible refine (HR.out _).mono ?_
    rintro z w ⟨rfl, rfl⟩
    go_wp2_with fail
    with_reducible refine (HH.out.vd _).mono ?_
    rintro z w4 ⟨rfl, hb4⟩
    have a0 : w4.cell? ⟨W.heap.size + 1, 0, none⟩ = some (.int .i64 n0) := (hb4.cell (by simp)).trans (World.cell?_alloc_at _ _ _ _ (by simp))
    have a1 : w4.cell? ⟨W.heap.size + 1, 1, none⟩ = some (.int .i64 d) := (hb4.cell (by simp)).trans (World.cell?_alloc_at _ _ _ _ (by simp))
    have hz4 : W.heap.size + 1 + 1 ≤ w4.heap.size := by have := hb4.size; simpa using this
    have K4 : Hid (Below (W.heap.size + 1) (W.alloc (.cells #[.int .i64 0, .int .i64 0, .int .i64 0] 28)) w4) := Lib.hid ((((Below.refl _ _).alloc (by simp) _).trans (hb4.mono (by simp))))
    clear hb4
    rcases hr.out with ⟨rfl, rfl, rfl, rfl, rfl⟩ | ⟨hv, rfl, rfl, rfl⟩
    · have H5 := Lib.hid (HH.out.t rfl)
      clear hr
      go_wp2_with fail
      with_reducible refine (H5.out _).mono ?_
      rintro z w5 ⟨rfl, hb5⟩
      have b0 := (hb5.cell (p := ⟨W.heap.size + 1, 0, none⟩) (by show W.heap.size + 1 < _; omega)).trans a0
      have b1 := (hb5.cell (p := ⟨W.heap.size + 1, 1, none⟩) (by show W.heap.size + 1 < _; omega)).trans a1
      have K5 : Hid (Below (W.heap.size + 1) (W.alloc (.cells #[.int .i64 0, .int .i64 0, .int .i64 0] 28)) w5) := Lib.hid (K4.out.trans (hb5.mono (by omega)))
      have r0 : w5.cell? ⟨W.heap.size, 0, none⟩ = some (.int .i64 0) := (K5.out.cell (by simp)).trans (World.cell?_alloc_at _ _ _ _ rfl)
      have r1 : w5.cell? ⟨W.heap.size, 1, none⟩ = some (.int .i64 0) := (K5.out.cell (by simp)).trans (World.cell?_alloc_at _ _ _ _ rfl)
      have r2 : w5.cell? ⟨W.heap.size, 2, none⟩ = some (.int .i64 0) := (K5.out.cell (by simp)).trans (World.cell?_alloc_at _ _ _ _ rfl)
      have p0 : w5.frozen? ⟨W.heap.size, 0, none⟩ = false := (K5.out.frozen (by simp)).trans (World.frozen?_alloc_at _ _ _ _ rfl)
      have p1 : w5.frozen? ⟨W.heap.size, 1, none⟩ = false := (K5.out.frozen (by simp)).trans (World.frozen?_alloc_at _ _ _ _ rfl)
      have p2 : w5.frozen? ⟨W.heap.size, 2, none⟩ = false := (K5.out.frozen (by simp)).trans (World.frozen?_alloc_at _ _ _ _ rfl)
      have KF : Hid (Below W.heap.size W w5) := Lib.hid (((Below.refl _ _).alloc (Nat.le_refl _) _).trans (K5.out.mono (by omega)))
      clear hb5 a0 a1
      go_wp2
      exact bodyPost_ret (v := .agg #[.int .i64 a, .int .i64 b, .int .i64 0]) (by simp [results, Try.results35, go_sem, r0, r1, r2]) rfl ⟨rfl, ((KF.out.setCell (Nat.le_refl _) _).setCell (Nat.le_refl _) _).setCell (Nat.le_refl _) _⟩
    · rcases hv with rfl | ⟨rfl, hT⟩
      · clear hr
        have r0 : w4.cell? ⟨W.heap.size, 0, none⟩ = some (.int .i64 0) := (K4.out.cell (by simp)).trans (World.cell?_alloc_at _ _ _ _ rfl)
        have r1 : w4.cell? ⟨W.heap.size, 1, none⟩ = some (.int .i64 0) := (K4.out.cell (by simp)).trans (World.cell?_alloc_at _ _ _ _ rfl)
        have r2 : w4.cell? ⟨W.heap.size, 2, none⟩ = some (.int .i64 0) := (K4.out.cell (by simp)).trans (World.cell?_alloc_at _ _ _ _ rfl)
        have p0 : w4.frozen? ⟨W.heap.size, 0, none⟩ = false := (K4.out.frozen (by simp)).trans (World.frozen?_alloc_at _ _ _ _ rfl)
        have p1 : w4.frozen? ⟨W.heap.size, 1, none⟩ = false := (K4.out.frozen (by simp)).trans (World.frozen?_alloc_at _ _ _ _ rfl)
        have p2 : w4.frozen? ⟨W.heap.size, 2, none⟩ = false := (K4.out.frozen (by simp)).trans (World.frozen?_alloc_at _ _ _ _ rfl)
        have KF : Hid (Below W.heap.size W w4) := Lib.hid (((Below.refl _ _).alloc (Nat.le_refl _) _).trans (K4.out.mono (by omega)))
        clear a0 a1
        go_wp2
        exact bodyPost_ret (v := .agg #[.int .i64 0, .int .i64 0, .int .i64 5]) (by simp [results, Try.results35, go_sem, r0, r1, r2]) rfl ⟨rfl, ((KF.out.setCell (Nat.le_refl _) _).setCell (Nat.le_refl _) _).setCell (Nat.le_refl _) _⟩
      · have H5 := Lib.hid (HH.out.t rfl)
        have HNE := Lib.hid (str_ne hT)
        clear hr hT
        go_wp2_with fail
        with_reducible refine (H5.out _).mono ?_
        rintro z w5 ⟨rfl, hb5⟩
        have b0 := (hb5.cell (p := ⟨W.heap.size + 1, 0, none⟩) (by show W.heap.size + 1 < _; omega)).trans a0
        have b1 := (hb5.cell (p := ⟨W.heap.size + 1, 1, none⟩) (by show W.heap.size + 1 < _; omega)).trans a1
        have K5 : Hid (Below (W.heap.size + 1) (W.alloc (.cells #[.int .i64 0, .int .i64 0, .int .i64 0] 28)) w5) := Lib.hid (K4.out.trans (hb5.mono (by omega)))
        have r0 : w5.cell? ⟨W.heap.size, 0, none⟩ = some (.int .i64 0) := (K5.out.cell (by simp)).trans (World.cell?_alloc_at _ _ _ _ rfl)
        have r1 : w5.cell? ⟨W.heap.size, 1, none⟩ = some (.int .i64 0) := (K5.out.cell (by simp)).trans (World.cell?_alloc_at _ _ _ _ rfl)
        have r2 : w5.cell? ⟨W.heap.size, 2, none⟩ = some (.int .i64 0) := (K5.out.cell (by simp)).trans (World.cell?_alloc_at _ _ _ _ rfl)
        have p0 : w5.frozen? ⟨W.heap.size, 0, none⟩ = false := (K5.out.frozen (by simp)).trans (World.frozen?_alloc_at _ _ _ _ rfl)
        have p1 : w5.frozen? ⟨W.heap.size, 1, none⟩ = false := (K5.out.frozen (by simp)).trans (World.frozen?_alloc_at _ _ _ _ rfl)
        have p2 : w5.frozen? ⟨W.heap.size, 2, none⟩ = false := (K5.out.frozen (by simp)).trans (World.frozen?_alloc_at _ _ _ _ rfl)
        have KF : Hid (Below W.heap.size W w5) := Lib.hid (((Below.refl _ _).alloc (Nat.le_refl _) _).trans (K5.out.mono (by omega)))
        clear hb5 a0 a1
        have hne := HNE.out
        go_wp2
        exact bodyPost_ret (v := .agg #[.int .i64 0, .int .i64 0, .int .i64 5]) (by simp [results, Try.results35, go_sem, r0, r1, r2]) rfl ⟨rfl, ((KF.out.setCell (Nat.le_refl _) _).setCell (Nat.le_refl _) _).setCell (Nat.le_refl _) _⟩
  · have hda : decide (at0 < (l.length : Int)) = false := by simpa using hat
    obtain rfl := h1 hat
    have HH := Lib.hid H
    clear H hat
    go_enter Try.func35, Try.ntmps35
    go_wp2_with fail
    with_reducible refine (HH.out.r1 _).mono ?_
    rintro z w ⟨rfl, rfl⟩
    go_wp2_with fail
    with_reducible refine (HH.out.vd _).mono ?_
    rintro z w4 ⟨rfl, hb4⟩
    have a0 : w4.cell? ⟨W.heap.size + 1, 0, none⟩ = some (.int .i64 n0) := (hb4.cell (by simp)).trans (World.cell?_alloc_at _ _ _ _ (by simp))
    have a1 : w4.cell? ⟨W.heap.size + 1, 1, none⟩ = some (.int .i64 1) := (hb4.cell (by simp)).trans (World.cell?_alloc_at _ _ _ _ (by simp))
    have hz4 : W.heap.size + 1 + 1 ≤ w4.heap.size := by have := hb4.size; simpa using this
    have K4 : Hid (Below (W.heap.size + 1) (W.alloc (.cells #[.int .i64 0, .int .i64 0, .int .i64 0] 28)) w4) := Lib.hid ((((Below.refl _ _).alloc (by simp) _).trans (hb4.mono (by simp))))
    clear hb4
    rcases hr.out with ⟨rfl, rfl, rfl, rfl, rfl⟩ | ⟨hv, rfl, rfl, rfl⟩
    · have H5 := Lib.hid (HH.out.t rfl)
      clear hr
      go_wp2_with fail
      with_reducible refine (H5.out _).mono ?_
      rintro z w5 ⟨rfl, hb5⟩
      have b0 := (hb5.cell (p := ⟨W.heap.size + 1, 0, none⟩) (by show W.heap.size + 1 < _; omega)).trans a0
      have b1 := (hb5.cell (p := ⟨W.heap.size + 1, 1, none⟩) (by show W.heap.size + 1 < _; omega)).trans a1
      have K5 : Hid (Below (W.heap.size + 1) (W.alloc (.cells #[.int .i64 0, .int .i64 0, .int .i64 0] 28)) w5) := Lib.hid (K4.out.trans (hb5.mono (by omega)))
      have r0 : w5.cell? ⟨W.heap.size, 0, none⟩ = some (.int .i64 0) := (K5.out.cell (by simp)).trans (World.cell?_alloc_at _ _ _ _ rfl)
      have r1 : w5.cell? ⟨W.heap.size, 1, none⟩ = some (.int .i64 0) := (K5.out.cell (by simp)).trans (World.cell?_alloc_at _ _ _ _ rfl)
      have r2 : w5.cell? ⟨W.heap.size, 2, none⟩ = some (.int .i64 0) := (K5.out.cell (by simp)).trans (World.cell?_alloc_at _ _ _ _ rfl)
      have p0 : w5.frozen? ⟨W.heap.size, 0, none⟩ = false := (K5.out.frozen (by simp)).trans (World.frozen?_alloc_at _ _ _ _ rfl)
      have p1 : w5.frozen? ⟨W.heap.size, 1, none⟩ = false := (K5.out.frozen (by simp)).trans (World.frozen?_alloc_at _ _ _ _ rfl)
      have p2 : w5.frozen? ⟨W.heap.size, 2, none⟩ = false := (K5.out.frozen (by simp)).trans (World.frozen?_alloc_at _ _ _ _ rfl)
      have KF : Hid (Below W.heap.size W w5) := Lib.hid (((Below.refl _ _).alloc (Nat.le_refl _) _).trans (K5.out.mono (by omega)))
      clear hb5 a0 a1
      go_wp2
      exact bodyPost_ret (v := .agg #[.int .i64 a, .int .i64 1, .int .i64 0]) (by simp [results, Try.results35, go_sem, r0, r1, r2]) rfl ⟨rfl, ((KF.out.setCell (Nat.le_refl _) _).setCell (Nat.le_refl _) _).setCell (Nat.le_refl _) _⟩
    · rcases hv with rfl | ⟨rfl, hT⟩
      · clear hr
        have r0 : w4.cell? ⟨W.heap.size, 0, none⟩ = some (.int .i64 0) := (K4.out.cell (by simp)).trans (World.cell?_alloc_at _ _ _ _ rfl)
        have r1 : w4.cell? ⟨W.heap.size, 1, none⟩ = some (.int .i64 0) := (K4.out.cell (by simp)).trans (World.cell?_alloc_at _ _ _ _ rfl)
        have r2 : w4.cell? ⟨W.heap.size, 2, none⟩ = some (.int .i64 0) := (K4.out.cell (by simp)).trans (World.cell?_alloc_at _ _ _ _ rfl)
        have p0 : w4.frozen? ⟨W.heap.size, 0, none⟩ = false := (K4.out.frozen (by simp)).trans (World.frozen?_alloc_at _ _ _ _ rfl)
        have p1 : w4.frozen? ⟨W.heap.size, 1, none⟩ = false := (K4.out.frozen (by simp)).trans (World.frozen?_alloc_at _ _ _ _ rfl)
        have p2 : w4.frozen? ⟨W.heap.size, 2, none⟩ = false := (K4.out.frozen (by simp)).trans (World.frozen?_alloc_at _ _ _ _ rfl)
        have KF : Hid (Below W.heap.size W w4) := Lib.hid (((Below.refl _ _).alloc (Nat.le_refl _) _).trans (K4.out.mono (by omega)))
        clear a0 a1
        go_wp2
        exact bodyPost_ret (v := .agg #[.int .i64 0, .int .i64 0, .int .i64 5]) (by simp [results, Try.results35, go_sem, r0, r1, r2]) rfl ⟨rfl, ((KF.out.setCell (Nat.le_refl _) _).setCell (Nat.le_refl _) _).setCell (Nat.le_refl _) _⟩
      · have H5 := Lib.hid (HH.out.t rfl)
        have HNE := Lib.hid (str_ne hT)
        clear hr hT
        go_wp2_with fail
        with_reducible refine (H5.out _).mono ?_
        rintro z w5 ⟨rfl, hb5⟩
        have b0 := (hb5.cell (p := ⟨W.heap.size + 1, 0, none⟩) (by show W.heap.size + 1 < _; omega)).trans a0
        have b1 := (hb5.cell (p := ⟨W.heap.size + 1, 1, none⟩) (by show W.heap.size + 1 < _; omega)).trans a1
        have K5 : Hid (Below (W.heap.size + 1) (W.alloc (.cells #[.int .i64 0, .int .i64 0, .int .i64 0] 28)) w5) := Lib.hid (K4.out.trans (hb5.mono (by omega)))
        have r0 : w5.cell? ⟨W.heap.size, 0, none⟩ = some (.int .i64 0) := (K5.out.cell (by simp)).trans (World.cell?_alloc_at _ _ _ _ rfl)
        have r1 : w5.cell? ⟨W.heap.size, 1, none⟩ = some (.int .i64 0) := (K5.out.cell (by simp)).trans (World.cell?_alloc_at _ _ _ _ rfl)
        have r2 : w5.cell? ⟨W.heap.size, 2, none⟩ = some (.int .i64 0) := (K5.out.cell (by simp)).trans (World.cell?_alloc_at _ _ _ _ rfl)
        have p0 : w5.frozen? ⟨W.heap.size, 0, none⟩ = false := (K5.out.frozen (by simp)).trans (World.frozen?_alloc_at _ _ _ _ rfl)
        have p1 : w5.frozen? ⟨W.heap.size, 1, none⟩ = false := (K5.out.frozen (by simp)).trans (World.frozen?_alloc_at _ _ _ _ rfl)
        have p2 : w5.frozen? ⟨W.heap.size, 2, none⟩ = false := (K5.out.frozen (by simp)).trans (World.frozen?_alloc_at _ _ _ _ rfl)
        have KF : Hid (Below W.heap.size W w5) := Lib.hid (((Below.refl _ _).alloc (Nat.le_refl _) _).trans (K5.out.mono (by omega)))
        clear hb5 a0 a1
        have hne := HNE.out
        go_wp2
        exact bodyPost_ret (v := .agg #[.int .i64 0, .int .i64 0, .int .i64 5]) (by simp [results, Try.results35, go_sem, r0, r1, r2]) rfl ⟨rfl, ((KF.out.setCell (Nat.le_refl _) _).setCell (Nat.le_refl _) _).setCell (Nat.le_refl _) _⟩
end Go.Proofs.Ytieabeodommbiaa
