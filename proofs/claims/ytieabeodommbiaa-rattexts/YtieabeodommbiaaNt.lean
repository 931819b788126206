/- Decimal digits: the program's and the reference's. -/
import Derived.Test.YtieabeodommbiaaNd
import Derived.Laws.Concat
import Derived.Laws.BytesString
import Derived.Deep.RegionHeld3
import Derived.Test.YtieabeodommbiaaNq
namespace Go.Proofs.Ytieabeodommbiaa
open Go.RowKit
set_option maxRecDepth 100000
set_option linter.unusedVariables false

/-- decimal digits as bytes -/
def digs (n : Nat) : List UInt8 := if h : n < 10 then [UInt8.ofNat (48 + n)] else digs (n / 10) ++ [UInt8.ofNat (48 + n % 10)]
termination_by n
decreasing_by omega
theorem digs_lt {n : Nat} (h : n < 10) : digs n = [UInt8.ofNat (48 + n)] := by rw [digs, dif_pos h]
theorem digs_ge {n : Nat} (h : 10 ≤ n) : digs n = digs (n / 10) ++ [UInt8.ofNat (48 + n % 10)] := by rw [digs, dif_neg (by omega)]
theorem digs_len : ∀ (k n : Nat), n < 10 ^ (k + 1) → (digs n).length ≤ k + 1
  | 0, n, h => by rw [digs_lt (by simpa using h)]; simp
  | k + 1, n, h => by
    by_cases hn : n < 10
    · rw [digs_lt hn]; simp
    · rw [digs_ge (by omega), List.length_append, List.length_singleton]
      have := digs_len k (n / 10) (by rw [Nat.pow_succ] at h; omega)
      omega
abbrev strV (l : List UInt8) : Value := .string ⟨l.toArray⟩
set_option maxHeartbeats 1600000 in
theorem digits_0 (n : Nat) (hn : n < 10) (W : World) : Calls Try.prog 59 #[.int .i64 n] W fun e W' => e = .returned (strV (digs n)) ∧ W' = W := by
  rw [digs_lt hn]
  match n, hn with
  | 0, _ => go_enter Try.func59, Try.ntmps59; go_wp2; go_ret; exact ⟨rfl, rfl⟩
  | 1, _ => go_enter Try.func59, Try.ntmps59; go_wp2; go_ret; exact ⟨rfl, rfl⟩
  | 2, _ => go_enter Try.func59, Try.ntmps59; go_wp2; go_ret; exact ⟨rfl, rfl⟩
  | 3, _ => go_enter Try.func59, Try.ntmps59; go_wp2; go_ret; exact ⟨rfl, rfl⟩
  | 4, _ => go_enter Try.func59, Try.ntmps59; go_wp2; go_ret; exact ⟨rfl, rfl⟩
  | 5, _ => go_enter Try.func59, Try.ntmps59; go_wp2; go_ret; exact ⟨rfl, rfl⟩
  | 6, _ => go_enter Try.func59, Try.ntmps59; go_wp2; go_ret; exact ⟨rfl, rfl⟩
  | 7, _ => go_enter Try.func59, Try.ntmps59; go_wp2; go_ret; exact ⟨rfl, rfl⟩
  | 8, _ => go_enter Try.func59, Try.ntmps59; go_wp2; go_ret; exact ⟨rfl, rfl⟩
  | 9, _ => go_enter Try.func59, Try.ntmps59; go_wp2; go_ret; exact ⟨rfl, rfl⟩
set_option maxHeartbeats 1600000 in
theorem digits_1 (n : Nat) (hn : 10 ≤ n) (hm : n ≤ 9223372036854775807) (l m : List UInt8) (hl : l.length ≤ 20) (hl2 : m.length ≤ 20) (W : World)
    (h1 : ∀ w, Calls Try.prog 59 #[.int .i64 ((n : Int) / 10)] w fun e w' => e = .returned (strV l) ∧ w' = w)
    (h2 : ∀ w, Calls Try.prog 59 #[.int .i64 ((n : Int) % 10)] w fun e w' => e = .returned (strV m) ∧ w' = w) :
    Calls Try.prog 59 #[.int .i64 n] W fun e W' => e = .returned (strV (l ++ m)) ∧ W' = W := by
  have H1 := Lib.hid h1
  have H2 := Lib.hid h2
  clear h1 h2
  have hc := fun (w : World) => run_string_add_lists (P := Try.prog) (w := w) l m (by omega) (by omega)
  have HC := Lib.hid hc
  clear hc
  go_enter Try.func59, Try.ntmps59
  go_wp2_with fail
  refine (H1.out _).mono ?_
  rintro e w ⟨rfl, rfl⟩
  go_wp2_with fail
  refine (H2.out _).mono ?_
  rintro e w ⟨rfl, rfl⟩
  have hc := HC.out
  go_wp2
  go_ret
  exact ⟨rfl, rfl⟩
theorem digits_c (n : Nat) (hm : n ≤ 9223372036854775807) (W : World) : Calls Try.prog 59 #[.int .i64 n] W fun e W' => e = .returned (strV (digs n)) ∧ W' = W := by
  induction n using Nat.strongRecOn generalizing W with
  | _ n ih =>
    by_cases h : n < 10
    · exact digits_0 n h W
    · rw [digs_ge (by omega)]
      have e := digs_lt (show n % 10 < 10 by omega)
      rw [← e]
      refine digits_1 n (by omega) hm _ _ (digs_len 19 _ (by omega)) (digs_len 19 _ (by omega)) W (fun w => ?_) (fun w => ?_)
      · have := ih (n / 10) (by omega) (by omega) w
        rwa [show ((n / 10 : Nat) : Int) = (n : Int) / 10 by omega] at this
      · have := digits_0 (n % 10) (by omega) w
        rwa [show ((n % 10 : Nat) : Int) = (n : Int) % 10 by omega] at this
/-- the cells behind the place f hold the digits T -/
structure DL (n f m : Nat) (T : List UInt8) : Prop where
  len : T.length + f = 19
  pow : m = n / 10 ^ T.length
  dg : digs n = digs m ++ T
theorem DL.start (n : Nat) : DL n 19 n [] := ⟨rfl, by simp, by simp⟩
theorem DL.pos {n f m : Nat} {T : List UInt8} (h : DL n f m T) (hn : n ≤ 18446744073709551615) (hm : 10 ≤ m) : 1 ≤ f := by
  rcases Nat.eq_zero_or_pos f with rfl | h0
  · exfalso
    have h1 := h.len
    have h2 := h.pow
    rw [show T.length = 19 by omega] at h2
    omega
  · exact h0
theorem DL.step {n f m : Nat} {T : List UInt8} (h : DL n (f + 1) m T) (hm : 10 ≤ m) : DL n f (m / 10) (UInt8.ofNat (48 + m % 10) :: T) := by
  refine ⟨by have := h.len; simp; omega, ?_, ?_⟩
  · rw [List.length_cons, Nat.pow_succ, ← Nat.div_div_eq_div_mul, ← h.pow]
  · rw [h.dg, digs_ge hm]; simp
theorem DL.fin {n f m : Nat} {T : List UInt8} (h : DL n f m T) (hm : m < 10) : digs n = UInt8.ofNat (48 + m) :: T := by
  rw [h.dg, digs_lt hm]; rfl
/-- what the cells of the array hold -/
def cellD (f : Nat) (T : List UInt8) (j : Nat) : Int := if j ≤ f then 0 else ((T.getD (j - (f + 1)) 0).toNat : Int)
def Row (B f : Nat) (T : List UInt8) (w : World) : Prop := ∀ j, j < 20 → w.cell? ⟨B, j, none⟩ = some (.int .u8 (cellD f T j)) ∧ w.frozen? ⟨B, j, none⟩ = false
theorem Row.set {B f : Nat} {T : List UInt8} {w : World} (h : Row B f T w) (hf : f < 20) (x : UInt8) : ∀ j, j < 20 → (w.setCell ⟨B, f, none⟩ (.int .u8 x.toNat)).cell? ⟨B, j, none⟩ = some (.int .u8 (if j < f then 0 else (((x :: T).getD (j - f) 0).toNat : Int))) ∧ (w.setCell ⟨B, f, none⟩ (.int .u8 x.toNat)).frozen? ⟨B, j, none⟩ = false := by
  intro j hj
  refine ⟨?_, by simpa using (h j hj).2⟩
  by_cases e : j = f
  · subst e
    rw [World.cell?_setCell_same _ _ _ (h j hj).1]
    simp
  · rw [World.cell?_setCell_other _ _ _ _ (by intro h; cases h; exact e rfl), (h j hj).1]
    unfold cellD
    by_cases hl : j < f
    · rw [if_pos hl, if_pos (by omega)]
    · rw [if_neg hl, if_neg (by omega)]
      obtain ⟨d, rfl⟩ : ∃ d, j = f + 1 + d := ⟨j - (f + 1), by omega⟩
      rw [show f + 1 + d - (f + 1) = d by omega, show f + 1 + d - f = d + 1 by omega]
      simp
theorem Row.next {B f : Nat} {T : List UInt8} {w : World} (h : Row B (f + 1) T w) (hf : f + 1 < 20) (x : UInt8) : Row B f (x :: T) (w.setCell ⟨B, f + 1, none⟩ (.int .u8 x.toNat)) := by
  intro j hj
  refine ⟨((h.set hf x) j hj).1.trans ?_, ((h.set hf x) j hj).2⟩
  unfold cellD
  by_cases hl : j < f + 1
  · rw [if_pos hl, if_pos (by omega)]
  · rw [if_neg hl, if_neg (by omega)]
theorem fold_push : ∀ (l : List UInt8) (s : ByteArray), (l.map (fun x => ((x.toNat : Nat) : Int))).foldl (fun r n => r.push (UInt8.ofNat n.toNat)) s = ⟨(s.data.toList ++ l).toArray⟩
  | [], s => by simp
  | x :: l, s => by
    simp only [List.map_cons, List.foldl_cons]
    rw [fold_push l]
    simp [ByteArray.push]
/-- the conversion of the last cells to a string -/
theorem conv_row {B f : Nat} {l : List UInt8} {w : World} (cap : Nat) (h : ∀ j, j < l.length → w.cell? ⟨B, f + j, none⟩ = some (.int .u8 ((l.getD j 0).toNat : Int))) :
    (convert 76 9 (.slice (some ⟨B, f, none⟩) l.length cap)).run Try.prog w = .ok (strV l) w := by
  rw [run_convert_bytes_string (e := 5) w 76 9 _ _ _ (by kernel_rfl) (by kernel_rfl) (by kernel_rfl)]
  have hl := run_loadCells_list (P := Try.prog) (w := w) ⟨B, f, none⟩ ((l.map fun x => ((x.toNat : Nat) : Int)).map (Value.int .u8)) (fun j v hv => by
    rw [List.getElem?_map, List.getElem?_map] at hv
    have hj : j < l.length := by
      rcases Nat.lt_or_ge j l.length with h | h
      · exact h
      · rw [List.getElem?_eq_none h] at hv; cases hv
    rw [List.getElem?_eq_getElem hj] at hv
    simp at hv
    subst hv
    have := h j hj
    have e : Addr.add ⟨B, f, none⟩ j = ⟨B, f + j, none⟩ := by simp only [Addr.add]; split <;> simp_all
    rw [e, this]
    simp [List.getD, hj])
  rw [List.length_map, List.length_map] at hl
  rw [run_bytesToString w _ _ _ _ hl, fold_push]
  rfl
theorem arr89 : Try.prog.underlying 89 = some (.array (Try.prog.arrayLen 89) (Try.prog.elem 89)) := by kernel_rfl
theorem len89 : Try.prog.arrayLen 89 = 20 := by kernel_rfl
theorem size89 (w : World) : (sizeOf (Try.prog.elem 89)).run Try.prog w = .ok 1 w := by kernel_rfl
theorem slice89 {B f : Nat} (hf : f ≤ 19) (w : World) : (Instr.sliceAt 89 (.pointer (some ⟨B, 0, none⟩)) (some (.int .i64 f)) none none).run Try.prog w = .ok (.slice (some ⟨B, f, none⟩) (20 - f) (20 - f)) w := by
  rw [run_sliceAt_array_l w 89 _ arr89 .i64 f (by omega) (by rw [len89]; omega), size89, len89]
  have e : Addr.add ⟨B, 0, none⟩ (f * 1) = ⟨B, f, none⟩ := by simp only [Addr.add]; split <;> simp_all
  show Result.ok (slicedAt ⟨B, 0, none⟩ (Int.toNat (f : Int)) 20 20 1) w = _
  rw [Int.toNat_natCast]
  unfold slicedAt
  rw [if_neg (by omega), e]
set_option maxHeartbeats 3200000 in
theorem decimal_c (n : Nat) (hm : n ≤ 18446744073709551615) (W : World) : Calls Try.prog 58 #[.int .u64 n] W fun e W' => e = .returned (strV (digs n)) ∧ Below W.heap.size W W' := by
  go_enter Try.func58, Try.ntmps58
  go_wp2
  go_loopw [0, 4] (fun nv fv wr => ∃ (m f : Nat) (T : List UInt8), nv = .int .u64 m ∧ fv = .int .i64 f ∧ f ≤ 19 ∧ m ≤ 18446744073709551615 ∧ Hid (DL n f m T) ∧ Hid (Row W.heap.size f T wr) ∧ Hid (Below W.heap.size W wr)) (fun nv _ _ => (intOf nv).toNat)
  case atStart =>
    refine ⟨n, 19, [], rfl, rfl, Nat.le_refl _, hm, DL.start n, fun j hj => ⟨?_, ?_⟩, (Below.refl _ _).alloc (Nat.le_refl _) _⟩
    · rw [World.cell?_alloc_at _ _ _ _ rfl]
      unfold cellD
      rw [if_pos (by omega)]
      match j, hj with
      | 0, _ | 1, _ | 2, _ | 3, _ | 4, _ | 5, _ | 6, _ | 7, _ | 8, _ | 9, _ | 10, _ | 11, _ | 12, _ | 13, _ | 14, _ | 15, _ | 16, _ | 17, _ | 18, _ | 19, _ => rfl
      | j + 20, hj => omega
    · exact World.frozen?_alloc_at _ _ _ _ (by simp)
  case round =>
    obtain ⟨m, f, T, rfl, rfl, hf, hmm, HD, HRW, HB⟩ := hrel
    by_cases h10 : 10 ≤ m
    · obtain ⟨g, rfl⟩ : ∃ g, f = g + 1 := ⟨f - 1, by have := HD.out.pos hm h10; omega⟩
      have HD2 := Lib.hid (HD.out.step h10)
      have HR2 := Lib.hid (HRW.out.next (by omega) (UInt8.ofNat (48 + m % 10)))
      have hc := (HRW.out (g + 1) (by omega)).1
      have hfz := (HRW.out (g + 1) (by omega)).2
      have hx : ((UInt8.ofNat (48 + m % 10)).toNat : Int) = 48 + (m : Int) % 10 := by rw [UInt8.toNat_ofNat_of_lt' (by show _ < 256; omega)]; omega
      have HX := Lib.hid hx
      clear hx
      have hd : decide (10 ≤ (m : Int)) = true := by simp; omega
      go_wp2
      go_roundw
      case rel => exact ⟨m / 10, g, _, by rw [Int.natCast_ediv]; rfl, rfl, by omega, by omega, HD2, by rw [← HX.out]; exact HR2, HB.out.setCell (Nat.le_refl _) _⟩
      case measure => simp [intOf]; omega
    · have HF := Lib.hid (HD.out.fin (by omega))
      have hc := (HRW.out f (by omega)).1
      have hfz := (HRW.out f (by omega)).2
      have hx : ((UInt8.ofNat (48 + m)).toNat : Int) = 48 + (m : Int) := by rw [UInt8.toNat_ofNat_of_lt' (by show _ < 256; omega)]; omega
      have HC : Hid (∀ cap, (convert 76 9 (.slice (some ⟨W.heap.size, f, none⟩) (20 - f) cap)).run Try.prog (wr.setCell ⟨W.heap.size, f, none⟩ (.int .u8 (48 + (m : Int)))) = .ok (strV (digs n)) (wr.setCell ⟨W.heap.size, f, none⟩ (.int .u8 (48 + (m : Int))))) := Lib.hid (fun cap => by
        have hl : (UInt8.ofNat (48 + m) :: T).length = 20 - f := by have := HD.out.len; simp; omega
        have h := conv_row (B := W.heap.size) (f := f) (l := UInt8.ofNat (48 + m) :: T) (w := wr.setCell ⟨W.heap.size, f, none⟩ (.int .u8 (UInt8.ofNat (48 + m)).toNat)) cap (fun j hj => by
          have := ((HRW.out.set (by omega) (UInt8.ofNat (48 + m))) (f + j) (by omega)).1
          rw [if_neg (by omega), show f + j - f = j by omega] at this
          exact this)
        rw [hl, hx] at h
        rw [HF.out]
        exact h)
      have hsl := fun w => slice89 (B := W.heap.size) hf w
      clear hx
      go_wp2_with fail
      rw [HC.out (20 - f)]
      go_wp2
      go_ret
      exact ⟨rfl, HB.out.setCell (Nat.le_refl _) _⟩
end Go.Proofs.Ytieabeodommbiaa

/- Texts of fractions: the program's and the reference's. -/
namespace Go.Proofs.Ytieabeodommbiaa
open Go.RowKit
set_option maxRecDepth 100000
set_option linter.unusedVariables false

/-- the text of a fraction as bytes -/
def headL (n : Int) : List UInt8 := if n < 0 then 45 :: digs n.natAbs else digs n.natAbs
def textL (n : Int) (d : Nat) : List UInt8 := if d = 1 then headL n else headL n ++ 47 :: digs d
theorem head_len {n : Int} (h : n.natAbs ≤ 9223372036854775808) : (headL n).length ≤ 21 := by
  have := digs_len 19 n.natAbs (by omega)
  unfold headL
  split <;> simp <;> omega
theorem cat (l m : List UInt8) (hl : l.length ≤ 100) (hm : m.length ≤ 100) (w : World) : (Op.stringOp .add ⟨l.toArray⟩ ⟨m.toArray⟩).run Try.prog w = .ok (strV (l ++ m)) w := run_string_add_lists (P := Try.prog) (w := w) l m (by omega) (by omega)
set_option maxHeartbeats 3200000 in
theorem rtext_w {n x : Int} {d : Nat} {A D : List UInt8} (hA : A.length ≤ 40) (hD : D.length ≤ 40) (hn : -4611686018427387904 ≤ n ∧ n ≤ 4611686018427387904) (hd : 1 ≤ d ∧ d ≤ 4611686018427387904)
    (s : ∀ w : World, Calls Try.prog 40 #[.int .i64 n] w fun e w' => e = .returned (.int .i64 x) ∧ Below w.heap.size w w')
    (a : ∀ w : World, Calls Try.prog 59 #[.int .i64 x] w fun e w' => e = .returned (strV A) ∧ w' = w)
    (b : ∀ w : World, Calls Try.prog 59 #[.int .i64 d] w fun e w' => e = .returned (strV D) ∧ w' = w) (W : World) :
    Calls Try.prog 31 #[.agg #[.int .i64 n, .int .i64 d]] W fun e W' => e = .returned (strV (if d = 1 then (if n < 0 then 45 :: A else A) else (if n < 0 then 45 :: A else A) ++ 47 :: D)) ∧ Below W.heap.size W W' := by
  have HS := Lib.hid s
  have HA := Lib.hid a
  have HB := Lib.hid b
  clear s a b
  obtain ⟨H, hh, hl⟩ : ∃ H : List UInt8, Hid (H = if n < 0 then 45 :: A else A) ∧ H.length ≤ 50 := ⟨_, rfl, by
    by_cases h : n < 0
    · rw [if_pos h]; simp; omega
    · rw [if_neg h]; omega⟩
  have k1 := Lib.hid (cat [45] A (by simp) (by omega))
  have k2 := Lib.hid (cat H [47] (by omega) (by simp))
  have k3 := Lib.hid (cat (H ++ [47]) D (by simp; omega) (by omega))
  have HG : Hid ((if d = 1 then (if n < 0 then 45 :: A else A) else (if n < 0 then 45 :: A else A) ++ 47 :: D) = if d = 1 then H else H ++ 47 :: D) := Lib.hid (by rw [hh.out])
  rw [HG.out]
  have KE : Hid (H ++ [47] ++ D = H ++ 47 :: D) := Lib.hid (by simp)
  clear HG
  by_cases hn0 : n < 0
  · have HH := Lib.hid (hh.out.trans (if_pos hn0))
    clear hh
    by_cases h1 : d = 1
    · subst h1
      rw [if_pos rfl, HH.out]
      go_enter Try.func31, Try.ntmps31
      go_wp2_with fail
      refine (HS.out _).mono ?_
      rintro e w ⟨rfl, hb⟩
      have HW : Hid (Below W.heap.size W w) := Lib.hid (((Below.refl _ _).alloc (Nat.le_refl _) _).trans (hb.mono (by simp)))
      have b0 := hb.cell (p := ⟨W.heap.size, 0, none⟩) (by simp)
      have b1 := hb.cell (p := ⟨W.heap.size, 1, none⟩) (by simp)
      simp at b0 b1
      clear hb
      go_wp2_with fail
      refine (HA.out _).mono ?_
      rintro e w ⟨rfl, rfl⟩
      have hk1 := k1.out
      go_wp2
      go_ret
      exact ⟨rfl, HW.out⟩
    · rw [if_neg h1]
      have hd1 : ((d : Int) == 1) = false := by simp; omega
      clear h1
      go_enter Try.func31, Try.ntmps31
      go_wp2_with fail
      refine (HS.out _).mono ?_
      rintro e w ⟨rfl, hb⟩
      have HW : Hid (Below W.heap.size W w) := Lib.hid (((Below.refl _ _).alloc (Nat.le_refl _) _).trans (hb.mono (by simp)))
      have b0 := hb.cell (p := ⟨W.heap.size, 0, none⟩) (by simp)
      have b1 := hb.cell (p := ⟨W.heap.size, 1, none⟩) (by simp)
      simp at b0 b1
      clear hb
      go_wp2_with fail
      refine (HA.out _).mono ?_
      rintro e w ⟨rfl, rfl⟩
      have hk1 := k1.out
      have hk2 := k2.out
      rw [HH.out] at hk2
      go_wp2_with fail
      refine (HB.out _).mono ?_
      rintro e w ⟨rfl, rfl⟩
      have hk3 := k3.out
      rw [HH.out] at hk3
      go_wp2
      go_ret
      exact ⟨by rw [← KE.out, HH.out]; rfl, HW.out⟩
  · have HH := Lib.hid (hh.out.trans (if_neg hn0))
    clear hh
    by_cases h1 : d = 1
    · subst h1
      rw [if_pos rfl, HH.out]
      go_enter Try.func31, Try.ntmps31
      go_wp2_with fail
      refine (HS.out _).mono ?_
      rintro e w ⟨rfl, hb⟩
      have HW : Hid (Below W.heap.size W w) := Lib.hid (((Below.refl _ _).alloc (Nat.le_refl _) _).trans (hb.mono (by simp)))
      have b0 := hb.cell (p := ⟨W.heap.size, 0, none⟩) (by simp)
      have b1 := hb.cell (p := ⟨W.heap.size, 1, none⟩) (by simp)
      simp at b0 b1
      clear hb
      go_wp2_with fail
      refine (HA.out _).mono ?_
      rintro e w ⟨rfl, rfl⟩
      go_wp2
      go_ret
      exact ⟨rfl, HW.out⟩
    · rw [if_neg h1]
      have hd1 : ((d : Int) == 1) = false := by simp; omega
      clear h1
      go_enter Try.func31, Try.ntmps31
      go_wp2_with fail
      refine (HS.out _).mono ?_
      rintro e w ⟨rfl, hb⟩
      have HW : Hid (Below W.heap.size W w) := Lib.hid (((Below.refl _ _).alloc (Nat.le_refl _) _).trans (hb.mono (by simp)))
      have b0 := hb.cell (p := ⟨W.heap.size, 0, none⟩) (by simp)
      have b1 := hb.cell (p := ⟨W.heap.size, 1, none⟩) (by simp)
      simp at b0 b1
      clear hb
      go_wp2_with fail
      refine (HA.out _).mono ?_
      rintro e w ⟨rfl, rfl⟩
      have hk2 := k2.out
      rw [HH.out] at hk2
      go_wp2_with fail
      refine (HB.out _).mono ?_
      rintro e w ⟨rfl, rfl⟩
      have hk3 := k3.out
      rw [HH.out] at hk3
      go_wp2
      go_ret
      exact ⟨by rw [HH.out]; rfl, HW.out⟩
theorem rtext_q (p : Rat) (hp : okQ p) (W : World) : Calls Try.prog 31 #[frac p] W fun e W' => e = .returned (strV (textL p.num p.den)) ∧ Below W.heap.size W W' := by
  have hb := okQ_bd hp
  have hx := ab_nat p.num
  refine rtext_w (x := ab p.num) (A := digs p.num.natAbs) (D := digs p.den) (Nat.le_trans (digs_len 19 _ (by omega)) (by decide)) (Nat.le_trans (digs_len 19 _ (by omega)) (by decide)) hb.1 (by omega) (nsize_c p.num hb.1.1 hb.1.2) (fun w => ?_) (fun w => digits_c _ (by omega) w) W
  rw [hx]
  exact digits_c _ (by omega) w

set_option maxHeartbeats 3200000 in
theorem text_w {n : Int} {x y d : Nat} {A D : List UInt8} (hA : A.length ≤ 40) (hD : D.length ≤ 40) (hn : -4611686018427387904 ≤ n ∧ n ≤ 4611686018427387904) (hd : 1 ≤ d ∧ d ≤ 4611686018427387904)
    (s : ∀ w : World, Calls Try.prog 53 #[.int .i64 n] w fun e w' => e = .returned (.int .u64 x) ∧ w = w')
    (t : ∀ w : World, Calls Try.prog 53 #[.int .i64 d] w fun e w' => e = .returned (.int .u64 y) ∧ w = w')
    (a : ∀ w : World, Calls Try.prog 58 #[.int .u64 x] w fun e w' => e = .returned (strV A) ∧ Below w.heap.size w w')
    (b : ∀ w : World, Calls Try.prog 58 #[.int .u64 y] w fun e w' => e = .returned (strV D) ∧ Below w.heap.size w w') (W : World) :
    Calls Try.prog 30 #[.agg #[.int .i64 n, .int .i64 d]] W fun e W' => e = .returned (strV (if d = 1 then (if n < 0 then 45 :: A else A) else (if n < 0 then 45 :: A else A) ++ 47 :: D)) ∧ Below W.heap.size W W' := by
  have HS := Lib.hid s
  have HT := Lib.hid t
  have HA := Lib.hid a
  have HB := Lib.hid b
  clear s a b t
  have k1 := Lib.hid (cat [45] A (by simp) (by omega))
  have k2 := Lib.hid (cat [47] D (by simp) (by omega))
  have k3 := Lib.hid (cat (45 :: A) (47 :: D) (by simp; omega) (by simp; omega))
  have k4 := Lib.hid (cat A (47 :: D) (by omega) (by simp; omega))
  by_cases hn0 : n < 0
  · by_cases h1 : d = 1
    · subst h1
      rw [if_pos rfl, if_pos hn0]
      go_enter Try.func30, Try.ntmps30
      go_wp2_with fail
      refine (HS.out _).mono ?_
      rintro e w ⟨rfl, rfl⟩
      go_wp2_with fail
      refine (HA.out _).mono ?_
      rintro e w ⟨rfl, hb⟩
      have HW : Hid (Below W.heap.size W w) := Lib.hid (((Below.refl _ _).alloc (Nat.le_refl _) _).trans (hb.mono (by simp)))
      have b0 := hb.cell (p := ⟨W.heap.size, 0, none⟩) (by simp)
      have b1 := hb.cell (p := ⟨W.heap.size, 1, none⟩) (by simp)
      simp at b0 b1
      clear hb
      have hk1 := k1.out
      go_wp2
      go_ret
      exact ⟨rfl, HW.out⟩
    · rw [if_neg h1, if_pos hn0]
      have hd1 : ((d : Int) == 1) = false := by simp; omega
      have hd2 : ((d : Int) != 1) = true := by simp; omega
      clear h1
      go_enter Try.func30, Try.ntmps30
      go_wp2_with fail
      refine (HS.out _).mono ?_
      rintro e w ⟨rfl, rfl⟩
      go_wp2_with fail
      refine (HA.out _).mono ?_
      rintro e w ⟨rfl, hb⟩
      have HW : Hid (Below W.heap.size W w) := Lib.hid (((Below.refl _ _).alloc (Nat.le_refl _) _).trans (hb.mono (by simp)))
      have b0 := hb.cell (p := ⟨W.heap.size, 0, none⟩) (by simp)
      have b1 := hb.cell (p := ⟨W.heap.size, 1, none⟩) (by simp)
      simp at b0 b1
      clear hb
      have hk1 := k1.out
      go_wp2_with fail
      refine (HT.out _).mono ?_
      rintro e w ⟨rfl, rfl⟩
      go_wp2_with fail
      refine (HB.out _).mono ?_
      rintro e w2 ⟨rfl, hb⟩
      have HW2 : Hid (Below W.heap.size W w2) := Lib.hid (HW.out.trans (hb.mono HW.out.size))
      clear hb
      have hk2 := k2.out
      have hk3 := k3.out
      go_wp2
      go_ret
      exact ⟨rfl, HW2.out⟩
  · by_cases h1 : d = 1
    · subst h1
      rw [if_pos rfl, if_neg hn0]
      go_enter Try.func30, Try.ntmps30
      go_wp2_with fail
      refine (HS.out _).mono ?_
      rintro e w ⟨rfl, rfl⟩
      go_wp2_with fail
      refine (HA.out _).mono ?_
      rintro e w ⟨rfl, hb⟩
      have HW : Hid (Below W.heap.size W w) := Lib.hid (((Below.refl _ _).alloc (Nat.le_refl _) _).trans (hb.mono (by simp)))
      have b0 := hb.cell (p := ⟨W.heap.size, 0, none⟩) (by simp)
      have b1 := hb.cell (p := ⟨W.heap.size, 1, none⟩) (by simp)
      simp at b0 b1
      clear hb
      go_wp2
      go_ret
      exact ⟨rfl, HW.out⟩
    · rw [if_neg h1, if_neg hn0]
      have hd1 : ((d : Int) == 1) = false := by simp; omega
      have hd2 : ((d : Int) != 1) = true := by simp; omega
      clear h1
      go_enter Try.func30, Try.ntmps30
      go_wp2_with fail
      refine (HS.out _).mono ?_
      rintro e w ⟨rfl, rfl⟩
      go_wp2_with fail
      refine (HA.out _).mono ?_
      rintro e w ⟨rfl, hb⟩
      have HW : Hid (Below W.heap.size W w) := Lib.hid (((Below.refl _ _).alloc (Nat.le_refl _) _).trans (hb.mono (by simp)))
      have b0 := hb.cell (p := ⟨W.heap.size, 0, none⟩) (by simp)
      have b1 := hb.cell (p := ⟨W.heap.size, 1, none⟩) (by simp)
      simp at b0 b1
      clear hb
      go_wp2_with fail
      refine (HT.out _).mono ?_
      rintro e w ⟨rfl, rfl⟩
      go_wp2_with fail
      refine (HB.out _).mono ?_
      rintro e w2 ⟨rfl, hb⟩
      have HW2 : Hid (Below W.heap.size W w2) := Lib.hid (HW.out.trans (hb.mono HW.out.size))
      clear hb
      have hk2 := k2.out
      have hk4 := k4.out
      go_wp2
      go_ret
      exact ⟨rfl, HW2.out⟩
theorem text_q (p : Rat) (hp : okQ p) (W : World) : Calls Try.prog 30 #[frac p] W fun e W' => e = .returned (strV (textL p.num p.den)) ∧ Below W.heap.size W W' := by
  have hb := okQ_bd hp
  refine text_w (x := p.num.natAbs) (y := p.den) (A := digs p.num.natAbs) (D := digs p.den) (Nat.le_trans (digs_len 19 _ (by omega)) (by decide)) (Nat.le_trans (digs_len 19 _ (by omega)) (by decide)) hb.1 (by omega) (fun w => ?_) (fun w => ?_) (fun w => decimal_c _ (by omega) w) (fun w => decimal_c _ (by omega) w) W
  · rw [← absI_natAbs]; exact size_c p.num (by omega) (by omega) w
  · have := size_c p.den (by omega) (by omega) w
    rw [absI_natAbs] at this
    exact this
end Go.Proofs.Ytieabeodommbiaa
