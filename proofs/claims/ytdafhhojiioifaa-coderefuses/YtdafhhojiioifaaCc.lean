/- The space of words: its value, its zero; a pivot; lists with elements. -/
import Derived.Test.YtdafhhojiioifaaNd
import Derived.Test.YtdafhhojiioifaaSa
import Derived.Test.YtdafhhojiioifaaEvWn
import Derived.Test.YtdafhhojiioifaaNj
import Derived.Test.YtdafhhojiioifaaNm
namespace Go.Proofs.Ytdafhhojiioifaa
open Go.RowKit Go.Fl
set_option maxRecDepth 100000
set_option linter.unusedVariables false
set_option linter.unusedSimpArgs false
set_option linter.unusedSectionVars false

/-- a space as a value, and its box -/
abbrev XV (F : Gf) (b cap n : Nat) : Value := .agg #[.int .i64 F.p, .int .i64 F.e, FM F b cap, .int .i64 (n : Nat)]
abbrev XC (F : Gf) (b cap n : Nat) : Array Value := #[.int .i64 F.p, .int .i64 F.e, FM F b cap, .int .i64 (n : Nat)]
abbrev XB (g : Nat) (F : Gf) (b cap n : Nat) (w : World) : Prop := w.cell? ⟨g, 0, none⟩ = some (.int .i64 F.p) ∧ w.cell? ⟨g, 1, none⟩ = some (.int .i64 F.e) ∧ w.cell? ⟨g, 2, none⟩ = some (FM F b cap) ∧ w.cell? ⟨g, 3, none⟩ = some (.int .i64 (n : Nat))
theorem xb_new {F : Gf} {b cap n g ty : Nat} (w : World) (hg : w.heap.size = g) : XB g F b cap n (w.alloc (.cells #[.int .i64 F.p, .int .i64 F.e, FM F b cap, .int .i64 (n : Nat)] ty)) := by
 subst hg
 exact ⟨World.cell?_alloc_at _ _ _ _ rfl, World.cell?_alloc_at _ _ _ _ rfl, World.cell?_alloc_at _ _ _ _ rfl, World.cell?_alloc_at _ _ _ _ rfl⟩
theorem XB.below {g : Nat} {F : Gf} {b cap n : Nat} {w w' : World} (h : XB g F b cap n w) {B : Nat} (hb : Below B w w') (hg : g < B) : XB g F b cap n w' :=
 ⟨(hb.cell hg).trans h.1, (hb.cell hg).trans h.2.1, (hb.cell hg).trans h.2.2.1, (hb.cell hg).trans h.2.2.2⟩
/-- a row of its own is answered, as long as its room -/
def RPost (L : List Nat) (W : World) (e : Ending) (w' : World) : Prop := ∃ g, W.heap.size ≤ g ∧ e = .returned (.slice (some ⟨g, 0, none⟩) L.length L.length) ∧ Row L g w' ∧ Below W.heap.size W w'
theorem info39 : (Try.prog.info? 39).map (fun i => (i.zero, i.size, i.bytes)) = some (some (.slice none 0 0), 1, 24) := by kernel_rfl
theorem zero_c {F : Gf} {b cap n : Nat} {W : World} (hn : n ≤ 10000) : Calls Try.prog 56 #[XV F b cap n] W (RPost (List.replicate n 0) W) := by
 obtain ⟨i0, hi, hz0, hz1, hz2⟩ := info_parts info3
 obtain ⟨W0, hW0⟩ : ∃ W0, W.alloc (.cells (XC F b cap n) 73) = W0 := ⟨_, rfl⟩
 have HB0 : Hid (Below W.heap.size W W0) := Lib.hid (by rw [← hW0]; exact (Below.refl _ _).alloc (Nat.le_refl _) _)
 obtain ⟨x0, x1, x2, x3⟩ : XB W.heap.size F b cap n W0 := by rw [← hW0]; exact xb_new W rfl
 have HW0 := Lib.hid hW0
 clear hW0
 go_enter Try.func56, Try.ntmps56
 go_wp2_with (refine wpList_make_full _ rfl _ _ 39 rfl 0 3 i0 (.int .i64 0) 1 Try.underlying39 hi hz0 hz1 .i64 .i64 (n : Int) (n : Int) n rfl rfl rfl rfl (by rw [hz2]; omega) (by unfold maxLen; omega) (Nat.zero_le _) ?_)
 intro w2 hown hgrow
 rw [HW0.out] at hgrow
 have HR : Hid (Row (List.replicate n 0) (W.heap.size + 1) w2) := Lib.hid (Row.of_own (n := n) (base := 0) (by
   have e := toList_madeCells_one (Value.int .i64 0) n
   rw [List.map_replicate, show N64 0 = Value.int .i64 0 from rfl, ← e]
   simpa using hown) (by simp))
 have HBF : Hid (Below W.heap.size W w2) := Lib.hid (HB0.out.trans ((Below.refl _ _).grown hgrow HB0.out.size (fun k hk => by cases hk)))
 clear hown hgrow x0 x1 x2 x3
 go_wp2
 go_ret
 exact ⟨W.heap.size + 1, Nat.le_succ _, by rw [List.length_replicate]; rfl, HR.out, HBF.out⟩
/-- the first coordinate that is not 0 -/
theorem pivot_c {L : List Nat} {a : Option Addr} {c : Nat} {W : World} (hl : L.length ≤ 100000) (h : NN L W (.slice a L.length c)) :
  Calls Try.prog 63 #[.slice a L.length c] W fun e w' => e = .returned (.int .i64 (pvt (fn L) L.length : Nat)) ∧ Below W.heap.size W w' := by
 have HN := Lib.hid h
 clear h
 go_enter Try.func63, Try.ntmps63
 go_wp2
 go_loopw [3] (fun i wr => ∃ k : Nat, k ≤ L.length ∧ i = .int .i64 k ∧ Hid (∀ j, j < k → L.getD j 0 = 0) ∧ Hid (Below W.heap.size W wr)) (fun i _ => L.length - (intOf i).toNat)
 case atStart => exact ⟨0, Nat.zero_le _, rfl, Lib.hid (fun j hj => by omega), Below.refl _ _⟩
 case round =>
  obtain ⟨k, hk, rfl, KZ, KB⟩ := hrel
  by_cases hlt : k < L.length
  ·obtain ⟨x, hx⟩ : ∃ x, L.getD k 0 = x := ⟨_, rfl⟩
   obtain ⟨b1, o1, rfl, hc⟩ := (HN.out.below KB.out).at hlt
   rw [hx] at hc
   have hk5 : k < 100000 := by omega
   have HX := Lib.hid hx
   clear hx
   by_cases h0 : x = 0
   ·subst h0
    go_wp2
    go_roundw
    case rel => exact ⟨k + 1, by omega, by go_num, Lib.hid (fun j hj => by
     by_cases e : j = k
     ·rw [e]; exact HX.out
     ·exact KZ.out j (by omega)), KB⟩
    case measure => simp [intOf]; omega
   ·have HR : Hid (pvt (fn L) L.length = k) := Lib.hid (pvt_uniq hk (fun j hj => KZ.out j hj) fun _ => by show L.getD k 0 ≠ 0; rw [HX.out]; exact h0)
    have hx0 : ((x : Int) == 0) = false := by simpa using h0
    have HBF := Lib.hid KB.out
    go_wp2
    go_ret
    exact ⟨by rw [HR.out]; rfl, HBF.out⟩
  ·obtain rfl : k = L.length := by omega
   have HR : Hid (pvt (fn L) L.length = L.length) := Lib.hid (pvt_uniq hk (fun j hj => KZ.out j hj) fun h => absurd h (by omega))
   have hlt1 : ¬ (L.length : Int) < (L.length : Int) := by omega
   have HBF := Lib.hid KB.out
   go_wp2
   go_ret
   exact ⟨by rw [HR.out]; rfl, HBF.out⟩

/-- the slice v reads as the numbers L -/
def NI (L : List Int) (w : World) (v : Value) : Prop := (L = [] ∧ v = .slice none 0 0) ∨ ∃ b off cap, v = .slice (some ⟨b, off, none⟩) L.length cap ∧ L.length ≤ cap ∧ b < w.heap.size ∧ ∀ t, t < L.length → w.cell? ⟨b, off + t, none⟩ = some (.int .i64 (L.getD t 0))
theorem NI.below {L : List Int} {w w' : World} {v : Value} (h : NI L w v) (hb : Below w.heap.size w w') : NI L w' v := by
 rcases h with h | ⟨b, off, cap, h4, h2, h5, h6⟩
 ·exact .inl h
 ·exact .inr ⟨b, off, cap, h4, h2, Nat.lt_of_lt_of_le h5 hb.size, fun t ht => (hb.cell h5).trans (h6 t ht)⟩
theorem NI.shape {L : List Int} {w : World} {v : Value} (h : NI L w v) : ∃ a c, v = .slice a L.length c := by
 rcases h with ⟨rfl, rfl⟩ | ⟨b, off, cap, rfl, _⟩
 ·exact ⟨none, 0, rfl⟩
 ·exact ⟨_, _, rfl⟩
theorem NI.at {L : List Int} {w : World} {a : Option Addr} {c : Nat} (h : NI L w (.slice a L.length c)) {k : Nat} (hk : k < L.length) : ∃ b o, a = some ⟨b, o, none⟩ ∧ w.cell? ⟨b, o + k, none⟩ = some (.int .i64 (L.getD k 0)) := by
 rcases h with ⟨e, h⟩ | ⟨b', off', cap', h, g1, g2, g3⟩
 ·rw [e] at hk; simp at hk
 ·injection h with h1 h2 h3; exact ⟨b', off', h1, g3 k hk⟩
def ints (L : List Nat) : List Int := L.map fun (x : Nat) => (x : Int)
theorem ints_len (L : List Nat) : (ints L).length = L.length := by simp [ints]
theorem ints_get (L : List Nat) (t : Nat) : (ints L).getD t 0 = ((L.getD t 0 : Nat) : Int) := by
 unfold ints
 simp only [List.getD_eq_getElem?_getD, List.getElem?_map]
 cases L[t]? <;> rfl
theorem NN.ni {L : List Nat} {w : World} {v : Value} (h : NN L w v) : NI (ints L) w v := by
 rcases h with ⟨rfl, h⟩ | ⟨b, off, cap, h, h1, h2, h3⟩
 ·exact .inl ⟨rfl, h⟩
 ·exact .inr ⟨b, off, cap, by rw [ints_len]; exact h, by rw [ints_len]; exact h1, h2, fun t ht => by rw [ints_len] at ht; rw [ints_get]; exact h3 t ht⟩
/-- all are elements of a field with q elements -/
def elI (q : Nat) (L : List Int) : Bool := L.all fun x => decide (0 ≤ x ∧ x < (q : Int))
theorem elI_no {q : Nat} {L : List Int} {k : Nat} (hk : k < L.length) (h : ¬ (0 ≤ L.getD k 0 ∧ L.getD k 0 < (q : Int))) : elI q L = false := by
 unfold elI
 rw [List.all_eq_false]
 refine ⟨L[k], List.getElem_mem hk, ?_⟩
 rw [List.getD_eq_getElem?_getD, List.getElem?_eq_getElem hk] at h
 simpa using h
theorem elI_yes {q : Nat} {L : List Int} (h : ∀ j, j < L.length → 0 ≤ L.getD j 0 ∧ L.getD j 0 < (q : Int)) : elI q L = true := by
 unfold elI
 rw [List.all_eq_true]
 intro x hx
 obtain ⟨i, hi, rfl⟩ := List.getElem_of_mem hx
 have := h i hi
 rw [List.getD_eq_getElem?_getD, List.getElem?_eq_getElem hi] at this
 simpa using this
theorem elI_in {F : Gf} {L : List Nat} (h : In F L) : elI F.q (ints L) = true := elI_yes fun j hj => by
 rw [ints_len] at hj
 rw [ints_get]
 have : L.getD j 0 < F.q := by rw [List.getD_eq_getElem?_getD, List.getElem?_eq_getElem hj]; exact h _ (List.getElem_mem hj)
 omega
theorem hasel_c {F : Gf} {b cap n c : Nat} {L : List Int} {a : Option Addr} {W : World} (hF : F ∈ fds) (hl : L.length ≤ 100000) (h : NI L W (.slice a L.length c)) :
  Calls Try.prog 55 #[XV F b cap n, .slice a L.length c] W fun e w' => e = .returned (.bool (elI F.q L)) ∧ Below W.heap.size W w' := by
 obtain ⟨W0, hW0⟩ : ∃ W0, W.alloc (.cells (XC F b cap n) 73) = W0 := ⟨_, rfl⟩
 have HB0 : Hid (Below W.heap.size W W0) := Lib.hid (by rw [← hW0]; exact (Below.refl _ _).alloc (Nat.le_refl _) _)
 obtain ⟨x0, x1, x2, x3⟩ : XB W.heap.size F b cap n W0 := by rw [← hW0]; exact xb_new W rfl
 have HW0 := Lib.hid hW0
 have HN := Lib.hid (h.below HB0.out)
 have HSZ : Hid (Calls Try.prog 80 #[FV F b cap] W0 fun e w' => e = .returned (.int .i64 (F.q : Nat)) ∧ Below W0.heap.size W0 w') := Lib.hid (size_c hF)
 obtain ⟨q, hq⟩ : ∃ q, F.q = q := ⟨_, rfl⟩
 rw [hq] at HSZ ⊢
 clear hW0 h hq
 go_enter Try.func55, Try.ntmps55
 go_wp2_with fail
 rw [HW0.out]
 go_wp2_with fail
 with_reducible refine HSZ.out.mono ?_
 rintro e w1 ⟨rfl, hb1⟩
 have HB1 := Lib.hid hb1
 clear hb1 HSZ x0 x1 x2 x3
 go_wp2
 go_loopw [13] (fun i wr => ∃ k : Nat, k ≤ L.length ∧ i = .int .i64 k ∧ Hid (∀ j, j < k → 0 ≤ L.getD j 0 ∧ L.getD j 0 < (q : Int)) ∧ Hid (Below w1.heap.size w1 wr)) (fun i _ => L.length - (intOf i).toNat)
 case atStart => exact ⟨0, Nat.zero_le _, rfl, Lib.hid (fun j hj => by omega), Below.refl _ _⟩
 case round =>
  obtain ⟨k, hk, rfl, KZ, KB⟩ := hrel
  have HBF : Hid (Below W.heap.size W wr) := Lib.hid (HB0.out.trans ((HB1.out.trans (KB.out.mono HB1.out.size)).mono HB0.out.size))
  by_cases hlt : k < L.length
  ·obtain ⟨x, hx⟩ : ∃ x, L.getD k 0 = x := ⟨_, rfl⟩
   obtain ⟨b1, o1, rfl, hc⟩ := ((HN.out.below HB1.out).below KB.out).at hlt
   rw [hx] at hc
   have hk5 : k < 100000 := by omega
   have HX := Lib.hid hx
   clear hx
   by_cases h0 : x < 0
   ·have HR : Hid (elI q L = false) := Lib.hid (elI_no hlt (by rw [HX.out]; omega))
    go_wp2
    go_ret
    exact ⟨by rw [HR.out]; rfl, HBF.out⟩
   ·by_cases h1 : (q : Int) ≤ x
    ·have HR : Hid (elI q L = false) := Lib.hid (elI_no hlt (by rw [HX.out]; omega))
     go_wp2
     go_ret
     exact ⟨by rw [HR.out]; rfl, HBF.out⟩
    ·have HXR : Hid (0 ≤ x ∧ x < (q : Int)) := Lib.hid (by omega)
     go_wp2
     go_roundw
     case rel => exact ⟨k + 1, by omega, by go_num, Lib.hid (fun j hj => by
      by_cases e : j = k
      ·rw [e, HX.out]; exact HXR.out
      ·exact KZ.out j (by omega)), KB⟩
     case measure => simp [intOf]; omega
  ·have HR : Hid (elI q L = true) := Lib.hid (elI_yes fun j hj => KZ.out j (by omega))
   have hlt1 : ¬ (k : Int) < (L.length : Int) := by omega
   go_wp2
   go_ret
   exact ⟨by rw [HR.out]; rfl, HBF.out⟩
theorem has_c {F : Gf} {b cap n c : Nat} {L : List Int} {a : Option Addr} {W : World} (hF : F ∈ fds) (hl : L.length ≤ 100000) (h : NI L W (.slice a L.length c)) :
  Calls Try.prog 60 #[XV F b cap n, .slice a L.length c] W fun e w' => e = .returned (.bool (decide (L.length = n) && elI F.q L)) ∧ Below W.heap.size W w' := by
 obtain ⟨W0, hW0⟩ : ∃ W0, W.alloc (.cells (XC F b cap n) 73) = W0 := ⟨_, rfl⟩
 have HB0 : Hid (Below W.heap.size W W0) := Lib.hid (by rw [← hW0]; exact (Below.refl _ _).alloc (Nat.le_refl _) _)
 obtain ⟨x0, x1, x2, x3⟩ : XB W.heap.size F b cap n W0 := by rw [← hW0]; exact xb_new W rfl
 have HW0 := Lib.hid hW0
 have HE : Hid (Calls Try.prog 55 #[XV F b cap n, .slice a L.length c] W0 fun e w' => e = .returned (.bool (elI F.q L)) ∧ Below W0.heap.size W0 w') := Lib.hid (hasel_c hF hl (h.below HB0.out))
 obtain ⟨B, hB⟩ : ∃ B, elI F.q L = B := ⟨_, rfl⟩
 obtain ⟨l, hL⟩ : ∃ l, L.length = l := ⟨_, rfl⟩
 rw [hB] at HE ⊢
 rw [hL] at HE ⊢
 clear hW0 h hB hL hl
 by_cases hc : l = n
 ·subst hc
  rw [decide_eq_true rfl, Bool.true_and]
  go_enter Try.func60, Try.ntmps60
  go_wp2_with fail
  rw [HW0.out]
  go_wp2_with fail
  with_reducible refine HE.out.mono ?_
  rintro e w1 ⟨rfl, hb1⟩
  have HBF : Hid (Below W.heap.size W w1) := Lib.hid (HB0.out.trans (hb1.mono HB0.out.size))
  clear hb1 HE x0 x1 x2 x3
  go_wp2
  go_ret
  exact ⟨rfl, HBF.out⟩
 ·rw [decide_eq_false hc, Bool.false_and]
  have hc1 : ((l : Int) == (n : Int)) = false := beq_eq_false_iff_ne.2 (by omega)
  go_enter Try.func60, Try.ntmps60
  go_wp2_with fail
  rw [HW0.out]
  go_wp2
  go_ret
  exact ⟨rfl, HB0.out⟩

end Go.Proofs.Ytdafhhojiioifaa

/- Sums of words. -/
namespace Go.Proofs.Ytdafhhojiioifaa
open Go.RowKit Go.Fl
set_option maxRecDepth 100000
set_option linter.unusedVariables false
set_option linter.unusedSimpArgs false
set_option linter.unusedSectionVars false

theorem mapK_skip {f : Nat → Nat} {X : List Nat} {k : Nat} (hk : k < X.length) (h : f k = X.getD k 0) : mapK f X (k + 1) = mapK f X k := by
 rw [← mapK_succ hk, h, ← mapK_hi (f := f) hk, List.getD_eq_getElem?_getD, List.getElem?_eq_getElem (by rw [mapK_len]; exact hk)]
 exact List.set_getElem_self _
theorem NN.at' {L : List Nat} {w : World} {a : Option Addr} {n c : Nat} (h : NN L w (.slice a n c)) {k : Nat} (hk : k < n) : ∃ b o, a = some ⟨b, o, none⟩ ∧ b < w.heap.size ∧ w.cell? ⟨b, o + k, none⟩ = some (.int .i64 (L.getD k 0 : Nat)) := by
 rcases h with ⟨e, h⟩ | ⟨b', off', cap', h, g1, g2, g3⟩
 ·injection h with h1 h2; omega
 ·injection h with h1 h2 h3; exact ⟨b', off', h1, g2, g3 k (by omega)⟩
/-- what a drawn region reads: the box of the space, one element; all that lay in W0 lies as it lay -/
abbrev PB (W0 : World) (g : Nat) (F : Gf) (b cap n bv ov vv : Nat) (w : World) : Prop := XB g F b cap n w ∧ w.cell? ⟨bv, ov, none⟩ = some (.int .i64 (vv : Nat)) ∧ Hid (Below W0.heap.size W0 w)
theorem PB.go {W0 : World} {g : Nat} {F : Gf} {b cap n bv ov vv : Nat} {w w' : World} (h : PB W0 g F b cap n bv ov vv w) (hb : Below W0.heap.size w w') (hl : g < W0.heap.size ∧ bv < W0.heap.size) : PB W0 g F b cap n bv ov vv w' :=
 ⟨h.1.below hb hl.1, (hb.cell hl.2).trans h.2.1, Lib.hid (h.2.2.out.trans hb)⟩
set_option maxHeartbeats 3200000 in
theorem plus_c {F : Gf} {b cap n cv cx : Nat} {V X : List Nat} {av ax : Option Addr} {W : World} (hA : FldAt F b cap W) (hn : n ≤ 1000) (mv : Vn F n V) (mx : Vn F n X) (nv : NN V W (.slice av n cv)) (nx : NN X W (.slice ax n cx)) :
  Calls Try.prog 57 #[XV F b cap n, .slice av n cv, .slice ax n cx] W (RPost (plV F V X) W) := by
 have HFF : Hid (Ok F) := Lib.hid (ok_mem hA.mem)
 obtain ⟨W0, hW0⟩ : ∃ W0, W.alloc (.cells (XC F b cap n) 73) = W0 := ⟨_, rfl⟩
 have HB0 : Hid (Below W.heap.size W W0) := Lib.hid (by rw [← hW0]; exact (Below.refl _ _).alloc (Nat.le_refl _) _)
 have HS0 : Hid (W.heap.size < W0.heap.size) := Lib.hid (by rw [← hW0]; simp)
 have HXB : Hid (XB W.heap.size F b cap n W0) := Lib.hid (by rw [← hW0]; exact xb_new W rfl)
 have HA0 := Lib.hid (hA.below HB0.out)
 have HNV := Lib.hid (nv.below HB0.out)
 have HNX := Lib.hid (nx.below HB0.out)
 have HMV := Lib.hid mv
 have HMX := Lib.hid mx
 have HZ : Hid (Calls Try.prog 56 #[XV F b cap n] W0 (RPost (List.replicate n 0) W0)) := Lib.hid (zero_c (by omega))
 obtain ⟨x0, x1, x2, x3⟩ := HXB.out
 have HW0 := Lib.hid hW0
 clear hW0 nv nx mv mx hA
 go_enter Try.func57, Try.ntmps57
 go_wp2_with fail
 rw [HW0.out]
 go_wp2_with fail
 with_reducible refine HZ.out.mono ?_
 rintro e w1 ⟨g, hg, rfl, hr, hb⟩
 rw [List.length_replicate]
 have HG := Lib.hid hg
 have HROW := Lib.hid hr
 have HB1 := Lib.hid hb
 have hg0 := HG.out
 clear hg hr hb HZ x0 x1 x2 x3
 obtain ⟨x0, x1, x2, x3⟩ := HXB.out.below HB1.out HS0.out
 go_wp2_with (refine wpList_copy_splice rfl (.tmp 12) (.tmp 13) 39 39 rfl 3 Try.underlying39 size3 (some ⟨g, 0, none⟩) av n n n cv rfl rfl g 0 ((List.replicate n 0).map N64) 3 HROW.out.heap (V.map N64) ?c1 ?c2 ?c3 ?c4 W0.heap.size w1 (Below.refl _ _) hg0 ?_)
 case c1 =>
  rw [List.length_map, HMV.out.len]
  show n = min n n
  omega
 case c2 =>
  intro hp
  rcases HNV.out.below HB1.out with ⟨e, h⟩ | ⟨b', off', cap', h, g1, g2, g3⟩
  ·rw [e] at hp; simp at hp
  ·cases h
   exact ⟨_, rfl, fun j a h => num_cellsK g3 j _ (by rw [List.getElem?_map, h]; rfl)⟩
 case c3 =>
  have := HMV.out.len
  simp
  omega
 case c4 =>
  intro v hv
  obtain ⟨x, _, rfl⟩ := List.mem_map.1 hv
  rfl
 intro w2 hg2 hb2
 have HROW2 : Hid (Row V g w2) := Lib.hid (by
  have := HMV.out.len
  refine Row.of_heap (base := 0) (by unfold maxLen; omega) ?_
  have e : V.map N64 = splice ((List.replicate n 0).map N64) 0 (V.map N64) := by
   simp [splice, ← this]
  rw [e]
  have h2 := hg2.out
  rw [show (List.map N64 (List.replicate n 0)) = List.replicate n (N64 0) from List.map_replicate]
  exact h2)
 have HB2 := Lib.hid (HB1.out.trans hb2)
 clear hg2 hb2 HROW x0 x1 x2 x3 HB1
 obtain ⟨x0, x1, x2, x3⟩ := HXB.out.below HB2.out HS0.out
 go_wp2
 go_loopw [17] (fun i wr => ∃ k : Nat, k ≤ n ∧ i = .int .i64 k ∧ Hid (Row (mapK (fun j => F.add (V.getD j 0) (X.getD j 0)) V k) g wr) ∧ Hid (Below W0.heap.size W0 wr)) (fun i _ => n - (intOf i).toNat)
 case atStart => exact ⟨0, Nat.zero_le _, rfl, by rw [mapK_zero]; exact HROW2, HB2⟩
 case round =>
  obtain ⟨k, hk, rfl, KR, KB⟩ := hrel
  clear x0 x1 x2 x3
  by_cases hlt : k < n
  ·have hkV : k < V.length := by rw [HMV.out.len]; exact hlt
   have hkR : k < (mapK (fun j => F.add (V.getD j 0) (X.getD j 0)) V k).length := by rw [mapK_len]; exact hkV
   obtain ⟨bv, ov, hav, hbv, hcv⟩ := (HNV.out.below KB.out).at' hlt
   have hbv0 : bv < W0.heap.size := by obtain ⟨_, _, e, h, _⟩ := HNV.out.at' hlt; rw [hav] at e; cases e; exact h
   obtain ⟨bx, ox, hax, hbx, hcx⟩ := (HNX.out.below KB.out).at' hlt
   subst hav hax
   obtain ⟨vv, hvv⟩ : ∃ x, Hid (V.getD k 0 = x) := ⟨_, rfl⟩
   obtain ⟨xx, hxx⟩ : ∃ x, Hid (X.getD k 0 = x) := ⟨_, rfl⟩
   have HV : Hid (vv < F.q) := Lib.hid (by rw [← hvv.out]; exact HMV.out.el.get HFF.out k)
   have HX : Hid (xx < F.q) := Lib.hid (by rw [← hxx.out]; exact HMX.out.el.get HFF.out k)
   rw [hvv.out] at hcv
   rw [hxx.out] at hcx
   by_cases h0 : xx = 0
   ·subst h0
    have HR3 : Hid (Row (mapK (fun j => F.add (V.getD j 0) (X.getD j 0)) V (k + 1)) g wr) := Lib.hid (by
     rw [mapK_skip hkV (by show F.add (V.getD k 0) (X.getD k 0) = _; rw [hxx.out, hvv.out]; exact HFF.out.add_zero HV.out)]; exact KR.out)
    clear hkV hkR hcv hbv hbx hbv0
    go_wp2
    go_roundw
    case rel => exact ⟨k + 1, by omega, by go_num, HR3, KB⟩
    case measure => simp [intOf]; omega
   ·have hx1 : ((xx : Int) != 0) = true := by simpa using h0
    have HLT : Hid (W.heap.size < W0.heap.size ∧ bv < W0.heap.size) := Lib.hid ⟨HS0.out, hbv0⟩
    have HRd := Lib.hid KR.out.drew
    have hS0 : PB W0 W.heap.size F b cap n bv (ov + k) vv wr.drew := ⟨HXB.out.below (KB.out.trans (Below.refl _ _).drew) HS0.out, hcv, Lib.hid (KB.out.trans (Below.refl _ _).drew)⟩
    clear h0 hbv hbx hbv0
    go_wp2_with fail
    refine wp_region_held_drew (S := fun w' => PB W0 W.heap.size F b cap n bv (ov + k) vv w') (by kernel_rfl) (by with_reducible exact hS0) (fun hHeld => ?_)
    refine Rg.tk 0 ⟨some 24,.move (.tmp 7),39,"space.go:52",#[],none⟩ ?_
    try simp only [Rg.gp]
    refine Rg.tk 1 ⟨some 25,.move (.tmp 8),3,"space.go:52",#[],none⟩ ?_
    try simp only [Rg.gp]
    refine Rg.tk 2 ⟨some 26,.fieldAddr 73 (.tmp 3) 0,0,"space.go:52",#[],none⟩ ?_
    try simp only [Rg.gp]
    refine Rg.tk 3 ⟨some 27,.load 53 (.tmp 26),53,"space.go:52",#[⟨2,.data⟩],none⟩ ?_
    try simp only [Rg.gp]
    refine Rg.tk 4 ⟨some 28,.move (.tmp 1),39,"space.go:52",#[],none⟩ ?_
    try simp only [Rg.gp]
    refine Rg.tk 5 ⟨some 29,.move (.tmp 8),3,"space.go:52",#[],none⟩ ?_
    try simp only [Rg.gp]
    refine Rg.tk 6 ⟨some 30,.indexAddr 39 (.tmp 28) (.tmp 29),0,"space.go:52",#[⟨4,.data⟩,⟨5,.data⟩],none⟩ ?_
    try simp only [Rg.gp]
    refine Rg.tk 7 ⟨some 31,.load 3 (.tmp 30),3,"space.go:52",#[⟨6,.data⟩],none⟩ ?_
    try simp only [Rg.gp]
    refine Rg.tk 8 ⟨some 32,.move (.tmp 9),3,"space.go:52",#[],none⟩ ?_
    try simp only [Rg.gp]
    refine Rg.rd1 9 ⟨some 33,.call ⟨.value (.func 81),#[.tmp 27,.tmp 31,.tmp 32],#[53,3,3]⟩,3,"space.go:52",#[⟨3,.data⟩,⟨7,.data⟩,⟨8,.data⟩],none⟩ fun K hK => ?_
    go_simp
    go_at_call 81
    with_reducible refine (fadd_c HV.out HX.out (HA0.out.below hHeld.2.2.out)).mono ?_
    rintro z v1 ⟨rfl, hb3⟩
    have HR1 := Lib.hid (HRd.out.below hb3)
    replace hb3 := hb3.mono hHeld.2.2.out.size
    have hf2 := HR1.out.frozen k
    have hc2 := HR1.out.cell (t := k) hkR
    refine hK.out _ _ ?_ (fun hHeld => ?_)
    ·(try dsimp only)
     exact PB.go hHeld hb3 HLT.out
    clear hK K
    try simp only [Rg.gp]
    refine Rg.tk 10 ⟨some 34,.indexAddr 39 (.tmp 24) (.tmp 25),0,"space.go:52",#[⟨0,.data⟩,⟨1,.data⟩,⟨0,.phase⟩,⟨1,.phase⟩,⟨2,.phase⟩,⟨3,.phase⟩,⟨4,.phase⟩,⟨5,.phase⟩,⟨6,.phase⟩,⟨7,.phase⟩,⟨8,.phase⟩,⟨9,.phase⟩],none⟩ ?_
    try simp only [Rg.gp]
    refine Rg.rd1 11 ⟨none,.store 3 (.tmp 34) (.tmp 33),0,"space.go:52",#[⟨10,.data⟩,⟨9,.data⟩,⟨9,.chain⟩,⟨0,.phase⟩,⟨1,.phase⟩,⟨2,.phase⟩,⟨3,.phase⟩,⟨4,.phase⟩,⟨5,.phase⟩,⟨6,.phase⟩,⟨7,.phase⟩,⟨8,.phase⟩,⟨9,.phase⟩],none⟩ fun K hK => ?_
    go_simp
    refine hK.out _ _ ?_ (fun hHeld => ?_)
    ·(try dsimp only)
     exact PB.go hHeld ((Below.refl _ _).setCell (by exact HG.out) _) HLT.out
    clear hK K
    try simp only [Rg.gp]
    refine wpAnyH_done (by kernel_rfl) ?_ _
    have HR3 : Hid (Row (mapK (fun j => F.add (V.getD j 0) (X.getD j 0)) V (k + 1)) g _) := Lib.hid (by
     rw [← mapK_succ hkV]
     show Row ((mapK _ V k).set k (F.add (V.getD k 0) (X.getD k 0))) g _
     rw [hvv.out, hxx.out]
     exact HR1.out.set k (F.add vv xx))
    have HB3 := Lib.hid hHeld.2.2.out
    clear hHeld hS0 hf2 hc2 hkV hkR
    go_wp2
    go_roundw
    case rel => exact ⟨k + 1, by omega, by go_num, HR3, HB3⟩
    case measure => simp [intOf]; omega
  ·obtain rfl : k = n := by omega
   have hlt1 : ¬ (k : Int) < (k : Int) := by omega
   have HRF : Hid (Row (plV F V X) g wr) := Lib.hid (by
    have := KR.out
    rw [← HMV.out.len, mapK_full] at this
    exact this)
   have HGF : Hid (W.heap.size ≤ g) := Lib.hid (Nat.le_trans HB0.out.size HG.out)
   have HBF := Lib.hid (HB0.out.trans (KB.out.mono HB0.out.size))
   have HLL : Hid ((plV F V X).length = k) := Lib.hid (by rw [plV_len, HMV.out.len])
   go_wp2
   go_ret
   exact ⟨g, HGF.out, by rw [HLL.out]; rfl, HRF.out, HBF.out⟩

end Go.Proofs.Ytdafhhojiioifaa

/- Multiples of words; a word cleared by a row. -/
namespace Go.Proofs.Ytdafhhojiioifaa
open Go.RowKit Go.Fl
set_option maxRecDepth 100000
set_option linter.unusedVariables false
set_option linter.unusedSimpArgs false
set_option linter.unusedSectionVars false

set_option maxHeartbeats 3200000 in
theorem times_c {F : Gf} {b cap n cc cx : Nat} {X : List Nat} {ax : Option Addr} {W : World} (hA : FldAt F b cap W) (hn : n ≤ 1000) (mx : Vn F n X) (hc : cc < F.q) (nx : NN X W (.slice ax n cx)) :
  Calls Try.prog 58 #[XV F b cap n, .int .i64 (cc : Nat), .slice ax n cx] W (RPost (tiV F cc X) W) := by
 have HFF : Hid (Ok F) := Lib.hid (ok_mem hA.mem)
 obtain ⟨W0, hW0⟩ : ∃ W0, W.alloc (.cells (XC F b cap n) 73) = W0 := ⟨_, rfl⟩
 have HB0 : Hid (Below W.heap.size W W0) := Lib.hid (by rw [← hW0]; exact (Below.refl _ _).alloc (Nat.le_refl _) _)
 have HS0 : Hid (W.heap.size < W0.heap.size) := Lib.hid (by rw [← hW0]; simp)
 have HXB : Hid (XB W.heap.size F b cap n W0) := Lib.hid (by rw [← hW0]; exact xb_new W rfl)
 have HA0 := Lib.hid (hA.below HB0.out)
 have HNX := Lib.hid (nx.below HB0.out)
 have HMX := Lib.hid mx
 have HC := Lib.hid hc
 have HZ : Hid (Calls Try.prog 56 #[XV F b cap n] W0 (RPost (List.replicate n 0) W0)) := Lib.hid (zero_c (by omega))
 obtain ⟨x0, x1, x2, x3⟩ := HXB.out
 have HW0 := Lib.hid hW0
 clear hW0 nx mx hA hc
 go_enter Try.func58, Try.ntmps58
 go_wp2_with fail
 rw [HW0.out]
 go_wp2_with fail
 with_reducible refine HZ.out.mono ?_
 rintro e w1 ⟨g, hg, rfl, hr, hb⟩
 rw [List.length_replicate]
 have HG := Lib.hid hg
 have HROW := Lib.hid hr
 have HB1 := Lib.hid hb
 clear hg hr hb HZ x0 x1 x2 x3
 obtain ⟨x0, x1, x2, x3⟩ := HXB.out.below HB1.out HS0.out
 go_wp2
 go_loopw [14] (fun i wr => ∃ k : Nat, k ≤ n ∧ i = .int .i64 k ∧ Hid (Row (mapK (fun j => F.mul cc (X.getD j 0)) (List.replicate n 0) k) g wr) ∧ Hid (Below W0.heap.size W0 wr)) (fun i _ => n - (intOf i).toNat)
 case atStart => exact ⟨0, Nat.zero_le _, rfl, by rw [mapK_zero]; exact HROW, HB1⟩
 case round =>
  obtain ⟨k, hk, rfl, KR, KB⟩ := hrel
  clear x0 x1 x2 x3
  by_cases hlt : k < n
  ·have hkV : k < (List.replicate n 0).length := by rw [List.length_replicate]; exact hlt
   have hkR : k < (mapK (fun j => F.mul cc (X.getD j 0)) (List.replicate n 0) k).length := by rw [mapK_len]; exact hkV
   obtain ⟨bx, ox, hax, hbx, hcx⟩ := (HNX.out.below KB.out).at' hlt
   subst hax
   obtain ⟨xx, hxx⟩ : ∃ x, Hid (X.getD k 0 = x) := ⟨_, rfl⟩
   have HX : Hid (xx < F.q) := Lib.hid (by rw [← hxx.out]; exact HMX.out.el.get HFF.out k)
   rw [hxx.out] at hcx
   have HSK : Hid (F.mul cc xx = 0 → Row (mapK (fun j => F.mul cc (X.getD j 0)) (List.replicate n 0) (k + 1)) g wr) := Lib.hid fun e => by
    rw [mapK_skip hkV (by show F.mul cc (X.getD k 0) = _; rw [hxx.out, e]; simp [List.getD_eq_getElem?_getD, List.getElem?_replicate, hlt])]; exact KR.out
   by_cases h0 : cc = 0
   ·subst h0
    have HR3 := Lib.hid (HSK.out (Ok.z_mul _))
    clear hkV hkR hbx
    go_wp2
    go_roundw
    case rel => exact ⟨k + 1, by omega, by go_num, HR3, KB⟩
    case measure => simp [intOf]; omega
   ·have hc1 : ((cc : Int) != 0) = true := by simpa using h0
    by_cases h1 : xx = 0
    ·subst h1
     have HR3 := Lib.hid (HSK.out (Ok.mul_z _))
     clear hkV hkR hbx
     go_wp2
     go_roundw
     case rel => exact ⟨k + 1, by omega, by go_num, HR3, KB⟩
     case measure => simp [intOf]; omega
    ·have hx1 : ((xx : Int) != 0) = true := by simpa using h1
     obtain ⟨x0, x1, x2, x3⟩ := HXB.out.below KB.out HS0.out
     have HM : Hid (Calls Try.prog 82 #[FV F b cap, .int .i64 (cc : Nat), .int .i64 (xx : Nat)] wr fun e w' => e = .returned (.int .i64 (F.mul cc xx : Nat)) ∧ Below wr.heap.size wr w') := Lib.hid (fmul_c HC.out HX.out (HA0.out.below KB.out))
     clear h0 h1 hbx
     go_wp2_with fail
     with_reducible refine HM.out.mono ?_
     rintro e w3 ⟨rfl, hb3⟩
     have HR1 := Lib.hid (KR.out.below hb3)
     have HB3 := Lib.hid (KB.out.trans (hb3.mono KB.out.size))
     have hf2 := HR1.out.frozen k
     have hc2 := HR1.out.cell (t := k) hkR
     have HR3 : Hid (Row (mapK (fun j => F.mul cc (X.getD j 0)) (List.replicate n 0) (k + 1)) g (w3.setCell ⟨g, k, none⟩ (.int .i64 (F.mul cc xx : Nat)))) := Lib.hid (by
      rw [← mapK_succ hkV]
      show Row ((mapK _ _ k).set k (F.mul cc (X.getD k 0))) g _
      rw [hxx.out]
      exact HR1.out.set k (F.mul cc xx))
     have HB4 : Hid (Below W0.heap.size W0 (w3.setCell ⟨g, k, none⟩ (.int .i64 (F.mul cc xx : Nat)))) := Lib.hid (HB3.out.setCell (by exact HG.out) _)
     clear hb3 HM hkV hkR x0 x1 x2 x3 hcx
     go_wp2
     go_roundw
     case rel => exact ⟨k + 1, by omega, by go_num, HR3, HB4⟩
     case measure => simp [intOf]; omega
  ·obtain rfl : k = n := by omega
   have hlt1 : ¬ (k : Int) < (k : Int) := by omega
   have HRF : Hid (Row (tiV F cc X) g wr) := Lib.hid (by
    have := KR.out
    have e := mapK_full (fun j => F.mul cc (X.getD j 0)) (List.replicate k 0)
    rw [List.length_replicate] at e
    rw [e] at this
    unfold tiV
    rw [HMX.out.len]
    exact this)
   have HGF : Hid (W.heap.size ≤ g) := Lib.hid (Nat.le_trans HB0.out.size HG.out)
   have HBF := Lib.hid (HB0.out.trans (KB.out.mono HB0.out.size))
   have HLL : Hid ((tiV F cc X).length = k) := Lib.hid (by rw [tiV_len, HMX.out.len])
   go_wp2
   go_ret
   exact ⟨g, HGF.out, by rw [HLL.out]; rfl, HRF.out, HBF.out⟩
theorem pivot_n {L : List Nat} {n c : Nat} {a : Option Addr} {W : World} (hl : L.length = n) (hn : n ≤ 100000) (h : NN L W (.slice a n c)) :
  Calls Try.prog 63 #[.slice a n c] W fun e w' => e = .returned (.int .i64 (pvt (fn L) n : Nat)) ∧ Below W.heap.size W w' := by
 subst hl
 exact pivot_c hn h
set_option maxHeartbeats 3200000 in
theorem cleared_c {F : Gf} {b cap n cv cr : Nat} {V R : List Nat} {av ar : Option Addr} {W : World} (hA : FldAt F b cap W) (hn : n ≤ 1000) (mv : Vn F n V) (mr : Vn F n R) (hp : pvt (fn R) n < n) (nv : NN V W (.slice av n cv)) (nr : NN R W (.slice ar n cr)) :
  Calls Try.prog 76 #[XV F b cap n, .slice av n cv, .slice ar n cr] W (RPost (clV F n V R) W) := by
 have HFF : Hid (Ok F) := Lib.hid (ok_mem hA.mem)
 obtain ⟨W0, hW0⟩ : ∃ W0, W.alloc (.cells (XC F b cap n) 73) = W0 := ⟨_, rfl⟩
 have HB0 : Hid (Below W.heap.size W W0) := Lib.hid (by rw [← hW0]; exact (Below.refl _ _).alloc (Nat.le_refl _) _)
 have HS0 : Hid (W.heap.size < W0.heap.size) := Lib.hid (by rw [← hW0]; simp)
 have HXB : Hid (XB W.heap.size F b cap n W0) := Lib.hid (by rw [← hW0]; exact xb_new W rfl)
 have HA0 := Lib.hid (hA.below HB0.out)
 have HNV := Lib.hid (nv.below HB0.out)
 have HNR := Lib.hid (nr.below HB0.out)
 have HMV := Lib.hid mv
 have HMR := Lib.hid mr
 obtain ⟨bw, ow, hav, hbw, hcw⟩ := HNV.out.at' hp
 subst hav
 obtain ⟨p, hpp⟩ : ∃ p, Hid (pvt (fn R) n = p) := ⟨_, rfl⟩
 obtain ⟨ww, hww⟩ : ∃ x, Hid (V.getD p 0 = x) := ⟨_, rfl⟩
 rw [hpp.out] at hp hcw
 rw [hww.out] at hcw
 have HWW : Hid (ww < F.q) := Lib.hid (by rw [← hww.out]; exact HMV.out.el.get HFF.out p)
 have HNG : Hid (F.neg ww < F.q) := Lib.hid (HFF.out.neg_lt _)
 have HCL : Hid (plV F V (tiV F (F.neg ww) R) = clV F n V R) := Lib.hid (by unfold clV; rw [hpp.out, hww.out])
 have HPV : ∀ w', Below W0.heap.size W0 w' → Calls Try.prog 63 #[.slice ar n cr] w' fun e w2 => e = .returned (.int .i64 (p : Nat)) ∧ Below w'.heap.size w' w2 := fun w' hb => by
  rw [← hpp.out]; exact pivot_n HMR.out.len (by omega) (HNR.out.below hb)
 have HLT : Hid (W.heap.size < W0.heap.size ∧ bw < W0.heap.size) := Lib.hid ⟨HS0.out, hbw⟩
 have hS0 : PB W0 W.heap.size F b cap n bw (ow + p) ww W0.drew := ⟨HXB.out.below (Below.refl _ _).drew HS0.out, hcw, Lib.hid (Below.refl _ _).drew⟩
 have HW0 := Lib.hid hW0
 clear hW0 nv nr mv mr hA hbw
 go_enter Try.func76, Try.ntmps76
 go_wp2_with fail
 rw [HW0.out]
 refine wp_region_held_drew (S := fun w' => PB W0 W.heap.size F b cap n bw (ow + p) ww w') (by kernel_rfl) (by with_reducible exact hS0) (fun hHeld => ?_)
 refine Rg.tk 0 ⟨some 8,.fieldAddr 73 (.tmp 3) 0,0,"space.go:90",#[],none⟩ ?_
 try simp only [Rg.gp]
 refine Rg.tk 1 ⟨some 9,.load 53 (.tmp 8),53,"space.go:90",#[⟨0,.data⟩],none⟩ ?_
 try simp only [Rg.gp]
 refine Rg.tk 2 ⟨some 10,.move (.tmp 1),39,"space.go:90",#[],none⟩ ?_
 try simp only [Rg.gp]
 refine Rg.tk 3 ⟨some 11,.move (.tmp 2),39,"space.go:90",#[],none⟩ ?_
 try simp only [Rg.gp]
 refine Rg.rd1 4 ⟨some 12,.call ⟨.value (.func 63),#[.tmp 11],#[39]⟩,3,"space.go:90",#[⟨3,.data⟩],none⟩ fun K hK => ?_
 go_simp
 go_at_call 63
 with_reducible refine (HPV _ hHeld.2.2.out).mono ?_
 rintro z v1 ⟨rfl, hb3⟩
 replace hb3 := hb3.mono hHeld.2.2.out.size
 refine hK.out _ _ ?_ (fun hHeld => ?_)
 ·(try dsimp only)
  exact PB.go hHeld hb3 HLT.out
 clear hK K
 try simp only [Rg.gp]
 refine Rg.tk 5 ⟨some 13,.indexAddr 39 (.tmp 10) (.tmp 12),0,"space.go:90",#[⟨2,.data⟩,⟨4,.data⟩],none⟩ ?_
 try simp only [Rg.gp]
 refine Rg.tk 6 ⟨some 14,.load 3 (.tmp 13),3,"space.go:90",#[⟨5,.data⟩],none⟩ ?_
 try simp only [Rg.gp]
 refine Rg.rd1 7 ⟨some 15,.call ⟨.value (.func 83),#[.tmp 9,.tmp 14],#[53,3]⟩,3,"space.go:90",#[⟨1,.data⟩,⟨6,.data⟩,⟨4,.chain⟩],none⟩ fun K hK => ?_
 go_simp
 go_at_call 83
 with_reducible refine (fneg_c HWW.out (HA0.out.below hHeld.2.2.out)).mono ?_
 rintro z v2 ⟨rfl, hb4⟩
 replace hb4 := hb4.mono hHeld.2.2.out.size
 refine hK.out _ _ ?_ (fun hHeld => ?_)
 ·(try dsimp only)
  exact PB.go hHeld hb4 HLT.out
 clear hK K
 try simp only [Rg.gp]
 refine Rg.tk 8 ⟨some 7,.assign (.tmp 15),3,"space.go:90",#[⟨7,.data⟩,⟨7,.chain⟩,⟨0,.phase⟩,⟨1,.phase⟩,⟨2,.phase⟩,⟨3,.phase⟩,⟨4,.phase⟩,⟨5,.phase⟩,⟨6,.phase⟩,⟨7,.phase⟩],none⟩ ?_
 try simp only [Rg.gp]
 refine wpAnyH_done (by kernel_rfl) ?_ _
 have HB1 := Lib.hid hHeld.2.2.out
 have hS1 := hHeld
 obtain ⟨y, hy⟩ : ∃ y, y = v2 := ⟨_, rfl⟩
 clear hHeld hS0 hb3 hb4 hcw
 go_wp2_with fail
 refine wp_region_held_drew (S := fun w' => PB W0 W.heap.size F b cap n bw (ow + p) ww w') (by kernel_rfl) (by with_reducible exact show PB W0 W.heap.size F b cap n bw (ow + p) ww v2.drew from PB.go hS1 (Below.refl _ _).drew HLT.out) (fun hHeld => ?_)
 refine Rg.tk 0 ⟨some 16,.load 73 (.tmp 3),73,"space.go:91",#[],none⟩ ?_
 try simp only [Rg.gp]
 refine Rg.tk 1 ⟨some 17,.move (.tmp 1),39,"space.go:91",#[],none⟩ ?_
 try simp only [Rg.gp]
 refine Rg.tk 2 ⟨some 18,.load 73 (.tmp 3),73,"space.go:91",#[],none⟩ ?_
 try simp only [Rg.gp]
 refine Rg.tk 3 ⟨some 19,.move (.tmp 7),3,"space.go:91",#[],none⟩ ?_
 try simp only [Rg.gp]
 refine Rg.tk 4 ⟨some 20,.move (.tmp 2),39,"space.go:91",#[],none⟩ ?_
 try simp only [Rg.gp]
 refine Rg.rd1 5 ⟨some 21,.call ⟨.value (.func 58),#[.tmp 18,.tmp 19,.tmp 20],#[73,3,39]⟩,39,"space.go:91",#[⟨2,.data⟩,⟨3,.data⟩,⟨4,.data⟩],none⟩ fun K hK => ?_
 go_simp
 go_at_call 58
 with_reducible refine (times_c (HA0.out.below hHeld.2.2.out) hn HMR.out HNG.out (HNR.out.below hHeld.2.2.out)).mono ?_
 rintro z v3 ⟨g3, hg3, rfl, hr3, hb5⟩
 rw [tiV_len, HMR.out.len]
 have HR3 := Lib.hid hr3
 replace hb5 := hb5.mono hHeld.2.2.out.size
 refine hK.out _ _ ?_ (fun hHeld => ?_)
 ·(try dsimp only)
  exact PB.go hHeld hb5 HLT.out
 clear hK K
 try simp only [Rg.gp]
 refine Rg.rd1 6 ⟨some 22,.call ⟨.value (.func 57),#[.tmp 16,.tmp 17,.tmp 21],#[73,39,39]⟩,39,"space.go:91",#[⟨0,.data⟩,⟨1,.data⟩,⟨5,.data⟩,⟨5,.chain⟩],none⟩ fun K hK => ?_
 go_simp
 go_at_call 57
 with_reducible refine (plus_c (HA0.out.below hHeld.2.2.out) hn HMV.out (tiV_vn HFF.out HMR.out) (HNV.out.below hHeld.2.2.out) (by have := HR3.out.nn; rw [tiV_len, HMR.out.len] at this; exact this)).mono ?_
 rintro z v4 ⟨g4, hg4, rfl, hr4, hb6⟩
 have HG4 : Hid (W.heap.size ≤ g4) := Lib.hid (Nat.le_trans (Nat.le_trans HB0.out.size hHeld.2.2.out.size) hg4)
 have HR4 := Lib.hid hr4
 replace hb6 := hb6.mono hHeld.2.2.out.size
 refine hK.out _ _ ?_ (fun hHeld => ?_)
 ·(try dsimp only)
  exact PB.go hHeld hb6 HLT.out
 clear hK K
 try simp only [Rg.gp]
 refine Rg.tk 7 ⟨some 6,.assign (.tmp 22),39,"space.go:91",#[⟨6,.data⟩,⟨6,.chain⟩,⟨0,.phase⟩,⟨1,.phase⟩,⟨2,.phase⟩,⟨3,.phase⟩,⟨4,.phase⟩,⟨5,.phase⟩,⟨6,.phase⟩],none⟩ ?_
 try simp only [Rg.gp]
 refine wpAnyH_done (by kernel_rfl) ?_ _
 have HBF := Lib.hid (HB0.out.trans (hHeld.2.2.out.mono HB0.out.size))
 rw [HCL.out] at HR4
 clear hHeld hS1 hb5 hb6 hg3 hr3 hg4 hr4
 rw [show (plV F V (tiV F (F.neg ww) R)).length = (clV F n V R).length from by rw [HCL.out]]
 go_wp2
 go_ret
 exact ⟨g4, HG4.out, rfl, HR4.out, HBF.out⟩

end Go.Proofs.Ytdafhhojiioifaa
