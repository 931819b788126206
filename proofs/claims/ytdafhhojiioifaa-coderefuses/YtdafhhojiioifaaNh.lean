/- Mul. -/
import Derived.Test.YtdafhhojiioifaaNf
namespace Go.Proofs.Ytdafhhojiioifaa
open Go.RowKit Go.Fl Go.Shelf
attribute [local go_sem] Oper.semAt_some
set_option maxRecDepth 100000
set_option linter.unusedVariables false
set_option linter.unusedSimpArgs false
set_option linter.unusedSectionVars false
/-- the first k places done -/
def mulKN (p d : Nat) (S T : Nat → Nat) (k : Nat) : Nat → Nat := fun j => bif Nat.blt j k then (S j + d * T j) % p else S j
theorem mulK_zeroN (p d : Nat) (S T : Nat → Nat) : mulKN p d S T 0 = S := by
 funext j
 unfold mulKN
 rw [blt_f (Nat.zero_le j)]; rfl
theorem mulK_hi (p d : Nat) (S T : Nat → Nat) {k j : Nat} (h : k ≤ j) : mulKN p d S T k j = S j := by
 unfold mulKN
 rw [blt_f h]; rfl
theorem mulK_step (p d : Nat) (S T : Nat → Nat) (k : Nat) : mulKN p d S T (k + 1) = upd (mulKN p d S T k) k ((S k + d * T k) % p) := by
 funext j
 by_cases e : j = k
 ·subst e
  rw [upd_at]
  unfold mulKN
  rw [blt_t (Nat.lt_succ_self j)]; rfl
 ·rw [upd_ne _ _ e]
  unfold mulKN
  by_cases h : j < k
  ·rw [blt_t h, blt_t (show j < k + 1 by omega)]
  ·rw [blt_f (show k ≤ j by omega), blt_f (show k + 1 ≤ j by omega)]
theorem mulK_lt {p : Nat} (hp : 0 < p) {d : Nat} {S T : Nat → Nat} (hS : ∀ j, S j < p) (k : Nat) : ∀ j, mulKN p d S T k j < p := fun j => by
 unfold mulKN
 cases Nat.blt j k with
 | true => exact Nat.mod_lt _ hp
 | false => exact hS j
theorem tX_lt {F : Gf} (hp : 0 < F.p) {V : Nat → Nat} (h : ∀ j, V j < F.p) : ∀ j, tX F V j < F.p := upd_lt (fun j => by
 unfold tXk
 cases (Nat.blt 0 j && Nat.blt j F.e) with
 | true => exact Nat.mod_lt _ hp
 | false => exact h j) (Nat.mod_lt _ hp)
/-- a digit's round -/
abbrev mulR (F : Gf) (U : (Nat → Nat) × (Nat → Nat)) (x : Dg F.p) : (Nat → Nat) × (Nat → Nat) := (mulKN F.p x.1.2 U.1 U.2 F.e, tX F U.2)
abbrev mulF (F : Gf) (U : (Nat → Nat) × (Nat → Nat)) (l : List (Dg F.p)) : (Nat → Nat) × (Nat → Nat) := l.foldl (mulR F) U
def mulT (F : Gf) (hp : 0 < F.p) (a b : Nat) : Nat := horF F.p (mulF F (z7, expV hp a) (dlD hp 7 0 b)).1 7
theorem mulF_lt {F : Gf} (hp : 0 < F.p) : ∀ (l : List (Dg F.p)) (U : (Nat → Nat) × (Nat → Nat)), (∀ j, U.1 j < F.p) → (∀ j, U.2 j < F.p) → (∀ j, (mulF F U l).1 j < F.p) ∧ (∀ j, (mulF F U l).2 j < F.p)
 | [], U, h1, h2 => ⟨h1, h2⟩
 | x :: l, U, h1, h2 => mulF_lt hp l (mulR F U x) (mulK_lt hp h1 _) (tX_lt hp h2)
theorem tX_64 {F : Gf} (hp : F.p ≤ 64) {V : Nat → Nat} (h : ∀ j, V j < F.p) : ∀ j, V j < 64 := fun j => Nat.lt_of_lt_of_le (h j) hp
theorem keepsOthers_below {w w' : World} (h : Below w.heap.size w w') : KeepsOthers w w' := ⟨h.size, fun k o ho _ => (h.block k (Array.getElem?_eq_some_iff.1 ho).1).trans ho⟩
set_option maxHeartbeats 12800000 in
theorem mul_c {F : Gf} {b cap x y : Nat} {W : World} (hx : x ≤ 64) (hy : y ≤ 64) (hF : FldAt F b cap W) (hp0 : 0 < F.p) : Calls Try.prog 82 #[FV F b cap, .int .i64 (x : Nat), .int .i64 (y : Nat)] W fun e w' => e = .returned (.int .i64 (mulT F hp0 x y : Nat)) ∧ Below W.heap.size W w' := by
 obtain ⟨h1, hp6, h3, h4, h5, h6, h7⟩ := fd_small F hF.mem
 have HFA := Lib.hid hF
 have hq2 : 2 ≤ F.q := by
  rw [← h5]
  exact Nat.le_trans h1 (Nat.le_self_pow (by omega) _)
 have hqz : ((F.q : Int) == 0) = false := by simp; omega
 refine (callsIn_wide (n := 3)).1 ?_
 refine callsIn_of_wp_marks Try.func82 rfl trivial ?_ rfl
 simp only [Try.ntmps82, List.size_toArray, List.length_cons, List.length_nil, Nat.reduceAdd, Nat.reduceSub, Array.replicate_succ, Array.replicate_zero, List.push_toArray, List.append_toArray, List.nil_append, List.cons_append]
 obtain ⟨W0, hW0⟩ : ∃ W0, W.alloc (.cells #[.int .i64 F.p, .int .i64 F.e, FM F b cap] 53) = W0 := ⟨_, rfl⟩
 have HF0 : Hid (FB3 W.heap.size F b cap W0) := Lib.hid (by rw [← hW0]; exact fb3_new W rfl)
 have HB0 : Hid (Below W.heap.size W W0) := Lib.hid (by rw [← hW0]; exact (Below.refl _ _).alloc (Nat.le_refl _) _)
 have H4 : Hid (F.e ≤ 6) := Lib.hid h4
 clear hF h1 h3 h5 h6 h7 hq2
 obtain ⟨f0, f1, f2⟩ := HF0.out
 gi_wp2_with fail
 clear hW0
 refine ⟨trivial, ?_⟩
 refine CallsIn.mono (callsIn_wide.2 (size_c HFA.out.mem)) ?_
 rintro z w0 ⟨rfl, hb⟩
 obtain ⟨B1, hB1⟩ : ∃ B, w0.heap.size = B := ⟨_, rfl⟩
 obtain ⟨w1, hw1⟩ : ∃ w1, w0.alloc (.cells #[.int .i64 0, .int .i64 0, .int .i64 0, .int .i64 0, .int .i64 0, .int .i64 0, .int .i64 0] 114) = w1 := ⟨_, rfl⟩
 have hal : Below w0.heap.size w0 w1 := by rw [← hw1]; exact (Below.refl _ _).alloc (Nat.le_refl _) _
 have HS1 : Hid (C7 z7 B1 w1) := Lib.hid (by rw [← hw1]; exact c7_new _ _ hB1)
 have HF1 := Lib.hid ((HF0.out.below hb).below hal)
 have HB1 : Hid (Below W.heap.size W w1) := Lib.hid ((HB0.out.trans (hb.mono HB0.out.size)).trans (hal.mono (Nat.le_trans HB0.out.size hb.size)))
 have HB1L : Hid (W.heap.size < B1 ∧ w1.heap.size = B1 + 1) := Lib.hid ⟨by rw [← hB1]; exact Nat.lt_of_lt_of_le HF0.out.lt hb.size, by rw [← hw1, ← hB1]; simp⟩
 clear hb hal HF0 HB0 f0 f1 f2
 obtain ⟨f0, f1, f2⟩ := HF1.out
 gi_wp2_with fail
 clear hw1 hB1
 refine ⟨trivial, ?_⟩
 refine CallsIn.mono (callsIn_wide.2 (expand_c (n0 := x) hp0 hp6 (by omega))) ?_
 rintro z w2 ⟨rfl, hb⟩
 have HF2 := Lib.hid (HF1.out.below hb)
 have HS2 := Lib.hid (HS1.out.below hb)
 have HB2 := Lib.hid (HB1.out.trans (hb.mono HB1.out.size))
 have HZ2 : Hid (B1 < w2.heap.size) := Lib.hid (by have := HB1L.out.2; have := hb.size; omega)
 clear hb HF1 HS1 HB1 f0 f1 f2
 obtain ⟨V, hV⟩ : ∃ V, expV hp0 x = V := ⟨_, rfl⟩
 have HV : Hid (∀ j, V j < F.p) := Lib.hid (by rw [← hV]; exact expV_lt hp0 x)
 have HVE := Lib.hid hV
 rw [hV]
 clear hV
 obtain ⟨B, hB⟩ : ∃ B, w2.heap.size = B := ⟨_, rfl⟩
 obtain ⟨W3, hW3⟩ : ∃ W3, w2.alloc (.cells #[.int .i64 (V 0 : Nat), .int .i64 (V 1 : Nat), .int .i64 (V 2 : Nat), .int .i64 (V 3 : Nat), .int .i64 (V 4 : Nat), .int .i64 (V 5 : Nat), .int .i64 (V 6 : Nat)] 114) = W3 := ⟨_, rfl⟩
 have HC3 : Hid (C7 V B W3) := Lib.hid (by rw [← hW3]; exact c7_put _ _ hB)
 have hal : Below w2.heap.size w2 W3 := by rw [← hW3]; exact (Below.refl _ _).alloc (Nat.le_refl _) _
 have HF3 := Lib.hid (HF2.out.below hal)
 have HS3 := Lib.hid (HS2.out.below hal)
 have HB3 := Lib.hid (HB2.out.trans (hal.mono HB2.out.size))
 have HBB : Hid (W.heap.size < B1 ∧ B1 < B ∧ W3.heap.size = B + 1) := Lib.hid ⟨HB1L.out.1, by rw [← hB]; exact HZ2.out, by rw [← hW3, ← hB]; simp⟩
 clear hal HF2 HS2 HB2 HB1L HZ2
 obtain ⟨f0, f1, f2⟩ := HF3.out
 gi_wp2_with fail
 clear hW3 hB
 refine ⟨trivial, ?_⟩
 refine CallsIn.mono (callsIn_wide.2 digits_c) ?_
 rintro z w4 ⟨rfl, hpb, hnb, hsz, hb⟩
 have HC4 := Lib.hid (HC3.out.below hb)
 have HF4 := Lib.hid (HF3.out.below hb)
 have HS4 := Lib.hid (HS3.out.below hb)
 have HB4 := Lib.hid (HB3.out.trans (hb.mono HB3.out.size))
 obtain ⟨g, hg⟩ : ∃ g, W3.heap.size = g := ⟨_, rfl⟩
 rw [hg] at hpb hnb hsz
 have HG : Hid (g = B + 1) := Lib.hid (by rw [← hg]; exact HBB.out.2.2)
 clear hb HC3 HF3 HS3 HB3 f0 f1 f2
 gi_wp2_with fail
 try rw [hg]
 clear hg
 have HZ1 := Lib.hid hsz
 refine wpIn_rangeFunc_ownF (n := 3) rfl (by decide) (gf := 108) (lb := #[.pointer (some ⟨g + 1, 0, none⟩), .pointer (some ⟨g, 0, none⟩)]) rfl trivial (enters_of Try.func108 (by kernel_rfl) rfl)
  (dig_stops (n0 := y) 2 (by decide) hp0 hp6 (by omega) _ hpb hnb) (fun h k x => k (h x)) ?kb (Below.refl _ _) (fun _ => rfl)
  (fun pre W' => (C7 (mulF F (z7, V) pre).1 B1 W' ∧ C7 (mulF F (z7, V) pre).2 B W' ∧ FB3 W.heap.size F b cap W') ∧ Below W.heap.size W W')
  (fun _ _ _ => False)
  (OwnFrom.and (Own.from (fun s A B' row hs hg hr => ⟨hs.1.kept hg hr, hs.2.1.kept hg hr, hs.2.2.kept hg hr⟩) _) (ownFrom_below (Nat.le_refl _) HB4.out.size))
  (fun _ _ _ _ _ hs _ _ => hs)
  ⟨⟨HS4.out, HC4.out, HF4.out⟩, HB4.out⟩ ?a1 ?assign ?body ?done ?stop
 case kb =>
  intro A l o o' hl ho h1 h2 hA
  exact (World.cell?_of_block (w := A) (a := ⟨g, 0, none⟩) (World.putObj_heap_other (by have h9 := HZ1.out; dsimp only; omega))).trans hA
 case assign =>
  intro l x A K hK
  gi_wp2
  exact hK
 case stop =>
  rintro D c pre A _ _ h _
  exact h.elim
 case done =>
  rintro D ys A hD rfl ⟨⟨hc, -, hf⟩, hbl⟩ hK
  obtain ⟨U, hU⟩ : ∃ U, (mulF F (z7, V) (dlD hp0 7 0 y)).1 = U := ⟨_, rfl⟩
  rw [hU] at hc
  have HU6 : Hid (∀ j, U j < 64) := Lib.hid (tX_64 hp6 (by rw [← hU]; exact (mulF_lt hp0 _ _ (fun _ => hp0) HV.out).1))
  have HUE : Hid (mulT F hp0 x y = horF F.p U 7) := Lib.hid (by unfold mulT; rw [← hU, ← HVE.out])
  have c0 := hc.cell 0 (by decide)
  have c1 := hc.cell 1 (by decide)
  have c2 := hc.cell 2 (by decide)
  have c3 := hc.cell 3 (by decide)
  have c4 := hc.cell 4 (by decide)
  have c5 := hc.cell 5 (by decide)
  have c6 := hc.cell 6 (by decide)
  obtain ⟨f0, f1, f2⟩ := hf
  have HBL := Lib.hid hbl
  have HHD := Lib.hid hD
  have HK := Lib.hid hK
  clear hbl hc hU hpb hnb hsz hD
  gi_wp2_with fail
  refine ⟨trivial, ?_⟩
  refine CallsIn.mono (callsIn_wide.2 (number_c (V := U) hp6 HU6.out)) ?_
  rintro z w5 ⟨rfl, hb⟩
  have hDl : D < A.heap.size := (Array.getElem?_eq_some_iff.1 HK.out).1
  have hK5 : w5.heap[D]? = some (.deferred (some [])) := (hb.block D hDl).trans HK.out
  have HB5 := Lib.hid (HBL.out.trans (hb.mono HBL.out.size))
  have HDD : Hid (W.heap.size ≤ D) := Lib.hid (by have := HHD.out; have := HB4.out.size; omega)
  clear hb hDl
  rw [← HUE.out]
  gi_wp2
  refine ⟨by simp, .inl ⟨_, _, rfl, run_takeDeferred hK5, ?_⟩⟩
  exact ⟨_, results_tmp rfl _ _ _, rfl, HB5.out.grown (grownBy_putObj' w5 D (.deferred none)) HB5.out.size (fun k e => by cases e; exact HDD.out)⟩
 case body =>
  rintro l pre x A ⟨⟨hs, hc, hf⟩, hbl⟩ hlen
  obtain ⟨S, hS⟩ : ∃ S, (mulF F (z7, V) pre).1 = S := ⟨_, rfl⟩
  obtain ⟨T, hT⟩ : ∃ T, (mulF F (z7, V) pre).2 = T := ⟨_, rfl⟩
  have hlt := mulF_lt hp0 pre (z7, V) (fun _ => hp0) HV.out
  rw [hS, hT] at hlt
  rw [hS] at hs
  rw [hT] at hc
  have HLT := Lib.hid hlt
  obtain ⟨d, hd⟩ : ∃ d, x.1.2 = d := ⟨_, rfl⟩
  have hdp : d < F.p := by rw [← hd]; exact x.2.2
  have HST : Hid (mulF F (z7, V) (pre ++ [x]) = (mulKN F.p d S T F.e, tX F T)) := Lib.hid (by
   show List.foldl _ _ _ = _
   rw [List.foldl_append]
   show mulR F (mulF F (z7, V) pre) x = _
   unfold mulR
   rw [hS, hT, hd])
  have HC := Lib.hid hc
  have HS := Lib.hid hs
  have HF := Lib.hid hf
  have HBL := Lib.hid hbl
  obtain ⟨f0, f1, f2⟩ := hf
  rw [hd]
  clear hs hc hbl hlen hS hT hd hlt hpb hnb hsz
  gi_wp2
  gi_loopw [27] (fun i wr => ∃ k : Nat, k ≤ F.e ∧ i = .int .i64 (k : Nat) ∧ Hid (C7 (mulKN F.p d S T k) B1 wr) ∧ Hid (C7 T B wr) ∧ Hid (FB3 W.heap.size F b cap wr) ∧ Hid (Below W.heap.size W wr) ∧ Hid (KeepsOthers A wr ∧ (Pb F.p g A → Pb F.p g wr))) (fun i _ => F.e - (intOf i).toNat)
  case atStart => exact ⟨0, Nat.zero_le _, rfl, by rw [mulK_zeroN]; exact HS, HC, HF, HBL, Lib.hid ⟨KeepsOthers.refl _, fun h => h⟩⟩
  case round =>
   obtain ⟨k, hk, rfl, JS, JC, JF, JB, JK⟩ := hrel
   have h4 := H4.out
   obtain ⟨f0, f1, f2⟩ := JF.out
   by_cases hlt : k < F.e
   ·have hlti : (k : Int) < (F.e : Int) := by omega
    have hk7 : k < 7 := by omega
    have hk7i : (k : Int) < 7 := by omega
    obtain ⟨u, hu⟩ : ∃ u, S k = u := ⟨_, rfl⟩
    obtain ⟨t, ht⟩ : ∃ t, T k = t := ⟨_, rfl⟩
    have hun : u < F.p := by rw [← hu]; exact HLT.out.1 k
    have htn : t < F.p := by rw [← ht]; exact HLT.out.2 k
    have hci : wr.drew.cell? ⟨B1, k, none⟩ = some (.int .i64 (u : Nat)) := by rw [show wr.drew.cell? ⟨B1, k, none⟩ = wr.cell? ⟨B1, k, none⟩ from rfl, JS.out.cell k hk7, mulK_hi _ _ _ _ (Nat.le_refl k), hu]
    have hfz : wr.drew.frozen? ⟨B1, k, none⟩ = false := JS.out.fz k
    have hS0 : wr.drew.cell? ⟨B, k, none⟩ = some (.int .i64 (t : Nat)) ∧ wr.drew.cell? ⟨W.heap.size, 0, none⟩ = some (.int .i64 (F.p : Nat)) := ⟨by rw [show wr.drew.cell? ⟨B, k, none⟩ = wr.cell? ⟨B, k, none⟩ from rfl, JC.out.cell k hk7, ht], f0⟩
    obtain ⟨m, hm⟩ : ∃ m, d * t = m := ⟨_, rfl⟩
    have hm2 : m ≤ 64 * 64 := by rw [← hm]; exact Nat.mul_le_mul (by omega) (by omega)
    have hmi : (d : Int) * (t : Int) = (m : Int) := by rw [← hm]; exact (Int.natCast_mul _ _).symm
    obtain ⟨q, hq⟩ : ∃ q, u + m = q := ⟨_, rfl⟩
    have hqi : (u : Int) + (m : Int) = (q : Int) := by omega
    have hq2 : q ≤ 5000 := by omega
    obtain ⟨r, hr⟩ : ∃ r, q % F.p = r := ⟨_, rfl⟩
    have hri : (q : Int) % (F.p : Int) = (r : Int) := by rw [← hr]; exact (Int.natCast_emod _ _).symm
    have hrt : (q : Int).tmod (F.p : Int) = (r : Int) := by rw [Int.tmod_eq_emod_of_nonneg (by omega)]; exact hri
    have hrp : r < F.p := by rw [← hr]; exact Nat.mod_lt _ hp0
    have hpz : ((F.p : Int) == 0) = false := by simp; omega
    have hpz2 : ¬ F.p = 0 := by omega
    have HSS : Hid (mulKN F.p d S T (k + 1) = upd (mulKN F.p d S T k) k r) := Lib.hid (by rw [mulK_step, hu, ht, hm, hq, hr])
    have hwr := w64 (n := r) (Nat.lt_trans hrp (Nat.lt_of_le_of_lt hp6 (by decide)))
    have hwm := w64 (n := m) (Nat.lt_of_le_of_lt hm2 (by decide))
    have hwq := w64 (n := q) (Nat.lt_of_le_of_lt hq2 (by decide))
    have HX7 := Lib.hid hk7
    have HLTK := Lib.hid hlt
    clear f0 f1 f2 hu ht hm hq hr hm2 h4 hk
    gi_wp2
    refine Go.Rg.in_region_held_drew (S := fun w' => w'.cell? ⟨B, k, none⟩ = some (.int .i64 (t : Nat)) ∧ w'.cell? ⟨W.heap.size, 0, none⟩ = some (.int .i64 (F.p : Nat))) (by kernel_rfl) (by kernel_rfl) (fun hLO => hLO.elim fun _ h => h.elim fun _ h => h) (by with_reducible exact hS0) (fun hHeld => ?_)
    refine Rg.tk 0 ⟨some 30,.move (.tmp 11),3,"field.go:70",#[],none⟩ ?_
    try simp only [Rg.gp]
    refine Rg.tk 1 ⟨some 31,.move (.tmp 11),3,"field.go:70",#[],none⟩ ?_
    try simp only [Rg.gp]
    refine Rg.tk 2 ⟨some 32,.indexAddr 114 (.tmp 7) (.tmp 31),0,"field.go:70",#[⟨1,.data⟩],none⟩ ?_
    try simp only [Rg.gp]
    refine Rg.tk 4 ⟨some 34,.move (.tmp 10),3,"field.go:70",#[],none⟩ ?_
    try simp only [Rg.gp]
    refine Rg.tk 5 ⟨some 35,.move (.tmp 11),3,"field.go:70",#[],none⟩ ?_
    try simp only [Rg.gp]
    refine Rg.tk 6 ⟨some 36,.indexAddr 114 (.tmp 8) (.tmp 35),0,"field.go:70",#[⟨5,.data⟩],none⟩ ?_
    try simp only [Rg.gp]
    refine Rg.tk 7 ⟨some 37,.load 3 (.tmp 36),3,"field.go:70",#[⟨6,.data⟩],none⟩ ?_
    try simp only [Rg.gp]
    refine Rg.tk 8 ⟨some 38,.binOp BinOp.mul 3 (.tmp 34) (.tmp 37) 3,3,"field.go:70",#[⟨4,.data⟩,⟨7,.data⟩],none⟩ ?_
    try simp only [Rg.gp]
    refine Rg.tk 10 ⟨some 40,.fieldAddr 53 (.tmp 3) 0,0,"field.go:70",#[],none⟩ ?_
    try simp only [Rg.gp]
    refine Rg.tk 11 ⟨some 41,.load 3 (.tmp 40),3,"field.go:70",#[⟨10,.data⟩],none⟩ ?_
    try simp only [Rg.gp]
    refine Rg.rd1 3 ⟨some 33,.load 3 (.tmp 32),3,"field.go:70",#[⟨2,.data⟩],none⟩ fun K hK => ?_
    go_simp
    refine hK.out _ _ ?_ (fun hHeld => ?_)
    ·(try dsimp only)
     exact hHeld
    clear hK K
    try simp only [Rg.gp]
    refine Rg.tk 9 ⟨some 39,.binOp BinOp.add 3 (.tmp 33) (.tmp 38) 3,3,"field.go:70",#[⟨3,.data⟩,⟨8,.data⟩],none⟩ ?_
    try simp only [Rg.gp]
    refine Rg.tk 12 ⟨some 42,.binOp BinOp.rem 3 (.tmp 39) (.tmp 41) 3,3,"field.go:70",#[⟨9,.data⟩,⟨11,.data⟩],none⟩ ?_
    try simp only [Rg.gp]
    refine Rg.tk 13 ⟨some 43,.indexAddr 114 (.tmp 7) (.tmp 30),0,"field.go:70",#[⟨0,.data⟩,⟨0,.phase⟩,⟨1,.phase⟩,⟨2,.phase⟩,⟨3,.phase⟩,⟨4,.phase⟩,⟨5,.phase⟩,⟨6,.phase⟩,⟨7,.phase⟩,⟨8,.phase⟩,⟨9,.phase⟩,⟨10,.phase⟩,⟨11,.phase⟩,⟨12,.phase⟩],none⟩ ?_
    try simp only [Rg.gp]
    refine Rg.rd1 14 ⟨none,.store 3 (.tmp 43) (.tmp 42),0,"field.go:70",#[⟨13,.data⟩,⟨12,.data⟩,⟨0,.phase⟩,⟨1,.phase⟩,⟨2,.phase⟩,⟨3,.phase⟩,⟨4,.phase⟩,⟨5,.phase⟩,⟨6,.phase⟩,⟨7,.phase⟩,⟨8,.phase⟩,⟨9,.phase⟩,⟨10,.phase⟩,⟨11,.phase⟩,⟨12,.phase⟩],none⟩ fun K hK => ?_
    go_simp
    refine hK.out _ _ ?_ (fun hHeld => ?_)
    ·(try dsimp only)
     exact ⟨(World.cell?_setCell_other _ _ _ _ (by have h := HBB.out; simp; try omega)).trans hHeld.1, (World.cell?_setCell_other _ _ _ _ (by have h := HBB.out; simp; try omega)).trans hHeld.2⟩
    clear hK K
    try simp only [Rg.gp]
    refine wpAnyH_done (by kernel_rfl) ?_ _
    clear hHeld hS0
    have HBd := HBB.out
    have KS : Hid (C7 (mulKN F.p d S T (k + 1)) B1 (wr.setCell ⟨B1, k, none⟩ (.int .i64 (r : Nat))).drew) := Lib.hid (by
     rw [HSS.out]
     have h := JS.out.set HX7.out r
     exact ⟨h.cell, h.fz⟩)
    have KC : Hid (C7 T B (wr.setCell ⟨B1, k, none⟩ (.int .i64 (r : Nat))).drew) := Lib.hid (JC.out.of (Below.heap_setCell _ _ _ _ (by show B ≠ B1; omega)))
    have KF : Hid (FB3 W.heap.size F b cap (wr.setCell ⟨B1, k, none⟩ (.int .i64 (r : Nat))).drew) := Lib.hid (JF.out.of (Below.heap_setCell _ _ _ _ (by show W.heap.size ≠ B1; omega)))
    have KB : Hid (Below W.heap.size W (wr.setCell ⟨B1, k, none⟩ (.int .i64 (r : Nat))).drew) := Lib.hid (setCell_above JB.out (by omega)).drew
    have KK : Hid (KeepsOthers A (wr.setCell ⟨B1, k, none⟩ (.int .i64 (r : Nat))).drew ∧ (Pb F.p g A → Pb F.p g (wr.setCell ⟨B1, k, none⟩ (.int .i64 (r : Nat))).drew)) := Lib.hid ⟨JK.out.1.trans ((KeepsOthers.setCell _ _ _).trans (KeepsOthers.drew _)), fun h => (World.cell?_of_block (w := wr) (a := ⟨g, 0, none⟩) (Below.heap_setCell _ _ _ _ (by have := HG.out; show g ≠ B1; omega))).trans (JK.out.2 h)⟩
    clear HBd
    gi_wp2
    go_roundw
    case rel => exact ⟨k + 1, HLTK.out, by go_num, KS, KC, KF, KB, KK⟩
    case measure => have h := HLTK.out; (try simp [intOf]); (try omega)
   ·have hlti : ¬ (k : Int) < (F.e : Int) := by omega
    obtain rfl : k = F.e := by omega
    have c0 := JC.out.cell 0 (by decide)
    have c1 := JC.out.cell 1 (by decide)
    have c2 := JC.out.cell 2 (by decide)
    have c3 := JC.out.cell 3 (by decide)
    have c4 := JC.out.cell 4 (by decide)
    have c5 := JC.out.cell 5 (by decide)
    have c6 := JC.out.cell 6 (by decide)
    clear h4 hk
    gi_wp2_with fail
    refine ⟨trivial, ?_⟩
    refine CallsIn.mono (CallsIn.inRound l (callsIn_wide.2 (timesX_c (V := T) (tX_64 hp6 HLT.out.2) (HFA.out.below JB.out)))) ?_
    rintro z w5 ⟨rfl, hb⟩
    obtain ⟨X, hX⟩ : ∃ X, tX F T = X := ⟨_, rfl⟩
    rw [hX]
    have HX := Lib.hid hX
    have HC5 := Lib.hid (JC.out.below hb)
    have HS5 := Lib.hid (JS.out.below hb)
    have HF5 := Lib.hid (JF.out.below hb)
    have HB5 := Lib.hid (JB.out.trans (hb.mono JB.out.size))
    have HK5 : Hid (KeepsOthers A w5 ∧ (Pb F.p g A → Pb F.p g w5)) := Lib.hid ⟨JK.out.1.trans (keepsOthers_below hb), fun h => (hb.cell (World.block_lt_of_cell? _ _ (JK.out.2 h))).trans (JK.out.2 h)⟩
    have d0 := HC5.out.cell 0 (by decide)
    have d1 := HC5.out.cell 1 (by decide)
    have d2 := HC5.out.cell 2 (by decide)
    have d3 := HC5.out.cell 3 (by decide)
    have d4 := HC5.out.cell 4 (by decide)
    have d5 := HC5.out.cell 5 (by decide)
    have d6 := HC5.out.cell 6 (by decide)
    have u0 := HC5.out.fz 0
    have u1 := HC5.out.fz 1
    have u2 := HC5.out.fz 2
    have u3 := HC5.out.fz 3
    have u4 := HC5.out.fz 4
    have u5 := HC5.out.fz 5
    have u6 := HC5.out.fz 6
    clear hb hX c0 c1 c2 c3 c4 c5 c6 f0 f1 f2
    gi_wp2
    refine ⟨HK5.out.1.trans (st7_others _ B X), fun hA => ?_, ⟨⟨?_, ?_, ?_⟩, ?_⟩⟩
    ·have h := HG.out
     exact (World.cell?_of_block (w := w5) (a := ⟨g, 0, none⟩) (st7_heap _ B X (by show g ≠ B; omega))).trans (HK5.out.2 hA)
    ·rw [HST.out]
     have h := HBB.out.2.1
     exact HS5.out.of (st7_heap _ B X (by omega))
    ·rw [HST.out]
     show C7 (tX F T) B _
     rw [HX.out]
     exact HC5.out.put X
    ·have h := HBB.out
     exact HF5.out.of (st7_heap _ B X (by omega))
    ·have h := HBB.out
     exact st7_below X HB5.out (by omega)
end Go.Proofs.Ytdafhhojiioifaa

/- What the operations' digits come to: checked at all pairs. -/
namespace Go.Proofs.Ytdafhhojiioifaa
open Go.RowKit Go.Fl Go.Shelf
set_option maxRecDepth 100000
set_option linter.unusedVariables false
set_option linter.unusedSectionVars false
noncomputable def kP (F : Gf) (f : 0 < F.p → Bool) : Bool := Decidable.rec (fun _ => false) f (Nat.decLt 0 F.p)
theorem kP_ok {F : Gf} {f : 0 < F.p → Bool} (h : kP F f = true) (hp : 0 < F.p) : f hp = true := by
 unfold kP at h
 cases hd : Nat.decLt 0 F.p with
 | isTrue _ => rw [hd] at h; exact h
 | isFalse n => exact (n hp).elim
noncomputable def kAdd (F : Gf) : Bool := kP F fun hp => allLt F.q fun a => allLt F.q fun b => Nat.beq (addT hp 1 a b) (F.add a b)
noncomputable def kSub (F : Gf) : Bool := kP F fun hp => allLt F.q fun a => allLt F.q fun b => Nat.beq (addT hp (Nat.sub F.p 1) a b) (F.sub a b)
noncomputable def kNeg (F : Gf) : Bool := kP F fun hp => allLt F.q fun a => Nat.beq (addT hp (Nat.sub F.p 1) 0 a) (F.neg a)
noncomputable def kMul (F : Gf) : Bool := kP F fun hp => allLt F.q fun a => allLt F.q fun b => Nat.beq (mulT F hp a b) (F.mul a b)
end Go.Proofs.Ytdafhhojiioifaa
