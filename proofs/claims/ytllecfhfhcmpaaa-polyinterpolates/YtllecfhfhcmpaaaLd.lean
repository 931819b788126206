/- The examples: the walk. -/
import Derived.Test.YtllecfhfhcmpaaaLc
namespace Go.Proofs.Ytllecfhfhcmpaaa
open Go.RowKit Go.Fl
set_option maxRecDepth 100000
set_option linter.unusedVariables false
set_option linter.unusedSimpArgs false
set_option linter.unusedSectionVars false

theorem nn_new {w : World} {L : List Nat} {cs : Array Value} (hc : cs = (L.map N64).toArray) {n : Nat} (hn : n = L.length) : NN L (w.alloc (.cells cs 3)) (.slice (some ⟨w.heap.size, 0, none⟩) n n) := by
 subst hn
 refine .inr ⟨w.heap.size, 0, L.length, rfl, Nat.le_refl _, by simp, fun t ht => ?_⟩
 rw [Nat.zero_add, World.cell?_alloc_at _ _ _ _ rfl, hc]
 simp [List.getD, ht]
theorem two_new {w : World} {A B : List Nat} {cs ds : Array Value} {n m : Nat} (hA : cs = (A.map N64).toArray) (hn : n = A.length) (hB : ds = (B.map N64).toArray) (hm : m = B.length) :
  NN A ((w.alloc (.cells cs 3)).alloc (.cells ds 3)) (.slice (some ⟨w.heap.size, 0, none⟩) n n) ∧ NN B ((w.alloc (.cells cs 3)).alloc (.cells ds 3)) (.slice (some ⟨w.heap.size + 1, 0, none⟩) m m) ∧ Below w.heap.size w ((w.alloc (.cells cs 3)).alloc (.cells ds 3)) := by
 have e1 : (w.alloc (.cells cs 3)).heap.size = w.heap.size + 1 := by simp
 refine ⟨(nn_new hA hn).below ((Below.refl _ _).alloc (Nat.le_refl _) _), ?_, ((Below.refl _ _).alloc (Nat.le_refl _) _).alloc (by simp) _⟩
 have := nn_new (w := w.alloc (.cells cs 3)) hB hm
 rwa [e1] at this
/-- the fields of the examples, in their boxes -/
structure EX (W0 : World) (g b2 c2 b4 c4 b5 c5 : Nat) (w : World) : Prop where
 x2 : FB g f2'.p f2'.e (FM f2' b2 c2) w
 x4 : FB (g + 1) f4'.p f4'.e (FM f4' b4 c4) w
 x5 : FB (g + 1 + 1) f5'.p f5'.e (FM f5' b5 c5) w
 f2 : FldAt f2' b2 c2 w
 f4 : FldAt f4' b4 c4 w
 f5 : FldAt f5' b5 c5 w
 bl : Below W0.heap.size W0 w
 sz : g + 3 ≤ w.heap.size
theorem EX.keep {W0 w w' : World} {g b2 c2 b4 c4 b5 c5 : Nat} (h : EX W0 g b2 c2 b4 c4 b5 c5 w) (hb : Below w.heap.size w w') : EX W0 g b2 c2 b4 c4 b5 c5 w' := by
 have hs := h.sz
 have h0 := h.bl.size
 exact ⟨FB.keep h.x2 hb (by omega), FB.keep h.x4 hb (by omega), FB.keep h.x5 hb (by omega), h.f2.below hb, h.f4.below hb, h.f5.below hb, h.bl.trans (hb.mono h0), Nat.le_trans hs hb.size⟩
theorem FldAt.inF {F : Gf} {b c : Nat} {w : World} (h : FldAt F b c w) : Ok F := ok_mem h.mem
section
variable {W0 : World} {g b2 c2 b4 c4 b5 c5 : Nat} {w : World} (h : EX W0 g b2 c2 b4 c4 b5 c5 w)
include h
theorem ex1 {g' : Nat} (hg : g' = w.heap.size) : Calls Try.prog 17 #[FV f2' b2 c2, .slice (some ⟨g', 0, none⟩) 4 4, .slice (some ⟨g' + 1, 0, none⟩) 3 3] ((w.alloc (.cells #[.int .i64 1, .int .i64 0, .int .i64 0, .int .i64 1] 3)).alloc (.cells #[.int .i64 1, .int .i64 1, .int .i64 0] 3))
  fun e w' => (∃ a c a' c', e = .returned (.tuple #[.slice a 3 c, .slice a' 0 c', .int .i64 0]) ∧ NN [1, 1, 1] w' (.slice a 3 c)) ∧ EX W0 g b2 c2 b4 c4 b5 c5 w' := by
 subst hg
 obtain ⟨n1, n2, hb⟩ := two_new (w := w) (A := [1, 0, 0, 1]) (B := [1, 1, 0]) (n := 4) (m := 3) rfl rfl rfl rfl
 refine (divmod_hi (h.f2.below hb).ops (A := [1, 0, 0, 1]) (B := [1, 1, 0]) (po_dec (by decide +kernel) (by decide)).el (fun x hx => of_decide_eq_true (List.all_eq_true.1 (by decide +kernel : (([1, 1, 0] : List Nat).all fun x => decide (x < f2'.q)) = true) x hx)) (by decide) (by decide) rfl rfl n1 n2 (by decide)).mono ?_
 rintro e w' ⟨a1, c1, a2, c2', rfl, k1, k2, hb2⟩
 have e1 : trL [1, 0, 0, 1] = [1, 0, 0, 1] := by decide
 have e2 : trL [1, 1, 0] = [1, 1] := by decide
 rw [e1, e2, ex_div.1] at k1
 rw [e1, e2, ex_div.1, ex_div.2]
 exact ⟨⟨a1, c1, a2, c2', rfl, k1⟩, h.keep (hb.trans (hb2.mono hb.size))⟩
theorem ex2 {g' : Nat} (hg : g' = w.heap.size) : Calls Try.prog 17 #[FV f2' b2 c2, .slice (some ⟨g', 0, none⟩) 1 1, .slice (some ⟨g' + 1, 0, none⟩) 2 2] ((w.alloc (.cells #[.int .i64 1] 3)).alloc (.cells #[.int .i64 0, .int .i64 0] 3))
  fun e w' => e = .returned (.tuple #[.slice none 0 0, .slice none 0 0, .int .i64 3]) ∧ Below w.heap.size w w' := by
 subst hg
 obtain ⟨n1, n2, hb⟩ := two_new (w := w) (A := [1]) (B := [0, 0]) (n := 1) (m := 2) rfl rfl rfl rfl
 refine (divmod_lo (B := [0, 0]) (by decide) rfl n2 (by decide)).mono ?_
 rintro e w' ⟨rfl, hb2⟩
 exact ⟨rfl, hb.trans (hb2.mono hb.size)⟩
theorem ex3 {g' : Nat} (hg : g' = w.heap.size) : Calls Try.prog 36 #[FV f5' b5 c5, .slice (some ⟨g', 0, none⟩) 3 3, .slice (some ⟨g' + 1, 0, none⟩) 3 3] ((w.alloc (.cells #[.int .i64 0, .int .i64 1, .int .i64 2] 3)).alloc (.cells #[.int .i64 1, .int .i64 2, .int .i64 0] 3))
  fun e w' => (∃ a c, e = .returned (.tuple #[.slice a 3 c, .bool true]) ∧ NN [1, 0, 1] w' (.slice a 3 c)) ∧ Below w.heap.size w w' := by
 subst hg
 obtain ⟨n1, n2, hb⟩ := two_new (w := w) (A := [0, 1, 2]) (B := [1, 2, 0]) (n := 3) (m := 3) rfl rfl rfl rfl
 letI : OkC f5' := ⟨ok5⟩
 have i1 : In f5' [0, 1, 2] := (po_dec (by decide +kernel) (by decide)).el
 have i2 : In f5' [1, 2, 0] := fun x hx => of_decide_eq_true (List.all_eq_true.1 (by decide +kernel : (([1, 2, 0] : List Nat).all fun x => decide (x < f5'.q)) = true) x hx)
 refine (values_ok (X := [0, 1, 2]) (Y := [1, 2, 0]) (n := 3) fun v hv => interp_c ((h.f5.below hb).below hv).ops i1 i2 rfl rfl (by decide) (by decide) (n1.below hv) (n2.below hv)).mono ?_
 rintro e w' ⟨P, a, c, rfl, k1, k2, k3, k4, hb2⟩
 obtain rfl := ex_int k2 k3 k4
 exact ⟨⟨a, c, rfl, k1⟩, hb.trans (hb2.mono hb.size)⟩
theorem ex4 {g' : Nat} (hg : g' = w.heap.size) : Calls Try.prog 19 #[FV f5' b5 c5, .slice (some ⟨g', 0, none⟩) 2 2, .slice (some ⟨g' + 1, 0, none⟩) 2 2] ((w.alloc (.cells #[.int .i64 1, .int .i64 1] 3)).alloc (.cells #[.int .i64 1, .int .i64 2] 3))
  fun e w' => e = .returned (.tuple #[.slice none 0 0, .int .i64 1]) ∧ Below w.heap.size w w' := by
 subst hg
 obtain ⟨n1, n2, hb⟩ := two_new (w := w) (A := [1, 1]) (B := [1, 2]) (n := 2) (m := 2) rfl rfl rfl rfl
 refine (interp_no (X := [1, 1]) (Y := [1, 2]) rfl (by decide) (by decide) n1 (.inr (by decide))).mono ?_
 rintro e w' ⟨rfl, hb2⟩
 exact ⟨rfl, hb.trans (hb2.mono hb.size)⟩
theorem ex7 {g' : Nat} (hg : g' = w.heap.size) : Calls Try.prog 29 #[FV f5' b5 c5, .slice (some ⟨g', 0, none⟩) 3 3] (w.alloc (.cells #[.int .i64 1, .int .i64 0, .int .i64 1] 3))
  fun e w' => (∃ a c, e = .returned (.slice a 2 c) ∧ NN [2, 3] w' (.slice a 2 c)) ∧ Below w.heap.size w w' := by
 subst hg
 have n1 : NN [1, 0, 1] (w.alloc (.cells #[.int .i64 1, .int .i64 0, .int .i64 1] 3)) (.slice (some ⟨w.heap.size, 0, none⟩) 3 3) := nn_new rfl rfl
 have hb : Below w.heap.size w (w.alloc (.cells #[.int .i64 1, .int .i64 0, .int .i64 1] 3)) := (Below.refl _ _).alloc (Nat.le_refl _) _
 refine (roots_c (h.f5.below hb).ops (A := [1, 0, 1]) (po_dec (by decide +kernel) (by decide)).el (by decide) rfl n1).mono ?_
 rintro e w' ⟨a, c, rfl, k1, hb2⟩
 rw [ex_roots] at k1 ⊢
 exact ⟨⟨a, c, rfl, k1⟩, hb.trans (hb2.mono hb.size)⟩
theorem ex8 {g' : Nat} (hg : g' = w.heap.size) : Calls Try.prog 25 #[FV f5' b5 c5, .slice (some ⟨g', 0, none⟩) 3 3, .slice (some ⟨g' + 1, 0, none⟩) 2 2] ((w.alloc (.cells #[.int .i64 1, .int .i64 0, .int .i64 1] 3)).alloc (.cells #[.int .i64 2, .int .i64 4] 3))
  fun e w' => (∃ a c, e = .returned (.slice a 2 c) ∧ NN [3, 1] w' (.slice a 2 c)) ∧ Below w.heap.size w w' := by
 subst hg
 obtain ⟨n1, n2, hb⟩ := two_new (w := w) (A := [1, 0, 1]) (B := [2, 4]) (n := 3) (m := 2) rfl rfl rfl rfl
 refine (gcd_c (h.f5.below hb).ops (A := [1, 0, 1]) (B := [2, 4]) (po_dec (by decide +kernel) (by decide)).el (po_dec (by decide +kernel) (by decide)).el (by decide) (by decide) rfl rfl n1 n2).mono ?_
 rintro e w' ⟨G, a, c, rfl, k1, k2, -, hb2⟩
 have e1 : trL [1, 0, 1] = [1, 0, 1] := by decide
 have e2 : trL [2, 4] = [2, 4] := by decide
 rw [e1, e2] at k2
 obtain rfl := k2.uniq ok5 ex_gcd
 exact ⟨⟨a, c, rfl, k1⟩, hb.trans (hb2.mono hb.size)⟩
end
/-- a list compared with a new one -/
theorem ints_new {w : World} {A : List Nat} {a : Option Addr} {n c : Nat} {cs : Array Value} (hn : NN A w (.slice a n c)) (hl : n = A.length) (ha : A.length ≤ 1000) (hc : cs = (A.map N64).toArray) {g : Nat} (hg : g = w.heap.size) :
  Calls Try.prog 14 #[.slice a n c, .slice (some ⟨g, 0, none⟩) n n] (w.alloc (.cells cs 3)) fun e w' => e = .returned (.bool true) ∧ Below w.heap.size w w' := by
 subst hg
 have n1 : NN A (w.alloc (.cells cs 3)) (.slice (some ⟨w.heap.size, 0, none⟩) n n) := nn_new hc hl
 have hb : Below w.heap.size w (w.alloc (.cells cs 3)) := (Below.refl _ _).alloc (Nat.le_refl _) _
 refine (ints_c (A := A) (B := A) (by omega) (by omega) hl hl (hn.below hb) n1).mono ?_
 rintro e w' ⟨rfl, hb2⟩
 exact ⟨by rw [decide_eq_true rfl], hb.trans (hb2.mono hb.size)⟩
theorem ints111 {w : World} {a : Option Addr} {c g : Nat} (hn : NN [1, 1, 1] w (.slice a 3 c)) (hg : g = w.heap.size) : Calls Try.prog 14 #[.slice a 3 c, .slice (some ⟨g, 0, none⟩) 3 3] (w.alloc (.cells #[.int .i64 1, .int .i64 1, .int .i64 1] 3)) fun e w' => e = .returned (.bool true) ∧ Below w.heap.size w w' := ints_new hn rfl (by decide) rfl hg
theorem ints101 {w : World} {a : Option Addr} {c g : Nat} (hn : NN [1, 0, 1] w (.slice a 3 c)) (hg : g = w.heap.size) : Calls Try.prog 14 #[.slice a 3 c, .slice (some ⟨g, 0, none⟩) 3 3] (w.alloc (.cells #[.int .i64 1, .int .i64 0, .int .i64 1] 3)) fun e w' => e = .returned (.bool true) ∧ Below w.heap.size w w' := ints_new hn rfl (by decide) rfl hg
theorem ints11 {w : World} {a : Option Addr} {c g : Nat} (hn : NN [1, 1] w (.slice a 2 c)) (hg : g = w.heap.size) : Calls Try.prog 14 #[.slice a 2 c, .slice (some ⟨g, 0, none⟩) 2 2] (w.alloc (.cells #[.int .i64 1, .int .i64 1] 3)) fun e w' => e = .returned (.bool true) ∧ Below w.heap.size w w' := ints_new hn rfl (by decide) rfl hg
theorem ints23 {w : World} {a : Option Addr} {c g : Nat} (hn : NN [2, 3] w (.slice a 2 c)) (hg : g = w.heap.size) : Calls Try.prog 14 #[.slice a 2 c, .slice (some ⟨g, 0, none⟩) 2 2] (w.alloc (.cells #[.int .i64 2, .int .i64 3] 3)) fun e w' => e = .returned (.bool true) ∧ Below w.heap.size w w' := ints_new hn rfl (by decide) rfl hg
theorem ints31 {w : World} {a : Option Addr} {c g : Nat} (hn : NN [3, 1] w (.slice a 2 c)) (hg : g = w.heap.size) : Calls Try.prog 14 #[.slice a 2 c, .slice (some ⟨g, 0, none⟩) 2 2] (w.alloc (.cells #[.int .i64 3, .int .i64 1] 3)) fun e w' => e = .returned (.bool true) ∧ Below w.heap.size w w' := ints_new hn rfl (by decide) rfl hg
set_option maxHeartbeats 12800000 in
theorem examples_c (W : World) : Calls Try.prog 10 #[] W fun e w' => e = .returned (.bool true) ∧ Below W.heap.size W w' := by
 have HM2 := Lib.hid made2_c
 have HM4 := Lib.hid made4_c
 have HM5 := Lib.hid made5_c
 go_enter Try.func10, Try.ntmps10
 go_wp2_with fail
 with_reducible refine (HM2.out _).mono ?_
 rintro z w1 ⟨b2, c2, rfl, hf2, hb1⟩
 have HF2 := Lib.hid hf2
 have HB1 := Lib.hid hb1
 clear hf2 hb1
 go_wp2_with fail
 with_reducible refine (HM4.out _).mono ?_
 rintro z w2 ⟨b4, c4, rfl, hf4, hb2⟩
 have HF2' := Lib.hid (HF2.out.below hb2)
 have HF4 := Lib.hid hf4
 have HB2 := Lib.hid (HB1.out.trans (hb2.mono HB1.out.size))
 clear hf4 hb2 HF2 HB1
 go_wp2_with fail
 with_reducible refine (HM5.out _).mono ?_
 rintro z w3 ⟨b5, c5, rfl, hf5, hb3⟩
 have HE0 : Hid (EX W w3.heap.size b2 c2 b4 c4 b5 c5 (((w3.alloc (.cells #[.int .i64 f2'.p, .int .i64 f2'.e, FM f2' b2 c2] 28)).alloc (.cells #[.int .i64 f4'.p, .int .i64 f4'.e, FM f4' b4 c4] 28)).alloc (.cells #[.int .i64 f5'.p, .int .i64 f5'.e, FM f5' b5 c5] 28))) := Lib.hid (by
  have k1 : Below w3.heap.size w3 (w3.alloc (.cells #[.int .i64 f2'.p, .int .i64 f2'.e, FM f2' b2 c2] 28)) := (Below.refl _ _).alloc (Nat.le_refl _) _
  have k2 : Below (w3.heap.size + 1) (w3.alloc (.cells #[.int .i64 f2'.p, .int .i64 f2'.e, FM f2' b2 c2] 28)) ((w3.alloc (.cells #[.int .i64 f2'.p, .int .i64 f2'.e, FM f2' b2 c2] 28)).alloc (.cells #[.int .i64 f4'.p, .int .i64 f4'.e, FM f4' b4 c4] 28)) := (Below.refl _ _).alloc (by simp) _
  have k3 : Below (w3.heap.size + 1 + 1) ((w3.alloc (.cells #[.int .i64 f2'.p, .int .i64 f2'.e, FM f2' b2 c2] 28)).alloc (.cells #[.int .i64 f4'.p, .int .i64 f4'.e, FM f4' b4 c4] 28)) (((w3.alloc (.cells #[.int .i64 f2'.p, .int .i64 f2'.e, FM f2' b2 c2] 28)).alloc (.cells #[.int .i64 f4'.p, .int .i64 f4'.e, FM f4' b4 c4] 28)).alloc (.cells #[.int .i64 f5'.p, .int .i64 f5'.e, FM f5' b5 c5] 28)) := (Below.refl _ _).alloc (by simp) _
  have kk := (k1.trans (k2.mono (by omega))).trans (k3.mono (by omega : w3.heap.size ≤ w3.heap.size + 1 + 1))
  exact ⟨FB.keep (FB.keep (by simp [FB]) k2 (by omega)) k3 (by omega), FB.keep ⟨World.cell?_alloc_at _ _ _ _ (by simp), World.cell?_alloc_at _ _ _ _ (by simp), World.cell?_alloc_at _ _ _ _ (by simp)⟩ k3 (by omega),
   ⟨World.cell?_alloc_at _ _ _ _ (by simp), World.cell?_alloc_at _ _ _ _ (by simp), World.cell?_alloc_at _ _ _ _ (by simp)⟩, (HF2'.out.below hb3).below kk, (HF4.out.below hb3).below kk, hf5.below kk,
   (HB2.out.trans (hb3.mono HB2.out.size)).trans (kk.mono (Nat.le_trans HB2.out.size hb3.size)), by simp⟩)
 clear hf5 hb3 HF2' HF4 HB2 HM2 HM4 HM5
 obtain ⟨⟨p0, p1, p2⟩, -, -⟩ := (⟨HE0.out.x2, trivial, trivial⟩ : _ ∧ True ∧ True)
 have HS0 : Hid ((((w3.alloc (.cells #[.int .i64 f2'.p, .int .i64 f2'.e, FM f2' b2 c2] 28)).alloc (.cells #[.int .i64 f4'.p, .int .i64 f4'.e, FM f4' b4 c4] 28)).alloc (.cells #[.int .i64 f5'.p, .int .i64 f5'.e, FM f5' b5 c5] 28)).heap.size = w3.heap.size + 1 + 1 + 1) := Lib.hid (by simp)
 go_wp2_with fail
 with_reducible refine (ex1 HE0.out HS0.out.symm).mono ?_
 rintro z w4 ⟨⟨q1, k1, q2, k2, rfl, hn1⟩, he⟩
 have HE := Lib.hid he
 have HQ := Lib.hid hn1
 clear he hn1 HE0 HS0 p0 p1 p2
 obtain ⟨g, hg⟩ : ∃ g, g = w3.heap.size := ⟨_, rfl⟩
 rw [← hg] at HE
 rw [← hg]
 clear hg
 obtain ⟨p0, p1, p2⟩ := HE.out.x2
 go_wp2_with fail
 with_reducible refine (ex2 HE.out rfl).mono ?_
 rintro z w5 ⟨rfl, hb⟩
 have HE2 := Lib.hid (HE.out.keep hb)
 have HQ2 := Lib.hid (HQ.out.below hb)
 clear HE HQ hb p0 p1 p2
 obtain ⟨p0, p1, p2⟩ := HE2.out.x5
 go_wp2_with fail
 with_reducible refine (ex3 HE2.out rfl).mono ?_
 rintro z w6 ⟨⟨q3, k3, rfl, hn1⟩, hb⟩
 have HE := Lib.hid (HE2.out.keep hb)
 have HQ := Lib.hid (HQ2.out.below hb)
 have HP := Lib.hid hn1
 clear HE2 HQ2 hb p0 p1 p2 hn1
 obtain ⟨p0, p1, p2⟩ := HE.out.x5
 go_wp2_with fail
 with_reducible refine (ex4 HE.out rfl).mono ?_
 rintro z w7 ⟨rfl, hb⟩
 have HE2 := Lib.hid (HE.out.keep hb)
 have HQ2 := Lib.hid (HQ.out.below hb)
 have HP2 := Lib.hid (HP.out.below hb)
 clear HE HQ HP hb p0 p1 p2
 go_wp2_with fail
 with_reducible refine (ints111 HQ2.out rfl).mono ?_
 rintro z w8 ⟨rfl, hb⟩
 have HE := Lib.hid (HE2.out.keep hb)
 have HP := Lib.hid (HP2.out.below hb)
 clear HE2 HQ2 HP2 hb
 go_wp2_with fail
 with_reducible refine (ints101 HP.out rfl).mono ?_
 rintro z w9 ⟨rfl, hb⟩
 have HE2 := Lib.hid (HE.out.keep hb)
 clear HE HP hb
 obtain ⟨p0, p1, p2⟩ := HE2.out.x4
 go_wp2_with fail
 with_reducible refine (min2_c HE2.out.f4).mono ?_
 rintro z w10 ⟨a1, d1, rfl, hn1, hb⟩
 have HE := Lib.hid (HE2.out.keep hb)
 have HN := Lib.hid hn1
 clear HE2 hb hn1 p0 p1 p2
 go_wp2_with fail
 with_reducible refine (ints111 HN.out rfl).mono ?_
 rintro z w11 ⟨rfl, hb⟩
 have HE2 := Lib.hid (HE.out.keep hb)
 clear HE hb HN
 obtain ⟨p0, p1, p2⟩ := HE2.out.x4
 go_wp2_with fail
 with_reducible refine (min1_c HE2.out.f4).mono ?_
 rintro z w12 ⟨a2, d2, rfl, hn1, hb⟩
 have HE := Lib.hid (HE2.out.keep hb)
 have HN := Lib.hid hn1
 clear HE2 hb hn1 p0 p1 p2
 go_wp2_with fail
 with_reducible refine (ints11 HN.out rfl).mono ?_
 rintro z w13 ⟨rfl, hb⟩
 have HE2 := Lib.hid (HE.out.keep hb)
 clear HE hb HN
 obtain ⟨p0, p1, p2⟩ := HE2.out.x5
 go_wp2_with fail
 with_reducible refine (ex7 HE2.out rfl).mono ?_
 rintro z w14 ⟨⟨a3, d3, rfl, hn1⟩, hb⟩
 have HE := Lib.hid (HE2.out.keep hb)
 have HN := Lib.hid hn1
 clear HE2 hb hn1 p0 p1 p2
 go_wp2_with fail
 with_reducible refine (ints23 HN.out rfl).mono ?_
 rintro z w15 ⟨rfl, hb⟩
 have HE2 := Lib.hid (HE.out.keep hb)
 clear HE hb HN
 obtain ⟨p0, p1, p2⟩ := HE2.out.x5
 go_wp2_with fail
 with_reducible refine (ex8 HE2.out rfl).mono ?_
 rintro z w16 ⟨⟨a4, d4, rfl, hn1⟩, hb⟩
 have HE := Lib.hid (HE2.out.keep hb)
 have HN := Lib.hid hn1
 clear HE2 hb hn1 p0 p1 p2
 go_wp2_with fail
 with_reducible refine (ints31 HN.out rfl).mono ?_
 rintro z w17 ⟨rfl, hb⟩
 have HBF := Lib.hid (HE.out.keep hb).bl
 clear HE hb HN
 go_wp2
 go_ret
 exact ⟨rfl, HBF.out⟩
end Go.Proofs.Ytllecfhfhcmpaaa
