/- SpaceEchelon: the law's walk. -/
import Derived.Test.YteeofijcndgbfaaWd
namespace Go.Proofs.Yteeofijcndgbfaa
open Go.RowKit Go.Fl
set_option maxRecDepth 100000
set_option linter.unusedVariables false
set_option linter.unusedSimpArgs false
set_option linter.unusedSectionVars false
/-- four of the five bytes -/
abbrev Z5 (G z0 z1 z2 z3 : Nat) (w : World) : Prop := w.cell? ⟨G, 0, none⟩ = some (.int .u8 (z0 : Nat)) ∧ w.cell? ⟨G, 1, none⟩ = some (.int .u8 (z1 : Nat)) ∧ w.cell? ⟨G, 2, none⟩ = some (.int .u8 (z2 : Nat)) ∧ w.cell? ⟨G, 3, none⟩ = some (.int .u8 (z3 : Nat)) ∧ G < w.heap.size
theorem Z5.below {G z0 z1 z2 z3 : Nat} {w w' : World} (h : Z5 G z0 z1 z2 z3 w) (hb : Below w.heap.size w w') : Z5 G z0 z1 z2 z3 w' := by
 obtain ⟨h0, h1, h2, h3, h4⟩ := h
 exact ⟨(hb.cell (p := ⟨G, 0, none⟩) h4).trans h0, (hb.cell (p := ⟨G, 1, none⟩) h4).trans h1, (hb.cell (p := ⟨G, 2, none⟩) h4).trans h2, (hb.cell (p := ⟨G, 3, none⟩) h4).trans h3, Nat.lt_of_lt_of_le h4 hb.size⟩
/-- .. the turned matrix's box, and a cell -/
abbrev SKT (F : Gf) (b cap n B BM : Nat) (mv : Value) (TM m : Nat) (tv : Value) (b1 o1 : Nat) (u : Value) (w1 w : World) : Prop := SKL F b cap n B BM mv w1 w ∧ MB TM F b cap m tv w ∧ w.cell? ⟨b1, o1, none⟩ = some u ∧ Hid (TM < w.heap.size ∧ b1 < w.heap.size)
theorem SKT.keep {F : Gf} {b cap n B BM TM m b1 o1 : Nat} {mv tv u : Value} {w1 w w' : World} (h : SKT F b cap n B BM mv TM m tv b1 o1 u w1 w) (hb : Below w.heap.size w w') : SKT F b cap n B BM mv TM m tv b1 o1 u w1 w' := by
 obtain ⟨h1, ⟨m0, m1, m2, m3, m4⟩, h3, h4⟩ := h
 exact ⟨h1.keep hb, ⟨(hb.cell (p := ⟨TM, 0, none⟩) h4.out.1).trans m0, (hb.cell (p := ⟨TM, 1, none⟩) h4.out.1).trans m1, (hb.cell (p := ⟨TM, 2, none⟩) h4.out.1).trans m2, (hb.cell (p := ⟨TM, 3, none⟩) h4.out.1).trans m3, (hb.cell (p := ⟨TM, 4, none⟩) h4.out.1).trans m4⟩, (hb.cell (p := ⟨b1, o1, none⟩) h4.out.2).trans h3, Lib.hid ⟨Nat.lt_of_lt_of_le h4.out.1 hb.size, Nat.lt_of_lt_of_le h4.out.2 hb.size⟩⟩
/-- .. three cells -/
abbrev SK3 (F : Gf) (b cap n B BM : Nat) (mv : Value) (IX : Nat) (v0 v1 : Value) (b1 o1 : Nat) (u : Value) (w1 w : World) : Prop := SKL F b cap n B BM mv w1 w ∧ w.cell? ⟨IX, 0, none⟩ = some v0 ∧ w.cell? ⟨IX, 1, none⟩ = some v1 ∧ w.cell? ⟨b1, o1, none⟩ = some u ∧ Hid (IX < w.heap.size ∧ b1 < w.heap.size)
theorem SK3.keep {F : Gf} {b cap n B BM IX b1 o1 : Nat} {mv v0 v1 u : Value} {w1 w w' : World} (h : SK3 F b cap n B BM mv IX v0 v1 b1 o1 u w1 w) (hb : Below w.heap.size w w') : SK3 F b cap n B BM mv IX v0 v1 b1 o1 u w1 w' :=
 ⟨h.1.keep hb, (hb.cell (p := ⟨IX, 0, none⟩) h.2.2.2.2.out.1).trans h.2.1, (hb.cell (p := ⟨IX, 1, none⟩) h.2.2.2.2.out.1).trans h.2.2.1, (hb.cell (p := ⟨b1, o1, none⟩) h.2.2.2.2.out.2).trans h.2.2.2.1, Lib.hid ⟨Nat.lt_of_lt_of_le h.2.2.2.2.out.1 hb.size, Nat.lt_of_lt_of_le h.2.2.2.2.out.2 hb.size⟩⟩
/-- .. and one of the five bytes -/
abbrev SKY (F : Gf) (b cap n B BM : Nat) (mv : Value) (GZ j zz : Nat) (w1 w : World) : Prop := SKL F b cap n B BM mv w1 w ∧ w.cell? ⟨GZ, j, none⟩ = some (.int .u8 (zz : Nat)) ∧ Hid (GZ < w.heap.size)
theorem SKY.keep {F : Gf} {b cap n B BM GZ j zz : Nat} {mv : Value} {w1 w w' : World} (h : SKY F b cap n B BM mv GZ j zz w1 w) (hb : Below w.heap.size w w') : SKY F b cap n B BM mv GZ j zz w1 w' :=
 ⟨h.1.keep hb, (hb.cell (p := ⟨GZ, j, none⟩) h.2.2.out).trans h.2.1, Lib.hid (Nat.lt_of_lt_of_le h.2.2.out hb.size)⟩
theorem NN.blt {L : List Nat} {w : World} {b o n k : Nat} (h : NN L w (.slice (some ⟨b, o, none⟩) n k)) : b < w.heap.size := by
 rcases h with ⟨_, h⟩ | ⟨b', _, _, h, _, h2, _⟩
 ·cases h
 ·injection h with h; injection h with h; injection h with h; subst h; exact h2
theorem LR.new {L : List (List Nat)} {us : List Value} {w w' : World} {base g c : Nat} (hl : us.length = L.length) (hn : ∀ i, i < L.length → NN (L.getD i []) w (us.getD i undef)) (hb : Below w.heap.size w w') (hbs : w.heap.size ≤ base) (hown : w'.ownsRow base 27 1 (.slice (some ⟨g, 0, none⟩) L.length c) L.length us) : LR L us base g c w' := by
 refine ⟨hl, hown, fun i hi => (hn i hi).below hb, fun i hi b o n k e => ?_⟩
 have h := hn i hi
 rw [e] at h
 have h1 := h.blt
 have h2 := (World.ownsRow.lt hown g rfl).1
 omega
/-- a matrix with A's span in a row of slices of the call's own -/
def LQ (F : Gf) (n m : Nat) (A L : List (List Nat)) (us : List Value) (base g c : Nat) (w : World) : Prop := LR L us base g c w ∧ L.length = m ∧ Mn F n L ∧ ∀ v, Sp F (L.map Go.Fl.fn) v ↔ Sp F (A.map Go.Fl.fn) v
theorem LQ.below {F : Gf} {n m base g c : Nat} {A L : List (List Nat)} {us : List Value} {w w' : World} (h : LQ F n m A L us base g c w) (hb : Below w.heap.size w w') : LQ F n m A L us base g c w' := ⟨h.1.below hb, h.2⟩
theorem LQ.sh {F : Gf} {n m base g c : Nat} {A L : List (List Nat)} {us : List Value} {w : World} (h : LQ F n m A L us base g c w) {i : Nat} (hi : i < m) : ∃ a k, us.getD i undef = .slice a n k ∧ NN (L.getD i []) w (.slice a n k) ∧ w.cell? ⟨g, i, none⟩ = some (.slice a n k) ∧ Vn F n (L.getD i []) := by
 obtain ⟨h1, h2, h3, _⟩ := h
 have hi' : i < L.length := by omega
 obtain ⟨a, k, e⟩ := (h1.row i hi').shape
 rw [(mrow h3 hi').len] at e
 exact ⟨a, k, e, e ▸ h1.row i hi', e ▸ h1.cell hi', mrow h3 hi'⟩
theorem LQ.own_off {L : List Nat} {base g : Nat} {w : World} {a : Option Addr} {n c : Nat} (h : w.ownsRow base 3 1 (.slice a n c) n (L.map N64)) (hg : g < base) : ∀ b o m k, (.slice a n c : Value) = .slice (some ⟨b, o, none⟩) m k → b ≠ g := by
 intro b o m k e
 have := (World.ownsRow.lt h b (by rw [e]; rcases h.2 with ⟨e2, _⟩ | ⟨g', _, _, e2, _⟩ <;> rw [e2] at e <;> cases e; rfl)).1
 omega
/-- many ways, one end -/
theorem Rg.share {G : World → Prop} {C : World → Prop} {X : Prop} (h : Hid (∀ x, C x → G x) → X) (hr : ∀ x, C x → G x) : X := h (Lib.hid hr)
/-- a row of its own, from base on, with n cells -/
def DPn (L : List Nat) (n base : Nat) (W : World) (e : Ending) (w' : World) : Prop := ∃ a c, e = .returned (.slice a n c) ∧ w'.ownsRow base 3 1 (.slice a n c) n (L.map N64) ∧ Below W.heap.size W w'
theorem DPost.n {L : List Nat} {n base : Nat} {W w' : World} {e : Ending} (h : DPost L W e w') (hl : L.length = n) (hb : base ≤ W.heap.size) : DPn L n base W e w' := by
 obtain ⟨a, c, h1, h2, h3⟩ := h
 rw [hl] at h1 h2
 exact ⟨a, c, h1, own_weak h2 hb, h3⟩
theorem timV_vn {F : Gf} (hF : Ok F) {n c : Nat} {V : List Nat} (hv : Vn F n V) : Vn F n (timV F c V) := by
 unfold timV; rw [hv.len]; exact moV_vn hF (rep_vn hF n)
theorem timV_fn {F : Gf} (hF : Ok F) {n c : Nat} {V : List Nat} (hv : Vn F n V) : Go.Fl.fn (timV F c V) = ps F c (Go.Fl.fn V) := by
 unfold timV; rw [hv.len, moV_fn hF (rep_vn hF n) hv]
 funext j
 show F.add ((List.replicate n 0).getD j 0) _ = _
 rw [show (List.replicate n 0).getD j 0 = 0 from by simp [List.getD_eq_getElem?_getD, List.getElem?_replicate]; split <;> rfl]
 exact hF.zero_add (Ok.mul_lt hF _ _)
set_option maxHeartbeats 25600000 in
theorem echelon_c {x y z l ca z0 z1 z2 z3 z4 : Nat} {aa : Option Addr} {W : World} (hx : x ≤ 255) (hy : y ≤ 255) (hz : z ≤ 255) (hz0' : z0 ≤ 255) (hz1' : z1 ≤ 255) (hz2' : z2 ≤ 255) (hz3' : z3 ≤ 255) (hl : l ≤ maxLen) (na : N16 l W (.slice aa l ca)) :
  Calls Try.prog 4 #[.agg #[.int .u8 (x : Nat), .int .u8 (y : Nat), .int .u8 (z : Nat), .slice aa l ca], .agg #[.int .u8 (z0 : Nat), .int .u8 (z1 : Nat), .int .u8 (z2 : Nat), .int .u8 (z3 : Nat), .int .u8 (z4 : Nat)]] W fun e w' => e = .returned (.bool true) ∧ Below W.heap.size W w' := by
 obtain ⟨w1, hw1⟩ : ∃ w, w = (W.alloc (.cells #[.int .u8 (x : Nat), .int .u8 (y : Nat), .int .u8 (z : Nat), .slice aa l ca] 24)).alloc (.cells #[.int .u8 (z0 : Nat), .int .u8 (z1 : Nat), .int .u8 (z2 : Nat), .int .u8 (z3 : Nat), .int .u8 (z4 : Nat)] 25) := ⟨_, rfl⟩
 have hal : Below W.heap.size W w1 := by rw [hw1]; exact ((Below.refl _ _).alloc (Nat.le_refl _) _).alloc (by simp) _
 have HAL := Lib.hid hal
 have hes0 : (W.alloc (.cells #[.int .u8 (x : Nat), .int .u8 (y : Nat), .int .u8 (z : Nat), .slice aa l ca] 24)).heap.size = W.heap.size + 1 := by simp
 have HD1 : Hid (w1.cell? ⟨W.heap.size, 0, none⟩ = some (.int .u8 (x : Nat)) ∧ w1.cell? ⟨W.heap.size, 1, none⟩ = some (.int .u8 (y : Nat)) ∧ w1.cell? ⟨W.heap.size, 2, none⟩ = some (.int .u8 (z : Nat)) ∧ w1.cell? ⟨W.heap.size, 3, none⟩ = some (.slice aa l ca) ∧ W.heap.size < w1.heap.size) := Lib.hid (by
  rw [hw1]; exact ⟨(World.cell?_alloc_lt _ _ _ (by simp)).trans (World.cell?_alloc_at _ _ _ _ rfl), (World.cell?_alloc_lt _ _ _ (by simp)).trans (World.cell?_alloc_at _ _ _ _ rfl), (World.cell?_alloc_lt _ _ _ (by simp)).trans (World.cell?_alloc_at _ _ _ _ rfl), (World.cell?_alloc_lt _ _ _ (by simp)).trans (World.cell?_alloc_at _ _ _ _ rfl), by simp; omega⟩)
 have HZB : Hid (Z5 (W.heap.size + 1) z0 z1 z2 z3 w1) := Lib.hid (by
  rw [hw1, ← hes0]; exact ⟨World.cell?_alloc_at _ _ _ _ rfl, World.cell?_alloc_at _ _ _ _ rfl, World.cell?_alloc_at _ _ _ _ rfl, World.cell?_alloc_at _ _ _ _ rfl, by simp⟩)
 have HNA := Lib.hid (na.below hal)
 have HEX : Hid (Calls Try.prog 9 #[] w1 fun e w' => e = .returned (.bool true) ∧ Below w1.heap.size w1 w') := Lib.hid (examples_c w1)
 have HW1 := Lib.hid hw1
 clear hal na hw1 hes0
 go_enter Try.func4, Try.ntmps4
 go_wp2_with fail
 rw [← HW1.out]
 clear HW1
 with_reducible refine HEX.out.mono ?_
 rintro e w2 ⟨rfl, hb2⟩
 obtain ⟨e0, e1, e2, e3, e4⟩ := HD1.out
 have d0 := (hb2.cell (p := ⟨W.heap.size, 0, none⟩) e4).trans e0
 have d1 := (hb2.cell (p := ⟨W.heap.size, 1, none⟩) e4).trans e1
 have d2 := (hb2.cell (p := ⟨W.heap.size, 2, none⟩) e4).trans e2
 have d3 := (hb2.cell (p := ⟨W.heap.size, 3, none⟩) e4).trans e3
 have HB2 : Hid (Below W.heap.size W w2) := Lib.hid (HAL.out.trans (hb2.mono HAL.out.size))
 have HZB2 : Hid (Z5 (W.heap.size + 1) z0 z1 z2 z3 w2) := Lib.hid (HZB.out.below hb2)
 have HMD : Hid (Calls Try.prog 10 #[.agg #[.int .u8 (x : Nat), .int .u8 (y : Nat), .int .u8 (z : Nat), .slice aa l ca]] w2 (MadeP x y z w2)) := Lib.hid (made_c hx hy hz hl (HNA.out.below hb2))
 clear hb2 HEX e0 e1 e2 e3 e4 HD1
 go_wp2_with fail
 with_reducible refine HMD.out.mono ?_
 rintro e w3 ⟨b, cap, A, us, aA, cA, rfl, hf3, hmn, hla, hol, hb3⟩
 obtain ⟨F, hF⟩ : ∃ F, Hid (fdB x = F) := ⟨_, Lib.hid rfl⟩
 obtain ⟨n, hn⟩ : ∃ n, Hid (1 + y % 8 = n) := ⟨_, Lib.hid rfl⟩
 obtain ⟨m, hm⟩ : ∃ n, Hid (z % 7 = n) := ⟨_, Lib.hid rfl⟩
 rw [hF.out] at hf3 hmn ⊢
 rw [hn.out] at hmn ⊢
 rw [hm.out] at hla hol ⊢
 have HN1 : Hid (1 ≤ n ∧ n ≤ 8 ∧ m ≤ 6) := Lib.hid (by have := hn.out; have := hm.out; omega)
 have HTK : Hid (F ∈ fds.take 10) := Lib.hid (by rw [← hF.out]; exact fdB_take x)
 obtain ⟨w4, hw4⟩ : ∃ w, w = (w3.alloc (.cells #[.int .i64 F.p, .int .i64 F.e, FM F b cap, .int .i64 (n : Nat), .slice aA m cA] 32)).alloc (.cells #[.int .i64 F.p, .int .i64 F.e, FM F b cap] 29) := ⟨_, rfl⟩
 have h34 : Below w3.heap.size w3 w4 := by rw [hw4]; exact ((Below.refl _ _).alloc (Nat.le_refl _) _).alloc (by simp) _
 have hes : (w3.alloc (.cells #[.int .i64 F.p, .int .i64 F.e, FM F b cap, .int .i64 (n : Nat), .slice aA m cA] 32)).heap.size = w3.heap.size + 1 := by simp
 have HSK : Hid (SKL F b cap n (w3.heap.size + 1) w3.heap.size (.slice aA m cA) w4 w4) := Lib.hid ⟨by
   have t := FBx.new (w3.alloc (.cells #[.int .i64 F.p, .int .i64 F.e, FM F b cap, .int .i64 (n : Nat), .slice aA m cA] 32)) F b cap
   rw [hes, ← hw4] at t; exact t, by
   rw [hw4]; exact ⟨(World.cell?_alloc_lt _ _ _ (by simp)).trans (World.cell?_alloc_at _ _ _ _ rfl), (World.cell?_alloc_lt _ _ _ (by simp)).trans (World.cell?_alloc_at _ _ _ _ rfl), (World.cell?_alloc_lt _ _ _ (by simp)).trans (World.cell?_alloc_at _ _ _ _ rfl), (World.cell?_alloc_lt _ _ _ (by simp)).trans (World.cell?_alloc_at _ _ _ _ rfl), (World.cell?_alloc_lt _ _ _ (by simp)).trans (World.cell?_alloc_at _ _ _ _ rfl)⟩,
   Lib.hid ⟨hf3.below h34, Below.refl _ _, by rw [hw4]; simp, by rw [hw4]; simp; omega⟩⟩
 have HMA : Hid (MM A w4 (.slice aA m cA)) := Lib.hid (hol.mm.below h34)
 have HMN := Lib.hid hmn
 have HLA := Lib.hid hla
 have hb24 : Below w2.heap.size w2 w4 := hb3.trans (h34.mono hb3.size)
 have HB4 : Hid (Below W.heap.size W w4) := Lib.hid (HB2.out.trans (hb24.mono HB2.out.size))
 have HZB4 : Hid (Z5 (W.heap.size + 1) z0 z1 z2 z3 w4) := Lib.hid (HZB2.out.below hb24)
 have HFF : Hid (Ok F) := Lib.hid (ok_mem hf3.mem)
 have HW4 := Lib.hid hw4
 clear hw4 h34 hb24 hes hol hla hmn hf3 hb3 HMD d0 d1 d2 d3 HNA HZB HZB2
 go_upto_region 6 with fail
 rw [← HW4.out]
 clear HW4
 obtain ⟨GZ, hgz⟩ : ∃ g, g = W.heap.size + 1 := ⟨_, rfl⟩
 rw [← hgz] at HZB4
 generalize w3.heap.size + 1 = B at *
 generalize w3.heap.size = BM at *
 rw [← hgz]
 clear hgz
 have hn1 := HN1.out
 obtain ⟨R, hR⟩ : ∃ KX, Hid (redM F n A = KX) := ⟨_, Lib.hid rfl⟩
 obtain ⟨rl, hrl⟩ : ∃ k, Hid (R.length = k) := ⟨_, Lib.hid rfl⟩
 have HRN : Hid (Mn F n R) := Lib.hid (by rw [← hR.out]; exact (redM_ok HFF.out HMN.out).1)
 have hrl8 : rl ≤ 8 := by have := rank_null HFF.out HMN.out; rw [hR.out, hrl.out] at this; omega
 have HRP : Hid (Red F n (pivM F n A) (R.map Go.Fl.fn)) := Lib.hid (by rw [← hR.out]; exact redM_red HFF.out HMN.out)
 have HPL : Hid (∀ k, k < rl → pvt (Go.Fl.fn (R.getD k [])) n < n) := Lib.hid fun k hk => by
  rw [red_pvt HFF.out HRP.out (by rw [hrl.out]; exact hk)]
  have hl := HRP.out.len
  rw [List.length_map, hrl.out] at hl
  exact HRP.out.bd _ (by rw [List.getD_eq_getElem?_getD, List.getElem?_eq_getElem (by omega)]; exact List.getElem_mem _)
 have HRD : Hid (Calls Try.prog 15 #[FV F b cap, .slice aA m cA] w4 (MPn R rl w4)) := Lib.hid (by
  have t := reduce_c (F := F) (n := n) (A := A) (aa := aA) (ca := cA) (W := w4) HSK.out.2.2.out.1 (by omega) (by omega) (by rw [HLA.out]; omega) HMN.out (by rw [HLA.out]; exact HMA.out)
  rw [HLA.out, hR.out] at t; exact t.mono fun _ _ h => h.n hrl.out)
 obtain ⟨x0, x1, x2⟩ := HSK.out.1
 obtain ⟨q0, q1, q2, q3, q4⟩ := HSK.out.2.1
 go_wp2_with fail
 with_reducible refine HRD.out.mono ?_
 rintro e w5 ⟨aR, cR, rfl, hmr, hb5⟩
 have HSK5 : Hid (SKL F b cap n B BM (.slice aA m cA) w4 w5) := Lib.hid (HSK.out.keep hb5)
 have HMR5 := Lib.hid hmr
 have HC1 : Hid (Calls Try.prog 36 #[.int .i64 (n : Nat), .slice aR rl cR] w5 fun e w' => e = .returned (.bool true) ∧ Below w5.heap.size w5 w') := Lib.hid (isreduced_c (by omega) (by omega) hrl.out HRN.out HRP.out hmr)
 clear hmr hb5 HRD x0 x1 x2 q0 q1 q2 q3 q4
 obtain ⟨x0, x1, x2⟩ := HSK5.out.1
 obtain ⟨q0, q1, q2, q3, q4⟩ := HSK5.out.2.1
 go_wp2_with fail
 with_reducible refine HC1.out.mono ?_
 rintro e w6 ⟨rfl, hb6⟩
 have HSK6 : Hid (SKL F b cap n B BM (.slice aA m cA) w4 w6) := Lib.hid (HSK5.out.keep hb6)
 have HMR6 := Lib.hid (HMR5.out.below hb6)
 have HC2 : Hid (Calls Try.prog 17 #[FV F b cap, .slice aA m cA] w6 fun e w' => e = .returned (.int .i64 (rl : Nat)) ∧ Below w6.heap.size w6 w') := Lib.hid (by
  have t := rank_c (n := n) (A := A) (aa := aA) (ca := cA) (W := w6) HSK6.out.2.2.out.1 (by omega) (by omega) (by rw [HLA.out]; omega) HMN.out (by rw [HLA.out]; exact HMA.out.below HSK6.out.2.2.out.2.1)
  rw [HLA.out, hR.out, hrl.out] at t; exact t)
 clear hb6 HC1 HSK5 HMR5 x0 x1 x2 q0 q1 q2 q3 q4
 obtain ⟨x0, x1, x2⟩ := HSK6.out.1
 obtain ⟨q0, q1, q2, q3, q4⟩ := HSK6.out.2.1
 go_wp2_with fail
 with_reducible refine HC2.out.mono ?_
 rintro e w7 ⟨rfl, hb7⟩
 have HSK7 : Hid (SKL F b cap n B BM (.slice aA m cA) w4 w7) := Lib.hid (HSK6.out.keep hb7)
 have HMR7 := Lib.hid (HMR6.out.below hb7)
 have HC3 : Hid (Calls Try.prog 35 #[FV F b cap, .int .i64 (n : Nat), .slice aR rl cR] w7 fun e w' => e = .returned (.bool true) ∧ Below w7.heap.size w7 w') := Lib.hid (rvalidm_c HTK.out HSK7.out.2.2.out.1 (by omega) (by omega) (by omega) hrl.out HRN.out HMR7.out)
 clear hb7 HC2 HSK6 HMR6 x0 x1 x2 q0 q1 q2 q3 q4
 obtain ⟨x0, x1, x2⟩ := HSK7.out.1
 obtain ⟨q0, q1, q2, q3, q4⟩ := HSK7.out.2.1
 go_wp2_with fail
 with_reducible refine HC3.out.mono ?_
 rintro e w8 ⟨rfl, hb8⟩
 have HSK8 : Hid (SKL F b cap n B BM (.slice aA m cA) w4 w8) := Lib.hid (HSK7.out.keep hb8)
 have HMR8 := Lib.hid (HMR7.out.below hb8)
 have HMA8 := Lib.hid (HMA.out.below HSK8.out.2.2.out.2.1)
 have HZ8 := Lib.hid (HZB4.out.below HSK8.out.2.2.out.2.1)
 clear hb8 HC3 HSK7 HMR7 x0 x1 x2 q0 q1 q2 q3 q4
 go_wp2
 go_loopw [9] (fun i wr => ∃ k : Nat, k ≤ m ∧ i = .int .i64 k ∧ Hid (Below w8.heap.size w8 wr)) (fun i _ => m - (intOf i).toNat)
 case atStart => exact ⟨0, Nat.zero_le _, rfl, Below.refl _ _⟩
 case round =>
  obtain ⟨k, hk, rfl, KB⟩ := hrel
  have HSKr : Hid (SKL F b cap n B BM (.slice aA m cA) w4 wr) := Lib.hid (HSK8.out.keep KB.out)
  have HSKw : Hid (SKL F b cap n B BM (.slice aA m cA) wr wr.drew) := Lib.hid (SKL.draw HSKr.out)
  have HMRr := Lib.hid (HMR8.out.below KB.out)
  obtain ⟨q0, q1, q2, q3, q4⟩ := HSKr.out.2.1
  by_cases hlt : k < m
  ·have hkA : k < A.length := by rw [HLA.out]; exact hlt
   obtain ⟨Y, hY⟩ : ∃ L, Hid (A.getD k [] = L) := ⟨_, Lib.hid rfl⟩
   have HVY : Hid (Vn F n Y) := Lib.hid (by rw [← hY.out]; exact mrow HMN.out hkA)
   have HSU : Hid (coK F n R (pcV n R Y) rl = Y) := Lib.hid (by
    have h := sum_red HFF.out HMN.out (V := Y) (by rw [← hY.out, List.getD_eq_getElem?_getD, List.getElem?_eq_getElem hkA]; exact List.getElem_mem _)
    rw [hR.out, hrl.out] at h; exact h)
   obtain ⟨b1, o1, rfl, a1, c1, hc1, hny⟩ := MM.at (R := A) (by rw [HLA.out]; exact HMA8.out.below KB.out) hkA
   rw [hY.out, HVY.out.len] at hc1 hny
   have HNY := Lib.hid hny
   have hS0 : SKC F b cap n B BM (.slice (some ⟨b1, o1, none⟩) m cA) b1 (o1 + k) (.slice a1 n c1) wr wr.drew := ⟨HSKw.out, hc1, Lib.hid (World.block_lt_of_cell? wr _ hc1)⟩
   clear hny hc1 hkA
   go_wp2_with fail
   refine wp_region_held_drew (S := fun w' => SKC F b cap n B BM (.slice (some ⟨b1, o1, none⟩) m cA) b1 (o1 + k) (.slice a1 n c1) wr w') (by kernel_rfl) (by with_reducible exact hS0) (fun hHeld => ?_)
   refine Rg.tk 0 ⟨some 57,.load 29 (.tmp 7),29,"law.go:126",#[],none⟩ ?_
   try simp only [Rg.gp]
   refine Rg.tk 1 ⟨some 58,.fieldAddr 32 (.tmp 6) 1,0,"law.go:126",#[],none⟩ ?_
   try simp only [Rg.gp]
   refine Rg.tk 2 ⟨some 59,.load 3 (.tmp 58),3,"law.go:126",#[⟨1,.data⟩],none⟩ ?_
   try simp only [Rg.gp]
   refine Rg.tk 3 ⟨some 60,.move (.tmp 8),30,"law.go:126",#[],none⟩ ?_
   try simp only [Rg.gp]
   refine Rg.tk 4 ⟨some 61,.fieldAddr 32 (.tmp 6) 2,0,"law.go:126",#[],none⟩ ?_
   try simp only [Rg.gp]
   refine Rg.tk 5 ⟨some 62,.load 30 (.tmp 61),30,"law.go:126",#[⟨4,.data⟩],none⟩ ?_
   try simp only [Rg.gp]
   refine Rg.tk 6 ⟨some 63,.move (.tmp 9),3,"law.go:126",#[],none⟩ ?_
   try simp only [Rg.gp]
   refine Rg.tk 7 ⟨some 64,.indexAddr 30 (.tmp 62) (.tmp 63),0,"law.go:126",#[⟨5,.data⟩,⟨6,.data⟩],none⟩ ?_
   try simp only [Rg.gp]
   refine Rg.tk 8 ⟨some 65,.load 27 (.tmp 64),27,"law.go:126",#[⟨7,.data⟩],none⟩ ?_
   try simp only [Rg.gp]
   refine Rg.tk 10 ⟨some 67,.fieldAddr 32 (.tmp 6) 2,0,"law.go:126",#[],none⟩ ?_
   try simp only [Rg.gp]
   refine Rg.tk 11 ⟨some 68,.load 30 (.tmp 67),30,"law.go:126",#[⟨10,.data⟩],none⟩ ?_
   try simp only [Rg.gp]
   refine Rg.tk 12 ⟨some 69,.move (.tmp 9),3,"law.go:126",#[],none⟩ ?_
   try simp only [Rg.gp]
   refine Rg.tk 13 ⟨some 70,.indexAddr 30 (.tmp 68) (.tmp 69),0,"law.go:126",#[⟨11,.data⟩,⟨12,.data⟩],none⟩ ?_
   try simp only [Rg.gp]
   refine Rg.tk 14 ⟨some 71,.load 27 (.tmp 70),27,"law.go:126",#[⟨13,.data⟩],none⟩ ?_
   try simp only [Rg.gp]
   refine Rg.rd1 9 ⟨some 66,.call ⟨.value (.func 37),#[.tmp 57,.tmp 59,.tmp 60,.tmp 65],#[29,3,30,27]⟩,27,"law.go:126",#[⟨0,.data⟩,⟨2,.data⟩,⟨3,.data⟩,⟨8,.data⟩],none⟩ fun K hK => ?_
   go_simp
   go_at_call 37
   with_reducible refine ((show Calls Try.prog 37 #[FV F b cap, .int .i64 (n : Nat), .slice aR rl cR, .slice a1 n c1] _ (VPn Y n _) from by have t := sum_c hHeld.1.2.2.out.1 (by omega) (by omega) hrl.out HRN.out HVY.out HPL.out (HMRr.out.below hHeld.1.2.2.out.2.1) (HNY.out.below hHeld.1.2.2.out.2.1); rw [HSU.out] at t; exact t)).mono ?_
   rintro z v0 ⟨a20, c20, rfl, hn20, hb0⟩
   refine hK.out _ _ ?_ (fun hHeld => ?_)
   ·(try dsimp only)
    exact SKC.keep hHeld hb0
   clear hK K
   try simp only [Rg.gp]
   refine Rg.rd1 15 ⟨some 72,.call ⟨.value (.func 20),#[.tmp 66,.tmp 71],#[27,27]⟩,4,"law.go:126",#[⟨9,.data⟩,⟨14,.data⟩,⟨9,.chain⟩],none⟩ fun K hK => ?_
   go_simp
   go_at_call 20
   with_reducible refine ((show Calls Try.prog 20 #[.slice a20 n c20, .slice a1 n c1] _ (fun e w' => e = .returned (.bool true) ∧ Below _ _ w') from by have t := same_c (A := Y) (B := Y) (aa := a20) (ca := c20) (ab := a1) (cb := c1) (by rw [HVY.out.len]; omega) (by rw [HVY.out.len]; omega) (by rw [HVY.out.len]; exact hn20) (by rw [HVY.out.len]; exact HNY.out.below hHeld.1.2.2.out.2.1); rw [HVY.out.len, show decide (Y = Y) = true from decide_eq_true rfl] at t; exact t)).mono ?_
   rintro z v1 ⟨rfl, hb1⟩
   refine hK.out _ _ ?_ (fun hHeld => ?_)
   ·(try dsimp only)
    exact SKC.keep hHeld hb1
   clear hK K
   try simp only [Rg.gp]
   refine Rg.tk 16 ⟨some 73,.unOp UnOp.not 4 (.tmp 72),4,"law.go:126",#[⟨15,.data⟩],none⟩ ?_
   try simp only [Rg.gp]
   refine wpAnyH_done (by kernel_rfl) ?_ _
   have HB5 := Lib.hid (KB.out.trans (hHeld.1.2.2.out.2.1.mono KB.out.size))
   clear hHeld hS0
   go_wp2
   go_roundw
   case rel => exact ⟨k + 1, by omega, by go_num, HB5⟩
   case measure => simp [intOf]; omega
  ·obtain rfl : m = k := by omega
   have hlt1 : ¬ (m : Int) < (m : Int) := by omega
   obtain ⟨w9, hw9⟩ : ∃ w, w = wr := ⟨_, rfl⟩
   subst hw9
   by_cases hm0 : m = 0
   ·have hA0 : A = [] := List.eq_nil_of_length_eq_zero (by rw [HLA.out]; exact hm0)
    have hr0 : rl = 0 := by rw [← hrl.out, ← hR.out, hA0]; rfl
    have hm1 : ((m : Int) == 0) = true := by rw [hm0]; rfl
    have hr1 : ((rl : Int) == 0) = true := by rw [hr0]; rfl
    have hm2 : (m : Int) = 0 := by omega
    have hr2 : (rl : Int) = 0 := by omega
    have HBF := Lib.hid (HB4.out.trans (HSKr.out.2.2.out.2.1.mono HB4.out.size))
    go_wp2
    go_ret
    exact ⟨rfl, HBF.out⟩
   ·have hm1 : ((m : Int) == 0) = false := by simp; omega
    have hm2 : ¬ (m : Int) = 0 := by omega
    go_wp2_with fail
    have HSKW : Hid (SKL F b cap n B BM (.slice aA m cA) w9 w9) := Lib.hid ⟨HSKr.out.1, HSKr.out.2.1, Lib.hid ⟨HSKr.out.2.2.out.1, Below.refl _ _, HSKr.out.2.2.out.2.2⟩⟩
    have HMA9 := Lib.hid (HMA8.out.below KB.out)
    have HZ9 := Lib.hid (HZ8.out.below KB.out)
    have hS0 : SKL F b cap n B BM (.slice aA m cA) w9 w9.drew := HSKw.out
    clear q0 q1 q2 q3 q4
    go_wp2_with fail
    go_cut [10] (fun v wx => ∃ (TM : Nat) (aT : Option Addr) (cT : Nat), v = .pointer (some ⟨TM, 0, none⟩) ∧ Hid (MB TM F b cap m (.slice aT n cT) wx ∧ TM < wx.heap.size) ∧ Hid (MM (tuM n A) wx (.slice aT n cT)) ∧ Hid (Below w9.heap.size w9 wx))
    case first =>
     refine wp_region_held_drew (S := fun w' => SKL F b cap n B BM (.slice aA m cA) w9 w') (by kernel_rfl) (by with_reducible exact hS0) (fun hHeld => ?_)
     obtain ⟨x0, hx0⟩ : ∃ x, x = w9.drew := ⟨_, rfl⟩
     have HBW0 : Hid (Below w9.heap.size w9 x0) := Lib.hid (by rw [hx0]; exact (Below.refl _ _).drew)
     rw [← hx0] at hHeld ⊢
     clear hx0 hS0
     refine Rg.tk 0 ⟨some 81,.load 29 (.tmp 7),29,"law.go:133",#[],none⟩ ?_
     try simp only [Rg.gp]
     refine Rg.tk 1 ⟨some 82,.fieldAddr 32 (.tmp 6) 2,0,"law.go:133",#[],none⟩ ?_
     try simp only [Rg.gp]
     refine Rg.tk 2 ⟨some 83,.load 30 (.tmp 82),30,"law.go:133",#[⟨1,.data⟩],none⟩ ?_
     try simp only [Rg.gp]
     refine Rg.tk 3 ⟨some 84,.call ⟨.builtin Builtin.len,#[.tmp 83],#[30]⟩,3,"law.go:133",#[⟨2,.data⟩],none⟩ ?_
     try simp only [Rg.gp]
     refine Rg.tk 4 ⟨some 85,.fieldAddr 32 (.tmp 6) 1,0,"law.go:133",#[],none⟩ ?_
     try simp only [Rg.gp]
     refine Rg.tk 5 ⟨some 86,.load 3 (.tmp 85),3,"law.go:133",#[⟨4,.data⟩],none⟩ ?_
     try simp only [Rg.gp]
     refine Rg.tk 6 ⟨some 87,.fieldAddr 32 (.tmp 6) 2,0,"law.go:133",#[],none⟩ ?_
     try simp only [Rg.gp]
     refine Rg.tk 7 ⟨some 88,.load 30 (.tmp 87),30,"law.go:133",#[⟨6,.data⟩],none⟩ ?_
     try simp only [Rg.gp]
     refine wpAnyH_ready (rs := [8, 10]) (by kernel_rfl) (by simp) ?_
     refine (AllReadyH.cons (o := ⟨some 89,.call ⟨.value (.func 38),#[.tmp 86,.tmp 88],#[3,30]⟩,30,"law.go:133",#[⟨5,.data⟩,⟨7,.data⟩],none⟩) rfl (fun K hK => ?_) (AllReadyH.cons (o := ⟨some 10,.alloc 32,0,"law.go:133",#[],none⟩) rfl (fun K hK => ?_) AllReadyH.nil))
     ·go_simp
      go_at_call 38
      with_reducible refine (show Calls Try.prog 38 #[.int .i64 (n : Nat), .slice aA m cA] _ (TuO n A _) from turn_o (by omega) (by omega) HLA.out (fun k hk => by rw [(mrow HMN.out (by rw [HLA.out]; exact hk)).len]; exact Nat.le_refl _) (HMA9.out.below hHeld.2.2.out.2.1)).mono ?_
      rintro z x8 ⟨us8, aT, cT, rfl, hol8, hb8⟩
      have HB8 : Hid (Below x0.heap.size x0 x8) := Lib.hid hb8
      have HOL8 := Lib.hid hol8
      have HBW8 : Hid (Below w9.heap.size w9 x8) := Lib.hid (HBW0.out.trans (hb8.mono HBW0.out.size))
      clear hol8 hb8
      refine hK.out _ _ ?_ (fun hHeld => ?_)
      ·(try dsimp only)
       exact SKL.keep hHeld HB8.out
      clear hK K
      try simp only [Rg.gp]
      refine Rg.tk 9 ⟨some 90,.build 32 #[(0, .tmp 81), (1, .tmp 84), (2, .tmp 89)],32,"law.go:133",#[⟨0,.data⟩,⟨3,.data⟩,⟨8,.data⟩],none⟩ ?_
      try simp only [Rg.gp]
      refine Rg.rd1 10 ⟨some 10,.alloc 32,0,"law.go:133",#[],none⟩ fun K hK => ?_
      go_simp
      refine hK.out _ _ ?_ (fun hHeld => ?_)
      ·(try dsimp only)
       exact SKL.keep hHeld ((Below.refl _ _).alloc (Nat.le_refl _) _)
      clear hK K
      try simp only [Rg.gp]
      obtain ⟨x10, hw10⟩ : ∃ x, x = (x8.alloc (.cells #[.int .i64 0, .int .i64 0, .slice none 0 0, .int .i64 0, .slice none 0 0] 32)) := ⟨_, rfl⟩
      obtain ⟨TM, hTM⟩ : ∃ g, x8.heap.size = g := ⟨_, rfl⟩
      have HB10 : Hid (Below x8.heap.size x8 x10) := Lib.hid (by rw [hw10]; exact (Below.refl _ _).alloc (Nat.le_refl _) _)
      have HRZ10 : Hid (RZ TM x10) := Lib.hid (by rw [hw10, ← hTM]; exact ⟨⟨World.cell?_alloc_at _ _ _ _ rfl, World.cell?_alloc_at _ _ _ _ rfl, World.cell?_alloc_at _ _ _ _ rfl, World.cell?_alloc_at _ _ _ _ rfl, World.cell?_alloc_at _ _ _ _ rfl⟩, fun t => World.frozen?_alloc_at _ _ _ _ rfl, by simp⟩)
      have HTY10 : Hid (∃ cur, x10.heap[TM]? = some (.cells cur 32 (0, 0))) := Lib.hid (by rw [hw10, ← hTM]; exact ⟨_, heap_alloc_new _ _⟩)
      have HTG : Hid (w9.heap.size ≤ TM) := Lib.hid (by rw [← hTM]; exact HBW8.out.size)
      have HBW10 : Hid (Below w9.heap.size w9 x10) := Lib.hid (HBW8.out.trans (HB10.out.mono HBW8.out.size))
      rw [← hw10] at hHeld ⊢
      rw [hTM]
      clear hw10 hTM
      have HOL10 := Lib.hid (HOL8.out.below HB10.out)
      refine Rg.rd1 11 ⟨none,.store 32 (.tmp 10) (.tmp 90),0,"law.go:133",#[⟨10,.data⟩,⟨9,.data⟩,⟨8,.chain⟩,⟨0,.phase⟩,⟨1,.phase⟩,⟨2,.phase⟩,⟨3,.phase⟩,⟨4,.phase⟩,⟨5,.phase⟩,⟨6,.phase⟩,⟨7,.phase⟩,⟨8,.phase⟩,⟨9,.phase⟩,⟨10,.phase⟩],none⟩ fun K hK => ?_
      have hz := HRZ10.out
      obtain ⟨⟨r0, r1, r2, r3, r4⟩, rf, rl'⟩ := hz
      have g0 := rf 0
      have g1 := rf 1
      have g2 := rf 2
      have g3 := rf 3
      have g4 := rf 4
      clear rf rl'
      go_simp
      refine hK.out _ _ ?_ (fun hHeld => ?_)
      ·(try dsimp only)
       exact SKL.keep HSKW.out (HBW10.out.trans ((five_bx _ _ _ _ _).below HBW10.out.size fun j (hj : j = TM) => by rw [hj]; exact HTG.out))
      clear hK K
      try simp only [Rg.gp]
      refine wpAnyH_done (by kernel_rfl) ?_ _
      have HBF : Hid (Below w9.heap.size w9 _) := Lib.hid hHeld.2.2.out.2.1
      have HMB : Hid (BX TM F b cap m (.slice aT n cT) _) := Lib.hid (RZ.five HRZ10.out F b cap (k := m) (.slice aT n cT) rfl)
      obtain ⟨cur, hcur⟩ := HTY10.out
      have HOF := Lib.hid (OL.bx HOL10.out (five_bx (w := x10) (B := TM) (.int .i64 F.p) (.int .i64 F.e) (FM F b cap) (.int .i64 (m : Nat)) (.slice aT n cT)) hcur (by decide) (by decide)).mm
      clear hHeld hcur g0 g1 g2 g3 g4 r0 r1 r2 r3 r4
      go_wp2_with fail
      go_meet
      case rel => exact ⟨TM, aT, cT, rfl, Lib.hid ⟨HMB.out.1, HMB.out.2.2⟩, Lib.hid HOF, HBF⟩
     ·go_simp
      refine hK.out _ _ ?_ (fun hHeld => ?_)
      ·(try dsimp only)
       exact SKL.keep hHeld ((Below.refl _ _).alloc (Nat.le_refl _) _)
      clear hK K
      try simp only [Rg.gp]
      obtain ⟨x10, hw10⟩ : ∃ x, x = (x0.alloc (.cells #[.int .i64 0, .int .i64 0, .slice none 0 0, .int .i64 0, .slice none 0 0] 32)) := ⟨_, rfl⟩
      obtain ⟨TM, hTM⟩ : ∃ g, x0.heap.size = g := ⟨_, rfl⟩
      have HB10 : Hid (Below x0.heap.size x0 x10) := Lib.hid (by rw [hw10]; exact (Below.refl _ _).alloc (Nat.le_refl _) _)
      have HRZ10 : Hid (RZ TM x10) := Lib.hid (by rw [hw10, ← hTM]; exact ⟨⟨World.cell?_alloc_at _ _ _ _ rfl, World.cell?_alloc_at _ _ _ _ rfl, World.cell?_alloc_at _ _ _ _ rfl, World.cell?_alloc_at _ _ _ _ rfl, World.cell?_alloc_at _ _ _ _ rfl⟩, fun t => World.frozen?_alloc_at _ _ _ _ rfl, by simp⟩)
      have HTY10 : Hid (∃ cur, x10.heap[TM]? = some (.cells cur 32 (0, 0))) := Lib.hid (by rw [hw10, ← hTM]; exact ⟨_, heap_alloc_new _ _⟩)
      have HTG : Hid (w9.heap.size ≤ TM) := Lib.hid (by rw [← hTM]; exact HBW0.out.size)
      have HBW10 : Hid (Below w9.heap.size w9 x10) := Lib.hid (HBW0.out.trans (HB10.out.mono HBW0.out.size))
      rw [← hw10] at hHeld ⊢
      rw [hTM]
      clear hw10 hTM
      refine Rg.rd1 8 ⟨some 89,.call ⟨.value (.func 38),#[.tmp 86,.tmp 88],#[3,30]⟩,30,"law.go:133",#[⟨5,.data⟩,⟨7,.data⟩],none⟩ fun K hK => ?_
      go_simp
      go_at_call 38
      with_reducible refine (show Calls Try.prog 38 #[.int .i64 (n : Nat), .slice aA m cA] _ (TuO n A _) from turn_o (by omega) (by omega) HLA.out (fun k hk => by rw [(mrow HMN.out (by rw [HLA.out]; exact hk)).len]; exact Nat.le_refl _) (HMA9.out.below hHeld.2.2.out.2.1)).mono ?_
      rintro z x8 ⟨us8, aT, cT, rfl, hol8, hb8⟩
      have HB8 : Hid (Below x10.heap.size x10 x8) := Lib.hid hb8
      have HOL8 := Lib.hid hol8
      have HBW8 : Hid (Below w9.heap.size w9 x8) := Lib.hid (HBW10.out.trans (hb8.mono HBW10.out.size))
      clear hol8 hb8
      refine hK.out _ _ ?_ (fun hHeld => ?_)
      ·(try dsimp only)
       exact SKL.keep hHeld HB8.out
      clear hK K
      try simp only [Rg.gp]
      have HRZ8 : Hid (RZ TM x8) := Lib.hid (RZ.bx (S := fun _ => False) HRZ10.out (Bx.of HB8.out) id)
      have HTY8 : Hid (∃ cur, x8.heap[TM]? = some (.cells cur 32 (0, 0))) := Lib.hid (by
       obtain ⟨cur, h⟩ := HTY10.out
       exact ⟨cur, (HB8.out.block TM HRZ10.out.2.2).trans h⟩)
      refine Rg.tk 9 ⟨some 90,.build 32 #[(0, .tmp 81), (1, .tmp 84), (2, .tmp 89)],32,"law.go:133",#[⟨0,.data⟩,⟨3,.data⟩,⟨8,.data⟩],none⟩ ?_
      try simp only [Rg.gp]
      refine Rg.rd1 11 ⟨none,.store 32 (.tmp 10) (.tmp 90),0,"law.go:133",#[⟨10,.data⟩,⟨9,.data⟩,⟨8,.chain⟩,⟨0,.phase⟩,⟨1,.phase⟩,⟨2,.phase⟩,⟨3,.phase⟩,⟨4,.phase⟩,⟨5,.phase⟩,⟨6,.phase⟩,⟨7,.phase⟩,⟨8,.phase⟩,⟨9,.phase⟩,⟨10,.phase⟩],none⟩ fun K hK => ?_
      have hz := HRZ8.out
      obtain ⟨⟨r0, r1, r2, r3, r4⟩, rf, rl'⟩ := hz
      have g0 := rf 0
      have g1 := rf 1
      have g2 := rf 2
      have g3 := rf 3
      have g4 := rf 4
      clear rf rl'
      go_simp
      refine hK.out _ _ ?_ (fun hHeld => ?_)
      ·(try dsimp only)
       exact SKL.keep HSKW.out (HBW8.out.trans ((five_bx _ _ _ _ _).below HBW8.out.size fun j (hj : j = TM) => by rw [hj]; exact HTG.out))
      clear hK K
      try simp only [Rg.gp]
      refine wpAnyH_done (by kernel_rfl) ?_ _
      have HBF : Hid (Below w9.heap.size w9 _) := Lib.hid hHeld.2.2.out.2.1
      have HMB : Hid (BX TM F b cap m (.slice aT n cT) _) := Lib.hid (RZ.five HRZ8.out F b cap (k := m) (.slice aT n cT) rfl)
      obtain ⟨cur, hcur⟩ := HTY8.out
      have HOF := Lib.hid (OL.bx HOL8.out (five_bx (w := x8) (B := TM) (.int .i64 F.p) (.int .i64 F.e) (FM F b cap) (.int .i64 (m : Nat)) (.slice aT n cT)) hcur (by decide) (by decide)).mm
      clear hHeld hcur g0 g1 g2 g3 g4 r0 r1 r2 r3 r4
      go_wp2_with fail
      go_meet
      case rel => exact ⟨TM, aT, cT, rfl, Lib.hid ⟨HMB.out.1, HMB.out.2.2⟩, Lib.hid HOF, HBF⟩
    case rest =>
     obtain ⟨TM, aT, cT, rfl, HMT, HTU, HBA⟩ := hcut
     obtain ⟨wA, hwA⟩ : ∃ w, w = wc := ⟨_, rfl⟩
     subst hwA
     have HSKA : Hid (SKL F b cap n B BM (.slice aA m cA) w9 wA) := Lib.hid (SKL.keep HSKW.out HBA.out)
     have HMRA := Lib.hid (HMRr.out.below HBA.out)
     have HMAA := Lib.hid (HMA9.out.below HBA.out)
     have HZA := Lib.hid (HZ9.out.below HBA.out)
     have HTN : Hid (Mn F m (tuM n A)) := Lib.hid (tuM_mn HFF.out HMN.out HLA.out n)
     have HTL := Lib.hid (tuM_len n A)
     go_wp2
     go_loopw [11] (fun i wr => ∃ k : Nat, k ≤ rl ∧ i = .int .i64 k ∧ Hid (Below wA.heap.size wA wr)) (fun i _ => rl - (intOf i).toNat)
     case atStart => exact ⟨0, Nat.zero_le _, rfl, Below.refl _ _⟩
     case round =>
      obtain ⟨k, hk, rfl, KB⟩ := hrel
      have HSKq : Hid (SKL F b cap n B BM (.slice aA m cA) w9 wr) := Lib.hid (HSKA.out.keep KB.out)
      have HMRq := Lib.hid (HMRA.out.below KB.out)
      have HTUr := Lib.hid (HTU.out.below KB.out)
      by_cases hlk : k < rl
      ·have hkA : k < R.length := by rw [hrl.out]; exact hlk
       obtain ⟨Y, hY⟩ : ∃ L, Hid (R.getD k [] = L) := ⟨_, Lib.hid rfl⟩
       have HVY : Hid (Vn F n Y) := Lib.hid (by rw [← hY.out]; exact mrow HRN.out hkA)
       have HYS : Hid (∃ y, solM F m (eqM (tuM n A) Y) = some y ∧ Vn F m y ∧ coK F n A y m = Y) := Lib.hid (turned_sol HFF.out HMN.out HLA.out HVY.out (by
        rw [← redM_sp HFF.out HMN.out, hR.out, ← hY.out]
        exact row_sp HFF.out HRN.out hkA))
       obtain ⟨y, hy1, hy2, hy3⟩ := HYS.out
       have HSL := Lib.hid hy1
       have HYV := Lib.hid hy2
       have HYC := Lib.hid hy3
       have HYL := Lib.hid hy2.len
       clear hy1 hy2 hy3
       obtain ⟨b1, o1, rfl, a1, c1, hc1, hny⟩ := MM.at (R := R) (by rw [hrl.out]; exact HMRq.out) hkA
       rw [hY.out, HVY.out.len] at hc1 hny
       have HNY := Lib.hid hny
       have HCY := Lib.hid hc1
       have HCL := Lib.hid (World.block_lt_of_cell? wr _ hc1)
       have HSTW : Hid (SKT F b cap n B BM (.slice aA m cA) TM m (.slice aT n cT) b1 (o1 + k) (.slice a1 n c1) wr wr) := Lib.hid (by
        have hTl : TM < wA.heap.size := HMT.out.2
        obtain ⟨t0, t1, t2, t3, t4⟩ := HMT.out.1
        exact ⟨⟨HSKq.out.1, HSKq.out.2.1, Lib.hid ⟨HSKq.out.2.2.out.1, Below.refl _ _, HSKq.out.2.2.out.2.2⟩⟩, ⟨(KB.out.cell (p := ⟨TM, 0, none⟩) hTl).trans t0, (KB.out.cell (p := ⟨TM, 1, none⟩) hTl).trans t1, (KB.out.cell (p := ⟨TM, 2, none⟩) hTl).trans t2, (KB.out.cell (p := ⟨TM, 3, none⟩) hTl).trans t3, (KB.out.cell (p := ⟨TM, 4, none⟩) hTl).trans t4⟩, hc1, Lib.hid ⟨Nat.lt_of_lt_of_le hTl KB.out.size, HCL.out⟩⟩)
       have hS0 : SKT F b cap n B BM (.slice aA m cA) TM m (.slice aT n cT) b1 (o1 + k) (.slice a1 n c1) wr wr.drew := SKT.keep HSTW.out (Below.refl _ _).drew
       clear hny hc1 hkA
       go_wp2_with fail
       go_cut [12] (fun v wx => ∃ (IX : Nat) (aY : Option Addr) (cY : Nat), v = .pointer (some ⟨IX, 0, none⟩) ∧ Hid (wx.cell? ⟨IX, 0, none⟩ = some (.slice aY m cY) ∧ wx.cell? ⟨IX, 1, none⟩ = some (.int .i64 0) ∧ IX < wx.heap.size) ∧ Hid (NN y wx (.slice aY m cY)) ∧ Hid (Below wr.heap.size wr wx))
       case first =>
        refine wp_region_held_drew (S := fun w' => SKT F b cap n B BM (.slice aA m cA) TM m (.slice aT n cT) b1 (o1 + k) (.slice a1 n c1) wr w') (by kernel_rfl) (by with_reducible exact hS0) (fun hHeld => ?_)
        obtain ⟨x0, hx0⟩ : ∃ x, x = wr.drew := ⟨_, rfl⟩
        have HBW0 : Hid (Below wr.heap.size wr x0) := Lib.hid (by rw [hx0]; exact (Below.refl _ _).drew)
        rw [← hx0] at hHeld ⊢
        clear hx0 hS0
        refine Rg.tk 0 ⟨some 97,.load 32 (.tmp 10),32,"law.go:135",#[],none⟩ ?_
        try simp only [Rg.gp]
        refine Rg.tk 1 ⟨some 98,.move (.tmp 8),30,"law.go:135",#[],none⟩ ?_
        try simp only [Rg.gp]
        refine Rg.tk 2 ⟨some 99,.move (.tmp 11),3,"law.go:135",#[],none⟩ ?_
        try simp only [Rg.gp]
        refine Rg.tk 3 ⟨some 100,.indexAddr 30 (.tmp 98) (.tmp 99),0,"law.go:135",#[⟨1,.data⟩,⟨2,.data⟩],none⟩ ?_
        try simp only [Rg.gp]
        refine Rg.tk 4 ⟨some 101,.load 27 (.tmp 100),27,"law.go:135",#[⟨3,.data⟩],none⟩ ?_
        try simp only [Rg.gp]
        refine wpAnyH_ready (rs := [5, 6]) (by kernel_rfl) (by simp) ?_
        refine (AllReadyH.cons (o := ⟨some 102,.call ⟨.value (.func 24),#[.tmp 97,.tmp 101],#[32,27]⟩,46,"law.go:135",#[⟨0,.data⟩,⟨4,.data⟩],none⟩) rfl (fun K hK => ?_) (AllReadyH.cons (o := ⟨some 12,.alloc 46,0,"law.go:135",#[],none⟩) rfl (fun K hK => ?_) AllReadyH.nil))
        ·go_simp
         go_at_call 24
         with_reducible refine (show Calls Try.prog 24 #[MV F b cap m (.slice aT n cT), .slice a1 n c1] _ (SvP (some y) _) from by rw [← HSL.out]; exact solved_c hHeld.1.2.2.out.1 (by omega) (by omega) (by omega) HTL.out HTN.out HVY.out (HTUr.out.below hHeld.1.2.2.out.2.1) (HNY.out.below hHeld.1.2.2.out.2.1)).mono ?_
         rintro z x8 hs8
         obtain ⟨aY, cY, rfl, hny8, hb8⟩ : ∃ a c, z = .returned (.agg #[.slice a m c, .int .i64 0]) ∧ NN y x8 (.slice a m c) ∧ Below _ _ x8 := by
          rcases hs8 with ⟨h, _⟩ | ⟨x, a, c, h, h1, h2, h3⟩
          ·cases h
          ·injection h with h
           subst h
           rw [HYL.out] at h1 h2
           exact ⟨a, c, h1, h2, h3⟩
         have HB8 : Hid (Below x0.heap.size x0 x8) := Lib.hid hb8
         have HNN8 := Lib.hid hny8
         have HBW8 : Hid (Below wr.heap.size wr x8) := Lib.hid (HBW0.out.trans (hb8.mono HBW0.out.size))
         clear hs8 hny8 hb8
         refine hK.out _ _ ?_ (fun hHeld => ?_)
         ·(try dsimp only)
          exact SKT.keep hHeld HB8.out
         clear hK K
         try simp only [Rg.gp]
         refine Rg.rd1 6 ⟨some 12,.alloc 46,0,"law.go:135",#[],none⟩ fun K hK => ?_
         go_simp
         refine hK.out _ _ ?_ (fun hHeld => ?_)
         ·(try dsimp only)
          exact SKT.keep hHeld ((Below.refl _ _).alloc (Nat.le_refl _) _)
         clear hK K
         try simp only [Rg.gp]
         obtain ⟨x10, hw10⟩ : ∃ x, x = (x8.alloc (.cells #[.slice none 0 0, .int .i64 0] 46)) := ⟨_, rfl⟩
         obtain ⟨IX, hIX⟩ : ∃ g, x8.heap.size = g := ⟨_, rfl⟩
         have HB10 : Hid (Below x8.heap.size x8 x10) := Lib.hid (by rw [hw10]; exact (Below.refl _ _).alloc (Nat.le_refl _) _)
         have HIC10 : Hid (x10.cell? ⟨IX, 0, none⟩ = some (.slice none 0 0) ∧ x10.cell? ⟨IX, 1, none⟩ = some (.int .i64 0) ∧ x10.frozen? ⟨IX, 0, none⟩ = false ∧ x10.frozen? ⟨IX, 1, none⟩ = false ∧ IX < x10.heap.size) := Lib.hid (by rw [hw10, ← hIX]; exact ⟨World.cell?_alloc_at _ _ _ _ rfl, World.cell?_alloc_at _ _ _ _ rfl, World.frozen?_alloc_at _ _ _ _ rfl, World.frozen?_alloc_at _ _ _ _ rfl, by simp⟩)
         have HIG : Hid (wr.heap.size ≤ IX) := Lib.hid (by rw [← hIX]; exact HBW8.out.size)
         have HBW10 : Hid (Below wr.heap.size wr x10) := Lib.hid (HBW8.out.trans (HB10.out.mono HBW8.out.size))
         rw [← hw10] at hHeld ⊢
         rw [hIX]
         clear hw10 hIX
         have HNN10 := Lib.hid (HNN8.out.below HB10.out)
         refine Rg.rd1 7 ⟨none,.store 46 (.tmp 12) (.tmp 102),0,"law.go:135",#[⟨6,.data⟩,⟨5,.data⟩,⟨5,.chain⟩,⟨0,.phase⟩,⟨1,.phase⟩,⟨2,.phase⟩,⟨3,.phase⟩,⟨4,.phase⟩,⟨5,.phase⟩,⟨6,.phase⟩],none⟩ fun K hK => ?_
         obtain ⟨r0, r1, g0, g1, g2⟩ := HIC10.out
         go_simp
         refine hK.out _ _ ?_ (fun hHeld => ?_)
         ·(try dsimp only)
          exact SKT.keep HSTW.out (HBW10.out.trans ((two_bx _ _).below HBW10.out.size fun j (hj : j = IX) => by rw [hj]; exact HIG.out))
         clear hK K
         try simp only [Rg.gp]
         refine wpAnyH_done (by kernel_rfl) ?_ _
         have HBF : Hid (Below wr.heap.size wr _) := Lib.hid hHeld.1.2.2.out.2.1
         have HNF := Lib.hid (HNN10.out.kp (kp_store2 (R := IX) (.slice aY m cY) r0 r1))
         clear hHeld
         go_wp2_with fail
         go_meet
         case rel => exact ⟨IX, aY, cY, rfl, Lib.hid ⟨by rw [oth _ (by decide)]; exact World.cell?_setCell_same _ _ _ r0, World.cell?_setCell_same _ _ _ (by rw [oth _ (by decide)]; exact r1), by simpa [World.setCell] using g2⟩, HNF, HBF⟩
        ·go_simp
         refine hK.out _ _ ?_ (fun hHeld => ?_)
         ·(try dsimp only)
          exact SKT.keep hHeld ((Below.refl _ _).alloc (Nat.le_refl _) _)
         clear hK K
         try simp only [Rg.gp]
         obtain ⟨x10, hw10⟩ : ∃ x, x = (x0.alloc (.cells #[.slice none 0 0, .int .i64 0] 46)) := ⟨_, rfl⟩
         obtain ⟨IX, hIX⟩ : ∃ g, x0.heap.size = g := ⟨_, rfl⟩
         have HB10 : Hid (Below x0.heap.size x0 x10) := Lib.hid (by rw [hw10]; exact (Below.refl _ _).alloc (Nat.le_refl _) _)
         have HIC10 : Hid (x10.cell? ⟨IX, 0, none⟩ = some (.slice none 0 0) ∧ x10.cell? ⟨IX, 1, none⟩ = some (.int .i64 0) ∧ x10.frozen? ⟨IX, 0, none⟩ = false ∧ x10.frozen? ⟨IX, 1, none⟩ = false ∧ IX < x10.heap.size) := Lib.hid (by rw [hw10, ← hIX]; exact ⟨World.cell?_alloc_at _ _ _ _ rfl, World.cell?_alloc_at _ _ _ _ rfl, World.frozen?_alloc_at _ _ _ _ rfl, World.frozen?_alloc_at _ _ _ _ rfl, by simp⟩)
         have HIG : Hid (wr.heap.size ≤ IX) := Lib.hid (by rw [← hIX]; exact HBW0.out.size)
         have HBW10 : Hid (Below wr.heap.size wr x10) := Lib.hid (HBW0.out.trans (HB10.out.mono HBW0.out.size))
         rw [← hw10] at hHeld ⊢
         rw [hIX]
         clear hw10 hIX
         refine Rg.rd1 5 ⟨some 102,.call ⟨.value (.func 24),#[.tmp 97,.tmp 101],#[32,27]⟩,46,"law.go:135",#[⟨0,.data⟩,⟨4,.data⟩],none⟩ fun K hK => ?_
         go_simp
         go_at_call 24
         with_reducible refine (show Calls Try.prog 24 #[MV F b cap m (.slice aT n cT), .slice a1 n c1] _ (SvP (some y) _) from by rw [← HSL.out]; exact solved_c hHeld.1.2.2.out.1 (by omega) (by omega) (by omega) HTL.out HTN.out HVY.out (HTUr.out.below hHeld.1.2.2.out.2.1) (HNY.out.below hHeld.1.2.2.out.2.1)).mono ?_
         rintro z x8 hs8
         obtain ⟨aY, cY, rfl, hny8, hb8⟩ : ∃ a c, z = .returned (.agg #[.slice a m c, .int .i64 0]) ∧ NN y x8 (.slice a m c) ∧ Below _ _ x8 := by
          rcases hs8 with ⟨h, _⟩ | ⟨x, a, c, h, h1, h2, h3⟩
          ·cases h
          ·injection h with h
           subst h
           rw [HYL.out] at h1 h2
           exact ⟨a, c, h1, h2, h3⟩
         have HB8 : Hid (Below x10.heap.size x10 x8) := Lib.hid hb8
         have HNN8 := Lib.hid hny8
         have HBW8 : Hid (Below wr.heap.size wr x8) := Lib.hid (HBW10.out.trans (hb8.mono HBW10.out.size))
         clear hs8 hny8 hb8
         refine hK.out _ _ ?_ (fun hHeld => ?_)
         ·(try dsimp only)
          exact SKT.keep hHeld HB8.out
         clear hK K
         try simp only [Rg.gp]
         have HIC8 : Hid (x8.cell? ⟨IX, 0, none⟩ = some (.slice none 0 0) ∧ x8.cell? ⟨IX, 1, none⟩ = some (.int .i64 0) ∧ x8.frozen? ⟨IX, 0, none⟩ = false ∧ x8.frozen? ⟨IX, 1, none⟩ = false ∧ IX < x8.heap.size) := Lib.hid (by
          obtain ⟨i0, i1, i2, i3, i4⟩ := HIC10.out
          exact ⟨(HB8.out.cell (p := ⟨IX, 0, none⟩) i4).trans i0, (HB8.out.cell (p := ⟨IX, 1, none⟩) i4).trans i1, (World.frozen?_of_block (w := x10) (HB8.out.block _ i4)).trans i2, (World.frozen?_of_block (w := x10) (HB8.out.block _ i4)).trans i3, Nat.lt_of_lt_of_le i4 HB8.out.size⟩)
         refine Rg.rd1 7 ⟨none,.store 46 (.tmp 12) (.tmp 102),0,"law.go:135",#[⟨6,.data⟩,⟨5,.data⟩,⟨5,.chain⟩,⟨0,.phase⟩,⟨1,.phase⟩,⟨2,.phase⟩,⟨3,.phase⟩,⟨4,.phase⟩,⟨5,.phase⟩,⟨6,.phase⟩],none⟩ fun K hK => ?_
         obtain ⟨r0, r1, g0, g1, g2⟩ := HIC8.out
         go_simp
         refine hK.out _ _ ?_ (fun hHeld => ?_)
         ·(try dsimp only)
          exact SKT.keep HSTW.out (HBW8.out.trans ((two_bx _ _).below HBW8.out.size fun j (hj : j = IX) => by rw [hj]; exact HIG.out))
         clear hK K
         try simp only [Rg.gp]
         refine wpAnyH_done (by kernel_rfl) ?_ _
         have HBF : Hid (Below wr.heap.size wr _) := Lib.hid hHeld.1.2.2.out.2.1
         have HNF := Lib.hid (HNN8.out.kp (kp_store2 (R := IX) (.slice aY m cY) r0 r1))
         clear hHeld
         go_wp2_with fail
         go_meet
         case rel => exact ⟨IX, aY, cY, rfl, Lib.hid ⟨by rw [oth _ (by decide)]; exact World.cell?_setCell_same _ _ _ r0, World.cell?_setCell_same _ _ _ (by rw [oth _ (by decide)]; exact r1), by simpa [World.setCell] using g2⟩, HNF, HBF⟩
       case rest =>
        obtain ⟨IX, aY, cY, rfl, HIX, HNB, HBr⟩ := hcut
        obtain ⟨wB, hwB⟩ : ∃ w, w = wc := ⟨_, rfl⟩
        subst hwB
        have HSKB : Hid (SKL F b cap n B BM (.slice aA m cA) w9 wB) := Lib.hid (HSKq.out.keep HBr.out)
        have HMAB := Lib.hid ((HMAA.out.below KB.out).below HBr.out)
        have HNYB := Lib.hid (HNY.out.below HBr.out)
        have hS0 : SK3 F b cap n B BM (.slice aA m cA) IX (.slice aY m cY) (.int .i64 0) b1 (o1 + k) (.slice a1 n c1) wB wB.drew := ⟨SKL.draw HSKB.out, HIX.out.1, HIX.out.2.1, (HBr.out.cell (p := ⟨b1, o1 + k, none⟩) HCL.out).trans HCY.out, Lib.hid ⟨HIX.out.2.2, Nat.lt_of_lt_of_le HCL.out HBr.out.size⟩⟩
        go_wp2_with fail
        refine wp_region_held_drew (S := fun w' => SK3 F b cap n B BM (.slice aA m cA) IX (.slice aY m cY) (.int .i64 0) b1 (o1 + k) (.slice a1 n c1) wB w') (by kernel_rfl) (by with_reducible exact hS0) (fun hHeld => ?_)
        refine Rg.tk 0 ⟨some 103,.fieldAddr 46 (.tmp 12) 1,0,"law.go:136",#[],none⟩ ?_
        try simp only [Rg.gp]
        refine Rg.tk 1 ⟨some 104,.load 44 (.tmp 103),44,"law.go:136",#[⟨0,.data⟩],none⟩ ?_
        try simp only [Rg.gp]
        refine Rg.tk 2 ⟨some 105,.binOp BinOp.neq 44 (.tmp 104) (.const (Value.int IntKind.i64 0)) 44,4,"law.go:136",#[⟨1,.data⟩],none⟩ ?_
        try simp only [Rg.gp]
        refine Rg.tk 3 ⟨some 106,.move (.tmp 105),4,"law.go:136",#[⟨2,.data⟩],none⟩ ?_
        try simp only [Rg.gp]
        refine Rg.tk 4 ⟨some 107,.load 29 (.tmp 7),29,"law.go:136",#[⟨3,.guard⟩],some (3, false)⟩ ?_
        try simp only [Rg.gp]
        refine Rg.tk 5 ⟨some 108,.fieldAddr 32 (.tmp 6) 2,0,"law.go:136",#[⟨3,.guard⟩],some (3, false)⟩ ?_
        try simp only [Rg.gp]
        refine Rg.tk 6 ⟨some 109,.load 30 (.tmp 108),30,"law.go:136",#[⟨5,.data⟩,⟨3,.guard⟩],some (3, false)⟩ ?_
        try simp only [Rg.gp]
        refine Rg.tk 7 ⟨some 110,.call ⟨.builtin Builtin.len,#[.tmp 109],#[30]⟩,3,"law.go:136",#[⟨6,.data⟩,⟨3,.guard⟩],some (3, false)⟩ ?_
        try simp only [Rg.gp]
        refine Rg.tk 8 ⟨some 111,.fieldAddr 46 (.tmp 12) 0,0,"law.go:136",#[⟨3,.guard⟩],some (3, false)⟩ ?_
        try simp only [Rg.gp]
        refine Rg.tk 9 ⟨some 112,.load 27 (.tmp 111),27,"law.go:136",#[⟨8,.data⟩,⟨3,.guard⟩],some (3, false)⟩ ?_
        try simp only [Rg.gp]
        refine Rg.rd1 10 ⟨some 113,.call ⟨.value (.func 39),#[.tmp 107,.tmp 110,.tmp 112],#[29,3,27]⟩,4,"law.go:136",#[⟨4,.data⟩,⟨7,.data⟩,⟨9,.data⟩,⟨3,.chain⟩,⟨3,.guard⟩],some (3, false)⟩ fun K hK => ?_
        go_simp
        go_at_call 39
        with_reducible refine ((show Calls Try.prog 39 #[FV F b cap, .int .i64 (m : Nat), .slice aY m cY] _ (fun e w' => e = .returned (.bool true) ∧ Below _ _ w') from vector_c hHeld.1.2.2.out.1 (by omega) HYV.out (HNB.out.below hHeld.1.2.2.out.2.1))).mono ?_
        rintro z v0 ⟨rfl, hb0⟩
        refine hK.out _ _ ?_ (fun hHeld => ?_)
        ·(try dsimp only)
         exact SK3.keep hHeld hb0
        clear hK K
        try simp only [Rg.gp]
        refine Rg.tk 11 ⟨some 114,.unOp UnOp.not 4 (.tmp 113),4,"law.go:136",#[⟨10,.data⟩,⟨3,.guard⟩],some (3, false)⟩ ?_
        try simp only [Rg.gp]
        refine Rg.tk 12 ⟨some 115,.pick (.tmp 106) (.const (Value.bool true)) (.tmp 114),4,"law.go:136",#[⟨3,.data⟩,⟨11,.data⟩],none⟩ ?_
        try simp only [Rg.gp]
        refine Rg.tk 13 ⟨some 116,.move (.tmp 115),4,"law.go:136",#[⟨12,.data⟩,⟨10,.chain⟩],none⟩ ?_
        try simp only [Rg.gp]
        refine Rg.tk 14 ⟨some 117,.load 29 (.tmp 7),29,"law.go:136",#[⟨13,.guard⟩],some (13, false)⟩ ?_
        try simp only [Rg.gp]
        refine Rg.tk 15 ⟨some 118,.fieldAddr 32 (.tmp 6) 1,0,"law.go:136",#[⟨13,.guard⟩],some (13, false)⟩ ?_
        try simp only [Rg.gp]
        refine Rg.tk 16 ⟨some 119,.load 3 (.tmp 118),3,"law.go:136",#[⟨15,.data⟩,⟨13,.guard⟩],some (13, false)⟩ ?_
        try simp only [Rg.gp]
        refine Rg.tk 17 ⟨some 120,.fieldAddr 32 (.tmp 6) 2,0,"law.go:136",#[⟨13,.guard⟩],some (13, false)⟩ ?_
        try simp only [Rg.gp]
        refine Rg.tk 18 ⟨some 121,.load 30 (.tmp 120),30,"law.go:136",#[⟨17,.data⟩,⟨13,.guard⟩],some (13, false)⟩ ?_
        try simp only [Rg.gp]
        refine Rg.tk 19 ⟨some 122,.fieldAddr 46 (.tmp 12) 0,0,"law.go:136",#[⟨13,.guard⟩],some (13, false)⟩ ?_
        try simp only [Rg.gp]
        refine Rg.tk 20 ⟨some 123,.load 27 (.tmp 122),27,"law.go:136",#[⟨19,.data⟩,⟨13,.guard⟩],some (13, false)⟩ ?_
        try simp only [Rg.gp]
        refine Rg.tk 22 ⟨some 125,.move (.tmp 8),30,"law.go:136",#[⟨13,.guard⟩],some (13, false)⟩ ?_
        try simp only [Rg.gp]
        refine Rg.tk 23 ⟨some 126,.move (.tmp 11),3,"law.go:136",#[⟨13,.guard⟩],some (13, false)⟩ ?_
        try simp only [Rg.gp]
        refine Rg.tk 24 ⟨some 127,.indexAddr 30 (.tmp 125) (.tmp 126),0,"law.go:136",#[⟨22,.data⟩,⟨23,.data⟩,⟨13,.guard⟩],some (13, false)⟩ ?_
        try simp only [Rg.gp]
        refine Rg.tk 25 ⟨some 128,.load 27 (.tmp 127),27,"law.go:136",#[⟨24,.data⟩,⟨13,.guard⟩],some (13, false)⟩ ?_
        try simp only [Rg.gp]
        refine Rg.rd1 21 ⟨some 124,.call ⟨.value (.func 40),#[.tmp 117,.tmp 119,.tmp 121,.tmp 123],#[29,3,30,27]⟩,27,"law.go:136",#[⟨14,.data⟩,⟨16,.data⟩,⟨18,.data⟩,⟨20,.data⟩,⟨13,.chain⟩,⟨13,.guard⟩],some (13, false)⟩ fun K hK => ?_
        go_simp
        go_at_call 40
        with_reducible refine ((show Calls Try.prog 40 #[FV F b cap, .int .i64 (n : Nat), .slice aA m cA, .slice aY m cY] _ (VPn Y n _) from by have t := combine_c hHeld.1.2.2.out.1 (by omega) (by omega) HLA.out HMN.out HYV.out (HMAB.out.below hHeld.1.2.2.out.2.1) (HNB.out.below hHeld.1.2.2.out.2.1); rw [HYC.out] at t; exact t.mono fun _ _ h => h.n HVY.out.len)).mono ?_
        rintro z v1 ⟨a41, c41, rfl, hn41, hb1⟩
        refine hK.out _ _ ?_ (fun hHeld => ?_)
        ·(try dsimp only)
         exact SK3.keep hHeld hb1
        clear hK K
        try simp only [Rg.gp]
        refine Rg.rd1 26 ⟨some 129,.call ⟨.value (.func 20),#[.tmp 124,.tmp 128],#[27,27]⟩,4,"law.go:136",#[⟨21,.data⟩,⟨25,.data⟩,⟨21,.chain⟩,⟨13,.guard⟩],some (13, false)⟩ fun K hK => ?_
        go_simp
        go_at_call 20
        with_reducible refine ((show Calls Try.prog 20 #[.slice a41 n c41, .slice a1 n c1] _ (fun e w' => e = .returned (.bool true) ∧ Below _ _ w') from by have t := same_c (A := Y) (B := Y) (aa := a41) (ca := c41) (ab := a1) (cb := c1) (by rw [HVY.out.len]; omega) (by rw [HVY.out.len]; omega) (by rw [HVY.out.len]; exact hn41) (by rw [HVY.out.len]; exact HNYB.out.below hHeld.1.2.2.out.2.1); rw [HVY.out.len, show decide (Y = Y) = true from decide_eq_true rfl] at t; exact t)).mono ?_
        rintro z v2 ⟨rfl, hb2⟩
        refine hK.out _ _ ?_ (fun hHeld => ?_)
        ·(try dsimp only)
         exact SK3.keep hHeld hb2
        clear hK K
        try simp only [Rg.gp]
        refine Rg.tk 27 ⟨some 130,.unOp UnOp.not 4 (.tmp 129),4,"law.go:136",#[⟨26,.data⟩,⟨13,.guard⟩],some (13, false)⟩ ?_
        try simp only [Rg.gp]
        refine Rg.tk 28 ⟨some 131,.pick (.tmp 116) (.const (Value.bool true)) (.tmp 130),4,"law.go:136",#[⟨13,.data⟩,⟨27,.data⟩],none⟩ ?_
        try simp only [Rg.gp]
        refine wpAnyH_done (by kernel_rfl) ?_ _
        have HB5 := Lib.hid (KB.out.trans ((HBr.out.trans (hHeld.1.2.2.out.2.1.mono HBr.out.size)).mono KB.out.size))
        clear hHeld hS0
        go_wp2
        go_roundw
        case rel => exact ⟨k + 1, by omega, by go_num, HB5⟩
        case measure => simp [intOf]; omega
      ·obtain rfl : rl = k := by omega
       have hlt2 : ¬ (rl : Int) < (rl : Int) := by omega
       obtain ⟨wB, hwB⟩ : ∃ w, w = wr := ⟨_, rfl⟩
       subst hwB
       have HSK9B := Lib.hid HSKr.out.2.2.out.2.1
       obtain ⟨bA, oA, hAv⟩ : ∃ b o, aA = some ⟨b, o, none⟩ := by
        rcases HMAA.out with ⟨h, _⟩ | ⟨b, o, _, h, _⟩
        ·have := HLA.out; rw [h] at this; exact absurd this.symm hm0
        ·injection h with h; exact ⟨b, o, h⟩
       subst hAv
       have HMAq : Hid (MM A wB (.slice (some ⟨bA, oA, none⟩) A.length cA)) := Lib.hid (by rw [HLA.out]; exact HMAA.out.below KB.out)
       obtain ⟨us, HU⟩ : ∃ us : List Value, Hid (us.length = A.length ∧ (∀ (j : Nat) (u : Value), us[j]? = some u → wB.cell? ⟨bA, oA + j, none⟩ = some u) ∧ (∀ u ∈ us, u.oneCell' = true) ∧ ∀ i, i < A.length → NN (A.getD i []) wB (us.getD i undef)) := by
        obtain ⟨us, h1, h2, h3⟩ := MM.vals HMAq.out
        exact ⟨us, Lib.hid ⟨h1, fun j u h => by have e := h2 j u h; rwa [show (⟨bA, oA, none⟩ : Addr).add j = ⟨bA, oA + j, none⟩ from by unfold Addr.add; split <;> simp_all] at e, h3⟩⟩
       have HUC : Hid (∀ i, i < m → ∃ a k, us.getD i undef = .slice a n k ∧ wB.cell? ⟨bA, oA + i, none⟩ = some (.slice a n k)) := Lib.hid fun i hi => by
        obtain ⟨h1, h2, h3, h4⟩ := HU.out
        have hi' : i < A.length := by rw [HLA.out]; exact hi
        obtain ⟨a, k, e⟩ := (h4 i hi').shape
        rw [(mrow HMN.out hi').len] at e
        refine ⟨a, k, e, ?_⟩
        have e2 := h2 i (us.getD i undef) (by rw [List.getD_eq_getElem?_getD, List.getElem?_eq_getElem (by omega)]; rfl)
        rw [e] at e2
        exact e2
       obtain ⟨ii, hii⟩ : ∃ k, Hid (z0 % m = k) := ⟨_, Lib.hid rfl⟩
       obtain ⟨kk, hkk⟩ : ∃ k, Hid (z1 % m = k) := ⟨_, Lib.hid rfl⟩
       have hmp : 0 < m := by omega
       have hil : ii < m := by rw [← hii.out]; exact Nat.mod_lt _ hmp
       have hkl : kk < m := by rw [← hkk.out]; exact Nat.mod_lt _ hmp
       have hiz : (z0 : Int) % (m : Int) = (ii : Int) := by rw [← hii.out]; omega
       have hizt : (z0 : Int).tmod (m : Int) = (ii : Int) := by rw [Int.tmod_eq_emod_of_nonneg (by omega)]; exact hiz
       have hkz : (z1 : Int) % (m : Int) = (kk : Int) := by rw [← hkk.out]; omega
       have hkzt : (z1 : Int).tmod (m : Int) = (kk : Int) := by rw [Int.tmod_eq_emod_of_nonneg (by omega)]; exact hkz
       have hwz0 : IntKind.i64.wrap (z0 : Int) = (z0 : Int) := IntWalk.i64_in _ (by omega)
       have hwz1 : IntKind.i64.wrap (z1 : Int) = (z1 : Int) := IntWalk.i64_in _ (by omega)
       have hwii : IntKind.i64.wrap (ii : Int) = (ii : Int) := IntWalk.i64_in _ (by omega)
       have hwkk : IntKind.i64.wrap (kk : Int) = (kk : Int) := IntWalk.i64_in _ (by omega)
       have hmz : ¬ m = 0 := hm0
       obtain ⟨base, HBS⟩ : ∃ g, Hid (g = wB.heap.size) := ⟨_, Lib.hid rfl⟩
       have HZB := Lib.hid (HZA.out.below KB.out)
       obtain ⟨k0, k1, k2, k3, k4⟩ := HZB.out
       obtain ⟨x0, x1, x2⟩ := HSKq.out.1
       obtain ⟨q0, q1, q2, q3, q4⟩ := HSKq.out.2.1
       obtain ⟨i0, hi, hi0, hi1, hi2⟩ := info_parts info27
       have q4a : (wB.alloc (.cells #[] 27)).cell? ⟨BM, 4, none⟩ = some (.slice (some ⟨bA, oA, none⟩) m cA) := (World.cell?_alloc_lt _ _ _ (World.block_lt_of_cell? wB _ q4)).trans q4
       have HOW0 : Hid ((wB.alloc (.cells #[] 27)).ownsRow base 27 1 (.slice (some ⟨wB.heap.size, 0, none⟩) 0 0) 0 []) := Lib.hid ⟨rfl, .inr ⟨_, 0, #[], rfl, Nat.le_of_eq HBS.out, heap_alloc_new _ _, Nat.le_refl _, by unfold maxLen; omega, rfl, rfl⟩⟩
       clear k2 k3 k4
       go_wp2_with (at_builtin; refine wpList_append_own _ rfl _ _ 30 rfl base 27 i0 (.slice none 0 0) 1 24 Try.underlying30 hi hi0 hi1 hi2 rfl (by decide) (.slice (some ⟨wB.heap.size, 0, none⟩) 0 0) 0 [] rfl HOW0.out ⟨bA, oA, none⟩ m cA us rfl ?c0 ?c1 ?c2 ?c3 ?c4 ?c5 ?_)
       case c0 => rw [HU.out.1, HLA.out]
       case c1 =>
        intro j u hj
        exact (World.cell?_alloc_lt _ _ _ (World.block_lt_of_cell? wB _ (HU.out.2.1 j u hj))).trans (HU.out.2.1 j u hj)
       case c2 => exact HU.out.2.2.1
       case c3 => unfold maxLen; omega
       case c4 => omega
       case c5 => simp [HBS.out]
       intro v' wX hown' hgrow hnil
       clear hnil hi hi0 hi1 hi2 k0 k1 q4a
       have HBX : Hid (Below base wB wX) := Lib.hid (((Below.refl _ _).alloc (Nat.le_of_eq HBS.out) _).trans (below_own hgrow (fun k e => by simp [Value.ownBlock] at e; rw [HBS.out]; omega) (by simp [HBS.out])))
       obtain ⟨g, cl, rfl⟩ : ∃ g c, v' = .slice (some ⟨g, 0, none⟩) m c := by
        rcases hown'.2 with ⟨_, e⟩ | ⟨g, c, _, e, _⟩
        ·exact absurd e hm0
        ·exact ⟨g, c, e⟩
       have HQ0 : Hid (LQ F n m A A us base g cl wX) := Lib.hid ⟨LR.new HU.out.1 HU.out.2.2.2 (HBX.out.mono (Nat.le_of_eq HBS.out.symm)) (Nat.le_of_eq HBS.out.symm) (by rw [HLA.out]; exact hown'), HLA.out, HMN.out, fun _ => Iff.rfl⟩
       have HGB : Hid (base ≤ g) := Lib.hid HQ0.out.1.lt.1
       clear hown' hgrow
       obtain ⟨aI, cI, hI1, hI2⟩ := HUC.out ii hil
       obtain ⟨aK, cK, hK1, hK2⟩ := HUC.out kk hkl
       have HI1 := Lib.hid hI1
       have HK1 := Lib.hid hK1
       have HI2 := Lib.hid hI2
       clear hI1 hK1 hI2
       have HSKX : Hid (SKL F b cap n B BM (.slice (some ⟨bA, oA, none⟩) m cA) w9 wX) := Lib.hid (HSKq.out.keep (HBX.out.mono (Nat.le_of_eq HBS.out.symm)))
       have hBK := Lib.hid (World.block_lt_of_cell? wB _ hK2)
       have cK1 : wX.cell? ⟨bA, oA + kk, none⟩ = some (.slice aK n cK) := (HBX.out.cell (p := ⟨bA, oA + kk, none⟩) (by rw [HBS.out]; exact hBK.out)).trans hK2
       have cG1 : wX.cell? ⟨g, ii, none⟩ = some (.slice aI n cI) := by
        have := HQ0.out.1.cell (i := ii) (by rw [HLA.out]; exact hil); rwa [HI1.out] at this
       have fG1 := HQ0.out.1.frozen ii
       obtain ⟨q0, q1, q2, q3, q4⟩ := HSKX.out.2.1
       clear hK2 x0 x1 x2
       have hILi : (ii : Int) < (m : Int) := by omega
       have hKLi : (kk : Int) < (m : Int) := by omega
       go_upto_region 27 with fail
       obtain ⟨wE, hwE⟩ : ∃ w, w = wX.setCell ⟨g, ii, none⟩ (.slice aK n cK) := ⟨_, rfl⟩
       rw [← hwE]
       have HQ1 : Hid (LR (A.set ii (A.getD kk [])) (us.set ii (.slice aK n cK)) base g cl wE) := Lib.hid (by
        rw [hwE]
        have h := HQ0.out.1.row kk (by rw [HLA.out]; exact hkl)
        rw [HK1.out] at h
        exact HQ0.out.1.set (by rw [HLA.out]; exact hil) h (by have t := HQ0.out.1.off kk (by rw [HLA.out]; exact hkl); rwa [HK1.out] at t))
       have HBE : Hid (Below base wB wE) := Lib.hid (by rw [hwE]; exact HBX.out.setCell HGB.out _)
       have HSKE : Hid (SKL F b cap n B BM (.slice (some ⟨bA, oA, none⟩) m cA) w9 wE) := Lib.hid (HSKq.out.keep (HBE.out.mono (Nat.le_of_eq HBS.out.symm)))
       have cI1 : wE.cell? ⟨bA, oA + ii, none⟩ = some (.slice aI n cI) := (HBE.out.cell (p := ⟨bA, oA + ii, none⟩) (by rw [HBS.out]; exact World.block_lt_of_cell? wB _ HI2.out)).trans HI2.out
       obtain ⟨uk, cG2⟩ : ∃ u, wE.cell? ⟨g, kk, none⟩ = some u := ⟨_, HQ1.out.cell (by rw [List.length_set, HLA.out]; exact hkl)⟩
       have fG2 := HQ1.out.frozen kk
       have HWX := Lib.hid hwE
       clear q0 q1 q2 q3 q4 cK1 cG1 fG1 hwE
       obtain ⟨q0, q1, q2, q3, q4⟩ := HSKE.out.2.1
       go_upto_region 28 with fail
       obtain ⟨wF, hwF⟩ : ∃ w, w = wE.setCell ⟨g, kk, none⟩ (.slice aI n cI) := ⟨_, rfl⟩
       rw [← hwF]
       have HQ2 : Hid (LQ F n m A ((A.set ii (A.getD kk [])).set kk (A.getD ii [])) ((us.set ii (.slice aK n cK)).set kk (.slice aI n cI)) base g cl wF) := Lib.hid (by
        rw [hwF]
        have h := (HQ0.out.1.row ii (by rw [HLA.out]; exact hil))
        rw [HI1.out] at h
        have ho : ∀ b o n' k, (.slice aI n cI : Value) = .slice (some ⟨b, o, none⟩) n' k → b ≠ g := by have t := HQ0.out.1.off ii (by rw [HLA.out]; exact hil); rwa [HI1.out] at t
        refine ⟨HQ1.out.set (by rw [List.length_set, HLA.out]; exact hkl) (by rw [HWX.out]; exact h.setOther ho) ho, by rw [List.length_set, List.length_set, HLA.out], set_mn HFF.out (set_mn HFF.out HMN.out (mrow HMN.out (by rw [HLA.out]; exact hkl))) (mrow HMN.out (by rw [HLA.out]; exact hil)), sp_swap HFF.out HMN.out (by rw [HLA.out]; exact hil) (by rw [HLA.out]; exact hkl)⟩)
       have HBF : Hid (Below base wB wF) := Lib.hid (by rw [hwF]; exact HBE.out.setCell HGB.out _)
       clear q0 q1 q2 q3 q4 cI1 cG2 fG2 hwF
       clear HWX
       generalize ((A.set ii (A.getD kk [])).set kk (A.getD ii [])) = L1 at HQ2
       generalize ((us.set ii (.slice aK n cK)).set kk (.slice aI n cI)) = us1 at HQ2
       clear HQ0 HQ1 HI1 HK1 HI2 HSKX HSKE HUC HU HBX HBE
       have HBFS : Hid (Below wB.heap.size wB wF) := Lib.hid (HBF.out.mono (Nat.le_of_eq HBS.out.symm))
       have HGS : Hid (wB.heap.size ≤ g) := Lib.hid (by rw [← HBS.out]; exact HGB.out)
       have HSKBB : Hid (SKL F b cap n B BM (.slice (some ⟨bA, oA, none⟩) m cA) wB wB) := Lib.hid ⟨HSKq.out.1, HSKq.out.2.1, Lib.hid ⟨HSKq.out.2.2.out.1, Below.refl _ _, HSKq.out.2.2.out.2.2⟩⟩
       have HBW : Hid (Below W.heap.size W wB) := Lib.hid (HB4.out.trans ((HSK9B.out.trans (HSKq.out.2.2.out.2.1.mono HSK9B.out.size)).mono HB4.out.size))
       as_aux_lemma =>
        go_cut [168] (fun v wx => ∃ bb : Bool, v = .bool bb ∧ Hid (bb = true ↔ ii ≠ kk) ∧ Hid (wx = wF))
        case first =>
         by_cases hik : ii = kk
         ·subst hik
          go_wp2_with fail
          go_meet
          case rel => exact ⟨_, rfl, Lib.hid (by simp), Lib.hid rfl⟩
         ·have hne : ¬ (ii : Int) = (kk : Int) := by omega
          go_wp2_with fail
          go_meet
          case rel => exact ⟨_, rfl, Lib.hid (by simp [hik, hne]), Lib.hid rfl⟩
        case rest =>
         obtain ⟨bb, rfl, HBB, HWC⟩ := hcut
         have hwe := HWC.out.symm
         subst hwe
         clear HWC
         go_upto_if 168 with fail
         go_cut [14] (fun v wx => v = .int .i64 (kk : Nat) ∧ ∃ (L2 : List (List Nat)) (us2 : List Value), Hid (LQ F n m A L2 us2 base g cl wx) ∧ Hid (Below base wB wx))
         case first =>
          cases bb
          ·go_wp2_with fail
           go_meet
           case rel => exact ⟨rfl, L1, us1, HQ2, HBF⟩
          ·have hik : ii ≠ kk := HBB.out.1 rfl
           have hne : ¬ (ii : Int) = (kk : Int) := by omega
           obtain ⟨qq, hqq⟩ : ∃ k, Hid (F.q = k) := ⟨_, Lib.hid rfl⟩
           obtain ⟨c2, hc2⟩ : ∃ k, Hid (z2 % qq = k) := ⟨_, Lib.hid rfl⟩
           have hq2 : 2 ≤ qq := by rw [← hqq.out]; exact HFF.out.q2
           have hq64 : qq ≤ 64 := by rw [← hqq.out]; exact (fd_small F HSKq.out.2.2.out.1.mem).2.2.2.2.2.1
           have hc2l : c2 < qq := by rw [← hc2.out]; exact Nat.mod_lt _ (by omega)
           have HC2 : Hid (c2 < F.q) := Lib.hid (by rw [hqq.out]; exact hc2l)
           have hcz : (z2 : Int) % (qq : Int) = (c2 : Int) := by rw [← hc2.out]; omega
           have hczt : (z2 : Int).tmod (qq : Int) = (c2 : Int) := by rw [Int.tmod_eq_emod_of_nonneg (by omega)]; exact hcz
           have hwz2 : IntKind.i64.wrap (z2 : Int) = (z2 : Int) := IntWalk.i64_in _ (by omega)
           have hwc2 : IntKind.i64.wrap (c2 : Int) = (c2 : Int) := IntWalk.i64_in _ (by omega)
           have hqz : ¬ qq = 0 := by omega
           have hqz2 : ¬ (qq : Int) = 0 := by omega
           clear hc2l
           have HSYB : Hid (SKY F b cap n B BM (.slice (some ⟨bA, oA, none⟩) m cA) GZ 2 z2 wB wB) := Lib.hid ⟨HSKBB.out, HZB.out.2.2.1, Lib.hid HZB.out.2.2.2.2⟩
           have hS0 : SKY F b cap n B BM (.slice (some ⟨bA, oA, none⟩) m cA) GZ 2 z2 wB wF.drew := SKY.keep HSYB.out HBFS.out.drew
           obtain ⟨aU, cU, hU1, hU2, hU3, hU4⟩ := HQ2.out.sh hil
           obtain ⟨aV, cV, hV1, hV2, hV3, hV4⟩ := HQ2.out.sh hkl
           have HU1 := Lib.hid hU1
           have HU2 := Lib.hid hU2
           have HU3 := Lib.hid hU3
           have HU4 := Lib.hid hU4
           have HV1 := Lib.hid hV1
           have HV2 := Lib.hid hV2
           have HV3 := Lib.hid hV3
           have HV4 := Lib.hid hV4
           have HGL : Hid (g < wF.heap.size) := Lib.hid HQ2.out.1.lt.2
           have hILi : (ii : Int) < (m : Int) := by omega
           have hKLi : (kk : Int) < (m : Int) := by omega
           clear hU1 hU2 hU3 hU4 hV1 hV2 hV3 hV4
           go_wp2_with fail
           as_aux_lemma =>
            refine wp_region_held_drew (S := fun w' => SKY F b cap n B BM (.slice (some ⟨bA, oA, none⟩) m cA) GZ 2 z2 wB w') (by kernel_rfl) (by with_reducible exact hS0) (fun hHeld => ?_)
            obtain ⟨x0, hx0⟩ : ∃ x, x = wF.drew := ⟨_, rfl⟩
            have HBW0 : Hid (Below wF.heap.size wF x0) := Lib.hid (by rw [hx0]; exact (Below.refl _ _).drew)
            rw [← hx0] at hHeld ⊢
            clear hx0 hS0
            apply Rg.share (C := fun x1 => SKY F b cap n B BM (.slice (some ⟨bA, oA, none⟩) m cA) GZ 2 z2 wB x1 ∧ Hid (Below wF.heap.size wF x1))
            case h =>
             intro hrest
             refine Rg.tk 0 ⟨some 169,.move (.tmp 15),30,"law.go:146",#[],none⟩ ?_
             try simp only [Rg.gp]
             refine Rg.tk 1 ⟨some 170,.move (.tmp 13),3,"law.go:146",#[],none⟩ ?_
             try simp only [Rg.gp]
             refine Rg.tk 2 ⟨some 171,.load 29 (.tmp 7),29,"law.go:146",#[],none⟩ ?_
             try simp only [Rg.gp]
             refine Rg.tk 3 ⟨some 172,.move (.tmp 15),30,"law.go:146",#[],none⟩ ?_
             try simp only [Rg.gp]
             refine Rg.tk 4 ⟨some 173,.move (.tmp 13),3,"law.go:146",#[],none⟩ ?_
             try simp only [Rg.gp]
             refine Rg.tk 5 ⟨some 174,.indexAddr 30 (.tmp 172) (.tmp 173),0,"law.go:146",#[⟨3,.data⟩,⟨4,.data⟩],none⟩ ?_
             try simp only [Rg.gp]
             refine Rg.tk 7 ⟨some 176,.indexAddr 25 (.tmp 3) (.const (Value.int IntKind.i64 2)),0,"law.go:146",#[],none⟩ ?_
             try simp only [Rg.gp]
             refine Rg.tk 8 ⟨some 177,.load 5 (.tmp 176),5,"law.go:146",#[⟨7,.data⟩],none⟩ ?_
             try simp only [Rg.gp]
             refine Rg.tk 9 ⟨some 178,.convert 5 3 (.tmp 177),3,"law.go:146",#[⟨8,.data⟩],none⟩ ?_
             try simp only [Rg.gp]
             refine Rg.tk 10 ⟨some 179,.load 29 (.tmp 7),29,"law.go:146",#[],none⟩ ?_
             try simp only [Rg.gp]
             refine Rg.tk 13 ⟨some 182,.move (.tmp 15),30,"law.go:146",#[],none⟩ ?_
             try simp only [Rg.gp]
             refine Rg.tk 14 ⟨some 183,.move (.tmp 14),3,"law.go:146",#[],none⟩ ?_
             try simp only [Rg.gp]
             refine Rg.tk 15 ⟨some 184,.indexAddr 30 (.tmp 182) (.tmp 183),0,"law.go:146",#[⟨13,.data⟩,⟨14,.data⟩],none⟩ ?_
             try simp only [Rg.gp]
             refine wpAnyH_ready (rs := [6, 11, 16]) (by kernel_rfl) (by simp) ?_
             refine (AllReadyH.cons (o := ⟨some 175,.load 27 (.tmp 174),27,"law.go:146",#[⟨5,.data⟩],none⟩) rfl (fun K hK => ?_) (AllReadyH.cons (o := ⟨some 180,.call ⟨.value (.func 42),#[.tmp 179],#[29]⟩,3,"law.go:146",#[⟨10,.data⟩],none⟩) rfl (fun K hK => ?_) (AllReadyH.cons (o := ⟨some 185,.load 27 (.tmp 184),27,"law.go:146",#[⟨15,.data⟩],none⟩) rfl (fun K hK => ?_) AllReadyH.nil)))
             ·have c6 : x0.cell? ⟨g, ii, none⟩ = some (.slice aU n cU) := (HBW0.out.cell (p := ⟨g, ii, none⟩) HGL.out).trans HU3.out
              go_simp
              refine hK.out _ _ ?_ (fun hHeld => ?_)
              ·(try dsimp only)
               exact hHeld
              clear hK K
              try simp only [Rg.gp]
              refine wpAnyH_ready (rs := [11, 16]) (by kernel_rfl) (by simp) ?_
              refine (AllReadyH.cons (o := ⟨some 180,.call ⟨.value (.func 42),#[.tmp 179],#[29]⟩,3,"law.go:146",#[⟨10,.data⟩],none⟩) rfl (fun K hK => ?_) (AllReadyH.cons (o := ⟨some 185,.load 27 (.tmp 184),27,"law.go:146",#[⟨15,.data⟩],none⟩) rfl (fun K hK => ?_) AllReadyH.nil))
              ·go_simp
               go_at_call 42
               with_reducible refine ((show Calls Try.prog 42 #[FV F b cap] _ (fun e w' => e = .returned (.int .i64 (qq : Nat)) ∧ Below _ _ w') from by have t := rsize_c hHeld.1.2.2.out.1; rw [hqq.out] at t; exact t)).mono ?_
               rintro z x1 ⟨rfl, hb8⟩
               have HB_x1 : Hid (Below x0.heap.size x0 x1) := Lib.hid hb8
               have HBW_x1 : Hid (Below wF.heap.size wF x1) := Lib.hid (HBW0.out.trans (hb8.mono HBW0.out.size))
               clear hb8
               refine hK.out _ _ ?_ (fun hHeld => ?_)
               ·(try dsimp only)
                exact SKY.keep hHeld HB_x1.out
               clear hK K
               try simp only [Rg.gp]
               refine Rg.tk 12 ⟨some 181,.binOp BinOp.rem 3 (.tmp 178) (.tmp 180) 3,3,"law.go:146",#[⟨9,.data⟩,⟨11,.data⟩],none⟩ ?_
               try simp only [Rg.gp]
               refine Rg.rd1 16 ⟨some 185,.load 27 (.tmp 184),27,"law.go:146",#[⟨15,.data⟩],none⟩ fun K hK => ?_
               have c16 : x1.cell? ⟨g, kk, none⟩ = some (.slice aV n cV) := (HBW_x1.out.cell (p := ⟨g, kk, none⟩) HGL.out).trans HV3.out
               go_simp
               refine hK.out _ _ ?_ (fun hHeld => ?_)
               ·(try dsimp only)
                exact hHeld
               clear hK K
               try simp only [Rg.gp]
               exact hrest.out _ ⟨hHeld, HBW_x1⟩
              ·have c16 : x0.cell? ⟨g, kk, none⟩ = some (.slice aV n cV) := (HBW0.out.cell (p := ⟨g, kk, none⟩) HGL.out).trans HV3.out
               go_simp
               refine hK.out _ _ ?_ (fun hHeld => ?_)
               ·(try dsimp only)
                exact hHeld
               clear hK K
               try simp only [Rg.gp]
               refine Rg.rd1 11 ⟨some 180,.call ⟨.value (.func 42),#[.tmp 179],#[29]⟩,3,"law.go:146",#[⟨10,.data⟩],none⟩ fun K hK => ?_
               go_simp
               go_at_call 42
               with_reducible refine ((show Calls Try.prog 42 #[FV F b cap] _ (fun e w' => e = .returned (.int .i64 (qq : Nat)) ∧ Below _ _ w') from by have t := rsize_c hHeld.1.2.2.out.1; rw [hqq.out] at t; exact t)).mono ?_
               rintro z x1 ⟨rfl, hb8⟩
               have HB_x1 : Hid (Below x0.heap.size x0 x1) := Lib.hid hb8
               have HBW_x1 : Hid (Below wF.heap.size wF x1) := Lib.hid (HBW0.out.trans (hb8.mono HBW0.out.size))
               clear hb8
               refine hK.out _ _ ?_ (fun hHeld => ?_)
               ·(try dsimp only)
                exact SKY.keep hHeld HB_x1.out
               clear hK K
               try simp only [Rg.gp]
               refine Rg.tk 12 ⟨some 181,.binOp BinOp.rem 3 (.tmp 178) (.tmp 180) 3,3,"law.go:146",#[⟨9,.data⟩,⟨11,.data⟩],none⟩ ?_
               try simp only [Rg.gp]
               exact hrest.out _ ⟨hHeld, HBW_x1⟩
             ·go_simp
              go_at_call 42
              with_reducible refine ((show Calls Try.prog 42 #[FV F b cap] _ (fun e w' => e = .returned (.int .i64 (qq : Nat)) ∧ Below _ _ w') from by have t := rsize_c hHeld.1.2.2.out.1; rw [hqq.out] at t; exact t)).mono ?_
              rintro z x1 ⟨rfl, hb8⟩
              have HB_x1 : Hid (Below x0.heap.size x0 x1) := Lib.hid hb8
              have HBW_x1 : Hid (Below wF.heap.size wF x1) := Lib.hid (HBW0.out.trans (hb8.mono HBW0.out.size))
              clear hb8
              refine hK.out _ _ ?_ (fun hHeld => ?_)
              ·(try dsimp only)
               exact SKY.keep hHeld HB_x1.out
              clear hK K
              try simp only [Rg.gp]
              refine Rg.tk 12 ⟨some 181,.binOp BinOp.rem 3 (.tmp 178) (.tmp 180) 3,3,"law.go:146",#[⟨9,.data⟩,⟨11,.data⟩],none⟩ ?_
              try simp only [Rg.gp]
              refine wpAnyH_ready (rs := [6, 16]) (by kernel_rfl) (by simp) ?_
              refine (AllReadyH.cons (o := ⟨some 175,.load 27 (.tmp 174),27,"law.go:146",#[⟨5,.data⟩],none⟩) rfl (fun K hK => ?_) (AllReadyH.cons (o := ⟨some 185,.load 27 (.tmp 184),27,"law.go:146",#[⟨15,.data⟩],none⟩) rfl (fun K hK => ?_) AllReadyH.nil))
              ·have c6 : x1.cell? ⟨g, ii, none⟩ = some (.slice aU n cU) := (HBW_x1.out.cell (p := ⟨g, ii, none⟩) HGL.out).trans HU3.out
               go_simp
               refine hK.out _ _ ?_ (fun hHeld => ?_)
               ·(try dsimp only)
                exact hHeld
               clear hK K
               try simp only [Rg.gp]
               refine Rg.rd1 16 ⟨some 185,.load 27 (.tmp 184),27,"law.go:146",#[⟨15,.data⟩],none⟩ fun K hK => ?_
               have c16 : x1.cell? ⟨g, kk, none⟩ = some (.slice aV n cV) := (HBW_x1.out.cell (p := ⟨g, kk, none⟩) HGL.out).trans HV3.out
               go_simp
               refine hK.out _ _ ?_ (fun hHeld => ?_)
               ·(try dsimp only)
                exact hHeld
               clear hK K
               try simp only [Rg.gp]
               exact hrest.out _ ⟨hHeld, HBW_x1⟩
              ·have c16 : x1.cell? ⟨g, kk, none⟩ = some (.slice aV n cV) := (HBW_x1.out.cell (p := ⟨g, kk, none⟩) HGL.out).trans HV3.out
               go_simp
               refine hK.out _ _ ?_ (fun hHeld => ?_)
               ·(try dsimp only)
                exact hHeld
               clear hK K
               try simp only [Rg.gp]
               refine Rg.rd1 6 ⟨some 175,.load 27 (.tmp 174),27,"law.go:146",#[⟨5,.data⟩],none⟩ fun K hK => ?_
               have c6 : x1.cell? ⟨g, ii, none⟩ = some (.slice aU n cU) := (HBW_x1.out.cell (p := ⟨g, ii, none⟩) HGL.out).trans HU3.out
               go_simp
               refine hK.out _ _ ?_ (fun hHeld => ?_)
               ·(try dsimp only)
                exact hHeld
               clear hK K
               try simp only [Rg.gp]
               exact hrest.out _ ⟨hHeld, HBW_x1⟩
             ·have c16 : x0.cell? ⟨g, kk, none⟩ = some (.slice aV n cV) := (HBW0.out.cell (p := ⟨g, kk, none⟩) HGL.out).trans HV3.out
              go_simp
              refine hK.out _ _ ?_ (fun hHeld => ?_)
              ·(try dsimp only)
               exact hHeld
              clear hK K
              try simp only [Rg.gp]
              refine wpAnyH_ready (rs := [6, 11]) (by kernel_rfl) (by simp) ?_
              refine (AllReadyH.cons (o := ⟨some 175,.load 27 (.tmp 174),27,"law.go:146",#[⟨5,.data⟩],none⟩) rfl (fun K hK => ?_) (AllReadyH.cons (o := ⟨some 180,.call ⟨.value (.func 42),#[.tmp 179],#[29]⟩,3,"law.go:146",#[⟨10,.data⟩],none⟩) rfl (fun K hK => ?_) AllReadyH.nil))
              ·have c6 : x0.cell? ⟨g, ii, none⟩ = some (.slice aU n cU) := (HBW0.out.cell (p := ⟨g, ii, none⟩) HGL.out).trans HU3.out
               go_simp
               refine hK.out _ _ ?_ (fun hHeld => ?_)
               ·(try dsimp only)
                exact hHeld
               clear hK K
               try simp only [Rg.gp]
               refine Rg.rd1 11 ⟨some 180,.call ⟨.value (.func 42),#[.tmp 179],#[29]⟩,3,"law.go:146",#[⟨10,.data⟩],none⟩ fun K hK => ?_
               go_simp
               go_at_call 42
               with_reducible refine ((show Calls Try.prog 42 #[FV F b cap] _ (fun e w' => e = .returned (.int .i64 (qq : Nat)) ∧ Below _ _ w') from by have t := rsize_c hHeld.1.2.2.out.1; rw [hqq.out] at t; exact t)).mono ?_
               rintro z x1 ⟨rfl, hb8⟩
               have HB_x1 : Hid (Below x0.heap.size x0 x1) := Lib.hid hb8
               have HBW_x1 : Hid (Below wF.heap.size wF x1) := Lib.hid (HBW0.out.trans (hb8.mono HBW0.out.size))
               clear hb8
               refine hK.out _ _ ?_ (fun hHeld => ?_)
               ·(try dsimp only)
                exact SKY.keep hHeld HB_x1.out
               clear hK K
               try simp only [Rg.gp]
               refine Rg.tk 12 ⟨some 181,.binOp BinOp.rem 3 (.tmp 178) (.tmp 180) 3,3,"law.go:146",#[⟨9,.data⟩,⟨11,.data⟩],none⟩ ?_
               try simp only [Rg.gp]
               exact hrest.out _ ⟨hHeld, HBW_x1⟩
              ·go_simp
               go_at_call 42
               with_reducible refine ((show Calls Try.prog 42 #[FV F b cap] _ (fun e w' => e = .returned (.int .i64 (qq : Nat)) ∧ Below _ _ w') from by have t := rsize_c hHeld.1.2.2.out.1; rw [hqq.out] at t; exact t)).mono ?_
               rintro z x1 ⟨rfl, hb8⟩
               have HB_x1 : Hid (Below x0.heap.size x0 x1) := Lib.hid hb8
               have HBW_x1 : Hid (Below wF.heap.size wF x1) := Lib.hid (HBW0.out.trans (hb8.mono HBW0.out.size))
               clear hb8
               refine hK.out _ _ ?_ (fun hHeld => ?_)
               ·(try dsimp only)
                exact SKY.keep hHeld HB_x1.out
               clear hK K
               try simp only [Rg.gp]
               refine Rg.tk 12 ⟨some 181,.binOp BinOp.rem 3 (.tmp 178) (.tmp 180) 3,3,"law.go:146",#[⟨9,.data⟩,⟨11,.data⟩],none⟩ ?_
               try simp only [Rg.gp]
               refine Rg.rd1 6 ⟨some 175,.load 27 (.tmp 174),27,"law.go:146",#[⟨5,.data⟩],none⟩ fun K hK => ?_
               have c6 : x1.cell? ⟨g, ii, none⟩ = some (.slice aU n cU) := (HBW_x1.out.cell (p := ⟨g, ii, none⟩) HGL.out).trans HU3.out
               go_simp
               refine hK.out _ _ ?_ (fun hHeld => ?_)
               ·(try dsimp only)
                exact hHeld
               clear hK K
               try simp only [Rg.gp]
               exact hrest.out _ ⟨hHeld, HBW_x1⟩
            case hr =>
             intro x1 hx1
             obtain ⟨hHeld, HBW_x1⟩ := hx1
             refine Rg.rd1 17 ⟨some 186,.call ⟨.value (.func 41),#[.tmp 171,.tmp 175,.tmp 181,.tmp 185],#[29,27,3,27]⟩,27,"law.go:146",#[⟨2,.data⟩,⟨6,.data⟩,⟨12,.data⟩,⟨16,.data⟩,⟨11,.chain⟩],none⟩ fun K hK => ?_
             go_simp
             go_at_call 41
             with_reducible refine ((show Calls Try.prog 41 #[FV F b cap, .slice aU n cU, .int .i64 (c2 : Nat), .slice aV n cV] _ (DPn (moV F (L1.getD ii []) c2 (L1.getD kk [])) n wF.heap.size _) from (more_o hHeld.1.2.2.out.1 (by omega) HU4.out HV4.out HC2.out (HU2.out.below HBW_x1.out) (HV2.out.below HBW_x1.out)).mono fun _ _ h => h.n (moV_vn HFF.out HU4.out).len HBW_x1.out.size)).mono ?_
             rintro z x2 ⟨a9, c9, rfl, ho9, hb8⟩
             have HB_x2 : Hid (Below x1.heap.size x1 x2) := Lib.hid hb8
             have HBW_x2 : Hid (Below wF.heap.size wF x2) := Lib.hid (HBW_x1.out.trans (hb8.mono HBW_x1.out.size))
             clear hb8
             refine hK.out _ _ ?_ (fun hHeld => ?_)
             ·(try dsimp only)
              exact SKY.keep hHeld HB_x2.out
             clear hK K
             try simp only [Rg.gp]
             have HO9 := Lib.hid ho9
             clear ho9
             refine Rg.tk 18 ⟨some 187,.indexAddr 30 (.tmp 169) (.tmp 170),0,"law.go:146",#[⟨0,.data⟩,⟨1,.data⟩,⟨0,.phase⟩,⟨1,.phase⟩,⟨2,.phase⟩,⟨3,.phase⟩,⟨4,.phase⟩,⟨5,.phase⟩,⟨6,.phase⟩,⟨7,.phase⟩,⟨8,.phase⟩,⟨9,.phase⟩,⟨10,.phase⟩,⟨11,.phase⟩,⟨12,.phase⟩,⟨13,.phase⟩,⟨14,.phase⟩,⟨15,.phase⟩,⟨16,.phase⟩,⟨17,.phase⟩],none⟩ ?_
             try simp only [Rg.gp]
             refine Rg.rd1 19 ⟨none,.store 27 (.tmp 187) (.tmp 186),0,"law.go:146",#[⟨18,.data⟩,⟨17,.data⟩,⟨17,.chain⟩,⟨0,.phase⟩,⟨1,.phase⟩,⟨2,.phase⟩,⟨3,.phase⟩,⟨4,.phase⟩,⟨5,.phase⟩,⟨6,.phase⟩,⟨7,.phase⟩,⟨8,.phase⟩,⟨9,.phase⟩,⟨10,.phase⟩,⟨11,.phase⟩,⟨12,.phase⟩,⟨13,.phase⟩,⟨14,.phase⟩,⟨15,.phase⟩,⟨16,.phase⟩,⟨17,.phase⟩],none⟩ fun K hK => ?_
             have f19 : x2.frozen? ⟨g, ii, none⟩ = false := (HQ2.out.1.below HBW_x2.out).frozen ii
             have c19 : x2.cell? ⟨g, ii, none⟩ = some (.slice aU n cU) := (HBW_x2.out.cell (p := ⟨g, ii, none⟩) HGL.out).trans HU3.out
             go_simp
             refine hK.out _ _ ?_ (fun hHeld => ?_)
             ·(try dsimp only)
              exact SKY.keep HSYB.out ((HBFS.out.trans (HBW_x2.out.mono HBFS.out.size)).setCell HGS.out _)
             clear hK K
             try simp only [Rg.gp]
             refine wpAnyH_done (by kernel_rfl) ?_ _
             clear hHeld
             go_wp2_with fail
             go_meet
             case rel => exact ⟨rfl, L1.set ii (moV F (L1.getD ii []) c2 (L1.getD kk [])), us1.set ii (.slice a9 n c9), Lib.hid (by
              obtain ⟨h1, h2, h3, h4⟩ := HQ2.out
              have hi' : ii < L1.length := by rw [h2]; exact hil
              have hk' : kk < L1.length := by rw [h2]; exact hkl
              exact ⟨(h1.below HBW_x2.out).set hi' (NN.of_owns (by rw [(moV_vn HFF.out HU4.out).len]; exact HO9.out)) (LQ.own_off HO9.out HGL.out), by rw [List.length_set]; exact h2, set_mn HFF.out h3 (moV_vn HFF.out HU4.out), fun v => (sp_more HFF.out h3 hi' hk' hik HC2.out v).trans (h4 v)⟩), Lib.hid (by rw [HBS.out]; exact (HBFS.out.trans (HBW_x2.out.mono HBFS.out.size)).setCell HGS.out _)⟩
         case rest =>
          obtain ⟨rfl, L2, us2, HQ3, HBC⟩ := hcut
          obtain ⟨wC, hwC⟩ : ∃ w, w = wc := ⟨_, rfl⟩
          subst hwC
          clear HQ2 HBF
          obtain ⟨q1, hq1⟩ : ∃ k, Hid (F.q - 1 = k) := ⟨_, Lib.hid rfl⟩
          obtain ⟨t3, ht3⟩ : ∃ k, Hid (z3 % q1 = k) := ⟨_, Lib.hid rfl⟩
          obtain ⟨cc, hcc⟩ : ∃ k, Hid (1 + t3 = k) := ⟨_, Lib.hid rfl⟩
          have hq2 : 2 ≤ F.q := HFF.out.q2
          have hq64 : F.q ≤ 64 := (fd_small F HSKq.out.2.2.out.1.mem).2.2.2.2.2.1
          have hq1i : (F.q : Int) - 1 = (q1 : Int) := by rw [← hq1.out]; omega
          have hq1p : 1 ≤ q1 := by rw [← hq1.out]; omega
          have hq1l : q1 + 1 = F.q := by rw [← hq1.out]; omega
          have ht3l : t3 < q1 := by rw [← ht3.out]; exact Nat.mod_lt _ (by omega)
          have HCC : Hid (cc < F.q ∧ cc ≠ 0) := Lib.hid (by rw [← hcc.out]; omega)
          have hwq : IntKind.i64.wrap ((F.q : Int) - 1) = (q1 : Int) := by rw [hq1i]; exact IntWalk.i64_in _ (by omega)
          have hwq1 : IntKind.i64.wrap (q1 : Int) = (q1 : Int) := IntWalk.i64_in _ (by omega)
          have ht3i : (z3 : Int) % (q1 : Int) = (t3 : Int) := by rw [← ht3.out]; omega
          have ht3t : (z3 : Int).tmod (q1 : Int) = (t3 : Int) := by rw [Int.tmod_eq_emod_of_nonneg (by omega)]; exact ht3i
          have hwt3 : IntKind.i64.wrap (t3 : Int) = (t3 : Int) := IntWalk.i64_in _ (by omega)
          have hwz3 : IntKind.i64.wrap (z3 : Int) = (z3 : Int) := IntWalk.i64_in _ (by omega)
          have hcci : 1 + (t3 : Int) = (cc : Int) := by rw [← hcc.out]; omega
          have hwcc : IntKind.i64.wrap (1 + (t3 : Int)) = (cc : Int) := by rw [hcci]; exact IntWalk.i64_in _ (by omega)
          have hwc3 : IntKind.i64.wrap (cc : Int) = (cc : Int) := IntWalk.i64_in _ (by omega)
          have hq1z : ¬ q1 = 0 := by omega
          have hq1z2 : ¬ (q1 : Int) = 0 := by omega
          have HQQ := Lib.hid (And.intro hq1l hq1i)
          clear hq1l hq1i
          have HBCS : Hid (Below wB.heap.size wB wC) := Lib.hid (HBC.out.mono (Nat.le_of_eq HBS.out.symm))
          have HSYB : Hid (SKY F b cap n B BM (.slice (some ⟨bA, oA, none⟩) m cA) GZ 3 z3 wB wB) := Lib.hid ⟨HSKBB.out, HZB.out.2.2.2.1, Lib.hid HZB.out.2.2.2.2⟩
          have hS0 : SKY F b cap n B BM (.slice (some ⟨bA, oA, none⟩) m cA) GZ 3 z3 wB wC.drew := SKY.keep HSYB.out HBCS.out.drew
          go_wp2_with fail
          as_aux_lemma =>
           refine wp_region_held_drew (S := fun w' => SKY F b cap n B BM (.slice (some ⟨bA, oA, none⟩) m cA) GZ 3 z3 wB w') (by kernel_rfl) (by with_reducible exact hS0) (fun hHeld => ?_)
           obtain ⟨x0, hx0⟩ : ∃ x, x = wC.drew := ⟨_, rfl⟩
           have HBW0 : Hid (Below wC.heap.size wC x0) := Lib.hid (by rw [hx0]; exact (Below.refl _ _).drew)
           rw [← hx0] at hHeld ⊢
           clear hx0 hS0
           refine Rg.tk 0 ⟨some 188,.indexAddr 25 (.tmp 3) (.const (Value.int IntKind.i64 3)),0,"law.go:148",#[],none⟩ ?_
           try simp only [Rg.gp]
           refine Rg.tk 1 ⟨some 189,.load 5 (.tmp 188),5,"law.go:148",#[⟨0,.data⟩],none⟩ ?_
           try simp only [Rg.gp]
           refine Rg.tk 2 ⟨some 190,.convert 5 3 (.tmp 189),3,"law.go:148",#[⟨1,.data⟩],none⟩ ?_
           try simp only [Rg.gp]
           refine Rg.tk 3 ⟨some 191,.load 29 (.tmp 7),29,"law.go:148",#[],none⟩ ?_
           try simp only [Rg.gp]
           refine Rg.rd1 4 ⟨some 192,.call ⟨.value (.func 42),#[.tmp 191],#[29]⟩,3,"law.go:148",#[⟨3,.data⟩],none⟩ fun K hK => ?_
           go_simp
           go_at_call 42
           with_reducible refine ((show Calls Try.prog 42 #[FV F b cap] _ (fun e w' => e = .returned (.int .i64 (F.q : Nat)) ∧ Below _ _ w') from rsize_c hHeld.1.2.2.out.1)).mono ?_
           rintro z x1 ⟨rfl, hb8⟩
           have HB_x1 : Hid (Below x0.heap.size x0 x1) := Lib.hid hb8
           have HBW_x1 : Hid (Below wC.heap.size wC x1) := Lib.hid (HBW0.out.trans (hb8.mono HBW0.out.size))
           clear hb8
           refine hK.out _ _ ?_ (fun hHeld => ?_)
           ·(try dsimp only)
            exact SKY.keep hHeld HB_x1.out
           clear hK K
           try simp only [Rg.gp]
           refine Rg.tk 5 ⟨some 193,.binOp BinOp.sub 3 (.tmp 192) (.const (Value.int IntKind.i64 1)) 3,3,"law.go:148",#[⟨4,.data⟩],none⟩ ?_
           try simp only [Rg.gp]
           refine Rg.tk 6 ⟨some 194,.binOp BinOp.rem 3 (.tmp 190) (.tmp 193) 3,3,"law.go:148",#[⟨2,.data⟩,⟨5,.data⟩],none⟩ ?_
           try simp only [Rg.gp]
           refine Rg.tk 7 ⟨some 195,.binOp BinOp.add 3 (.const (Value.int IntKind.i64 1)) (.tmp 194) 3,3,"law.go:148",#[⟨6,.data⟩],none⟩ ?_
           try simp only [Rg.gp]
           refine Rg.tk 8 ⟨some 16,.assign (.tmp 195),3,"law.go:148",#[⟨7,.data⟩,⟨4,.chain⟩,⟨0,.phase⟩,⟨1,.phase⟩,⟨2,.phase⟩,⟨3,.phase⟩,⟨4,.phase⟩,⟨5,.phase⟩,⟨6,.phase⟩,⟨7,.phase⟩],none⟩ ?_
           try simp only [Rg.gp]
           refine wpAnyH_done (by kernel_rfl) ?_ _
           obtain ⟨wD, hwD⟩ : ∃ w, w = x1 := ⟨_, rfl⟩
           have HBD : Hid (Below wC.heap.size wC wD) := Lib.hid (by rw [hwD]; exact HBW_x1.out)
           clear hHeld
           rw [← hwD]
           clear hwD HB_x1 HBW_x1
           have HQ4 := Lib.hid (HQ3.out.below HBD.out)
           have HBDS : Hid (Below wB.heap.size wB wD) := Lib.hid (HBCS.out.trans (HBD.out.mono HBCS.out.size))
           obtain ⟨aU, cU, hU1, hU2, hU3, hU4⟩ := HQ4.out.sh hkl
           have HU2 := Lib.hid hU2
           have HU3 := Lib.hid hU3
           have HU4 := Lib.hid hU4
           clear hU1 hU2 hU3 hU4
           have HGL : Hid (g < wD.heap.size) := Lib.hid HQ4.out.1.lt.2
           have hS0 : SKL F b cap n B BM (.slice (some ⟨bA, oA, none⟩) m cA) wB wD.drew := SKL.keep HSKBB.out HBDS.out.drew
           have hKLi : (kk : Int) < (m : Int) := by omega
           go_wp2_with fail
           refine wp_region_held_drew (S := fun w' => SKL F b cap n B BM (.slice (some ⟨bA, oA, none⟩) m cA) wB w') (by kernel_rfl) (by with_reducible exact hS0) (fun hHeld => ?_)
           obtain ⟨x0, hx0⟩ : ∃ x, x = wD.drew := ⟨_, rfl⟩
           have HBW0 : Hid (Below wD.heap.size wD x0) := Lib.hid (by rw [hx0]; exact (Below.refl _ _).drew)
           rw [← hx0] at hHeld ⊢
           clear hx0 hS0
           refine Rg.tk 0 ⟨some 196,.move (.tmp 15),30,"law.go:149",#[],none⟩ ?_
           try simp only [Rg.gp]
           refine Rg.tk 1 ⟨some 197,.move (.tmp 14),3,"law.go:149",#[],none⟩ ?_
           try simp only [Rg.gp]
           refine Rg.tk 2 ⟨some 198,.load 29 (.tmp 7),29,"law.go:149",#[],none⟩ ?_
           try simp only [Rg.gp]
           refine Rg.tk 3 ⟨some 199,.move (.tmp 16),3,"law.go:149",#[],none⟩ ?_
           try simp only [Rg.gp]
           refine Rg.tk 4 ⟨some 200,.move (.tmp 15),30,"law.go:149",#[],none⟩ ?_
           try simp only [Rg.gp]
           refine Rg.tk 5 ⟨some 201,.move (.tmp 14),3,"law.go:149",#[],none⟩ ?_
           try simp only [Rg.gp]
           refine Rg.tk 6 ⟨some 202,.indexAddr 30 (.tmp 200) (.tmp 201),0,"law.go:149",#[⟨4,.data⟩,⟨5,.data⟩],none⟩ ?_
           try simp only [Rg.gp]
           refine Rg.rd1 7 ⟨some 203,.load 27 (.tmp 202),27,"law.go:149",#[⟨6,.data⟩],none⟩ fun K hK => ?_
           have c7 : x0.cell? ⟨g, kk, none⟩ = some (.slice aU n cU) := (HBW0.out.cell (p := ⟨g, kk, none⟩) HGL.out).trans HU3.out
           go_simp
           refine hK.out _ _ ?_ (fun hHeld => ?_)
           ·(try dsimp only)
            exact hHeld
           clear hK K
           try simp only [Rg.gp]
           refine Rg.rd1 8 ⟨some 204,.call ⟨.value (.func 43),#[.tmp 198,.tmp 199,.tmp 203],#[29,3,27]⟩,27,"law.go:149",#[⟨2,.data⟩,⟨3,.data⟩,⟨7,.data⟩],none⟩ fun K hK => ?_
           go_simp
           go_at_call 43
           with_reducible refine ((show Calls Try.prog 43 #[FV F b cap, .int .i64 (cc : Nat), .slice aU n cU] _ (DPn (timV F cc (L2.getD kk [])) n wD.heap.size _) from (times_o hHeld.2.2.out.1 (by omega) HU4.out HCC.out.1 (HU2.out.below HBW0.out)).mono fun _ _ h => h.n (timV_vn HFF.out HU4.out).len HBW0.out.size)).mono ?_
           rintro z x2 ⟨a9, c9, rfl, ho9, hb8⟩
           have HB_x2 : Hid (Below x0.heap.size x0 x2) := Lib.hid hb8
           have HBW_x2 : Hid (Below wD.heap.size wD x2) := Lib.hid (HBW0.out.trans (hb8.mono HBW0.out.size))
           clear hb8
           refine hK.out _ _ ?_ (fun hHeld => ?_)
           ·(try dsimp only)
            exact SKL.keep hHeld HB_x2.out
           clear hK K
           try simp only [Rg.gp]
           have HO9 := Lib.hid ho9
           clear ho9
           refine Rg.tk 9 ⟨some 205,.indexAddr 30 (.tmp 196) (.tmp 197),0,"law.go:149",#[⟨0,.data⟩,⟨1,.data⟩,⟨0,.phase⟩,⟨1,.phase⟩,⟨2,.phase⟩,⟨3,.phase⟩,⟨4,.phase⟩,⟨5,.phase⟩,⟨6,.phase⟩,⟨7,.phase⟩,⟨8,.phase⟩],none⟩ ?_
           try simp only [Rg.gp]
           refine Rg.rd1 10 ⟨none,.store 27 (.tmp 205) (.tmp 204),0,"law.go:149",#[⟨9,.data⟩,⟨8,.data⟩,⟨8,.chain⟩,⟨0,.phase⟩,⟨1,.phase⟩,⟨2,.phase⟩,⟨3,.phase⟩,⟨4,.phase⟩,⟨5,.phase⟩,⟨6,.phase⟩,⟨7,.phase⟩,⟨8,.phase⟩],none⟩ fun K hK => ?_
           have f10 : x2.frozen? ⟨g, kk, none⟩ = false := (HQ4.out.1.below HBW_x2.out).frozen kk
           have c10 : x2.cell? ⟨g, kk, none⟩ = some (.slice aU n cU) := (HBW_x2.out.cell (p := ⟨g, kk, none⟩) HGL.out).trans HU3.out
           go_simp
           refine hK.out _ _ ?_ (fun hHeld => ?_)
           ·(try dsimp only)
            exact SKL.keep HSKBB.out ((HBDS.out.trans (HBW_x2.out.mono HBDS.out.size)).setCell HGS.out _)
           clear hK K
           try simp only [Rg.gp]
           refine wpAnyH_done (by kernel_rfl) ?_ _
           obtain ⟨wG, hwG⟩ : ∃ w, w = x2.setCell ⟨g, kk, none⟩ (.slice a9 n c9) := ⟨_, rfl⟩
           obtain ⟨L3, us3, HQ5⟩ : ∃ (L3 : List (List Nat)) (us3 : List Value), Hid (LQ F n m A L3 us3 base g cl wG) := ⟨L2.set kk (timV F cc (L2.getD kk [])), us2.set kk (.slice a9 n c9), Lib.hid (by
            rw [hwG]
            obtain ⟨h1, h2, h3, h4⟩ := HQ4.out
            have hk' : kk < L2.length := by rw [h2]; exact hkl
            exact ⟨(h1.below HBW_x2.out).set hk' (NN.of_owns (by rw [(timV_vn HFF.out HU4.out).len]; exact HO9.out)) (LQ.own_off HO9.out HGL.out), by rw [List.length_set]; exact h2, set_mn HFF.out h3 (timV_vn HFF.out HU4.out), fun v => (sp_times HFF.out h3 hk' (timV_vn HFF.out HU4.out) (timV_fn HFF.out HU4.out) HCC.out.1 HCC.out.2 v).trans (h4 v)⟩)⟩
           have HBG : Hid (Below wB.heap.size wB wG) := Lib.hid (by rw [hwG]; exact (HBDS.out.trans (HBW_x2.out.mono HBDS.out.size)).setCell HGS.out _)
           rw [← hwG]
           clear hHeld hwG
           have HSKG := Lib.hid (SKL.keep HSKBB.out HBG.out)
           have HMRG := Lib.hid (HMRq.out.below HBG.out)
           have HRL : Hid (redM F n L3 = R) := Lib.hid ((redM_ext HFF.out HQ5.out.2.2.1 HMN.out HQ5.out.2.2.2).trans hR.out)
           have HRR : Hid (redM F n R = R) := Lib.hid (by
            have h := redM_ext HFF.out HRN.out HMN.out (fun v => by rw [← hR.out]; exact redM_sp HFF.out HMN.out v)
            rw [h]; exact hR.out)
           have HRD1 : Hid (Calls Try.prog 15 #[FV F b cap, .slice (some ⟨g, 0, none⟩) m cl] wG (MPn R rl wG)) := Lib.hid (by
            have t := reduce_c (F := F) (n := n) (A := L3) (aa := some ⟨g, 0, none⟩) (ca := cl) (W := wG) HSKG.out.2.2.out.1 (by omega) (by omega) (by rw [HQ5.out.2.1]; omega) HQ5.out.2.2.1 HQ5.out.1.mm
            rw [HQ5.out.2.1, HRL.out] at t; exact t.mono fun _ _ h => h.n hrl.out)
           obtain ⟨x0, x1, x2⟩ := HSKG.out.1
           go_wp2_with fail
           with_reducible refine HRD1.out.mono ?_
           rintro e wH ⟨a1, c1, rfl, hm1, hb1⟩
           have HBH : Hid (Below wB.heap.size wB wH) := Lib.hid (HBG.out.trans (hb1.mono HBG.out.size))
           have HMRH := Lib.hid (HMRq.out.below HBH.out)
           have HAL1 : Hid (Calls Try.prog 14 #[.slice a1 rl c1, .slice aR rl cR] wH fun e w' => e = .returned (.bool true) ∧ Below wH.heap.size wH w') := Lib.hid (by
            have t := alike_c (A := R) (B := R) (aa := a1) (ca := c1) (ab := aR) (cb := cR) (W := wH) (by rw [hrl.out]; omega) (by rw [hrl.out]; omega) (fun t ht => by rw [(mrow HRN.out ht).len]; omega) (fun t ht => by rw [(mrow HRN.out ht).len]; omega) (by rw [hrl.out]; exact hm1) (by rw [hrl.out]; exact HMRH.out)
            rw [hrl.out, decide_eq_true rfl] at t; exact t)
           clear hm1 hb1 x0 x1 x2
           go_wp2_with fail
           with_reducible refine HAL1.out.mono ?_
           rintro e wI ⟨rfl, hb2⟩
           have HBI : Hid (Below wB.heap.size wB wI) := Lib.hid (HBH.out.trans (hb2.mono HBH.out.size))
           have HMRI := Lib.hid (HMRq.out.below HBI.out)
           have HSKI := Lib.hid (SKL.keep HSKBB.out HBI.out)
           clear hb2
           have HRD2 : Hid (Calls Try.prog 15 #[FV F b cap, .slice aR rl cR] wI (MPn R rl wI)) := Lib.hid (by
            have t := reduce_c (F := F) (n := n) (A := R) (aa := aR) (ca := cR) (W := wI) HSKI.out.2.2.out.1 (by omega) (by omega) (by rw [hrl.out]; omega) HRN.out (by rw [hrl.out]; exact HMRI.out)
            rw [hrl.out, HRR.out] at t; exact t.mono fun _ _ h => h.n hrl.out)
           obtain ⟨x0, x1, x2⟩ := HSKI.out.1
           go_wp2_with fail
           with_reducible refine HRD2.out.mono ?_
           rintro e wJ ⟨a1, c1, rfl, hm1, hb1⟩
           have HBJ : Hid (Below wB.heap.size wB wJ) := Lib.hid (HBI.out.trans (hb1.mono HBI.out.size))
           have HMRJ := Lib.hid (HMRq.out.below HBJ.out)
           have HAL2 : Hid (Calls Try.prog 14 #[.slice a1 rl c1, .slice aR rl cR] wJ fun e w' => e = .returned (.bool true) ∧ Below wJ.heap.size wJ w') := Lib.hid (by
            have t := alike_c (A := R) (B := R) (aa := a1) (ca := c1) (ab := aR) (cb := cR) (W := wJ) (by rw [hrl.out]; omega) (by rw [hrl.out]; omega) (fun t ht => by rw [(mrow HRN.out ht).len]; omega) (fun t ht => by rw [(mrow HRN.out ht).len]; omega) (by rw [hrl.out]; exact hm1) (by rw [hrl.out]; exact HMRJ.out)
            rw [hrl.out, decide_eq_true rfl] at t; exact t)
           clear hm1 hb1 x0 x1 x2
           go_wp2_with fail
           with_reducible refine HAL2.out.mono ?_
           rintro e wK ⟨rfl, hb2⟩
           have HBK : Hid (Below W.heap.size W wK) := Lib.hid (HBW.out.trans ((HBJ.out.trans (hb2.mono HBJ.out.size)).mono HBW.out.size))
           clear hb2
           go_wp2
           go_ret
           exact ⟨rfl, HBK.out⟩

end Go.Proofs.Yteeofijcndgbfaa
