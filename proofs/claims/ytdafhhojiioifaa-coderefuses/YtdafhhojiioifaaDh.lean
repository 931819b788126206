/- The word of a message. -/
import Derived.Test.YtdafhhojiioifaaDg
namespace Go.Proofs.Ytdafhhojiioifaa
open Go.RowKit Go.Fl
set_option maxRecDepth 100000
set_option linter.unusedVariables false
set_option linter.unusedSimpArgs false
set_option linter.unusedSectionVars false

open Go.RowKit
/-- the word of the first k elements of a message -/
def enK (F : Gf) (n : Nat) (G : List (List Nat)) (M : List Nat) : Nat → List Nat
 | 0 => List.replicate n 0
 | k + 1 => plV F (enK F n G M k) (tiV F (M.getD k 0) (G.getD k []))
theorem enK_vn {F : Gf} (hF : Ok F) {n : Nat} {G : List (List Nat)} {M : List Nat} : ∀ k, Vn F n (enK F n G M k)
 | 0 => rep_vn hF n
 | k + 1 => plV_vn hF (enK_vn hF k)
set_option maxHeartbeats 6400000 in
theorem encode_c {F : Gf} {n m cg cv : Nat} {G : List (List Nat)} {L : List (Nat × Cf)} {M : List Nat} {ga av : Option Addr} {W : World} (hC : VC F n m G L) (ng : MM G W (.slice ga m cg)) (hml : M.length = m) (hme : In F M) (nv : NN M W (.slice av m cv)) :
  Calls Try.prog 19 #[DV F.q n (.slice ga m cg), .slice av m cv] W fun e w' => ∃ g, W.heap.size ≤ g ∧ e = .returned (.tuple #[.slice (some ⟨g, 0, none⟩) n n, .int .i64 0]) ∧ Row (enK F n G M m) g w' ∧ Below W.heap.size W w' := by
 obtain ⟨i0, hi, hz0, hz1, hz2⟩ := info_parts info3
 obtain ⟨W1, hW1⟩ : ∃ W1, W.alloc (.cells #[.int .i64 (F.q : Nat), .int .i64 (n : Nat), .slice ga m cg] 32) = W1 := ⟨_, rfl⟩
 have HB1 : Hid (Below W.heap.size W W1) := Lib.hid (by rw [← hW1]; exact (Below.refl _ _).alloc (Nat.le_refl _) _)
 have HC1 : Hid (BC W.heap.size [.int .i64 (F.q : Nat), .int .i64 (n : Nat), .slice ga m cg] 32 W1) := Lib.hid (by rw [← hW1]; exact BC.new W [.int .i64 (F.q : Nat), .int .i64 (n : Nat), .slice ga m cg] 32 rfl)
 have HS1 : Hid (W1.heap.size = W.heap.size + 1) := Lib.hid (by rw [← hW1]; simp)
 have HA : Hid (Calls Try.prog 54 #[DV F.q n (.slice ga m cg)] W1 fun e w' => ∃ b cap, e = .returned (.tuple #[XV F b cap n, .bool true]) ∧ FldAt F b cap w' ∧ Below W1.heap.size W1 w' ∧ W1.heap.size ≤ b) := Lib.hid (by have := around_c hC.gc (ng.below HB1.out); rw [hC.ar] at this; exact this)
 have HNG := Lib.hid (ng.below HB1.out)
 have HNV := Lib.hid (nv.below HB1.out)
 have HMV := Lib.hid (And.intro hml hme)
 have HFM : Hid (F ∈ fds) := Lib.hid hC.gc.mem
 have hn2 := hC.gc.n2
 have hm2 : m ≤ 24 := by have h := hC.dims; omega
 have HGN := Lib.hid hC.gc.mn
 have HGL := Lib.hid hC.gc.len
 have HFF : Hid (Ok F) := Lib.hid hC.ok
 have HHS : Hid (∀ b cap w', NN M w' (.slice av m cv) → Calls Try.prog 55 #[XV F b cap n, .slice av m cv] w' fun e w'' => e = .returned (.bool true) ∧ Below w'.heap.size w' w'') := Lib.hid fun b cap w' h => by
  have hl : (ints M).length = m := by rw [ints_len, HMV.out.1]
  have t := hasel_c (F := F) (b := b) (cap := cap) (n := n) (L := ints M) (a := av) (c := cv) (W := w') HFM.out (by rw [hl]; omega) (by have := h.ni; rw [hl]; exact this)
  rw [hl, elI_in HMV.out.2] at t
  exact t
 obtain ⟨q, hqq⟩ : ∃ q, Hid (F.q = q) := ⟨_, Lib.hid rfl⟩
 rw [hqq.out] at HA HC1 hW1 ⊢
 have HW1 := Lib.hid hW1
 have c0 := HC1.out.cell (i := 0) rfl
 have c1 := HC1.out.cell (i := 1) rfl
 have c2 := HC1.out.cell (i := 2) rfl
 clear hW1 hC ng nv hml hme
 go_enter Try.func19, Try.ntmps19
 go_wp2_with fail
 rw [HW1.out]
 go_wp2_with fail
 with_reducible refine HA.out.mono ?_
 rintro e w2 ⟨b, cap, rfl, hfa, hb2, hbl⟩
 obtain ⟨w3, hw3⟩ : ∃ w3, w3 = w2.alloc (.cells (XC F b cap n) 73) := ⟨_, rfl⟩
 obtain ⟨x, hx⟩ : ∃ x, x = w2.heap.size := ⟨_, rfl⟩
 have HAL : Hid (Below w2.heap.size w2 w3) := Lib.hid (by rw [hw3]; exact (Below.refl _ _).alloc (Nat.le_refl _) _)
 have HXB : Hid (XB x F b cap n w3) := Lib.hid (by rw [hw3, hx]; exact xb_new w2 rfl)
 have HXL : Hid (x < w3.heap.size) := Lib.hid (by rw [hw3, hx]; simp)
 have HFA3 := Lib.hid (hfa.below HAL.out)
 have HB13 : Hid (Below W1.heap.size W1 w3) := Lib.hid (hb2.trans (HAL.out.mono hb2.size))
 have HB3 : Hid (Below W.heap.size W w3) := Lib.hid (HB1.out.trans (HB13.out.mono HB1.out.size))
 have HC3 := Lib.hid (HC1.out.below HB13.out)
 have HH3 : Hid (Calls Try.prog 55 #[XV F b cap n, .slice av m cv] w3 fun e w'' => e = .returned (.bool true) ∧ Below w3.heap.size w3 w'') := Lib.hid (HHS.out b cap w3 (HNV.out.below HB13.out))
 have HW3 := Lib.hid hw3
 have HXX := Lib.hid hx
 obtain ⟨x0, x1, x2, x3⟩ := HXB.out
 have c0 := HC3.out.cell (i := 0) rfl
 have c1 := HC3.out.cell (i := 1) rfl
 have c2 := HC3.out.cell (i := 2) rfl
 rw [hx] at x0 x1 x2 x3
 rw [hw3] at x0 x1 x2 x3 c0 c1 c2
 clear hfa hb2 hbl HA hw3 hx
 go_wp2_with fail
 rw [← HW3.out]
 try rw [← HXX.out]
 with_reducible refine HH3.out.mono ?_
 rintro e w4 ⟨rfl, hb4⟩
 have HB34 := Lib.hid hb4
 have HC4 := Lib.hid (HC3.out.below hb4)
 have HNV4 := Lib.hid (HNV.out.below (HB13.out.trans (hb4.mono HB13.out.size)))
 have HNG4 := Lib.hid (HNG.out.below (HB13.out.trans (hb4.mono HB13.out.size)))
 have HZ : Hid (Calls Try.prog 56 #[XV F b cap n] w4 (RPost (List.replicate n 0) w4)) := Lib.hid (zero_c (by omega))
 clear x0 x1 x2 x3 c0 c1 c2 hb4 HH3
 obtain ⟨x0, x1, x2, x3⟩ := HXB.out.below HB34.out HXL.out
 go_wp2_with fail
 with_reducible refine HZ.out.mono ?_
 rintro e w5 ⟨g5, hg5, rfl, hr5, hb5⟩
 rw [List.length_replicate]
 have HR5 := Lib.hid hr5
 have HB45 := Lib.hid hb5
 have HG5 : Hid (w4.heap.size ≤ g5) := Lib.hid hg5
 have HB35 : Hid (Below w3.heap.size w3 w5) := Lib.hid (HB34.out.trans (hb5.mono HB34.out.size))
 have HB5 : Hid (Below W.heap.size W w5) := Lib.hid (HB3.out.trans (HB35.out.mono HB3.out.size))
 have HC5 := Lib.hid (HC4.out.below hb5)
 have HW4 : Hid (W.heap.size ≤ w4.heap.size) := Lib.hid (Nat.le_trans HB3.out.size HB34.out.size)
 have c2 := HC5.out.cell (i := 2) rfl
 clear hg5 hr5 hb5 HZ x0 x1 x2 x3
 obtain ⟨wz, hwz⟩ : ∃ w, w = w5 := ⟨_, rfl⟩
 subst hwz
 go_wp2
 go_loopw [8, 37] (fun s i wr => ∃ (k : Nat) (g : Nat), k ≤ m ∧ s = .slice (some ⟨g, 0, none⟩) n n ∧ i = .int .i64 (k : Nat) ∧ Hid (w4.heap.size ≤ g) ∧ Hid (Row (enK F n G M k) g wr) ∧ Hid (Below wz.heap.size wz wr)) (fun _ i _ => m - (intOf i).toNat)
 case atStart => exact ⟨0, g5, Nat.zero_le _, rfl, rfl, HG5, HR5, Below.refl _ _⟩
 case round =>
  obtain ⟨k, g, hk, rfl, rfl, HGG, HROW, KB⟩ := hrel
  have HK35 : Hid (Below w3.heap.size w3 wr) := Lib.hid (HB35.out.trans (KB.out.mono HB35.out.size))
  have HBF : Hid (Below W.heap.size W wr) := Lib.hid (HB5.out.trans (KB.out.mono HB5.out.size))
  by_cases hlt : k < m
  ·obtain ⟨bd, od, had, a2, c2', hcd, hn2'⟩ := (HNG4.out.below (HB45.out.trans (KB.out.mono HB45.out.size))).at' (fun t ht => (mrow HGN.out ht).len) hlt
   subst had
   have HKD : Hid (k < G.length) := Lib.hid (by rw [HGL.out]; exact hlt)
   have HVK : Hid (Vn F n (G.getD k [])) := Lib.hid (mrow HGN.out HKD.out)
   obtain ⟨bm, om, hav, hbm, hcm⟩ := (HNV4.out.below (HB45.out.trans (KB.out.mono HB45.out.size))).at' hlt
   subst hav
   obtain ⟨mk, hmk⟩ : ∃ y, Hid (M.getD k 0 = y) := ⟨_, Lib.hid rfl⟩
   rw [hmk.out] at hcm
   have HMQ : Hid (mk < F.q) := Lib.hid (by rw [← hmk.out, List.getD_eq_getElem?_getD, List.getElem?_eq_getElem (by rw [HMV.out.1]; exact hlt)]; exact HMV.out.2 _ (List.getElem_mem _))
   have HVE : Hid (Vn F n (enK F n G M k)) := Lib.hid (enK_vn HFF.out k)
   obtain ⟨T, hT⟩ : ∃ T, Hid (tiV F mk (G.getD k []) = T) := ⟨_, Lib.hid rfl⟩
   have HVT : Hid (Vn F n T) := Lib.hid (by rw [← hT.out]; exact tiV_vn HFF.out HVK.out)
   have HTL : Hid (T.length = n) := Lib.hid HVT.out.len
   have HSN : Hid (enK F n G M (k + 1) = plV F (enK F n G M k) T) := Lib.hid (by show plV F _ (tiV F (M.getD k 0) _) = _; rw [hmk.out, hT.out])
   have HPN : Hid ((plV F (enK F n G M k) T).length = n) := Lib.hid (by rw [plV_len, HVE.out.len])
   have hfa : ∀ w', Below wr.heap.size wr w' → FldAt F b cap w' := fun w' hb => HFA3.out.below (HK35.out.trans (hb.mono HK35.out.size))
   have HTM : Hid (∀ w', Below wr.heap.size wr w' → Calls Try.prog 58 #[XV F b cap n, .int .i64 (mk : Nat), .slice a2 n c2'] w' (RPost T w')) := Lib.hid fun w' hb => by
    rw [← hT.out]
    exact times_c (hfa w' hb) (by omega) HVK.out HMQ.out (hn2'.below hb)
   have HPL : Hid (∀ w' g7, Below wr.heap.size wr w' → Row T g7 w' → Calls Try.prog 57 #[XV F b cap n, .slice (some ⟨g, 0, none⟩) n n, .slice (some ⟨g7, 0, none⟩) n n] w' (RPost (plV F (enK F n G M k) T) w')) := Lib.hid fun w' g7 hb hr => by
    refine plus_c (hfa w' hb) (by omega) HVE.out HVT.out ?_ ?_
    ·have h := (HROW.out.below hb).nn; rw [HVE.out.len] at h; exact h
    ·have h := hr.nn; rw [HTL.out] at h; exact h
   have hS8 : XB x F b cap n wr.drew ∧ wr.drew.cell? ⟨bm, om + k, none⟩ = some (.int .i64 (mk : Nat)) ∧ Hid (Below wr.heap.size wr wr.drew ∧ x < wr.heap.size ∧ bm < wr.heap.size) := ⟨HXB.out.below (HK35.out.trans (Below.refl _ _).drew) HXL.out, hcm, Lib.hid ⟨(Below.refl _ _).drew, Nat.lt_of_lt_of_le HXL.out HK35.out.size, hbm⟩⟩
   have hlti : (k : Int) < (m : Int) := by omega
   clear hn2' hcm hbm hfa c2
   go_wp2_with fail
   refine wp_region_held_drew (S := fun w' => XB x F b cap n w' ∧ w'.cell? ⟨bm, om + k, none⟩ = some (.int .i64 (mk : Nat)) ∧ Hid (Below wr.heap.size wr w' ∧ x < wr.heap.size ∧ bm < wr.heap.size)) (by kernel_rfl) (by with_reducible exact hS8) (fun hHeld => ?_)
   refine Rg.tk 0 ⟨some 42,.load 73 (.tmp 6),73,"code.go:84",#[],none⟩ ?_
   try simp only [Rg.gp]
   refine Rg.tk 1 ⟨some 43,.move (.tmp 8),39,"code.go:84",#[],none⟩ ?_
   try simp only [Rg.gp]
   refine Rg.tk 2 ⟨some 44,.load 73 (.tmp 6),73,"code.go:84",#[],none⟩ ?_
   try simp only [Rg.gp]
   refine Rg.tk 3 ⟨some 45,.move (.tmp 1),39,"code.go:84",#[],none⟩ ?_
   try simp only [Rg.gp]
   refine Rg.tk 4 ⟨some 46,.move (.tmp 9),3,"code.go:84",#[],none⟩ ?_
   try simp only [Rg.gp]
   refine Rg.tk 5 ⟨some 47,.indexAddr 39 (.tmp 45) (.tmp 46),0,"code.go:84",#[⟨3,.data⟩,⟨4,.data⟩],none⟩ ?_
   try simp only [Rg.gp]
   refine Rg.tk 6 ⟨some 48,.load 3 (.tmp 47),3,"code.go:84",#[⟨5,.data⟩],none⟩ ?_
   try simp only [Rg.gp]
   refine Rg.tk 7 ⟨some 49,.move (.tmp 10),39,"code.go:84",#[],none⟩ ?_
   try simp only [Rg.gp]
   refine Rg.rd1 8 ⟨some 50,.call ⟨.value (.func 58),#[.tmp 44,.tmp 48,.tmp 49],#[73,3,39]⟩,39,"code.go:84",#[⟨2,.data⟩,⟨6,.data⟩,⟨7,.data⟩],none⟩ fun K hK => ?_
   go_simp
   go_at_call 58
   with_reducible refine (HTM.out _ hHeld.2.2.out.1).mono ?_
   rintro e7 v7 ⟨g7, hg7, rfl, hr7, hb7⟩
   rw [HTL.out]
   have HR7 := Lib.hid hr7
   have HB7 : Hid (Below wr.heap.size wr v7) := Lib.hid (hHeld.2.2.out.1.trans (hb7.mono hHeld.2.2.out.1.size))
   refine hK.out _ _ ?_ (fun hHeld => ?_)
   ·(try dsimp only)
    exact ⟨hHeld.1.below hb7 (by have := hHeld.2.2.out; have := this.1.size; omega), (hb7.cell (p := ⟨bm, om + k, none⟩) (by have := hHeld.2.2.out; have := this.1.size; show bm < _; omega)).trans hHeld.2.1, Lib.hid ⟨hHeld.2.2.out.1.trans (hb7.mono hHeld.2.2.out.1.size), hHeld.2.2.out.2⟩⟩
   clear hK K
   try simp only [Rg.gp]
   refine Rg.rd1 9 ⟨some 51,.call ⟨.value (.func 57),#[.tmp 42,.tmp 43,.tmp 50],#[73,39,39]⟩,39,"code.go:84",#[⟨0,.data⟩,⟨1,.data⟩,⟨8,.data⟩,⟨8,.chain⟩],none⟩ fun K hK => ?_
   go_simp
   go_at_call 57
   with_reducible refine (HPL.out _ g7 HB7.out HR7.out).mono ?_
   rintro e8 v8 ⟨g8, hg8, rfl, hr8, hb8⟩
   rw [HPN.out]
   have HR8 := Lib.hid hr8
   have HB8 : Hid (Below wr.heap.size wr v8) := Lib.hid (HB7.out.trans (hb8.mono HB7.out.size))
   have HG8 : Hid (w4.heap.size ≤ g8) := Lib.hid (Nat.le_trans (Nat.le_trans HB45.out.size KB.out.size) (Nat.le_trans HB7.out.size hg8))
   refine hK.out _ _ ?_ (fun hHeld => ?_)
   ·(try dsimp only)
    exact ⟨hHeld.1.below hb8 (by have := hHeld.2.2.out; have := this.1.size; omega), (hb8.cell (p := ⟨bm, om + k, none⟩) (by have := hHeld.2.2.out; have := this.1.size; show bm < _; omega)).trans hHeld.2.1, Lib.hid ⟨hHeld.2.2.out.1.trans (hb8.mono hHeld.2.2.out.1.size), hHeld.2.2.out.2⟩⟩
   clear hK K
   try simp only [Rg.gp]
   refine Rg.tk 10 ⟨some 8,.assign (.tmp 51),39,"code.go:84",#[⟨9,.data⟩,⟨9,.chain⟩,⟨0,.phase⟩,⟨1,.phase⟩,⟨2,.phase⟩,⟨3,.phase⟩,⟨4,.phase⟩,⟨5,.phase⟩,⟨6,.phase⟩,⟨7,.phase⟩,⟨8,.phase⟩,⟨9,.phase⟩],none⟩ ?_
   try simp only [Rg.gp]
   refine wpAnyH_done (by kernel_rfl) ?_ _
   have HB9 : Hid (Below wz.heap.size wz v8) := Lib.hid (KB.out.trans (HB8.out.mono KB.out.size))
   have HR9 : Hid (Row (enK F n G M (k + 1)) g8 v8) := Lib.hid (by rw [HSN.out]; exact HR8.out)
   clear hHeld hS8 hr7 hr8 hg7 hg8 hb7 hb8
   go_wp2
   go_roundw
   case rel => exact ⟨k + 1, g8, by omega, rfl, by go_num, HG8, HR9, HB9⟩
   case measure => simp [intOf]; omega
  ·have hke : k = m := by omega
   have HRF : Hid (Row (enK F n G M m) g wr) := Lib.hid (by rw [← hke]; exact HROW.out)
   have hlti : ¬ (k : Int) < (m : Int) := by omega
   clear hke
   go_wp2
   refine bodyPost_ret (results_tmp2 rfl _ _ _) rfl ?_
   exact ⟨g, Nat.le_trans HW4.out HGG.out, rfl, HRF.out, HBF.out⟩

end Go.Proofs.Ytdafhhojiioifaa
