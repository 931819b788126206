/- Vector and Valid of the reference: what is one. -/
import Derived.Test.YteeofijcndgbfaaTp
namespace Go.Proofs.Yteeofijcndgbfaa
open Go.RowKit Go.Fl
set_option maxRecDepth 100000
set_option linter.unusedVariables false
set_option linter.unusedSimpArgs false
set_option linter.unusedSectionVars false
set_option maxHeartbeats 3200000 in
theorem vector_c {F : Gf} {b cap n ca : Nat} {V : List Nat} {aa : Option Addr} {W : World} (hA : FldAt F b cap W) (hn : n ≤ 1000) (mv : Vn F n V) (nv : NN V W (.slice aa n ca)) :
  Calls Try.prog 39 #[FV F b cap, .int .i64 (n : Nat), .slice aa n ca] W fun e w' => e = .returned (.bool true) ∧ Below W.heap.size W w' := by
 have HFF : Hid (Ok F) := Lib.hid (ok_mem hA.mem)
 obtain ⟨w1, hw1⟩ : ∃ w1, w1 = (W.alloc (.cells #[.int .i64 F.p, .int .i64 F.e, FM F b cap] 29)) := ⟨_, rfl⟩
 have HAL : Hid (Below W.heap.size W w1) := Lib.hid (by rw [hw1]; exact (Below.refl _ _).alloc (Nat.le_refl _) _)
 have HS1 : Hid (W.heap.size < w1.heap.size) := Lib.hid (by rw [hw1]; simp)
 have HFB : Hid (FBx W.heap.size F b cap w1) := Lib.hid (by rw [hw1]; exact FBx.new W F b cap)
 have HF1 := Lib.hid (hA.below HAL.out)
 have HMV := Lib.hid mv
 have HNV := Lib.hid (nv.below HAL.out)
 have HW1 := Lib.hid hw1
 clear hA mv nv hw1
 go_enter Try.func39, Try.ntmps39
 go_wp2
 rw [← HW1.out]
 clear HW1
 go_loopw [7] (fun i wr => ∃ k : Nat, k ≤ n ∧ i = .int .i64 k ∧ Hid (Below w1.heap.size w1 wr)) (fun i _ => n - (intOf i).toNat)
 case atStart => exact ⟨0, Nat.zero_le _, rfl, Below.refl _ _⟩
 case round =>
  obtain ⟨k, hk, rfl, KB⟩ := hrel
  by_cases hlt : k < n
  ·have hk5 : k < 1000 := by omega
   obtain ⟨xx, hxx⟩ : ∃ x, Hid (V.getD k 0 = x) := ⟨_, Lib.hid rfl⟩
   have HXQ : Hid (xx < F.q) := Lib.hid (by rw [← hxx.out]; exact HMV.out.el.get HFF.out k)
   have HQ : Hid (F.q ≤ 100) := Lib.hid (q100 HF1.out.mem)
   obtain ⟨b1, o1, rfl, hc1⟩ := (HNV.out.below KB.out).atm HMV.out.len hlt
   rw [hxx.out] at hc1
   have hfb := HFB.out.below KB.out HS1.out
   have hS0 : SU F b cap W.heap.size b1 (o1 + k) xx b1 (o1 + k) xx wr wr.drew :=
    ⟨hfb, hc1, hc1, Lib.hid ⟨(HF1.out.below KB.out).bx (Bx.refl (fun _ => False) wr).drew id, (Below.refl _ _).drew, Nat.lt_of_lt_of_le HS1.out KB.out.size, World.block_lt_of_cell? wr _ hc1, World.block_lt_of_cell? wr _ hc1⟩⟩
   have hq1 : (xx : Int) < (F.q : Int) := by have := HXQ.out; omega
   have hq2 : ¬ (F.q : Int) ≤ (xx : Int) := by omega
   have hx0 : ¬ (xx : Int) < 0 := by omega
   clear hc1 hfb
   go_wp2_with fail
   refine wp_region_held_drew (S := fun w' => SU F b cap W.heap.size b1 (o1 + k) xx b1 (o1 + k) xx wr w') (by kernel_rfl) (by with_reducible exact hS0) (fun hHeld => ?_)
   refine Rg.tk 0 ⟨some 17,.move (.tmp 2),27,"ref.go:54",#[],none⟩ ?_
   try simp only [Rg.gp]
   refine Rg.tk 1 ⟨some 18,.move (.tmp 7),3,"ref.go:54",#[],none⟩ ?_
   try simp only [Rg.gp]
   refine Rg.tk 2 ⟨some 19,.indexAddr 27 (.tmp 17) (.tmp 18),0,"ref.go:54",#[⟨0,.data⟩,⟨1,.data⟩],none⟩ ?_
   try simp only [Rg.gp]
   refine Rg.tk 3 ⟨some 20,.load 3 (.tmp 19),3,"ref.go:54",#[⟨2,.data⟩],none⟩ ?_
   try simp only [Rg.gp]
   refine Rg.tk 4 ⟨some 21,.binOp BinOp.lss 3 (.tmp 20) (.const (Value.int IntKind.i64 0)) 3,4,"ref.go:54",#[⟨3,.data⟩],none⟩ ?_
   try simp only [Rg.gp]
   refine Rg.tk 5 ⟨some 22,.move (.tmp 21),4,"ref.go:54",#[⟨4,.data⟩],none⟩ ?_
   try simp only [Rg.gp]
   refine Rg.tk 6 ⟨some 23,.move (.tmp 2),27,"ref.go:54",#[⟨5,.guard⟩],some (5, false)⟩ ?_
   try simp only [Rg.gp]
   refine Rg.tk 7 ⟨some 24,.move (.tmp 7),3,"ref.go:54",#[⟨5,.guard⟩],some (5, false)⟩ ?_
   try simp only [Rg.gp]
   refine Rg.tk 8 ⟨some 25,.indexAddr 27 (.tmp 23) (.tmp 24),0,"ref.go:54",#[⟨6,.data⟩,⟨7,.data⟩,⟨5,.guard⟩],some (5, false)⟩ ?_
   try simp only [Rg.gp]
   refine Rg.tk 9 ⟨some 26,.load 3 (.tmp 25),3,"ref.go:54",#[⟨8,.data⟩,⟨5,.guard⟩],some (5, false)⟩ ?_
   try simp only [Rg.gp]
   refine Rg.tk 10 ⟨some 27,.load 29 (.tmp 3),29,"ref.go:54",#[⟨5,.guard⟩],some (5, false)⟩ ?_
   try simp only [Rg.gp]
   refine Rg.rd1 11 ⟨some 28,.call ⟨.value (.func 42),#[.tmp 27],#[29]⟩,3,"ref.go:54",#[⟨10,.data⟩,⟨5,.chain⟩,⟨5,.guard⟩],some (5, false)⟩ fun K hK => ?_
   go_simp
   go_at_call 42
   with_reducible refine (rsize_c hHeld.2.2.2.out.1).mono ?_
   rintro z v1 ⟨rfl, hb3⟩
   refine hK.out _ _ ?_ (fun hHeld => ?_)
   ·(try dsimp only)
    exact SU.keep hHeld hb3
   clear hK K
   try simp only [Rg.gp]
   refine Rg.tk 12 ⟨some 29,.binOp BinOp.geq 3 (.tmp 26) (.tmp 28) 3,4,"ref.go:54",#[⟨9,.data⟩,⟨11,.data⟩,⟨5,.guard⟩],some (5, false)⟩ ?_
   try simp only [Rg.gp]
   refine Rg.tk 13 ⟨some 30,.pick (.tmp 22) (.const (Value.bool true)) (.tmp 29),4,"ref.go:54",#[⟨5,.data⟩,⟨12,.data⟩],none⟩ ?_
   try simp only [Rg.gp]
   refine wpAnyH_done (by kernel_rfl) ?_ _
   have HB5 := Lib.hid (KB.out.trans (hHeld.2.2.2.out.2.1.mono KB.out.size))
   clear hHeld hS0
   go_wp2
   go_roundw
   case rel => exact ⟨k + 1, by omega, by go_num, HB5⟩
   case measure => simp [intOf]; omega

  ·obtain rfl : k = n := by omega
   have hlt1 : ¬ (k : Int) < (k : Int) := by omega
   have HBF : Hid (Below W.heap.size W wr) := Lib.hid (HAL.out.trans (KB.out.mono HAL.out.size))
   go_wp2
   go_ret
   exact ⟨rfl, HBF.out⟩
set_option maxHeartbeats 3200000 in
theorem rvalidm_c {F : Gf} {b cap n m ca : Nat} {A : List (List Nat)} {aa : Option Addr} {W : World} (hF : F ∈ fds.take 10) (hA : FldAt F b cap W) (h1 : 1 ≤ n) (hn : n ≤ 24) (hm : m ≤ 64) (la : A.length = m) (ma : Mn F n A) (na : MM A W (.slice aa m ca)) :
  Calls Try.prog 35 #[FV F b cap, .int .i64 (n : Nat), .slice aa m ca] W fun e w' => e = .returned (.bool true) ∧ Below W.heap.size W w' := by
 obtain ⟨w1, hw1⟩ : ∃ w1, w1 = (W.alloc (.cells #[.int .i64 F.p, .int .i64 F.e, FM F b cap] 29)) := ⟨_, rfl⟩
 have HAL : Hid (Below W.heap.size W w1) := Lib.hid (by rw [hw1]; exact (Below.refl _ _).alloc (Nat.le_refl _) _)
 have HS1 : Hid (W.heap.size < w1.heap.size) := Lib.hid (by rw [hw1]; simp)
 have HFB : Hid (FBx W.heap.size F b cap w1) := Lib.hid (by rw [hw1]; exact FBx.new W F b cap)
 have HF1 := Lib.hid (hA.below HAL.out)
 have HBb : Hid (b < W.heap.size) := Lib.hid hA.lt
 have HMA := Lib.hid ma
 have HLA := Lib.hid la
 have HNA := Lib.hid (na.below HAL.out)
 have HW1 := Lib.hid hw1
 have HRV : Hid (Calls Try.prog 65 #[FV F b cap] w1 fun e w' => e = .returned (.bool true) ∧ Below w1.heap.size w1 w') := Lib.hid (rvalid_c hF HF1.out)
 obtain ⟨f0, f1, f2⟩ := HFB.out
 have hn1 : ¬ (n : Int) < 1 := by omega
 have hn24 : ¬ (24 : Int) < (n : Int) := by omega
 have hm64 : ¬ (64 : Int) < (m : Int) := by omega
 clear hA ma na hw1
 go_enter Try.func35, Try.ntmps35
 go_wp2_with fail
 rw [← HW1.out]
 clear HW1
 go_wp2_with fail
 with_reducible refine HRV.out.mono ?_
 rintro e w2 ⟨rfl, hb2⟩
 have HB2 := Lib.hid hb2
 clear hb2 HRV f0 f1 f2
 go_wp2
 go_loopw [7] (fun i wr => ∃ k : Nat, k ≤ m ∧ i = .int .i64 k ∧ Hid (Below w1.heap.size w1 wr)) (fun i _ => m - (intOf i).toNat)
 case atStart => exact ⟨0, Nat.zero_le _, rfl, HB2⟩
 case round =>
  obtain ⟨k, hk, rfl, KB⟩ := hrel
  by_cases hlt : k < m
  ·have hk5 : k < 1000 := by omega
   have hkA : k < A.length := by rw [HLA.out]; exact hlt
   obtain ⟨Y, hY⟩ : ∃ L, Hid (A.getD k [] = L) := ⟨_, Lib.hid rfl⟩
   have HVY : Hid (Vn F n Y) := Lib.hid (by rw [← hY.out]; exact mrow HMA.out hkA)
   obtain ⟨b1, o1, rfl, a1, c1, hc1, hny⟩ := MM.at (R := A) (by rw [HLA.out]; exact HNA.out.below KB.out) hkA
   rw [hY.out, HVY.out.len] at hc1 hny
   have HNY := Lib.hid hny
   have hfb := HFB.out.below KB.out HS1.out
   have hS0 : SZ F b cap W.heap.size b1 (o1 + k) b1 (o1 + k) (.slice a1 n c1) (.slice a1 n c1) wr.heap.size wr wr.drew :=
    ⟨hfb, hc1, hc1, Lib.hid ⟨(HF1.out.below KB.out).bx (Bx.refl (fun _ => False) wr).drew id, (Below.refl _ _).drew, Nat.le_refl _, Nat.lt_of_lt_of_le HS1.out KB.out.size, World.block_lt_of_cell? wr _ hc1, World.block_lt_of_cell? wr _ hc1, by have := HBb.out; have := HS1.out; have := KB.out.size; omega⟩⟩
   clear hfb hc1 hny hkA
   go_wp2_with fail
   refine wp_region_held_drew (S := fun w' => SZ F b cap W.heap.size b1 (o1 + k) b1 (o1 + k) (.slice a1 n c1) (.slice a1 n c1) wr.heap.size wr w') (by kernel_rfl) (by with_reducible exact hS0) (fun hHeld => ?_)
   refine Rg.tk 0 ⟨some 30,.load 29 (.tmp 3),29,"ref.go:67",#[],none⟩ ?_
   try simp only [Rg.gp]
   refine Rg.tk 1 ⟨some 31,.move (.tmp 1),3,"ref.go:67",#[],none⟩ ?_
   try simp only [Rg.gp]
   refine Rg.tk 2 ⟨some 32,.move (.tmp 2),30,"ref.go:67",#[],none⟩ ?_
   try simp only [Rg.gp]
   refine Rg.tk 3 ⟨some 33,.move (.tmp 7),3,"ref.go:67",#[],none⟩ ?_
   try simp only [Rg.gp]
   refine Rg.tk 4 ⟨some 34,.indexAddr 30 (.tmp 32) (.tmp 33),0,"ref.go:67",#[⟨2,.data⟩,⟨3,.data⟩],none⟩ ?_
   try simp only [Rg.gp]
   refine Rg.tk 5 ⟨some 35,.load 27 (.tmp 34),27,"ref.go:67",#[⟨4,.data⟩],none⟩ ?_
   try simp only [Rg.gp]
   refine Rg.rd1 6 ⟨some 36,.call ⟨.value (.func 39),#[.tmp 30,.tmp 31,.tmp 35],#[29,3,27]⟩,4,"ref.go:67",#[⟨0,.data⟩,⟨1,.data⟩,⟨5,.data⟩],none⟩ fun K hK => ?_
   go_simp
   go_at_call 39
   with_reducible refine (vector_c hHeld.2.2.2.out.1 (by omega) HVY.out (HNY.out.below hHeld.2.2.2.out.2.1)).mono ?_
   rintro z v1 ⟨rfl, hb3⟩
   refine hK.out _ _ ?_ (fun hHeld => ?_)
   ·(try dsimp only)
    exact SZ.keep hHeld hb3
   clear hK K
   try simp only [Rg.gp]
   refine Rg.tk 7 ⟨some 37,.unOp UnOp.not 4 (.tmp 36),4,"ref.go:67",#[⟨6,.data⟩],none⟩ ?_
   try simp only [Rg.gp]
   refine wpAnyH_done (by kernel_rfl) ?_ _
   have HB5 := Lib.hid (KB.out.trans (hHeld.2.2.2.out.2.1.mono KB.out.size))
   clear hHeld hS0
   go_wp2
   go_roundw
   case rel => exact ⟨k + 1, by omega, by go_num, HB5⟩
   case measure => simp [intOf]; omega

  ·obtain rfl : k = m := by omega
   have hlt1 : ¬ (k : Int) < (k : Int) := by omega
   have HBF : Hid (Below W.heap.size W wr) := Lib.hid (HAL.out.trans (KB.out.mono HAL.out.size))
   go_wp2
   go_ret
   exact ⟨rfl, HBF.out⟩
end Go.Proofs.Yteeofijcndgbfaa

/- Spans of lists of numbers: what Has, Kernel, Combine say. -/
namespace Go.Proofs.Yteeofijcndgbfaa
open Go.Fl
set_option linter.unusedVariables false
set_option linter.unusedSectionVars false
section
variable {F : Gf} (hF : Ok F)
include hF
theorem zV_iff {n : Nat} {f : Cf} : zV (toV n f) = true ↔ ∀ j, j < n → f j = 0 := by
 unfold zV toV
 rw [List.all_eq_true]
 constructor
 ·intro h j hj
  have := h (f j) (List.mem_map.2 ⟨j, List.mem_range.2 hj, rfl⟩)
  simpa using this
 ·intro h x hx
  obtain ⟨j, hj, rfl⟩ := List.mem_map.1 hx
  simpa using h j (List.mem_range.1 hj)
theorem has_iff {n : Nat} {A : List (List Nat)} {V : List Nat} (hA : Mn F n A) (hV : Vn F n V) : hasV F n A V = true ↔ Sp F (A.map Go.Fl.fn) (Go.Fl.fn V) := by
 obtain ⟨hL, hs, -⟩ := redL_ok hF (hA.vs hF)
 have hv := hV.fn hF
 unfold hasV
 rw [zV_iff hF, ← hs]
 generalize redL F n (A.map Go.Fl.fn) = L at *
 have hR := hL.red
 constructor
 ·intro h
  have hz : clr F L (Go.Fl.fn V) = pz := funext fun j => by
   by_cases hj : j < n
   ·exact h j hj
   ·exact clr_hi hF hL hv hV.hi j (by omega)
  have h1 : Sp F (Go.Fl.fn V :: L.map Prod.snd) (Go.Fl.fn V) := Sp.mem hF (Els.cons hv hR.el) (by simp)
  have h2 := (clr_sp hF hL hv _).2 h1
  rw [hz] at h2
  exact (Sp.cons_z hF hR.el _).1 h2
 ·intro h j hj
  have e1 : Els F (clr F L (Go.Fl.fn V) :: L.map Prod.snd) := Els.cons (clr_el hF _ _) hR.el
  have h1 := (clr_sp hF hL hv _).1 (Sp.mem hF e1 (r := clr F L (Go.Fl.fn V)) (by simp))
  have h2 : Sp F (L.map Prod.snd) (clr F L (Go.Fl.fn V)) := Sp.le hF hR.el (fun r hr => by
   rcases List.mem_cons.1 hr with rfl | hr
   ·exact h
   ·exact Sp.mem hF hR.el hr) h1
  have h3 := hR.sum hF h2
  rw [h3, cb_congr hF (c := fun i => clr F L (Go.Fl.fn V) ((L.map Prod.fst).getD i 0)) (d := pz) fun i hi => ?_, cb_z hF]; · rfl
  have hi' : i < L.length := by simpa using hi
  rw [map_fst_getD hi']
  exact clr_at hF hL hv _ (List.getElem_mem hi')
theorem ker_iff {n : Nat} {A : List (List Nat)} {V : List Nat} (hA : Mn F n A) (hV : Vn F n V) : Sp F ((kerM F n A).map Go.Fl.fn) (Go.Fl.fn V) ↔ ∀ r ∈ A, dt F n (Go.Fl.fn r) (Go.Fl.fn V) = 0 := by
 obtain ⟨hL, hs, -⟩ := redL_ok hF (hA.vs hF)
 have hv := hV.fn hF
 rw [(kerM_ok hF hA).2, (kerL_ok hF hL).2.1]
 have eA := (hA.vs hF).els
 constructor
 ·rintro ⟨-, -, h⟩ r hr
  have h1 := (hs _).2 (Sp.mem hF eA (List.mem_map.2 ⟨r, hr, rfl⟩ : Go.Fl.fn r ∈ A.map Go.Fl.fn))
  exact dt_sp hF hv hL.red.el (fun x hx => by obtain ⟨a, ha, rfl⟩ := List.mem_map.1 hx; exact h a ha) h1
 ·intro h
  refine ⟨hv, hV.hi, fun a ha => ?_⟩
  have h1 := (hs _).1 (Sp.mem hF hL.red.el (List.mem_map.2 ⟨a, ha, rfl⟩ : a.2 ∈ (redL F n (A.map Go.Fl.fn)).map Prod.snd))
  exact dt_sp hF hv eA (fun x hx => by obtain ⟨r, hr, rfl⟩ := List.mem_map.1 hx; exact h r hr) h1
theorem apM_zero {n m : Nat} {A : List (List Nat)} {V : List Nat} (hm : A.length = m) : apM F n A V = List.replicate m 0 ↔ ∀ r ∈ A, dt F n (Go.Fl.fn r) (Go.Fl.fn V) = 0 := by
 subst hm
 unfold apM
 rw [List.eq_replicate_iff]
 constructor
 ·intro h r hr; exact h.2 _ (List.mem_map.2 ⟨r, hr, rfl⟩)
 ·intro h; exact ⟨by simp, fun x hx => by obtain ⟨r, hr, rfl⟩ := List.mem_map.1 hx; exact h r hr⟩
theorem coK_sp {n : Nat} {A : List (List Nat)} {C : List Nat} (hA : Mn F n A) (hC : In F C) : ∀ k, k ≤ A.length → Sp F (A.map Go.Fl.fn) (Go.Fl.fn (coK F n A C k))
 | 0, _ => by
  have : Go.Fl.fn (coK F n A C 0) = pz := funext fun j => by
   show (List.replicate n 0).getD j 0 = 0
   rw [List.getD_eq_getElem?_getD, List.getElem?_replicate]; split <;> rfl
  rw [this]; exact Sp.zero hF _
 | k + 1, hk => by
  have hr := mrow hA (k := k) (by omega)
  show Sp F _ (Go.Fl.fn (moV F (coK F n A C k) (C.getD k 0) (A.getD k [])))
  rw [moV_fn hF (coK_vn hF k) hr]
  have eA := (hA.vs hF).els
  refine Sp.add hF eA (coK_sp hA hC k (by omega)) (Sp.smul hF eA (hC.get hF k) (Sp.mem hF eA (List.mem_map.2 ⟨_, ?_, rfl⟩)))
  rw [List.getD_eq_getElem?_getD, List.getElem?_eq_getElem (by omega)]; exact List.getElem_mem _
theorem rank_null {n : Nat} {A : List (List Nat)} (hA : Mn F n A) : (kerM F n A).length + (redM F n A).length = n := by
 obtain ⟨hL, -, -⟩ := redL_ok hF (hA.vs hF)
 have := (kerL_ok hF hL).2.2
 unfold kerM redM
 rw [List.length_map, List.length_map]; exact this
theorem kerM_red {n : Nat} {A : List (List Nat)} (hA : Mn F n A) : Red F n ((kerL F n (redL F n (A.map Go.Fl.fn))).map Prod.fst) ((kerM F n A).map Go.Fl.fn) := by
 obtain ⟨hL, -, -⟩ := redL_ok hF (hA.vs hF)
 rw [(kerM_ok hF hA).2]; exact (kerL_ok hF hL).1.red
theorem redM_red {n : Nat} {A : List (List Nat)} (hA : Mn F n A) : Red F n (pivM F n A) ((redM F n A).map Go.Fl.fn) := by
 obtain ⟨-, hL, e⟩ := redM_ok hF hA
 rw [e]; exact hL.red
theorem redL_self {n : Nat} {L : List (Nat × Cf)} (h : RedL F n L) : redL F n (L.map Prod.snd) = L := by
 obtain ⟨h1, h2, -⟩ := redL_ok hF (RedL.vs hF h)
 exact RedL.ext hF h1 h h2
theorem kerM_kerM {n : Nat} {A : List (List Nat)} (hA : Mn F n A) : kerM F n (kerM F n A) = redM F n A := by
 obtain ⟨hL, -, -⟩ := redL_ok hF (hA.vs hF)
 have e := (kerM_ok hF hA).2
 unfold redM
 rw [show kerM F n (kerM F n A) = (kerL F n (redL F n ((kerM F n A).map Go.Fl.fn))).map fun a => toV n a.2 from rfl, e, redL_self hF (kerL_ok hF hL).1, kerL_kerL hF hL]
end
end Go.Proofs.Yteeofijcndgbfaa
