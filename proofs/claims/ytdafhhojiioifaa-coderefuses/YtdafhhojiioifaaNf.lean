/- timesX. -/
import Derived.Test.YtdafhhojiioifaaNd
import Derived.Test.YtdafhhojiioifaaEvTk
import Derived.Test.YtdafhhojiioifaaEvRm
namespace Go.Proofs.Ytdafhhojiioifaa
open Go.RowKit Go.Fl Go.Shelf
set_option maxRecDepth 100000
set_option linter.unusedVariables false
set_option linter.unusedSimpArgs false
set_option linter.unusedSectionVars false
/-- a - b c -/
abbrev subT (p a b c : Nat) : Nat := (a + b * (p - c)) % p
/-- the places beyond k done -/
def tXk (F : Gf) (V : Nat → Nat) (k : Nat) : Nat → Nat := fun j => bif (Nat.blt k j && Nat.blt j F.e) then subT F.p (V (j - 1)) (V (F.e - 1)) (F.mod.getD j 0) else V j
def tX (F : Gf) (V : Nat → Nat) : Nat → Nat := upd (tXk F V 0) 0 (subT F.p 0 (V (F.e - 1)) (F.mod.getD 0 0))
theorem tXk_top (F : Gf) (V : Nat → Nat) : tXk F V (F.e - 1) = V := by
 funext j
 unfold tXk
 cases h : (Nat.blt (F.e - 1) j && Nat.blt j F.e) with
 | false => rfl
 | true =>
  rw [Bool.and_eq_true] at h
  have h1 := Nat.le_of_ble_eq_true h.1
  have h2 := Nat.le_of_ble_eq_true h.2
  omega
theorem tXk_lo (F : Gf) (V : Nat → Nat) {k j : Nat} (h : j ≤ k) : tXk F V k j = V j := by
 unfold tXk
 cases h1 : Nat.blt k j with
 | false => rfl
 | true => have := Nat.le_of_ble_eq_true h1; omega
theorem blt_t {a b : Nat} (h : a < b) : Nat.blt a b = true := Nat.ble_eq_true_of_le h
theorem blt_f {a b : Nat} (h : b ≤ a) : Nat.blt a b = false := by
 cases h1 : Nat.blt a b with
 | false => rfl
 | true => have := Nat.le_of_ble_eq_true h1; omega
theorem tXk_step (F : Gf) (V : Nat → Nat) {k : Nat} (hk : k + 1 < F.e) : tXk F V k = upd (tXk F V (k + 1)) (k + 1) (subT F.p (V k) (V (F.e - 1)) (F.mod.getD (k + 1) 0)) := by
 funext j
 by_cases e : j = k + 1
 ·subst e
  rw [upd_at]
  unfold tXk
  rw [blt_t (Nat.lt_succ_self k), blt_t hk]; rfl
 ·rw [upd_ne _ _ e]
  unfold tXk
  by_cases h : j ≤ k
  ·rw [blt_f h, blt_f (show j ≤ k + 1 by omega)]
  ·rw [blt_t (show k < j by omega), blt_t (show k + 1 < j by omega)]
set_option maxHeartbeats 6400000 in
theorem timesX_c {F : Gf} {b cap : Nat} {V : Nat → Nat} (hV : ∀ i, V i < 64) {W : World} (hF : FldAt F b cap W) : Calls Try.prog 101 #[FV F b cap, AV V] W fun e w' => e = .returned (AV (tX F V)) ∧ Below W.heap.size W w' := by
 obtain ⟨h1, h2, h3, h4, h5, h6, h7⟩ := fd_small F hF.mem
 have hbl := hF.lt
 have hml := mod_len F hF.mem
 have HMD : Hid (∀ i, i < F.e → F.mod.getD i 0 ≤ F.p ∧ W.cell? ⟨b, i, none⟩ = some (.int .i64 (F.mod.getD i 0 : Nat))) := Lib.hid fun i hi => ⟨Nat.le_of_lt (h7 _ (by rw [List.getD_eq_getElem?_getD, List.getElem?_eq_getElem (show i < F.mod.length by omega)]; exact List.getElem_mem _)), hF.mod hi⟩
 obtain ⟨top, htop⟩ : ∃ t, V (F.e - 1) = t := ⟨_, rfl⟩
 have ht6 : top < 64 := by rw [← htop]; exact hV _
 have HSTEP : Hid (∀ k, k + 1 < F.e → tXk F V k = upd (tXk F V (k + 1)) (k + 1) (subT F.p (V k) top (F.mod.getD (k + 1) 0))) := Lib.hid fun k hk => by rw [← htop]; exact tXk_step F V hk
 have HTX : Hid (upd (tXk F V 0) 0 (subT F.p 0 top (F.mod.getD 0 0)) = tX F V) := Lib.hid (by unfold tX; rw [htop])
 have HTOP : Hid (V (F.e - 1) = top) := Lib.hid htop
 have HT0 : Hid (tXk F V (F.e - 1) = V) := Lib.hid (tXk_top F V)
 have HLO : Hid (∀ k j, j ≤ k → tXk F V k j = V j) := Lib.hid fun k j h => tXk_lo F V h
 obtain ⟨p, hp⟩ : ∃ p, F.p = p := ⟨_, rfl⟩
 obtain ⟨n, hn⟩ : ∃ n, F.e = n := ⟨_, rfl⟩
 obtain ⟨W0, hW0⟩ : ∃ W0, (((W.alloc (.cells #[.int .i64 p, .int .i64 n, .slice (some ⟨b, 0, none⟩) n cap] 53)).alloc (.cells #[.int .i64 (V 0 : Nat), .int .i64 (V 1 : Nat), .int .i64 (V 2 : Nat), .int .i64 (V 3 : Nat), .int .i64 (V 4 : Nat), .int .i64 (V 5 : Nat), .int .i64 (V 6 : Nat)] 114)).alloc (.cells #[.int .i64 0, .int .i64 0, .int .i64 0, .int .i64 0, .int .i64 0, .int .i64 0, .int .i64 0] 114)) = W0 := ⟨_, rfl⟩
 have HF0 : Hid (FB3 W.heap.size F b cap W0) := Lib.hid (by rw [← hW0, ← hp, ← hn]; exact (fb3_new W rfl).of ((Below.heap_alloc _ _ _ (by simp; omega)).trans (Below.heap_alloc _ _ _ (by simp))))
 have HC0 : Hid (C7 V (W.heap.size + 1) W0) := Lib.hid (by rw [← hW0]; exact (c7_put _ _ (by simp)).of (Below.heap_alloc _ _ _ (by simp)))
 have HR0 : Hid (C7 z7 (W.heap.size + 2) W0) := Lib.hid (by rw [← hW0]; exact c7_new _ _ (by simp))
 have HB0 : Hid (Below W.heap.size W W0) := Lib.hid (by rw [← hW0]; exact (((Below.refl _ _).alloc (Nat.le_refl _) _).alloc (by simp) _).alloc (by simp; omega) _)
 rw [hp] at h1 h2 HMD HSTEP HTX
 rw [hn] at h3 h4 HMD HSTEP HTOP HT0
 show Calls Try.prog 101 #[.agg #[.int .i64 F.p, .int .i64 F.e, .slice (some ⟨b, 0, none⟩) F.e cap], AV V] W fun e w' => e = .returned (AV (tX F V)) ∧ Below W.heap.size W w'
 rw [hp, hn]
 have HFM : Hid (∀ w, FB3 W.heap.size F b cap w → w.cell? ⟨W.heap.size, 0, none⟩ = some (.int .i64 (p : Nat)) ∧ w.cell? ⟨W.heap.size, 1, none⟩ = some (.int .i64 (n : Nat)) ∧ w.cell? ⟨W.heap.size, 2, none⟩ = some (.slice (some ⟨b, 0, none⟩) n cap)) := Lib.hid fun w h => by rw [← hp, ← hn]; exact h
 have HV := Lib.hid hV
 have HFA := Lib.hid hF
 clear hp hn htop hml h5 h6 h7 hF hV
 have hp0 : 0 < p := by omega
 have hp6 : p ≤ 64 := h2
 obtain ⟨nm, hnm⟩ : ∃ k, n - 1 = k := ⟨_, rfl⟩
 rw [hnm] at HTOP HT0
 have hnm1 : (n : Int) - 1 = (nm : Int) := by omega
 have hn7 : (nm : Int) < 7 := by omega
 have hnlt : nm + 1 = n := by omega
 have HNLT := Lib.hid hnlt
 clear hnlt hnm
 have hnn : nm < 7 := by omega
 have htc : W0.cell? ⟨W.heap.size + 1, nm, none⟩ = some (.int .i64 (top : Nat)) := by rw [← HTOP.out]; exact HC0.out.cell nm hnn
 obtain ⟨f0, f1, f2⟩ := HFM.out _ HF0.out
 go_enter Try.func101, Try.ntmps101
 go_wp2
 clear hW0 htc f0 f1 f2
 go_loopw [6] (fun i wr => ∃ k : Nat, k ≤ nm ∧ i = .int .i64 (k : Nat) ∧ Hid (C7 (tXk F V k) (W.heap.size + 1) wr) ∧ Hid (FB3 W.heap.size F b cap wr) ∧ Hid (C7 z7 (W.heap.size + 2) wr) ∧ Hid (Below W.heap.size W wr)) (fun i _ => (intOf i).toNat)
 case atStart => exact ⟨nm, Nat.le_refl _, rfl, by rw [HT0.out]; exact HC0, HF0, HR0, HB0⟩
 case round =>
  obtain ⟨k1, hk1, rfl, HC, HF, HR, HB⟩ := hrel
  have hnlt := HNLT.out
  have HCd : Hid (C7 (tXk F V k1) (W.heap.size + 1) wr.drew) := Lib.hid ⟨HC.out.cell, HC.out.fz⟩
  have HRd : Hid (C7 z7 (W.heap.size + 2) wr.drew) := Lib.hid ⟨HR.out.cell, HR.out.fz⟩
  have HFd : Hid (FB3 W.heap.size F b cap wr.drew) := Lib.hid HF.out
  have HBd : Hid (Below W.heap.size W wr.drew) := Lib.hid HB.out.drew
  obtain ⟨f0, f1, f2⟩ := HFM.out _ HFd.out
  cases k1 with
  | succ k =>
   have hpos : (0 : Int) < ((k + 1 : Nat) : Int) := by omega
   have hpos2 : (0 : Int) < (k : Int) + 1 := by omega
   have hk7 : k + 1 < 7 := by omega
   have hk7i : (k : Int) + 1 < 7 := by omega
   have hki : ((k + 1 : Nat) : Int) - 1 = (k : Int) := by omega
   have hki2 : (k : Int) + 1 - 1 = (k : Int) := by omega
   have hkn : (k : Int) + 1 < (n : Int) := by omega
   have hkn2 : k + 1 < n := by omega
   have hk10 : (0 : Int) ≤ (k : Int) + 1 := by omega
   have hk70 : k < 7 := by omega
   have hk71 : (k : Int) < 7 := by omega
   have hwk := w64 (n := k) (by omega)
   obtain ⟨x, hx⟩ : ∃ x, V k = x := ⟨_, rfl⟩
   obtain ⟨m, hm⟩ : ∃ m, F.mod.getD (k + 1) 0 = m := ⟨_, rfl⟩
   obtain ⟨o, ho⟩ : ∃ o, tXk F V (k + 1) (k + 1) = o := ⟨_, rfl⟩
   have hx6 : x < 64 := by rw [← hx]; exact HV.out k
   obtain ⟨hmp, hmc⟩ := HMD.out (k + 1) (by omega)
   rw [hm] at hmp hmc
   have hxc : wr.drew.cell? ⟨W.heap.size + 1, k, none⟩ = some (.int .i64 (x : Nat)) := by rw [HCd.out.cell k (by omega), HLO.out _ _ (by omega), hx]
   have HCO : Hid (wr.drew.cell? ⟨W.heap.size + 1, k + 1, none⟩ = some (.int .i64 (o : Nat))) := Lib.hid (by rw [HCd.out.cell (k + 1) hk7, ho])
   have hmc2 : wr.drew.cell? ⟨b, k + 1, none⟩ = some (.int .i64 (m : Nat)) := (HBd.out.cell (p := ⟨b, k + 1, none⟩) hbl).trans hmc
   obtain ⟨y, hy⟩ : ∃ y, (x + top * (p - m)) % p = y := ⟨_, rfl⟩
   have HU : Hid (tXk F V k = upd (tXk F V (k + 1)) (k + 1) y) := Lib.hid (by rw [HSTEP.out k (by omega), hx, hm, ← hy])
   have HST : Hid (Calls Try.prog 109 #[.int .i64 (p : Nat), .int .i64 (x : Nat), .int .i64 (top : Nat), .int .i64 (m : Nat)] wr.drew fun e w' => e = .returned (.int .i64 (y : Nat)) ∧ w' = wr.drew) := Lib.hid (by rw [← hy]; exact subTimes_c hp0 hp6 hx6 ht6 hmp)
   clear hy
   have hS0 := And.intro f0 (And.intro f2 (And.intro hxc hmc2))
   have hbn : b ≠ W.heap.size + 1 := by omega
   clear hx hm ho hmc f0 f1 f2 hxc hmc2
   go_wp2
   refine wp_region_held_drew (S := fun w' => w'.cell? ⟨W.heap.size, 0, none⟩ = some (.int .i64 (p : Nat)) ∧ w'.cell? ⟨W.heap.size, 2, none⟩ = some (.slice (some ⟨b, 0, none⟩) n cap) ∧ w'.cell? ⟨W.heap.size + 1, k, none⟩ = some (.int .i64 (x : Nat)) ∧ w'.cell? ⟨b, k + 1, none⟩ = some (.int .i64 (m : Nat))) (by kernel_rfl) (by with_reducible exact hS0) (fun hHeld => ?_)
   refine Rg.tk 0 ⟨some 19,.move (.tmp 6),3,"field.go:169",#[],none⟩ ?_
   try simp only [Rg.gp]
   refine Rg.tk 1 ⟨some 20,.fieldAddr 53 (.tmp 2) 0,0,"field.go:169",#[],none⟩ ?_
   try simp only [Rg.gp]
   refine Rg.tk 2 ⟨some 21,.load 3 (.tmp 20),3,"field.go:169",#[⟨1,.data⟩],none⟩ ?_
   try simp only [Rg.gp]
   refine Rg.tk 3 ⟨some 22,.move (.tmp 6),3,"field.go:169",#[],none⟩ ?_
   try simp only [Rg.gp]
   refine Rg.tk 4 ⟨some 23,.binOp BinOp.sub 3 (.tmp 22) (.const (Value.int IntKind.i64 1)) 3,3,"field.go:169",#[⟨3,.data⟩],none⟩ ?_
   try simp only [Rg.gp]
   refine Rg.tk 5 ⟨some 24,.indexAddr 114 (.tmp 3) (.tmp 23),0,"field.go:169",#[⟨4,.data⟩],none⟩ ?_
   try simp only [Rg.gp]
   refine Rg.tk 6 ⟨some 25,.load 3 (.tmp 24),3,"field.go:169",#[⟨5,.data⟩],none⟩ ?_
   try simp only [Rg.gp]
   refine Rg.tk 7 ⟨some 26,.move (.tmp 5),3,"field.go:169",#[],none⟩ ?_
   try simp only [Rg.gp]
   refine Rg.tk 8 ⟨some 27,.fieldAddr 53 (.tmp 2) 2,0,"field.go:169",#[],none⟩ ?_
   try simp only [Rg.gp]
   refine Rg.tk 9 ⟨some 28,.load 39 (.tmp 27),39,"field.go:169",#[⟨8,.data⟩],none⟩ ?_
   try simp only [Rg.gp]
   refine Rg.tk 10 ⟨some 29,.move (.tmp 6),3,"field.go:169",#[],none⟩ ?_
   try simp only [Rg.gp]
   refine Rg.tk 11 ⟨some 30,.indexAddr 39 (.tmp 28) (.tmp 29),0,"field.go:169",#[⟨9,.data⟩,⟨10,.data⟩],none⟩ ?_
   try simp only [Rg.gp]
   refine Rg.tk 12 ⟨some 31,.load 3 (.tmp 30),3,"field.go:169",#[⟨11,.data⟩],none⟩ ?_
   try simp only [Rg.gp]
   refine Rg.rd1 13 ⟨some 32,.call ⟨.value (.func 109),#[.tmp 21,.tmp 25,.tmp 26,.tmp 31],#[3,3,3,3]⟩,3,"field.go:169",#[⟨2,.data⟩,⟨6,.data⟩,⟨7,.data⟩,⟨12,.data⟩],none⟩ fun K hK => ?_
   go_simp
   go_at_call 109
   with_reducible refine (HST.out).mono ?_
   rintro z v1 ⟨rfl, rfl⟩
   have hcz : wr.drew.cell? ⟨W.heap.size + 1, k + 1, none⟩ = some (.int .i64 (o : Nat)) := HCO.out
   have hfz : wr.drew.frozen? ⟨W.heap.size + 1, k + 1, none⟩ = false := HCd.out.fz _
   refine hK.out _ _ ?_ (fun hHeld => ?_)
   ·(try dsimp only)
    exact hHeld
   clear hK K
   try simp only [Rg.gp]
   refine Rg.tk 14 ⟨some 33,.indexAddr 114 (.tmp 3) (.tmp 19),0,"field.go:169",#[⟨0,.data⟩,⟨0,.phase⟩,⟨1,.phase⟩,⟨2,.phase⟩,⟨3,.phase⟩,⟨4,.phase⟩,⟨5,.phase⟩,⟨6,.phase⟩,⟨7,.phase⟩,⟨8,.phase⟩,⟨9,.phase⟩,⟨10,.phase⟩,⟨11,.phase⟩,⟨12,.phase⟩,⟨13,.phase⟩],none⟩ ?_
   try simp only [Rg.gp]
   refine Rg.rd1 15 ⟨none,.store 3 (.tmp 33) (.tmp 32),0,"field.go:169",#[⟨14,.data⟩,⟨13,.data⟩,⟨13,.chain⟩,⟨0,.phase⟩,⟨1,.phase⟩,⟨2,.phase⟩,⟨3,.phase⟩,⟨4,.phase⟩,⟨5,.phase⟩,⟨6,.phase⟩,⟨7,.phase⟩,⟨8,.phase⟩,⟨9,.phase⟩,⟨10,.phase⟩,⟨11,.phase⟩,⟨12,.phase⟩,⟨13,.phase⟩],none⟩ fun K hK => ?_
   go_simp
   refine hK.out _ _ ?_ (fun hHeld => ?_)
   ·(try dsimp only)
    exact ⟨(World.cell?_setCell_other _ _ _ _ (by simp)).trans hHeld.1, (World.cell?_setCell_other _ _ _ _ (by simp)).trans hHeld.2.1, (World.cell?_setCell_other _ _ _ _ (by simp)).trans hHeld.2.2.1, (World.cell?_setCell_other _ _ _ _ (by simp; try omega)).trans hHeld.2.2.2⟩
   clear hK K
   try simp only [Rg.gp]
   refine wpAnyH_done (by kernel_rfl) ?_ _
   clear hHeld hS0
   have HC3 := Lib.hid (HCd.out.set hk7 y)
   have HF3 := Lib.hid (HFd.out.of (w' := wr.drew.setCell ⟨W.heap.size + 1, k + 1, none⟩ (.int .i64 (y : Nat))) (Below.heap_setCell _ _ _ _ (by show W.heap.size ≠ W.heap.size + 1; omega)))
   have HR3 := Lib.hid (HRd.out.of (w' := wr.drew.setCell ⟨W.heap.size + 1, k + 1, none⟩ (.int .i64 (y : Nat))) (Below.heap_setCell _ _ _ _ (by show W.heap.size + 2 ≠ W.heap.size + 1; omega)))
   have HB3 := Lib.hid (setCell_above (i := k + 1) (v := .int .i64 (y : Nat)) HBd.out (Nat.le_succ W.heap.size))
   go_wp2
   go_roundw
   case rel => exact ⟨k, by omega, by go_num, (by rw [HU.out]; exact HC3), HF3, HR3, HB3⟩
   case measure => (try simp [intOf]); (try omega)
  | zero =>
   have hn0 : 0 < n := by omega
   obtain ⟨m, hm⟩ : ∃ m, F.mod.getD 0 0 = m := ⟨_, rfl⟩
   obtain ⟨hmp, hmc⟩ := HMD.out 0 (by omega)
   rw [hm] at hmp hmc HTX
   obtain ⟨o, ho⟩ : ∃ o, tXk F V 0 0 = o := ⟨_, rfl⟩
   have HCO : Hid (wr.drew.cell? ⟨W.heap.size + 1, 0, none⟩ = some (.int .i64 (o : Nat))) := Lib.hid (by rw [HCd.out.cell 0 (by decide), ho])
   have hmc2 : wr.drew.cell? ⟨b, 0, none⟩ = some (.int .i64 (m : Nat)) := (HBd.out.cell (p := ⟨b, 0, none⟩) hbl).trans hmc
   have hS0 := And.intro f0 (And.intro f2 hmc2)
   obtain ⟨y, hy⟩ : ∃ y, (0 + top * (p - m)) % p = y := ⟨_, rfl⟩
   have HST : Hid (Calls Try.prog 109 #[.int .i64 (p : Nat), .int .i64 0, .int .i64 (top : Nat), .int .i64 (m : Nat)] wr.drew fun e w' => e = .returned (.int .i64 (y : Nat)) ∧ w' = wr.drew) := Lib.hid (by rw [← hy]; exact subTimes_c (a := 0) hp0 hp6 (by decide) ht6 hmp)
   have HTX2 : Hid (upd (tXk F V 0) 0 y = tX F V) := Lib.hid (by rw [← hy]; exact HTX.out)
   clear hy
   clear hm ho hmc f0 f1 f2 hmc2
   go_wp2
   refine wp_region_held_drew (S := fun w' => w'.cell? ⟨W.heap.size, 0, none⟩ = some (.int .i64 (p : Nat)) ∧ w'.cell? ⟨W.heap.size, 2, none⟩ = some (.slice (some ⟨b, 0, none⟩) n cap) ∧ w'.cell? ⟨b, 0, none⟩ = some (.int .i64 (m : Nat))) (by kernel_rfl) (by with_reducible exact hS0) (fun hHeld => ?_)
   refine Rg.tk 0 ⟨some 34,.fieldAddr 53 (.tmp 2) 0,0,"field.go:171",#[],none⟩ ?_
   try simp only [Rg.gp]
   refine Rg.tk 1 ⟨some 35,.load 3 (.tmp 34),3,"field.go:171",#[⟨0,.data⟩],none⟩ ?_
   try simp only [Rg.gp]
   refine Rg.tk 2 ⟨some 36,.move (.tmp 5),3,"field.go:171",#[],none⟩ ?_
   try simp only [Rg.gp]
   refine Rg.tk 3 ⟨some 37,.fieldAddr 53 (.tmp 2) 2,0,"field.go:171",#[],none⟩ ?_
   try simp only [Rg.gp]
   refine Rg.tk 4 ⟨some 38,.load 39 (.tmp 37),39,"field.go:171",#[⟨3,.data⟩],none⟩ ?_
   try simp only [Rg.gp]
   refine Rg.tk 5 ⟨some 39,.indexAddr 39 (.tmp 38) (.const (Value.int IntKind.i64 0)),0,"field.go:171",#[⟨4,.data⟩],none⟩ ?_
   try simp only [Rg.gp]
   refine Rg.tk 6 ⟨some 40,.load 3 (.tmp 39),3,"field.go:171",#[⟨5,.data⟩],none⟩ ?_
   try simp only [Rg.gp]
   refine Rg.rd1 7 ⟨some 41,.call ⟨.value (.func 109),#[.tmp 35,.const (Value.int IntKind.i64 0),.tmp 36,.tmp 40],#[3,3,3,3]⟩,3,"field.go:171",#[⟨1,.data⟩,⟨2,.data⟩,⟨6,.data⟩],none⟩ fun K hK => ?_
   go_simp
   go_at_call 109
   with_reducible refine (HST.out).mono ?_
   rintro z v1 ⟨rfl, rfl⟩
   have hcz : wr.drew.cell? ⟨W.heap.size + 1, 0, none⟩ = some (.int .i64 (o : Nat)) := HCO.out
   have hfz : wr.drew.frozen? ⟨W.heap.size + 1, 0, none⟩ = false := HCd.out.fz _
   refine hK.out _ _ ?_ (fun hHeld => ?_)
   ·(try dsimp only)
    exact hHeld
   clear hK K
   try simp only [Rg.gp]
   refine Rg.tk 8 ⟨some 42,.indexAddr 114 (.tmp 3) (.const (Value.int IntKind.i64 0)),0,"field.go:171",#[⟨0,.phase⟩,⟨1,.phase⟩,⟨2,.phase⟩,⟨3,.phase⟩,⟨4,.phase⟩,⟨5,.phase⟩,⟨6,.phase⟩,⟨7,.phase⟩],none⟩ ?_
   try simp only [Rg.gp]
   refine Rg.rd1 9 ⟨none,.store 3 (.tmp 42) (.tmp 41),0,"field.go:171",#[⟨8,.data⟩,⟨7,.data⟩,⟨7,.chain⟩,⟨0,.phase⟩,⟨1,.phase⟩,⟨2,.phase⟩,⟨3,.phase⟩,⟨4,.phase⟩,⟨5,.phase⟩,⟨6,.phase⟩,⟨7,.phase⟩],none⟩ fun K hK => ?_
   go_simp
   refine hK.out _ _ ?_ (fun hHeld => ?_)
   ·(try dsimp only)
    exact ⟨(World.cell?_setCell_other _ _ _ _ (by simp)).trans hHeld.1, (World.cell?_setCell_other _ _ _ _ (by simp)).trans hHeld.2.1, (World.cell?_setCell_other _ _ _ _ (by simp; try omega)).trans hHeld.2.2⟩
   clear hK K
   try simp only [Rg.gp]
   refine wpAnyH_done (by kernel_rfl) ?_ _
   clear hHeld hS0
   have HC3 := Lib.hid (HCd.out.set (i := 0) (by decide) y)
   have HR3 := Lib.hid (HRd.out.of (w' := wr.drew.setCell ⟨W.heap.size + 1, 0, none⟩ (.int .i64 (y : Nat))) (Below.heap_setCell _ _ _ _ (by show W.heap.size + 2 ≠ W.heap.size + 1; omega)))
   have HB3 := Lib.hid (setCell_above (i := 0) (v := .int .i64 (y : Nat)) HBd.out (Nat.le_succ W.heap.size))
   rw [HTX2.out] at HC3
   obtain ⟨A, hA⟩ : ∃ A, wr.drew.setCell ⟨W.heap.size + 1, 0, none⟩ (.int .i64 (y : Nat)) = A := ⟨_, rfl⟩
   rw [hA] at HC3 HR3 HB3
   have hA2 : (wr.setCell ⟨W.heap.size + 1, 0, none⟩ (.int .i64 (y : Nat))).drew = A := hA
   rw [hA2]
   clear hA hA2
   have c0 := HC3.out.cell 0 (by decide)
   have c1 := HC3.out.cell 1 (by decide)
   have c2 := HC3.out.cell 2 (by decide)
   have c3 := HC3.out.cell 3 (by decide)
   have c4 := HC3.out.cell 4 (by decide)
   have c5 := HC3.out.cell 5 (by decide)
   have c6 := HC3.out.cell 6 (by decide)
   have r0 := HR3.out.cell 0 (by decide)
   have r1 := HR3.out.cell 1 (by decide)
   have r2 := HR3.out.cell 2 (by decide)
   have r3 := HR3.out.cell 3 (by decide)
   have r4 := HR3.out.cell 4 (by decide)
   have r5 := HR3.out.cell 5 (by decide)
   have r6 := HR3.out.cell 6 (by decide)
   have u0 := HR3.out.fz 0
   have u1 := HR3.out.fz 1
   have u2 := HR3.out.fz 2
   have u3 := HR3.out.fz 3
   have u4 := HR3.out.fz 4
   have u5 := HR3.out.fz 5
   have u6 := HR3.out.fz 6
   go_wp2
   obtain ⟨T, hT⟩ : ∃ T, tX F V = T := ⟨_, rfl⟩
   have HC4 := HR3.out.put (tX F V)
   have d0 := HC4.cell 0 (by decide)
   have d1 := HC4.cell 1 (by decide)
   have d2 := HC4.cell 2 (by decide)
   have d3 := HC4.cell 3 (by decide)
   have d4 := HC4.cell 4 (by decide)
   have d5 := HC4.cell 5 (by decide)
   have d6 := HC4.cell 6 (by decide)
   exact bodyPost_ret (v := AV (tX F V)) (by simp [results, Try.results101, go_sem, d0, d1, d2, d3, d4, d5, d6]) rfl ⟨rfl, st7_below _ HB3.out (by omega)⟩
end Go.Proofs.Ytdafhhojiioifaa

/- addTimes. -/
namespace Go.Proofs.Ytdafhhojiioifaa
open Go.RowKit Go.Fl Go.Shelf
attribute [local go_sem] Oper.semAt_some
set_option maxRecDepth 100000
set_option linter.unusedVariables false
set_option linter.unusedSimpArgs false
set_option linter.unusedSectionVars false
/-- n times a digit added -/
abbrev addS (p n : Nat) (V : Nat → Nat) (x : Dg p) : Nat → Nat := upd V x.1.1 ((V x.1.1 + n * x.1.2) % p)
def addT {p : Nat} (hp : 0 < p) (n a b : Nat) : Nat := horF p ((dlD hp 7 0 b).foldl (addS p n) (expV hp a)) 7
theorem upd_lt {V : Nat → Nat} {m i d : Nat} (h : ∀ j, V j < m) (hd : d < m) : ∀ j, upd V i d j < m := fun j => by
 by_cases e : j = i
 ·subst e; rw [upd_at]; exact hd
 ·rw [upd_ne _ _ e]; exact h j
theorem fold_lt {p m : Nat} {g : (Nat → Nat) → Dg p → Nat → Nat} (hg : ∀ V x, (∀ j, V j < m) → ∀ j, g V x j < m) : ∀ (l : List (Dg p)) (V : Nat → Nat), (∀ j, V j < m) → ∀ j, l.foldl g V j < m
 | [], V, h => h
 | x :: l, V, h => fold_lt hg l (g V x) (hg V x h)
theorem expV_lt {p : Nat} (hp : 0 < p) (n : Nat) : ∀ j, expV hp n j < p := fold_lt (fun V x h => upd_lt h x.2.2) _ _ (fun _ => hp)
theorem addF_lt {p : Nat} (hp : 0 < p) (n : Nat) (l : List (Dg p)) (V : Nat → Nat) (h : ∀ j, V j < p) : ∀ j, l.foldl (addS p n) V j < p := fold_lt (fun V x h => upd_lt h (Nat.mod_lt _ hp)) _ _ h
set_option maxHeartbeats 6400000 in
theorem addTimes_c {F : Gf} {b cap x y n : Nat} {W : World} (hx : x ≤ 64) (hy : y ≤ 64) (hn : n ≤ 64) (hF : FldAt F b cap W) (hp0 : 0 < F.p) : Calls Try.prog 98 #[FV F b cap, .int .i64 (x : Nat), .int .i64 (y : Nat), .int .i64 (n : Nat)] W fun e w' => e = .returned (.int .i64 (addT hp0 n x y : Nat)) ∧ Below W.heap.size W w' := by
 obtain ⟨h1, hp6, h3, h4, h5, h6, h7⟩ := fd_small F hF.mem
 have HFA := Lib.hid hF
 have hq2 : 2 ≤ F.q := by
  rw [← h5]
  exact Nat.le_trans h1 (Nat.le_self_pow (by omega) _)
 have hqz : ((F.q : Int) == 0) = false := by simp; omega
 refine (callsIn_wide (n := 3)).1 ?_
 refine callsIn_of_wp_marks Try.func98 rfl trivial ?_ rfl
 simp only [Try.ntmps98, List.size_toArray, List.length_cons, List.length_nil, Nat.reduceAdd, Nat.reduceSub, Array.replicate_succ, Array.replicate_zero, List.push_toArray, List.append_toArray, List.nil_append, List.cons_append]
 obtain ⟨W0, hW0⟩ : ∃ W0, (W.alloc (.cells #[.int .i64 F.p, .int .i64 F.e, FM F b cap] 53)).alloc (.cells #[.int .i64 (n : Nat)] 3) = W0 := ⟨_, rfl⟩
 have HF0 : Hid (FB3 W.heap.size F b cap W0) := Lib.hid (by rw [← hW0]; exact (fb3_new W rfl).of (Below.heap_alloc _ _ _ (by simp)))
 have HN0 : Hid (Pb n (W.heap.size + 1) W0) := Lib.hid (by rw [← hW0]; exact World.cell?_alloc_at _ _ _ _ (by simp))
 have HB0 : Hid (Below W.heap.size W W0) := Lib.hid (by rw [← hW0]; exact ((Below.refl _ _).alloc (Nat.le_refl _) _).alloc (by simp) _)
 clear hF h1 h3 h4 h5 h6 h7 hq2
 obtain ⟨f0, f1, f2⟩ := HF0.out
 gi_wp2_with fail
 clear hW0
 refine ⟨trivial, ?_⟩
 refine CallsIn.mono (callsIn_wide.2 (size_c HFA.out.mem)) ?_
 rintro z w1 ⟨rfl, hb⟩
 have HF1 := Lib.hid (HF0.out.below hb)
 have HN1 : Hid (Pb n (W.heap.size + 1) w1) := Lib.hid ((hb.cell (World.block_lt_of_cell? _ _ HN0.out)).trans HN0.out)
 have HB1 := Lib.hid (HB0.out.trans (hb.mono HB0.out.size))
 clear hb HF0 HN0 HB0 f0 f1 f2
 obtain ⟨f0, f1, f2⟩ := HF1.out
 gi_wp2_with fail
 refine ⟨trivial, ?_⟩
 refine CallsIn.mono (callsIn_wide.2 (expand_c (n0 := x) hp0 hp6 (by omega))) ?_
 rintro z w2 ⟨rfl, hb⟩
 have HF2 := Lib.hid (HF1.out.below hb)
 have HN2 : Hid (Pb n (W.heap.size + 1) w2) := Lib.hid ((hb.cell (World.block_lt_of_cell? _ _ HN1.out)).trans HN1.out)
 have HB2 := Lib.hid (HB1.out.trans (hb.mono HB1.out.size))
 clear hb HF1 HN1 HB1 f0 f1 f2
 obtain ⟨V, hV⟩ : ∃ V, expV hp0 x = V := ⟨_, rfl⟩
 have HV : Hid (∀ j, V j < F.p) := Lib.hid (by rw [← hV]; exact expV_lt hp0 x)
 have HVE := Lib.hid hV
 rw [hV]
 clear hV
 obtain ⟨B, hB⟩ : ∃ B, w2.heap.size = B := ⟨_, rfl⟩
 obtain ⟨W3, hW3⟩ : ∃ W3, w2.alloc (.cells #[.int .i64 (V 0 : Nat), .int .i64 (V 1 : Nat), .int .i64 (V 2 : Nat), .int .i64 (V 3 : Nat), .int .i64 (V 4 : Nat), .int .i64 (V 5 : Nat), .int .i64 (V 6 : Nat)] 114) = W3 := ⟨_, rfl⟩
 have HC3 : Hid (C7 V B W3) := Lib.hid (by rw [← hW3]; exact c7_put _ _ hB)
 have hal : Below w2.heap.size w2 W3 := by rw [← hW3]; exact (Below.refl _ _).alloc (Nat.le_refl _) _
 have HF3 := Lib.hid (HF2.out.below hal)
 have HN3 : Hid (Pb n (W.heap.size + 1) W3) := Lib.hid ((hal.cell (World.block_lt_of_cell? _ _ HN2.out)).trans HN2.out)
 have HB3 := Lib.hid (HB2.out.trans (hal.mono HB2.out.size))
 have HBB : Hid (W.heap.size + 1 < B ∧ W3.heap.size = B + 1) := Lib.hid ⟨by rw [← hB]; exact World.block_lt_of_cell? _ _ HN2.out, by rw [← hW3, ← hB]; simp⟩
 clear hal HF2 HN2 HB2
 obtain ⟨f0, f1, f2⟩ := HF3.out
 gi_wp2_with fail
 clear hW3 hB
 refine ⟨trivial, ?_⟩
 refine CallsIn.mono (callsIn_wide.2 digits_c) ?_
 rintro z w4 ⟨rfl, hpb, hnb, hsz, hb⟩
 have HC4 := Lib.hid (HC3.out.below hb)
 have HF4 := Lib.hid (HF3.out.below hb)
 have HN4 : Hid (Pb n (W.heap.size + 1) w4) := Lib.hid ((hb.cell (World.block_lt_of_cell? _ _ HN3.out)).trans HN3.out)
 have HB4 := Lib.hid (HB3.out.trans (hb.mono HB3.out.size))
 obtain ⟨g, hg⟩ : ∃ g, W3.heap.size = g := ⟨_, rfl⟩
 rw [hg] at hpb hnb hsz
 have HG : Hid (g = B + 1) := Lib.hid (by rw [← hg]; exact HBB.out.2)
 clear hb HC3 HF3 HN3 HB3 f0 f1 f2
 gi_wp2_with fail
 try rw [hg]
 clear hg
 have HZ1 := Lib.hid hsz
 refine wpIn_rangeFunc_ownF (n := 3) rfl (by decide) (gf := 108) (lb := #[.pointer (some ⟨g + 1, 0, none⟩), .pointer (some ⟨g, 0, none⟩)]) rfl trivial (enters_of Try.func108 (by kernel_rfl) rfl)
  (dig_stops (n0 := y) 2 (by decide) hp0 hp6 (by omega) _ hpb hnb) (fun h k x => k (h x)) ?kb (Below.refl _ _) (fun _ => rfl)
  (fun pre W' => (C7 (pre.foldl (addS F.p n) V) B W' ∧ FB3 W.heap.size F b cap W' ∧ Pb n (W.heap.size + 1) W') ∧ Below W.heap.size W W')
  (fun _ _ _ => False)
  (OwnFrom.and (Own.from (fun s A B' row hs hg hr => ⟨hs.1.kept hg hr, hs.2.1.kept hg hr, cell_kept hs.2.2 hg hr⟩) _) (ownFrom_below (Nat.le_refl _) HB4.out.size))
  (fun _ _ _ _ _ hs _ _ => hs)
  ⟨⟨HC4.out, HF4.out, HN4.out⟩, HB4.out⟩ ?a1 ?assign ?body ?done ?stop
 case kb =>
  intro A l o o' hl ho h1 h2 hA
  exact (World.cell?_of_block (w := A) (a := ⟨g, 0, none⟩) (World.putObj_heap_other (by have h9 := HZ1.out; dsimp only; omega))).trans hA
 case assign =>
  intro l x A K hK
  gi_wp2
  exact hK
 case stop =>
  rintro D c pre A _ _ h _
  exact h.elim
 case done =>
  rintro D ys A hD rfl ⟨⟨hc, hf, hnn⟩, hbl⟩ hK
  obtain ⟨U, hU⟩ : ∃ U, (dlD hp0 7 0 y).foldl (addS F.p n) V = U := ⟨_, rfl⟩
  rw [hU] at hc
  have HU6 : Hid (∀ j, U j < 64) := Lib.hid fun j => by rw [← hU]; exact Nat.lt_of_lt_of_le (addF_lt hp0 n _ V HV.out j) hp6
  have HUE : Hid (addT hp0 n x y = horF F.p U 7) := Lib.hid (by unfold addT; rw [← hU, ← HVE.out])
  have c0 := hc.cell 0 (by decide)
  have c1 := hc.cell 1 (by decide)
  have c2 := hc.cell 2 (by decide)
  have c3 := hc.cell 3 (by decide)
  have c4 := hc.cell 4 (by decide)
  have c5 := hc.cell 5 (by decide)
  have c6 := hc.cell 6 (by decide)
  obtain ⟨f0, f1, f2⟩ := hf
  have HBL := Lib.hid hbl
  have HHD := Lib.hid hD
  have HK := Lib.hid hK
  clear hbl hc hU hpb hnb hsz hD hnn
  gi_wp2_with fail
  refine ⟨trivial, ?_⟩
  refine CallsIn.mono (callsIn_wide.2 (number_c (V := U) hp6 HU6.out)) ?_
  rintro z w5 ⟨rfl, hb⟩
  have hDl : D < A.heap.size := (Array.getElem?_eq_some_iff.1 HK.out).1
  have hK5 : w5.heap[D]? = some (.deferred (some [])) := (hb.block D hDl).trans HK.out
  have HB5 := Lib.hid (HBL.out.trans (hb.mono HBL.out.size))
  have HDD : Hid (W.heap.size ≤ D) := Lib.hid (by have := HHD.out; have := HB4.out.size; omega)
  clear hb hDl
  rw [← HUE.out]
  gi_wp2
  refine ⟨by simp, .inl ⟨_, _, rfl, run_takeDeferred hK5, ?_⟩⟩
  exact ⟨_, results_tmp rfl _ _ _, rfl, HB5.out.grown (grownBy_putObj' w5 D (.deferred none)) HB5.out.size (fun k e => by cases e; exact HDD.out)⟩
 case body =>
  rintro l pre x A ⟨⟨hc, hf, hnn⟩, hbl⟩ hlen
  have x7 : x.1.1 < 7 := x.2.1
  have x7i : (x.1.1 : Int) < 7 := by omega
  obtain ⟨U, hU⟩ : ∃ U, pre.foldl (addS F.p n) V = U := ⟨_, rfl⟩
  have hUn : U x.1.1 < F.p := by rw [← hU]; exact addF_lt hp0 n _ V HV.out _
  rw [hU] at hc
  have HC := Lib.hid hc
  have HF := Lib.hid hf
  have HN := Lib.hid hnn
  have HBL := Lib.hid hbl
  obtain ⟨i, hi⟩ : ∃ i, x.1.1 = i := ⟨_, rfl⟩
  obtain ⟨d, hd⟩ : ∃ d, x.1.2 = d := ⟨_, rfl⟩
  have hdp : d < F.p := by rw [← hd]; exact x.2.2
  rw [hi] at x7 x7i hUn
  obtain ⟨u, hu⟩ : ∃ u, U i = u := ⟨_, rfl⟩
  rw [hu] at hUn
  obtain ⟨m, hm⟩ : ∃ m, n * d = m := ⟨_, rfl⟩
  have hm2 : m ≤ 64 * 64 := by rw [← hm]; exact Nat.mul_le_mul hn (by omega)
  have hmi : (n : Int) * (d : Int) = (m : Int) := by rw [← hm]; exact (Int.natCast_mul _ _).symm
  obtain ⟨t, ht⟩ : ∃ t, u + m = t := ⟨_, rfl⟩
  have hti : (u : Int) + (m : Int) = (t : Int) := by omega
  have ht2 : t ≤ 5000 := by omega
  obtain ⟨r, hr⟩ : ∃ r, t % F.p = r := ⟨_, rfl⟩
  have hri : (t : Int) % (F.p : Int) = (r : Int) := by rw [← hr]; exact (Int.natCast_emod _ _).symm
  have hrt : (t : Int).tmod (F.p : Int) = (r : Int) := by rw [Int.tmod_eq_emod_of_nonneg (by omega)]; exact hri
  have hrp : r < F.p := by rw [← hr]; exact Nat.mod_lt _ hp0
  have hpz : ((F.p : Int) == 0) = false := by simp; omega
  have hpz2 : ¬ F.p = 0 := by omega
  have HS : Hid ((pre ++ [x]).foldl (addS F.p n) V = upd U i r) := Lib.hid (by
   rw [List.foldl_append, hU]
   show upd U x.1.1 ((U x.1.1 + n * x.1.2) % F.p) = _
   rw [hi, hd, hu, hm, ht, hr])
  have hci := hc.cell i x7
  rw [hu] at hci
  have hfi := hc.fz i
  obtain ⟨f0, f1, f2⟩ := hf
  have hwr := w64 (n := r) (Nat.lt_trans hrp (Nat.lt_of_le_of_lt hp6 (by decide)))
  have hwm := w64 (n := m) (Nat.lt_of_le_of_lt hm2 (by decide))
  have hwt := w64 (n := t) (Nat.lt_of_le_of_lt ht2 (by decide))
  rw [hi, hd]
  clear hc hbl hlen hU hu hm ht hr hm2 hi hd
  have HAd : Hid (C7 U B A.drew) := Lib.hid ⟨HC.out.cell, HC.out.fz⟩
  have hS0 : A.drew.cell? ⟨W.heap.size + 1, 0, none⟩ = some (.int .i64 (n : Nat)) ∧ A.drew.cell? ⟨W.heap.size, 0, none⟩ = some (.int .i64 (F.p : Nat)) := ⟨HN.out, f0⟩
  have hci2 : A.drew.cell? ⟨B, i, none⟩ = some (.int .i64 (u : Nat)) := hci
  have hfz : A.drew.frozen? ⟨B, i, none⟩ = false := hfi
  have HX7 := Lib.hid x7
  clear hci hfi f0 f1 f2 hnn
  refine wpIn_block ?_
  refine Go.Rg.in_region_held_drew (S := fun w' => w'.cell? ⟨W.heap.size + 1, 0, none⟩ = some (.int .i64 (n : Nat)) ∧ w'.cell? ⟨W.heap.size, 0, none⟩ = some (.int .i64 (F.p : Nat))) (by kernel_rfl) (by kernel_rfl) (fun hLO => hLO.elim fun _ h => h.elim fun _ h => h) (by with_reducible exact hS0) (fun hHeld => ?_)
  refine Rg.tk 0 ⟨some 25,.move (.tmp 10),3,"field.go:160",#[],none⟩ ?_
  try simp only [Rg.gp]
  refine Rg.tk 1 ⟨some 26,.move (.tmp 10),3,"field.go:160",#[],none⟩ ?_
  try simp only [Rg.gp]
  refine Rg.tk 2 ⟨some 27,.indexAddr 114 (.tmp 9) (.tmp 26),0,"field.go:160",#[⟨1,.data⟩],none⟩ ?_
  try simp only [Rg.gp]
  refine Rg.tk 4 ⟨some 29,.load 3 (.tmp 7),3,"field.go:160",#[],none⟩ ?_
  try simp only [Rg.gp]
  refine Rg.tk 5 ⟨some 30,.move (.tmp 11),3,"field.go:160",#[],none⟩ ?_
  try simp only [Rg.gp]
  refine Rg.tk 6 ⟨some 31,.binOp BinOp.mul 3 (.tmp 29) (.tmp 30) 3,3,"field.go:160",#[⟨4,.data⟩,⟨5,.data⟩],none⟩ ?_
  try simp only [Rg.gp]
  refine Rg.tk 8 ⟨some 33,.fieldAddr 53 (.tmp 4) 0,0,"field.go:160",#[],none⟩ ?_
  try simp only [Rg.gp]
  refine Rg.tk 9 ⟨some 34,.load 3 (.tmp 33),3,"field.go:160",#[⟨8,.data⟩],none⟩ ?_
  try simp only [Rg.gp]
  refine Rg.rd1 3 ⟨some 28,.load 3 (.tmp 27),3,"field.go:160",#[⟨2,.data⟩],none⟩ fun K hK => ?_
  go_simp
  refine hK.out _ _ ?_ (fun hHeld => ?_)
  ·(try dsimp only)
   exact hHeld
  clear hK K
  try simp only [Rg.gp]
  refine Rg.tk 7 ⟨some 32,.binOp BinOp.add 3 (.tmp 28) (.tmp 31) 3,3,"field.go:160",#[⟨3,.data⟩,⟨6,.data⟩],none⟩ ?_
  try simp only [Rg.gp]
  refine Rg.tk 10 ⟨some 35,.binOp BinOp.rem 3 (.tmp 32) (.tmp 34) 3,3,"field.go:160",#[⟨7,.data⟩,⟨9,.data⟩],none⟩ ?_
  try simp only [Rg.gp]
  refine Rg.tk 11 ⟨some 36,.indexAddr 114 (.tmp 9) (.tmp 25),0,"field.go:160",#[⟨0,.data⟩,⟨0,.phase⟩,⟨1,.phase⟩,⟨2,.phase⟩,⟨3,.phase⟩,⟨4,.phase⟩,⟨5,.phase⟩,⟨6,.phase⟩,⟨7,.phase⟩,⟨8,.phase⟩,⟨9,.phase⟩,⟨10,.phase⟩],none⟩ ?_
  try simp only [Rg.gp]
  refine Rg.rd1 12 ⟨none,.store 3 (.tmp 36) (.tmp 35),0,"field.go:160",#[⟨11,.data⟩,⟨10,.data⟩,⟨0,.phase⟩,⟨1,.phase⟩,⟨2,.phase⟩,⟨3,.phase⟩,⟨4,.phase⟩,⟨5,.phase⟩,⟨6,.phase⟩,⟨7,.phase⟩,⟨8,.phase⟩,⟨9,.phase⟩,⟨10,.phase⟩],none⟩ fun K hK => ?_
  go_simp
  refine hK.out _ _ ?_ (fun hHeld => ?_)
  ·(try dsimp only)
   exact ⟨(World.cell?_setCell_other _ _ _ _ (by have h := HBB.out.1; simp; try omega)).trans hHeld.1, (World.cell?_setCell_other _ _ _ _ (by have h := HBB.out.1; simp; try omega)).trans hHeld.2⟩
  clear hK K
  try simp only [Rg.gp]
  refine wpAnyH_done (by kernel_rfl) ?_ _
  clear hHeld hS0
  refine (show KeepsOthers _ _ ∧ _ ∧ _ from ⟨(KeepsOthers.setCell _ _ _).trans (KeepsOthers.drew _), fun hA => ?_, ⟨⟨?_, ?_, ?_⟩, ?_⟩⟩)
  ·have h := HG.out
   exact (World.cell?_of_block (w := A) (a := ⟨g, 0, none⟩) (Below.heap_setCell _ _ _ _ (by show g ≠ B; omega))).trans hA
  ·rw [HS.out]
   have h := HC.out.set HX7.out r
   exact ⟨h.cell, h.fz⟩
  ·have h := HBB.out.1
   exact HF.out.of (Below.heap_setCell _ _ _ _ (by show W.heap.size ≠ B; omega))
  ·have h := HBB.out.1
   exact (World.cell?_of_block (w := A) (a := ⟨W.heap.size + 1, 0, none⟩) (Below.heap_setCell _ _ _ _ (by show W.heap.size + 1 ≠ B; omega))).trans HN.out
  ·have h := HBB.out.1
   exact (setCell_above HBL.out (by omega)).drew

end Go.Proofs.Ytdafhhojiioifaa
