/- The reference: multiples, sums, products, the field of a code, equality. -/
import Derived.Test.YtdafhhojiioifaaCt
import Derived.Test.YtdafhhojiioifaaNy
namespace Go.Proofs.Ytdafhhojiioifaa
open Go.RowKit Go.Fl
set_option maxRecDepth 100000
set_option linter.unusedVariables false
set_option linter.unusedSimpArgs false
set_option linter.unusedSectionVars false

open Go.RowKit
/-- what a round of the reference's sums reads -/
abbrev SU (F : Gf) (b cap g : Nat) (W0 : World) (bv ok vv : Nat) (w : World) : Prop := FB3 g F b cap w ∧ FldAt F b cap w ∧ w.cell? ⟨bv, ok, none⟩ = some (.int .i64 (vv : Nat)) ∧ Hid (Below W0.heap.size W0 w ∧ g < W0.heap.size ∧ b < W0.heap.size ∧ bv < W0.heap.size)
theorem SU.go {F : Gf} {b cap g : Nat} {W0 : World} {bv ok vv : Nat} {w w' : World} (h : SU F b cap g W0 bv ok vv w) (hb : Below W0.heap.size w w') : SU F b cap g W0 bv ok vv w' := by
 obtain ⟨h1, h2, h3, h4⟩ := h
 have h5 := h4.out
 exact ⟨h1.of (hb.block g h5.2.1), h2.of (hb.block b h5.2.2.1), (hb.cell (p := ⟨bv, ok, none⟩) h5.2.2.2).trans h3, Lib.hid ⟨h5.1.trans hb, h5.2⟩⟩
/-- a row of its own is answered; its room is not said -/
def TPost (L : List Nat) (n : Nat) (W : World) (e : Ending) (w' : World) : Prop := ∃ a c, e = .returned (.slice a n c) ∧ w'.ownsRow W.heap.size 3 1 (.slice a n c) n (L.map N64) ∧ Below W.heap.size W w'
theorem take_snoc {Z : List Nat} {k z : Nat} (hk : k < Z.length) (hz : Z.getD k 0 = z) : Z.take (k + 1) = Z.take k ++ [z] := by
 rw [List.take_succ_eq_append_getElem hk]
 rw [List.getD_eq_getElem?_getD, List.getElem?_eq_getElem hk] at hz
 rw [show Z[k] = z from hz]
theorem tiV_get {F : Gf} {c : Nat} {V : List Nat} {k : Nat} (hk : k < V.length) : (tiV F c V).getD k 0 = F.mul c (V.getD k 0) := by unfold tiV; rw [range_get' _ hk]
theorem plV_get {F : Gf} {V X : List Nat} {k : Nat} (hk : k < V.length) : (plV F V X).getD k 0 = F.add (V.getD k 0) (X.getD k 0) := by unfold plV; rw [range_get' _ hk]
set_option maxHeartbeats 3200000 in
theorem rtimes_c {F : Gf} {b cap n cv y : Nat} {V : List Nat} {av : Option Addr} {W : World} (hA : FldAt F b cap W) (hn : n ≤ 1000) (hy : y < F.q) (mv : Vn F n V) (nv : NN V W (.slice av n cv)) :
  Calls Try.prog 40 #[FV F b cap, .int .i64 (y : Nat), .slice av n cv] W (TPost (tiV F y V) n W) := by
 obtain ⟨i0, hi, hz0, hz1, hz2⟩ := info_parts info3
 have HFF : Hid (Ok F) := Lib.hid (ok_mem hA.mem)
 obtain ⟨W0, hW0⟩ : ∃ W0, W.alloc (.cells #[.int .i64 F.p, .int .i64 F.e, FM F b cap] 53) = W0 := ⟨_, rfl⟩
 have HF0 : Hid (FB3 W.heap.size F b cap W0) := Lib.hid (by rw [← hW0]; exact fb3_new W rfl)
 have HB0 : Hid (Below W.heap.size W W0) := Lib.hid (by rw [← hW0]; exact (Below.refl _ _).alloc (Nat.le_refl _) _)
 have HW0 := Lib.hid hW0
 have HMV := Lib.hid mv
 have HY := Lib.hid hy
 have HNV := Lib.hid (nv.below HB0.out)
 obtain ⟨Z, hZZ⟩ : ∃ z, Hid (tiV F y V = z) := ⟨_, Lib.hid rfl⟩
 rw [hZZ.out]
 have HZL : Hid (Z.length = n) := Lib.hid (by rw [← hZZ.out, tiV_len, mv.len])
 have HA0 := Lib.hid (hA.below HB0.out)
 have HLT : Hid (W.heap.size < W0.heap.size) := Lib.hid HF0.out.lt
 obtain ⟨W1, hW1⟩ : ∃ w, w = W0.alloc (.cells #[] 3) := ⟨_, rfl⟩
 have HAL : Hid (Below W0.heap.size W0 W1) := Lib.hid (by rw [hW1]; exact (Below.refl _ _).alloc (Nat.le_refl _) _)
 have HO0 : Hid (W1.ownsRow W0.heap.size 3 1 (.slice (some ⟨W.heap.size + 1, 0, none⟩) 0 0) 0 []) := Lib.hid (by
  have hs : W0.heap.size = W.heap.size + 1 := by rw [← hW0]; simp
  have h := own_empty W0 W0.heap.size (Nat.le_refl _)
  rw [hs] at h
  rw [hW1, hs]; exact h)
 have HW1 := Lib.hid hW1
 clear hW0 hW1 hA mv nv hy
 go_enter Try.func40, Try.ntmps40
 go_wp2_with fail
 rw [HW0.out]
 go_wp2
 rw [← HW1.out]
 go_loopw [7, 8] (fun s i wr => ∃ (k : Nat) (a : Option Addr) (c : Nat), k ≤ n ∧ s = .slice a k c ∧ i = .int .i64 (k : Nat) ∧ Hid (wr.ownsRow W0.heap.size 3 1 (.slice a k c) k ((Z.take k).map N64)) ∧ Hid (Below W0.heap.size W0 wr)) (fun _ i _ => n - (intOf i).toNat)
 case atStart => exact ⟨0, some ⟨W.heap.size + 1, 0, none⟩, 0, Nat.zero_le _, rfl, rfl, HO0, HAL⟩
 case round =>
  obtain ⟨k, a, c, hk, rfl, rfl, HO, KB⟩ := hrel
  by_cases hlt : k < n
  ·have hfa := HA0.out.of (KB.out.block b HA0.out.lt)
   have hfb := HF0.out.of (KB.out.block _ HLT.out)
   obtain ⟨bv, ov, hav, hbv, hcv⟩ := HNV.out.at' hlt
   subst hav
   obtain ⟨vv, hvv⟩ : ∃ x, Hid (V.getD k 0 = x) := ⟨_, Lib.hid rfl⟩
   have HV : Hid (vv < F.q) := Lib.hid (by rw [← hvv.out]; exact HMV.out.el.get HFF.out k)
   rw [hvv.out] at hcv
   have hSV : SU F b cap W.heap.size W0 bv (ov + k) vv wr.drew := ⟨hfb.of rfl, hfa.of rfl, (KB.out.cell (p := ⟨bv, ov + k, none⟩) hbv).trans hcv, Lib.hid ⟨KB.out.trans (Below.refl _ _).drew, HLT.out, FldAt.lt HA0.out, hbv⟩⟩
   clear hcv hbv
   have hS5 := hSV
   clear hSV
   obtain ⟨zz, hzz⟩ : ∃ z, Hid (F.mul y vv = z) := ⟨_, Lib.hid rfl⟩
   have HZT : Hid (Z.take (k + 1) = Z.take k ++ [zz]) := Lib.hid (take_snoc (by rw [HZL.out]; exact hlt) (by rw [← hZZ.out, tiV_get (by rw [HMV.out.len]; exact hlt), hvv.out, hzz.out]))
   have HML : Hid (∀ w', Below W0.heap.size W0 w' → Calls Try.prog 72 #[FV F b cap, .int .i64 (y : Nat), .int .i64 (vv : Nat)] w' fun e w'' => e = .returned (.int .i64 (zz : Nat)) ∧ Below w'.heap.size w' w'') := Lib.hid fun w' hb' => by rw [← hzz.out]; exact rmul_c HY.out HV.out (HA0.out.of (hb'.block b HA0.out.lt))
   clear hfa hfb
   go_wp2_with fail
   refine wp_region_held_drew (S := fun w' => SU F b cap W.heap.size W0 bv (ov + k) vv w') (by kernel_rfl) (by with_reducible exact hS5) (fun hHeld => ?_)
   refine Rg.tk 0 ⟨some 16,.move (.tmp 7),39,"ref.go:41",#[],none⟩ ?_
   try simp only [Rg.gp]
   refine Rg.tk 1 ⟨some 17,.load 53 (.tmp 3),53,"ref.go:41",#[],none⟩ ?_
   try simp only [Rg.gp]
   refine Rg.tk 2 ⟨some 18,.move (.tmp 1),3,"ref.go:41",#[],none⟩ ?_
   try simp only [Rg.gp]
   refine Rg.tk 3 ⟨some 19,.move (.tmp 2),39,"ref.go:41",#[],none⟩ ?_
   try simp only [Rg.gp]
   refine Rg.tk 4 ⟨some 20,.move (.tmp 8),3,"ref.go:41",#[],none⟩ ?_
   try simp only [Rg.gp]
   refine Rg.tk 5 ⟨some 21,.indexAddr 39 (.tmp 19) (.tmp 20),0,"ref.go:41",#[⟨3,.data⟩,⟨4,.data⟩],none⟩ ?_
   try simp only [Rg.gp]
   refine Rg.tk 6 ⟨some 22,.load 3 (.tmp 21),3,"ref.go:41",#[⟨5,.data⟩],none⟩ ?_
   try simp only [Rg.gp]
   refine Rg.rd1 7 ⟨some 23,.call ⟨.value (.func 72),#[.tmp 17,.tmp 18,.tmp 22],#[53,3,3]⟩,3,"ref.go:41",#[⟨1,.data⟩,⟨2,.data⟩,⟨6,.data⟩],none⟩ fun K hK => ?_
   go_simp
   go_at_call 72
   with_reducible refine (HML.out _ hHeld.2.2.2.out.1).mono ?_
   rintro e7 v7 ⟨rfl, hb7⟩
   have HB7 : Hid (Below W0.heap.size W0 v7) := Lib.hid (hHeld.2.2.2.out.1.trans (hb7.mono hHeld.2.2.2.out.1.size))
   have HS7 : Hid (W0.heap.size ≤ v7.heap.size) := Lib.hid HB7.out.size
   have HO7 : Hid (v7.ownsRow W0.heap.size 3 1 (.slice a k c) k ((Z.take k).map N64)) := Lib.hid (own_belowK (w := wr.drew) HO.out hb7)
   refine hK.out _ _ ?_ (fun hHeld => ?_)
   ·(try dsimp only)
    exact SU.go hHeld (hb7.mono hHeld.2.2.2.out.1.size)
   clear hK K
   try simp only [Rg.gp]
   refine Rg.rd1 8 ⟨some 24,.buildSlice 39 1 #[(0, .tmp 23)],39,"ref.go:41",#[⟨7,.data⟩],none⟩ fun K hK => ?_
   go_simp
   refine hK.out _ _ ?_ (fun hHeld => ?_)
   ·(try dsimp only)
    exact SU.go hHeld ((Below.refl _ _).alloc HS7.out _)
   clear hK K
   try simp only [Rg.gp]
   refine Rg.rd1 9 ⟨some 25,.call ⟨.builtin Builtin.append,#[.tmp 16,.tmp 24],#[39,39]⟩,39,"ref.go:41",#[⟨0,.data⟩,⟨8,.data⟩,⟨7,.chain⟩],none⟩ fun K hK => ?_
   refine step_append_own rfl _ _ 39 rfl W0.heap.size 3 i0 (.int .i64 0) 1 8 Try.underlying39 hi hz0 hz1 hz2 rfl (by decide) _ _ _ rfl (HO7.out.alloc _) ⟨v7.heap.size, 0, none⟩ 1 1 [.int .i64 (zz : Nat)] rfl rfl (cell_one_new _ _ _) (fun u hu => by simp at hu; subst hu; rfl) ?c3 ?c4 ?c5 ?_
   case c3 => unfold maxLen; omega
   case c4 => omega
   case c5 => have := HS7.out; simp; omega
   intro v' v9 hown' hgrow'
   have HB9 : Hid (Below W0.heap.size W0 v9) := Lib.hid ((HB7.out.trans ((Below.refl _ _).alloc HS7.out _)).grown hgrow' (by have := HS7.out; simp; omega) (fun k hk => (HO7.out.lt k hk).1))
   refine hK.out _ _ ?_ (fun hHeld => ?_)
   ·(try dsimp only)
    exact SU.go hHeld (below_row hgrow' (by have := HS7.out; simp; omega) fun k hk => (HO7.out.lt k hk).1)
   clear hK K
   try simp only [Rg.gp]
   refine Rg.tk 10 ⟨some 7,.assign (.tmp 25),39,"ref.go:41",#[⟨9,.data⟩,⟨9,.chain⟩,⟨0,.phase⟩,⟨1,.phase⟩,⟨2,.phase⟩,⟨3,.phase⟩,⟨4,.phase⟩,⟨5,.phase⟩,⟨6,.phase⟩,⟨7,.phase⟩,⟨8,.phase⟩,⟨9,.phase⟩],none⟩ ?_
   try simp only [Rg.gp]
   refine wpAnyH_done (by kernel_rfl) ?_ _
   obtain ⟨a9, c9, hv9⟩ := own_slice hown'
   subst hv9
   have HO9 : Hid (v9.ownsRow W0.heap.size 3 1 (.slice a9 (k + 1) c9) (k + 1) ((Z.take (k + 1)).map N64)) := Lib.hid (by rw [HZT.out, List.map_append]; exact hown')
   clear hHeld hS5 hown' hgrow'
   go_wp2
   go_roundw
   case rel => exact ⟨k + 1, a9, c9, by omega, rfl, by go_num, HO9, HB9⟩
   case measure => simp [intOf]; omega
  ·obtain rfl : k = n := by omega
   have hlt1 : ¬ (k : Int) < (k : Int) := by omega
   have HBF := Lib.hid (HB0.out.trans (KB.out.mono HB0.out.size))
   have HOF : Hid (wr.ownsRow W.heap.size 3 1 (.slice a k c) k (Z.map N64)) := Lib.hid (by
    have h := own_weak HO.out (Nat.le_of_lt HLT.out)
    rwa [List.take_of_length_le (by rw [HZL.out]; exact Nat.le_refl _)] at h)
   go_wp2
   go_ret
   exact ⟨a, c, rfl, HOF.out, HBF.out⟩
set_option maxHeartbeats 3200000 in
theorem rplus_c {F : Gf} {b cap n cv cx : Nat} {V X : List Nat} {av ax : Option Addr} {W : World} (hA : FldAt F b cap W) (hn : n ≤ 1000) (mv : Vn F n V) (mx : Vn F n X) (nv : NN V W (.slice av n cv)) (nx : NN X W (.slice ax n cx)) :
  Calls Try.prog 41 #[FV F b cap, .slice av n cv, .slice ax n cx] W (TPost (plV F V X) n W) := by
 obtain ⟨i0, hi, hz0, hz1, hz2⟩ := info_parts info3
 have HFF : Hid (Ok F) := Lib.hid (ok_mem hA.mem)
 obtain ⟨W0, hW0⟩ : ∃ W0, W.alloc (.cells #[.int .i64 F.p, .int .i64 F.e, FM F b cap] 53) = W0 := ⟨_, rfl⟩
 have HF0 : Hid (FB3 W.heap.size F b cap W0) := Lib.hid (by rw [← hW0]; exact fb3_new W rfl)
 have HB0 : Hid (Below W.heap.size W W0) := Lib.hid (by rw [← hW0]; exact (Below.refl _ _).alloc (Nat.le_refl _) _)
 have HW0 := Lib.hid hW0
 have HMV := Lib.hid mv
 have HMX := Lib.hid mx
 have HNV := Lib.hid (nv.below HB0.out)
 have HNX := Lib.hid (nx.below HB0.out)
 obtain ⟨Z, hZZ⟩ : ∃ z, Hid (plV F V X = z) := ⟨_, Lib.hid rfl⟩
 rw [hZZ.out]
 have HZL : Hid (Z.length = n) := Lib.hid (by rw [← hZZ.out, plV_len, mv.len])
 have HA0 := Lib.hid (hA.below HB0.out)
 have HLT : Hid (W.heap.size < W0.heap.size) := Lib.hid HF0.out.lt
 obtain ⟨W1, hW1⟩ : ∃ w, w = W0.alloc (.cells #[] 3) := ⟨_, rfl⟩
 have HAL : Hid (Below W0.heap.size W0 W1) := Lib.hid (by rw [hW1]; exact (Below.refl _ _).alloc (Nat.le_refl _) _)
 have HO0 : Hid (W1.ownsRow W0.heap.size 3 1 (.slice (some ⟨W.heap.size + 1, 0, none⟩) 0 0) 0 []) := Lib.hid (by
  have hs : W0.heap.size = W.heap.size + 1 := by rw [← hW0]; simp
  have h := own_empty W0 W0.heap.size (Nat.le_refl _)
  rw [hs] at h
  rw [hW1, hs]; exact h)
 have HW1 := Lib.hid hW1
 clear hW0 hW1 hA mv mx nv nx
 go_enter Try.func41, Try.ntmps41
 go_wp2_with fail
 rw [HW0.out]
 go_wp2
 rw [← HW1.out]
 go_loopw [7, 8] (fun s i wr => ∃ (k : Nat) (a : Option Addr) (c : Nat), k ≤ n ∧ s = .slice a k c ∧ i = .int .i64 (k : Nat) ∧ Hid (wr.ownsRow W0.heap.size 3 1 (.slice a k c) k ((Z.take k).map N64)) ∧ Hid (Below W0.heap.size W0 wr)) (fun _ i _ => n - (intOf i).toNat)
 case atStart => exact ⟨0, some ⟨W.heap.size + 1, 0, none⟩, 0, Nat.zero_le _, rfl, rfl, HO0, HAL⟩
 case round =>
  obtain ⟨k, a, c, hk, rfl, rfl, HO, KB⟩ := hrel
  by_cases hlt : k < n
  ·have hfa := HA0.out.of (KB.out.block b HA0.out.lt)
   have hfb := HF0.out.of (KB.out.block _ HLT.out)
   obtain ⟨bv, ov, hav, hbv, hcv⟩ := HNV.out.at' hlt
   subst hav
   obtain ⟨vv, hvv⟩ : ∃ x, Hid (V.getD k 0 = x) := ⟨_, Lib.hid rfl⟩
   have HV : Hid (vv < F.q) := Lib.hid (by rw [← hvv.out]; exact HMV.out.el.get HFF.out k)
   rw [hvv.out] at hcv
   have hSV : SU F b cap W.heap.size W0 bv (ov + k) vv wr.drew := ⟨hfb.of rfl, hfa.of rfl, (KB.out.cell (p := ⟨bv, ov + k, none⟩) hbv).trans hcv, Lib.hid ⟨KB.out.trans (Below.refl _ _).drew, HLT.out, FldAt.lt HA0.out, hbv⟩⟩
   clear hcv hbv
   obtain ⟨bx, ox, hax, hbx, hcx⟩ := HNX.out.at' hlt
   subst hax
   obtain ⟨xx, hxx⟩ : ∃ x, Hid (X.getD k 0 = x) := ⟨_, Lib.hid rfl⟩
   have HX : Hid (xx < F.q) := Lib.hid (by rw [← hxx.out]; exact HMX.out.el.get HFF.out k)
   rw [hxx.out] at hcx
   have hSX : SU F b cap W.heap.size W0 bx (ox + k) xx wr.drew := ⟨hfb.of rfl, hfa.of rfl, (KB.out.cell (p := ⟨bx, ox + k, none⟩) hbx).trans hcx, Lib.hid ⟨KB.out.trans (Below.refl _ _).drew, HLT.out, FldAt.lt HA0.out, hbx⟩⟩
   clear hcx hbx
   have hS5 := And.intro hSV hSX
   clear hSV hSX
   obtain ⟨zz, hzz⟩ : ∃ z, Hid (F.add vv xx = z) := ⟨_, Lib.hid rfl⟩
   have HZT : Hid (Z.take (k + 1) = Z.take k ++ [zz]) := Lib.hid (take_snoc (by rw [HZL.out]; exact hlt) (by rw [← hZZ.out, plV_get (by rw [HMV.out.len]; exact hlt), hvv.out, hxx.out, hzz.out]))
   have HML : Hid (∀ w', Below W0.heap.size W0 w' → Calls Try.prog 73 #[FV F b cap, .int .i64 (vv : Nat), .int .i64 (xx : Nat)] w' fun e w'' => e = .returned (.int .i64 (zz : Nat)) ∧ Below w'.heap.size w' w'') := Lib.hid fun w' hb' => by rw [← hzz.out]; exact radd_c HV.out HX.out (HA0.out.of (hb'.block b HA0.out.lt))
   clear hfa hfb
   go_wp2_with fail
   refine wp_region_held_drew (S := fun w' => SU F b cap W.heap.size W0 bv (ov + k) vv w' ∧ SU F b cap W.heap.size W0 bx (ox + k) xx w') (by kernel_rfl) (by with_reducible exact hS5) (fun hHeld => ?_)
   refine Rg.tk 0 ⟨some 16,.move (.tmp 7),39,"ref.go:50",#[],none⟩ ?_
   try simp only [Rg.gp]
   refine Rg.tk 1 ⟨some 17,.load 53 (.tmp 3),53,"ref.go:50",#[],none⟩ ?_
   try simp only [Rg.gp]
   refine Rg.tk 2 ⟨some 18,.move (.tmp 1),39,"ref.go:50",#[],none⟩ ?_
   try simp only [Rg.gp]
   refine Rg.tk 3 ⟨some 19,.move (.tmp 8),3,"ref.go:50",#[],none⟩ ?_
   try simp only [Rg.gp]
   refine Rg.tk 4 ⟨some 20,.indexAddr 39 (.tmp 18) (.tmp 19),0,"ref.go:50",#[⟨2,.data⟩,⟨3,.data⟩],none⟩ ?_
   try simp only [Rg.gp]
   refine Rg.tk 5 ⟨some 21,.load 3 (.tmp 20),3,"ref.go:50",#[⟨4,.data⟩],none⟩ ?_
   try simp only [Rg.gp]
   refine Rg.tk 6 ⟨some 22,.move (.tmp 2),39,"ref.go:50",#[],none⟩ ?_
   try simp only [Rg.gp]
   refine Rg.tk 7 ⟨some 23,.move (.tmp 8),3,"ref.go:50",#[],none⟩ ?_
   try simp only [Rg.gp]
   refine Rg.tk 8 ⟨some 24,.indexAddr 39 (.tmp 22) (.tmp 23),0,"ref.go:50",#[⟨6,.data⟩,⟨7,.data⟩],none⟩ ?_
   try simp only [Rg.gp]
   refine Rg.tk 9 ⟨some 25,.load 3 (.tmp 24),3,"ref.go:50",#[⟨8,.data⟩],none⟩ ?_
   try simp only [Rg.gp]
   refine Rg.rd1 10 ⟨some 26,.call ⟨.value (.func 73),#[.tmp 17,.tmp 21,.tmp 25],#[53,3,3]⟩,3,"ref.go:50",#[⟨1,.data⟩,⟨5,.data⟩,⟨9,.data⟩],none⟩ fun K hK => ?_
   go_simp
   go_at_call 73
   with_reducible refine (HML.out _ hHeld.1.2.2.2.out.1).mono ?_
   rintro e7 v7 ⟨rfl, hb7⟩
   have HB7 : Hid (Below W0.heap.size W0 v7) := Lib.hid (hHeld.1.2.2.2.out.1.trans (hb7.mono hHeld.1.2.2.2.out.1.size))
   have HS7 : Hid (W0.heap.size ≤ v7.heap.size) := Lib.hid HB7.out.size
   have HO7 : Hid (v7.ownsRow W0.heap.size 3 1 (.slice a k c) k ((Z.take k).map N64)) := Lib.hid (own_belowK (w := wr.drew) HO.out hb7)
   refine hK.out _ _ ?_ (fun hHeld => ?_)
   ·(try dsimp only)
    exact ⟨SU.go hHeld.1 (hb7.mono hHeld.1.2.2.2.out.1.size), SU.go hHeld.2 (hb7.mono hHeld.1.2.2.2.out.1.size)⟩
   clear hK K
   try simp only [Rg.gp]
   refine Rg.rd1 11 ⟨some 27,.buildSlice 39 1 #[(0, .tmp 26)],39,"ref.go:50",#[⟨10,.data⟩],none⟩ fun K hK => ?_
   go_simp
   refine hK.out _ _ ?_ (fun hHeld => ?_)
   ·(try dsimp only)
    exact ⟨SU.go hHeld.1 ((Below.refl _ _).alloc HS7.out _), SU.go hHeld.2 ((Below.refl _ _).alloc HS7.out _)⟩
   clear hK K
   try simp only [Rg.gp]
   refine Rg.rd1 12 ⟨some 28,.call ⟨.builtin Builtin.append,#[.tmp 16,.tmp 27],#[39,39]⟩,39,"ref.go:50",#[⟨0,.data⟩,⟨11,.data⟩,⟨10,.chain⟩],none⟩ fun K hK => ?_
   refine step_append_own rfl _ _ 39 rfl W0.heap.size 3 i0 (.int .i64 0) 1 8 Try.underlying39 hi hz0 hz1 hz2 rfl (by decide) _ _ _ rfl (HO7.out.alloc _) ⟨v7.heap.size, 0, none⟩ 1 1 [.int .i64 (zz : Nat)] rfl rfl (cell_one_new _ _ _) (fun u hu => by simp at hu; subst hu; rfl) ?c3 ?c4 ?c5 ?_
   case c3 => unfold maxLen; omega
   case c4 => omega
   case c5 => have := HS7.out; simp; omega
   intro v' v9 hown' hgrow'
   have HB9 : Hid (Below W0.heap.size W0 v9) := Lib.hid ((HB7.out.trans ((Below.refl _ _).alloc HS7.out _)).grown hgrow' (by have := HS7.out; simp; omega) (fun k hk => (HO7.out.lt k hk).1))
   refine hK.out _ _ ?_ (fun hHeld => ?_)
   ·(try dsimp only)
    have hbr := below_row hgrow' (B := W0.heap.size) (by have := HS7.out; simp; omega) fun k hk => (HO7.out.lt k hk).1
    exact ⟨SU.go hHeld.1 hbr, SU.go hHeld.2 hbr⟩
   clear hK K
   try simp only [Rg.gp]
   refine Rg.tk 13 ⟨some 7,.assign (.tmp 28),39,"ref.go:50",#[⟨12,.data⟩,⟨12,.chain⟩,⟨0,.phase⟩,⟨1,.phase⟩,⟨2,.phase⟩,⟨3,.phase⟩,⟨4,.phase⟩,⟨5,.phase⟩,⟨6,.phase⟩,⟨7,.phase⟩,⟨8,.phase⟩,⟨9,.phase⟩,⟨10,.phase⟩,⟨11,.phase⟩,⟨12,.phase⟩],none⟩ ?_
   try simp only [Rg.gp]
   refine wpAnyH_done (by kernel_rfl) ?_ _
   obtain ⟨a9, c9, hv9⟩ := own_slice hown'
   subst hv9
   have HO9 : Hid (v9.ownsRow W0.heap.size 3 1 (.slice a9 (k + 1) c9) (k + 1) ((Z.take (k + 1)).map N64)) := Lib.hid (by rw [HZT.out, List.map_append]; exact hown')
   clear hHeld hS5 hown' hgrow'
   go_wp2
   go_roundw
   case rel => exact ⟨k + 1, a9, c9, by omega, rfl, by go_num, HO9, HB9⟩
   case measure => simp [intOf]; omega
  ·obtain rfl : k = n := by omega
   have hlt1 : ¬ (k : Int) < (k : Int) := by omega
   have HBF := Lib.hid (HB0.out.trans (KB.out.mono HB0.out.size))
   have HOF : Hid (wr.ownsRow W.heap.size 3 1 (.slice a k c) k (Z.map N64)) := Lib.hid (by
    have h := own_weak HO.out (Nat.le_of_lt HLT.out)
    rwa [List.take_of_length_le (by rw [HZL.out]; exact Nat.le_refl _)] at h)
   go_wp2
   go_ret
   exact ⟨a, c, rfl, HOF.out, HBF.out⟩
set_option maxHeartbeats 3200000 in
theorem rproduct_c {F : Gf} {b cap n cv cx : Nat} {V X : List Nat} {av ax : Option Addr} {W : World} (hA : FldAt F b cap W) (hn : n ≤ 1000) (mv : Vn F n V) (mx : Vn F n X) (nv : NN V W (.slice av n cv)) (nx : NN X W (.slice ax n cx)) :
  Calls Try.prog 42 #[FV F b cap, .slice av n cv, .slice ax n cx] W fun e w' => e = .returned (.int .i64 (dt F n (fn V) (fn X) : Nat)) ∧ Below W.heap.size W w' := by
 obtain ⟨i0, hi, hz0, hz1, hz2⟩ := info_parts info3
 have HFF : Hid (Ok F) := Lib.hid (ok_mem hA.mem)
 obtain ⟨W0, hW0⟩ : ∃ W0, W.alloc (.cells #[.int .i64 F.p, .int .i64 F.e, FM F b cap] 53) = W0 := ⟨_, rfl⟩
 have HF0 : Hid (FB3 W.heap.size F b cap W0) := Lib.hid (by rw [← hW0]; exact fb3_new W rfl)
 have HB0 : Hid (Below W.heap.size W W0) := Lib.hid (by rw [← hW0]; exact (Below.refl _ _).alloc (Nat.le_refl _) _)
 have HW0 := Lib.hid hW0
 have HMV := Lib.hid mv
 have HMX := Lib.hid mx
 have HNV := Lib.hid (nv.below HB0.out)
 have HNX := Lib.hid (nx.below HB0.out)
 have HA0 := Lib.hid (hA.below HB0.out)
 have HLT : Hid (W.heap.size < W0.heap.size) := Lib.hid HF0.out.lt
 rw [← dK_end]
 clear hW0 hA mv mx nv nx
 go_enter Try.func42, Try.ntmps42
 go_wp2_with fail
 rw [HW0.out]
 go_wp2
 go_loopw [7, 8] (fun s i wr => ∃ k : Nat, k ≤ n ∧ s = .int .i64 (dK F (fn V) (fn X) k : Nat) ∧ i = .int .i64 (k : Nat) ∧ Hid (Below W0.heap.size W0 wr)) (fun _ i _ => n - (intOf i).toNat)
 case atStart => exact ⟨0, Nat.zero_le _, rfl, rfl, Below.refl _ _⟩
 case round =>
  obtain ⟨k, hk, hs, rfl, KB⟩ := hrel
  obtain ⟨ss, HSS⟩ : ∃ x, Hid (dK F (fn V) (fn X) k = x) := ⟨_, Lib.hid rfl⟩
  rw [HSS.out] at hs
  subst hs
  by_cases hlt : k < n
  ·have hfa := HA0.out.of (KB.out.block b HA0.out.lt)
   have hfb := HF0.out.of (KB.out.block _ HLT.out)
   obtain ⟨bv, ov, hav, hbv, hcv⟩ := HNV.out.at' hlt
   subst hav
   obtain ⟨vv, hvv⟩ : ∃ x, Hid (V.getD k 0 = x) := ⟨_, Lib.hid rfl⟩
   have HV : Hid (vv < F.q) := Lib.hid (by rw [← hvv.out]; exact HMV.out.el.get HFF.out k)
   rw [hvv.out] at hcv
   have hSV : SU F b cap W.heap.size W0 bv (ov + k) vv wr.drew := ⟨hfb.of rfl, hfa.of rfl, (KB.out.cell (p := ⟨bv, ov + k, none⟩) hbv).trans hcv, Lib.hid ⟨KB.out.trans (Below.refl _ _).drew, HLT.out, FldAt.lt HA0.out, hbv⟩⟩
   clear hcv hbv
   obtain ⟨bx, ox, hax, hbx, hcx⟩ := HNX.out.at' hlt
   subst hax
   obtain ⟨xx, hxx⟩ : ∃ x, Hid (X.getD k 0 = x) := ⟨_, Lib.hid rfl⟩
   have HX : Hid (xx < F.q) := Lib.hid (by rw [← hxx.out]; exact HMX.out.el.get HFF.out k)
   rw [hxx.out] at hcx
   have hSX : SU F b cap W.heap.size W0 bx (ox + k) xx wr.drew := ⟨hfb.of rfl, hfa.of rfl, (KB.out.cell (p := ⟨bx, ox + k, none⟩) hbx).trans hcx, Lib.hid ⟨KB.out.trans (Below.refl _ _).drew, HLT.out, FldAt.lt HA0.out, hbx⟩⟩
   clear hcx hbx
   have hS5 := And.intro hSV hSX
   obtain ⟨zz, hzz⟩ : ∃ z, Hid (F.mul vv xx = z) := ⟨_, Lib.hid rfl⟩
   have HZQ : Hid (zz < F.q) := Lib.hid (by rw [← hzz.out]; exact HFF.out.mul_lt _ _)
   have HSQ : Hid (ss < F.q) := Lib.hid (by rw [← HSS.out]; exact dK_lt HFF.out _ _ _)
   have HML : Hid (∀ w', Below W0.heap.size W0 w' → Calls Try.prog 72 #[FV F b cap, .int .i64 (vv : Nat), .int .i64 (xx : Nat)] w' fun e w'' => e = .returned (.int .i64 (zz : Nat)) ∧ Below w'.heap.size w' w'') := Lib.hid fun w' hb' => by rw [← hzz.out]; exact rmul_c HV.out HX.out (HA0.out.of (hb'.block b HA0.out.lt))
   obtain ⟨sn, hsn⟩ : ∃ z, Hid (F.add ss zz = z) := ⟨_, Lib.hid rfl⟩
   have HAD : Hid (∀ w', Below W0.heap.size W0 w' → Calls Try.prog 73 #[FV F b cap, .int .i64 (ss : Nat), .int .i64 (zz : Nat)] w' fun e w'' => e = .returned (.int .i64 (sn : Nat)) ∧ Below w'.heap.size w' w'') := Lib.hid fun w' hb' => by rw [← hsn.out]; exact radd_c HSQ.out HZQ.out (HA0.out.of (hb'.block b HA0.out.lt))
   have HSN : Hid (dK F (fn V) (fn X) (k + 1) = sn) := Lib.hid (by rw [dK_succ HFF.out (HMV.out.fn HFF.out) (HMX.out.fn HFF.out) k, HSS.out, show fn V k = vv from hvv.out, show fn X k = xx from hxx.out, hzz.out, hsn.out])
   clear hfa hfb hSV hSX
   go_wp2_with fail
   refine wp_region_held_drew (S := fun w' => SU F b cap W.heap.size W0 bv (ov + k) vv w' ∧ SU F b cap W.heap.size W0 bx (ox + k) xx w') (by kernel_rfl) (by with_reducible exact hS5) (fun hHeld => ?_)
   refine Rg.tk 0 ⟨some 15,.load 53 (.tmp 3),53,"ref.go:59",#[],none⟩ ?_
   try simp only [Rg.gp]
   refine Rg.tk 1 ⟨some 16,.move (.tmp 7),3,"ref.go:59",#[],none⟩ ?_
   try simp only [Rg.gp]
   refine Rg.tk 2 ⟨some 17,.load 53 (.tmp 3),53,"ref.go:59",#[],none⟩ ?_
   try simp only [Rg.gp]
   refine Rg.tk 3 ⟨some 18,.move (.tmp 1),39,"ref.go:59",#[],none⟩ ?_
   try simp only [Rg.gp]
   refine Rg.tk 4 ⟨some 19,.move (.tmp 8),3,"ref.go:59",#[],none⟩ ?_
   try simp only [Rg.gp]
   refine Rg.tk 5 ⟨some 20,.indexAddr 39 (.tmp 18) (.tmp 19),0,"ref.go:59",#[⟨3,.data⟩,⟨4,.data⟩],none⟩ ?_
   try simp only [Rg.gp]
   refine Rg.tk 6 ⟨some 21,.load 3 (.tmp 20),3,"ref.go:59",#[⟨5,.data⟩],none⟩ ?_
   try simp only [Rg.gp]
   refine Rg.tk 7 ⟨some 22,.move (.tmp 2),39,"ref.go:59",#[],none⟩ ?_
   try simp only [Rg.gp]
   refine Rg.tk 8 ⟨some 23,.move (.tmp 8),3,"ref.go:59",#[],none⟩ ?_
   try simp only [Rg.gp]
   refine Rg.tk 9 ⟨some 24,.indexAddr 39 (.tmp 22) (.tmp 23),0,"ref.go:59",#[⟨7,.data⟩,⟨8,.data⟩],none⟩ ?_
   try simp only [Rg.gp]
   refine Rg.tk 10 ⟨some 25,.load 3 (.tmp 24),3,"ref.go:59",#[⟨9,.data⟩],none⟩ ?_
   try simp only [Rg.gp]
   refine Rg.rd1 11 ⟨some 26,.call ⟨.value (.func 72),#[.tmp 17,.tmp 21,.tmp 25],#[53,3,3]⟩,3,"ref.go:59",#[⟨2,.data⟩,⟨6,.data⟩,⟨10,.data⟩],none⟩ fun K hK => ?_
   go_simp
   go_at_call 72
   with_reducible refine (HML.out _ hHeld.1.2.2.2.out.1).mono ?_
   rintro e7 v7 ⟨rfl, hb7⟩
   refine hK.out _ _ ?_ (fun hHeld => ?_)
   ·(try dsimp only)
    exact ⟨SU.go hHeld.1 (hb7.mono hHeld.1.2.2.2.out.1.size), SU.go hHeld.2 (hb7.mono hHeld.1.2.2.2.out.1.size)⟩
   clear hK K
   try simp only [Rg.gp]
   refine Rg.rd1 12 ⟨some 27,.call ⟨.value (.func 73),#[.tmp 15,.tmp 16,.tmp 26],#[53,3,3]⟩,3,"ref.go:59",#[⟨0,.data⟩,⟨1,.data⟩,⟨11,.data⟩,⟨11,.chain⟩],none⟩ fun K hK => ?_
   go_simp
   go_at_call 73
   with_reducible refine (HAD.out _ hHeld.1.2.2.2.out.1).mono ?_
   rintro e8 v8 ⟨rfl, hb8⟩
   refine hK.out _ _ ?_ (fun hHeld => ?_)
   ·(try dsimp only)
    exact ⟨SU.go hHeld.1 (hb8.mono hHeld.1.2.2.2.out.1.size), SU.go hHeld.2 (hb8.mono hHeld.1.2.2.2.out.1.size)⟩
   clear hK K
   try simp only [Rg.gp]
   refine Rg.tk 13 ⟨some 7,.assign (.tmp 27),3,"ref.go:59",#[⟨12,.data⟩,⟨12,.chain⟩,⟨0,.phase⟩,⟨1,.phase⟩,⟨2,.phase⟩,⟨3,.phase⟩,⟨4,.phase⟩,⟨5,.phase⟩,⟨6,.phase⟩,⟨7,.phase⟩,⟨8,.phase⟩,⟨9,.phase⟩,⟨10,.phase⟩,⟨11,.phase⟩,⟨12,.phase⟩],none⟩ ?_
   try simp only [Rg.gp]
   refine wpAnyH_done (by kernel_rfl) ?_ _
   have HB8 : Hid (Below W0.heap.size W0 v8) := Lib.hid hHeld.1.2.2.2.out.1
   clear hHeld hS5 hb7 hb8
   go_wp2
   go_roundw
   case rel => exact ⟨k + 1, by omega, by rw [HSN.out], by go_num, HB8⟩
   case measure => simp [intOf]; omega
  ·obtain rfl : k = n := by omega
   have hlt1 : ¬ (k : Int) < (k : Int) := by omega
   have HBF := Lib.hid (HB0.out.trans (KB.out.mono HB0.out.size))
   go_wp2
   go_ret
   exact ⟨by rw [HSS.out]; rfl, HBF.out⟩
theorem rzero0_c {n : Nat} {W : World} (hn : n ≤ 10000) : Calls Try.prog 39 #[.int .i64 (n : Nat)] W (RPost (List.replicate n 0) W) := by
 obtain ⟨i0, hi, hz0, hz1, hz2⟩ := info_parts info3
 go_enter Try.func39, Try.ntmps39
 go_wp2_with (refine wpList_make_full _ rfl _ _ 39 rfl 0 3 i0 (.int .i64 0) 1 Try.underlying39 hi hz0 hz1 .i64 .i64 (n : Int) (n : Int) n rfl rfl rfl rfl (by rw [hz2]; omega) (by unfold maxLen; omega) (Nat.zero_le _) ?_)
 intro w2 hown hgrow
 have HR : Hid (Row (List.replicate n 0) W.heap.size w2) := Lib.hid (Row.of_own (n := n) (base := 0) (by
   have e := toList_madeCells_one (Value.int .i64 0) n
   rw [List.map_replicate, show N64 0 = Value.int .i64 0 from rfl, ← e]
   simpa using hown) (by simp))
 have HBF : Hid (Below W.heap.size W w2) := Lib.hid ((Below.refl _ _).grown hgrow (Nat.le_refl _) (fun k hk => by cases hk))
 clear hown hgrow
 go_wp2
 go_ret
 exact ⟨W.heap.size, Nat.le_refl _, by rw [List.length_replicate]; rfl, HR.out, HBF.out⟩
theorem rover_c {F : Gf} (hF : F ∈ fds) {W : World} : Calls Try.prog 38 #[.int .i64 (F.q : Nat)] W fun e w' => ∃ b cap, e = .returned (FV F b cap) ∧ FldAt F b cap w' ∧ Below W.heap.size W w' ∧ W.heap.size ≤ b := by
 obtain ⟨w1, hw1⟩ : ∃ W1, W.alloc (.cells #[.int .i64 0, .int .i64 0, .slice none 0 0] 53) = W1 := ⟨_, rfl⟩
 have HB1 : Hid (Below W.heap.size W w1) := Lib.hid (by rw [← hw1]; exact (Below.refl _ _).alloc (Nat.le_refl _) _)
 have HR1 : Hid (BC W.heap.size [.int .i64 0, .int .i64 0, .slice none 0 0] 53 w1) := Lib.hid (by rw [← hw1]; exact BC.new W [.int .i64 0, .int .i64 0, .slice none 0 0] 53 rfl)
 have HM : Hid (Calls Try.prog 71 #[.int .i64 (F.q : Nat)] w1 (FPost F w1)) := Lib.hid (rmake_c hF (mkOk hF))
 have HW1 := Lib.hid hw1
 have HFM := Lib.hid hF
 obtain ⟨q, hq⟩ : ∃ q, F.q = q := ⟨_, rfl⟩
 rw [hq] at HM ⊢
 clear hw1 hq hF
 go_enter Try.func38, Try.ntmps38
 go_wp2_with fail
 rw [HW1.out]
 go_wp2_with fail
 with_reducible refine HM.out.mono ?_
 rintro e w2 ⟨b, cap, rfl, hfa, hb2, hbl⟩
 obtain ⟨w3, hw3⟩ : ∃ w, w = w2.alloc (.cells #[.int .i64 F.p, .int .i64 F.e, FM F b cap] 53) := ⟨_, rfl⟩
 have HA3 : Hid (Below w2.heap.size w2 w3) := Lib.hid (by rw [hw3]; exact (Below.refl _ _).alloc (Nat.le_refl _) _)
 have HF3 : Hid (FB3 w2.heap.size F b cap w3) := Lib.hid (by rw [hw3]; exact fb3_new w2 rfl)
 have HB3 : Hid (Below w1.heap.size w1 w3) := Lib.hid (hb2.trans (HA3.out.mono hb2.size))
 have HFA := Lib.hid (hfa.below HA3.out)
 have HBL := Lib.hid hbl
 have HR3 := Lib.hid (HR1.out.below HB3.out)
 have HW3 := Lib.hid hw3
 have r0 := HR3.out.cell (i := 0) rfl
 have g0 := HR3.out.fz 0
 have r1 := HR3.out.cell (i := 1) rfl
 have g1 := HR3.out.fz 1
 have r2 := HR3.out.cell (i := 2) rfl
 have g2 := HR3.out.fz 2
 obtain ⟨c0, c1, c2⟩ := HF3.out
 rw [hw3] at r0 g0 r1 g1 r2 g2 c0 c1 c2
 have HFX : Hid (∀ w', w' = (((w3.setCell ⟨W.heap.size, 0, none⟩ (.int .i64 F.p)).setCell ⟨W.heap.size, 1, none⟩ (.int .i64 F.e)).setCell ⟨W.heap.size, 2, none⟩ (FM F b cap)) → w'.cell? ⟨W.heap.size, 0, none⟩ = some (.int .i64 F.p) ∧ w'.cell? ⟨W.heap.size, 1, none⟩ = some (.int .i64 F.e) ∧ w'.cell? ⟨W.heap.size, 2, none⟩ = some (FM F b cap) ∧ FldAt F b cap w' ∧ Below W.heap.size W w' ∧ W.heap.size ≤ b) := Lib.hid (by
  intro w' hw
  have hB := HR3.out.set3 (.int .i64 F.p) (.int .i64 F.e) (FM F b cap)
  have hX : Bx (fun k => k = W.heap.size) w3 (((w3.setCell ⟨W.heap.size, 0, none⟩ (.int .i64 F.p)).setCell ⟨W.heap.size, 1, none⟩ (.int .i64 F.e)).setCell ⟨W.heap.size, 2, none⟩ (FM F b cap)) := bx3 _ _ _
  rw [← hw] at hB hX
  have h1 := HR1.out.lt
  have h2 := HBL.out
  exact ⟨hB.cell rfl, hB.cell rfl, hB.cell rfl, HFA.out.bx hX (fun e => by omega), HB1.out.trans ((HB3.out.mono HB1.out.size).trans (hX.below (Nat.le_trans HB1.out.size HB3.out.size) fun k hk => by omega)), by omega⟩)
 rw [HW3.out] at HFX
 clear hw3 hfa hb2 hbl HM
 go_wp2
 obtain ⟨d0, d1, d2, hfa, hbz, hbl⟩ := HFX.out _ rfl
 exact bodyPost_ret (v := FV F b cap) (by simp [results, Try.results38, go_sem, d0, d1, d2]) rfl ⟨b, cap, rfl, hfa, hbz, hbl⟩
theorem same_c {q n m c d : Nat} {R : List (List Nat)} {a e : Option Addr} {W : World} (hm : R.length = m) (hm5 : m ≤ 10000) (hl : ∀ t, t < R.length → (R.getD t []).length ≤ 100000) (h1 : MM R W (.slice a m c)) (h2 : MM R W (.slice e m d)) :
  Calls Try.prog 14 #[DV q n (.slice a m c), DV q n (.slice e m d)] W fun e w' => e = .returned (.bool true) ∧ Below W.heap.size W w' := by
 obtain ⟨W0, hW0⟩ : ∃ w, w = (W.alloc (.cells #[.int .i64 (q : Nat), .int .i64 (n : Nat), .slice a m c] 32)).alloc (.cells #[.int .i64 (q : Nat), .int .i64 (n : Nat), .slice e m d] 32) := ⟨_, rfl⟩
 have HB0 : Hid (Below W.heap.size W W0) := Lib.hid (by rw [hW0]; exact ((Below.refl _ _).alloc (Nat.le_refl _) _).alloc (by simp) _)
 have HX : Hid (BC W.heap.size [.int .i64 (q : Nat), .int .i64 (n : Nat), .slice a m c] 32 W0) := Lib.hid (by rw [hW0]; exact (BC.new W [.int .i64 (q : Nat), .int .i64 (n : Nat), .slice a m c] 32 rfl).alloc _)
 have HY : Hid (BC (W.heap.size + 1) [.int .i64 (q : Nat), .int .i64 (n : Nat), .slice e m d] 32 W0) := Lib.hid (by rw [hW0]; exact BC.new _ [.int .i64 (q : Nat), .int .i64 (n : Nat), .slice e m d] 32 (by simp))
 have HC : Hid (Calls Try.prog 32 #[.slice a m c, .slice e m d] W0 fun e w' => e = .returned (.bool true) ∧ Below W0.heap.size W0 w') := Lib.hid (rrows_c hm hm5 hl (h1.below HB0.out) (h2.below HB0.out))
 have HW0 := Lib.hid hW0
 have r0 := HX.out.cell (i := 0) rfl
 have r1 := HX.out.cell (i := 1) rfl
 have r2 := HX.out.cell (i := 2) rfl
 have s0 := HY.out.cell (i := 0) rfl
 have s1 := HY.out.cell (i := 1) rfl
 have s2 := HY.out.cell (i := 2) rfl
 clear hW0 h1 h2 hm hl
 go_enter Try.func14, Try.ntmps14
 go_wp2_with fail
 rw [← HW0.out]
 go_wp2_with fail
 with_reducible refine HC.out.mono ?_
 rintro e w1 ⟨rfl, hb⟩
 have HBF : Hid (Below W.heap.size W w1) := Lib.hid (HB0.out.trans (hb.mono HB0.out.size))
 clear hb HC
 go_wp2
 go_ret
 exact ⟨rfl, HBF.out⟩

end Go.Proofs.Ytdafhhojiioifaa
