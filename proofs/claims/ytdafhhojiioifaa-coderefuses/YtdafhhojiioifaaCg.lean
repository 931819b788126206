/- The rows in reduced echelon form. -/
import Derived.Test.YtdafhhojiioifaaCe
import Derived.Test.YtdafhhojiioifaaNj
namespace Go.Proofs.Ytdafhhojiioifaa
open Go.RowKit Go.Fl
set_option maxRecDepth 100000
set_option linter.unusedVariables false
set_option linter.unusedSimpArgs false
set_option linter.unusedSectionVars false

/-- a function applied to the first j rows -/
def rowsJ (f : List Nat → List Nat) (D : List (List Nat)) (j : Nat) : List (List Nat) := (D.take j).map f ++ D.drop j
theorem rowsJ_zero (f : List Nat → List Nat) (D : List (List Nat)) : rowsJ f D 0 = D := rfl
theorem rowsJ_len (f : List Nat → List Nat) (D : List (List Nat)) (j : Nat) : (rowsJ f D j).length = D.length := by
 unfold rowsJ; rw [List.length_append, List.length_map, List.length_take, List.length_drop]; omega
theorem rowsJ_full (f : List Nat → List Nat) (D : List (List Nat)) : rowsJ f D D.length = D.map f := by unfold rowsJ; rw [List.take_length, List.drop_length, List.append_nil]
theorem rowsJ_at {f : List Nat → List Nat} {D : List (List Nat)} {j : Nat} (hj : j < D.length) : (rowsJ f D j).getD j [] = D.getD j [] := by
 unfold rowsJ
 have e : ((D.take j).map f).length = j := by rw [List.length_map, List.length_take]; omega
 rw [List.getD_eq_getElem?_getD, List.getElem?_append_right (by omega), e, List.getElem?_drop, List.getD_eq_getElem?_getD, Nat.sub_self, Nat.add_zero]
theorem rowsJ_set {f : List Nat → List Nat} {D : List (List Nat)} {j : Nat} (hj : j < D.length) : (rowsJ f D j).set j (f (D.getD j [])) = rowsJ f D (j + 1) := by
 unfold rowsJ
 have e : ((D.take j).map f).length = j := by rw [List.length_map, List.length_take]; omega
 rw [List.set_append_right _ _ (by omega), e, Nat.sub_self, List.take_succ_eq_append_getElem hj, List.map_append, List.append_assoc]
 congr 1
 rw [List.drop_eq_getElem_cons hj, List.getD_eq_getElem?_getD, List.getElem?_eq_getElem hj]; rfl
section
variable {F : Gf} (hF : Ok F)
include hF
theorem rdD_pv {n : Nat} {S : List (List Nat)} (hS : Mn F n S) {k : Nat} (hk : k ≤ S.length) {t : Nat} (ht : t < (rdD F n (S.take k)).length) : pvt (fn ((rdD F n (S.take k)).getD t [])) n < n := by
 obtain ⟨h1, h2⟩ := rdD_ok hF hS k hk
 have hT : Mn F n (S.take k) := fun r hr => hS r (List.mem_of_mem_take hr)
 have hL := (redL_ok hF (Mn.vs hF hT)).1
 rw [List.getD_eq_getElem?_getD, List.getElem?_eq_getElem ht]
 exact (hL.ro _ (h1.mem_iff.1 (List.mem_map.2 ⟨_, List.getElem_mem ht, rfl⟩))).bd
/-- the new row's pivot -/
theorem pv_mul {n p c : Nat} {X : List Nat} (hX : Vn F n X) (hc : c < F.q) (h0 : c ≠ 0) (hp : pvt (fn X) n = p) (hpn : p < n) : pvt (fn (tiV F c X)) n = p := by
 have hs := pvt_spec (fn X) n
 rw [hp] at hs
 rw [tiV_fn hF hX.len]
 refine pvt_uniq (by omega) (fun j hj => ?_) fun _ => ?_
 ·show F.mul c (fn X j) = 0
  rw [hs.2.1 j hj, Ok.mul_z]
 ·show F.mul c (fn X p) ≠ 0
  intro e
  have h1 := hs.2.2 hpn
  have := hF.mul_inv hc h0
  have h2 : F.mul (F.inv c) (F.mul c (fn X p)) = fn X p := by
   rw [← hF.mul_assoc, Ok.mul_comm (F.inv c), this, Ok.mul_comm, hF.mul_one (hX.fn hF p)]
  rw [e, Ok.mul_z] at h2
  exact h1 h2.symm
end
set_option maxHeartbeats 6400000 in
theorem reduced_c {F : Gf} {b cap n m cs : Nat} {S0 : List (List Nat)} {sa : Option Addr} {W : World} (hA : FldAt F b cap W) (hn : n ≤ 100) (hm : m ≤ 1000) (ms : Mn F n S0) (ls : S0.length = m) (ns : MM S0 W (.slice sa m cs)) :
  Calls Try.prog 51 #[XV F b cap n, .slice sa m cs] W (RL (redM F n S0) W) := by
 obtain ⟨j0, ji, jz0, jz1, jz2⟩ := info_parts info22
 have HFF : Hid (Ok F) := Lib.hid (ok_mem hA.mem)
 obtain ⟨W0, hW0, hB0, hS, hX⟩ := set_head (F := F) (b := b) (cap := cap) (n := n) (W := W)
 have HB0 := Lib.hid hB0
 have HS0 := Lib.hid hS
 have HXB := Lib.hid hX
 have HA0 := Lib.hid (hA.below hB0)
 have HNS := Lib.hid (ns.below hB0)
 have HMS := Lib.hid ms
 have HLS := Lib.hid ls
 have HW0 := Lib.hid hW0
 have hn : n ≤ 1000 := by omega
 obtain ⟨x0, x1, x2, x3⟩ := HXB.out
 clear hW0 hB0 hS hX hA ns ms ls
 go_enter Try.func51, Try.ntmps51
 go_wp2_with fail
 rw [HW0.out]
 go_wp2
 go_loopw [5, 17] (fun v i wr => ∃ k : Nat, k ≤ m ∧ i = .int .i64 k ∧ (∃ us a l c, v = .slice a l c ∧ l ≤ k ∧ Hid (l = (rdD F n (S0.take k)).length) ∧ Hid (OL (rdD F n (S0.take k)) us W0.heap.size wr (.slice a l c))) ∧ Hid (Below W0.heap.size W0 wr)) (fun _ i _ => m - (intOf i).toNat)
 case atStart => exact ⟨0, Nat.zero_le _, rfl, ⟨[], none, 0, 0, rfl, Nat.zero_le _, rfl, OL.emp _ _⟩, Below.refl _ _⟩
 case round =>
  obtain ⟨k, hk, rfl, ⟨us, a1, l, c1, rfl, hl, KL, KO⟩, KB⟩ := hrel
  clear x0 x1 x2 x3
  obtain ⟨D, hD⟩ : ∃ D, Hid (rdD F n (S0.take k) = D) := ⟨_, Lib.hid rfl⟩
  have HLD : Hid (l = D.length) := Lib.hid (by rw [← hD.out]; exact KL.out)
  have HOD : Hid (OL D us W0.heap.size wr (.slice a1 l c1)) := Lib.hid (by rw [← hD.out]; exact KO.out)
  have HMD : Hid (Mn F n D) := Lib.hid (by rw [← hD.out]; exact (rdD_ok HFF.out HMS.out k (by rw [HLS.out]; exact hk)).2)
  have HPD : Hid (∀ t, t < l → pvt (fn (D.getD t [])) n < n) := Lib.hid fun t ht => by
   rw [← hD.out]; exact rdD_pv HFF.out HMS.out (by rw [HLS.out]; exact hk) (by rw [hD.out, ← HLD.out]; exact ht)
  clear KL KO
  by_cases hlt : k < m
  ·obtain ⟨bs, os, has, ar, cr, hcr, hnr⟩ := (HNS.out.below KB.out).at' (fun t ht => (mrow HMS.out ht).len) hlt
   subst has
   have HKS : Hid (k < S0.length) := Lib.hid (by rw [HLS.out]; exact hlt)
   have HVR : Hid (Vn F n (S0.getD k [])) := Lib.hid (mrow HMS.out HKS.out)
   have HRC : Hid (Calls Try.prog 62 #[XV F b cap n, .slice ar n cr, .slice a1 l c1] wr (VQ n (rsV F n D (S0.getD k [])) wr)) := Lib.hid (krest_c (HA0.out.below KB.out) hn (by omega) HVR.out HMD.out HLD.out.symm HPD.out hnr HOD.out.mm)
   have HSD : Hid (rdD F n (S0.take (k + 1)) = rdS F n D (S0.getD k [])) := Lib.hid (by rw [rdD_succ HKS.out, hD.out])
   obtain ⟨x0, x1, x2, x3⟩ := HXB.out.below KB.out HS0.out
   clear hnr
   go_wp2_with fail
   with_reducible refine HRC.out.mono ?_
   rintro e w3 ⟨ax, cx, rfl, hnx, hb3⟩
   obtain ⟨X, hXX⟩ : ∃ X, Hid (rsV F n D (S0.getD k []) = X) := ⟨_, Lib.hid rfl⟩
   rw [hXX.out] at hnx
   have HVX : Hid (Vn F n X) := Lib.hid (by rw [← hXX.out]; exact rsV_vn HFF.out HVR.out)
   have HR3 := Lib.hid hnx
   have HO3 := Lib.hid (HOD.out.below hb3)
   have HB3 := Lib.hid (KB.out.trans (hb3.mono KB.out.size))
   have HP : Hid (Calls Try.prog 63 #[.slice ax n cx] w3 fun e w' => e = .returned (.int .i64 (pvt (fn X) n : Nat)) ∧ Below w3.heap.size w3 w') := Lib.hid (pivot_n HVX.out.len (by omega) hnx)
   obtain ⟨p, hp⟩ : ∃ p, Hid (pvt (fn X) n = p) := ⟨_, Lib.hid rfl⟩
   rw [hp.out] at HP
   clear hnx hb3 HRC x0 x1 x2 x3 hcr
   obtain ⟨x0, x1, x2, x3⟩ := HXB.out.below HB3.out HS0.out
   go_wp2_with fail
   with_reducible refine HP.out.mono ?_
   rintro e w4 ⟨rfl, hb4⟩
   have HR4 := Lib.hid (HR3.out.below hb4)
   have HO4 := Lib.hid (HO3.out.below hb4)
   have HB4 := Lib.hid (HB3.out.trans (hb4.mono HB3.out.size))
   clear hb4 HP x0 x1 x2 x3
   obtain ⟨x0, x1, x2, x3⟩ := HXB.out.below HB4.out HS0.out
   by_cases hpn : p = n
   ·have hpe : ((p : Int) == (n : Int)) = true := by simp [hpn]
    have HE : Hid (rdD F n (S0.take (k + 1)) = D) := Lib.hid (by rw [HSD.out]; unfold rdS; rw [hXX.out, hp.out, if_pos hpn])
    have hl2 : l ≤ k + 1 := by omega
    clear hpn
    go_wp2
    go_roundw
    case rel => exact ⟨k + 1, by omega, by go_num, ⟨us, a1, l, c1, rfl, hl2, by rw [HE.out]; exact HLD, by rw [HE.out]; exact HO4⟩, HB4⟩
    case measure => simp [intOf]; omega
   ·have hpe : ((p : Int) == (n : Int)) = false := beq_eq_false_iff_ne.2 (by omega)
    have hpl : p < n := by have := (pvt_spec (fn X) n).1; rw [hp.out] at this; omega
    obtain ⟨bx, ox, hax, hbx, hcx⟩ := HR4.out.at' hpl
    subst hax
    obtain ⟨yy, hyy⟩ : ∃ x, Hid (X.getD p 0 = x) := ⟨_, Lib.hid rfl⟩
    have HY : Hid (yy < F.q) := Lib.hid (by rw [← hyy.out]; exact HVX.out.el.get HFF.out p)
    have HY0 : Hid (yy ≠ 0) := Lib.hid (by
     have := (pvt_spec (fn X) n).2.2 (by rw [hp.out]; exact hpl)
     rw [hp.out] at this
     rw [← hyy.out]; exact this)
    rw [hyy.out] at hcx
    obtain ⟨Y, HYE⟩ : ∃ Y, Hid (tiV F (F.inv yy) X = Y) := ⟨_, Lib.hid rfl⟩
    have HVY : Hid (Vn F n Y) := Lib.hid (by rw [← HYE.out]; exact tiV_vn HFF.out HVX.out)
    have HYL : Hid (Y.length = n) := Lib.hid HVY.out.len
    have HPY : Hid (pvt (fn Y) n < n) := Lib.hid (by rw [← HYE.out, pv_mul HFF.out HVX.out (HFF.out.inv_lt _) (HFF.out.inv_ne _) hp.out hpl]; exact hpl)
    have HST : Hid (rdD F n (S0.take (k + 1)) = D.map (fun x => clV F n x Y) ++ [Y]) := Lib.hid (by rw [HSD.out]; unfold rdS; rw [hXX.out, hp.out, if_neg hpn, hyy.out, HYE.out])
    have HLT : Hid (W.heap.size < w4.heap.size ∧ bx < w4.heap.size) := Lib.hid ⟨Nat.lt_of_lt_of_le HS0.out HB4.out.size, hbx⟩
    have hS0 : PB w4 W.heap.size F b cap n bx (ox + p) yy w4.drew := ⟨HXB.out.below (HB4.out.trans (Below.refl _ _).drew) HS0.out, hcx, Lib.hid (Below.refl _ _).drew⟩
    clear hpn hbx
    go_wp2_with fail
    refine wp_region_held_drew (S := fun w' => PB w4 W.heap.size F b cap n bx (ox + p) yy w') (by kernel_rfl) (by with_reducible exact hS0) (fun hHeld => ?_)
    refine Rg.tk 0 ⟨some 32,.fieldAddr 73 (.tmp 2) 0,0,"space.go:114",#[],none⟩ ?_
    try simp only [Rg.gp]
    refine Rg.tk 1 ⟨some 33,.load 53 (.tmp 32),53,"space.go:114",#[⟨0,.data⟩],none⟩ ?_
    try simp only [Rg.gp]
    refine Rg.tk 2 ⟨some 34,.move (.tmp 8),39,"space.go:114",#[],none⟩ ?_
    try simp only [Rg.gp]
    refine Rg.tk 3 ⟨some 35,.move (.tmp 9),3,"space.go:114",#[],none⟩ ?_
    try simp only [Rg.gp]
    refine Rg.tk 4 ⟨some 36,.indexAddr 39 (.tmp 34) (.tmp 35),0,"space.go:114",#[⟨2,.data⟩,⟨3,.data⟩],none⟩ ?_
    try simp only [Rg.gp]
    refine Rg.tk 5 ⟨some 37,.load 3 (.tmp 36),3,"space.go:114",#[⟨4,.data⟩],none⟩ ?_
    try simp only [Rg.gp]
    refine Rg.rd1 6 ⟨some 38,.call ⟨.value (.func 75),#[.tmp 33,.tmp 37],#[53,3]⟩,46,"space.go:114",#[⟨1,.data⟩,⟨5,.data⟩],none⟩ fun K hK => ?_
    go_simp
    go_at_call 75
    with_reducible refine (finv_c HY.out HY0.out ((HA0.out.below HB4.out).below hHeld.2.2.out)).mono ?_
    rintro z v1 ⟨rfl, hb3⟩
    skip
    replace hb3 := hb3.mono hHeld.2.2.out.size
    refine hK.out _ _ ?_ (fun hHeld => ?_)
    ·(try dsimp only)
     exact PB.go hHeld hb3 HLT.out
    clear hK K
    try simp only [Rg.gp]
    refine Rg.tk 7 ⟨some 31,.move (.tmp 38),46,"space.go:114",#[⟨6,.data⟩],none⟩ ?_
    try simp only [Rg.gp]
    refine Rg.tk 8 ⟨some 39,.extract (.tmp 31) 0,3,"space.go:114",#[⟨7,.data⟩],none⟩ ?_
    try simp only [Rg.gp]
    refine Rg.tk 9 ⟨some 40,.extract (.tmp 31) 1,33,"space.go:114",#[⟨7,.data⟩,⟨10,.gcOnly Go.Departure.lateStores⟩],none⟩ ?_
    try simp only [Rg.gp]
    refine Rg.tk 10 ⟨some 10,.assign (.tmp 39),3,"space.go:114",#[⟨8,.data⟩,⟨6,.chain⟩,⟨0,.phase⟩,⟨1,.phase⟩,⟨2,.phase⟩,⟨3,.phase⟩,⟨4,.phase⟩,⟨5,.phase⟩,⟨6,.phase⟩,⟨7,.phase⟩,⟨8,.phase⟩,⟨9,.textOnly Go.Departure.lateStores⟩],none⟩ ?_
    try simp only [Rg.gp]
    refine Rg.tk 11 ⟨some 11,.assign (.tmp 40),33,"space.go:114",#[⟨9,.data⟩,⟨10,.chain⟩,⟨0,.phase⟩,⟨1,.phase⟩,⟨2,.phase⟩,⟨3,.phase⟩,⟨4,.phase⟩,⟨5,.phase⟩,⟨6,.phase⟩,⟨7,.phase⟩,⟨8,.phase⟩,⟨9,.phase⟩,⟨10,.phase⟩],none⟩ ?_
    try simp only [Rg.gp]
    refine wpAnyH_done (by kernel_rfl) ?_ _
    have HB45 := Lib.hid hHeld.2.2.out
    have HB5 := Lib.hid (HB4.out.trans (HB45.out.mono HB4.out.size))
    clear hHeld hS0 hb3
    have HR5 := Lib.hid (HR4.out.below HB45.out)
    have HO5 := Lib.hid (HO4.out.below HB45.out)
    have HT : Hid (Calls Try.prog 58 #[XV F b cap n, .int .i64 (F.inv yy : Nat), .slice (some ⟨bx, ox, none⟩) n cx] v1 (RPost Y v1)) := Lib.hid (by rw [← HYE.out]; exact times_c (HA0.out.below HB5.out) hn HVX.out (HFF.out.inv_lt _) HR5.out)
    obtain ⟨x0, x1, x2, x3⟩ := HXB.out.below HB5.out HS0.out
    go_wp2_with fail
    with_reducible refine HT.out.mono ?_
    rintro e w6 ⟨gy, hgy, rfl, hry, hb6⟩
    rw [HYL.out]
    have HRY := Lib.hid hry
    have HO6 := Lib.hid (HO5.out.below hb6)
    have HB6 := Lib.hid (HB5.out.trans (hb6.mono HB5.out.size))
    clear hgy hry hb6 HT x0 x1 x2 x3
    obtain ⟨wo, hwo⟩ : ∃ w, w = w6 := ⟨_, rfl⟩
    subst hwo
    go_wp2
    go_loopw [47] (fun i wr => ∃ j : Nat, j ≤ l ∧ i = .int .i64 j ∧ (∃ us, Hid (OL (rowsJ (fun x => clV F n x Y) D j) us W0.heap.size wr (.slice a1 l c1))) ∧ Hid (Row Y gy wr) ∧ Hid (Below W0.heap.size W0 wr)) (fun i _ => l - (intOf i).toNat)
    case atStart => exact ⟨0, Nat.zero_le _, rfl, ⟨us, by rw [rowsJ_zero]; exact HO6⟩, HRY, HB6⟩
    case round =>
     obtain ⟨j, hj, rfl, ⟨us2, JO⟩, JY, JB⟩ := hrel
     by_cases hjl : j < l
     ·have HJD : Hid (j < D.length) := Lib.hid (by rw [← HLD.out]; exact hjl)
      have HLJ : Hid ((rowsJ (fun x => clV F n x Y) D j).length = l) := Lib.hid (by rw [rowsJ_len, HLD.out])
      have HJR : Hid (j < (rowsJ (fun x => clV F n x Y) D j).length) := Lib.hid (by rw [HLJ.out]; exact hjl)
      obtain ⟨gf, cf, hvf, hbf, -⟩ := JO.out.sl HJR.out
      injection hvf with e1 e2 e3
      subst e1
      have HGF := Lib.hid hbf
      have JO' : Hid (OL (rowsJ (fun x => clV F n x Y) D j) us2 W0.heap.size wr (.slice (some ⟨gf, 0, none⟩) (rowsJ (fun x => clV F n x Y) D j).length c1)) := Lib.hid (by rw [HLJ.out]; exact JO.out)
      have hcj := JO'.out.cell HJR.out
      obtain ⟨aj, cj, hus⟩ := JO'.out.usl HJR.out
      have HVJ : Hid (Vn F n (D.getD j [])) := Lib.hid (mrow HMD.out HJD.out)
      have hnj := JO'.out.nn HJR.out
      rw [hus] at hcj hnj
      rw [rowsJ_at (by exact HJD.out), HVJ.out.len] at hcj hnj
      have HC : Hid (Calls Try.prog 76 #[XV F b cap n, .slice aj n cj, .slice (some ⟨gy, 0, none⟩) n n] wr (RPost (clV F n (D.getD j []) Y) wr)) := Lib.hid (cleared_c (HA0.out.below JB.out) hn HVJ.out HVY.out HPY.out hnj (by have := JY.out.nn; rw [HYL.out] at this; exact this))
      obtain ⟨x0, x1, x2, x3⟩ := HXB.out.below JB.out HS0.out
      have HCL : Hid ((clV F n (D.getD j []) Y).length = n) := Lib.hid (by rw [clV_len, HVJ.out.len])
      clear hbf e2 e3 hus hnj
      go_wp2_with fail
      with_reducible refine HC.out.mono ?_
      rintro e w7 ⟨gz, hgz, rfl, hrz, hb7⟩
      rw [HCL.out]
      have JO7 := Lib.hid (JO'.out.below hb7)
      have JY7 := Lib.hid (JY.out.below hb7)
      have HRZ := Lib.hid hrz
      have JB7 := Lib.hid (JB.out.trans (hb7.mono JB.out.size))
      have hf7 := JO7.out.frozen j
      have hc7 := JO7.out.cell HJR.out
      have HO8 : Hid (OL (rowsJ (fun x => clV F n x Y) D (j + 1)) (us2.set j (.slice (some ⟨gz, 0, none⟩) n n)) W0.heap.size (w7.setCell ⟨gf, j, none⟩ (.slice (some ⟨gz, 0, none⟩) n n)) (.slice (some ⟨gf, 0, none⟩) l c1)) := Lib.hid (by
       have h := JO7.out.set HJR.out (L := clV F n (D.getD j []) Y) (u := .slice (some ⟨gz, 0, none⟩) n n) (by have := HRZ.out; unfold Row at this; rw [HCL.out] at this ⊢; exact this)
       rw [rowsJ_set (by exact HJD.out), HLJ.out] at h
       exact h)
      have HY8 : Hid (Row Y gy (w7.setCell ⟨gf, j, none⟩ (.slice (some ⟨gz, 0, none⟩) n n))) := Lib.hid (by
       have hbx : Bx (fun k => k = gf) w7 (w7.setCell ⟨gf, j, none⟩ (.slice (some ⟨gz, 0, none⟩) n n)) := Bx.set (S := fun k => k = gf) rfl _
       exact own_bx2 JY7.out hbx fun k hk e => own_ty JY7.out JO7.out.own (by decide) k hk (by rw [show k = gf from e]; rfl))
      have HB8 : Hid (Below W0.heap.size W0 (w7.setCell ⟨gf, j, none⟩ (.slice (some ⟨gz, 0, none⟩) n n))) := Lib.hid (JB7.out.setCell (by exact HGF.out) _)
      clear hgz hrz hb7 HC x0 x1 x2 x3 hcj
      go_wp2
      go_roundw
      case rel => exact ⟨j + 1, by omega, by go_num, ⟨_, HO8⟩, HY8, HB8⟩
      case measure => simp [intOf]; omega
     ·obtain rfl : j = l := by omega
      have hjl1 : ¬ (j : Int) < (j : Int) := by omega
      have HOJ : Hid (OL (D.map (fun x => clV F n x Y)) us2 W0.heap.size wr (.slice a1 j c1)) := Lib.hid (by have := JO.out; rw [show rowsJ (fun x => clV F n x Y) D j = D.map (fun x => clV F n x Y) from by rw [HLD.out]; exact rowsJ_full _ _] at this; exact this)
      have HLM : Hid ((D.map (fun x => clV F n x Y)).length = j) := Lib.hid (by rw [List.length_map, ← HLD.out])
      go_wp2_with (at_builtin; refine wpList_append_own _ rfl _ _ 22 rfl W0.heap.size 39 j0 (.slice none 0 0) 1 24 Try.underlying22 ji jz0 jz1 jz2 rfl (by decide) (.slice a1 j c1) j us2 rfl (by have := HOJ.out.own.alloc (.cells #[.slice (some ⟨gy, 0, none⟩) n n] 39); rw [HLM.out] at this; exact this) ⟨wr.heap.size, 0, none⟩ 1 1 [.slice (some ⟨gy, 0, none⟩) n n] rfl rfl (cell_one_new _ _ _) (fun u hu => by simp at hu; subst hu; rfl) ?d3 ?d4 ?d5 ?_)
      case d3 => unfold maxLen; omega
      case d4 => omega
      case d5 => have := JB.out.size; simp; omega
      intro v' w9 hown' hgrow hnil
      have hal2 : Below wr.heap.size wr (wr.alloc (.cells #[.slice (some ⟨gy, 0, none⟩) n n] 39)) := (Below.refl _ _).alloc (Nat.le_refl _) _
      have HO9 : Hid (OL (rdD F n (S0.take (k + 1))) (us2 ++ [.slice (some ⟨gy, 0, none⟩) n n]) W0.heap.size w9 v') := Lib.hid (by
       rw [HST.out]
       refine OL.push (HOJ.out.below hal2) ?_ (by rw [HLM.out]) hown' hgrow
       have := JY.out.below hal2
       unfold Row at this
       rw [HYL.out] at this ⊢
       exact this)
      have HB9 : Hid (Below W0.heap.size W0 w9) := Lib.hid ((JB.out.trans (hal2.mono JB.out.size)).trans (OL.grown (m := 0) (xs := []) (HOJ.out.below hal2) (Nat.le_trans JB.out.size hal2.size) hgrow))
      have HL9 : Hid (j + 1 = (rdD F n (S0.take (k + 1))).length) := Lib.hid (by rw [HST.out, List.length_append, HLM.out]; rfl)
      obtain ⟨a9, c9, hv9⟩ := HO9.out.shape
      rw [← HL9.out] at hv9
      subst hv9
      have hl9 : j + 1 ≤ k + 1 := by omega
      clear hown' hgrow hnil hal2
      go_wp2
      go_roundw
      case rel => exact ⟨k + 1, by omega, by go_num, ⟨_, a9, _, c9, rfl, hl9, HL9, HO9⟩, HB9⟩
      case measure => simp [intOf]; omega
  ·obtain rfl : k = m := by omega
   have hlt1 : ¬ (k : Int) < (k : Int) := by omega
   have HTL : Hid (Calls Try.prog 77 #[XV F b cap n, .slice a1 l c1] wr (RL (redM F n S0) wr)) := Lib.hid (by
    rw [← io_red HFF.out HMS.out]
    rw [show S0.take k = S0 from by rw [← HLS.out]; exact List.take_length] at hD
    rw [hD.out]
    exact inorder_c (by omega) (by omega) HLD.out.symm (fun t ht => (mrow HMD.out (by rw [← HLD.out]; exact ht)).len) HOD.out)
   obtain ⟨x0, x1, x2, x3⟩ := HXB.out.below KB.out HS0.out
   go_wp2_with fail
   with_reducible refine HTL.out.mono ?_
   rintro e w3 ⟨us3, a3, c3, rfl, ho3, hb3⟩
   have HBF := Lib.hid (HB0.out.trans ((KB.out.trans (hb3.mono KB.out.size)).mono HB0.out.size))
   have HOF := Lib.hid (ho3.weak (Nat.le_trans HB0.out.size KB.out.size))
   clear ho3 hb3 HTL x0 x1 x2 x3
   go_wp2
   go_ret
   exact ⟨us3, a3, c3, rfl, HOF.out, HBF.out⟩

end Go.Proofs.Ytdafhhojiioifaa

/- Rows whose span is all that is orthogonal to a reduced matrix. -/
namespace Go.Proofs.Ytdafhhojiioifaa
open Go.RowKit Go.Fl
set_option maxRecDepth 100000
set_option linter.unusedVariables false
set_option linter.unusedSimpArgs false
set_option linter.unusedSectionVars false

/-- an owned list of rows, where blocks of S change that hold none of it -/
theorem OL.bx {D : List (List Nat)} {us : List Value} {base : Nat} {w w' : World} {v : Value} (h : OL D us base w v) {S : Nat → Prop} (hb : Bx S w w') (hs : ∀ k, v.ownBlock = some k → ¬ S k) (hr : ∀ i, i < D.length → ∀ k, (us.getD i undef).ownBlock = some k → ¬ S k) : OL D us base w' v :=
 ⟨own_bx2 h.own hb hs, fun i hi => own_bx2 (h.row i hi) hb (hr i hi)⟩
theorem info97 : (Try.prog.info? 4).map (fun i => (i.zero, i.size, i.bytes)) = some (some (.bool false), 1, 1) := by kernel_rfl
def pvB (L : List (Nat × Cf)) (n k : Nat) : List Value := (List.range n).map fun t => Value.bool (isP (L.take k) t)
theorem pvB_len (L : List (Nat × Cf)) (n k : Nat) : (pvB L n k).length = n := by simp [pvB]
theorem pvB_at {L : List (Nat × Cf)} {n k t : Nat} (h : t < n) : (pvB L n k)[t]? = some (.bool (isP (L.take k) t)) := by unfold pvB; rw [List.getElem?_map, List.getElem?_range h]; rfl
theorem pvB_zero (L : List (Nat × Cf)) (n : Nat) : pvB L n 0 = List.replicate n (.bool false) := by
 unfold pvB
 rw [List.eq_replicate_iff]
 exact ⟨by simp, fun x hx => by obtain ⟨t, _, rfl⟩ := List.mem_map.1 hx; simp [isP]⟩
theorem pvB_succ {L : List (Nat × Cf)} {n k : Nat} (hk : k < L.length) : (pvB L n k).set (L[k]).1 (.bool true) = pvB L n (k + 1) := by
 refine List.ext_getElem (by rw [List.length_set, pvB_len, pvB_len]) fun t h1 h2 => ?_
 rw [List.length_set, pvB_len] at h1
 rw [List.getElem_set]
 have e1 : (pvB L n k)[t]'(by rw [pvB_len]; exact h1) = .bool (isP (L.take k) t) := by have := pvB_at (L := L) (k := k) h1; rw [List.getElem?_eq_getElem (by rw [pvB_len]; exact h1)] at this; injection this
 have e2 : (pvB L n (k + 1))[t]'(by rw [pvB_len]; exact h1) = .bool (isP (L.take (k + 1)) t) := by have := pvB_at (L := L) (k := k + 1) h1; rw [List.getElem?_eq_getElem (by rw [pvB_len]; exact h1)] at this; injection this
 rw [e1, e2, isP_take hk]
 by_cases e : (L[k]).1 = t
 ·rw [if_pos e]; simp [e]
 ·rw [if_neg e, show ((L[k]).1 == t) = false from beq_eq_false_iff_ne.2 e, Bool.or_false]
/-- a reduced matrix and its rows as vectors -/
structure RM (F : Gf) (n : Nat) (G : List (List Nat)) (L : List (Nat × Cf)) : Prop where
 red : RedL F n L
 eq : G = L.map fun a => toV n a.2
section
variable {F : Gf} {n : Nat} {G : List (List Nat)} {L : List (Nat × Cf)} (hF : Ok F)
include hF
theorem RM.of {S : List (List Nat)} (hS : Mn F n S) : RM F n (redM F n S) (redL F n (S.map Go.Fl.fn)) := ⟨(redL_ok hF (Mn.vs hF hS)).1, rfl⟩
omit hF in
theorem RM.len (h : RM F n G L) : G.length = L.length := by rw [h.eq, List.length_map]
omit hF in
theorem RM.row (h : RM F n G L) {i : Nat} (hi : i < L.length) : G.getD i [] = toV n (L[i]).2 := by
 rw [h.eq, List.getD_eq_getElem?_getD, List.getElem?_map, List.getElem?_eq_getElem hi]; rfl
omit hF in
theorem RM.fnr (h : RM F n G L) {i : Nat} (hi : i < L.length) : Go.Fl.fn (G.getD i []) = (L[i]).2 := by
 rw [h.row hi, fn_toV (h.red.ro _ (List.getElem_mem hi)).hi]
theorem RM.mn (h : RM F n G L) : Mn F n G := fun r hr => by
 rw [h.eq] at hr
 obtain ⟨a, ha, rfl⟩ := List.mem_map.1 hr
 exact toV_vn (h.red.ro a ha).el
theorem RM.pv (h : RM F n G L) {i : Nat} (hi : i < L.length) : pvt (Go.Fl.fn (G.getD i [])) n = (L[i]).1 ∧ (L[i]).1 < n := by
 rw [h.fnr hi]
 exact ⟨(h.red.ro _ (List.getElem_mem hi)).pvt hF, (h.red.ro _ (List.getElem_mem hi)).bd⟩
end
theorem below_row {B : Nat} {w w' : World} {row : Option Nat} (hg : w.grownBy w' row) (hB : B ≤ w.heap.size) (hr : ∀ k, row = some k → B ≤ k) : Below B w w' := (Below.refl B w).grown hg hB hr
set_option maxHeartbeats 6400000 in
theorem orthogonal_c {F : Gf} {b cap n m cg : Nat} {G : List (List Nat)} {L : List (Nat × Cf)} {ga : Option Addr} {W : World} (hA : FldAt F b cap W) (hn : n ≤ 100) (hm : m ≤ 1000) (hG : RM F n G L) (lg : L.length = m) (ng : MM G W (.slice ga m cg)) :
  Calls Try.prog 66 #[XV F b cap n, .slice ga m cg] W (RL (Dk F L n n) W) := by
 obtain ⟨j0, ji, jz0, jz1, jz2⟩ := info_parts info22
 obtain ⟨i0, ii, iz0, iz1, iz2⟩ := info_parts info97
 have HFF : Hid (Ok F) := Lib.hid (ok_mem hA.mem)
 obtain ⟨W0, hW0, hB0, hS, hX⟩ := set_head (F := F) (b := b) (cap := cap) (n := n) (W := W)
 have HB0 := Lib.hid hB0
 have HS0 := Lib.hid hS
 have HXB := Lib.hid hX
 have HA0 := Lib.hid (hA.below hB0)
 have HNG := Lib.hid (ng.below hB0)
 have HGL := Lib.hid hG
 have HMG := Lib.hid (hG.mn HFF.out)
 have HLG := Lib.hid lg
 have HGW : Hid (∀ t, t < G.length → (G.getD t []).length = n) := Lib.hid fun t ht => (mrow HMG.out ht).len
 have HW0 := Lib.hid hW0
 have hn1 : n ≤ 1000 := by omega
 obtain ⟨x0, x1, x2, x3⟩ := HXB.out
 clear hW0 hB0 hS hX hA ng hG lg
 go_enter Try.func66, Try.ntmps66
 go_wp2_with (refine wpList_make_full _ rfl _ _ 97 rfl 0 4 i0 (.bool false) 1 Try.underlying97 ii iz0 iz1 .i64 .i64 (n : Int) (n : Int) n rfl rfl rfl rfl (by rw [iz2]; omega) (by unfold maxLen; omega) (Nat.zero_le _) ?_)
 intro w1 hown hgrow
 rw [HW0.out] at hgrow
 have HBR : Hid (w1.ownsRow 0 4 1 (.slice (some ⟨W.heap.size + 1, 0, none⟩) n n) n (pvB L n 0)) := Lib.hid (by
  have e := toList_madeCells_one (Value.bool false) n
  rw [pvB_zero, ← e]
  simpa using hown)
 have HB1 : Hid (Below W0.heap.size W0 w1) := Lib.hid ((Below.refl _ _).grown hgrow (Nat.le_refl _) (fun k hk => by cases hk))
 have HSZ : Hid (W0.heap.size = W.heap.size + 1) := Lib.hid (by rw [← HW0.out]; simp)
 clear hown hgrow x0 x1 x2 x3
 obtain ⟨x0, x1, x2, x3⟩ := HXB.out.below HB1.out HS0.out
 go_wp2
 go_loopw [18] (fun i wr => ∃ k : Nat, k ≤ m ∧ i = .int .i64 k ∧ Hid (wr.ownsRow 0 4 1 (.slice (some ⟨W.heap.size + 1, 0, none⟩) n n) n (pvB L n k)) ∧ Hid (Below W0.heap.size W0 wr)) (fun i _ => m - (intOf i).toNat)
 case atStart => exact ⟨0, Nat.zero_le _, rfl, HBR, HB1⟩
 case round =>
  obtain ⟨k, hk, rfl, KR, KB⟩ := hrel
  clear x0 x1 x2 x3
  by_cases hlt : k < m
  ·have HKL : Hid (k < L.length) := Lib.hid (by rw [HLG.out]; exact hlt)
   obtain ⟨bg, og, hga, ar, cr, hcr, hnr⟩ := (HNG.out.below KB.out).at' HGW.out hlt
   subst hga
   obtain ⟨e1, e2⟩ := HGL.out.pv HFF.out HKL.out
   obtain ⟨p, hp⟩ : ∃ p, Hid ((L[k]'HKL.out).1 = p) := ⟨_, Lib.hid rfl⟩
   rw [hp.out] at e1 e2
   have HP : Hid (Calls Try.prog 63 #[.slice ar n cr] wr fun e w' => e = .returned (.int .i64 (p : Nat)) ∧ Below wr.heap.size wr w') := Lib.hid (by rw [← e1]; exact pivot_n (mrow HMG.out (by rw [HGL.out.len]; exact HKL.out)).len (by omega) hnr)
   clear hnr e1
   go_wp2_with fail
   with_reducible refine HP.out.mono ?_
   rintro e w3 ⟨rfl, hb3⟩
   have HR3 := Lib.hid (own_belowK KR.out hb3)
   have HB3 := Lib.hid (KB.out.trans (hb3.mono KB.out.size))
   have hc3 : w3.cell? ⟨W.heap.size + 1, p, none⟩ = some (.bool (isP (L.take k) p)) := by rw [World.ownsRow.cellAt HR3.out p (by omega), pvB_at e2]
   have hf3 := World.ownsRow.frozenAt HR3.out p
   have HR4 : Hid ((w3.setCell ⟨W.heap.size + 1, p, none⟩ (.bool true)).ownsRow 0 4 1 (.slice (some ⟨W.heap.size + 1, 0, none⟩) n n) n (pvB L n (k + 1))) := Lib.hid (by
    rw [← pvB_succ HKL.out, hp.out]; exact (World.ownsRow.stored HR3.out p _).1)
   have HB4 : Hid (Below W0.heap.size W0 (w3.setCell ⟨W.heap.size + 1, p, none⟩ (.bool true))) := Lib.hid (HB3.out.setCell (by have := HSZ.out; show W0.heap.size ≤ W.heap.size + 1; omega) _)
   clear hb3 HP hcr
   go_wp2
   go_roundw
   case rel => exact ⟨k + 1, by omega, by go_num, HR4, HB4⟩
   case measure => simp [intOf]; omega
  ·obtain rfl : k = m := by omega
   have hlt1 : ¬ (k : Int) < (k : Int) := by omega
   obtain ⟨W1, hW1⟩ : ∃ W1, W1 = wr := ⟨_, rfl⟩
   subst hW1
   obtain ⟨BB, hBB⟩ : ∃ B, Hid (W1.heap.size = B) := ⟨_, Lib.hid rfl⟩
   have HPB : Hid (W1.ownsRow 0 4 1 (.slice (some ⟨W.heap.size + 1, 0, none⟩) n n) n (pvB L n L.length)) := Lib.hid (by rw [HLG.out]; exact KR.out)
   have HPL : Hid (W.heap.size + 1 < BB) := Lib.hid (by rw [← hBB.out]; exact (World.ownsRow.lt KR.out _ rfl).2)
   have HBS : Hid (W0.heap.size ≤ BB) := Lib.hid (by rw [← hBB.out]; exact KB.out.size)
   obtain ⟨x0, x1, x2, x3⟩ := HXB.out.below KB.out HS0.out
   go_wp2
   go_loopw [8, 29] (fun v i wr => ∃ j : Nat, j ≤ n ∧ i = .int .i64 j ∧ (∃ us a l c, v = .slice a l c ∧ l ≤ j ∧ Hid (l = (Dk F L n j).length) ∧ Hid (OL (Dk F L n j) us BB wr (.slice a l c))) ∧ Hid (Below BB W1 wr)) (fun _ i _ => n - (intOf i).toNat)
   case atStart => exact ⟨0, Nat.zero_le _, rfl, ⟨[], none, 0, 0, rfl, Nat.zero_le _, rfl, OL.emp _ _⟩, Below.refl _ _⟩
   case round =>
    obtain ⟨j, hj, rfl, ⟨us2, a2, l2, c2, rfl, hl2, JL, JO⟩, JB⟩ := hrel
    have JB0 : Hid (Below W0.heap.size W0 wr) := Lib.hid (KB.out.trans (JB.out.mono HBS.out))
    clear x0 x1 x2 x3
    by_cases hjn : j < n
    ·have hcj : wr.cell? ⟨W.heap.size + 1, j, none⟩ = some (.bool (isP L j)) := (JB.out.cell (p := ⟨W.heap.size + 1, j, none⟩) HPL.out).trans (by rw [World.ownsRow.cellAt HPB.out j (by omega), pvB_at hjn, List.take_length])
     cases hpj : isP L j with
     | true =>
      rw [hpj] at hcj
      have HE : Hid (Dk F L n (j + 1) = Dk F L n j) := Lib.hid (Dk_no hpj)
      have hl3 : l2 ≤ j + 1 := by omega
      clear hpj
      go_wp2
      go_roundw
      case rel => exact ⟨j + 1, by omega, by go_num, ⟨us2, a2, _, c2, rfl, hl3, by rw [HE.out]; exact JL, by rw [HE.out]; exact JO⟩, JB⟩
      case measure => simp [intOf]; omega
     | false =>
      rw [hpj] at hcj
      have HE : Hid (Dk F L n (j + 1) = Dk F L n j ++ [toV n (kv F L j)]) := Lib.hid (Dk_yes hpj)
      have HZ : Hid (Calls Try.prog 56 #[XV F b cap n] wr (RPost (List.replicate n 0) wr)) := Lib.hid (zero_c (by omega))
      obtain ⟨x0, x1, x2, x3⟩ := HXB.out.below JB0.out HS0.out
      clear hpj
      go_wp2_with fail
      with_reducible refine HZ.out.mono ?_
      rintro e w5 ⟨g, hg, rfl, hr5, hb5⟩
      rw [List.length_replicate]
      have HNG5 : Hid (∀ i, i < (Dk F L n j).length → ∀ k, (us2.getD i undef).ownBlock = some k → ¬ k = g) := Lib.hid fun i hi k hk e => by
       have := (JO.out.row i hi).lt k hk
       omega
      have HG0 : Hid (W0.heap.size ≤ g) := Lib.hid (Nat.le_trans JB0.out.size hg)
      have HGB : Hid (BB ≤ g) := Lib.hid (Nat.le_trans (by have := JB.out.size; rw [hBB.out] at this; exact this) hg)
      have HR5 := Lib.hid hr5
      have JO5 := Lib.hid (JO.out.below hb5)
      have JB5 := Lib.hid (JB.out.trans (hb5.mono (by have := JB.out.size; rw [hBB.out] at this; exact this)))
      have hc5 := HR5.out.cell (t := j) (by rw [List.length_replicate]; exact hjn)
      have hf5 := HR5.out.frozen j
      have HX6 : Hid (Row (xK F L n j 0) g (w5.setCell ⟨g, j, none⟩ (.int .i64 1))) := Lib.hid (by rw [← xK_zero]; exact HR5.out.set j 1)
      have JO6 : Hid (OL (Dk F L n j) us2 BB (w5.setCell ⟨g, j, none⟩ (.int .i64 1)) (.slice a2 l2 c2)) := Lib.hid (OL.bx JO5.out (S := fun k => k = g) (Bx.set (S := fun k => k = g) rfl _) (fun k hk e => own_ty JO5.out.own HR5.out (by decide) k hk (by rw [show k = g from e]; rfl)) HNG5.out)
      have JB6 : Hid (Below BB W1 (w5.setCell ⟨g, j, none⟩ (.int .i64 1))) := Lib.hid (JB5.out.setCell (by exact HGB.out) _)
      clear hg hr5 hb5 HZ x0 x1 x2 x3 hcj
      go_wp2
      go_loopw [43] (fun i wr => ∃ i' : Nat, i' ≤ k ∧ i = .int .i64 i' ∧ Hid (Row (xK F L n j i') g wr) ∧ Hid (OL (Dk F L n j) us2 BB wr (.slice a2 l2 c2)) ∧ Hid (Below BB W1 wr)) (fun i _ => k - (intOf i).toNat)
      case atStart => exact ⟨0, Nat.zero_le _, rfl, HX6, JO6, JB6⟩
      case round =>
       obtain ⟨i, hi, rfl, JX, JO, JB⟩ := hrel
       have JB0 : Hid (Below W0.heap.size W0 wr) := Lib.hid (KB.out.trans (JB.out.mono HBS.out))
       clear hc5 hf5
       by_cases hik : i < k
       ·have HIL : Hid (i < L.length) := Lib.hid (by rw [HLG.out]; exact hik)
        obtain ⟨bg, og, hga, ar, cr, hcr, hnr⟩ := (HNG.out.below JB0.out).at' HGW.out hik
        have hnr0 : NN (G.getD i []) W0 (.slice ar n cr) := by
         obtain ⟨bg', og', e0, ar', cr', hc', hn'⟩ := HNG.out.at' HGW.out hik
         rw [hga] at e0
         injection e0 with e0
         injection e0 with e1 e2 _
         subst e1 e2
         have hlt0 : bg < W0.heap.size := World.block_lt_of_cell? _ _ hc'
         rw [JB0.out.cell (p := ⟨bg, og + i, none⟩) hlt0, hc'] at hcr
         injection hcr with hcr
         injection hcr with h1 _ h3
         subst h1 h3
         exact hn'
        subst hga
        obtain ⟨e1, e2⟩ := HGL.out.pv HFF.out HIL.out
        have e3 : (G.getD i []).getD j 0 = (L[i]'HIL.out).2 j := by rw [← HGL.out.fnr HIL.out]; rfl
        obtain ⟨p, hp⟩ : ∃ p, Hid ((L[i]'HIL.out).1 = p) := ⟨_, Lib.hid rfl⟩
        obtain ⟨yy, hyy⟩ : ∃ y, Hid ((L[i]'HIL.out).2 j = y) := ⟨_, Lib.hid rfl⟩
        rw [hp.out] at e1 e2
        rw [hyy.out] at e3
        obtain ⟨br, ro, har, hbr, hcy⟩ := hnr.at' hjn
        have hbr0 : br < W0.heap.size := by obtain ⟨_, _, e, h, _⟩ := hnr0.at' hjn; rw [har] at e; cases e; exact h
        subst har
        rw [e3] at hcy
        have HYY : Hid (yy < F.q) := Lib.hid (by rw [← e3]; exact (mrow HMG.out (by rw [HGL.out.len]; exact HIL.out)).el.get HFF.out j)
        have HPV : ∀ w', Below W0.heap.size W0 w' → Calls Try.prog 63 #[.slice (some ⟨br, ro, none⟩) n cr] w' fun e w2 => e = .returned (.int .i64 (p : Nat)) ∧ Below w'.heap.size w' w2 := fun w' hb => by
         rw [← e1]; exact pivot_n (mrow HMG.out (by rw [HGL.out.len]; exact HIL.out)).len (by omega) (hnr0.below hb)
        have HXS : Hid ((xK F L n j i).set p (F.neg yy) = xK F L n j (i + 1)) := Lib.hid (by rw [← hp.out, ← hyy.out]; exact xK_succ HFF.out HGL.out.red HIL.out)
        have hpx : p < (xK F L n j i).length := by rw [xK_len]; exact e2
        have HLT : Hid (W.heap.size < W0.heap.size ∧ br < W0.heap.size) := Lib.hid ⟨HS0.out, hbr0⟩
        have HXd := Lib.hid JX.out.drew
        have HNG := HNG5
        have HSBR : Hid (BB ≤ wr.heap.size) := Lib.hid (by have := JB.out.size; rw [hBB.out] at this; exact this)
        have hS0 : PB W0 W.heap.size F b cap n br (ro + j) yy wr.drew := ⟨HXB.out.below (JB0.out.trans (Below.refl _ _).drew) HS0.out, hcy, Lib.hid (JB0.out.trans (Below.refl _ _).drew)⟩
        clear hnr hnr0 e1 e3 hbr hbr0
        go_wp2_with fail
        refine wp_region_held_drew (S := fun w' => PB W0 W.heap.size F b cap n br (ro + j) yy w') (by kernel_rfl) (by with_reducible exact hS0) (fun hHeld => ?_)
        refine Rg.tk 0 ⟨some 47,.move (.tmp 10),39,"space.go:154",#[],none⟩ ?_
        try simp only [Rg.gp]
        refine Rg.tk 1 ⟨some 48,.move (.tmp 12),39,"space.go:154",#[],none⟩ ?_
        try simp only [Rg.gp]
        refine Rg.tk 3 ⟨some 50,.fieldAddr 73 (.tmp 2) 0,0,"space.go:154",#[],none⟩ ?_
        try simp only [Rg.gp]
        refine Rg.tk 4 ⟨some 51,.load 53 (.tmp 50),53,"space.go:154",#[⟨3,.data⟩],none⟩ ?_
        try simp only [Rg.gp]
        refine Rg.tk 5 ⟨some 52,.move (.tmp 12),39,"space.go:154",#[],none⟩ ?_
        try simp only [Rg.gp]
        refine Rg.tk 6 ⟨some 53,.move (.tmp 9),3,"space.go:154",#[],none⟩ ?_
        try simp only [Rg.gp]
        refine Rg.tk 7 ⟨some 54,.indexAddr 39 (.tmp 52) (.tmp 53),0,"space.go:154",#[⟨5,.data⟩,⟨6,.data⟩],none⟩ ?_
        try simp only [Rg.gp]
        refine Rg.tk 8 ⟨some 55,.load 3 (.tmp 54),3,"space.go:154",#[⟨7,.data⟩],none⟩ ?_
        try simp only [Rg.gp]
        refine Rg.rd1 2 ⟨some 49,.call ⟨.value (.func 63),#[.tmp 48],#[39]⟩,3,"space.go:154",#[⟨1,.data⟩],none⟩ fun K hK => ?_
        go_simp
        go_at_call 63
        with_reducible refine (HPV _ hHeld.2.2.out).mono ?_
        rintro z v1 ⟨rfl, hb3⟩
        have HX1 := Lib.hid (HXd.out.below hb3); have hb3' := Lib.hid hb3
        replace hb3 := hb3.mono hHeld.2.2.out.size
        refine hK.out _ _ ?_ (fun hHeld => ?_)
        ·(try dsimp only)
         exact PB.go hHeld hb3 HLT.out
        clear hK K
        try simp only [Rg.gp]
        refine Rg.rd1 9 ⟨some 56,.call ⟨.value (.func 83),#[.tmp 51,.tmp 55],#[53,3]⟩,3,"space.go:154",#[⟨4,.data⟩,⟨8,.data⟩,⟨2,.chain⟩],none⟩ fun K hK => ?_
        go_simp
        go_at_call 83
        with_reducible refine (fneg_c HYY.out (HA0.out.below hHeld.2.2.out)).mono ?_
        rintro z v2 ⟨rfl, hb4⟩
        have HX2 := Lib.hid (HX1.out.below hb4); have hb4' := Lib.hid hb4
        replace hb4 := hb4.mono hHeld.2.2.out.size
        have hf2 := HX2.out.frozen p
        have hc2 := HX2.out.cell (t := p) hpx
        refine hK.out _ _ ?_ (fun hHeld => ?_)
        ·(try dsimp only)
         exact PB.go hHeld hb4 HLT.out
        clear hK K
        try simp only [Rg.gp]
        refine Rg.tk 10 ⟨some 57,.indexAddr 39 (.tmp 47) (.tmp 49),0,"space.go:154",#[⟨0,.data⟩,⟨2,.data⟩,⟨0,.phase⟩,⟨1,.phase⟩,⟨2,.phase⟩,⟨3,.phase⟩,⟨4,.phase⟩,⟨5,.phase⟩,⟨6,.phase⟩,⟨7,.phase⟩,⟨8,.phase⟩,⟨9,.phase⟩],none⟩ ?_
        try simp only [Rg.gp]
        refine Rg.rd1 11 ⟨none,.store 3 (.tmp 57) (.tmp 56),0,"space.go:154",#[⟨10,.data⟩,⟨9,.data⟩,⟨9,.chain⟩,⟨0,.phase⟩,⟨1,.phase⟩,⟨2,.phase⟩,⟨3,.phase⟩,⟨4,.phase⟩,⟨5,.phase⟩,⟨6,.phase⟩,⟨7,.phase⟩,⟨8,.phase⟩,⟨9,.phase⟩],none⟩ fun K hK => ?_
        go_simp
        refine hK.out _ _ ?_ (fun hHeld => ?_)
        ·(try dsimp only)
         exact PB.go hHeld ((Below.refl _ _).setCell (by exact HG0.out) _) HLT.out
        clear hK K
        try simp only [Rg.gp]
        refine wpAnyH_done (by kernel_rfl) ?_ _
        have HX3 : Hid (Row (xK F L n j (i + 1)) g (v2.setCell ⟨g, p, none⟩ (.int .i64 (F.neg yy : Nat)))) := Lib.hid (by
         rw [← HXS.out]
         exact HX2.out.set p (F.neg yy))
        have HB3 : Hid (Below BB W1 (v2.setCell ⟨g, p, none⟩ (.int .i64 (F.neg yy : Nat)))) := Lib.hid (((JB.out.trans ((Below.refl _ _).drew)).trans (((hb3'.out).mono HSBR.out).trans ((hb4'.out).mono (Nat.le_trans HSBR.out hb3'.out.size)))).setCell (by exact HGB.out) _)
        have HO3 : Hid (OL (Dk F L n j) us2 BB (v2.setCell ⟨g, p, none⟩ (.int .i64 (F.neg yy : Nat))) (.slice a2 l2 c2)) := Lib.hid (OL.bx ((JO.out.below ((Below.refl _ _).drew)).below hb3'.out |>.below hb4'.out) (S := fun k => k = g) (Bx.set (S := fun k => k = g) rfl _) (fun k hk e => own_ty JO.out.own JX.out (by decide) k hk (by rw [show k = g from e]; rfl)) HNG.out)
        clear hHeld hS0 hf2 hc2 hpx
        go_wp2
        go_roundw
        case rel => exact ⟨i + 1, by omega, by go_num, HX3, HO3, HB3⟩
        case measure => simp [intOf]; omega
       ·obtain rfl : i = k := by omega
        have hik1 : ¬ (i : Int) < (i : Int) := by omega
        have HXE : Hid (Row (toV n (kv F L j)) g wr) := Lib.hid (by have := JX.out; rw [← HLG.out, xK_end HFF.out] at this; exact this)
        go_wp2_with (at_builtin; refine wpList_append_own _ rfl _ _ 22 rfl BB 39 j0 (.slice none 0 0) 1 24 Try.underlying22 ji jz0 jz1 jz2 rfl (by decide) (.slice a2 l2 c2) l2 us2 rfl (by have := JO.out.own.alloc (.cells #[.slice (some ⟨g, 0, none⟩) n n] 39); rw [← JL.out] at this; exact this) ⟨wr.heap.size, 0, none⟩ 1 1 [.slice (some ⟨g, 0, none⟩) n n] rfl rfl (cell_one_new _ _ _) (fun u hu => by simp at hu; subst hu; rfl) ?d3 ?d4 ?d5 ?_)
        case d3 => unfold maxLen; omega
        case d4 => omega
        case d5 => have := JB.out.size; rw [hBB.out] at this; simp; omega
        intro v' w9 hown' hgrow hnil
        have hal2 : Below wr.heap.size wr (wr.alloc (.cells #[.slice (some ⟨g, 0, none⟩) n n] 39)) := (Below.refl _ _).alloc (Nat.le_refl _) _
        have HSB : Hid (BB ≤ wr.heap.size) := Lib.hid (by have := JB.out.size; rw [hBB.out] at this; exact this)
        have HO9 : Hid (OL (Dk F L n (j + 1)) (us2 ++ [.slice (some ⟨g, 0, none⟩) n n]) BB w9 v') := Lib.hid (by
         rw [HE.out]
         refine OL.push (JO.out.below hal2) ?_ (by rw [JL.out]) hown' hgrow
         have := HXE.out.below hal2
         unfold Row at this
         rw [toV_len] at this ⊢
         exact this)
        have HB9 : Hid (Below BB W1 w9) := Lib.hid ((JB.out.trans (hal2.mono HSB.out)).trans (OL.grown (m := 0) (xs := []) (JO.out.below hal2) (Nat.le_trans HSB.out hal2.size) hgrow))
        have HL9 : Hid (l2 + 1 = (Dk F L n (j + 1)).length) := Lib.hid (by rw [HE.out]; have := JL.out; simp only [List.length_append, List.length_singleton] at this ⊢; omega)
        obtain ⟨a9, c9, hv9⟩ := HO9.out.shape
        rw [← HL9.out] at hv9
        subst hv9
        have hl9 : l2 + 1 ≤ j + 1 := by omega
        clear hown' hgrow hnil hal2
        go_wp2
        go_roundw
        case rel => exact ⟨j + 1, by omega, by go_num, ⟨_, a9, _, c9, rfl, hl9, HL9, HO9⟩, HB9⟩
        case measure => simp [intOf]; omega
    ·obtain rfl : j = n := by omega
     have hjn1 : ¬ (j : Int) < (j : Int) := by omega
     have HBF := Lib.hid (HB0.out.trans (JB0.out.mono HB0.out.size))
     have HOF := Lib.hid (JO.out.weak (Nat.le_trans HB0.out.size HBS.out))
     go_wp2
     go_ret
     exact ⟨us2, a2, c2, by rw [← JL.out]; rfl, by rw [← JL.out]; exact HOF.out, HBF.out⟩

end Go.Proofs.Ytdafhhojiioifaa
