/- solved, inverted of the law; Unit. -/
import Derived.Test.YteeofijcndgbfaaTj
namespace Go.Proofs.Yteeofijcndgbfaa
open Go.RowKit Go.Fl
set_option maxRecDepth 100000
set_option linter.unusedVariables false
set_option linter.unusedSimpArgs false
set_option linter.unusedSectionVars false
/-- all cells are as they were but those that held no slice -/
def Kp (w w' : World) : Prop := w.heap.size ≤ w'.heap.size ∧ ∀ p v, w.cell? p = some v → v ≠ .slice none 0 0 → w'.cell? p = some v
theorem NN.kp {L : List Nat} {w w' : World} {v : Value} (h : NN L w v) (k : Kp w w') : NN L w' v := by
 rcases h with h | ⟨b, off, cap, h1, h2, h3, h4⟩
 ·exact .inl h
 ·exact .inr ⟨b, off, cap, h1, h2, Nat.lt_of_lt_of_le h3 k.1, fun t ht => k.2 _ _ (h4 t ht) (by intro e; cases e)⟩
theorem MM.kp {A : List (List Nat)} {w w' : World} {v : Value} (h : MM A w v) (k : Kp w w') (hA : ∀ t, t < A.length → 0 < (A.getD t []).length) : MM A w' v := by
 rcases h with h | ⟨b, off, cap, h1, h2, h3, h4⟩
 ·exact .inl h
 ·refine .inr ⟨b, off, cap, h1, h2, Nat.lt_of_lt_of_le h3 k.1, fun t ht => ?_⟩
  obtain ⟨a, c, h5, h6⟩ := h4 t ht
  exact ⟨a, c, k.2 _ _ h5 (by intro e; injection e with _ e _; have := hA t ht; omega), h6.kp k⟩
theorem kp_store2 {w : World} {R : Nat} (u : Value) (h0 : w.cell? ⟨R, 0, none⟩ = some (.slice none 0 0)) (h1 : w.cell? ⟨R, 1, none⟩ = some (.int .i64 0)) : Kp w ((w.setCell ⟨R, 0, none⟩ u).setCell ⟨R, 1, none⟩ (.int .i64 0)) := by
 refine ⟨by simp [World.setCell], fun p v hp hv => ?_⟩
 by_cases e1 : p = ⟨R, 1, none⟩
 ·subst e1
  rw [h1] at hp
  injection hp with hp
  subst hp
  exact World.cell?_setCell_same (w.setCell ⟨R, 0, none⟩ u) ⟨R, 1, none⟩ (.int .i64 0) (by rw [World.cell?_setCell_other _ _ _ _ (by intro e; injection e with _ e _; cases e)]; exact h1)
 ·rw [World.cell?_setCell_other _ _ _ _ (fun e => e1 e.symm)]
  by_cases e0 : p = ⟨R, 0, none⟩
  ·subst e0
   rw [h0] at hp
   injection hp with hp
   exact absurd hp.symm hv
  ·rw [World.cell?_setCell_other _ _ _ _ (fun e => e0 e.symm)]; exact hp
theorem two_bx {w : World} {B : Nat} (u0 u1 : Value) : Bx (fun j => j = B) w ((w.setCell ⟨B, 0, none⟩ u0).setCell ⟨B, 1, none⟩ u1) :=
 (Bx.set (S := fun j => j = B) rfl u0).trans (Bx.set (S := fun j => j = B) rfl u1)
/-- what solved answers -/
def SvP (s : Option (List Nat)) (W : World) (e : Ending) (w' : World) : Prop :=
 (s = none ∧ e = .returned (.agg #[.slice none 0 0, .int .i64 4]) ∧ Below W.heap.size W w') ∨
 ∃ x a c, s = some x ∧ e = .returned (.agg #[.slice a x.length c, .int .i64 0]) ∧ NN x w' (.slice a x.length c) ∧ Below W.heap.size W w'
set_option maxHeartbeats 3200000 in
theorem solved_c {F : Gf} {b cap n m ca cb : Nat} {A : List (List Nat)} {V : List Nat} {aa ab : Option Addr} {W : World} (hA : FldAt F b cap W) (h1 : 1 ≤ n) (hn : n ≤ 24) (hm : m ≤ 500) (la : A.length = m) (ma : Mn F n A) (mv : Vn F m V) (na : MM A W (.slice aa m ca)) (nv : NN V W (.slice ab m cb)) :
  Calls Try.prog 24 #[MV F b cap n (.slice aa m ca), .slice ab m cb] W (SvP (solM F n (eqM A V)) W) := by
 obtain ⟨w0, hw0⟩ : ∃ w0, w0 = ((W.alloc (.cells #[.int .i64 F.p, .int .i64 F.e, FM F b cap, .int .i64 (n : Nat), .slice aa m ca] 32)).alloc (.cells #[.slice none 0 0, .int .i64 0] 46)) := ⟨_, rfl⟩
 have hal : Below W.heap.size W w0 := by rw [hw0]; exact ((Below.refl _ _).alloc (Nat.le_refl _) _).alloc (by simp) _
 have HAL := Lib.hid hal
 have HS0 : Hid (w0.heap.size = W.heap.size + 2) := Lib.hid (by rw [hw0]; simp)
 have HMB : Hid (MB W.heap.size F b cap n (.slice aa m ca) w0) := Lib.hid (by rw [hw0]; exact ⟨(World.cell?_alloc_lt _ _ _ (by simp)).trans (World.cell?_alloc_at _ _ _ _ rfl), (World.cell?_alloc_lt _ _ _ (by simp)).trans (World.cell?_alloc_at _ _ _ _ rfl), (World.cell?_alloc_lt _ _ _ (by simp)).trans (World.cell?_alloc_at _ _ _ _ rfl), (World.cell?_alloc_lt _ _ _ (by simp)).trans (World.cell?_alloc_at _ _ _ _ rfl), (World.cell?_alloc_lt _ _ _ (by simp)).trans (World.cell?_alloc_at _ _ _ _ rfl)⟩)
 have HRZ : Hid (w0.cell? ⟨W.heap.size + 1, 0, none⟩ = some (.slice none 0 0) ∧ w0.cell? ⟨W.heap.size + 1, 1, none⟩ = some (.int .i64 0) ∧ ∀ t, w0.frozen? ⟨W.heap.size + 1, t, none⟩ = false) := Lib.hid (by
  rw [hw0]; exact ⟨World.cell?_alloc_at _ _ _ _ (by simp), World.cell?_alloc_at _ _ _ _ (by simp), fun t => World.frozen?_alloc_at _ _ _ _ (by simp)⟩)
 have HSC : Hid (Calls Try.prog 58 #[FV F b cap, .int .i64 (n : Nat), .slice aa m ca, .slice ab m cb] w0 (SolP (solM F n (eqM A V)) w0)) := Lib.hid (solve_c (hA.below hal) h1 hn hm la ma mv (na.below hal) (nv.below hal))
 obtain ⟨so, hso⟩ : ∃ s, solM F n (eqM A V) = s := ⟨_, rfl⟩
 rw [hso] at HSC ⊢
 have HW0 := Lib.hid hw0
 obtain ⟨x0, x1, x2, x3, x4⟩ := HMB.out
 clear hw0 hal hA ma mv na nv hso
 go_enter Try.func24, Try.ntmps24
 go_wp2_with fail
 rw [← HW0.out]
 clear HW0
 go_wp2_with fail
 with_reducible refine HSC.out.mono ?_
 rintro e w1 hs
 have key : Below w0.heap.size w0 w1 → (w1.cell? ⟨W.heap.size + 1, 0, none⟩ = some (.slice none 0 0) ∧ w1.cell? ⟨W.heap.size + 1, 1, none⟩ = some (.int .i64 0) ∧ w1.frozen? ⟨W.heap.size + 1, 0, none⟩ = false ∧ w1.frozen? ⟨W.heap.size + 1, 1, none⟩ = false) := fun hb => by
  have hl : W.heap.size + 1 < w0.heap.size := by rw [HS0.out]; exact Nat.lt_succ_self _
  exact ⟨(hb.cell hl).trans HRZ.out.1, (hb.cell hl).trans HRZ.out.2.1, (World.frozen?_of_block (w := w0) (hb.block _ hl)).trans (HRZ.out.2.2 0), (World.frozen?_of_block (w := w0) (hb.block _ hl)).trans (HRZ.out.2.2 1)⟩
 rcases hs with ⟨rfl, rfl, hb⟩ | ⟨x, a, c, rfl, rfl, hn1, hb⟩
 ·obtain ⟨r0, r1, f0, f1⟩ := key hb
  have HBW : Hid (Below W.heap.size W ((w1.setCell ⟨W.heap.size + 1, 0, none⟩ (.slice none 0 0)).setCell ⟨W.heap.size + 1, 1, none⟩ (.int .i64 4))) := Lib.hid ((HAL.out.trans (hb.mono HAL.out.size)).trans (Bx.below (two_bx _ _) (Nat.le_trans HAL.out.size hb.size) fun j (hj : j = W.heap.size + 1) => by omega))
  clear hb key
  go_wp2
  refine bodyPost_ret (v := .agg #[.slice none 0 0, .int .i64 4]) (by simp [results, Try.results24, go_sem, r0, r1]) rfl ?_
  exact .inl ⟨rfl, rfl, HBW.out⟩
 ·obtain ⟨r0, r1, f0, f1⟩ := key hb
  obtain ⟨lx, hlx⟩ : ∃ l, x.length = l := ⟨_, rfl⟩
  have HLX := Lib.hid hlx
  rw [hlx] at hn1 ⊢
  have HBW : Hid (Below W.heap.size W ((w1.setCell ⟨W.heap.size + 1, 0, none⟩ (.slice a lx c)).setCell ⟨W.heap.size + 1, 1, none⟩ (.int .i64 0))) := Lib.hid ((HAL.out.trans (hb.mono HAL.out.size)).trans (Bx.below (two_bx _ _) (Nat.le_trans HAL.out.size hb.size) fun j (hj : j = W.heap.size + 1) => by omega))
  have HNX := Lib.hid (hn1.kp (kp_store2 (R := W.heap.size + 1) (.slice a lx c) r0 r1))
  clear hb key hn1 hlx
  go_wp2
  refine bodyPost_ret (v := .agg #[.slice a lx c, .int .i64 0]) (by simp [results, Try.results24, go_sem, r0, r1]) rfl ?_
  exact .inr ⟨x, a, c, rfl, by rw [HLX.out], by rw [HLX.out]; exact HNX.out, HBW.out⟩
/-- what inverted answers -/
def IvP (s : Option (List (List Nat))) (W : World) (e : Ending) (w' : World) : Prop :=
 (s = none ∧ e = .returned (.agg #[.slice none 0 0, .int .i64 4]) ∧ Below W.heap.size W w') ∨
 ∃ x a c, s = some x ∧ e = .returned (.agg #[.slice a x.length c, .int .i64 0]) ∧ MM x w' (.slice a x.length c) ∧ Below W.heap.size W w'
set_option maxHeartbeats 3200000 in
theorem inverted_c {F : Gf} {b cap n ca : Nat} {A : List (List Nat)} {aa : Option Addr} {W : World} (hA : FldAt F b cap W) (h1 : 1 ≤ n) (hn : n ≤ 24) (la : A.length = n) (ma : Mn F n A) (na : MM A W (.slice aa n ca)) (hp : ∀ x, invM F n A = some x → ∀ t, t < x.length → 0 < (x.getD t []).length) :
  Calls Try.prog 33 #[FV F b cap, .slice aa n ca] W (IvP (invM F n A) W) := by
 obtain ⟨w0, hw0⟩ : ∃ w0, w0 = ((W.alloc (.cells #[.int .i64 F.p, .int .i64 F.e, FM F b cap] 29)).alloc (.cells #[.slice none 0 0, .int .i64 0] 53)) := ⟨_, rfl⟩
 have hal : Below W.heap.size W w0 := by rw [hw0]; exact ((Below.refl _ _).alloc (Nat.le_refl _) _).alloc (by simp) _
 have HAL := Lib.hid hal
 have HS0 : Hid (w0.heap.size = W.heap.size + 2) := Lib.hid (by rw [hw0]; simp)
 have HFB : Hid (FBx W.heap.size F b cap w0) := Lib.hid (by rw [hw0]; exact ⟨(World.cell?_alloc_lt _ _ _ (by simp)).trans (World.cell?_alloc_at _ _ _ _ rfl), (World.cell?_alloc_lt _ _ _ (by simp)).trans (World.cell?_alloc_at _ _ _ _ rfl), (World.cell?_alloc_lt _ _ _ (by simp)).trans (World.cell?_alloc_at _ _ _ _ rfl)⟩)
 have HRZ : Hid (w0.cell? ⟨W.heap.size + 1, 0, none⟩ = some (.slice none 0 0) ∧ w0.cell? ⟨W.heap.size + 1, 1, none⟩ = some (.int .i64 0) ∧ ∀ t, w0.frozen? ⟨W.heap.size + 1, t, none⟩ = false) := Lib.hid (by
  rw [hw0]; exact ⟨World.cell?_alloc_at _ _ _ _ (by simp), World.cell?_alloc_at _ _ _ _ (by simp), fun t => World.frozen?_alloc_at _ _ _ _ (by simp)⟩)
 have HSC : Hid (Calls Try.prog 64 #[FV F b cap, .slice aa n ca] w0 (InvP (invM F n A) w0)) := Lib.hid (inverse_c (hA.below hal) h1 hn la ma (na.below hal))
 obtain ⟨so, hso⟩ : ∃ s, invM F n A = s := ⟨_, rfl⟩
 rw [hso] at HSC hp ⊢
 have HP := Lib.hid hp
 have HW0 := Lib.hid hw0
 obtain ⟨x0, x1, x2⟩ := HFB.out
 clear hw0 hal hA ma na hso hp
 go_enter Try.func33, Try.ntmps33
 go_wp2_with fail
 rw [← HW0.out]
 clear HW0
 go_wp2_with fail
 with_reducible refine HSC.out.mono ?_
 rintro e w1 hs
 have key : Below w0.heap.size w0 w1 → (w1.cell? ⟨W.heap.size + 1, 0, none⟩ = some (.slice none 0 0) ∧ w1.cell? ⟨W.heap.size + 1, 1, none⟩ = some (.int .i64 0) ∧ w1.frozen? ⟨W.heap.size + 1, 0, none⟩ = false ∧ w1.frozen? ⟨W.heap.size + 1, 1, none⟩ = false) := fun hb => by
  have hl : W.heap.size + 1 < w0.heap.size := by rw [HS0.out]; exact Nat.lt_succ_self _
  exact ⟨(hb.cell hl).trans HRZ.out.1, (hb.cell hl).trans HRZ.out.2.1, (World.frozen?_of_block (w := w0) (hb.block _ hl)).trans (HRZ.out.2.2 0), (World.frozen?_of_block (w := w0) (hb.block _ hl)).trans (HRZ.out.2.2 1)⟩
 rcases hs with ⟨rfl, rfl, hb⟩ | ⟨x, a, c, rfl, rfl, hn1, hb⟩
 ·obtain ⟨r0, r1, f0, f1⟩ := key hb
  have HBW : Hid (Below W.heap.size W ((w1.setCell ⟨W.heap.size + 1, 0, none⟩ (.slice none 0 0)).setCell ⟨W.heap.size + 1, 1, none⟩ (.int .i64 4))) := Lib.hid ((HAL.out.trans (hb.mono HAL.out.size)).trans (Bx.below (two_bx _ _) (Nat.le_trans HAL.out.size hb.size) fun j (hj : j = W.heap.size + 1) => by omega))
  clear hb key
  go_wp2
  refine bodyPost_ret (v := .agg #[.slice none 0 0, .int .i64 4]) (by simp [results, Try.results33, go_sem, r0, r1]) rfl ?_
  exact .inl ⟨rfl, rfl, HBW.out⟩
 ·obtain ⟨r0, r1, f0, f1⟩ := key hb
  obtain ⟨lx, hlx⟩ : ∃ l, x.length = l := ⟨_, rfl⟩
  have HLX := Lib.hid hlx
  rw [hlx] at hn1 ⊢
  have HBW : Hid (Below W.heap.size W ((w1.setCell ⟨W.heap.size + 1, 0, none⟩ (.slice a lx c)).setCell ⟨W.heap.size + 1, 1, none⟩ (.int .i64 0))) := Lib.hid ((HAL.out.trans (hb.mono HAL.out.size)).trans (Bx.below (two_bx _ _) (Nat.le_trans HAL.out.size hb.size) fun j (hj : j = W.heap.size + 1) => by omega))
  have HNX := Lib.hid (hn1.kp (kp_store2 (R := W.heap.size + 1) (.slice a lx c) r0 r1) (HP.out x rfl))
  clear hb key hn1 hlx
  go_wp2
  refine bodyPost_ret (v := .agg #[.slice a lx c, .int .i64 0]) (by simp [results, Try.results33, go_sem, r0, r1]) rfl ?_
  exact .inr ⟨x, a, c, rfl, by rw [HLX.out], by rw [HLX.out]; exact HNX.out, HBW.out⟩
end Go.Proofs.Yteeofijcndgbfaa

/- same of the law: two answers; literal lists. -/
namespace Go.Proofs.Yteeofijcndgbfaa
open Go.RowKit Go.Fl
set_option maxRecDepth 100000
set_option linter.unusedVariables false
set_option linter.unusedSimpArgs false
set_option linter.unusedSectionVars false
set_option maxHeartbeats 3200000 in
theorem samesol_c {A B : List Nat} {aa ab : Option Addr} {ca cb : Nat} {x y : Int} {W : World} (la : A.length ≤ 1000) (lb : B.length ≤ 1000) (na : NN A W (.slice aa A.length ca)) (nb : NN B W (.slice ab B.length cb)) :
  Calls Try.prog 23 #[.agg #[.slice aa A.length ca, .int .i64 x], .agg #[.slice ab B.length cb, .int .i64 y]] W fun e w' => e = .returned (.bool (decide (x = y ∧ A = B))) ∧ Below W.heap.size W w' := by
 obtain ⟨w0, hw0⟩ : ∃ w0, w0 = ((W.alloc (.cells #[.slice aa A.length ca, .int .i64 x] 46)).alloc (.cells #[.slice ab B.length cb, .int .i64 y] 46)) := ⟨_, rfl⟩
 have hal : Below W.heap.size W w0 := by rw [hw0]; exact ((Below.refl _ _).alloc (Nat.le_refl _) _).alloc (by simp) _
 have HAL := Lib.hid hal
 have HMB : Hid (w0.cell? ⟨W.heap.size, 0, none⟩ = some (.slice aa A.length ca) ∧ w0.cell? ⟨W.heap.size, 1, none⟩ = some (.int .i64 x) ∧ w0.cell? ⟨W.heap.size + 1, 0, none⟩ = some (.slice ab B.length cb) ∧ w0.cell? ⟨W.heap.size + 1, 1, none⟩ = some (.int .i64 y)) := Lib.hid (by
  rw [hw0]; exact ⟨(World.cell?_alloc_lt _ _ _ (by simp)).trans (World.cell?_alloc_at _ _ _ _ rfl), (World.cell?_alloc_lt _ _ _ (by simp)).trans (World.cell?_alloc_at _ _ _ _ rfl), World.cell?_alloc_at _ _ _ _ (by simp), World.cell?_alloc_at _ _ _ _ (by simp)⟩)
 have HSC : Hid (Calls Try.prog 20 #[.slice aa A.length ca, .slice ab B.length cb] w0 fun e w' => e = .returned (.bool (decide (A = B))) ∧ Below w0.heap.size w0 w') := Lib.hid (same_c (by omega) (by omega) (na.below hal) (nb.below hal))
 obtain ⟨bb, hbb⟩ : ∃ x, decide (A = B) = x := ⟨_, rfl⟩
 obtain ⟨rr, hrr⟩ : ∃ r, decide (x = y ∧ A = B) = r := ⟨_, rfl⟩
 have HRR : Hid (rr = (decide (x = y) && bb)) := Lib.hid (by rw [← hrr, ← hbb]; by_cases h1 : x = y <;> by_cases h2 : A = B <;> simp [h1, h2])
 rw [hbb] at HSC
 rw [hrr]
 generalize A.length = lA at *
 generalize B.length = lB at *
 obtain ⟨x0, x1, x2, x3⟩ := HMB.out
 have HW0 := Lib.hid hw0
 clear hw0 hal na nb hbb hrr
 by_cases hxy : x = y
 ·have HR2 : Hid (rr = bb) := Lib.hid (by rw [HRR.out]; simp [hxy])
  subst hxy
  rw [HR2.out]
  go_enter Try.func23, Try.ntmps23
  go_wp2_with fail
  rw [← HW0.out]
  clear HW0
  go_wp2_with fail
  with_reducible refine HSC.out.mono ?_
  rintro e w1 ⟨rfl, hb⟩
  have HBF : Hid (Below W.heap.size W w1) := Lib.hid (HAL.out.trans (hb.mono HAL.out.size))
  clear hb
  go_wp2
  go_ret
  exact ⟨rfl, HBF.out⟩
 ·have HR2 : Hid (rr = false) := Lib.hid (by rw [HRR.out]; simp [hxy])
  rw [HR2.out]
  go_enter Try.func23, Try.ntmps23
  go_wp2_with fail
  go_ret
  rw [← HW0.out]
  exact ⟨rfl, HAL.out⟩
end Go.Proofs.Yteeofijcndgbfaa

/- field.Valid, field.Size of the examples' fields. -/
namespace Go.Proofs.Yteeofijcndgbfaa
open Go.RowKit Go.Fl
set_option linter.unusedVariables false
section
variable {F : Gf} {b cap : Nat} {W : World}
theorem fsize_c (h : FldAt F b cap W) : Calls Try.prog 52 #[FV F b cap] W fun e w' => e = .returned (.int .i64 (F.q : Nat)) ∧ Below W.heap.size W w' := size_c h.mem
theorem fvalid_c (hF : F ∈ fds.take 10) (h : FldAt F b cap W) : Calls Try.prog 50 #[FV F b cap] W fun e w' => e = .returned (.bool true) ∧ Below W.heap.size W w' := fvalid_w h
theorem rvalid_c (hF : F ∈ fds.take 10) (h : FldAt F b cap W) : Calls Try.prog 65 #[FV F b cap] W fun e w' => e = .returned (.bool true) ∧ Below W.heap.size W w' := rvalid_w h
end
end Go.Proofs.Yteeofijcndgbfaa

/- Valid of package space; literal lists. -/
namespace Go.Proofs.Yteeofijcndgbfaa
open Go.RowKit Go.Fl
set_option maxRecDepth 100000
set_option linter.unusedVariables false
set_option linter.unusedSimpArgs false
set_option linter.unusedSectionVars false
theorem q100_k : (fds.all fun F => decide (F.q ≤ 100)) = true := by kernel_rfl
theorem q100 {F : Gf} (h : F ∈ fds) : F.q ≤ 100 := of_decide_eq_true (List.all_eq_true.1 q100_k F h)
set_option maxHeartbeats 3200000 in
theorem svalid_c {F : Gf} {b cap n m ca : Nat} {A : List (List Nat)} {aa : Option Addr} {W : World} (hF : F ∈ fds.take 10) (hA : FldAt F b cap W) (hn : n ≤ 1000) (hm : m ≤ 1000) (la : A.length = m) (hr : ∀ t, t < A.length → (A.getD t []).length ≤ 1000) (na : MM A W (.slice aa m ca)) :
  Calls Try.prog 13 #[FV F b cap, .int .i64 (n : Nat), .slice aa m ca] W fun e w' => e = .returned (.bool (decide (m ≤ 64) && ((decide (1 ≤ n ∧ n ≤ 24) && wdM n [A]) && elM F.q A))) ∧ Below W.heap.size W w' := by
 obtain ⟨w1, hw1⟩ : ∃ w1, w1 = W.alloc (.cells #[.int .i64 F.p, .int .i64 F.e, FM F b cap] 29) := ⟨_, rfl⟩
 obtain ⟨w2, hw2⟩ : ∃ w2, w2 = w1.alloc (.cells #[.slice aa m ca] 30) := ⟨_, rfl⟩
 have hal1 : Below W.heap.size W w1 := by rw [hw1]; exact (Below.refl _ _).alloc (Nat.le_refl _) _
 have hal2 : Below w1.heap.size w1 w2 := by rw [hw2]; exact (Below.refl _ _).alloc (Nat.le_refl _) _
 have HAL1 := Lib.hid hal1
 have HAL : Hid (Below W.heap.size W w2) := Lib.hid (hal1.trans (hal2.mono hal1.size))
 have HS1 : Hid (w1.heap.size = W.heap.size + 1) := Lib.hid (by rw [hw1]; simp)
 have HFB : Hid (FBx W.heap.size F b cap w2) := Lib.hid (FBx.below (by rw [hw1]; exact FBx.new W F b cap) hal2 (by rw [HS1.out]; exact Nat.lt_succ_self _))
 have HF2 := Lib.hid (hA.below HAL.out)
 have HM2 := Lib.hid (na.below HAL.out)
 have HLM : Hid (LM [A] w2 (.slice (some ⟨W.heap.size + 1, 0, none⟩) 1 1)) := Lib.hid (by
  have t := LM.one (A := A) (w := w1) (a := aa) (c := ca) (by rw [la]; exact na.below hal1)
  rw [la, ← hw2, HS1.out] at t; exact t)
 obtain ⟨bw, hbw⟩ : ∃ x, (decide (1 ≤ n ∧ n ≤ 24) && wdM n [A]) = x := ⟨_, rfl⟩
 obtain ⟨be, hbe⟩ : ∃ x, elM F.q A = x := ⟨_, rfl⟩
 have HWD : Hid (Calls Try.prog 49 #[.int .i64 (n : Nat), .slice (some ⟨W.heap.size + 1, 0, none⟩) 1 1] w2 fun e w' => e = .returned (.bool bw) ∧ Below w2.heap.size w2 w') := Lib.hid (by
  have t := haveWd_c (n := n) (Ms := [A]) (a := some ⟨W.heap.size + 1, 0, none⟩) (c := 1) (W := w2) (by omega) (by simp) (fun t ht => by simp at ht; subst ht; show A.length ≤ _; omega) (fun t ht k hk => by simp at ht; subst ht; exact Nat.le_trans (hr k hk) (by omega)) HLM.out
  rw [hbw] at t; exact t)
 have HEL : Hid (∀ w, MM A w (.slice aa m ca) → Calls Try.prog 51 #[.int .i64 (F.q : Nat), .slice aa m ca] w fun e w' => e = .returned (.bool be) ∧ Below w.heap.size w w') := Lib.hid fun w h => by
  have t := haveEl_c (q := F.q) (R := A) (a := aa) (c := ca) (W := w) (q100 (List.mem_of_mem_take hF)) (by omega) (fun t ht => Nat.le_trans (hr t ht) (by omega)) (by rw [la]; exact h)
  rw [la, hbe] at t; exact t
 rw [hbw, hbe]
 have HW1 := Lib.hid hw1
 have HW2 := Lib.hid hw2
 clear hw1 hw2 hal1 hal2 hA na hbw hbe
 by_cases h64 : m ≤ 64
 ·have h64i : (m : Int) ≤ 64 := by omega
  rw [show decide (m ≤ 64) = true from by simpa using h64, Bool.true_and]
  obtain ⟨rr, hrr⟩ : ∃ r, (bw && be) = r := ⟨_, rfl⟩
  have HRR := Lib.hid hrr
  rw [hrr]
  clear hrr
  go_enter Try.func13, Try.ntmps13
  go_wp2_with fail
  rw [← HW1.out, ← HW2.out]
  clear HW1 HW2
  with_reducible refine HWD.out.mono ?_
  rintro e w3 ⟨rfl, hb3⟩
  have HB3 : Hid (Below W.heap.size W w3) := Lib.hid (HAL.out.trans (hb3.mono HAL.out.size))
  have HK : Hid (W.heap.size < w2.heap.size) := Lib.hid (by have := HAL.out.size; have := HS1.out; have := World.block_lt_of_cell? w2 _ HFB.out.1; omega)
  obtain ⟨f0, f1, f2⟩ := FBx.below HFB.out hb3 HK.out
  have HFV : Hid (Calls Try.prog 50 #[FV F b cap] w3 fun e w' => e = .returned (.bool true) ∧ Below w3.heap.size w3 w') := Lib.hid (fvalid_c hF (HF2.out.below hb3))
  have HF3 := Lib.hid (HF2.out.below hb3)
  have HM3 := Lib.hid (HM2.out.below hb3)
  have HK3 : Hid (W.heap.size < w3.heap.size) := Lib.hid (Nat.lt_of_lt_of_le HK.out hb3.size)
  have HFB3 : Hid (FBx W.heap.size F b cap w3) := Lib.hid ⟨f0, f1, f2⟩
  clear hb3
  cases bw with
  | false =>
   go_wp2_with fail
   go_ret
   exact ⟨by rw [← HRR.out]; rfl, HB3.out⟩
  | true =>
   go_wp2_with fail
   with_reducible refine HFV.out.mono ?_
   rintro e w4 ⟨rfl, hb4⟩
   clear f0 f1 f2
   obtain ⟨f0, f1, f2⟩ := FBx.below HFB3.out hb4 HK3.out
   have HB4 : Hid (Below W.heap.size W w4) := Lib.hid (HB3.out.trans (hb4.mono HB3.out.size))
   have HSZ : Hid (Calls Try.prog 52 #[FV F b cap] w4 fun e w' => e = .returned (.int .i64 (F.q : Nat)) ∧ Below w4.heap.size w4 w') := Lib.hid (fsize_c (HF3.out.below hb4))
   have HM4 := Lib.hid (HM3.out.below hb4)
   clear hb4
   go_wp2_with fail
   with_reducible refine HSZ.out.mono ?_
   rintro e w5 ⟨rfl, hb5⟩
   have HB5 : Hid (Below W.heap.size W w5) := Lib.hid (HB4.out.trans (hb5.mono HB4.out.size))
   have HE5 := Lib.hid (HEL.out w5 (HM4.out.below hb5))
   clear hb5
   go_wp2_with fail
   with_reducible refine HE5.out.mono ?_
   rintro e w6 ⟨rfl, hb6⟩
   have HB6 : Hid (Below W.heap.size W w6) := Lib.hid (HB5.out.trans (hb6.mono HB5.out.size))
   clear hb6
   go_wp2_with fail
   go_ret
   exact ⟨by rw [← HRR.out]; rfl, HB6.out⟩
 ·have h64i : ¬ (m : Int) ≤ 64 := by omega
  rw [show decide (m ≤ 64) = false from by simpa using h64, Bool.false_and]
  go_enter Try.func13, Try.ntmps13
  go_wp2_with fail
  go_ret
  rw [← HW1.out]
  exact ⟨rfl, HAL1.out⟩
/-- a literal list -/
theorem nn_new {w : World} {L : List Nat} {cs : Array Value} (hc : cs = (L.map N64).toArray) {n : Nat} (hn : n = L.length) : NN L (w.alloc (.cells cs 3)) (.slice (some ⟨w.heap.size, 0, none⟩) n n) := by
 subst hn hc
 refine .inr ⟨w.heap.size, 0, L.length, rfl, Nat.le_refl _, by simp, fun t ht => ?_⟩
 refine (World.cell?_alloc_at _ _ _ _ rfl).trans ?_
 rw [Nat.zero_add, List.getElem?_toArray, List.getElem?_map, List.getD_eq_getElem?_getD, List.getElem?_eq_getElem ht]; rfl
/-- a literal matrix: rows that are there -/
theorem mm_new {w : World} {A : List (List Nat)} {cs : Array Value} {n ty : Nat} (hn : n = A.length) (h : ∀ t, t < A.length → ∃ a c, cs[t]? = some (.slice a (A.getD t []).length c) ∧ NN (A.getD t []) w (.slice a (A.getD t []).length c)) : MM A (w.alloc (.cells cs ty)) (.slice (some ⟨w.heap.size, 0, none⟩) n n) := by
 subst hn
 refine .inr ⟨w.heap.size, 0, A.length, rfl, Nat.le_refl _, by simp, fun t ht => ?_⟩
 obtain ⟨a, c, h1, h2⟩ := h t ht
 exact ⟨a, c, (World.cell?_alloc_at _ _ _ _ rfl).trans (by rw [Nat.zero_add]; exact h1), h2.below ((Below.refl _ _).alloc (Nat.le_refl _) _)⟩
end Go.Proofs.Yteeofijcndgbfaa
