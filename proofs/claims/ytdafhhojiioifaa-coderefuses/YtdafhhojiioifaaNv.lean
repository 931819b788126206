/- divides. -/
import Derived.Test.YtdafhhojiioifaaNs
namespace Go.Proofs.Ytdafhhojiioifaa
open Go.RowKit Go.Fl
set_option maxRecDepth 100000
set_option linter.unusedVariables false
set_option linter.unusedSimpArgs false
set_option linter.unusedSectionVars false
def dvI (p : Nat) (V : Nat → Nat) (top sh : Nat) : Nat → (Nat → Nat) → Nat → Nat
 | 0, U => U
 | k + 1, U => upd (dvI p V top sh k U) (sh + k) (subT p (dvI p V top sh k U (sh + k)) top (V k))
def dvO (p : Nat) (V : Nat → Nat) (d n : Nat) : Nat → (Nat → Nat) → Nat → Nat
 | 0, U => U
 | j + 1, U => dvI p V (dvO p V d n j U (n - j + d)) (n - j) (d + 1) (dvO p V d n j U)
def z7b (U : Nat → Nat) : Bool := Nat.beq (U 0) 0 && (Nat.beq (U 1) 0 && (Nat.beq (U 2) 0 && (Nat.beq (U 3) 0 && (Nat.beq (U 4) 0 && (Nat.beq (U 5) 0 && Nat.beq (U 6) 0)))))
theorem dvI_lt {p : Nat} (hp : 0 < p) (V : Nat → Nat) (top sh : Nat) {U : Nat → Nat} (h : ∀ j, U j < p) : ∀ k j, dvI p V top sh k U j < p
 | 0 => h
 | k + 1 => upd_lt (dvI_lt hp V top sh h k) (Nat.mod_lt _ hp)
theorem dvO_lt {p : Nat} (hp : 0 < p) (V : Nat → Nat) (d n : Nat) {U : Nat → Nat} (h : ∀ j, U j < p) : ∀ k j, dvO p V d n k U j < p
 | 0 => h
 | k + 1 => dvI_lt hp V _ _ (dvO_lt hp V d n h k) _
theorem beq0 (n : Nat) : Nat.beq n 0 = decide (n = 0) := by cases n <;> rfl
theorem eq103 (Q : Nat → Nat) (w : World) : (Op.equalIn 10000 114 (.agg #[.int .i64 (Q 0 : Nat), .int .i64 (Q 1 : Nat), .int .i64 (Q 2 : Nat), .int .i64 (Q 3 : Nat), .int .i64 (Q 4 : Nat), .int .i64 (Q 5 : Nat), .int .i64 (Q 6 : Nat)]) (.agg #[.int .i64 0, .int .i64 0, .int .i64 0, .int .i64 0, .int .i64 0, .int .i64 0, .int .i64 0])).run Try.prog w = .ok (z7b Q) w := by
 have u3 := Try.underlying3
 have a3 := Try.isAgg3
 have z3 := Try.sizeOf3
 rw [show (10000 : Nat) = 9999 + 1 from rfl, Op.equalIn]
 simp only [Sem.run_bind, run_underlying Try.underlying114, Result.andThen_ok]
 simp only [Std.Legacy.Range.forIn_eq_forIn_range', Std.Legacy.Range.size, Nat.sub_zero, Nat.add_sub_cancel, Nat.div_one, List.range'_succ, List.range'_zero, List.forIn_cons, List.forIn_nil]
 go_simp
 unfold z7b
 simp only [beq0]
 by_cases h0 : Q 0 = 0
 case neg => simp [h0]
 by_cases h1 : Q 1 = 0
 case neg => simp [h0, h1]
 by_cases h2 : Q 2 = 0
 case neg => simp [h0, h1, h2]
 by_cases h3 : Q 3 = 0
 case neg => simp [h0, h1, h2, h3]
 by_cases h4 : Q 4 = 0
 case neg => simp [h0, h1, h2, h3, h4]
 by_cases h5 : Q 5 = 0
 case neg => simp [h0, h1, h2, h3, h4, h5]
 by_cases h6 : Q 6 = 0
 case neg => simp [h0, h1, h2, h3, h4, h5, h6]
 simp [h0, h1, h2, h3, h4, h5, h6]
set_option maxHeartbeats 6400000 in
theorem divides_c {p d e : Nat} {V U : Nat → Nat} (hp0 : 0 < p) (hp6 : p ≤ 64) (hV : ∀ j, V j < p) (hU : ∀ j, U j < p) (hd : d ≤ e) (he : e ≤ 6) {W : World} :
  Calls Try.prog 110 #[.int .i64 (p : Nat), AV V, .int .i64 (d : Nat), AV U, .int .i64 (e : Nat)] W fun r w' => r = .returned (.bool (z7b (dvO p V d (e - d) (e - d + 1) U))) ∧ Below W.heap.size W w' := by
 obtain ⟨n, hn⟩ : ∃ n, e - d = n := ⟨_, rfl⟩
 have hni : (e : Int) - (d : Int) = (n : Int) := by omega
 rw [hn]
 have HV := Lib.hid hV
 have HU := Lib.hid hU
 have HND : Hid (n + d ≤ 6) := Lib.hid (by omega)
 obtain ⟨W0, hW0⟩ : ∃ W0, (W.alloc (.cells #[.int .i64 (V 0 : Nat), .int .i64 (V 1 : Nat), .int .i64 (V 2 : Nat), .int .i64 (V 3 : Nat), .int .i64 (V 4 : Nat), .int .i64 (V 5 : Nat), .int .i64 (V 6 : Nat)] 114)).alloc (.cells #[.int .i64 (U 0 : Nat), .int .i64 (U 1 : Nat), .int .i64 (U 2 : Nat), .int .i64 (U 3 : Nat), .int .i64 (U 4 : Nat), .int .i64 (U 5 : Nat), .int .i64 (U 6 : Nat)] 114) = W0 := ⟨_, rfl⟩
 have HV0 : Hid (C7 V W.heap.size W0) := Lib.hid (by rw [← hW0]; exact (c7_put _ _ rfl).of (Below.heap_alloc _ _ _ (by simp)))
 have HU0 : Hid (C7 U (W.heap.size + 1) W0) := Lib.hid (by rw [← hW0]; exact c7_put _ _ (by simp))
 have HB0 : Hid (Below W.heap.size W W0) := Lib.hid (by rw [← hW0]; exact ((Below.refl _ _).alloc (Nat.le_refl _) _).alloc (by simp) _)
 clear hV hU hn
 go_enter Try.func110, Try.ntmps110
 go_wp2
 clear hW0
 go_loopw [11] (fun i wr => ∃ j : Nat, j ≤ n + 1 ∧ i = .int .i64 ((n : Int) - (j : Nat)) ∧ Hid (C7 (dvO p V d n j U) (W.heap.size + 1) wr) ∧ Hid (C7 V W.heap.size wr) ∧ Hid (Below W.heap.size W wr)) (fun i _ => (intOf i + 1).toNat)
 case atStart => exact ⟨0, Nat.zero_le _, by go_num, HU0, HV0, HB0⟩
 case round =>
  obtain ⟨j, hj, rfl, KU, KV, KB⟩ := hrel
  by_cases hlt : j < n + 1
  ·obtain ⟨s, hs⟩ : ∃ s, n - j = s := ⟨_, rfl⟩
   have hsi : (n : Int) - (j : Int) = (s : Int) := by omega
   have hs0 : (0 : Int) ≤ (s : Int) := by omega
   obtain ⟨X, hX⟩ : ∃ X, dvO p V d n j U = X := ⟨_, rfl⟩
   rw [hX] at KU
   have HXP : Hid (∀ i, X i < p) := Lib.hid (by rw [← hX]; exact dvO_lt hp0 V d n HU.out j)
   obtain ⟨t, ht⟩ : ∃ t, s + d = t := ⟨_, rfl⟩
   have hti : (s : Int) + (d : Int) = (t : Int) := by omega
   have ht7 : t < 7 := by have := HND.out; omega
   have ht7i : (t : Int) < 7 := by omega
   obtain ⟨top, htop⟩ : ∃ x, X t = x := ⟨_, rfl⟩
   have htp : top < p := by rw [← htop]; exact HXP.out t
   have htc : wr.cell? ⟨W.heap.size + 1, t, none⟩ = some (.int .i64 (top : Nat)) := by rw [KU.out.cell t ht7, htop]
   have HNX : Hid (dvO p V d n (j + 1) U = dvI p V top s (d + 1) X) := Lib.hid (by
    show dvI p V (dvO p V d n j U (n - j + d)) (n - j) (d + 1) (dvO p V d n j U) = _
    rw [hX, hs, ht, htop])
   have HIP : Hid (∀ k i, dvI p V top s k X i < p) := Lib.hid (dvI_lt hp0 V top s HXP.out)
   have HST : Hid (t = s + d) := Lib.hid ht.symm
   have HSJ : Hid (n = s + j) := Lib.hid (by omega)
   have HK0 : Hid (C7 (dvI p V top s 0 X) (W.heap.size + 1) wr) := KU
   have hws := w64 (n := s) (by omega)
   have hwt := w64 (n := t) (by omega)
   rw [hsi]
   clear hX htop ht hs hj
   go_wp2
   clear htc
   go_loopw [13] (fun kk wi => ∃ k : Nat, k ≤ d + 1 ∧ kk = .int .i64 (k : Nat) ∧ Hid (C7 (dvI p V top s k X) (W.heap.size + 1) wi) ∧ Hid (C7 V W.heap.size wi) ∧ Hid (Below W.heap.size W wi)) (fun kk _ => d + 1 - (intOf kk).toNat)
   case atStart => exact ⟨0, Nat.zero_le _, rfl, HK0, KV, KB⟩
   case round =>
    obtain ⟨k, hk, rfl, JU, JV, JB⟩ := hrel
    by_cases hkd : k < d + 1
    ·have hkdi : (k : Int) ≤ (d : Int) := by omega
     obtain ⟨Q, hQ⟩ : ∃ Q, dvI p V top s k X = Q := ⟨_, rfl⟩
     rw [hQ] at JU
     obtain ⟨i, hi⟩ : ∃ i, s + k = i := ⟨_, rfl⟩
     have hii : (s : Int) + (k : Int) = (i : Int) := by omega
     have hi7 : i < 7 := by have := HND.out; have := HSJ.out; omega
     have hi7i : (i : Int) < 7 := by omega
     have hk7 : k < 7 := by omega
     have hk7i : (k : Int) < 7 := by omega
     obtain ⟨u, hu⟩ : ∃ u, Q i = u := ⟨_, rfl⟩
     have hup : u < p := by rw [← hu, ← hQ]; exact HIP.out k i
     obtain ⟨v, hv⟩ : ∃ v, V k = v := ⟨_, rfl⟩
     have hvp : v < p := by rw [← hv]; exact HV.out k
     have hci : wr.drew.cell? ⟨W.heap.size + 1, i, none⟩ = some (.int .i64 (u : Nat)) := by rw [show wr.drew.cell? ⟨W.heap.size + 1, i, none⟩ = wr.cell? ⟨W.heap.size + 1, i, none⟩ from rfl, JU.out.cell i hi7, hu]
     have hfz : wr.drew.frozen? ⟨W.heap.size + 1, i, none⟩ = false := JU.out.fz i
     have hS0 : wr.drew.cell? ⟨W.heap.size, k, none⟩ = some (.int .i64 (v : Nat)) ∧ True := ⟨by rw [show wr.drew.cell? ⟨W.heap.size, k, none⟩ = wr.cell? ⟨W.heap.size, k, none⟩ from rfl, JV.out.cell k hk7, hv], trivial⟩
     obtain ⟨r, hr⟩ : ∃ r, (u + top * (p - v)) % p = r := ⟨_, rfl⟩
     have HSS : Hid (dvI p V top s (k + 1) X = upd Q i r) := Lib.hid (by
      show upd (dvI p V top s k X) (s + k) (subT p (dvI p V top s k X (s + k)) top (V k)) = _
      rw [hQ, hi, hu, hv]; show upd Q i ((u + top * (p - v)) % p) = _; rw [hr])
     have HSB : Hid (Calls Try.prog 109 #[.int .i64 (p : Nat), .int .i64 (u : Nat), .int .i64 (top : Nat), .int .i64 (v : Nat)] wr.drew fun e w' => e = .returned (.int .i64 (r : Nat)) ∧ w' = wr.drew) := Lib.hid (by rw [← hr]; exact subTimes_c hp0 hp6 (by omega) (by omega) (by omega))
     have hwi := w64 (n := i) (by omega)
     have hwk := w64 (n := k) (by omega)
     have HKD := Lib.hid hkd
     have HI7 := Lib.hid hi7
     clear hu hv hr hi hQ hk
     go_wp2
     refine wp_region_held_drew (S := fun w' => w'.cell? ⟨W.heap.size, k, none⟩ = some (.int .i64 (v : Nat)) ∧ True) (by kernel_rfl) (by with_reducible exact hS0) (fun hHeld => ?_)
     refine Rg.tk 0 ⟨some 31,.move (.tmp 11),3,"polynomial.go:85",#[],none⟩ ?_
     try simp only [Rg.gp]
     refine Rg.tk 1 ⟨some 32,.move (.tmp 13),3,"polynomial.go:85",#[],none⟩ ?_
     try simp only [Rg.gp]
     refine Rg.tk 2 ⟨some 33,.binOp BinOp.add 3 (.tmp 31) (.tmp 32) 3,3,"polynomial.go:85",#[⟨0,.data⟩,⟨1,.data⟩],none⟩ ?_
     try simp only [Rg.gp]
     refine Rg.tk 3 ⟨some 34,.move (.tmp 0),3,"polynomial.go:85",#[],none⟩ ?_
     try simp only [Rg.gp]
     refine Rg.tk 4 ⟨some 35,.move (.tmp 11),3,"polynomial.go:85",#[],none⟩ ?_
     try simp only [Rg.gp]
     refine Rg.tk 5 ⟨some 36,.move (.tmp 13),3,"polynomial.go:85",#[],none⟩ ?_
     try simp only [Rg.gp]
     refine Rg.tk 6 ⟨some 37,.binOp BinOp.add 3 (.tmp 35) (.tmp 36) 3,3,"polynomial.go:85",#[⟨4,.data⟩,⟨5,.data⟩],none⟩ ?_
     try simp only [Rg.gp]
     refine Rg.tk 7 ⟨some 38,.indexAddr 114 (.tmp 8) (.tmp 37),0,"polynomial.go:85",#[⟨6,.data⟩],none⟩ ?_
     try simp only [Rg.gp]
     refine Rg.tk 9 ⟨some 40,.move (.tmp 12),3,"polynomial.go:85",#[],none⟩ ?_
     try simp only [Rg.gp]
     refine Rg.tk 10 ⟨some 41,.move (.tmp 13),3,"polynomial.go:85",#[],none⟩ ?_
     try simp only [Rg.gp]
     refine Rg.tk 11 ⟨some 42,.indexAddr 114 (.tmp 6) (.tmp 41),0,"polynomial.go:85",#[⟨10,.data⟩],none⟩ ?_
     try simp only [Rg.gp]
     refine Rg.tk 12 ⟨some 43,.load 3 (.tmp 42),3,"polynomial.go:85",#[⟨11,.data⟩],none⟩ ?_
     try simp only [Rg.gp]
     refine Rg.rd1 8 ⟨some 39,.load 3 (.tmp 38),3,"polynomial.go:85",#[⟨7,.data⟩],none⟩ fun K hK => ?_
     go_simp
     refine hK.out _ _ ?_ (fun hHeld => ?_)
     ·(try dsimp only)
      exact hHeld
     clear hK K
     try simp only [Rg.gp]
     refine Rg.rd1 13 ⟨some 44,.call ⟨.value (.func 109),#[.tmp 34,.tmp 39,.tmp 40,.tmp 43],#[3,3,3,3]⟩,3,"polynomial.go:85",#[⟨3,.data⟩,⟨8,.data⟩,⟨9,.data⟩,⟨12,.data⟩],none⟩ fun K hK => ?_
     go_simp
     go_at_call 109
     with_reducible refine HSB.out.mono ?_
     rintro z v1 ⟨rfl, rfl⟩
     refine hK.out _ _ ?_ (fun hHeld => ?_)
     ·(try dsimp only)
      exact hHeld
     clear hK K
     try simp only [Rg.gp]
     refine Rg.tk 14 ⟨some 45,.indexAddr 114 (.tmp 8) (.tmp 33),0,"polynomial.go:85",#[⟨2,.data⟩,⟨0,.phase⟩,⟨1,.phase⟩,⟨2,.phase⟩,⟨3,.phase⟩,⟨4,.phase⟩,⟨5,.phase⟩,⟨6,.phase⟩,⟨7,.phase⟩,⟨8,.phase⟩,⟨9,.phase⟩,⟨10,.phase⟩,⟨11,.phase⟩,⟨12,.phase⟩,⟨13,.phase⟩],none⟩ ?_
     try simp only [Rg.gp]
     refine Rg.rd1 15 ⟨none,.store 3 (.tmp 45) (.tmp 44),0,"polynomial.go:85",#[⟨14,.data⟩,⟨13,.data⟩,⟨13,.chain⟩,⟨0,.phase⟩,⟨1,.phase⟩,⟨2,.phase⟩,⟨3,.phase⟩,⟨4,.phase⟩,⟨5,.phase⟩,⟨6,.phase⟩,⟨7,.phase⟩,⟨8,.phase⟩,⟨9,.phase⟩,⟨10,.phase⟩,⟨11,.phase⟩,⟨12,.phase⟩,⟨13,.phase⟩],none⟩ fun K hK => ?_
     go_simp
     refine hK.out _ _ ?_ (fun hHeld => ?_)
     ·(try dsimp only)
      exact ⟨(World.cell?_setCell_other _ _ _ _ (by simp)).trans hHeld.1, trivial⟩
     clear hK K
     try simp only [Rg.gp]
     refine wpAnyH_done (by kernel_rfl) ?_ _
     clear hHeld hS0
     have HU3 : Hid (C7 (dvI p V top s (k + 1) X) (W.heap.size + 1) (wr.drew.setCell ⟨W.heap.size + 1, i, none⟩ (.int .i64 (r : Nat)))) := Lib.hid (by
      rw [HSS.out]
      have h := JU.out.set HI7.out r
      exact ⟨h.cell, h.fz⟩)
     have HV3 : Hid (C7 V W.heap.size (wr.drew.setCell ⟨W.heap.size + 1, i, none⟩ (.int .i64 (r : Nat)))) := Lib.hid (JV.out.of (Below.heap_setCell _ _ _ _ (by show W.heap.size ≠ W.heap.size + 1; omega)))
     have HB3 : Hid (Below W.heap.size W (wr.drew.setCell ⟨W.heap.size + 1, i, none⟩ (.int .i64 (r : Nat)))) := Lib.hid (setCell_above JB.out.drew (by omega))
     go_wp2
     go_roundw
     case rel => exact ⟨k + 1, HKD.out, by go_num, HU3, HV3, HB3⟩
     case measure => have h := HKD.out; (try simp [intOf]); (try omega)
    ·have hkdi : ¬ (k : Int) ≤ (d : Int) := by omega
     obtain rfl : k = d + 1 := by omega
     rw [← HNX.out] at JU
     have hstep : IntKind.i64.wrap ((s : Int) - 1) = (n : Int) - ((j + 1 : Nat) : Int) := (IntWalk.i64_in _ (by omega)).trans (by have := HSJ.out; omega)
     have HJN : Hid (j + 1 ≤ n + 1) := Lib.hid (by have := HSJ.out; omega)
     clear hk
     go_wp2
     go_roundw
     case rel => exact ⟨j + 1, HJN.out, by first | (refine congrArg _ ?_; have := HSJ.out; omega) | go_num, JU, JV, JB⟩
     case measure => have h1 := HSJ.out; (try simp [intOf]); (try omega)
  ·obtain rfl : j = n + 1 := by omega
   have h1 : (n : Int) - ((n + 1 : Nat) : Int) = -1 := by omega
   rw [h1]
   obtain ⟨Q, hQ⟩ : ∃ Q, dvO p V d n (n + 1) U = Q := ⟨_, rfl⟩
   rw [hQ] at KU
   have HQQ := Lib.hid hQ
   have c0 := KU.out.cell 0 (by decide)
   have c1 := KU.out.cell 1 (by decide)
   have c2 := KU.out.cell 2 (by decide)
   have c3 := KU.out.cell 3 (by decide)
   have c4 := KU.out.cell 4 (by decide)
   have c5 := KU.out.cell 5 (by decide)
   have c6 := KU.out.cell 6 (by decide)
   have HKB := Lib.hid KB.out
   have he := eq103 Q wr
   clear hj hQ
   go_wp2
   go_ret
   exact ⟨by rw [HQQ.out]; rfl, HKB.out⟩
end Go.Proofs.Ytdafhhojiioifaa

/- irreducible, leastFactor, divideOut. -/
namespace Go.Proofs.Ytdafhhojiioifaa
open Go.RowKit Go.Fl
set_option maxRecDepth 100000
set_option linter.unusedVariables false
set_option linter.unusedSimpArgs false
set_option linter.unusedSectionVars false
/-- no divisor of degree d from the number m on -/
def pirN {p : Nat} (hp : 0 < p) (d e n : Nat) : Nat → Nat → Bool
 | 0, _ => true
 | k + 1, m => bif z7b (dvO p (expV hp m) d (e - d) (e - d + 1) (expV hp n)) then false else pirN hp d e n k (Nat.succ m)
def pirD {p : Nat} (hp : 0 < p) (e n : Nat) : Nat → Nat → Nat → Bool
 | 0, _, _ => true
 | j + 1, d, f => bif Nat.ble (Nat.mul 2 d) e then (bif pirN hp d e n f f then pirD hp e n j (Nat.succ d) (Nat.mul f p) else false) else true
def pir {p : Nat} (hp : 0 < p) (e n : Nat) : Bool := pirD hp e n 6 1 p
set_option maxHeartbeats 6400000 in
theorem pirr_c {p e n : Nat} (hp0 : 0 < p) (hp6 : p ≤ 64) (he : e ≤ 6) (hn : n ≤ 1000) (hpw : ∀ d, 2 * d ≤ e → p ^ d ≤ 1000) {W : World} :
  Calls Try.prog 106 #[.int .i64 (p : Nat), .int .i64 (e : Nat), .int .i64 (n : Nat)] W fun r w' => r = .returned (.bool (pir hp0 e n)) ∧ Below W.heap.size W w' := by
 obtain ⟨B, hB⟩ : ∃ B, pir hp0 e n = B := ⟨_, rfl⟩
 rw [hB]
 have HB : Hid (pirD hp0 e n 6 1 p = B) := Lib.hid hB
 have HPW := Lib.hid hpw
 clear hB hpw
 go_enter Try.func106, Try.ntmps106
 go_wp2
 go_loopw [7, 8] (fun x i wr => ∃ d f k : Nat, 1 ≤ d ∧ d ≤ 4 ∧ d + k = 7 ∧ x = .int .i64 (f : Nat) ∧ i = .int .i64 (d : Nat) ∧ f ≤ 64000 ∧ Hid (p ^ d = f) ∧ Hid (pirD hp0 e n k d f = B) ∧ Hid (Below W.heap.size W wr)) (fun _ i _ => 20 - (intOf i).toNat)
 case atStart => exact ⟨1, p, 6, by decide, by decide, rfl, rfl, rfl, by omega, Lib.hid (Nat.pow_one p), HB, Lib.hid (Below.refl _ _)⟩
 case round =>
  obtain ⟨d, f, k, hd1, hd4, hdk, rfl, rfl, hf, HF, HI, KB⟩ := hrel
  obtain ⟨k', rfl⟩ : ∃ j, k = j + 1 := ⟨k - 1, by omega⟩
  by_cases hle : 2 * d ≤ e
  ·have hlei : 2 * (d : Int) ≤ (e : Int) := by omega
   have hd3 : d ≤ 3 := by omega
   have hf1 : f ≤ 1000 := by rw [← HF.out]; exact HPW.out d hle
   obtain ⟨f2, hf2⟩ : ∃ x, f * p = x := ⟨_, rfl⟩
   have hf2i : (f : Int) * (p : Int) = (f2 : Int) := by rw [← hf2]; exact (Int.natCast_mul _ _).symm
   have hf2b : f2 ≤ 1000 * 64 := by rw [← hf2]; exact Nat.mul_le_mul hf1 hp6
   have HF2 : Hid (p ^ (d + 1) = f2) := Lib.hid (by rw [Nat.pow_succ, HF.out, hf2])
   obtain ⟨C, hC⟩ : ∃ C, pirN hp0 d e n f f = C := ⟨_, rfl⟩
   have HI2 : Hid ((bif C then pirD hp0 e n k' (d + 1) f2 else false) = B) := Lib.hid (by
    rw [← HI.out]
    show _ = bif Nat.ble (2 * d) e then (bif pirN hp0 d e n f f then pirD hp0 e n k' (d + 1) (f * p) else false) else true
    rw [hC, hf2, Nat.ble_eq_true_of_le hle]; rfl)
   have HC := Lib.hid hC
   have hwf := w64 (n := f2) (Nat.lt_of_le_of_lt hf2b (by decide))
   clear hC hf2
   go_wp2
   go_loopw [9] (fun i wi => ∃ t j : Nat, t + j = 2 * f ∧ i = .int .i64 (t : Nat) ∧ Hid (pirN hp0 d e n j t = C) ∧ Hid (Below W.heap.size W wi)) (fun i _ => 2 * f - (intOf i).toNat)
   case atStart => exact ⟨f, f, by omega, rfl, HC, KB⟩
   case round =>
    obtain ⟨t, j, htj, rfl, HT, JB⟩ := hrel
    by_cases hlt : t < 2 * f
    ·have hlti : (t : Int) < 2 * (f : Int) := by omega
     obtain ⟨j', rfl⟩ : ∃ i, j = i + 1 := ⟨j - 1, by omega⟩
     obtain ⟨V, hV⟩ : ∃ V, expV hp0 t = V := ⟨_, rfl⟩
     obtain ⟨U, hU⟩ : ∃ U, expV hp0 n = U := ⟨_, rfl⟩
     have HVC : Hid (∀ w, Calls Try.prog 99 #[.int .i64 (p : Nat), .int .i64 (t : Nat)] w fun r w' => r = .returned (AV V) ∧ Below w.heap.size w w') := Lib.hid fun w => by rw [← hV]; exact expand_c hp0 hp6 (by omega)
     have HUC : Hid (∀ w, Calls Try.prog 99 #[.int .i64 (p : Nat), .int .i64 (n : Nat)] w fun r w' => r = .returned (AV U) ∧ Below w.heap.size w w') := Lib.hid fun w => by rw [← hU]; exact expand_c hp0 hp6 (by omega)
     obtain ⟨Z, hZ⟩ : ∃ Z, z7b (dvO p V d (e - d) (e - d + 1) U) = Z := ⟨_, rfl⟩
     have HDC : Hid (∀ w, Calls Try.prog 110 #[.int .i64 (p : Nat), AV V, .int .i64 (d : Nat), AV U, .int .i64 (e : Nat)] w fun r w' => r = .returned (.bool Z) ∧ Below w.heap.size w w') := Lib.hid fun w => by
      rw [← hZ]; exact divides_c hp0 hp6 (by rw [← hV]; exact expV_lt hp0 t) (by rw [← hU]; exact expV_lt hp0 n) (by omega) he
     have HT2 : Hid ((bif Z then false else pirN hp0 d e n j' (t + 1)) = C) := Lib.hid (by rw [← HT.out, ← hZ, ← hV, ← hU]; rfl)
     clear hV hU hZ
     go_wp2_with fail
     refine (HVC.out _).mono ?_
     rintro z w1 ⟨rfl, hb1⟩
     have HB1 := Lib.hid (JB.out.trans (hb1.mono JB.out.size))
     clear hb1
     go_wp2_with fail
     refine (HUC.out _).mono ?_
     rintro z w2 ⟨rfl, hb2⟩
     have HB2 := Lib.hid (HB1.out.trans (hb2.mono HB1.out.size))
     clear hb2
     go_wp2_with fail
     refine (HDC.out _).mono ?_
     rintro z w3 ⟨rfl, hb3⟩
     have HB3 := Lib.hid (HB2.out.trans (hb3.mono HB2.out.size))
     clear hb3
     cases Z with
     | true =>
      have HE : Hid (B = false) := Lib.hid (by rw [← HI2.out, ← HT2.out]; rfl)
      go_wp2
      go_ret
      exact ⟨by rw [HE.out]; rfl, HB3.out⟩
     | false =>
      have HT3 : Hid (pirN hp0 d e n j' (t + 1) = C) := Lib.hid HT2.out
      have htb : t < 10000 := by omega
      go_wp2
      go_roundw
      case rel => exact ⟨t + 1, j', by omega, by go_num, HT3, HB3⟩
      case measure => (try simp [intOf]); (try omega)
    ·have hlti : ¬ (t : Int) < 2 * (f : Int) := by omega
     obtain rfl : j = 0 := by omega
     have HE : Hid (pirD hp0 e n k' (d + 1) f2 = B) := Lib.hid (by rw [← HI2.out, ← HT.out]; rfl)
     go_wp2
     go_roundw
     case rel => exact ⟨d + 1, f2, k', by omega, by omega, by omega, rfl, by go_num, by omega, HF2, HE, JB⟩
     case measure => (try simp [intOf]); (try omega)
  ·have hlei : ¬ 2 * (d : Int) ≤ (e : Int) := by omega
   have HE : Hid (B = true) := Lib.hid (by
    rw [← HI.out]
    show (bif Nat.ble (2 * d) e then _ else true) = true
    cases hb : Nat.ble (2 * d) e with
    | true => exact (hle (Nat.le_of_ble_eq_true hb)).elim
    | false => rfl)
   go_wp2
   go_ret
   exact ⟨by rw [HE.out]; rfl, KB.out⟩
def lfN (q : Nat) : Nat → Nat → Nat
 | 0, p => p
 | k + 1, p => bif Nat.beq (Nat.mod q p) 0 then p else lfN q k (Nat.succ p)
set_option maxHeartbeats 3200000 in
theorem leastF_c {q r : Nat} (hq : q ≤ 64) (hr : lfN q 64 2 = r) (hr6 : r ≤ 64) {W : World} : Calls Try.prog 92 #[.int .i64 (q : Nat)] W fun e w' => e = .returned (.int .i64 (r : Nat)) ∧ w' = W := by
 have HR := Lib.hid hr
 clear hr
 go_enter Try.func92, Try.ntmps92
 go_wp2
 go_loopw [3] (fun i wr => ∃ p k : Nat, 2 ≤ p ∧ p + k = 66 ∧ i = .int .i64 (p : Nat) ∧ Hid (lfN q k p = r) ∧ wr = W) (fun i _ => 70 - (intOf i).toNat)
 case atStart => exact ⟨2, 64, by decide, rfl, rfl, HR, rfl⟩
 case round =>
  obtain ⟨p, k, hp2, hpk, rfl, HK, rfl⟩ := hrel
  obtain ⟨k', rfl⟩ : ∃ j, k = j + 1 := ⟨k - 1, by
   rcases Nat.eq_zero_or_pos k with h | h
   ·subst h
    have : p = r := HK.out
    omega
   ·omega⟩
  obtain ⟨t, ht⟩ : ∃ t, q % p = t := ⟨_, rfl⟩
  have hti : (q : Int) % (p : Int) = (t : Int) := by rw [← ht]; exact (Int.natCast_emod _ _).symm
  have htt : (q : Int).tmod (p : Int) = (t : Int) := by rw [Int.tmod_eq_emod_of_nonneg (by omega)]; exact hti
  have htp : t < p := by rw [← ht]; exact Nat.mod_lt _ (by omega)
  have hpz : ((p : Int) == 0) = false := by simp; omega
  have hpz2 : ¬ p = 0 := by omega
  have HK2 : Hid ((bif Nat.beq t 0 then p else lfN q k' (p + 1)) = r) := Lib.hid (by rw [← HK.out, ← ht]; rfl)
  have hwt := w64 (n := t) (by omega)
  clear ht
  by_cases h0 : t = 0
  ·subst h0
   have HE : Hid (p = r) := Lib.hid HK2.out
   go_wp2
   go_ret
   exact ⟨by rw [← HE.out]; rfl, by first | trivial | rfl⟩
  ·have h0i : ((t : Int) != 0) = true := by simpa using h0
   have HK3 : Hid (lfN q k' (p + 1) = r) := Lib.hid (by
    rw [← HK2.out]
    cases hb : Nat.beq t 0 with
    | true => exact (h0 (Nat.eq_of_beq_eq_true hb)).elim
    | false => rfl)
   go_wp2
   go_roundw
   case rel => exact ⟨p + 1, k', by omega, by omega, by go_num, HK3, trivial⟩
   case measure => (try simp [intOf]); (try omega)
def doF (p : Nat) : Nat → Nat → Nat → Nat × Nat
 | 0, r, t => (r, t)
 | k + 1, r, t => bif Nat.beq (Nat.mod r p) 0 then doF p k (Nat.div r p) (Nat.succ t) else (r, t)
set_option maxHeartbeats 3200000 in
theorem divOut_c {q p a b : Nat} (hq : q ≤ 64) (hp2 : 2 ≤ p) (hp6 : p ≤ 64) (hr : doF p 10 q 0 = (a, b)) (hb : b ≤ 6) {W : World} : Calls Try.prog 93 #[.int .i64 (q : Nat), .int .i64 (p : Nat)] W fun e w' => e = .returned (.tuple #[.int .i64 (a : Nat), .int .i64 (b : Nat)]) ∧ w' = W := by
 have HR := Lib.hid hr
 have hpz : ((p : Int) == 0) = false := by simp; omega
 have hpz2 : ¬ p = 0 := by omega
 clear hr
 go_enter Try.func93, Try.ntmps93
 go_wp2
 go_loopw [4, 5] (fun x y wr => ∃ r t k : Nat, r ≤ 64 ∧ t + k = 10 ∧ x = .int .i64 (r : Nat) ∧ y = .int .i64 (t : Nat) ∧ Hid (doF p k r t = (a, b)) ∧ wr = W) (fun _ y _ => 20 - (intOf y).toNat)
 case atStart => exact ⟨q, 0, 10, hq, rfl, rfl, rfl, HR, rfl⟩
 case round =>
  obtain ⟨r, t, k, hr6, htk, rfl, rfl, HK, rfl⟩ := hrel
  obtain ⟨k', rfl⟩ : ∃ j, k = j + 1 := ⟨k - 1, by
   rcases Nat.eq_zero_or_pos k with h | h
   ·subst h
    have h9 : (r, t) = (a, b) := HK.out
    injection h9 with _ h9
    omega
   ·omega⟩
  obtain ⟨m, hm⟩ : ∃ m, r % p = m := ⟨_, rfl⟩
  have hmi : (r : Int) % (p : Int) = (m : Int) := by rw [← hm]; exact (Int.natCast_emod _ _).symm
  have hmt : (r : Int).tmod (p : Int) = (m : Int) := by rw [Int.tmod_eq_emod_of_nonneg (by omega)]; exact hmi
  have hmp : m < p := by rw [← hm]; exact Nat.mod_lt _ (by omega)
  obtain ⟨s, hs⟩ : ∃ s, r / p = s := ⟨_, rfl⟩
  have hsi : (r : Int) / (p : Int) = (s : Int) := by rw [← hs]; exact (Int.natCast_ediv _ _).symm
  have hst : (r : Int).tdiv (p : Int) = (s : Int) := by rw [Int.tdiv_eq_ediv_of_nonneg (by omega)]; exact hsi
  have hsr : s ≤ r := by rw [← hs]; exact Nat.div_le_self _ _
  have HK2 : Hid ((bif Nat.beq m 0 then doF p k' s (t + 1) else (r, t)) = (a, b)) := Lib.hid (by rw [← HK.out, ← hm, ← hs]; rfl)
  have HSR := Lib.hid hsr
  have hwm := w64 (n := m) (by omega)
  have hws := w64 (n := s) (by omega)
  clear hm hs hsr
  by_cases h0 : m = 0
  ·subst h0
   have HK3 : Hid (doF p k' s (t + 1) = (a, b)) := Lib.hid HK2.out
   go_wp2
   go_roundw
   case rel => exact ⟨s, t + 1, k', by have := HSR.out; omega, by omega, rfl, by go_num, HK3, trivial⟩
   case measure => (try simp [intOf]); (try omega)
  ·have h0i : ((m : Int) == 0) = false := by simpa using h0
   have HE : Hid (r = a ∧ t = b) := Lib.hid (by
    have h9 := HK2.out
    cases hb2 : Nat.beq m 0 with
    | true => exact (h0 (Nat.eq_of_beq_eq_true hb2)).elim
    | false => rw [hb2] at h9; injection h9 with h9 h10; exact ⟨h9, h10⟩)
   go_wp2
   exact bodyPost_ret (v := .tuple #[.int .i64 (r : Nat), .int .i64 (t : Nat)]) (by simp [results, Try.results93, go_sem]) rfl ⟨by rw [HE.out.1, HE.out.2], by first | trivial | rfl⟩
end Go.Proofs.Ytdafhhojiioifaa
