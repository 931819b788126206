/- Inverses by trial; a vector cleared by the rows of a matrix: the reference's. -/
import Derived.Test.YtdafhhojiioifaaCu
import Derived.Test.YtdafhhojiioifaaEvRq
namespace Go.Proofs.Ytdafhhojiioifaa
open Go.RowKit Go.Fl
set_option maxRecDepth 100000
set_option linter.unusedVariables false
set_option linter.unusedSimpArgs false
set_option linter.unusedSectionVars false
abbrev FBx (B : Nat) (F : Gf) (b cap : Nat) (w : World) : Prop := w.cell? ⟨B, 0, none⟩ = some (.int .i64 F.p) ∧ w.cell? ⟨B, 1, none⟩ = some (.int .i64 F.e) ∧ w.cell? ⟨B, 2, none⟩ = some (FM F b cap)
theorem FBx.below {B b cap : Nat} {F : Gf} {w w' : World} (h : FBx B F b cap w) (hb : Below w.heap.size w w') (hB : B < w.heap.size) : FBx B F b cap w' := ⟨(hb.cell hB).trans h.1, (hb.cell hB).trans h.2.1, (hb.cell hB).trans h.2.2⟩
theorem FBx.new (W : World) (F : Gf) (b cap : Nat) : FBx W.heap.size F b cap (W.alloc (.cells #[.int .i64 F.p, .int .i64 F.e, FM F b cap] 53)) := ⟨World.cell?_alloc_at _ _ _ _ rfl, World.cell?_alloc_at _ _ _ _ rfl, World.cell?_alloc_at _ _ _ _ rfl⟩
theorem inv_uniq {F : Gf} (hF : Ok F) {x k : Nat} (hx : x < F.q) (h0 : x ≠ 0) (hk : k < F.q) (h : F.mul x k = 1) : k = F.inv x := by
 have h1 : F.mul (F.inv x) (F.mul x k) = F.inv x := by rw [h, hF.mul_one (hF.inv_lt x)]
 rwa [← hF.mul_assoc, Ok.mul_comm (F.inv x), hF.mul_inv hx h0, hF.one_mul hk] at h1
set_option maxHeartbeats 3200000 in
theorem rinv_c {F : Gf} {b cap x : Nat} {W : World} (hA : FldAt F b cap W) (hx : x < F.q) (h0 : x ≠ 0) :
  Calls Try.prog 78 #[FV F b cap, .int .i64 (x : Nat)] W fun e w' => e = .returned (.tuple #[.int .i64 (F.inv x : Nat), .int .i64 0]) ∧ Below W.heap.size W w' := by
 have HFF : Hid (Ok F) := Lib.hid (ok_mem hA.mem)
 obtain ⟨w1, hw1⟩ : ∃ w1, w1 = (W.alloc (.cells #[.int .i64 F.p, .int .i64 F.e, FM F b cap] 53)) := ⟨_, rfl⟩
 have HAL : Hid (Below W.heap.size W w1) := Lib.hid (by rw [hw1]; exact (Below.refl _ _).alloc (Nat.le_refl _) _)
 have HS1 : Hid (W.heap.size < w1.heap.size) := Lib.hid (by rw [hw1]; simp)
 have HFB : Hid (FBx W.heap.size F b cap w1) := Lib.hid (by rw [hw1]; exact FBx.new W F b cap)
 have HF1 := Lib.hid (hA.below HAL.out)
 have HW1 := Lib.hid hw1
 obtain ⟨q, hq⟩ : ∃ q, Hid (F.q = q) := ⟨_, Lib.hid rfl⟩
 obtain ⟨v, hv⟩ : ∃ v, Hid (F.inv x = v) := ⟨_, Lib.hid rfl⟩
 have hvq : v < q := by rw [← hv.out, ← hq.out]; exact HFF.out.inv_lt x
 have hv1 : 1 ≤ v := by rw [← hv.out]; exact Nat.pos_of_ne_zero (HFF.out.inv_ne x)
 have hq64 : q ≤ 64 := by rw [← hq.out]; exact HFF.out.q64
 have HX := Lib.hid hx
 have H0 := Lib.hid h0
 have HVV : Hid (F.mul x v = 1) := Lib.hid (by rw [← hv.out]; exact HFF.out.mul_inv hx h0)
 have hx0 : ¬ (x : Int) = 0 := by omega
 have hx0b : ((x : Int) == 0) = false := by simp; omega
 rw [hv.out]
 clear hA hw1 hx h0
 go_enter Try.func78, Try.ntmps78
 go_wp2
 rw [← HW1.out]
 clear HW1
 go_loopw [6] (fun i wr => ∃ k : Nat, 1 ≤ k ∧ k ≤ v ∧ i = .int .i64 k ∧ Hid (Below w1.heap.size w1 wr)) (fun i _ => v + 1 - (intOf i).toNat)
 case atStart => exact ⟨1, Nat.le_refl _, hv1, rfl, Below.refl _ _⟩
 case round =>
  obtain ⟨k, hk1, hkv, rfl, KB⟩ := hrel
  obtain ⟨wo, hwo⟩ : ∃ w, w = wr := ⟨_, rfl⟩
  subst hwo
  have hkq : (k : Int) < (q : Int) := by omega
  have HSZ : Hid (Calls Try.prog 96 #[FV F b cap] wo fun e w' => e = .returned (.int .i64 (q : Nat)) ∧ Below wo.heap.size wo w') := Lib.hid (by have t := rsize_c (HF1.out.below KB.out); rw [hq.out] at t; exact t)
  obtain ⟨x0, x1, x2⟩ := HFB.out.below KB.out HS1.out
  go_wp2_with fail
  with_reducible refine HSZ.out.mono ?_
  rintro e w2 ⟨rfl, hb2⟩
  have HB2 : Hid (Below w1.heap.size w1 w2) := Lib.hid (KB.out.trans (hb2.mono KB.out.size))
  clear hb2 x0 x1 x2 HSZ
  obtain ⟨x0, x1, x2⟩ := HFB.out.below HB2.out HS1.out
  obtain ⟨y, hy⟩ : ∃ y, Hid (F.mul x k = y) := ⟨_, Lib.hid rfl⟩
  have HML : Hid (Calls Try.prog 72 #[FV F b cap, .int .i64 (x : Nat), .int .i64 (k : Nat)] w2 fun e w' => e = .returned (.int .i64 (y : Nat)) ∧ Below w2.heap.size w2 w') := Lib.hid (by have t := rmul_c HX.out (show k < F.q by rw [hq.out]; omega) (HF1.out.below HB2.out); rw [hy.out] at t; exact t)
  go_wp2_with fail
  with_reducible refine HML.out.mono ?_
  rintro e w3 ⟨rfl, hb3⟩
  have HB3 : Hid (Below w1.heap.size w1 w3) := Lib.hid (HB2.out.trans (hb3.mono HB2.out.size))
  clear hb3 x0 x1 x2 HML
  by_cases hkv2 : k = v
  ·have hy1 : y = 1 := by rw [← hy.out, hkv2]; exact HVV.out
   subst hkv2
   subst hy1
   have HBF : Hid (Below W.heap.size W w3) := Lib.hid (HAL.out.trans (HB3.out.mono HAL.out.size))
   go_wp2
   refine bodyPost_ret (v := .tuple #[.int .i64 (k : Nat), .int .i64 0]) (by simp [results, Try.results78, go_sem]) rfl ?_
   exact ⟨rfl, HBF.out⟩
  ·have hy1 : ¬ (y : Int) = 1 := fun e => hkv2 ((inv_uniq HFF.out HX.out H0.out (by rw [hq.out]; omega) (by rw [hy.out]; omega)).trans hv.out)
   have hy1b : ((y : Int) == 1) = false := by simp; omega
   go_wp2
   go_roundw
   case rel => exact ⟨k + 1, by omega, by omega, by go_num, HB3⟩
   case measure => simp [intOf]; omega
end Go.Proofs.Ytdafhhojiioifaa
