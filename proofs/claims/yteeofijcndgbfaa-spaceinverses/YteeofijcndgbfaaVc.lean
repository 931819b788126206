/- A square matrix of the law; a unit vector. -/
import Derived.Test.YteeofijcndgbfaaVb
import Derived.Test.YteeofijcndgbfaaTs
namespace Go.Proofs.Yteeofijcndgbfaa
open Go.RowKit Go.Fl
set_option maxRecDepth 100000
set_option linter.unusedVariables false
set_option linter.unusedSimpArgs false
set_option linter.unusedSectionVars false
set_option maxHeartbeats 1600000 in
theorem square_c {F : Gf} {b cap n l ca : Nat} {aa : Option Addr} {W : World} (hA : FldAt F b cap W) (h1 : 1 ≤ n) (hn : n ≤ 6) (hl : l ≤ maxLen) (na : N16 l W (.slice aa l ca)) :
  Calls Try.prog 32 #[FV F b cap, .int .i64 (n : Nat), .slice aa l ca] W fun e w' => ∃ R, Mn F n R ∧ R.length = n ∧ MPn R n W e w' := by
 obtain ⟨w1, hw1⟩ : ∃ w1, w1 = W.alloc (.cells #[.int .i64 F.p, .int .i64 F.e, FM F b cap] 29) := ⟨_, rfl⟩
 have HAL : Hid (Below W.heap.size W w1) := Lib.hid (by rw [hw1]; exact (Below.refl _ _).alloc (Nat.le_refl _) _)
 have HFB : Hid (FBx W.heap.size F b cap w1) := Lib.hid (by rw [hw1]; exact FBx.new W F b cap)
 have HJ : Hid (Calls Try.prog 11 #[FV F b cap, .int .i64 (n : Nat), .int .i64 (n : Nat), .slice aa l ca] w1 (RwsP F n n w1)) := Lib.hid (rows_c (hA.below HAL.out) h1 (by omega) hn hl (na.below HAL.out))
 have HW1 := Lib.hid hw1
 obtain ⟨x0, x1, x2⟩ := HFB.out
 clear hA na hw1
 go_enter Try.func32, Try.ntmps32
 go_wp2_with fail
 try rw [← HW1.out]
 try go_wp2_with fail
 with_reducible refine HJ.out.mono ?_
 rintro z w2 ⟨R, hR, hl2, a, c, rfl, hm2, hb⟩
 rw [hl2] at hm2 ⊢
 have HB := Lib.hid (HAL.out.trans (hb.mono HAL.out.size))
 have HM := Lib.hid hm2
 have HR := Lib.hid hR
 have HL := Lib.hid hl2
 clear hm2 hb hR hl2
 go_wp2
 go_ret
 exact ⟨R, HR.out, HL.out, a, c, rfl, HM.out, HB.out⟩
set_option maxHeartbeats 1600000 in
theorem unit_c {n k : Nat} {W : World} (hn : n ≤ 100) (hlt : k < n) : Calls Try.prog 48 #[.int .i64 (n : Nat), .int .i64 (k : Nat)] W (VPn (eL n k) n W) := by
 obtain ⟨i0, hi, hz0, hz1, hz2⟩ := info_parts info3
 go_enter Try.func48, Try.ntmps48
 go_wp2_with (refine wpList_make_full _ rfl _ _ 27 rfl 0 3 i0 (.int .i64 0) 1 Try.underlying27 hi hz0 hz1 .i64 .i64 (n : Int) (n : Int) n rfl rfl rfl rfl (by rw [hz2]; omega) (by unfold maxLen; omega) (Nat.zero_le _) ?_)
 intro w7 hown hgrow
 have HROW : Hid (Row (List.replicate n 0) W.heap.size w7) := Lib.hid (Row.of_own (n := n) (base := 0) (by
  have e := toList_madeCells_one (Value.int .i64 0) n
  rw [List.map_replicate, show N64 0 = Value.int .i64 0 from rfl, ← e]
  simpa using hown) (by simp))
 have HG7 : Hid (Bx (fun _ => False) W w7) := Lib.hid (Bx.of ((Below.refl _ _).grown hgrow (by simp) (fun k hk => by cases hk)))
 have hf7 : w7.frozen? ⟨W.heap.size, k, none⟩ = false := HROW.out.frozen k
 have hc7 : w7.cell? ⟨W.heap.size, k, none⟩ = some (.int .i64 0) := by
  rw [HROW.out.cell (by simpa using hlt)]; simp [hlt]
 obtain ⟨w8, hw8⟩ : ∃ w8, w8 = (w7.setCell ⟨W.heap.size, k, none⟩ (.int .i64 1)) := ⟨_, rfl⟩
 have hb8 : Bx (fun j => j = W.heap.size) w7 w8 := by rw [hw8]; exact Bx.set (S := fun j => j = W.heap.size) rfl _
 have HX8 : Hid (Rw (eL n k) W.heap.size w8) := Lib.hid (by rw [hw8]; exact HROW.out.rw'.set k 1 trivial)
 have HG8 : Hid (Below W.heap.size W w8) := Lib.hid (Bx.below (((HG7.out.mono (T := fun j => j = W.heap.size) fun _ e => e.elim).trans hb8).old fun k hk e => by omega) (Nat.le_refl _) fun _ e => e.elim)
 have HW8 := Lib.hid hw8
 clear hown hgrow HROW HG7 hb8 hw8
 go_wp2
 go_ret
 rw [← HW8.out]
 exact ⟨_, _, rfl, .inr ⟨W.heap.size, 0, n, by simp, by simp, HX8.out.lt, fun t ht => by rw [Nat.zero_add]; exact HX8.out.cell t ht⟩, HG8.out⟩
end Go.Proofs.Yteeofijcndgbfaa
