/- The code of a long row. -/
import Derived.Test.YtdafhhojiioifaaEf
import Derived.Test.YtdafhhojiioifaaEm
namespace Go.Proofs.Ytdafhhojiioifaa
open Go.RowKit Go.Fl
set_option maxRecDepth 100000
set_option linter.unusedVariables false
set_option linter.unusedSimpArgs false
set_option linter.unusedSectionVars false

open Go.RowKit
/-- what is known of the code of the row with 1 everywhere, and of its dual -/
structure LongRow (kk kd : Nat) (G1 G2 : List (List Nat)) : Prop where
 mak : ∀ w a c, MM [List.replicate kk 1] w (.slice a 1 c) → Calls Try.prog 12 #[.int .i64 2, .int .i64 (kk : Nat), .slice a 1 c] w fun e w' => ∃ a c, e = .returned (.tuple #[.agg #[.int .i64 2, .int .i64 (kk : Nat), .slice a 1 c], .int .i64 0]) ∧ MM G1 w' (.slice a 1 c) ∧ Below w.heap.size w w'
 du : ∀ w a c, MM G1 w (.slice a 1 c) → Calls Try.prog 26 #[.agg #[.int .i64 2, .int .i64 (kk : Nat), .slice a 1 c]] w fun e w' => ∃ a c, e = .returned (.agg #[.int .i64 2, .int .i64 (kk : Nat), .slice a kd c]) ∧ MM G2 w' (.slice a kd c) ∧ Below w.heap.size w w'
 va : ∀ w a c, MM G2 w (.slice a kd c) → Calls Try.prog 15 #[.agg #[.int .i64 2, .int .i64 (kk : Nat), .slice a kd c]] w fun e w' => e = .returned (.bool true) ∧ Below w.heap.size w w'
 dm : ∀ w a c, MM G2 w (.slice a kd c) → Calls Try.prog 37 #[.agg #[.int .i64 2, .int .i64 (kk : Nat), .slice a kd c]] w fun e w' => e = .returned (.int .i64 (kd : Nat)) ∧ Below w.heap.size w w'
 big : (12 < kd → ∀ w a c, MM G2 w (.slice a kd c) → Calls Try.prog 48 #[.agg #[.int .i64 2, .int .i64 (kk : Nat), .slice a kd c]] w fun e w' => e = .returned (.tuple #[.slice none 0 0, .int .i64 2]) ∧ Below w.heap.size w w') ∧
  (12 < kd → ∀ w a c, MM G2 w (.slice a kd c) → Calls Try.prog 12 #[.int .i64 2, .int .i64 (kk : Nat), .slice a kd c] w fun e w' => e = .returned (.tuple #[.agg #[.int .i64 0, .int .i64 0, .slice none 0 0], .int .i64 2]) ∧ Below w.heap.size w w') ∧
  (12 < kd → ∀ w a c, MM G2 w (.slice a kd c) → Calls Try.prog 28 #[.agg #[.int .i64 2, .int .i64 (kk : Nat), .slice a kd c]] w fun e w' => e = .returned (.tuple #[.slice none 0 0, .int .i64 2]) ∧ Below w.heap.size w w') ∧
  (12 < kd → ∀ w a c, MM G2 w (.slice a kd c) → Calls Try.prog 31 #[.agg #[.int .i64 2, .int .i64 (kk : Nat), .slice a kd c]] w fun e w' => e = .returned (.tuple #[.int .i64 0, .int .i64 2]) ∧ Below w.heap.size w w') ∧
  (12 < kd → ∀ w a c, MM G2 w (.slice a kd c) → Calls Try.prog 35 #[.agg #[.int .i64 2, .int .i64 (kk : Nat), .slice a kd c]] w fun e w' => e = .returned (.int .i64 4097) ∧ Below w.heap.size w w')
 small : (¬ 12 < kd → ∀ w a c, MM G2 w (.slice a kd c) → Calls Try.prog 48 #[.agg #[.int .i64 2, .int .i64 (kk : Nat), .slice a kd c]] w fun e w' => ∃ a l c, e = .returned (.tuple #[.slice a l c, .int .i64 0]) ∧ Below w.heap.size w w') ∧
  (¬ 12 < kd → ∀ w a c, MM G2 w (.slice a kd c) → Calls Try.prog 12 #[.int .i64 2, .int .i64 (kk : Nat), .slice a kd c] w fun e w' => ∃ a c, e = .returned (.tuple #[.agg #[.int .i64 2, .int .i64 (kk : Nat), .slice a kd c], .int .i64 0]) ∧ Below w.heap.size w w') ∧
  (¬ 12 < kd → ∀ w a c, MM G2 w (.slice a kd c) → Calls Try.prog 28 #[.agg #[.int .i64 2, .int .i64 (kk : Nat), .slice a kd c]] w fun e w' => ∃ a l c, e = .returned (.tuple #[.slice a l c, .int .i64 0]) ∧ Below w.heap.size w w') ∧
  (¬ 12 < kd → ∀ w a c, MM G2 w (.slice a kd c) → Calls Try.prog 31 #[.agg #[.int .i64 2, .int .i64 (kk : Nat), .slice a kd c]] w fun e w' => ∃ d : Nat, e = .returned (.tuple #[.int .i64 (d : Nat), .int .i64 0]) ∧ Below w.heap.size w w') ∧
  (¬ 12 < kd → ∀ w a c, MM G2 w (.slice a kd c) → Calls Try.prog 35 #[.agg #[.int .i64 2, .int .i64 (kk : Nat), .slice a kd c]] w fun e w' => e = .returned (.int .i64 ((2 ^ kd : Nat) : Int)) ∧ Below w.heap.size w w')
theorem cnK_big {q : Nat} (hq : 2 ≤ q) : ∀ {k : Nat}, 12 < k → cnK q k = 4097
 | k + 1, h => by
  have h1 : 4097 ≤ cnK q k * q := by
   by_cases e : 12 < k
   ·rw [cnK_big hq e]; omega
   ·have e2 : k = 12 := by omega
    subst e2
    by_cases h4 : q ^ 12 ≤ 4096
    ·rw [cnK_eq (by omega) h4]
     have h5 : (2 : Nat) ^ 12 ≤ q ^ 12 := Nat.pow_le_pow_left hq 12
     have h6 : (2 : Nat) ^ 12 = 4096 := by decide
     have h7 : q ^ 12 * 2 ≤ q ^ 12 * q := Nat.mul_le_mul_left _ hq
     omega
    ·have h8 : ∀ j, 4096 < q ^ j → 4096 < cnK q j := fun j => by
      induction j with
      | zero => intro h; simp at h
      | succ j ih =>
       intro h
       unfold cnK
       split
       ·by_cases e3 : q ^ j ≤ 4096
        ·rw [cnK_eq (by omega) e3, ← Nat.pow_succ]; exact h
        ·have := ih (by omega)
         have h9 : cnK q j * 1 ≤ cnK q j * q := Nat.mul_le_mul_left _ (by omega)
         omega
       ·omega
     have h9 := h8 12 (by omega)
     have h10 : cnK q 12 * 2 ≤ cnK q 12 * q := Nat.mul_le_mul_left _ hq
     omega
  unfold cnK
  rw [if_neg (by omega)]
theorem shl11 (w : World) : Sem.run Try.prog (Op.shift BinOp.shl IntKind.i64 1 IntKind.i64 (IntKind.i64.wrap 11)) w = .ok (.int .i64 2048) w := by kernel_rfl
theorem shl12 (w : World) : Sem.run Try.prog (Op.shift BinOp.shl IntKind.i64 1 IntKind.i64 (IntKind.i64.wrap 12)) w = .ok (.int .i64 4096) w := by kernel_rfl
theorem longrow {kk kd : Nat} (hk : kk = kd + 1) (hb : 11 ≤ kd ∧ kd ≤ 23) : ∃ G1 G2, LongRow kk kd G1 G2 := by
 obtain ⟨F, hF⟩ : ∃ F, EV F := ⟨_, ev_ok⟩
 have hok := ok_mem hF.mem
 have hone : Vn F kk (List.replicate kk 1) := ⟨by simp, fun x hx => by rw [List.eq_of_mem_replicate hx, hF.q2]; decide⟩
 have hmn : Mn F kk [List.replicate kk 1] := fun r hr => by rw [List.mem_singleton.1 hr]; exact hone
 obtain ⟨h1, h2, h3⟩ := redL_ok hok (Mn.vs hok hmn)
 have hl1 : (redL F kk ([List.replicate kk 1].map Go.Fl.fn)).length = 1 := by
  have h4 : (redL F kk ([List.replicate kk 1].map Go.Fl.fn)).length ≤ 1 := h3
  by_cases e : (redL F kk ([List.replicate kk 1].map Go.Fl.fn)).length = 0
  ·exfalso
   have h5 := List.eq_nil_of_length_eq_zero e
   have h6 := (h2 (Go.Fl.fn (List.replicate kk 1))).2 (Sp.mem hok (Mn.vs hok hmn).els (by simp))
   rw [h5] at h6
   obtain ⟨c, _, h7⟩ := h6
   have h8 := congrFun h7 0
   have h9 : Go.Fl.fn (List.replicate kk 1) 0 = 1 := by
    show (List.replicate kk 1).getD 0 0 = 1
    rw [List.getD_eq_getElem?_getD, List.getElem?_replicate, if_pos (by omega)]; rfl
   rw [h9] at h8
   cases h8
  ·omega
 obtain ⟨G1, hG1⟩ : ∃ G, redM F kk [List.replicate kk 1] = G := ⟨_, rfl⟩
 have hgl : G1.length = 1 := by rw [← hG1, redM_len]; exact hl1
 have hv1 : VC F kk 1 G1 (redL F kk ([List.replicate kk 1].map Go.Fl.fn)) := ⟨⟨hF.mem, by rw [hF.q2]; decide, by omega, by omega, by omega, hgl, by rw [← hG1]; exact (redM_ok hok hmn).1⟩, by rw [← hG1]; exact RM.of hok hmn⟩
 obtain ⟨G2, hG2⟩ : ∃ G, kerM F kk G1 = G := ⟨_, rfl⟩
 have hd := hv1.dims
 have hv2 := hv1.dual
 rw [hG2] at hd hv2
 have hg2 : G2.length = kd := by omega
 rw [hg2] at hv2
 have hq := hF.q2
 have hcb : 12 < kd → 4096 < cnK F.q kd := fun h => by rw [cnK_big (by rw [hq]; omega) h]; omega
 have hcs : ¬ 12 < kd → F.q ^ kd ≤ 4096 := fun h => by
  rw [hq]
  have h4 : (2 : Nat) ^ kd ≤ 2 ^ 12 := Nat.pow_le_pow_right (by omega) (by omega)
  have h5 : (2 : Nat) ^ 12 = 4096 := by decide
  omega
 have hce : ¬ 12 < kd → cnK F.q kd = 2 ^ kd := fun h => by rw [cnK_eq (by rw [hq]; omega) (hcs h), hq]
 refine ⟨G1, G2, ⟨fun w a c h => ?_, fun w a c h => ?_, fun w a c h => ?_, fun w a c h => ?_, ⟨fun hm w a c h => ?_, fun hm w a c h => ?_, fun hm w a c h => ?_, fun hm w a c h => ?_, fun hm w a c h => ?_⟩, ⟨fun hm w a c h => ?_, fun hm w a c h => ?_, fun hm w a c h => ?_, fun hm w a c h => ?_, fun hm w a c h => ?_⟩⟩⟩
 ·have t := make_c (F := F) (n := kk) (m := 1) (S0 := [List.replicate kk 1]) ⟨hF.mem, by rw [hq]; decide, by omega, by omega, by omega, rfl, hmn⟩ (by omega) (by rw [hG1, hgl, hq]; decide) h
  rw [hG1, hgl, hq] at t
  exact t.mono fun e w' ⟨us, a, c, t1, t2, t3⟩ => ⟨a, c, t1, by have := t2.mm; exact this, t3⟩
 ·have t := dual_c hv1 h
  rw [hG2, hq] at t
  exact t.mono fun e w' ⟨us, a, c, t1, t2, t3⟩ => ⟨a, c, by rw [t1, hg2]; rfl, by have := t2.mm; rw [hg2] at this; exact this, t3⟩
 ·have t := valid_c hv2.gc h
  rw [hv2.ar, hq] at t; exact t
 ·have t := dim_c hv2 h
  rw [hq] at t; exact t
 ·have t := words_big hv2 (hcb hm) h
  rw [hq] at t; exact t
 ·have t := make_big hv2.gc (by omega) (by rw [hv2.redM, hg2]; exact hcb hm) h
  rw [hq] at t; exact t
 ·have t := weights_big hv2 (hcb hm) h
  rw [hq] at t; exact t
 ·have t := dist_big hv2 (hcb hm) h
  rw [hq] at t; exact t
 ·have t := count_c hv2 h
  rw [cnK_big (by rw [hq]; omega) hm, hq] at t; exact t
 ·have t := words_c hv2 (by rw [hce hm, ← hq]; exact hcs hm) (hcs hm) h
  rw [hq] at t
  exact t.mono fun e w' ⟨us, a, c, t1, _, t3⟩ => ⟨_, _, _, t1, t3⟩
 ·have t := make_c hv2.gc (by omega) (by rw [hv2.redM, hg2, hce hm, ← hq]; exact hcs hm) h
  rw [hv2.redM, hg2, hq] at t
  exact t.mono fun e w' ⟨us, a, c, t1, _, t3⟩ => ⟨_, _, t1, t3⟩
 ·have t := weights_c hv2 (by rw [hce hm, ← hq]; exact hcs hm) (hcs hm) h
  rw [hq] at t
  exact t.mono fun e w' ⟨g, _, t1, _, t3⟩ => ⟨_, _, _, t1, t3⟩
 ·have t := dist_c hv2 (by rw [hce hm, ← hq]; exact hcs hm) (hcs hm) h
  rw [hq] at t
  refine t.mono fun e w' ⟨d, x, t1, t2, t3⟩ => ?_
  rcases t1 with ⟨_, _, _, _, rfl⟩ | ⟨_, hz, _⟩
  ·exact ⟨d, t2, t3⟩
  ·exfalso
   have hl := hv2.dsNone hz
   rw [wdK_len, hq] at hl
   have h4 : (2 : Nat) ^ 1 ≤ 2 ^ kd := Nat.pow_le_pow_right (by omega) (by omega)
   have h5 : (2 : Nat) ^ 1 = 2 := by decide
   omega
 ·have t := count_c hv2 h
  rw [hce hm, hq] at t; exact t

end Go.Proofs.Ytdafhhojiioifaa
