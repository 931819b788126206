/- SealBinds: its loop has no loops over functions. -/
import Derived.Test.YtdenpaifjpmkgaaUc
namespace Go.Proofs.Ytdenpaifjpmkgaa
open Go.Ev
set_option maxRecDepth 100000
def nilB {α : Type} : List α → Bool
  | [] => true
  | _ => false
theorem nilB_ok {α : Type} {l : List α} (h : nilB l = true) : l = [] := by cases l <;> first | rfl | cases h
noncomputable def bLps (a p : Nat) (m e : Bool) (f : Nat) : Bool :=
  nilB (lpB a p m e f).s0.loops && ((lpB a p m e f).idx.all fun i => nilB ((lpB a p m e f).tm i).2.loops && (lpB a p m e f).cls.all fun q => !((lpB a p m e f).may i q) || nilB (roS ((lpB a p m e f).run q ((lpB a p m e f).tm i))).loops)
theorem bLps_ok {a p : Nat} {m e : Bool} {f : Nat} (h : bLps a p m e f = true) (hc : (lpB a p m e f).chk = true) : (lpB a p m e f).Loops := by
  simp only [bLps, Bool.and_eq_true, List.all_eq_true] at h
  obtain ⟨h0, h1⟩ := h
  have hc' := hc
  simp only [LoopD.chk, Bool.and_eq_true, List.all_eq_true] at hc'
  obtain ⟨_, _, _, _, c5, _⟩ := hc'
  have at0 : 0 ∈ (lpB a p m e f).idx := List.mem_range.2 (by omega)
  refine ⟨fun i hi q hq hm => ?_, ?_⟩
  · have a1 := c5 i hi q hq
    have a2 := (h1 i hi).2 q hq
    rw [hm] at a1 a2
    simp only [Bool.not_true, Bool.false_or, Bool.and_eq_true] at a1 a2
    have hn := a1.1
    rw [Nat.ble_eq] at hn
    rw [nilB_ok (h1 _ (List.mem_range.2 (by omega))).1, nilB_ok a2]
  · rw [nilB_ok (h1 0 at0).1, nilB_ok h0]
end Go.Proofs.Ytdenpaifjpmkgaa
