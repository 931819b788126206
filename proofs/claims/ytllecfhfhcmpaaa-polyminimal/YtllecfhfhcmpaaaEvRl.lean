/- Regions that draw their order, in a round of a range over a function. -/
import Derived.Test.YtllecfhfhcmpaaaEvRj
import Derived.RangeFuncCalls
import Derived.OrdersIn
import Derived.TacticsIn
namespace Go.Rg
open Go.RowKit
set_option linter.unusedVariables false
set_option linter.unusedSectionVars false

theorem no_depth {l n : Nat} : (Fence.wide.inRound l).depth.isSome = true → 1 ≤ n := fun h => absurd h (by show ¬ (none : Option Nat).isSome = true; decide)
theorem oper_in {P : Program} {l n : Nat} {o : Oper} {a : Act} {w : World} {next : Act → World → Prop} {Q : Exit → Act → World → Prop} (hd : ∀ c, o.op ≠ .defer c) (h : o.wp P a w next Q) : o.wpIn (Fence.wide.inRound l) n P a w next Q := by
 refine ⟨fun f _ => trivial, ?_⟩
 have e : o.semAt (Fence.wide.inRound l).round a.eval = execOp a.eval o := Oper.semAt_eq _ _ _ hd
 rw [e]
 unfold Oper.wp at h
 generalize (execOp a.eval o).run P w = r at *
 cases r with
 | ok x w' =>
  cases x <;> simp only [Oper.upon, Oper.uponIn] at h ⊢ <;>
   first
    | exact h
    | exact ⟨no_depth, CallsIn.mono (CallsIn.inRound l (callsIn_wide.2 h)) (fun e w'' he => by cases e <;> exact he)⟩
    | exact ⟨no_depth, fun c cs _ => let ⟨v, w', r, s⟩ := h c cs; ⟨v, w', r, stepsIn_wide.2 s⟩⟩
    | exact h.elim
 | halt x w' => cases x <;> simp only [Oper.upon, Oper.uponIn] at h ⊢ <;> exact h
theorem any_in {P : Program} {l n : Nat} {ops : Array Oper} {Q : Exit → Act → World → Prop} (hnd : (ops.toList.all fun o => match o.op with | .defer _ => false | _ => true) = true) (hQ : ¬ LetsOut Q) :
  ∀ (fuel : Nat) (listed : Array Bool) (a : Act) (w : World), wpAny P .any ops Q fuel listed a w → wpAnyIn (Fence.wide.inRound l) n P .any ops Q fuel listed a w
 | 0, listed, a, w, h => h
 | fuel + 1, listed, a, w, h => by
  refine ⟨h.1, fun i hi => ?_⟩
  have h2 := h.2 i hi
  unfold wpOp at h2
  unfold wpOpIn
  cases ho : ops[i]? with
  | none =>
   rw [ho] at h2
   exact any_in hnd hQ fuel _ _ _ h2
  | some o =>
   rw [ho] at h2
   dsimp only at h2 ⊢
   split
   ·rename_i hw
    rw [if_pos hw] at h2
    refine oper_in (fun c e => ?_) (Oper.wp_mono (fun a w h => any_in hnd hQ fuel _ _ _ h) (h2.resolve_right fun h => hQ h.2))
    have := List.all_eq_true.1 hnd o (by rw [Array.mem_toList_iff]; exact Array.mem_of_getElem? ho)
    rw [e] at this
    cases this
   ·rename_i hw
    rw [if_neg hw] at h2
    exact ⟨fun f _ => trivial, any_in hnd hQ fuel _ _ _ h2⟩
section
variable {P : Program} {ops : Array Oper} {Q : Exit → Act → World → Prop}
variable {S : World → Prop} {R : World → World → Prop} {φ : Nat → Value → World → Prop} {ψ : Nat → Value → World → Prop} {χ : Nat → Nat → Value → Value → Prop} {a0 : Act}
theorem region_pre_in {l n id n0 fl : Nat} {w0 : World} (hm : P.follows .mixedOrders = true) (hnd : (ops.toList.all fun o => match o.op with | .defer _ => false | _ => true) = true) (hQ : ¬ LetsOut Q) (S : World → Prop) (R : World → World → Prop) (φ ψ : Nat → Value → World → Prop) (χ : Nat → Nat → Value → Value → Prop) (mono : ∀ j x w w', R w w' → φ j x w → φ j x w')
  (sep : ∀ i v w j x, ψ i v w → φ j x w → χ i j v x ∧ χ j i x v) {m : Nat} {M : Array Bool} (hn : n0 ≤ ops.size) (hm0 : ops.size - n0 = m) (hM : maskTo ops.size n0 = M)
  (hds : distinct ops.toList = true) (hac : acyc 0 ops.toList = true) (hsu : sufB ops n0 fl = true) (hfl : Floats P ops Q n0 fl S φ ψ a0) (hin : (ops.toList.all fun o => match o.dst with | some d => decide (d < a0.tmps.size) | none => true) = true) (hS : S w0.drew)
  (hstep : Steps2 P ops Q S R φ ψ a0 0 (ops.toList.take n0))
  (hend : ∀ a w, a.tmps.size = a0.tmps.size → a.defers = a0.defers → (∀ k, isBase ops k = true → a.tmps.getD k undef = a0.tmps.getD k undef) → S w → (∀ i d, i < n0 → dstOf ops i = some d → φ i (a.tmps.getD d undef) w) →
   (∀ i j di dj, i ≠ j → i < n0 → j < n0 → dstOf ops i = some di → dstOf ops j = some dj → χ i j (a.tmps.getD di undef) (a.tmps.getD dj undef)) →
   (∀ i d, n0 ≤ i → dstOf ops i = some d → a.tmps.getD d undef = a0.tmps.getD d undef) → wpAny P .any ops Q m M a w) :
  (Code.region id ops true).wpIn (Fence.wide.inRound l) n P Q a0 w0 := by
 subst hm0 hM
 refine wpIn_region_any hm (any_in hnd hQ _ _ _ _ ?_)
 have hff : ∀ i b, i < ops.size → (Array.replicate ops.size false).getD i b = false := fun i b h => by simp [Array.getD_eq_getD_getElem?, h]
 have hft : ∀ i, (Array.replicate ops.size false).getD i false = true → False := fun i h => by
  by_cases hi : i < ops.size
  ·rw [hff i false hi] at h; cases h
  ·simp [Array.getD_eq_getD_getElem?, hi] at h
 refine known_pre (S := S) (R := R) (φ := φ) (ψ := ψ) (χ := χ) hn mono sep hds hac hsu hfl (fun i d hd => ?_) (fun i o hi ho a w hat => ?_) hend _ _ _ _ ⟨⟨rfl, rfl, fun _ _ => rfl, hS, fun i d h _ => (hft i h).elim, by simp⟩, fun i _ hi => hff i true hi, fun i _ h => (hft i h).elim, fun i j di dj _ h => (hft i h).elim⟩ (fun _ _ _ _ => rfl) (by simp [cnt])
 ·unfold dstOf at hd
  rw [Option.bind_eq_some_iff] at hd
  obtain ⟨o, ho, hd⟩ := hd
  have := List.all_eq_true.1 hin o (by rw [Array.mem_toList_iff]; exact Array.mem_of_getElem? ho)
  rw [hd] at this
  simpa using this
 ·refine wpOp_step ho fun K hK => ?_
  have := steps2_at hstep i o (by rw [List.getElem?_take_of_lt hi, Array.getElem?_toList]; exact ho)
  rw [Nat.zero_add] at this
  exact this a w hat K (fun v w' h1 h2 h3 h4 => hK _ _ ⟨v, rfl, h1, h2, h3, h4⟩)
end
end Go.Rg
