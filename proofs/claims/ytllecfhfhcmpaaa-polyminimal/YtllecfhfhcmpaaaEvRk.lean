/- A region that keeps the text's order, walked by what is known of each operation's value: the same steps as for one that draws its order. -/
import Derived.Test.YtllecfhfhcmpaaaEvRj
namespace Go.Rg
set_option linter.unusedVariables false
set_option linter.unusedSectionVars false

section
variable {P : Program} {ops : Array Oper} {Q : Exit → Act → World → Prop} {S : World → Prop} {R : World → World → Prop} {φ : Nat → Value → World → Prop} {a0 : Act}
theorem known_put (mono : ∀ j x w w', R w w' → φ j x w → φ j x w') (hds : distinct ops.toList = true) (hin : ∀ i d, dstOf ops i = some d → d < a0.tmps.size) {listed : Array Bool} {a : Act} {w w' : World} {i : Nat} {o : Oper} {v : Value}
  (hk : Known ops S φ a0 listed a w) (ho : ops[i]? = some o) (hS : S w') (hR : R w w') (hv : φ i v w') : Known ops S φ a0 (listed.setIfInBounds i true) (a.put o.dst v) w' := by
 have hdi : dstOf ops i = o.dst := by unfold dstOf; rw [ho]; rfl
 refine ⟨?_, ?_, fun k hk' => ?_, hS, fun j d hj hd => ?_, by simp [hk.lsz]⟩
 ·unfold Act.put; split
  ·simp [hk.size]
  ·exact hk.size
 ·unfold Act.put; split <;> exact hk.defers
 ·have hne := base_ne hk' i
  rw [hdi] at hne
  cases hod : o.dst with
  | none => exact hk.base k hk'
  | some d =>
   rw [hod] at hne
   rw [put_getD a v (fun e => hne (by rw [e]))]
   exact hk.base k hk'
 ·by_cases hij : j = i
  ·subst hij
   rw [hdi] at hd
   rw [hd, put_same a v (by rw [hk.size]; exact hin j d (by rw [hdi, hd]))]
   exact hv
  ·have hjl : listed.getD j false = true := by rwa [getD_set_ne false (fun e => hij e.symm)] at hj
   have hold := mono _ _ _ _ hR (hk.val j d hjl hd)
   cases hod : o.dst with
   | none => exact hold
   | some d' =>
    have hdd : d' ≠ d := by
     intro e
     subst e
     unfold dstOf at hd
     rw [Option.bind_eq_some_iff] at hd
     obtain ⟨p, hp, hpd⟩ := hd
     exact hij (distinct_ne hds (i := j) (j := i) (by rw [Array.getElem?_toList]; exact hp) (by rw [Array.getElem?_toList]; exact ho) hpd hod)
    rw [put_getD a v hdd]
    exact hold
theorem maskTo_set {n i : Nat} (h : i < n) : (maskTo n i).setIfInBounds i true = maskTo n (i + 1) := by
 apply Array.ext (by simp [maskTo])
 intro j h1 h2
 have hj : j < n := by simpa [maskTo] using h2
 rw [Array.getElem_setIfInBounds (by simpa [maskTo] using hj)]
 by_cases e : i = j
 ·rw [if_pos e]; simp [maskTo]; omega
 ·rw [if_neg e]
  simp only [maskTo, Array.getElem_map, List.getElem_toArray, List.getElem_range]
  rw [Bool.eq_iff_iff]
  simp; omega
theorem seq_known (mono : ∀ j x w w', R w w' → φ j x w → φ j x w') (hds : distinct ops.toList = true) (hac : acyc 0 ops.toList = true) (hin : ∀ i d, dstOf ops i = some d → d < a0.tmps.size)
  (hstep : ∀ i o, ops[i]? = some o → Step P ops Q S R φ a0 i o)
  (hend : ∀ a w, Known ops S φ a0 (maskTo ops.size ops.size) a w → Q .normal a w) :
  ∀ (l : List Oper) (i : Nat) (a : Act) (w : World), i ≤ ops.size → ops.toList.drop i = l → Known ops S φ a0 (maskTo ops.size i) a w → wpList P ops Q l a w
 | [], i, a, w, hi, hl, hk => by
  have : ops.size ≤ i := by
   have := congrArg List.length hl
   simp at this; omega
  have e : i = ops.size := by omega
  subst e
  exact wpList_nil (hend a w hk)
 | o :: l, i, a, w, hi, hl, hk => by
  have his : i < ops.size := by
   have := congrArg List.length hl
   simp at this; omega
  have ho : ops[i]? = some o := by
   rw [← Array.getElem?_toList]
   have := congrArg (·[0]?) hl
   simpa using this
  refine wpList_step fun K hK => hstep i o ho a w ⟨hk.defers, hk.base, hk.st, fun j d hd hj => hk.val j d (by
   rw [Array.any_eq_true] at hj
   obtain ⟨n, hn, hb⟩ := hj
   rw [Bool.and_eq_true, beq_iff_eq] at hb
   have hlt := acyc_lt hac (i := i) (o := o) (by rw [Array.getElem?_toList]; exact ho) _ (Array.getElem_mem hn) hb.1
   rw [hb.2] at hlt
   rw [maskTo_get (by omega)]
   exact decide_eq_true (by omega)) hd⟩ K (fun v w' hS hR hv => hK _ _ ?_)
  have hk2 := known_put mono hds hin hk ho hS hR hv
  rw [maskTo_set his] at hk2
  exact seq_known mono hds hac hin hstep hend l (i + 1) _ _ (by omega) (by rw [← List.drop_drop, hl]; rfl) hk2
/-- **a region that keeps the text's order** -/
theorem region_seq {id : Nat} {w0 : World} (S : World → Prop) (R : World → World → Prop) (φ : Nat → Value → World → Prop) (mono : ∀ j x w w', R w w' → φ j x w → φ j x w')
  (hds : distinct ops.toList = true) (hac : acyc 0 ops.toList = true) (hin : (ops.toList.all fun o => match o.dst with | some d => decide (d < a0.tmps.size) | none => true) = true) (hS : S w0)
  (hstep : Steps P ops Q S R φ a0 0 ops.toList)
  (hend : ∀ a w, a.tmps.size = a0.tmps.size → a.defers = a0.defers → (∀ k, isBase ops k = true → a.tmps.getD k undef = a0.tmps.getD k undef) → S w → (∀ i d, dstOf ops i = some d → φ i (a.tmps.getD d undef) w) → Q .normal a w) :
  (Code.region id ops false).wp P Q a0 w0 := by
 refine wp_region_list ?_
 refine seq_known (S := S) (R := R) (φ := φ) mono hds hac (fun i d hd => ?_) (fun i o ho => ?_) (fun a w hk => hend a w hk.size hk.defers hk.base hk.st fun i d hd => hk.val i d ?_ hd) _ 0 _ _ (Nat.zero_le _) rfl ⟨rfl, rfl, fun _ _ => rfl, hS, fun i d h hd => ?_, by simp [maskTo]⟩
 ·unfold dstOf at hd
  rw [Option.bind_eq_some_iff] at hd
  obtain ⟨o, ho, hd⟩ := hd
  have := List.all_eq_true.1 hin o (by rw [Array.mem_toList_iff]; exact Array.mem_of_getElem? ho)
  rw [hd] at this
  simpa using this
 ·have := steps_at hstep i o (by rw [Array.getElem?_toList]; exact ho)
  rwa [Nat.zero_add] at this
 ·have hi : i < ops.size := by
   unfold dstOf at hd
   rw [Option.bind_eq_some_iff] at hd
   obtain ⟨o, ho, _⟩ := hd
   exact (Array.getElem?_eq_some_iff.1 ho).1
  rw [maskTo_get hi]
  exact decide_eq_true hi
 ·exfalso
  have hi : i < ops.size := by
   unfold dstOf at hd
   rw [Option.bind_eq_some_iff] at hd
   obtain ⟨o, ho, _⟩ := hd
   exact (Array.getElem?_eq_some_iff.1 ho).1
  rw [maskTo_get hi] at h
  exact absurd (of_decide_eq_true h) (by omega)
theorem At.b {o : Oper} {a : Act} {w : World} (hat : At ops S φ a0 o a w) (k : Nat) {v : Value} (h : isBase ops k = true := by kernel_rfl) (e : a0.tmps.getD k undef = v := by rfl) : a.tmps[k]?.getD undef = v :=
 (Array.getD_eq_getD_getElem? ..).symm.trans ((hat.base k h).trans e)
theorem At.d {o : Oper} {a : Act} {w : World} (hat : At ops S φ a0 o a w) (j d : Nat) (h : dstOf ops j = some d := by kernel_rfl) (h2 : (o.after.any fun e => Region.binds .any e && e.on == j) = true := by kernel_rfl) : φ j (a.tmps[d]?.getD undef) w := by
 have := hat.dep j d h h2
 rwa [Array.getD_eq_getD_getElem?] at this
/-- a copy -/
theorem step_mv {i s : Nat} {o : Oper} (hg : o.guard = none) (ho : o.op = .move (.tmp s) ∨ o.op = .assign (.tmp s)) (hR : ∀ w, R w w) (h : ∀ a w, At ops S φ a0 o a w → φ i (a.tmps[s]?.getD undef) w) : Step P ops Q S R φ a0 i o := by
 intro a w hat K hK
 rw [if_pos (by unfold Region.wanted; rw [hg])]
 have e : (execOp a.eval o).run P w = .ok (.value (a.tmps[s]?.getD undef)) w := by
  unfold execOp
  rcases ho with e | e <;> rw [e] <;> simp [go_sem]
 unfold Oper.wp
 rw [e]
 exact hK.out _ _ hat.st (hR w) (h a w hat)
/-- a copy where the guard holds -/
theorem step_mvg {i s j d : Nat} {b : Bool} {o : Oper} (hg : o.guard = some (j, b)) (hd : dstOf ops j = some d) (hy : ∀ a w, At ops S φ a0 o a w → a.tmps[d]?.getD undef = .bool b) (ho : o.op = .move (.tmp s) ∨ o.op = .assign (.tmp s)) (hR : ∀ w, R w w)
  (h : ∀ a w, At ops S φ a0 o a w → φ i (a.tmps[s]?.getD undef) w) : Step P ops Q S R φ a0 i o := by
 intro a w hat K hK
 rw [if_pos (wanted_yes hg hd ((Array.getD_eq_getD_getElem? ..).trans (hy a w hat)))]
 have e : (execOp a.eval o).run P w = .ok (.value (a.tmps[s]?.getD undef)) w := by
  unfold execOp
  rcases ho with e | e <;> rw [e] <;> simp [go_sem]
 unfold Oper.wp
 rw [e]
 exact hK.out _ _ hat.st (hR w) (h a w hat)
/-- what is guarded out -/
theorem step_no {i j d : Nat} {b c : Bool} {o : Oper} (hg : o.guard = some (j, b)) (hd : dstOf ops j = some d) (hbc : c ≠ b) (hy : ∀ a w, At ops S φ a0 o a w → a.tmps[d]?.getD undef = .bool c) (hR : ∀ w, R w w) (h : ∀ w, φ i undef w) : Step P ops Q S R φ a0 i o := by
 intro a w hat K hK
 rw [if_neg (wanted_no hg hd ((Array.getD_eq_getD_getElem? ..).trans (hy a w hat)) hbc)]
 exact hK.out _ _ hat.st (hR w) (h w)
theorem step2_mv {ψ : Nat → Value → World → Prop} {i s : Nat} {o : Oper} (hg : o.guard = none) (ho : o.op = .move (.tmp s) ∨ o.op = .assign (.tmp s)) (hR : ∀ w, R w w) (hψ : ∀ v w, ψ i v w) (h : ∀ a w, At ops S φ a0 o a w → φ i (a.tmps[s]?.getD undef) w) : Step2 P ops Q S R φ ψ a0 i o :=
 fun a w hat K hK => step_mv (P := P) (Q := Q) (S := S) (R := R) (φ := φ) hg ho hR h a w hat K fun v w' h1 h2 h3 => hK.out v w' h1 h2 h3 (hψ v w)
theorem mv {i s : Nat} {o : Oper} (h : ∀ a w, At ops S φ a0 o a w → φ i (a.tmps[s]?.getD undef) w) (hg : o.guard = none := by rfl) (ho : o.op = .move (.tmp s) ∨ o.op = .assign (.tmp s) := by first | exact .inl rfl | exact .inr rfl) (hR : ∀ w, R w w := by exact fun _ => Go.RowKit.Below.refl _ _) : Step P ops Q S R φ a0 i o := step_mv hg ho hR h
theorem wy {o : Oper} {a : Act} {w : World} (hat : At ops S φ a0 o a w) (j d : Nat) (b : Bool) (hg : o.guard = some (j, b) := by rfl) (hd : dstOf ops j = some d := by kernel_rfl) (h2 : (o.after.any fun e => Region.binds .any e && e.on == j) = true := by kernel_rfl) (he : ∀ v w, φ j v w → v = .bool b := by exact fun _ _ h => h) : Region.wanted o (yielded ops a.tmps) = true :=
 wanted_yes hg hd (he _ _ (hat.dep j d hd h2))
theorem mvg {i s : Nat} {o : Oper} (j d : Nat) (b : Bool) (h : ∀ a w, At ops S φ a0 o a w → φ i (a.tmps[s]?.getD undef) w) (hg : o.guard = some (j, b) := by rfl) (hd : dstOf ops j = some d := by kernel_rfl) (h2 : (o.after.any fun e => Region.binds .any e && e.on == j) = true := by kernel_rfl)
  (he : ∀ v w, φ j v w → v = .bool b := by exact fun _ _ h => h) (ho : o.op = .move (.tmp s) ∨ o.op = .assign (.tmp s) := by first | exact .inl rfl | exact .inr rfl) (hR : ∀ w, R w w := by exact fun _ => Go.RowKit.Below.refl _ _) : Step P ops Q S R φ a0 i o :=
 step_mvg hg hd (fun a w hat => he _ _ (hat.d j d hd h2)) ho hR h
theorem no {i : Nat} {o : Oper} (j d : Nat) (b : Bool) (hg : o.guard = some (j, !b) := by rfl) (hd : dstOf ops j = some d := by kernel_rfl) (h2 : (o.after.any fun e => Region.binds .any e && e.on == j) = true := by kernel_rfl)
  (he : ∀ v w, φ j v w → v = .bool b := by exact fun _ _ h => h) (hR : ∀ w, R w w := by exact fun _ => Go.RowKit.Below.refl _ _) (h : ∀ w, φ i undef w := by exact fun _ => trivial) : Step P ops Q S R φ a0 i o :=
 step_no hg hd (by cases b <;> decide) (fun a w hat => he _ _ (hat.d j d hd h2)) hR h
end
end Go.Rg
