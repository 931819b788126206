/- The first operations of a region that draws its order, walked by what is known of each operation's value; what they make apart from each other; what comes behind them is left as it is. -/
import Derived.Test.YtllecfhfhcmpaaaEvRi
namespace Go.Rg
set_option linter.unusedVariables false
set_option linter.unusedSectionVars false

section
variable {P : Program} {ops : Array Oper} {Q : Exit → Act → World → Prop}
/-- operation i waits for j, perhaps through others -/
def waits (ops : Array Oper) : Nat → Nat → Nat → Bool
 | 0, _, _ => false
 | n + 1, i, j => match ops[i]? with
  | some o => o.after.any fun e => Region.binds .any e && (e.on == j || waits ops n e.on j)
  | none => false
/-- the operations from n0 on wait for all before, but for number fl -/
def sufB (ops : Array Oper) (n0 fl : Nat) : Bool := (List.range ops.size).all fun i => decide (i < n0) || (List.range n0).all fun j => j == fl || waits ops 6 i j
/-- what has come up came after what it waits for -/
def Closed (ops : Array Oper) (listed : Array Bool) : Prop := ∀ i o, listed.getD i false = true → ops[i]? = some o → ∀ e ∈ o.after, Region.binds .any e = true → listed.getD e.on false = true
theorem waits_listed {listed : Array Bool} (hc : Closed ops listed) : ∀ (n i j : Nat), (∀ o, ops[i]? = some o → ∀ e ∈ o.after, Region.binds .any e = true → listed.getD e.on false = true) → waits ops n i j = true → listed.getD j false = true
 | 0, _, _, _, h => by cases h
 | n + 1, i, j, hi, h => by
  unfold waits at h
  cases ho : ops[i]? with
  | none => rw [ho] at h; cases h
  | some o =>
   rw [ho] at h
   have h2 : (o.after.any fun e => Region.binds .any e && (e.on == j || waits ops n e.on j)) = true := h
   rw [Array.any_eq_true] at h2
   obtain ⟨k, hk, hb⟩ := h2
   rw [Bool.and_eq_true, Bool.or_eq_true, beq_iff_eq] at hb
   have hl := hi o ho _ (Array.getElem_mem hk) hb.1
   rcases hb.2 with e | hw
   ·rwa [e] at hl
   ·exact waits_listed hc n _ j (fun o' ho' e' he' hb' => hc _ o' hl ho' e' he' hb') hw
theorem suf_wait {n0 fl i : Nat} {listed : Array Bool} (hc : Closed ops listed) (h : sufB ops n0 fl = true) (hi : n0 ≤ i) (hr : i ∈ Region.ready .any ops listed) : ∀ j, j < n0 → j ≠ fl → listed.getD j false = true := by
 intro j hj hjf
 obtain ⟨h0, o, ho, hdep⟩ := mem_ready.1 hr
 have his : i < ops.size := (Array.getElem?_eq_some_iff.1 ho).1
 have := List.all_eq_true.1 h i (List.mem_range.2 his)
 rw [Bool.or_eq_true] at this
 rcases this with h1 | h1
 ·have := of_decide_eq_true h1; omega
 ·have h2 := List.all_eq_true.1 h1 j (List.mem_range.2 hj)
  rw [Bool.or_eq_true] at h2
  replace h2 := h2.resolve_left (by simpa using hjf)
  exact waits_listed hc 6 i j (fun o' ho' => by rw [ho] at ho'; cases ho'; exact hdep) h2
/-- the first n0 have come up -/
def maskTo (n n0 : Nat) : Array Bool := (List.range n).toArray.map fun i => decide (i < n0)
theorem maskTo_get {n n0 i : Nat} (h : i < n) (b : Bool) : (maskTo n n0).getD i b = decide (i < n0) := by
 simp [maskTo, Array.getD_eq_getD_getElem?, h]
theorem cnt_mask {n n0 : Nat} (hn : n0 ≤ n) : cnt (maskTo n n0) = n - n0 := by
 have e : (maskTo n n0).toList = (List.range n).map fun i => decide (i < n0) := by simp [maskTo]
 unfold cnt
 rw [e]
 induction n with
 | zero => simp
 | succ n ih =>
  rw [List.range_succ, List.map_append, List.count_append]
  by_cases h : n0 = n + 1
  ·subst h
   have : List.count false ((List.range n).map fun i => decide (i < n + 1)) = 0 := by
    rw [List.count_eq_zero]
    intro hm
    obtain ⟨x, hx, he⟩ := List.mem_map.1 hm
    have := List.mem_range.1 hx
    have := of_decide_eq_false he
    omega
   rw [this]; simp
  ·have := ih (by omega) (by simp [maskTo])
   rw [this]
   simp
   rw [show decide (n < n0) = false from decide_eq_false (by omega)]
   simp; omega
variable {S : World → Prop} {R : World → World → Prop} {φ : Nat → Value → World → Prop} {ψ : Nat → Value → World → Prop} {χ : Nat → Nat → Value → Value → Prop} {a0 : Act}

/-- what is known when the first n0 have come up -/
structure Known2 (ops : Array Oper) (n0 : Nat) (S : World → Prop) (φ : Nat → Value → World → Prop) (χ : Nat → Nat → Value → Value → Prop) (a0 : Act) (listed : Array Bool) (a : Act) (w : World) : Prop where
 k : Known ops S φ a0 listed a w
 lo : ∀ i, n0 ≤ i → i < ops.size → listed.getD i true = false
 cl : Closed ops listed
 pair : ∀ i j di dj, i ≠ j → listed.getD i false = true → listed.getD j false = true → dstOf ops i = some di → dstOf ops j = some dj → χ i j (a.tmps.getD di undef) (a.tmps.getD dj undef)
/-- what is to be shown of the operation that those from n0 on don't wait for -/
def Floats (P : Program) (ops : Array Oper) (Q : Exit → Act → World → Prop) (n0 fl : Nat) (S : World → Prop) (φ ψ : Nat → Value → World → Prop) (a0 : Act) : Prop :=
 fl < n0 → Region.noSelect ops = true ∧ Region.free .any ops ((maskTo ops.size n0).setIfInBounds fl false) fl = true ∧
  ∀ o, ops[fl]? = some o → (∀ v c a w, Q (.panic c) (a.put o.dst v) w → Q (.panic c) a w) ∧ ∀ a w, At ops S φ a0 o a w → ∃ v, Yields P ops o v a ∧ φ fl v w ∧ ψ fl v w
theorem known_pre {n0 fl : Nat} (hn : n0 ≤ ops.size) (mono : ∀ j x w w', R w w' → φ j x w → φ j x w') (sep : ∀ i v w j x, ψ i v w → φ j x w → χ i j v x ∧ χ j i x v)
  (hds : distinct ops.toList = true) (hac : acyc 0 ops.toList = true) (hsu : sufB ops n0 fl = true) (hfl : Floats P ops Q n0 fl S φ ψ a0) (hin : ∀ i d, dstOf ops i = some d → d < a0.tmps.size)
  (hstep : ∀ i o, i < n0 → ops[i]? = some o → ∀ a w, At ops S φ a0 o a w → wpOp P ops Q i (fun a' w' => ∃ v, a' = a.put o.dst v ∧ S w' ∧ R w w' ∧ φ i v w' ∧ ψ i v w) a w)
  (hend : ∀ a w, a.tmps.size = a0.tmps.size → a.defers = a0.defers → (∀ k, isBase ops k = true → a.tmps.getD k undef = a0.tmps.getD k undef) → S w → (∀ i d, i < n0 → dstOf ops i = some d → φ i (a.tmps.getD d undef) w) →
   (∀ i j di dj, i ≠ j → i < n0 → j < n0 → dstOf ops i = some di → dstOf ops j = some dj → χ i j (a.tmps.getD di undef) (a.tmps.getD dj undef)) →
   (∀ i d, n0 ≤ i → dstOf ops i = some d → a.tmps.getD d undef = a0.tmps.getD d undef) → wpAny P .any ops Q (ops.size - n0) (maskTo ops.size n0) a w) :
  ∀ (fuel : Nat) (listed : Array Bool) (a : Act) (w : World), Known2 ops n0 S φ χ a0 listed a w → (∀ i d, n0 ≤ i → dstOf ops i = some d → a.tmps.getD d undef = a0.tmps.getD d undef) → cnt listed = fuel → wpAny P .any ops Q fuel listed a w := by
 have cntM := cnt_mask hn
 have fin : ∀ (fuel : Nat) (listed : Array Bool) (a : Act) (w : World), Known2 ops n0 S φ χ a0 listed a w → (∀ i d, n0 ≤ i → dstOf ops i = some d → a.tmps.getD d undef = a0.tmps.getD d undef) → cnt listed = fuel → (∀ i, i < n0 → listed.getD i false = true) → wpAny P .any ops Q fuel listed a w := by
  intro fuel listed a w hk hu hc hall
  have e : listed = maskTo ops.size n0 := by
   apply Array.ext (by simp [maskTo, hk.k.lsz])
   intro i h1 h2
   have hi : i < ops.size := by have := hk.k.lsz; omega
   have e2 : (maskTo ops.size n0)[i] = decide (i < n0) := by
    have := maskTo_get (n0 := n0) hi true
    simpa [Array.getD_eq_getD_getElem?, h2] using this
   rw [e2]
   by_cases h : i < n0
   ·have := hall i h
    simp [Array.getD_eq_getD_getElem?, h1] at this
    rw [this]; simp [h]
   ·have := hk.lo i (by omega) hi
    simp [Array.getD_eq_getD_getElem?, h1] at this
    rw [this]; simp [h]
  rw [e] at hc ⊢
  rw [cntM] at hc
  subst hc
  exact hend a w hk.k.size hk.k.defers hk.k.base hk.k.st (fun i d hi hd => hk.k.val i d (hall i hi) hd) (fun i j di dj hij hi hj h1 h2 => hk.pair i j di dj hij (hall i hi) (hall j hj) h1 h2) hu
 intro fuel
 induction fuel with
 | zero =>
  intro listed a w hk hu hc
  refine fin 0 listed a w hk hu hc fun i hi => ?_
  have := cnt_zero hc i
  have hl : i < listed.size := by have := hk.k.lsz; omega
  simp [Array.getD_eq_getD_getElem?, hl] at this ⊢
  exact this
 | succ fuel ih =>
  intro listed a w hk hu hc
  by_cases hall : ∀ i, i < n0 → listed.getD i false = true
  ·exact fin _ listed a w hk hu hc hall
  have known : ∀ {i : Nat} {o : Oper} {v : Value} {w' : World}, i < n0 → listed.getD i true = false → ops[i]? = some o → (∀ e ∈ o.after, Region.binds .any e = true → listed.getD e.on false = true) → S w' → (R w w' ∨ w = w') → φ i v w' → ψ i v w →
    Known2 ops n0 S φ χ a0 (listed.setIfInBounds i true) (a.put o.dst v) w' ∧ (∀ i' d, n0 ≤ i' → dstOf ops i' = some d → (a.put o.dst v).tmps.getD d undef = a0.tmps.getD d undef) := by
   intro i o v w' hin0 h0 ho hdep hS hR hv hps
   have hli : i < listed.size := by have := hk.k.lsz; omega
   have hdi : dstOf ops i = o.dst := by unfold dstOf; rw [ho]; rfl
   have other : ∀ {j d : Nat}, j ≠ i → dstOf ops j = some d → (a.put o.dst v).tmps.getD d undef = a.tmps.getD d undef := by
    intro j d hij hd
    cases hod : o.dst with
    | none => rfl
    | some d' =>
     have hdd : d' ≠ d := by
      intro e
      subst e
      unfold dstOf at hd
      rw [Option.bind_eq_some_iff] at hd
      obtain ⟨p, hp, hpd⟩ := hd
      exact hij (distinct_ne hds (i := j) (j := i) (by rw [Array.getElem?_toList]; exact hp) (by rw [Array.getElem?_toList]; exact ho) hpd hod)
     exact put_getD a v hdd
   have mine : ∀ {d : Nat}, dstOf ops i = some d → (a.put o.dst v).tmps.getD d undef = v := by
    intro d hd
    have hd' := hd
    rw [hdi] at hd'
    rw [hd']
    exact put_same a v (by rw [hk.k.size]; exact hin i d hd)
   refine ⟨⟨⟨?_, ?_, fun k hk' => ?_, hS, fun j d hj hd => ?_, by simp [hk.k.lsz]⟩, fun j hj hjs => ?_, fun k o' hk' ho' e he hb => ?_, fun j j' dj dj' hjj hj hj' hd hd' => ?_⟩, fun j d hj hd => ?_⟩
   ·unfold Act.put; split
    ·simp [hk.k.size]
    ·exact hk.k.size
   ·unfold Act.put; split <;> exact hk.k.defers
   ·have hne := base_ne hk' i
    rw [hdi] at hne
    cases hod : o.dst with
    | none => exact hk.k.base k hk'
    | some d =>
     rw [hod] at hne
     rw [put_getD a v (fun e => hne (by rw [e]))]
     exact hk.k.base k hk'
   ·by_cases hij : j = i
    ·subst hij
     rw [mine hd]
     exact hv
    ·have hjl : listed.getD j false = true := by rwa [getD_set_ne false (fun e => hij e.symm)] at hj
     rw [other hij hd]
     exact hR.elim (fun hR => mono _ _ _ _ hR (hk.k.val j d hjl hd)) (fun e => e ▸ hk.k.val j d hjl hd)
   ·rw [getD_set_ne true (by omega)]
    exact hk.lo j hj hjs
   ·by_cases e1 : k = i
    ·subst e1
     rw [ho] at ho'
     cases ho'
     exact getD_set_true (hdep e he hb)
    ·rw [getD_set_ne false (fun e2 => e1 e2.symm)] at hk'
     exact getD_set_true (hk.cl k o' hk' ho' e he hb)
   ·have old : ∀ {k : Nat}, k ≠ i → (listed.setIfInBounds i true).getD k false = true → listed.getD k false = true := fun h1 h2 => by rwa [getD_set_ne false (fun e => h1 e.symm)] at h2
    by_cases h1 : j = i
    ·subst h1
     have h2 : j' ≠ j := fun e => hjj e.symm
     rw [mine hd, other h2 hd']
     exact (sep _ _ _ _ _ hps (hk.k.val j' dj' (old h2 hj') hd')).1
    ·by_cases h2 : j' = i
     ·subst h2
      rw [mine hd', other h1 hd]
      exact (sep _ _ _ _ _ hps (hk.k.val j dj (old h1 hj) hd)).2
     ·rw [other h1 hd, other h2 hd']
      exact hk.pair j j' dj dj' hjj (old h1 hj) (old h2 hj') hd hd'
   ·rw [other (by omega) hd]
    exact hu j d hj hd
  by_cases hbut : ∀ i, i < n0 → i ≠ fl → listed.getD i false = true
  ·have hfn : fl < n0 := by
    rcases Nat.lt_or_ge fl n0 with h | h
    ·exact h
    ·exact absurd (fun i hi => hbut i hi (by omega)) hall
   have h0 : listed.getD fl true = false := by
    have hl : fl < listed.size := by have := hk.k.lsz; omega
    cases hv : listed.getD fl true with
    | false => rfl
    | true =>
     exfalso
     apply hall
     intro i hi
     by_cases e : i = fl
     ·subst e
      simp [Array.getD_eq_getD_getElem?, hl] at hv ⊢
      exact hv
     ·exact hbut i hi e
   obtain ⟨hns, hfr, hfo⟩ := hfl hfn
   have ho : ops[fl]? = some ops[fl] := Array.getElem?_eq_getElem (by omega)
   obtain ⟨hq, hy⟩ := hfo _ ho
   have hdep : ∀ e ∈ ops[fl].after, Region.binds .any e = true → listed.getD e.on false = true := fun e he hb => by
    have := acyc_lt hac (i := fl) (o := ops[fl]) (by rw [Array.getElem?_toList]; exact ho) e he hb
    exact hbut e.on (by omega) (by omega)
   obtain ⟨v, hyv, hv, hps⟩ := hy a w ⟨hk.k.defers, hk.k.base, hk.k.st, fun j d hd hj => hk.k.val j d (by
    rw [Array.any_eq_true] at hj
    obtain ⟨n, hn, hb⟩ := hj
    rw [Bool.and_eq_true, beq_iff_eq] at hb
    rw [← hb.2]
    exact hdep _ (Array.getElem_mem hn) hb.1) hd⟩
   have hm : listed = (maskTo ops.size n0).setIfInBounds fl false := by
    apply Array.ext (by simp [maskTo, hk.k.lsz])
    intro i h1 h2
    have hi : i < ops.size := by have := hk.k.lsz; omega
    have hms : i < (maskTo ops.size n0).size := by simpa [maskTo] using hi
    rw [Array.getElem_setIfInBounds hms]
    split
    ·rename_i e
     subst e
     simp [Array.getD_eq_getD_getElem?, h1] at h0
     exact h0
    ·rename_i e
     have e2 : (maskTo ops.size n0)[i]'hms = decide (i < n0) := by simp [maskTo]
     rw [e2]
     by_cases h : i < n0
     ·have := hbut i h (fun e' => e e'.symm)
      simp [Array.getD_eq_getD_getElem?, h1] at this
      rw [this]; simp [h]
     ·have := hk.lo i (by omega) hi
      simp [Array.getD_eq_getD_getElem?, h1] at this
      rw [this]; simp [h]
   have hK := known (w' := w) hfn h0 ho hdep hk.k.st (.inr rfl) hv hps
   refine wpAny_take (i := fl) (oi := ops[fl]) (v := v) ho hns (by rw [hm]; exact hfr) (by simpa using mem_ready.2 ⟨h0, _, ho, hdep⟩) (hq v) hyv ?_
   exact fin fuel _ _ w hK.1 hK.2 (by have := cnt_set h0; omega) (fun i hi => by
    by_cases e : i = fl
    ·subst e
     have hl : i < listed.size := by have := hk.k.lsz; omega
     simp [Array.getD_eq_getD_getElem?, hl]
    ·exact getD_set_true (hbut i hi e))
  refine ⟨fun hr => absurd (fun i hi => all_listed hac hk.k.lsz hr i (by omega)) hall, fun i hi => ?_⟩
  have hin0 : i < n0 := by
   rcases Nat.lt_or_ge i n0 with h | h
   ·exact h
   ·exact absurd (suf_wait hk.cl hsu h hi) hbut
  obtain ⟨h0, o, ho, hdep⟩ := mem_ready.1 hi
  refine wpOp_mono ?_ (hstep i o hin0 ho a w ⟨hk.k.defers, hk.k.base, hk.k.st, fun j d hd hj => hk.k.val j d (by
   rw [Array.any_eq_true] at hj
   obtain ⟨n, hn, hb⟩ := hj
   rw [Bool.and_eq_true, beq_iff_eq] at hb
   rw [← hb.2]
   exact hdep _ (Array.getElem_mem hn) hb.1) hd⟩)
  rintro a' w' ⟨v, rfl, hS, hR, hv, hps⟩
  have hK := known hin0 h0 ho hdep hS (.inl hR) hv hps
  exact ih _ _ _ hK.1 hK.2 (by have := cnt_set h0; omega)
/-- what is to be shown of operation i -/
def Step2 (P : Program) (ops : Array Oper) (Q : Exit → Act → World → Prop) (S : World → Prop) (R : World → World → Prop) (φ ψ : Nat → Value → World → Prop) (a0 : Act) (i : Nat) (o : Oper) : Prop :=
 ∀ a w, At ops S φ a0 o a w → ∀ K : Act → World → Prop, Shut (∀ v w', S w' → R w w' → φ i v w' → ψ i v w → K (a.put o.dst v) w') →
  if Region.wanted o (yielded ops a.tmps) = true then Oper.wp P o a w K Q else K (a.put o.dst undef) w
def Steps2 (P : Program) (ops : Array Oper) (Q : Exit → Act → World → Prop) (S : World → Prop) (R : World → World → Prop) (φ ψ : Nat → Value → World → Prop) (a0 : Act) : Nat → List Oper → Prop
 | _, [] => True
 | i, o :: l => Step2 P ops Q S R φ ψ a0 i o ∧ Steps2 P ops Q S R φ ψ a0 (i + 1) l
theorem steps2_at : ∀ {l : List Oper} {n : Nat}, Steps2 P ops Q S R φ ψ a0 n l → ∀ i o, l[i]? = some o → Step2 P ops Q S R φ ψ a0 (n + i) o
 | [], _, _, i, o, h => by simp at h
 | x :: l, n, hs, 0, o, h => by
  simp only [List.getElem?_cons_zero, Option.some.injEq] at h
  subst h; exact hs.1
 | x :: l, n, hs, i + 1, o, h => by
  have := steps2_at hs.2 i o (by simpa using h)
  rwa [show n + 1 + i = n + (i + 1) by omega] at this
/-- **the first operations of a region that draws its order: one step an operation** -/
theorem region_pre {id n0 fl : Nat} {w0 : World} (hm : P.follows .mixedOrders = true) (S : World → Prop) (R : World → World → Prop) (φ ψ : Nat → Value → World → Prop) (χ : Nat → Nat → Value → Value → Prop) (mono : ∀ j x w w', R w w' → φ j x w → φ j x w')
  (sep : ∀ i v w j x, ψ i v w → φ j x w → χ i j v x ∧ χ j i x v) {m : Nat} {M : Array Bool} (hn : n0 ≤ ops.size) (hm0 : ops.size - n0 = m) (hM : maskTo ops.size n0 = M)
  (hds : distinct ops.toList = true) (hac : acyc 0 ops.toList = true) (hsu : sufB ops n0 fl = true) (hfl : Floats P ops Q n0 fl S φ ψ a0) (hin : (ops.toList.all fun o => match o.dst with | some d => decide (d < a0.tmps.size) | none => true) = true) (hS : S w0.drew)
  (hstep : Steps2 P ops Q S R φ ψ a0 0 (ops.toList.take n0))
  (hend : ∀ a w, a.tmps.size = a0.tmps.size → a.defers = a0.defers → (∀ k, isBase ops k = true → a.tmps.getD k undef = a0.tmps.getD k undef) → S w → (∀ i d, i < n0 → dstOf ops i = some d → φ i (a.tmps.getD d undef) w) →
   (∀ i j di dj, i ≠ j → i < n0 → j < n0 → dstOf ops i = some di → dstOf ops j = some dj → χ i j (a.tmps.getD di undef) (a.tmps.getD dj undef)) →
   (∀ i d, n0 ≤ i → dstOf ops i = some d → a.tmps.getD d undef = a0.tmps.getD d undef) → wpAny P .any ops Q m M a w) :
  (Code.region id ops true).wp P Q a0 w0 := by
 subst hm0 hM
 refine wp_region_any hm ?_
 have hff : ∀ i b, i < ops.size → (Array.replicate ops.size false).getD i b = false := fun i b h => by simp [Array.getD_eq_getD_getElem?, h]
 have hft : ∀ i, (Array.replicate ops.size false).getD i false = true → False := fun i h => by
  by_cases hi : i < ops.size
  ·rw [hff i false hi] at h; cases h
  ·simp [Array.getD_eq_getD_getElem?, hi] at h
 refine known_pre (S := S) (R := R) (φ := φ) (ψ := ψ) (χ := χ) hn mono sep hds hac hsu hfl (fun i d hd => ?_) (fun i o hi ho a w hat => ?_) hend _ _ _ _ ⟨⟨rfl, rfl, fun _ _ => rfl, hS, fun i d h _ => (hft i h).elim, by simp⟩, fun i _ hi => hff i true hi, fun i _ h => (hft i h).elim, fun i j di dj _ h => (hft i h).elim⟩ (fun _ _ _ _ => rfl) (by simp [cnt])
 ·unfold dstOf at hd
  rw [Option.bind_eq_some_iff] at hd
  obtain ⟨o, ho, hd⟩ := hd
  have := List.all_eq_true.1 hin o (by rw [Array.mem_toList_iff]; exact Array.mem_of_getElem? ho)
  rw [hd] at this
  simpa using this
 ·refine wpOp_step ho fun K hK => ?_
  have := steps2_at hstep i o (by rw [List.getElem?_take_of_lt hi, Array.getElem?_toList]; exact ho)
  rw [Nat.zero_add] at this
  exact this a w hat K (fun v w' h1 h2 h3 h4 => hK _ _ ⟨v, rfl, h1, h2, h3, h4⟩)
theorem rest_of {n0 : Nat} {ds : List Nat} {t t0 : Array Value} (h : (ops.toList.take n0).filterMap (·.dst) = ds) (hb : ∀ k, isBase ops k = true → t.getD k undef = t0.getD k undef)
  (hu : ∀ i d, n0 ≤ i → dstOf ops i = some d → t.getD d undef = t0.getD d undef) (k : Nat) (hk : k ∉ ds) : t.getD k undef = t0.getD k undef := by
 cases hi : isBase ops k with
 | true => exact hb k hi
 | false =>
  unfold isBase at hi
  rw [List.all_eq_false] at hi
  obtain ⟨o, ho, hd⟩ := hi
  have hd' : o.dst = some k := by simpa using hd
  obtain ⟨i, hil, rfl⟩ := List.mem_iff_getElem.1 ho
  have hoi : ops[i]? = some ops.toList[i] := by rw [← Array.getElem?_toList, List.getElem?_eq_getElem hil]
  refine hu i k ?_ (by unfold dstOf; rw [hoi]; exact hd')
  rcases Nat.lt_or_ge i n0 with h1 | h1
  ·exfalso
   apply hk
   rw [← h, List.mem_filterMap]
   exact ⟨ops.toList[i], by rw [List.mem_take_iff_getElem]; exact ⟨i, by omega, rfl⟩, hd'⟩
  ·exact h1
end
end Go.Rg
