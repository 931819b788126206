/- A region that draws its order, walked by what is known of each operation's value: one step an operation, whatever the order. -/
import Derived.Deep.RegionHeld3
namespace Go.Rg
set_option linter.unusedVariables false
set_option linter.unusedSectionVars false

section
variable {P : Program} {ops : Array Oper} {Q : Exit → Act → World → Prop}

def dstOf (ops : Array Oper) (i : Nat) : Option Tmp := (ops[i]?).bind (·.dst)
/-- no operation writes this slot -/
def isBase (ops : Array Oper) (k : Nat) : Bool := ops.toList.all fun o => !(o.dst == some k)
/-- each slot is written once -/
def distinct : List Oper → Bool
 | [] => true
 | o :: l => (match o.dst with | none => true | some d => l.all fun p => !(p.dst == some d)) && distinct l
/-- what an operation waits for stands in front of it -/
def acyc : Nat → List Oper → Bool
 | _, [] => true
 | i, o :: l => o.after.toList.all (fun e => !Region.binds .any e || decide (e.on < i)) && acyc (i + 1) l

theorem base_ne {k : Nat} (h : isBase ops k = true) (i : Nat) : dstOf ops i ≠ some k := by
 intro e
 unfold dstOf at e
 rw [Option.bind_eq_some_iff] at e
 obtain ⟨o, ho, hd⟩ := e
 have hm : o ∈ ops.toList := by
  rw [Array.mem_toList_iff]; exact Array.mem_of_getElem? ho
 have := List.all_eq_true.1 h o hm
 simp [hd] at this
theorem distinct_ne : ∀ {l : List Oper}, distinct l = true → ∀ {i j : Nat} {o p : Oper} {d : Tmp}, l[i]? = some o → l[j]? = some p → o.dst = some d → p.dst = some d → i = j
 | [], _, i, j, o, p, d, h, _, _, _ => by simp at h
 | x :: l, hd, i, j, o, p, d, hi, hj, h1, h2 => by
  unfold distinct at hd
  rw [Bool.and_eq_true] at hd
  match i, j, hi, hj with
  | 0, 0, _, _ => rfl
  | 0, j + 1, hi, hj =>
   exfalso
   simp only [List.getElem?_cons_zero, Option.some.injEq] at hi
   subst hi
   rw [h1] at hd
   have := List.all_eq_true.1 hd.1 p (List.mem_of_getElem? (by simpa using hj))
   simp [h2] at this
  | i + 1, 0, hi, hj =>
   exfalso
   simp only [List.getElem?_cons_zero, Option.some.injEq] at hj
   subst hj
   rw [h2] at hd
   have := List.all_eq_true.1 hd.1 o (List.mem_of_getElem? (by simpa using hi))
   simp [h1] at this
  | i + 1, j + 1, hi, hj => exact congrArg (· + 1) (distinct_ne hd.2 (i := i) (j := j) (by simpa using hi) (by simpa using hj) h1 h2)
theorem acyc_lt : ∀ {l : List Oper} {n : Nat}, acyc n l = true → ∀ {i : Nat} {o : Oper}, l[i]? = some o → ∀ e ∈ o.after, Region.binds .any e = true → e.on < n + i
 | [], _, _, i, o, h, _, _, _ => by simp at h
 | x :: l, n, ha, i, o, hi, e, he, hb => by
  unfold acyc at ha
  rw [Bool.and_eq_true] at ha
  match i, hi with
  | 0, hi =>
   simp only [List.getElem?_cons_zero, Option.some.injEq] at hi
   subst hi
   have := List.all_eq_true.1 ha.1 e (by rw [Array.mem_toList_iff]; exact he)
   simp [hb] at this
   omega
  | i + 1, hi =>
   have := acyc_lt ha.2 (by simpa using hi) e he hb
   omega

variable {S : World → Prop} {R : World → World → Prop} {φ : Nat → Value → World → Prop} {a0 : Act}

/-- what is known when some operations have come up -/
structure Known (ops : Array Oper) (S : World → Prop) (φ : Nat → Value → World → Prop) (a0 : Act) (listed : Array Bool) (a : Act) (w : World) : Prop where
 size : a.tmps.size = a0.tmps.size
 defers : a.defers = a0.defers
 base : ∀ k, isBase ops k = true → a.tmps.getD k undef = a0.tmps.getD k undef
 st : S w
 val : ∀ i d, listed.getD i false = true → dstOf ops i = some d → φ i (a.tmps.getD d undef) w
 lsz : listed.size = ops.size
/-- what is known when an operation comes up -/
structure At (ops : Array Oper) (S : World → Prop) (φ : Nat → Value → World → Prop) (a0 : Act) (o : Oper) (a : Act) (w : World) : Prop where
 defers : a.defers = a0.defers
 base : ∀ k, isBase ops k = true → a.tmps.getD k undef = a0.tmps.getD k undef
 st : S w
 dep : ∀ j d, dstOf ops j = some d → (o.after.any fun e => Region.binds .any e && e.on == j) = true → φ j (a.tmps.getD d undef) w

theorem put_getD (a : Act) {d k : Nat} (v : Value) (h : d ≠ k) : (a.put (some d) v).tmps.getD k undef = a.tmps.getD k undef := by
 show (a.tmps.setIfInBounds d v).getD k undef = _
 simp only [Array.getD_eq_getD_getElem?]
 rw [Array.getElem?_setIfInBounds_ne h]
theorem put_same (a : Act) {d : Nat} (v : Value) (h : d < a.tmps.size) : (a.put (some d) v).tmps.getD d undef = v := by
 show (a.tmps.setIfInBounds d v).getD d undef = _
 simp [Array.getD_eq_getD_getElem?, h]
def cnt (listed : Array Bool) : Nat := listed.toList.count false
theorem cnt_set {listed : Array Bool} {i : Nat} (h : listed.getD i true = false) : cnt (listed.setIfInBounds i true) + 1 = cnt listed := by
 have hi : i < listed.size := by
  rcases Nat.lt_or_ge i listed.size with h' | h'
  ·exact h'
  ·simp [Array.getD_eq_getD_getElem?, Array.getElem?_eq_none h'] at h
 have hv : listed.toList[i]'(by simpa using hi) = false := by
  simp [Array.getD_eq_getD_getElem?, hi] at h
  simpa using h
 unfold cnt
 rw [Array.toList_setIfInBounds, List.count_set (by simpa using hi), hv]
 have hp : 0 < listed.toList.count false := List.count_pos_iff.2 (by rw [← hv]; exact List.getElem_mem _)
 rw [if_pos (by rfl), if_neg (by decide)]
 omega
theorem cnt_zero {listed : Array Bool} (h : cnt listed = 0) (i : Nat) : listed.getD i true = true := by
 by_cases hi : i < listed.size
 ·have hn := List.count_eq_zero.1 h
  have hm : listed.toList[i]'(by simpa using hi) ∈ listed.toList := List.getElem_mem _
  simp only [Array.getD_eq_getD_getElem?, Array.getElem?_eq_getElem hi, Option.getD_some]
  cases hv : listed[i] with
  | true => rfl
  | false =>
   exfalso
   apply hn
   have : listed.toList[i]'(by simpa using hi) = false := by simpa using hv
   rw [← this]; exact hm
 ·simp [Array.getD_eq_getD_getElem?, Array.getElem?_eq_none (by omega : listed.size ≤ i)]
/-- when nothing may come up, all have -/
theorem all_listed (hac : acyc 0 ops.toList = true) {listed : Array Bool} (hl : listed.size = ops.size) (hr : Region.ready .any ops listed = []) : ∀ i, i < ops.size → listed.getD i false = true := by
 intro i
 induction i using Nat.strongRecOn with
 | _ i ih =>
  intro hi
  cases hv : listed.getD i true with
  | true =>
   have h' : i < listed.size := by omega
   simp [Array.getD_eq_getD_getElem?, h'] at hv ⊢
   exact hv
  | false =>
   exfalso
   have ho : ops[i]? = some ops[i] := Array.getElem?_eq_getElem hi
   have hm : i ∈ Region.ready .any ops listed := mem_ready.2 ⟨hv, ops[i], ho, fun e he hb => by
    have := acyc_lt hac (i := i) (o := ops[i]) (by rw [Array.getElem?_toList]; exact ho) e he hb
    exact ih e.on (by omega) (by omega)⟩
   rw [hr] at hm
   cases hm

theorem known_any (mono : ∀ j x w w', R w w' → φ j x w → φ j x w') (hds : distinct ops.toList = true) (hac : acyc 0 ops.toList = true) (hin : ∀ i d, dstOf ops i = some d → d < a0.tmps.size)
  (hstep : ∀ i o, ops[i]? = some o → ∀ a w, At ops S φ a0 o a w → wpOp P ops Q i (fun a' w' => ∃ v, a' = a.put o.dst v ∧ S w' ∧ R w w' ∧ φ i v w') a w)
  (hend : ∀ a w, a.tmps.size = a0.tmps.size → a.defers = a0.defers → (∀ k, isBase ops k = true → a.tmps.getD k undef = a0.tmps.getD k undef) → S w → (∀ i d, dstOf ops i = some d → φ i (a.tmps.getD d undef) w) → Q .normal a w) :
  ∀ (fuel : Nat) (listed : Array Bool) (a : Act) (w : World), Known ops S φ a0 listed a w → cnt listed ≤ fuel → wpAny P .any ops Q fuel listed a w := by
 have fin : ∀ (listed : Array Bool) (a : Act) (w : World), Known ops S φ a0 listed a w → Region.ready .any ops listed = [] → Q .normal a w := fun listed a w hk hr =>
  hend a w hk.size hk.defers hk.base hk.st fun i d hd => hk.val i d (all_listed hac hk.lsz hr i (by
   unfold dstOf at hd
   rw [Option.bind_eq_some_iff] at hd
   obtain ⟨o, ho, _⟩ := hd
   exact (Array.getElem?_eq_some_iff.1 ho).1)) hd
 intro fuel
 induction fuel with
 | zero =>
  intro listed a w hk hc
  have hr : Region.ready .any ops listed = [] := by
   cases hr : Region.ready .any ops listed with
   | nil => rfl
   | cons i l =>
    exfalso
    have hm : i ∈ Region.ready .any ops listed := by rw [hr]; simp
    have := (mem_ready.1 hm).1
    rw [cnt_zero (by omega)] at this
    cases this
  exact ⟨hr, fin listed a w hk hr⟩
 | succ fuel ih =>
  intro listed a w hk hc
  refine ⟨fin listed a w hk, fun i hi => ?_⟩
  obtain ⟨h0, o, ho, hdep⟩ := mem_ready.1 hi
  refine wpOp_mono ?_ (hstep i o ho a w ⟨hk.defers, hk.base, hk.st, fun j d hd hj => hk.val j d (by
   rw [Array.any_eq_true] at hj
   obtain ⟨n, hn, hb⟩ := hj
   rw [Bool.and_eq_true, beq_iff_eq] at hb
   rw [← hb.2]
   exact hdep _ (Array.getElem_mem hn) hb.1) hd⟩)
  rintro a' w' ⟨v, rfl, hS, hR, hv⟩
  refine ih _ _ _ ?_ (by have := cnt_set h0; omega)
  have hli : i < listed.size := by
   rcases Nat.lt_or_ge i listed.size with h' | h'
   ·exact h'
   ·simp [Array.getD_eq_getD_getElem?, Array.getElem?_eq_none h'] at h0
  have hdi : dstOf ops i = o.dst := by unfold dstOf; rw [ho]; rfl
  refine ⟨?_, ?_, fun k hk' => ?_, hS, fun j d hj hd => ?_, by simp [hk.lsz]⟩
  ·unfold Act.put; split
   ·simp [hk.size]
   ·exact hk.size
  ·unfold Act.put; split <;> exact hk.defers
  ·have hne := base_ne hk' i
   rw [hdi] at hne
   cases hod : o.dst with
   | none => exact hk.base k hk'
   | some d =>
    rw [hod] at hne
    rw [put_getD a v (fun e => hne (by rw [e]))]
    exact hk.base k hk'
  ·by_cases hij : j = i
   ·subst hij
    rw [hdi] at hd
    rw [hd, put_same a v (by rw [hk.size]; exact hin j d (by rw [hdi, hd]))]
    exact hv
   ·have hjl : listed.getD j false = true := by rwa [getD_set_ne false (fun e => hij e.symm)] at hj
    have hold := mono _ _ _ _ hR (hk.val j d hjl hd)
    cases hod : o.dst with
    | none => exact hold
    | some d' =>
     have hdd : d' ≠ d := by
      intro e
      subst e
      unfold dstOf at hd
      rw [Option.bind_eq_some_iff] at hd
      obtain ⟨p, hp, hpd⟩ := hd
      exact hij (distinct_ne hds (i := j) (j := i) (by rw [Array.getElem?_toList]; exact hp) (by rw [Array.getElem?_toList]; exact ho) hpd hod)
     rw [put_getD a v hdd]
     exact hold

/-- **a region that draws its order: one step an operation** -/
theorem region_by {id : Nat} {w0 : World} (hm : P.follows .mixedOrders = true) (S : World → Prop) (R : World → World → Prop) (φ : Nat → Value → World → Prop) (mono : ∀ j x w w', R w w' → φ j x w → φ j x w')
  (hds : distinct ops.toList = true) (hac : acyc 0 ops.toList = true) (hin : (ops.toList.all fun o => match o.dst with | some d => decide (d < a0.tmps.size) | none => true) = true) (hS : S w0.drew)
  (hstep : ∀ i o, ops[i]? = some o → ∀ a w, At ops S φ a0 o a w → wpOp P ops Q i (fun a' w' => ∃ v, a' = a.put o.dst v ∧ S w' ∧ R w w' ∧ φ i v w') a w)
  (hend : ∀ a w, a.tmps.size = a0.tmps.size → a.defers = a0.defers → (∀ k, isBase ops k = true → a.tmps.getD k undef = a0.tmps.getD k undef) → S w → (∀ i d, dstOf ops i = some d → φ i (a.tmps.getD d undef) w) → Q .normal a w) :
  (Code.region id ops true).wp P Q a0 w0 := by
 refine wp_region_any hm ?_
 refine known_any (S := S) (R := R) (φ := φ) mono hds hac (fun i d hd => ?_) hstep hend _ _ _ _ ⟨rfl, rfl, fun _ _ => rfl, hS, fun i d h _ => ?_, by simp⟩ (by simp [cnt])
 ·unfold dstOf at hd
  rw [Option.bind_eq_some_iff] at hd
  obtain ⟨o, ho, hd⟩ := hd
  have := List.all_eq_true.1 hin o (by rw [Array.mem_toList_iff]; exact Array.mem_of_getElem? ho)
  rw [hd] at this
  simpa using this
 ·exfalso
  simp [Array.getD_eq_getD_getElem?, Array.getElem?_replicate] at h
  split at h <;> simp at h
/-- the frame behind a region -/
theorem tmps_of {t t0 : Array Value} (hs : t.size = t0.size) (ds : List Nat) (h : ∀ k, k ∉ ds → t.getD k undef = t0.getD k undef) : t = ds.foldl (fun u d => u.setIfInBounds d (t.getD d undef)) t0 := by
 have key : ∀ (ds : List Nat) (u : Array Value), u.size = t.size → (∀ k, k ∉ ds → u.getD k undef = t.getD k undef) → ds.foldl (fun u d => u.setIfInBounds d (t.getD d undef)) u = t := by
  intro ds
  induction ds with
  | nil =>
   intro u hu hk
   apply Array.ext hu
   intro i h1 h2
   have := hk i (by simp)
   simpa [Array.getD_eq_getD_getElem?, h1, h2] using this
  | cons d ds ih =>
   intro u hu hk
   refine ih _ (by simp [hu]) fun k hk' => ?_
   by_cases e : d = k
   ·subst e
    by_cases hl : d < u.size
    ·simp [Array.getD_eq_getD_getElem?, hl]
    ·simp [Array.getD_eq_getD_getElem?, Array.getElem?_eq_none (by simp; omega : (u.setIfInBounds d _).size ≤ d), Array.getElem?_eq_none (by omega : t.size ≤ d)]
   ·have := hk k (by simp; exact ⟨fun h => e h.symm, hk'⟩)
    simp only [Array.getD_eq_getD_getElem?] at this ⊢
    rw [Array.getElem?_setIfInBounds_ne e]
    exact this
 exact (key ds t0 hs.symm fun k hk => (h k hk).symm).symm
end

/-! ### how the steps are given -/
section
variable {P : Program} {ops : Array Oper} {Q : Exit → Act → World → Prop} {S : World → Prop} {R : World → World → Prop} {φ : Nat → Value → World → Prop} {a0 : Act}
/-- what is to be shown of operation i -/
def Step (P : Program) (ops : Array Oper) (Q : Exit → Act → World → Prop) (S : World → Prop) (R : World → World → Prop) (φ : Nat → Value → World → Prop) (a0 : Act) (i : Nat) (o : Oper) : Prop :=
 ∀ a w, At ops S φ a0 o a w → ∀ K : Act → World → Prop, Shut (∀ v w', S w' → R w w' → φ i v w' → K (a.put o.dst v) w') →
  if Region.wanted o (yielded ops a.tmps) = true then Oper.wp P o a w K Q else K (a.put o.dst undef) w
def Steps (P : Program) (ops : Array Oper) (Q : Exit → Act → World → Prop) (S : World → Prop) (R : World → World → Prop) (φ : Nat → Value → World → Prop) (a0 : Act) : Nat → List Oper → Prop
 | _, [] => True
 | i, o :: l => Step P ops Q S R φ a0 i o ∧ Steps P ops Q S R φ a0 (i + 1) l
theorem steps_at : ∀ {l : List Oper} {n : Nat}, Steps P ops Q S R φ a0 n l → ∀ i o, l[i]? = some o → Step P ops Q S R φ a0 (n + i) o
 | [], _, _, i, o, h => by simp at h
 | x :: l, n, hs, 0, o, h => by
  simp only [List.getElem?_cons_zero, Option.some.injEq] at h
  subst h; exact hs.1
 | x :: l, n, hs, i + 1, o, h => by
  have := steps_at hs.2 i o (by simpa using h)
  rwa [show n + 1 + i = n + (i + 1) by omega] at this
theorem steps_ok (hs : Steps P ops Q S R φ a0 0 ops.toList) : ∀ i o, ops[i]? = some o → ∀ a w, At ops S φ a0 o a w → wpOp P ops Q i (fun a' w' => ∃ v, a' = a.put o.dst v ∧ S w' ∧ R w w' ∧ φ i v w') a w := fun i o ho a w hat =>
 wpOp_step ho fun K hK => by
  have := steps_at hs i o (by rw [Array.getElem?_toList]; exact ho)
  rw [Nat.zero_add] at this
  exact this a w hat K (fun v w' h1 h2 h3 => hK _ _ ⟨v, rfl, h1, h2, h3⟩)
theorem yielded_of {t : Array Value} {j d : Nat} {b : Bool} (hd : dstOf ops j = some d) (h : t.getD d undef = .bool b) : yielded ops t j = some b := by
 have e : t[d]? = some (.bool b) := by
  rw [Array.getD_eq_getD_getElem?] at h
  cases he : t[d]? with
  | none => rw [he] at h; cases h
  | some x => rw [he] at h; exact congrArg some h
 unfold yielded
 unfold dstOf at hd
 rw [hd]
 show (match t[d]? with | some (.bool b) => some b | _ => none) = some b
 rw [e]
theorem wanted_yes {o : Oper} {t : Array Value} {j d : Nat} {b : Bool} (hg : o.guard = some (j, b)) (hd : dstOf ops j = some d) (h : t.getD d undef = .bool b) : Region.wanted o (yielded ops t) = true := by
 unfold Region.wanted
 rw [hg]
 show (yielded ops t j == some b) = true
 rw [yielded_of hd h]; simp
theorem wanted_no {o : Oper} {t : Array Value} {j d : Nat} {b c : Bool} (hg : o.guard = some (j, b)) (hd : dstOf ops j = some d) (h : t.getD d undef = .bool c) (hbc : c ≠ b) : ¬ Region.wanted o (yielded ops t) = true := by
 unfold Region.wanted
 rw [hg]
 show ¬ (yielded ops t j == some b) = true
 rw [yielded_of hd h]; simpa using hbc
def dsts (ops : Array Oper) : List Nat := ops.toList.filterMap (·.dst)
theorem base_of {ds : List Nat} (h : dsts ops = ds) {k : Nat} (hk : k ∉ ds) : isBase ops k = true := by
 subst h
 unfold isBase
 rw [List.all_eq_true]
 intro o ho
 cases hd : o.dst with
 | none => rfl
 | some d =>
  have : d ≠ k := fun e => hk (by
   unfold dsts
   rw [List.mem_filterMap]
   exact ⟨o, ho, by rw [hd, e]⟩)
  simpa using this
end
end Go.Rg
