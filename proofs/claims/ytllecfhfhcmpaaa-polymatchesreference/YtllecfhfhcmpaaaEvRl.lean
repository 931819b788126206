/- A region that draws its order, walked by what is known of each operation's value: one step an operation, whatever the order. -/
import Derived.Deep.RegionHeld3
import Derived.RangeFuncCalls
import Derived.OrdersIn
import Derived.TacticsIn
namespace Go.Rg
set_option linter.unusedVariables false
set_option linter.unusedSectionVars false
section
variable {P : Program} {ops : Array Oper} {Q : Exit → Act → World → Prop}
def dstOf (ops : Array Oper) (i : Nat) : Option Tmp:=(ops[i]?).bind (·.dst)
def isBase (ops : Array Oper) (k : Nat) : Bool:=ops.toList.all fun o=>!(o.dst == some k)
def distinct : List Oper → Bool
 | []=>true
 | o :: l=>(match o.dst with | none=>true | some d=>l.all fun p=>!(p.dst == some d)) && distinct l
def acyc : Nat → List Oper → Bool
 | _,[]=>true
 | i,o :: l=>o.after.toList.all (fun e=>!Region.binds .any e || decide (e.on < i)) && acyc (i + 1) l
theorem base_ne {k : Nat} (h : isBase ops k = true) (i : Nat) : dstOf ops i ≠ some k:=by
 intro e
 unfold dstOf at e
 rw [Option.bind_eq_some_iff] at e
 obtain ⟨o,ho,hd⟩:=e
 have hm : o ∈ ops.toList:=by
  rw [Array.mem_toList_iff]; exact Array.mem_of_getElem? ho
 have:=List.all_eq_true.1 h o hm
 simp [hd] at this
theorem distinct_ne : ∀ {l : List Oper},distinct l = true → ∀ {i j : Nat} {o p : Oper} {d : Tmp},l[i]? = some o → l[j]? = some p → o.dst = some d → p.dst = some d → i = j
 | [],_,i,j,o,p,d,h,_,_,_=>by simp at h
 | x :: l,hd,i,j,o,p,d,hi,hj,h1,h2=>by
  unfold distinct at hd
  rw [Bool.and_eq_true] at hd
  match i,j,hi,hj with
  | 0,0,_,_=>rfl
  | 0,j + 1,hi,hj =>
   exfalso
   simp only [List.getElem?_cons_zero,Option.some.injEq] at hi
   subst hi
   rw [h1] at hd
   have:=List.all_eq_true.1 hd.1 p (List.mem_of_getElem? (by simpa using hj))
   simp [h2] at this
  | i + 1,0,hi,hj =>
   exfalso
   simp only [List.getElem?_cons_zero,Option.some.injEq] at hj
   subst hj
   rw [h2] at hd
   have:=List.all_eq_true.1 hd.1 o (List.mem_of_getElem? (by simpa using hi))
   simp [h1] at this
  | i + 1,j + 1,hi,hj=>exact congrArg (· + 1) (distinct_ne hd.2 (i:=i) (j:=j) (by simpa using hi) (by simpa using hj) h1 h2)
theorem acyc_lt : ∀ {l : List Oper} {n : Nat},acyc n l = true → ∀ {i : Nat} {o : Oper},l[i]? = some o → ∀ e ∈ o.after,Region.binds .any e = true → e.on < n + i
 | [],_,_,i,o,h,_,_,_=>by simp at h
 | x :: l,n,ha,i,o,hi,e,he,hb=>by
  unfold acyc at ha
  rw [Bool.and_eq_true] at ha
  match i,hi with
  | 0,hi =>
   simp only [List.getElem?_cons_zero,Option.some.injEq] at hi
   subst hi
   have:=List.all_eq_true.1 ha.1 e (by rw [Array.mem_toList_iff]; exact he)
   simp [hb] at this
   omega
  | i + 1,hi =>
   have:=acyc_lt ha.2 (by simpa using hi) e he hb
   omega
variable {S : World → Prop} {R : World → World → Prop} {φ : Nat → Value → World → Prop} {a0 : Act}
structure Known (ops : Array Oper) (S : World → Prop) (φ : Nat → Value → World → Prop) (a0 : Act) (listed : Array Bool) (a : Act) (w : World) : Prop where
 size : a.tmps.size = a0.tmps.size
 defers : a.defers = a0.defers
 base : ∀ k,isBase ops k = true → a.tmps.getD k undef = a0.tmps.getD k undef
 st : S w
 val : ∀ i d,listed.getD i false = true → dstOf ops i = some d → φ i (a.tmps.getD d undef) w
 lsz : listed.size = ops.size
structure At (ops : Array Oper) (S : World → Prop) (φ : Nat → Value → World → Prop) (a0 : Act) (o : Oper) (a : Act) (w : World) : Prop where
 defers : a.defers = a0.defers
 base : ∀ k,isBase ops k = true → a.tmps.getD k undef = a0.tmps.getD k undef
 st : S w
 dep : ∀ j d,dstOf ops j = some d → (o.after.any fun e=>Region.binds .any e && e.on == j) = true → φ j (a.tmps.getD d undef) w
theorem put_getD (a : Act) {d k : Nat} (v : Value) (h : d ≠ k) : (a.put (some d) v).tmps.getD k undef = a.tmps.getD k undef:=by
 show (a.tmps.setIfInBounds d v).getD k undef = _
 simp only [Array.getD_eq_getD_getElem?]
 rw [Array.getElem?_setIfInBounds_ne h]
theorem put_same (a : Act) {d : Nat} (v : Value) (h : d < a.tmps.size) : (a.put (some d) v).tmps.getD d undef = v:=by
 show (a.tmps.setIfInBounds d v).getD d undef = _
 simp [Array.getD_eq_getD_getElem?,h]
def cnt (listed : Array Bool) : Nat:=listed.toList.count false
theorem cnt_set {listed : Array Bool} {i : Nat} (h : listed.getD i true = false) : cnt (listed.setIfInBounds i true) + 1 = cnt listed:=by
 have hi : i < listed.size:=by
  rcases Nat.lt_or_ge i listed.size with h' | h'
  ·exact h'
  ·simp [Array.getD_eq_getD_getElem?,Array.getElem?_eq_none h'] at h
 have hv : listed.toList[i]'(by simpa using hi) = false:=by
  simp [Array.getD_eq_getD_getElem?,hi] at h
  simpa using h
 unfold cnt
 rw [Array.toList_setIfInBounds,List.count_set (by simpa using hi),hv]
 have hp : 0 < listed.toList.count false:=List.count_pos_iff.2 (by rw [← hv]; exact List.getElem_mem _)
 rw [if_pos (by rfl),if_neg (by decide)]
 omega
theorem cnt_zero {listed : Array Bool} (h : cnt listed = 0) (i : Nat) : listed.getD i true = true:=by
 by_cases hi : i < listed.size
 ·have hn:=List.count_eq_zero.1 h
  have hm : listed.toList[i]'(by simpa using hi) ∈ listed.toList:=List.getElem_mem _
  simp only [Array.getD_eq_getD_getElem?,Array.getElem?_eq_getElem hi,Option.getD_some]
  cases hv : listed[i] with
  | true=>rfl
  | false =>
   exfalso
   apply hn
   have : listed.toList[i]'(by simpa using hi) = false:=by simpa using hv
   rw [← this]; exact hm
 ·simp [Array.getD_eq_getD_getElem?,Array.getElem?_eq_none (by omega : listed.size ≤ i)]
theorem all_listed (hac : acyc 0 ops.toList = true) {listed : Array Bool} (hl : listed.size = ops.size) (hr : Region.ready .any ops listed = []) : ∀ i,i < ops.size → listed.getD i false = true:=by
 intro i
 induction i using Nat.strongRecOn with
 | _ i ih =>
  intro hi
  cases hv : listed.getD i true with
  | true =>
   have h' : i < listed.size:=by omega
   simp [Array.getD_eq_getD_getElem?,h'] at hv ⊢
   exact hv
  | false =>
   exfalso
   have ho : ops[i]? = some ops[i]:=Array.getElem?_eq_getElem hi
   have hm : i ∈ Region.ready .any ops listed:=mem_ready.2 ⟨hv,ops[i],ho,fun e he hb=>by
    have:=acyc_lt hac (i:=i) (o:=ops[i]) (by rw [Array.getElem?_toList]; exact ho) e he hb
    exact ih e.on (by omega) (by omega)⟩
   rw [hr] at hm
   cases hm
theorem known_any (mono : ∀ j x w w',R w w' → φ j x w → φ j x w') (hds : distinct ops.toList = true) (hac : acyc 0 ops.toList = true) (hin : ∀ i d,dstOf ops i = some d → d < a0.tmps.size)
  (hstep : ∀ i o,ops[i]? = some o → ∀ a w,At ops S φ a0 o a w → wpOp P ops Q i (fun a' w'=>∃ v,a' = a.put o.dst v ∧ S w' ∧ R w w' ∧ φ i v w') a w)
  (hend : ∀ a w,a.tmps.size = a0.tmps.size → a.defers = a0.defers → (∀ k,isBase ops k = true → a.tmps.getD k undef = a0.tmps.getD k undef) → S w → (∀ i d,dstOf ops i = some d → φ i (a.tmps.getD d undef) w) → Q .normal a w) :
  ∀ (fuel : Nat) (listed : Array Bool) (a : Act) (w : World),Known ops S φ a0 listed a w → cnt listed ≤ fuel → wpAny P .any ops Q fuel listed a w:=by
 have fin : ∀ (listed : Array Bool) (a : Act) (w : World),Known ops S φ a0 listed a w → Region.ready .any ops listed = [] → Q .normal a w:=fun listed a w hk hr =>
  hend a w hk.size hk.defers hk.base hk.st fun i d hd=>hk.val i d (all_listed hac hk.lsz hr i (by
   unfold dstOf at hd
   rw [Option.bind_eq_some_iff] at hd
   obtain ⟨o,ho,_⟩:=hd
   exact (Array.getElem?_eq_some_iff.1 ho).1)) hd
 intro fuel
 induction fuel with
 | zero =>
  intro listed a w hk hc
  have hr : Region.ready .any ops listed = []:=by
   cases hr : Region.ready .any ops listed with
   | nil=>rfl
   | cons i l =>
    exfalso
    have hm : i ∈ Region.ready .any ops listed:=by rw [hr]; simp
    have:=(mem_ready.1 hm).1
    rw [cnt_zero (by omega)] at this
    cases this
  exact ⟨hr,fin listed a w hk hr⟩
 | succ fuel ih =>
  intro listed a w hk hc
  refine ⟨fin listed a w hk,fun i hi=>?_⟩
  obtain ⟨h0,o,ho,hdep⟩:=mem_ready.1 hi
  refine wpOp_mono ?_ (hstep i o ho a w ⟨hk.defers,hk.base,hk.st,fun j d hd hj=>hk.val j d (by
   rw [Array.any_eq_true] at hj
   obtain ⟨n,hn,hb⟩:=hj
   rw [Bool.and_eq_true,beq_iff_eq] at hb
   rw [← hb.2]
   exact hdep _ (Array.getElem_mem hn) hb.1) hd⟩)
  rintro a' w' ⟨v,rfl,hS,hR,hv⟩
  refine ih _ _ _ ?_ (by have:=cnt_set h0; omega)
  have hli : i < listed.size:=by
   rcases Nat.lt_or_ge i listed.size with h' | h'
   ·exact h'
   ·simp [Array.getD_eq_getD_getElem?,Array.getElem?_eq_none h'] at h0
  have hdi : dstOf ops i = o.dst:=by unfold dstOf; rw [ho]; rfl
  refine ⟨?_,?_,fun k hk'=>?_,hS,fun j d hj hd=>?_,by simp [hk.lsz]⟩
  ·unfold Act.put; split
   ·simp [hk.size]
   ·exact hk.size
  ·unfold Act.put; split <;> exact hk.defers
  ·have hne:=base_ne hk' i
   rw [hdi] at hne
   cases hod : o.dst with
   | none=>exact hk.base k hk'
   | some d =>
    rw [hod] at hne
    rw [put_getD a v (fun e=>hne (by rw [e]))]
    exact hk.base k hk'
  ·by_cases hij : j = i
   ·subst hij
    rw [hdi] at hd
    rw [hd,put_same a v (by rw [hk.size]; exact hin j d (by rw [hdi,hd]))]
    exact hv
   ·have hjl : listed.getD j false = true:=by rwa [getD_set_ne false (fun e=>hij e.symm)] at hj
    have hold:=mono _ _ _ _ hR (hk.val j d hjl hd)
    cases hod : o.dst with
    | none=>exact hold
    | some d' =>
     have hdd : d' ≠ d:=by
      intro e
      subst e
      unfold dstOf at hd
      rw [Option.bind_eq_some_iff] at hd
      obtain ⟨p,hp,hpd⟩:=hd
      exact hij (distinct_ne hds (i:=j) (j:=i) (by rw [Array.getElem?_toList]; exact hp) (by rw [Array.getElem?_toList]; exact ho) hpd hod)
     rw [put_getD a v hdd]
     exact hold
theorem region_by {id : Nat} {w0 : World} (hm : P.follows .mixedOrders = true) (S : World → Prop) (R : World → World → Prop) (φ : Nat → Value → World → Prop) (mono : ∀ j x w w',R w w' → φ j x w → φ j x w')
  (hds : distinct ops.toList = true) (hac : acyc 0 ops.toList = true) (hin : (ops.toList.all fun o=>match o.dst with | some d=>decide (d < a0.tmps.size) | none=>true) = true) (hS : S w0.drew)
  (hstep : ∀ i o,ops[i]? = some o → ∀ a w,At ops S φ a0 o a w → wpOp P ops Q i (fun a' w'=>∃ v,a' = a.put o.dst v ∧ S w' ∧ R w w' ∧ φ i v w') a w)
  (hend : ∀ a w,a.tmps.size = a0.tmps.size → a.defers = a0.defers → (∀ k,isBase ops k = true → a.tmps.getD k undef = a0.tmps.getD k undef) → S w → (∀ i d,dstOf ops i = some d → φ i (a.tmps.getD d undef) w) → Q .normal a w) :
  (Code.region id ops true).wp P Q a0 w0:=by
 refine wp_region_any hm ?_
 refine known_any (S:=S) (R:=R) (φ:=φ) mono hds hac (fun i d hd=>?_) hstep hend _ _ _ _ ⟨rfl,rfl,fun _ _=>rfl,hS,fun i d h _=>?_,by simp⟩ (by simp [cnt])
 ·unfold dstOf at hd
  rw [Option.bind_eq_some_iff] at hd
  obtain ⟨o,ho,hd⟩:=hd
  have:=List.all_eq_true.1 hin o (by rw [Array.mem_toList_iff]; exact Array.mem_of_getElem? ho)
  rw [hd] at this
  simpa using this
 ·exfalso
  simp [Array.getD_eq_getD_getElem?,Array.getElem?_replicate] at h
  split at h <;> simp at h
theorem tmps_of {t t0 : Array Value} (hs : t.size = t0.size) (ds : List Nat) (h : ∀ k,k ∉ ds → t.getD k undef = t0.getD k undef) : t = ds.foldl (fun u d=>u.setIfInBounds d (t.getD d undef)) t0:=by
 have key : ∀ (ds : List Nat) (u : Array Value),u.size = t.size → (∀ k,k ∉ ds → u.getD k undef = t.getD k undef) → ds.foldl (fun u d=>u.setIfInBounds d (t.getD d undef)) u = t:=by
  intro ds
  induction ds with
  | nil =>
   intro u hu hk
   apply Array.ext hu
   intro i h1 h2
   have:=hk i (by simp)
   simpa [Array.getD_eq_getD_getElem?,h1,h2] using this
  | cons d ds ih =>
   intro u hu hk
   refine ih _ (by simp [hu]) fun k hk'=>?_
   by_cases e : d = k
   ·subst e
    by_cases hl : d < u.size
    ·simp [Array.getD_eq_getD_getElem?,hl]
    ·simp [Array.getD_eq_getD_getElem?,Array.getElem?_eq_none (by simp; omega : (u.setIfInBounds d _).size ≤ d),Array.getElem?_eq_none (by omega : t.size ≤ d)]
   ·have:=hk k (by simp; exact ⟨fun h=>e h.symm,hk'⟩)
    simp only [Array.getD_eq_getD_getElem?] at this ⊢
    rw [Array.getElem?_setIfInBounds_ne e]
    exact this
 exact (key ds t0 hs.symm fun k hk=>(h k hk).symm).symm
end
section
variable {P : Program} {ops : Array Oper} {Q : Exit → Act → World → Prop} {S : World → Prop} {R : World → World → Prop} {φ : Nat → Value → World → Prop} {a0 : Act}
def Step (P : Program) (ops : Array Oper) (Q : Exit → Act → World → Prop) (S : World → Prop) (R : World → World → Prop) (φ : Nat → Value → World → Prop) (a0 : Act) (i : Nat) (o : Oper) : Prop:=
 ∀ a w,At ops S φ a0 o a w → ∀ K : Act → World → Prop,Shut (∀ v w',S w' → R w w' → φ i v w' → K (a.put o.dst v) w') →
  if Region.wanted o (yielded ops a.tmps) = true then Oper.wp P o a w K Q else K (a.put o.dst undef) w
def Steps (P : Program) (ops : Array Oper) (Q : Exit → Act → World → Prop) (S : World → Prop) (R : World → World → Prop) (φ : Nat → Value → World → Prop) (a0 : Act) : Nat → List Oper → Prop
 | _,[]=>True
 | i,o :: l=>Step P ops Q S R φ a0 i o ∧ Steps P ops Q S R φ a0 (i + 1) l
theorem steps_at : ∀ {l : List Oper} {n : Nat},Steps P ops Q S R φ a0 n l → ∀ i o,l[i]? = some o → Step P ops Q S R φ a0 (n + i) o
 | [],_,_,i,o,h=>by simp at h
 | x :: l,n,hs,0,o,h=>by
  simp only [List.getElem?_cons_zero,Option.some.injEq] at h
  subst h; exact hs.1
 | x :: l,n,hs,i + 1,o,h=>by
  have:=steps_at hs.2 i o (by simpa using h)
  rwa [show n + 1 + i = n + (i + 1) by omega] at this
theorem steps_ok (hs : Steps P ops Q S R φ a0 0 ops.toList) : ∀ i o,ops[i]? = some o → ∀ a w,At ops S φ a0 o a w → wpOp P ops Q i (fun a' w'=>∃ v,a' = a.put o.dst v ∧ S w' ∧ R w w' ∧ φ i v w') a w:=fun i o ho a w hat =>
 wpOp_step ho fun K hK=>by
  have:=steps_at hs i o (by rw [Array.getElem?_toList]; exact ho)
  rw [Nat.zero_add] at this
  exact this a w hat K (fun v w' h1 h2 h3=>hK _ _ ⟨v,rfl,h1,h2,h3⟩)
theorem yielded_of {t : Array Value} {j d : Nat} {b : Bool} (hd : dstOf ops j = some d) (h : t.getD d undef = .bool b) : yielded ops t j = some b:=by
 have e : t[d]? = some (.bool b):=by
  rw [Array.getD_eq_getD_getElem?] at h
  cases he : t[d]? with
  | none=>rw [he] at h; cases h
  | some x=>rw [he] at h; exact congrArg some h
 unfold yielded
 unfold dstOf at hd
 rw [hd]
 show (match t[d]? with | some (.bool b)=>some b | _=>none) = some b
 rw [e]
theorem wanted_yes {o : Oper} {t : Array Value} {j d : Nat} {b : Bool} (hg : o.guard = some (j,b)) (hd : dstOf ops j = some d) (h : t.getD d undef = .bool b) : Region.wanted o (yielded ops t) = true:=by
 unfold Region.wanted
 rw [hg]
 show (yielded ops t j == some b) = true
 rw [yielded_of hd h]; simp
theorem wanted_no {o : Oper} {t : Array Value} {j d : Nat} {b c : Bool} (hg : o.guard = some (j,b)) (hd : dstOf ops j = some d) (h : t.getD d undef = .bool c) (hbc : c ≠ b) : ¬ Region.wanted o (yielded ops t) = true:=by
 unfold Region.wanted
 rw [hg]
 show ¬ (yielded ops t j == some b) = true
 rw [yielded_of hd h]; simpa using hbc
def dsts (ops : Array Oper) : List Nat:=ops.toList.filterMap (·.dst)
theorem base_of {ds : List Nat} (h : dsts ops = ds) {k : Nat} (hk : k ∉ ds) : isBase ops k = true:=by
 subst h
 unfold isBase
 rw [List.all_eq_true]
 intro o ho
 cases hd : o.dst with
 | none=>rfl
 | some d =>
  have : d ≠ k:=fun e=>hk (by
   unfold dsts
   rw [List.mem_filterMap]
   exact ⟨o,ho,by rw [hd,e]⟩)
  simpa using this
end
section
variable {P : Program} {ops : Array Oper} {Q : Exit → Act → World → Prop}
def waits (ops : Array Oper) : Nat → Nat → Nat → Bool
 | 0,_,_=>false
 | n + 1,i,j=>match ops[i]? with
  | some o=>o.after.any fun e=>Region.binds .any e && (e.on == j || waits ops n e.on j)
  | none=>false
def sufB (ops : Array Oper) (n0 fl : Nat) : Bool:=(List.range ops.size).all fun i=>decide (i < n0) || (List.range n0).all fun j=>j == fl || waits ops 6 i j
def Closed (ops : Array Oper) (listed : Array Bool) : Prop:=∀ i o,listed.getD i false = true → ops[i]? = some o → ∀ e ∈ o.after,Region.binds .any e = true → listed.getD e.on false = true
theorem waits_listed {listed : Array Bool} (hc : Closed ops listed) : ∀ (n i j : Nat),(∀ o,ops[i]? = some o → ∀ e ∈ o.after,Region.binds .any e = true → listed.getD e.on false = true) → waits ops n i j = true → listed.getD j false = true
 | 0,_,_,_,h=>by cases h
 | n + 1,i,j,hi,h=>by
  unfold waits at h
  cases ho : ops[i]? with
  | none=>rw [ho] at h; cases h
  | some o =>
   rw [ho] at h
   have h2 : (o.after.any fun e=>Region.binds .any e && (e.on == j || waits ops n e.on j)) = true:=h
   rw [Array.any_eq_true] at h2
   obtain ⟨k,hk,hb⟩:=h2
   rw [Bool.and_eq_true,Bool.or_eq_true,beq_iff_eq] at hb
   have hl:=hi o ho _ (Array.getElem_mem hk) hb.1
   rcases hb.2 with e | hw
   ·rwa [e] at hl
   ·exact waits_listed hc n _ j (fun o' ho' e' he' hb'=>hc _ o' hl ho' e' he' hb') hw
theorem suf_wait {n0 fl i : Nat} {listed : Array Bool} (hc : Closed ops listed) (h : sufB ops n0 fl = true) (hi : n0 ≤ i) (hr : i ∈ Region.ready .any ops listed) : ∀ j,j < n0 → j ≠ fl → listed.getD j false = true:=by
 intro j hj hjf
 obtain ⟨h0,o,ho,hdep⟩:=mem_ready.1 hr
 have his : i < ops.size:=(Array.getElem?_eq_some_iff.1 ho).1
 have:=List.all_eq_true.1 h i (List.mem_range.2 his)
 rw [Bool.or_eq_true] at this
 rcases this with h1 | h1
 ·have:=of_decide_eq_true h1; omega
 ·have h2:=List.all_eq_true.1 h1 j (List.mem_range.2 hj)
  rw [Bool.or_eq_true] at h2
  replace h2:=h2.resolve_left (by simpa using hjf)
  exact waits_listed hc 6 i j (fun o' ho'=>by rw [ho] at ho'; cases ho'; exact hdep) h2
def maskTo (n n0 : Nat) : Array Bool:=(List.range n).toArray.map fun i=>decide (i < n0)
theorem maskTo_get {n n0 i : Nat} (h : i < n) (b : Bool) : (maskTo n n0).getD i b = decide (i < n0):=by
 simp [maskTo,Array.getD_eq_getD_getElem?,h]
theorem cnt_mask {n n0 : Nat} (hn : n0 ≤ n) : cnt (maskTo n n0) = n - n0:=by
 have e : (maskTo n n0).toList = (List.range n).map fun i=>decide (i < n0):=by simp [maskTo]
 unfold cnt
 rw [e]
 induction n with
 | zero=>simp
 | succ n ih =>
  rw [List.range_succ,List.map_append,List.count_append]
  by_cases h : n0 = n + 1
  ·subst h
   have : List.count false ((List.range n).map fun i=>decide (i < n + 1)) = 0:=by
    rw [List.count_eq_zero]
    intro hm
    obtain ⟨x,hx,he⟩:=List.mem_map.1 hm
    have:=List.mem_range.1 hx
    have:=of_decide_eq_false he
    omega
   rw [this]; simp
  ·have:=ih (by omega) (by simp [maskTo])
   rw [this]
   simp
   rw [show decide (n < n0) = false from decide_eq_false (by omega)]
   simp; omega
variable {S : World → Prop} {R : World → World → Prop} {φ : Nat → Value → World → Prop} {ψ : Nat → Value → World → Prop} {χ : Nat → Nat → Value → Value → Prop} {a0 : Act}
structure Known2 (ops : Array Oper) (n0 : Nat) (S : World → Prop) (φ : Nat → Value → World → Prop) (χ : Nat → Nat → Value → Value → Prop) (a0 : Act) (listed : Array Bool) (a : Act) (w : World) : Prop where
 k : Known ops S φ a0 listed a w
 lo : ∀ i,n0 ≤ i → i < ops.size → listed.getD i true = false
 cl : Closed ops listed
 pair : ∀ i j di dj,i ≠ j → listed.getD i false = true → listed.getD j false = true → dstOf ops i = some di → dstOf ops j = some dj → χ i j (a.tmps.getD di undef) (a.tmps.getD dj undef)
def Floats (P : Program) (ops : Array Oper) (Q : Exit → Act → World → Prop) (n0 fl : Nat) (S : World → Prop) (φ ψ : Nat → Value → World → Prop) (a0 : Act) : Prop:=
 fl < n0 → Region.noSelect ops = true ∧ Region.free .any ops ((maskTo ops.size n0).setIfInBounds fl false) fl = true ∧
  ∀ o,ops[fl]? = some o → (∀ v c a w,Q (.panic c) (a.put o.dst v) w → Q (.panic c) a w) ∧ ∀ a w,At ops S φ a0 o a w → ∃ v,Yields P ops o v a ∧ φ fl v w ∧ ψ fl v w
theorem known_pre {n0 fl : Nat} (hn : n0 ≤ ops.size) (mono : ∀ j x w w',R w w' → φ j x w → φ j x w') (sep : ∀ i v w j x,ψ i v w → φ j x w → χ i j v x ∧ χ j i x v)
  (hds : distinct ops.toList = true) (hac : acyc 0 ops.toList = true) (hsu : sufB ops n0 fl = true) (hfl : Floats P ops Q n0 fl S φ ψ a0) (hin : ∀ i d,dstOf ops i = some d → d < a0.tmps.size)
  (hstep : ∀ i o,i < n0 → ops[i]? = some o → ∀ a w,At ops S φ a0 o a w → wpOp P ops Q i (fun a' w'=>∃ v,a' = a.put o.dst v ∧ S w' ∧ R w w' ∧ φ i v w' ∧ ψ i v w) a w)
  (hend : ∀ a w,a.tmps.size = a0.tmps.size → a.defers = a0.defers → (∀ k,isBase ops k = true → a.tmps.getD k undef = a0.tmps.getD k undef) → S w → (∀ i d,i < n0 → dstOf ops i = some d → φ i (a.tmps.getD d undef) w) →
   (∀ i j di dj,i ≠ j → i < n0 → j < n0 → dstOf ops i = some di → dstOf ops j = some dj → χ i j (a.tmps.getD di undef) (a.tmps.getD dj undef)) →
   (∀ i d,n0 ≤ i → dstOf ops i = some d → a.tmps.getD d undef = a0.tmps.getD d undef) → wpAny P .any ops Q (ops.size - n0) (maskTo ops.size n0) a w) :
  ∀ (fuel : Nat) (listed : Array Bool) (a : Act) (w : World),Known2 ops n0 S φ χ a0 listed a w → (∀ i d,n0 ≤ i → dstOf ops i = some d → a.tmps.getD d undef = a0.tmps.getD d undef) → cnt listed = fuel → wpAny P .any ops Q fuel listed a w:=by
 have cntM:=cnt_mask hn
 have fin : ∀ (fuel : Nat) (listed : Array Bool) (a : Act) (w : World),Known2 ops n0 S φ χ a0 listed a w → (∀ i d,n0 ≤ i → dstOf ops i = some d → a.tmps.getD d undef = a0.tmps.getD d undef) → cnt listed = fuel → (∀ i,i < n0 → listed.getD i false = true) → wpAny P .any ops Q fuel listed a w:=by
  intro fuel listed a w hk hu hc hall
  have e : listed = maskTo ops.size n0:=by
   apply Array.ext (by simp [maskTo,hk.k.lsz])
   intro i h1 h2
   have hi : i < ops.size:=by have:=hk.k.lsz; omega
   have e2 : (maskTo ops.size n0)[i] = decide (i < n0):=by
    have:=maskTo_get (n0:=n0) hi true
    simpa [Array.getD_eq_getD_getElem?,h2] using this
   rw [e2]
   by_cases h : i < n0
   ·have:=hall i h
    simp [Array.getD_eq_getD_getElem?,h1] at this
    rw [this]; simp [h]
   ·have:=hk.lo i (by omega) hi
    simp [Array.getD_eq_getD_getElem?,h1] at this
    rw [this]; simp [h]
  rw [e] at hc ⊢
  rw [cntM] at hc
  subst hc
  exact hend a w hk.k.size hk.k.defers hk.k.base hk.k.st (fun i d hi hd=>hk.k.val i d (hall i hi) hd) (fun i j di dj hij hi hj h1 h2=>hk.pair i j di dj hij (hall i hi) (hall j hj) h1 h2) hu
 intro fuel
 induction fuel with
 | zero =>
  intro listed a w hk hu hc
  refine fin 0 listed a w hk hu hc fun i hi=>?_
  have:=cnt_zero hc i
  have hl : i < listed.size:=by have:=hk.k.lsz; omega
  simp [Array.getD_eq_getD_getElem?,hl] at this ⊢
  exact this
 | succ fuel ih =>
  intro listed a w hk hu hc
  by_cases hall : ∀ i,i < n0 → listed.getD i false = true
  ·exact fin _ listed a w hk hu hc hall
  have known : ∀ {i : Nat} {o : Oper} {v : Value} {w' : World},i < n0 → listed.getD i true = false → ops[i]? = some o → (∀ e ∈ o.after,Region.binds .any e = true → listed.getD e.on false = true) → S w' → (R w w' ∨ w = w') → φ i v w' → ψ i v w →
    Known2 ops n0 S φ χ a0 (listed.setIfInBounds i true) (a.put o.dst v) w' ∧ (∀ i' d,n0 ≤ i' → dstOf ops i' = some d → (a.put o.dst v).tmps.getD d undef = a0.tmps.getD d undef):=by
   intro i o v w' hin0 h0 ho hdep hS hR hv hps
   have hli : i < listed.size:=by have:=hk.k.lsz; omega
   have hdi : dstOf ops i = o.dst:=by unfold dstOf; rw [ho]; rfl
   have other : ∀ {j d : Nat},j ≠ i → dstOf ops j = some d → (a.put o.dst v).tmps.getD d undef = a.tmps.getD d undef:=by
    intro j d hij hd
    cases hod : o.dst with
    | none=>rfl
    | some d' =>
     have hdd : d' ≠ d:=by
      intro e
      subst e
      unfold dstOf at hd
      rw [Option.bind_eq_some_iff] at hd
      obtain ⟨p,hp,hpd⟩:=hd
      exact hij (distinct_ne hds (i:=j) (j:=i) (by rw [Array.getElem?_toList]; exact hp) (by rw [Array.getElem?_toList]; exact ho) hpd hod)
     exact put_getD a v hdd
   have mine : ∀ {d : Nat},dstOf ops i = some d → (a.put o.dst v).tmps.getD d undef = v:=by
    intro d hd
    have hd':=hd
    rw [hdi] at hd'
    rw [hd']
    exact put_same a v (by rw [hk.k.size]; exact hin i d hd)
   refine ⟨⟨⟨?_,?_,fun k hk'=>?_,hS,fun j d hj hd=>?_,by simp [hk.k.lsz]⟩,fun j hj hjs=>?_,fun k o' hk' ho' e he hb=>?_,fun j j' dj dj' hjj hj hj' hd hd'=>?_⟩,fun j d hj hd=>?_⟩
   ·unfold Act.put; split
    ·simp [hk.k.size]
    ·exact hk.k.size
   ·unfold Act.put; split <;> exact hk.k.defers
   ·have hne:=base_ne hk' i
    rw [hdi] at hne
    cases hod : o.dst with
    | none=>exact hk.k.base k hk'
    | some d =>
     rw [hod] at hne
     rw [put_getD a v (fun e=>hne (by rw [e]))]
     exact hk.k.base k hk'
   ·by_cases hij : j = i
    ·subst hij
     rw [mine hd]
     exact hv
    ·have hjl : listed.getD j false = true:=by rwa [getD_set_ne false (fun e=>hij e.symm)] at hj
     rw [other hij hd]
     exact hR.elim (fun hR=>mono _ _ _ _ hR (hk.k.val j d hjl hd)) (fun e=>e ▸ hk.k.val j d hjl hd)
   ·rw [getD_set_ne true (by omega)]
    exact hk.lo j hj hjs
   ·by_cases e1 : k = i
    ·subst e1
     rw [ho] at ho'
     cases ho'
     exact getD_set_true (hdep e he hb)
    ·rw [getD_set_ne false (fun e2=>e1 e2.symm)] at hk'
     exact getD_set_true (hk.cl k o' hk' ho' e he hb)
   ·have old : ∀ {k : Nat},k ≠ i → (listed.setIfInBounds i true).getD k false = true → listed.getD k false = true:=fun h1 h2=>by rwa [getD_set_ne false (fun e=>h1 e.symm)] at h2
    by_cases h1 : j = i
    ·subst h1
     have h2 : j' ≠ j:=fun e=>hjj e.symm
     rw [mine hd,other h2 hd']
     exact (sep _ _ _ _ _ hps (hk.k.val j' dj' (old h2 hj') hd')).1
    ·by_cases h2 : j' = i
     ·subst h2
      rw [mine hd',other h1 hd]
      exact (sep _ _ _ _ _ hps (hk.k.val j dj (old h1 hj) hd)).2
     ·rw [other h1 hd,other h2 hd']
      exact hk.pair j j' dj dj' hjj (old h1 hj) (old h2 hj') hd hd'
   ·rw [other (by omega) hd]
    exact hu j d hj hd
  by_cases hbut : ∀ i,i < n0 → i ≠ fl → listed.getD i false = true
  ·have hfn : fl < n0:=by
    rcases Nat.lt_or_ge fl n0 with h | h
    ·exact h
    ·exact absurd (fun i hi=>hbut i hi (by omega)) hall
   have h0 : listed.getD fl true = false:=by
    have hl : fl < listed.size:=by have:=hk.k.lsz; omega
    cases hv : listed.getD fl true with
    | false=>rfl
    | true =>
     exfalso
     apply hall
     intro i hi
     by_cases e : i = fl
     ·subst e
      simp [Array.getD_eq_getD_getElem?,hl] at hv ⊢
      exact hv
     ·exact hbut i hi e
   obtain ⟨hns,hfr,hfo⟩:=hfl hfn
   have ho : ops[fl]? = some ops[fl]:=Array.getElem?_eq_getElem (by omega)
   obtain ⟨hq,hy⟩:=hfo _ ho
   have hdep : ∀ e ∈ ops[fl].after,Region.binds .any e = true → listed.getD e.on false = true:=fun e he hb=>by
    have:=acyc_lt hac (i:=fl) (o:=ops[fl]) (by rw [Array.getElem?_toList]; exact ho) e he hb
    exact hbut e.on (by omega) (by omega)
   obtain ⟨v,hyv,hv,hps⟩:=hy a w ⟨hk.k.defers,hk.k.base,hk.k.st,fun j d hd hj=>hk.k.val j d (by
    rw [Array.any_eq_true] at hj
    obtain ⟨n,hn,hb⟩:=hj
    rw [Bool.and_eq_true,beq_iff_eq] at hb
    rw [← hb.2]
    exact hdep _ (Array.getElem_mem hn) hb.1) hd⟩
   have hm : listed = (maskTo ops.size n0).setIfInBounds fl false:=by
    apply Array.ext (by simp [maskTo,hk.k.lsz])
    intro i h1 h2
    have hi : i < ops.size:=by have:=hk.k.lsz; omega
    have hms : i < (maskTo ops.size n0).size:=by simpa [maskTo] using hi
    rw [Array.getElem_setIfInBounds hms]
    split
    ·rename_i e
     subst e
     simp [Array.getD_eq_getD_getElem?,h1] at h0
     exact h0
    ·rename_i e
     have e2 : (maskTo ops.size n0)[i]'hms = decide (i < n0):=by simp [maskTo]
     rw [e2]
     by_cases h : i < n0
     ·have:=hbut i h (fun e'=>e e'.symm)
      simp [Array.getD_eq_getD_getElem?,h1] at this
      rw [this]; simp [h]
     ·have:=hk.lo i (by omega) hi
      simp [Array.getD_eq_getD_getElem?,h1] at this
      rw [this]; simp [h]
   have hK:=known (w':=w) hfn h0 ho hdep hk.k.st (.inr rfl) hv hps
   refine wpAny_take (i:=fl) (oi:=ops[fl]) (v:=v) ho hns (by rw [hm]; exact hfr) (by simpa using mem_ready.2 ⟨h0,_,ho,hdep⟩) (hq v) hyv ?_
   exact fin fuel _ _ w hK.1 hK.2 (by have:=cnt_set h0; omega) (fun i hi=>by
    by_cases e : i = fl
    ·subst e
     have hl : i < listed.size:=by have:=hk.k.lsz; omega
     simp [Array.getD_eq_getD_getElem?,hl]
    ·exact getD_set_true (hbut i hi e))
  refine ⟨fun hr=>absurd (fun i hi=>all_listed hac hk.k.lsz hr i (by omega)) hall,fun i hi=>?_⟩
  have hin0 : i < n0:=by
   rcases Nat.lt_or_ge i n0 with h | h
   ·exact h
   ·exact absurd (suf_wait hk.cl hsu h hi) hbut
  obtain ⟨h0,o,ho,hdep⟩:=mem_ready.1 hi
  refine wpOp_mono ?_ (hstep i o hin0 ho a w ⟨hk.k.defers,hk.k.base,hk.k.st,fun j d hd hj=>hk.k.val j d (by
   rw [Array.any_eq_true] at hj
   obtain ⟨n,hn,hb⟩:=hj
   rw [Bool.and_eq_true,beq_iff_eq] at hb
   rw [← hb.2]
   exact hdep _ (Array.getElem_mem hn) hb.1) hd⟩)
  rintro a' w' ⟨v,rfl,hS,hR,hv,hps⟩
  have hK:=known hin0 h0 ho hdep hS (.inl hR) hv hps
  exact ih _ _ _ hK.1 hK.2 (by have:=cnt_set h0; omega)
def Step2 (P : Program) (ops : Array Oper) (Q : Exit → Act → World → Prop) (S : World → Prop) (R : World → World → Prop) (φ ψ : Nat → Value → World → Prop) (a0 : Act) (i : Nat) (o : Oper) : Prop:=
 ∀ a w,At ops S φ a0 o a w → ∀ K : Act → World → Prop,Shut (∀ v w',S w' → R w w' → φ i v w' → ψ i v w → K (a.put o.dst v) w') →
  if Region.wanted o (yielded ops a.tmps) = true then Oper.wp P o a w K Q else K (a.put o.dst undef) w
def Steps2 (P : Program) (ops : Array Oper) (Q : Exit → Act → World → Prop) (S : World → Prop) (R : World → World → Prop) (φ ψ : Nat → Value → World → Prop) (a0 : Act) : Nat → List Oper → Prop
 | _,[]=>True
 | i,o :: l=>Step2 P ops Q S R φ ψ a0 i o ∧ Steps2 P ops Q S R φ ψ a0 (i + 1) l
theorem steps2_at : ∀ {l : List Oper} {n : Nat},Steps2 P ops Q S R φ ψ a0 n l → ∀ i o,l[i]? = some o → Step2 P ops Q S R φ ψ a0 (n + i) o
 | [],_,_,i,o,h=>by simp at h
 | x :: l,n,hs,0,o,h=>by
  simp only [List.getElem?_cons_zero,Option.some.injEq] at h
  subst h; exact hs.1
 | x :: l,n,hs,i + 1,o,h=>by
  have:=steps2_at hs.2 i o (by simpa using h)
  rwa [show n + 1 + i = n + (i + 1) by omega] at this
theorem region_pre {id n0 fl : Nat} {w0 : World} (hm : P.follows .mixedOrders = true) (S : World → Prop) (R : World → World → Prop) (φ ψ : Nat → Value → World → Prop) (χ : Nat → Nat → Value → Value → Prop) (mono : ∀ j x w w',R w w' → φ j x w → φ j x w')
  (sep : ∀ i v w j x,ψ i v w → φ j x w → χ i j v x ∧ χ j i x v) {m : Nat} {M : Array Bool} (hn : n0 ≤ ops.size) (hm0 : ops.size - n0 = m) (hM : maskTo ops.size n0 = M)
  (hds : distinct ops.toList = true) (hac : acyc 0 ops.toList = true) (hsu : sufB ops n0 fl = true) (hfl : Floats P ops Q n0 fl S φ ψ a0) (hin : (ops.toList.all fun o=>match o.dst with | some d=>decide (d < a0.tmps.size) | none=>true) = true) (hS : S w0.drew)
  (hstep : Steps2 P ops Q S R φ ψ a0 0 (ops.toList.take n0))
  (hend : ∀ a w,a.tmps.size = a0.tmps.size → a.defers = a0.defers → (∀ k,isBase ops k = true → a.tmps.getD k undef = a0.tmps.getD k undef) → S w → (∀ i d,i < n0 → dstOf ops i = some d → φ i (a.tmps.getD d undef) w) →
   (∀ i j di dj,i ≠ j → i < n0 → j < n0 → dstOf ops i = some di → dstOf ops j = some dj → χ i j (a.tmps.getD di undef) (a.tmps.getD dj undef)) →
   (∀ i d,n0 ≤ i → dstOf ops i = some d → a.tmps.getD d undef = a0.tmps.getD d undef) → wpAny P .any ops Q m M a w) :
  (Code.region id ops true).wp P Q a0 w0:=by
 subst hm0 hM
 refine wp_region_any hm ?_
 have hff : ∀ i b,i < ops.size → (Array.replicate ops.size false).getD i b = false:=fun i b h=>by simp [Array.getD_eq_getD_getElem?,h]
 have hft : ∀ i,(Array.replicate ops.size false).getD i false = true → False:=fun i h=>by
  by_cases hi : i < ops.size
  ·rw [hff i false hi] at h; cases h
  ·simp [Array.getD_eq_getD_getElem?,hi] at h
 refine known_pre (S:=S) (R:=R) (φ:=φ) (ψ:=ψ) (χ:=χ) hn mono sep hds hac hsu hfl (fun i d hd=>?_) (fun i o hi ho a w hat=>?_) hend _ _ _ _ ⟨⟨rfl,rfl,fun _ _=>rfl,hS,fun i d h _=>(hft i h).elim,by simp⟩,fun i _ hi=>hff i true hi,fun i _ h=>(hft i h).elim,fun i j di dj _ h=>(hft i h).elim⟩ (fun _ _ _ _=>rfl) (by simp [cnt])
 ·unfold dstOf at hd
  rw [Option.bind_eq_some_iff] at hd
  obtain ⟨o,ho,hd⟩:=hd
  have:=List.all_eq_true.1 hin o (by rw [Array.mem_toList_iff]; exact Array.mem_of_getElem? ho)
  rw [hd] at this
  simpa using this
 ·refine wpOp_step ho fun K hK=>?_
  have:=steps2_at hstep i o (by rw [List.getElem?_take_of_lt hi,Array.getElem?_toList]; exact ho)
  rw [Nat.zero_add] at this
  exact this a w hat K (fun v w' h1 h2 h3 h4=>hK _ _ ⟨v,rfl,h1,h2,h3,h4⟩)
theorem rest_of {n0 : Nat} {ds : List Nat} {t t0 : Array Value} (h : (ops.toList.take n0).filterMap (·.dst) = ds) (hb : ∀ k,isBase ops k = true → t.getD k undef = t0.getD k undef)
  (hu : ∀ i d,n0 ≤ i → dstOf ops i = some d → t.getD d undef = t0.getD d undef) (k : Nat) (hk : k ∉ ds) : t.getD k undef = t0.getD k undef:=by
 cases hi : isBase ops k with
 | true=>exact hb k hi
 | false =>
  unfold isBase at hi
  rw [List.all_eq_false] at hi
  obtain ⟨o,ho,hd⟩:=hi
  have hd' : o.dst = some k:=by simpa using hd
  obtain ⟨i,hil,rfl⟩:=List.mem_iff_getElem.1 ho
  have hoi : ops[i]? = some ops.toList[i]:=by rw [← Array.getElem?_toList,List.getElem?_eq_getElem hil]
  refine hu i k ?_ (by unfold dstOf; rw [hoi]; exact hd')
  rcases Nat.lt_or_ge i n0 with h1 | h1
  ·exfalso
   apply hk
   rw [← h,List.mem_filterMap]
   exact ⟨ops.toList[i],by rw [List.mem_take_iff_getElem]; exact ⟨i,by omega,rfl⟩,hd'⟩
  ·exact h1
end
section
variable {P : Program} {ops : Array Oper} {Q : Exit → Act → World → Prop} {S : World → Prop} {R : World → World → Prop} {φ : Nat → Value → World → Prop} {a0 : Act}
theorem known_put (mono : ∀ j x w w',R w w' → φ j x w → φ j x w') (hds : distinct ops.toList = true) (hin : ∀ i d,dstOf ops i = some d → d < a0.tmps.size) {listed : Array Bool} {a : Act} {w w' : World} {i : Nat} {o : Oper} {v : Value}
  (hk : Known ops S φ a0 listed a w) (ho : ops[i]? = some o) (hS : S w') (hR : R w w') (hv : φ i v w') : Known ops S φ a0 (listed.setIfInBounds i true) (a.put o.dst v) w':=by
 have hdi : dstOf ops i = o.dst:=by unfold dstOf; rw [ho]; rfl
 refine ⟨?_,?_,fun k hk'=>?_,hS,fun j d hj hd=>?_,by simp [hk.lsz]⟩
 ·unfold Act.put; split
  ·simp [hk.size]
  ·exact hk.size
 ·unfold Act.put; split <;> exact hk.defers
 ·have hne:=base_ne hk' i
  rw [hdi] at hne
  cases hod : o.dst with
  | none=>exact hk.base k hk'
  | some d =>
   rw [hod] at hne
   rw [put_getD a v (fun e=>hne (by rw [e]))]
   exact hk.base k hk'
 ·by_cases hij : j = i
  ·subst hij
   rw [hdi] at hd
   rw [hd,put_same a v (by rw [hk.size]; exact hin j d (by rw [hdi,hd]))]
   exact hv
  ·have hjl : listed.getD j false = true:=by rwa [getD_set_ne false (fun e=>hij e.symm)] at hj
   have hold:=mono _ _ _ _ hR (hk.val j d hjl hd)
   cases hod : o.dst with
   | none=>exact hold
   | some d' =>
    have hdd : d' ≠ d:=by
     intro e
     subst e
     unfold dstOf at hd
     rw [Option.bind_eq_some_iff] at hd
     obtain ⟨p,hp,hpd⟩:=hd
     exact hij (distinct_ne hds (i:=j) (j:=i) (by rw [Array.getElem?_toList]; exact hp) (by rw [Array.getElem?_toList]; exact ho) hpd hod)
    rw [put_getD a v hdd]
    exact hold
theorem maskTo_set {n i : Nat} (h : i < n) : (maskTo n i).setIfInBounds i true = maskTo n (i + 1):=by
 apply Array.ext (by simp [maskTo])
 intro j h1 h2
 have hj : j < n:=by simpa [maskTo] using h2
 rw [Array.getElem_setIfInBounds (by simpa [maskTo] using hj)]
 by_cases e : i = j
 ·rw [if_pos e]; simp [maskTo]; omega
 ·rw [if_neg e]
  simp only [maskTo,Array.getElem_map,List.getElem_toArray,List.getElem_range]
  rw [Bool.eq_iff_iff]
  simp; omega
theorem seq_known (mono : ∀ j x w w',R w w' → φ j x w → φ j x w') (hds : distinct ops.toList = true) (hac : acyc 0 ops.toList = true) (hin : ∀ i d,dstOf ops i = some d → d < a0.tmps.size)
  (hstep : ∀ i o,ops[i]? = some o → Step P ops Q S R φ a0 i o)
  (hend : ∀ a w,Known ops S φ a0 (maskTo ops.size ops.size) a w → Q .normal a w) :
  ∀ (l : List Oper) (i : Nat) (a : Act) (w : World),i ≤ ops.size → ops.toList.drop i = l → Known ops S φ a0 (maskTo ops.size i) a w → wpList P ops Q l a w
 | [],i,a,w,hi,hl,hk=>by
  have : ops.size ≤ i:=by
   have:=congrArg List.length hl
   simp at this; omega
  have e : i = ops.size:=by omega
  subst e
  exact wpList_nil (hend a w hk)
 | o :: l,i,a,w,hi,hl,hk=>by
  have his : i < ops.size:=by
   have:=congrArg List.length hl
   simp at this; omega
  have ho : ops[i]? = some o:=by
   rw [← Array.getElem?_toList]
   have:=congrArg (·[0]?) hl
   simpa using this
  refine wpList_step fun K hK=>hstep i o ho a w ⟨hk.defers,hk.base,hk.st,fun j d hd hj=>hk.val j d (by
   rw [Array.any_eq_true] at hj
   obtain ⟨n,hn,hb⟩:=hj
   rw [Bool.and_eq_true,beq_iff_eq] at hb
   have hlt:=acyc_lt hac (i:=i) (o:=o) (by rw [Array.getElem?_toList]; exact ho) _ (Array.getElem_mem hn) hb.1
   rw [hb.2] at hlt
   rw [maskTo_get (by omega)]
   exact decide_eq_true (by omega)) hd⟩ K (fun v w' hS hR hv=>hK _ _ ?_)
  have hk2:=known_put mono hds hin hk ho hS hR hv
  rw [maskTo_set his] at hk2
  exact seq_known mono hds hac hin hstep hend l (i + 1) _ _ (by omega) (by rw [← List.drop_drop,hl]; rfl) hk2
theorem region_seq {id : Nat} {w0 : World} (S : World → Prop) (R : World → World → Prop) (φ : Nat → Value → World → Prop) (mono : ∀ j x w w',R w w' → φ j x w → φ j x w')
  (hds : distinct ops.toList = true) (hac : acyc 0 ops.toList = true) (hin : (ops.toList.all fun o=>match o.dst with | some d=>decide (d < a0.tmps.size) | none=>true) = true) (hS : S w0)
  (hstep : Steps P ops Q S R φ a0 0 ops.toList)
  (hend : ∀ a w,a.tmps.size = a0.tmps.size → a.defers = a0.defers → (∀ k,isBase ops k = true → a.tmps.getD k undef = a0.tmps.getD k undef) → S w → (∀ i d,dstOf ops i = some d → φ i (a.tmps.getD d undef) w) → Q .normal a w) :
  (Code.region id ops false).wp P Q a0 w0:=by
 refine wp_region_list ?_
 refine seq_known (S:=S) (R:=R) (φ:=φ) mono hds hac (fun i d hd=>?_) (fun i o ho=>?_) (fun a w hk=>hend a w hk.size hk.defers hk.base hk.st fun i d hd=>hk.val i d ?_ hd) _ 0 _ _ (Nat.zero_le _) rfl ⟨rfl,rfl,fun _ _=>rfl,hS,fun i d h hd=>?_,by simp [maskTo]⟩
 ·unfold dstOf at hd
  rw [Option.bind_eq_some_iff] at hd
  obtain ⟨o,ho,hd⟩:=hd
  have:=List.all_eq_true.1 hin o (by rw [Array.mem_toList_iff]; exact Array.mem_of_getElem? ho)
  rw [hd] at this
  simpa using this
 ·have:=steps_at hstep i o (by rw [Array.getElem?_toList]; exact ho)
  rwa [Nat.zero_add] at this
 ·have hi : i < ops.size:=by
   unfold dstOf at hd
   rw [Option.bind_eq_some_iff] at hd
   obtain ⟨o,ho,_⟩:=hd
   exact (Array.getElem?_eq_some_iff.1 ho).1
  rw [maskTo_get hi]
  exact decide_eq_true hi
 ·exfalso
  have hi : i < ops.size:=by
   unfold dstOf at hd
   rw [Option.bind_eq_some_iff] at hd
   obtain ⟨o,ho,_⟩:=hd
   exact (Array.getElem?_eq_some_iff.1 ho).1
  rw [maskTo_get hi] at h
  exact absurd (of_decide_eq_true h) (by omega)
theorem At.b {o : Oper} {a : Act} {w : World} (hat : At ops S φ a0 o a w) (k : Nat) {v : Value} (h : isBase ops k = true:=by kernel_rfl) (e : a0.tmps.getD k undef = v:=by rfl) : a.tmps[k]?.getD undef = v:=
 (Array.getD_eq_getD_getElem? ..).symm.trans ((hat.base k h).trans e)
theorem At.d {o : Oper} {a : Act} {w : World} (hat : At ops S φ a0 o a w) (j d : Nat) (h : dstOf ops j = some d:=by kernel_rfl) (h2 : (o.after.any fun e=>Region.binds .any e && e.on == j) = true:=by kernel_rfl) : φ j (a.tmps[d]?.getD undef) w:=by
 have:=hat.dep j d h h2
 rwa [Array.getD_eq_getD_getElem?] at this
theorem step_mv {i s : Nat} {o : Oper} (hg : o.guard = none) (ho : o.op = .move (.tmp s) ∨ o.op = .assign (.tmp s)) (hR : ∀ w,R w w) (h : ∀ a w,At ops S φ a0 o a w → φ i (a.tmps[s]?.getD undef) w) : Step P ops Q S R φ a0 i o:=by
 intro a w hat K hK
 rw [if_pos (by unfold Region.wanted; rw [hg])]
 have e : (execOp a.eval o).run P w = .ok (.value (a.tmps[s]?.getD undef)) w:=by
  unfold execOp
  rcases ho with e | e <;> rw [e] <;> simp [go_sem]
 unfold Oper.wp
 rw [e]
 exact hK.out _ _ hat.st (hR w) (h a w hat)
theorem step_mvg {i s j d : Nat} {b : Bool} {o : Oper} (hg : o.guard = some (j,b)) (hd : dstOf ops j = some d) (hy : ∀ a w,At ops S φ a0 o a w → a.tmps[d]?.getD undef = .bool b) (ho : o.op = .move (.tmp s) ∨ o.op = .assign (.tmp s)) (hR : ∀ w,R w w)
  (h : ∀ a w,At ops S φ a0 o a w → φ i (a.tmps[s]?.getD undef) w) : Step P ops Q S R φ a0 i o:=by
 intro a w hat K hK
 rw [if_pos (wanted_yes hg hd ((Array.getD_eq_getD_getElem? ..).trans (hy a w hat)))]
 have e : (execOp a.eval o).run P w = .ok (.value (a.tmps[s]?.getD undef)) w:=by
  unfold execOp
  rcases ho with e | e <;> rw [e] <;> simp [go_sem]
 unfold Oper.wp
 rw [e]
 exact hK.out _ _ hat.st (hR w) (h a w hat)
theorem step_no {i j d : Nat} {b c : Bool} {o : Oper} (hg : o.guard = some (j,b)) (hd : dstOf ops j = some d) (hbc : c ≠ b) (hy : ∀ a w,At ops S φ a0 o a w → a.tmps[d]?.getD undef = .bool c) (hR : ∀ w,R w w) (h : ∀ w,φ i undef w) : Step P ops Q S R φ a0 i o:=by
 intro a w hat K hK
 rw [if_neg (wanted_no hg hd ((Array.getD_eq_getD_getElem? ..).trans (hy a w hat)) hbc)]
 exact hK.out _ _ hat.st (hR w) (h w)
theorem step2_mv {ψ : Nat → Value → World → Prop} {i s : Nat} {o : Oper} (hg : o.guard = none) (ho : o.op = .move (.tmp s) ∨ o.op = .assign (.tmp s)) (hR : ∀ w,R w w) (hψ : ∀ v w,ψ i v w) (h : ∀ a w,At ops S φ a0 o a w → φ i (a.tmps[s]?.getD undef) w) : Step2 P ops Q S R φ ψ a0 i o:=
 fun a w hat K hK=>step_mv (P:=P) (Q:=Q) (S:=S) (R:=R) (φ:=φ) hg ho hR h a w hat K fun v w' h1 h2 h3=>hK.out v w' h1 h2 h3 (hψ v w)
theorem mv {i s : Nat} {o : Oper} (h : ∀ a w,At ops S φ a0 o a w → φ i (a.tmps[s]?.getD undef) w) (hg : o.guard = none:=by rfl) (ho : o.op = .move (.tmp s) ∨ o.op = .assign (.tmp s):=by first | exact .inl rfl | exact .inr rfl) (hR : ∀ w,R w w:=by exact fun _=>Go.RowKit.Below.refl _ _) : Step P ops Q S R φ a0 i o:=step_mv hg ho hR h
theorem wy {o : Oper} {a : Act} {w : World} (hat : At ops S φ a0 o a w) (j d : Nat) (b : Bool) (hg : o.guard = some (j,b):=by rfl) (hd : dstOf ops j = some d:=by kernel_rfl) (h2 : (o.after.any fun e=>Region.binds .any e && e.on == j) = true:=by kernel_rfl) (he : ∀ v w,φ j v w → v = .bool b:=by exact fun _ _ h=>h) : Region.wanted o (yielded ops a.tmps) = true:=
 wanted_yes hg hd (he _ _ (hat.dep j d hd h2))
theorem mvg {i s : Nat} {o : Oper} (j d : Nat) (b : Bool) (h : ∀ a w,At ops S φ a0 o a w → φ i (a.tmps[s]?.getD undef) w) (hg : o.guard = some (j,b):=by rfl) (hd : dstOf ops j = some d:=by kernel_rfl) (h2 : (o.after.any fun e=>Region.binds .any e && e.on == j) = true:=by kernel_rfl)
  (he : ∀ v w,φ j v w → v = .bool b:=by exact fun _ _ h=>h) (ho : o.op = .move (.tmp s) ∨ o.op = .assign (.tmp s):=by first | exact .inl rfl | exact .inr rfl) (hR : ∀ w,R w w:=by exact fun _=>Go.RowKit.Below.refl _ _) : Step P ops Q S R φ a0 i o:=
 step_mvg hg hd (fun a w hat=>he _ _ (hat.d j d hd h2)) ho hR h
theorem no {i : Nat} {o : Oper} (j d : Nat) (b : Bool) (hg : o.guard = some (j,!b):=by rfl) (hd : dstOf ops j = some d:=by kernel_rfl) (h2 : (o.after.any fun e=>Region.binds .any e && e.on == j) = true:=by kernel_rfl)
  (he : ∀ v w,φ j v w → v = .bool b:=by exact fun _ _ h=>h) (hR : ∀ w,R w w:=by exact fun _=>Go.RowKit.Below.refl _ _) (h : ∀ w,φ i undef w:=by exact fun _=>trivial) : Step P ops Q S R φ a0 i o:=
 step_no hg hd (by cases b <;> decide) (fun a w hat=>he _ _ (hat.d j d hd h2)) hR h
end
open Go.RowKit
theorem no_depth {l n : Nat} : (Fence.wide.inRound l).depth.isSome = true → 1 ≤ n:=fun h=>absurd h (by show ¬ (none : Option Nat).isSome = true; decide)
theorem oper_in {P : Program} {l n : Nat} {o : Oper} {a : Act} {w : World} {next : Act → World → Prop} {Q : Exit → Act → World → Prop} (hd : ∀ c,o.op ≠ .defer c) (h : o.wp P a w next Q) : o.wpIn (Fence.wide.inRound l) n P a w next Q:=by
 refine ⟨fun f _=>trivial,?_⟩
 have e : o.semAt (Fence.wide.inRound l).round a.eval = execOp a.eval o:=Oper.semAt_eq _ _ _ hd
 rw [e]
 unfold Oper.wp at h
 generalize (execOp a.eval o).run P w = r at *
 cases r with
 | ok x w' =>
  cases x <;> simp only [Oper.upon,Oper.uponIn] at h ⊢ <;>
   first
    | exact h
    | exact ⟨no_depth,CallsIn.mono (CallsIn.inRound l (callsIn_wide.2 h)) (fun e w'' he=>by cases e <;> exact he)⟩
    | exact ⟨no_depth,fun c cs _=>let ⟨v,w',r,s⟩:=h c cs; ⟨v,w',r,stepsIn_wide.2 s⟩⟩
    | exact h.elim
 | halt x w'=>cases x <;> simp only [Oper.upon,Oper.uponIn] at h ⊢ <;> exact h
theorem any_in {P : Program} {l n : Nat} {ops : Array Oper} {Q : Exit → Act → World → Prop} (hnd : (ops.toList.all fun o=>match o.op with | .defer _=>false | _=>true) = true) (hQ : ¬ LetsOut Q) :
  ∀ (fuel : Nat) (listed : Array Bool) (a : Act) (w : World),wpAny P .any ops Q fuel listed a w → wpAnyIn (Fence.wide.inRound l) n P .any ops Q fuel listed a w
 | 0,listed,a,w,h=>h
 | fuel + 1,listed,a,w,h=>by
  refine ⟨h.1,fun i hi=>?_⟩
  have h2:=h.2 i hi
  unfold wpOp at h2
  unfold wpOpIn
  cases ho : ops[i]? with
  | none =>
   rw [ho] at h2
   exact any_in hnd hQ fuel _ _ _ h2
  | some o =>
   rw [ho] at h2
   dsimp only at h2 ⊢
   split
   ·rename_i hw
    rw [if_pos hw] at h2
    refine oper_in (fun c e=>?_) (Oper.wp_mono (fun a w h=>any_in hnd hQ fuel _ _ _ h) (h2.resolve_right fun h=>hQ h.2))
    have:=List.all_eq_true.1 hnd o (by rw [Array.mem_toList_iff]; exact Array.mem_of_getElem? ho)
    rw [e] at this
    cases this
   ·rename_i hw
    rw [if_neg hw] at h2
    exact ⟨fun f _=>trivial,any_in hnd hQ fuel _ _ _ h2⟩
section
variable {P : Program} {ops : Array Oper} {Q : Exit → Act → World → Prop}
variable {S : World → Prop} {R : World → World → Prop} {φ : Nat → Value → World → Prop} {ψ : Nat → Value → World → Prop} {χ : Nat → Nat → Value → Value → Prop} {a0 : Act}
theorem region_pre_in {l n id n0 fl : Nat} {w0 : World} (hm : P.follows .mixedOrders = true) (hnd : (ops.toList.all fun o=>match o.op with | .defer _=>false | _=>true) = true) (hQ : ¬ LetsOut Q) (S : World → Prop) (R : World → World → Prop) (φ ψ : Nat → Value → World → Prop) (χ : Nat → Nat → Value → Value → Prop) (mono : ∀ j x w w',R w w' → φ j x w → φ j x w')
  (sep : ∀ i v w j x,ψ i v w → φ j x w → χ i j v x ∧ χ j i x v) {m : Nat} {M : Array Bool} (hn : n0 ≤ ops.size) (hm0 : ops.size - n0 = m) (hM : maskTo ops.size n0 = M)
  (hds : distinct ops.toList = true) (hac : acyc 0 ops.toList = true) (hsu : sufB ops n0 fl = true) (hfl : Floats P ops Q n0 fl S φ ψ a0) (hin : (ops.toList.all fun o=>match o.dst with | some d=>decide (d < a0.tmps.size) | none=>true) = true) (hS : S w0.drew)
  (hstep : Steps2 P ops Q S R φ ψ a0 0 (ops.toList.take n0))
  (hend : ∀ a w,a.tmps.size = a0.tmps.size → a.defers = a0.defers → (∀ k,isBase ops k = true → a.tmps.getD k undef = a0.tmps.getD k undef) → S w → (∀ i d,i < n0 → dstOf ops i = some d → φ i (a.tmps.getD d undef) w) →
   (∀ i j di dj,i ≠ j → i < n0 → j < n0 → dstOf ops i = some di → dstOf ops j = some dj → χ i j (a.tmps.getD di undef) (a.tmps.getD dj undef)) →
   (∀ i d,n0 ≤ i → dstOf ops i = some d → a.tmps.getD d undef = a0.tmps.getD d undef) → wpAny P .any ops Q m M a w) :
  (Code.region id ops true).wpIn (Fence.wide.inRound l) n P Q a0 w0:=by
 subst hm0 hM
 refine wpIn_region_any hm (any_in hnd hQ _ _ _ _ ?_)
 have hff : ∀ i b,i < ops.size → (Array.replicate ops.size false).getD i b = false:=fun i b h=>by simp [Array.getD_eq_getD_getElem?,h]
 have hft : ∀ i,(Array.replicate ops.size false).getD i false = true → False:=fun i h=>by
  by_cases hi : i < ops.size
  ·rw [hff i false hi] at h; cases h
  ·simp [Array.getD_eq_getD_getElem?,hi] at h
 refine known_pre (S:=S) (R:=R) (φ:=φ) (ψ:=ψ) (χ:=χ) hn mono sep hds hac hsu hfl (fun i d hd=>?_) (fun i o hi ho a w hat=>?_) hend _ _ _ _ ⟨⟨rfl,rfl,fun _ _=>rfl,hS,fun i d h _=>(hft i h).elim,by simp⟩,fun i _ hi=>hff i true hi,fun i _ h=>(hft i h).elim,fun i j di dj _ h=>(hft i h).elim⟩ (fun _ _ _ _=>rfl) (by simp [cnt])
 ·unfold dstOf at hd
  rw [Option.bind_eq_some_iff] at hd
  obtain ⟨o,ho,hd⟩:=hd
  have:=List.all_eq_true.1 hin o (by rw [Array.mem_toList_iff]; exact Array.mem_of_getElem? ho)
  rw [hd] at this
  simpa using this
 ·refine wpOp_step ho fun K hK=>?_
  have:=steps2_at hstep i o (by rw [List.getElem?_take_of_lt hi,Array.getElem?_toList]; exact ho)
  rw [Nat.zero_add] at this
  exact this a w hat K (fun v w' h1 h2 h3 h4=>hK _ _ ⟨v,rfl,h1,h2,h3,h4⟩)
end
end Go.Rg
