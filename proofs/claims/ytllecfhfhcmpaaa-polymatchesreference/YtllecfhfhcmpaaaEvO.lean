/- Regions that draw their order. -/
import Derived.Test.YtllecfhfhcmpaaaEvM
import Derived.OrdersIn
namespace Go.Ev
open Go.RowKit (Below)
set_option linter.unusedSectionVars false
variable [Rho] [Know] [KnowOk]
variable {P : Program} {B : Nat} {π : Inj} {lm : List Nat} {s : St} {w : World} {ts : List AV} {a : Act}
def PD (ops : List Oper) (V : Nat → AV) (D : Nat → Bool) (ts : List AV) : Nat → List AV
 | 0=>ts
 | m + 1=>if D m then (match ops[m]? with
   | some o=>put (PD ops V D ts m) o.dst (V m)
   | none=>PD ops V D ts m) else PD ops V D ts m
theorem put_length (ts : List AV) (dst : Option Tmp) (v : AV) : (put ts dst v).length = ts.length:=by
 cases dst <;> simp [put,setNth_eq]
theorem put_get (ts : List AV) (dst : Option Tmp) (v : AV) (t : Tmp) (h : dst ≠ some t) : (put ts dst v)[t]? = ts[t]?:=by
 cases dst with
 | none=>rfl
 | some d =>
  simp only [put,setNth_eq]
  rw [List.getElem?_set_ne (fun e=>h (by rw [e]))]
theorem put_put_ne (ts : List AV) (d e : Option Tmp) (u v : AV) (h : ∀ t,d = some t → e ≠ some t) : put (put ts d u) e v = put (put ts e v) d u:=by
 cases d with
 | none=>cases e <;> rfl
 | some d =>
  cases e with
  | none=>rfl
  | some e =>
   simp only [put,setNth_eq]
   exact List.set_comm _ _ (fun he=>h d rfl (by rw [he]))
theorem PD_slot {ops : List Oper} {V : Nat → AV} {D1 D2 : Nat → Bool} {t : Tmp} : ∀ (n : Nat),(∀ (i : Nat) (o : Oper),i < n → ops[i]? = some o → o.dst = some t → D1 i = D2 i) →
  (PD ops V D1 ts n)[t]? = (PD ops V D2 ts n)[t]? ∧ (PD ops V D1 ts n).length = (PD ops V D2 ts n).length:=by
 intro n
 induction n with
 | zero=>intro _; exact ⟨rfl,rfl⟩
 | succ n ih =>
  intro h
  obtain ⟨h1,h2⟩:=ih (fun i o hi=>h i o (by omega))
  cases ho : ops[n]? with
  | none =>
   simp only [PD,ho]
   constructor <;> (split <;> split <;> assumption)
  | some o =>
   simp only [PD,ho]
   by_cases hd : o.dst = some t
   ·rw [h n o (by omega) ho hd]
    split
    ·rw [hd]
     simp only [put,setNth_eq,List.length_set]
     refine ⟨?_,h2⟩
     rw [List.getElem?_set,List.getElem?_set,h2]
     simp
    ·exact ⟨h1,h2⟩
   ·constructor
    ·split <;> split <;> simp only [put_get _ _ _ _ hd,h1]
    ·split <;> split <;> simp only [put_length,h2]
theorem PD_more {ops : List Oper} {V : Nat → AV} {D : Nat → Bool} {j : Nat} {o : Oper} (ho : ops[j]? = some o) (hD : D j = false) : ∀ (n : Nat),j < n →
  (∀ (i : Nat) (o' : Oper),j < i → D i = true → ops[i]? = some o' → ∀ t,o'.dst = some t → o.dst ≠ some t) →
  PD ops V (fun i=>if i = j then true else D i) ts n = put (PD ops V D ts n) o.dst (V j):=by
 intro n
 induction n with
 | zero=>intro h; omega
 | succ n ih =>
  intro hj h
  by_cases hjn : j = n
  ·subst hjn
   have same : ∀ m,m ≤ j → PD ops V (fun i=>if i = j then true else D i) ts m = PD ops V D ts m:=by
    intro m
    induction m with
    | zero=>intro _; rfl
    | succ m ihm =>
     intro hm
     simp only [PD,ihm (by omega)]
     rw [if_neg (show ¬ m = j by omega)]
   simp only [PD,if_true,ho,hD,Bool.false_eq_true,if_false]
   rw [same j (Nat.le_refl _)]
  ·have:=ih (by omega) h
   simp only [PD,this]
   rw [if_neg (show ¬ n = j by omega)]
   cases hn : ops[n]? with
   | none=>cases D n <;> simp
   | some o' =>
    cases hd : D n with
    | false=>simp
    | true =>
     simp only [if_true]
     exact put_put_ne _ _ _ _ _ (fun t e1 e2=>h n o' (by omega) hd hn t e2 e1)
theorem PD_lt {ops : List Oper} {V : Nat → AV} {T : Nat → List AV} (h0 : T 0 = ts) {n : Nat} (hn : n = ops.length) (hT : ∀ (i : Nat) (o : Oper),i < n → ops[i]? = some o → T (i + 1) = put (T i) o.dst (V i)) :
  ∀ (j m : Nat),j ≤ n → PD ops V (fun i=>decide (i < j)) ts m = T (min j m):=by
 intro j m hj
 induction m with
 | zero=>simp [PD,h0]
 | succ m ih =>
  simp only [PD]
  by_cases hm : m < j
  ·have ho : ∃ o,ops[m]? = some o:=⟨_,List.getElem?_eq_getElem (by omega)⟩
   obtain ⟨o,ho⟩:=ho
   simp only [hm,decide_true,if_true,ho,ih]
   rw [show min j m = m from by omega,show min j (m + 1) = m + 1 from by omega]
   exact (hT m o (by omega) ho).symm
  ·simp only [hm,decide_false,Bool.false_eq_true,if_false,ih]
   congr 1; omega
theorem evals_congr {t1 t2 : List AV} : ∀ {xs : List Operand},(∀ x ∈ xs,eval t1 x = eval t2 x) → evals t1 xs = evals t2 xs
 | [],_=>rfl
 | x :: xs,h=>by
  simp only [evals]
  rw [h x (by simp),evals_congr (fun y hy=>h y (by simp [hy]))]
theorem evalParts_congr {t1 t2 : List AV} : ∀ {xs : List (Nat × Operand)},(∀ x ∈ xs.map (·.2),eval t1 x = eval t2 x) → evalParts t1 xs = evalParts t2 xs
 | [],_=>rfl
 | (i,x) :: xs,h=>by
  simp only [evalParts]
  rw [h x (by simp),evalParts_congr (fun y hy=>h y (by simp at hy ⊢; exact .inr hy))]
theorem evalOpt_congr {t1 t2 : List AV} {x : Option Operand} (h : ∀ y ∈ x.toList,eval t1 y = eval t2 y) : evalOpt t1 x = evalOpt t2 x:=by
 cases x with
 | none=>rfl
 | some x=>simp only [evalOpt]; rw [h x (by simp)]
theorem pureOp_congr {t1 t2 : List AV} {o : Oper} (h : ∀ x ∈ o.op.operands,eval t1 x = eval t2 x) : pureOp P t1 o = pureOp P t2 o:=by
 unfold pureOp
 have e1 : (o.op.operands.toList.all fun x=>((eval t1 x).bind AV.toV).isSome) = (o.op.operands.toList.all fun x=>((eval t2 x).bind AV.toV).isSome):=by
  rw [Bool.eq_iff_iff]
  simp only [List.all_eq_true]
  constructor <;> intro hh x hx
  ·rw [← h x (by simpa using hx)]; exact hh x hx
  ·rw [h x (by simpa using hx)]; exact hh x hx
 rw [e1]
 split
 ·rename_i hc
  rw [execOp_congr (ρ':=fun x=>((eval t2 x).bind AV.toV).getD undef) o ?_ ?_]
  ·intro cs b e
   rw [e] at hc; simp [plainOp] at hc
  ·intro x hx
   rw [h x hx]
 ·rfl
theorem evOp0_congr {t1 t2 : List AV} {o : Oper} (h : ∀ x ∈ o.op.operands,eval t1 x = eval t2 x) (s : St) : evOp0 P t1 o s = evOp0 P t2 o s:=by
 have hp:=pureOp_congr (P:=P) h
 unfold evOp0
 split
 case h_21=>rw [hp]
 all_goals (rename_i ho; (try rw [ho] at h); (try simp only [Op.operands] at h))
 all_goals try (rw [h _ (by simp)]; done)
 ·rename_i c a b
  rw [h c (by simp)]
  split
  ·rename_i t _
   rw [h (if t then a else b) (by cases t <;> simp)]
  ·rfl
 ·rename_i x y _
  simp only [binS,binA,hp]
  rw [h x (by simp),h y (by simp)]
 ·rename_i x
  simp only [convA,convS,hp]
  rw [h x (by simp)]
 ·rename_i op x
  simp only [unS,hp]
  rw [h x (by simp)]
 ·rename_i x
  rw [h x (by simp),hp]
 ·rename_i x y
  rw [h x (by simp),h y (by simp)]
 ·rename_i x i
  rw [h x (by simp),h i (by simp)]
 ·rename_i parts
  rw [evalParts_congr (t1:=t1) (t2:=t2) (by simpa using h)]
 ·rename_i parts
  rw [evalParts_congr (t1:=t1) (t2:=t2) (by simpa using h)]
 ·rename_i x y
  rw [h x (by simp),h y (by simp)]
 ·rename_i x1 x2
  rw [evals_congr (t1:=t1) (t2:=t2) (xs:=x1.toList) (fun x hx=>h x (by simp at hx; simp [hx])),evals_congr (t1:=t1) (t2:=t2) (xs:=x2.toList) (fun x hx=>h x (by simp at hx; simp [hx]))]
 ·rename_i x lo hi mx
  rw [h x (by simp),evalOpt_congr (t1:=t1) (t2:=t2) (x:=lo) (fun y hy=>h y (by simp at hy; simp [hy])),evalOpt_congr (t1:=t1) (t2:=t2) (x:=hi) (fun y hy=>h y (by simp at hy; simp [hy])),hp]
 ·rename_i c
  simp only [Call.operands] at h
  rw [evals_congr (t1:=t1) (t2:=t2) (xs:=c.args.toList) (fun x hx=>h x (by simp at hx; simp [hx])),hp]
  split
  ·rfl
  ·rename_i f hf
   rw [h f (by simp [hf])]
  ·rfl
theorem evOpS_congr {l1 l2 : Operand → Option AV} {o : Oper} (h : ∀ x ∈ o.op.operands,l1 x = l2 x) (s : St) : evOpS P l1 o s = evOpS P l2 o s:=by
 have lk : ∀ (x : Option Operand),(∀ y ∈ x.toList,l1 y = l2 y) → lookO l1 x = lookO l2 x:=fun x hx=>by
  cases x with
  | none=>rfl
  | some y=>simp only [lookO,hx y (by simp)]
 unfold evOpS
 split
 all_goals (rename_i ho; (try rw [ho] at h); (try simp only [Op.operands] at h))
 ·rename_i x i; rw [h x (by simp),h i (by simp)]
 ·rename_i x; rw [h x (by simp)]
 ·rename_i x y; rw [h x (by simp),h y (by simp)]
 ·rename_i x lo hi; rw [h x (by simp),lk lo (fun y hy=>h y (by simp at hy; simp [hy])),lk hi (fun y hy=>h y (by simp at hy; simp [hy]))]
 ·rename_i x y; rw [h x (by simp),h y (by simp)]
 ·rename_i c
  simp only [Call.operands] at h
  split
  ·rename_i ha _; rw [h _ (by simp [← Array.mem_toList_iff,ha])]
  ·rename_i ha _; rw [h _ (by simp [← Array.mem_toList_iff,ha]),h _ (by simp [← Array.mem_toList_iff,ha])]
  ·rename_i ha _; rw [h _ (by simp [← Array.mem_toList_iff,ha]),h _ (by simp [← Array.mem_toList_iff,ha])]
  ·rfl
 ·rfl
theorem evOp_congr {t1 t2 : List AV} {o : Oper} (h : ∀ x ∈ o.op.operands,eval t1 x = eval t2 x) (s : St) : evOp P t1 o s = evOp P t2 o s:=by
 unfold evOp
 rw [evOp0_congr h s,evOpS_congr h s]
theorem wanted_congr {ops : Array Oper} {o : Oper} {t1 t2 : List AV} (h : ∀ t ∈ o.looksAt ops,t1[t]? = t2[t]?) : wantedA ops.toList o t1 = wantedA ops.toList o t2:=by
 unfold wantedA
 cases hg : o.guard with
 | none=>rfl
 | some g =>
  obtain ⟨j,want⟩:=g
  simp only [Array.getElem?_toList]
  cases hd : (ops[j]?).bind (·.dst) with
  | none=>rfl
  | some d =>
   simp only []
   rw [h d (by simp [Oper.looksAt,hg,hd])]
theorem eval_slot {t1 t2 : List AV} {x : Operand} (h : ∀ t,x = .tmp t → t1[t]? = t2[t]?) : eval t1 x = eval t2 x:=by
 cases x with
 | tmp t=>simp only [eval,nthD_eq,h t rfl]
 | _=>rfl
theorem evOp0_pureS {o : Oper} {R : ORes} (hp : pureS o.op = true) (h : evOp0 P ts o s = some R) (hR : (∀ v s',R ≠ .val v s' 1) ∨ ∀ a b c,o.op ≠ .convert a b c) : ∃ v,R = .val v s 0 ∧ ∀ s2,evOp0 P ts o s2 = some (.val v s2 0):=by
 have hm : ∀ {x : Option AV},x.map (ORes.val · s 0) = some R → ∃ v,R = .val v s 0 ∧ ∀ s2 : St,x.map (ORes.val · s2 0) = some (.val v s2 0):=fun {x} h=>by
  cases x with
  | none=>cases h
  | some u=>simp only [Option.map_some,Option.some.injEq] at h; exact ⟨u,h.symm,fun s2=>rfl⟩
 cases ho : o.op with
 | move x=>simp only [evOp0,ho] at h ⊢; exact hm h
 | assign x=>simp only [evOp0,ho] at h ⊢; exact hm h
 | pick c x y =>
  simp only [evOp0,ho] at h ⊢
  split at h
  ·exact hm h
  ·cases h
 | binOp op xt x y yt=>simp only [evOp0,ho] at h ⊢; exact hm h
 | unOp op xt x=>simp only [evOp0,ho] at h ⊢; exact hm h
 | convert src dst x =>
  simp only [evOp0,ho,convA] at h
  split at h
  ·rename_i v hv
   simp only [Option.some.injEq] at h
   exact ⟨v,h.symm,fun _=>by simp only [evOp0,ho,convA,hv]⟩
  ·split at h
   ·simp only [Option.map_eq_some_iff] at h
    obtain ⟨v,_,rfl⟩:=h
    rcases hR with hR | hR
    ·exact absurd rfl (hR _ _)
    ·exact absurd ho (hR _ _ _)
   ·cases h
 | field xt x f=>simp only [evOp0,ho] at h ⊢; exact hm h
 | index xt x i=>simp only [evOp0,ho] at h ⊢; exact hm h
 | nilCheck x =>
  simp only [evOp0,ho] at h ⊢
  split at h
  ·rename_i hx
   try simp only [hx]
   simp only [Option.some.injEq] at h
   exact ⟨_,h.symm,fun _=>rfl⟩
  ·exact hm h
 | fieldAddr t x f =>
  simp only [evOp0,ho] at h ⊢
  split at h
  ·rename_i hu hx
   try simp only [hu,hx]
   split at h
   ·rename_i hf
    try simp only [hf]
    split at h
    ·rename_i n hn
     try simp only [hn]
     split at h
     ·cases h
     ·rename_i h0
      simp only [h0,if_false]
      simp only [Option.some.injEq] at h
      exact ⟨_,h.symm,fun _=>rfl⟩
    ·cases h
   ·cases h
  ·cases h
 | indexAddr t x i =>
  simp only [evOp0,ho] at h ⊢
  split at h
  ·rename_i hu hx hi
   try simp only [hu,hx,hi]
   split at h
   ·rename_i hn
    try simp only [hn]
    split at h
    ·rename_i hr
     simp only [hr,and_self,if_true]
     simp only [Option.some.injEq] at h
     exact ⟨_,h.symm,fun _=>rfl⟩
    ·cases h
   ·cases h
  ·rename_i hu hx hi
   try simp only [hu,hx,hi]
   split at h
   ·rename_i hn
    try simp only [hn]
    split at h
    ·rename_i hr
     simp only [hr,and_self,if_true]
     simp only [Option.some.injEq] at h
     exact ⟨_,h.symm,fun _=>rfl⟩
    ·cases h
   ·cases h
  ·cases h
 | extract x i =>
  simp only [evOp0,ho] at h ⊢
  split at h
  ·rename_i hx
   try simp only [hx]
   split at h
   ·rename_i hv
    try simp only [hv]
    simp only [Option.some.injEq] at h
    exact ⟨_,h.symm,fun _=>rfl⟩
   ·cases h
  ·cases h
 | makeFunc fn x1 x2 =>
  simp only [evOp0,ho] at h ⊢
  split at h
  ·rename_i h1 h2
   try simp only [h1,h2]
   simp only [Option.some.injEq] at h
   exact ⟨_,h.symm,fun _=>rfl⟩
  ·cases h
 | slice t x lo hi mx =>
  simp only [evOp0,ho] at h ⊢
  split at h
  ·rename_i h1 h2 h3
   try simp only [h1,h2,h3]
   split at h
   ·rename_i hr
    try simp only [hr]
    simp only [Option.some.injEq] at h
    exact ⟨_,h.symm,fun _=>rfl⟩
   ·rename_i hr
    try simp only [hr]
    exact hm h
  ·cases h
 | build t parts =>
  simp only [evOp0,ho] at h ⊢
  split at h
  ·rename_i h1
   try simp only [h1]
   exact hm h
  ·cases h
 | call c =>
  rw [ho] at hp
  simp only [pureS] at hp
  split at hp
  ·rename_i hc
   simp only [evOp0,ho,hc] at h ⊢
   split at h
   ·rename_i args hargs
    try simp only [hargs]
    have hl : ∀ s1 s2 : St,(∃ v,builtinA P s1 .len c.argTypes.toList args = some (v,s1,0) ∧ builtinA P s2 .len c.argTypes.toList args = some (v,s2,0)) ∨
      (builtinA P s1 .len c.argTypes.toList args = none ∧ builtinA P s2 .len c.argTypes.toList args = none):=fun s1 s2=>by
     unfold builtinA
     split
     ·split
      ·exact .inl ⟨_,rfl,rfl⟩
      ·exact .inr ⟨rfl,rfl⟩
     ·rename_i hb _ ; cases hb
     ·rename_i hb _ ; cases hb
     ·rename_i hb _ ; cases hb
     ·exact .inr ⟨rfl,rfl⟩
    split at h
    ·rename_i v s1 k hb
     rcases hl s s with ⟨v',e1,_⟩ | ⟨e1,_⟩
     ·rw [e1] at hb
      simp only [Option.some.injEq,Prod.mk.injEq] at hb
      obtain ⟨rfl,rfl,rfl⟩:=hb
      simp only [Option.some.injEq] at h
      refine ⟨v',h.symm,fun s2=>?_⟩
      rcases hl s s2 with ⟨v'',f1,f2⟩ | ⟨f1,_⟩
      ·rw [e1] at f1
       simp only [Option.some.injEq,Prod.mk.injEq] at f1
       obtain ⟨rfl,_⟩:=f1
       rw [f2]
      ·rw [e1] at f1; cases f1
     ·rw [e1] at hb; cases hb
    ·rename_i hb
     obtain ⟨v,h1,h2⟩:=hm h
     refine ⟨v,h1,fun s2=>?_⟩
     rcases hl s s2 with ⟨v'',f1,f2⟩ | ⟨_,f2⟩
     ·rw [hb] at f1; cases f1
     ·rw [f2]; exact h2 s2
   ·cases h
  ·cases hp
 | _=>rw [ho] at hp; simp [pureS] at hp
theorem evOpS_pureS {look : Operand → Option AV} {o : Oper} {R : ORes} (hp : pureS o.op = true) (h : evOpS P look o s = some R) : ∃ v,R = .val v s 0 ∧ ∀ s2,evOpS P look o s2 = some (.val v s2 0):=by
 unfold evOpS at h ⊢
 split at h
 ·unfold idxS at h ⊢
  split at h
  ·rename_i h1 h2 h3
   split at h
   ·rename_i hc
    simp only [Option.some.injEq] at h
    exact ⟨_,h.symm,fun s2=>by simp only [if_pos hc]⟩
   ·cases h
  ·cases h
 ·rename_i ho; rw [ho] at hp; simp [pureS] at hp
 ·rename_i ho; rw [ho] at hp; simp [pureS] at hp
 ·unfold sliceS at h ⊢
  split at h
  ·rename_i h1 h2 h3 h4
   split at h
   ·rename_i h5 h6
    split at h
    ·rename_i hc
     simp only [Option.some.injEq] at h
     exact ⟨_,h.symm,fun s2=>by simp only [if_pos hc]⟩
    ·cases h
   ·cases h
  ·cases h
 ·rename_i ho; rw [ho] at hp; simp [pureS] at hp
 ·rename_i c ho
  rw [ho] at hp
  simp only [pureS] at hp
  split at h
  ·rename_i hc ha ht
   obtain ⟨x,hx,h⟩:=Option.bind_eq_some_iff.1 h
   simp only [hx,Option.bind_some]
   unfold lenS at h ⊢
   split at h
   ·skip
    split at h
    ·rename_i hr
     simp only [Option.some.injEq] at h
     exact ⟨_,h.symm,fun s2=>rfl⟩
    ·cases h
   ·cases h
  ·rename_i hc ha ht; rw [hc] at hp; simp at hp
  ·rename_i hc ha ht; rw [hc] at hp; simp at hp
  ·cases h
 ·cases h
theorem evOp_pureS {o : Oper} {R : ORes} (hp : pureS o.op = true) (h : evOp P ts o s = some R) (hR : ∀ v s',R ≠ .val v s' 1) : ∃ v,R = .val v s 0 ∧ ∀ s2,evOp P ts o s2 = some (.val v s2 0):=by
 unfold evOp at h ⊢
 split at h
 ·rename_i r' h'
  simp only [Option.some.injEq] at h; subst h
  obtain ⟨v,e1,e2⟩:=evOp0_pureS hp h' (.inl hR)
  exact ⟨v,e1,fun s2=>by rw [e2 s2]⟩
 ·rename_i h0
  obtain ⟨v,e1,e2⟩:=evOpS_pureS hp h
  refine ⟨v,e1,fun s2=>?_⟩
  cases h2 : evOp0 P ts o s2 with
  | none=>exact e2 s2
  | some R2 =>
   have hnc : ∀ a b c,o.op ≠ .convert a b c:=fun a b c hc=>by
    unfold evOpS at h; rw [hc] at h; cases h
   obtain ⟨v2,_,g2⟩:=evOp0_pureS hp h2 (.inr hnc)
   rw [g2 s] at h0; cases h0
theorem loadA_congr {t : TypeId} {b off : Nat} {s1 s2 : St} (h : blockAt s2 b = blockAt s1 b) : loadA P s2 t b off = loadA P s1 t b off:=by unfold loadA; rw [h]
theorem loadA_lt {t : TypeId} {b off : Nat} {v : AV} (h : loadA P s t b off = some v) : b < s.heap.length:=by
 unfold loadA at h
 split at h
 ·cases h
 ·rename_i A hA
  rw [blockAt_some] at hA
  exact (List.getElem?_eq_some_iff.1 hA).1
theorem load_op {o : Oper} {t : TypeId} {x : Operand} {R : ORes} (ho : o.op = .load t x) (h : evOp P ts o s = some R) :
  ∃ b v,blkOf ts o = some b ∧ R = .val v s 1 ∧ b < s.heap.length ∧ ∀ s2 : St,blockAt s2 b = blockAt s b → evOp P ts o s2 = some (.val v s2 1):=by
 unfold evOp at h
 split at h
 ·rename_i r' h'
  simp only [Option.some.injEq] at h; subst h
  simp only [evOp0,ho] at h'
  split at h'
  ·rename_i b off hx
   simp only [Option.map_eq_some_iff] at h'
   obtain ⟨v,hv,rfl⟩:=h'
   refine ⟨b,v,by unfold blkOf; rw [ho]; simp only [hx],rfl,loadA_lt hv,fun s2 hb=>?_⟩
   unfold evOp
   have : evOp0 P ts o s2 = some (.val v s2 1):=by simp only [evOp0,ho,hx,loadA_congr hb,hv,Option.map_some]
   rw [this]
  ·cases h'
 ·rename_i h0
  simp only [evOpS,ho] at h
  unfold loadS at h
  split at h
  ·rename_i b e hx
   split at h
   ·rename_i A hA
    split at h
    ·rename_i k d htl ha
     simp only [Option.map_eq_some_iff] at h
     obtain ⟨v,hk,rfl⟩:=h
     refine ⟨b,v,by unfold blkOf; rw [ho]; simp only [hx],rfl,(List.getElem?_eq_some_iff.1 (blockAt_some.1 hA)).1,fun s2 hb=>?_⟩
     unfold evOp
     have e0 : evOp0 P ts o s2 = none:=by simp only [evOp0,ho,hx]
     rw [e0]
     simp only [evOpS,ho,hx,loadS]
     rw [hb,hA]
     simp only [htl,ha,hk,Option.map_some]
    ·cases h
   ·cases h
  ·cases h
theorem store_op {o : Oper} {t : TypeId} {x y : Operand} {R : ORes} (ho : o.op = .store t x y) (h : evOp P ts o s = some R) :
  ∃ b s',blkOf ts o = some b ∧ R = .val undefA s' 2 ∧ ∀ i,i ≠ b → s'.heap[i]? = s.heap[i]?:=by
 unfold evOp at h
 split at h
 ·rename_i r' h'
  simp only [Option.some.injEq] at h; subst h
  simp only [evOp0,ho] at h'
  split at h'
  ·rename_i b off v n hx hy hn
   split at h'
   ·simp only [Option.map_eq_some_iff] at h'
    obtain ⟨s2,hst,rfl⟩:=h'
    refine ⟨b,s2,by unfold blkOf; rw [ho]; simp only [hx],rfl,fun i hi=>?_⟩
    unfold storeCellsA at hst
    split at hst
    ·cases hst
    ·split at hst
     ·cases hst
     ·split at hst
      ·simp only [Option.some.injEq] at hst
       rw [← hst]
       simp only [setNth_eq]
       rw [List.getElem?_set_ne (Ne.symm hi)]
      ·cases hst
   ·cases h'
  ·cases h'
 ·simp only [evOpS,ho] at h
  unfold storeS at h
  split at h
  ·rename_i b e v hx hy
   split at h
   ·split at h
    ·split at h
     ·split at h
      ·simp only [Option.some.injEq] at h
       refine ⟨b,_,by unfold blkOf; rw [ho]; simp only [hx],h.symm,fun i hi=>?_⟩
       simp only [setNth_eq]
       rw [List.getElem?_set_ne (Ne.symm hi)]
      ·cases h
     ·cases h
    ·cases h
   ·cases h
  ·cases h
theorem stepN_load {rec : Ev} {o : Oper} {t : TypeId} {x : Operand} {v : AV} {s' : St} {m h0 cnt : Nat} {own : List Nat} (ho : o.op = .load t x) (h : stepN P rec o ts s m h0 own = some (v,s',cnt)) :
  ∃ b,blkOf ts o = some b ∧ s' = s ∧ cnt = 0 ∧ b < s.heap.length ∧ (Nat.blt b h0 || m.testBit (nthD 0 own (b - h0))) = true ∧ ∀ s2 : St,blockAt s2 b = blockAt s b → evOp P ts o s2 = some (.val v s2 1):=by
 unfold stepN at h
 split at h
 ·rename_i v0 s0 c0 hop
  obtain ⟨b,u,h1,h2,h3,h4⟩:=load_op ho hop
  simp only [ORes.val.injEq] at h2
  obtain ⟨rfl,rfl,rfl⟩:=h2
  simp only [ho,pureS,alS,Bool.false_eq_true,if_false] at h
  have hb : blkOf ts o = some b:=h1
  unfold blkOf at hb
  simp only [ho] at hb
  split at h
  ·rename_i b1 off hx
   rw [hx] at hb
   simp only [Option.some.injEq] at hb
   subst hb
   split at h
   ·rename_i hc
    simp only [Option.some.injEq,Prod.mk.injEq] at h
    obtain ⟨rfl,rfl,rfl⟩:=h
    exact ⟨_,h1,rfl,rfl,h3,hc,h4⟩
   ·cases h
  ·rename_i b1 off hx
   rw [hx] at hb
   simp only [Option.some.injEq] at hb
   subst hb
   split at h
   ·rename_i hc
    simp only [Option.some.injEq,Prod.mk.injEq] at h
    obtain ⟨rfl,rfl,rfl⟩:=h
    exact ⟨_,h1,rfl,rfl,h3,hc,h4⟩
   ·cases h
  ·cases h
 ·rename_i f args hop
  obtain ⟨b,u,h1,h2,_⟩:=load_op ho hop
  cases h2
 ·cases h
theorem mask_bit {acc : List Nat} {i : Nat} : ∀ (es : List Edge) (m : Nat),(es.foldl (fun m e=>if Region.binds .any e then m ||| 2 ^ e.on ||| nthD 0 acc e.on else m) m).testBit i = true →
  m.testBit i = true ∨ ∃ e ∈ es,Region.binds .any e = true ∧ (e.on = i ∨ (nthD 0 acc e.on).testBit i = true)
 | [],m,h=>.inl h
 | e :: es,m,h=>by
  rw [List.foldl_cons] at h
  rcases mask_bit es _ h with h1 | ⟨e',h1,h2⟩
  ·split at h1
   ·rename_i hb
    simp only [Nat.testBit_or,Bool.or_eq_true] at h1
    rcases h1 with (h1 | h1) | h1
    ·exact .inl h1
    ·refine .inr ⟨e,by simp,hb,.inl ?_⟩
     rw [Nat.testBit_two_pow] at h1
     simpa using h1
    ·exact .inr ⟨e,by simp,hb,.inr h1⟩
   ·exact .inl h1
  ·exact .inr ⟨e',by simp [h1],h2⟩
theorem befs_get : ∀ (l : List Oper) (acc : List Nat),(∀ j,j < acc.length → (befs l acc)[j]? = acc[j]?) ∧
  (∀ (j : Nat) (o : Oper),l[j]? = some o → nthD 0 (befs l acc) (acc.length + j) = maskOf ((befs l acc).take (acc.length + j)) o.after.toList)
 | [],acc=>⟨fun _ _=>rfl,fun j o h=>by simp at h⟩
 | o :: l,acc=>by
  obtain ⟨h1,h2⟩:=befs_get l (acc ++ [maskOf acc o.after.toList])
  simp only [befs]
  simp only [List.length_append,List.length_singleton] at h1 h2
  have hpre : ∀ j,j < acc.length → (befs l (acc ++ [maskOf acc o.after.toList]))[j]? = acc[j]?:=fun j hj=>by
   rw [h1 j (by omega),List.getElem?_append_left hj]
  refine ⟨hpre,?_⟩
  intro j o' hj
  cases j with
  | zero =>
   simp at hj
   subst hj
   rw [nthD_eq,Nat.add_zero,h1 acc.length (by omega),List.getElem?_append_right (Nat.le_refl _)]
   simp only [Nat.sub_self,List.getElem?_cons_zero,Option.getD_some]
   congr 1
   apply List.ext_getElem?
   intro i
   rw [List.getElem?_take]
   by_cases hi : i < acc.length
   ·rw [if_pos hi,hpre i hi]
   ·rw [if_neg hi,List.getElem?_eq_none (by omega)]
  | succ j =>
   have:=h2 j o' (by simpa using hj)
   rw [show acc.length + (j + 1) = acc.length + 1 + j from by omega]
   exact this
theorem bit_listed {ops : List Oper} {L : Nat → Bool} (hcl : ∀ (j : Nat) (o : Oper),L j = true → ops[j]? = some o → ∀ e ∈ o.after.toList,Region.binds .any e = true → L e.on = true) :
  ∀ (j : Nat) (o : Oper) (i : Nat),ops[j]? = some o → (∀ e ∈ o.after.toList,Region.binds .any e = true → L e.on = true) → (nthD 0 (befs ops []) j).testBit i = true → L i = true:=by
 intro j
 induction j using Nat.strongRecOn with
 | _ j ih =>
  intro o i ho he hb
  have hm:=(befs_get ops []).2 j o ho
  simp only [List.length_nil,Nat.zero_add] at hm
  rw [hm] at hb
  rcases mask_bit _ _ hb with h1 | ⟨e,h1,h2,h3⟩
  ·simp at h1
  ·rcases h3 with rfl | h3
   ·exact he e h1 h2
   ·by_cases hj : e.on < j
    ·have hL:=he e h1 h2
     have ho' : ∃ o',ops[e.on]? = some o':=⟨_,List.getElem?_eq_getElem (by have:=(List.getElem?_eq_some_iff.1 ho).1; omega)⟩
     obtain ⟨o',ho'⟩:=ho'
     refine ih e.on hj o' i ho' (hcl _ _ hL ho') ?_
     rw [nthD_eq,List.getElem?_take,if_pos hj] at h3
     rw [nthD_eq]; exact h3
    ·rw [nthD_eq,List.getElem?_take,if_neg hj] at h3
     simp at h3
theorem bit_lt {ops : List Oper} (hback : ∀ (j : Nat) (o : Oper),ops[j]? = some o → ∀ e ∈ o.after.toList,Region.binds .any e = true → e.on < j) (j : Nat) (o : Oper) (i : Nat) (ho : ops[j]? = some o)
  (hb : (nthD 0 (befs ops []) j).testBit i = true) : i < j:=by
 have:=bit_listed (ops:=ops) (L:=fun x=>decide (x < j)) (fun j' o' h1 h2 e he hbi=>by
  have:=hback j' o' h2 e he hbi
  simp at h1 ⊢; omega) j o i ho (fun e he hbi=>by simpa using hback j o ho e he hbi) hb
 simpa using this
def Inj.cut (π : Inj) (n : Nat) : Inj:=fun i=>if i < n then π i else none
theorem refsLtL_get {n : Nat} : ∀ {l : List AV},refsLtL n l = true → ∀ (i : Nat) (p : i < l.length),refsLt n l[i] = true
 | [],_,i,p=>by simp at p
 | v :: l,h,i,p=>by
  simp only [refsLtL,Bool.and_eq_true] at h
  cases i with
  | zero=>exact h.1
  | succ i=>exact refsLtL_get h.2 i (by simpa using p)
theorem refs_cut {n : Nat} {v : AV} {c : Value} (h : VR π lm v c) (hr : refsLt n v = true) : VR (π.cut n) lm v c:=by
 induction h with
 | bool b=>exact .bool b
 | int k n=>exact .int k n
 | sym h0 h1 h2=>exact .sym h0 h1 h2
 | str s=>exact .str s
 | ptr h=>exact .ptr (by simp only [refsLt,Nat.blt_eq] at hr; simp only [Inj.cut,if_pos hr]; exact h)
 | nilPtr=>exact .nilPtr
 | sliceEx h=>exact .sliceEx (by simp only [refsLt,Nat.blt_eq] at hr; simp only [Inj.cut,if_pos hr]; exact h)
 | sliceIn h hc hn=>exact .sliceIn (by simp only [refsLt,Nat.blt_eq] at hr; simp only [Inj.cut,if_pos hr]; exact h) hc hn
 | nilSlice=>exact .nilSlice
 | fn f s1 _ s2 _ ih1 ih2 =>
  simp only [refsLt,Bool.and_eq_true] at hr
  exact .fn f s1 (fun i p q=>ih1 i p q (refsLtL_get hr.1 i p)) s2 (fun i p q=>ih2 i p q (refsLtL_get hr.2 i p))
 | yield h=>exact .yield h
 | nilFn=>exact .nilFn
 | nilIface=>exact .nilIface
 | top h hb=>exact .top h hb
 | slsEx o h=>exact .slsEx o (by simp only [refsLt,Nat.blt_eq] at hr; simp only [Inj.cut,if_pos hr]; exact h)
 | slsIn o h hc hn=>exact .slsIn o (by simp only [refsLt,Nat.blt_eq] at hr; simp only [Inj.cut,if_pos hr]; exact h) hc hn
 | sptr o n1 h=>exact .sptr o n1 (by simp only [refsLt,Nat.blt_eq] at hr; simp only [Inj.cut,if_pos hr]; exact h)
 | iface t _ ih=>simp only [refsLt] at hr; exact .iface t (ih hr)
 | agg s _ ih=>simp only [refsLt] at hr; exact .agg s (fun i p q=>ih i p q (refsLtL_get hr i p))
 | tup s _ ih=>simp only [refsLt] at hr; exact .tup s (fun i p q=>ih i p q (refsLtL_get hr i p))
theorem refsL_cut {n : Nat} {l : List AV} {vs : List Value} (h : LR π lm l vs) (hr : refsLtL n l = true) : LR (π.cut n) lm l vs:=
 ⟨h.1,fun i p q=>refs_cut (h.2 i p q) (refsLtL_get hr i p)⟩
theorem holes_get {m : Nat → Bool} : ∀ {own : List Nat} {bs : List (Option ABlk)},own.length = bs.length → ∀ (p : Nat) (o : Nat) (b : Option ABlk),own[p]? = some o → bs[p]? = some b →
  (holes m own bs)[p]? = some (if m o then b else none)
 | [],_,_,p,o,b,h,_=>by simp at h
 | _ :: _,[],_,p,o,b,_,h=>by simp at h
 | o1 :: os,b1 :: bs,hl,p,o,b,ho,hb=>by
  cases p with
  | zero=>simp at ho hb; subst ho; subst hb; simp [holes]
  | succ p =>
   simp only [List.getElem?_cons_succ,holes] at ho hb ⊢
   exact holes_get (by simpa using hl) p o b ho hb
theorem holes_length {m : Nat → Bool} : ∀ {own : List Nat} {bs : List (Option ABlk)},own.length = bs.length → (holes m own bs).length = bs.length
 | [],[],_=>rfl
 | [],_ :: _,h=>by simp at h
 | _ :: _,[],h=>by simp at h
 | _ :: os,_ :: bs,h=>by simp only [holes,List.length_cons]; rw [holes_length (by simpa using h)]
theorem newOk_get {n : Nat} : ∀ {l : List (Option ABlk)},newOk n l = true → ∀ (i : Nat) (A : ABlk),l[i]? = some (some A) → refsLtL n A.cells = true
 | [],_,i,A,h=>by simp at h
 | none :: l,h,i,A,hA=>by
  cases i with
  | zero=>simp at hA
  | succ i=>exact newOk_get (l:=l) h i A (by simpa using hA)
 | some B :: l,h,i,A,hA=>by
  simp only [newOk,Bool.and_eq_true] at h
  cases i with
  | zero=>simp at hA; subst hA; exact h.1
  | succ i=>exact newOk_get h.2 i A (by simpa using hA)
theorem Tr.all {π' : Inj} {lm' : List Nat} {s' : St} {w' : World} (h : Tr π π' lm lm' s s' w w') (hlo : s.heap.length ≤ s'.lo) (hnd : s'.nd = s.nd) :
  ∀ (r : Nat),r < w.heap.size → w'.heap[r]? = w.heap[r]?:=by
 intro r hr
 by_cases h1 : ∃ i A n,s.heap[i]? = some (some A) ∧ A.ro = false ∧ π i = some (r,n)
 ·obtain ⟨i,A,n,h1,_,h3⟩:=h1
  exact h.low i A r n h1 (by have:=(List.getElem?_eq_some_iff.1 h1).1; omega) h3
 ·by_cases h2 : r ∈ lm
  ·exact h.lkeep hnd r h2
  ·exact h.keep r hr (fun i A n e1 e2 e3=>h1 ⟨i,A,n,e1,e2,e3⟩) h2
structure Grow (s : St) (π π1 : Inj) (w w1 : World) : Prop where
 os : w1.os = w.os
 tape : w1.tape = w.tape
 output : w1.output = w.output
 size : w.heap.size ≤ w1.heap.size
 keep : ∀ (r : Nat),r < w.heap.size → w1.heap[r]? = w.heap[r]?
 old : ∀ i,i < s.heap.length → π1 i = π i
 new : ∀ i b n,s.heap.length ≤ i → π1 i = some (b,n) → w.heap.size ≤ b ∨ ∃ j A m,s.heap[j]? = some (some A) ∧ A.ro = false ∧ π j = some (b,m)
theorem Grow.tr {π1 : Inj} {w1 : World} {S : St} (g : Grow s π π1 w w1) (hw : WR B π lm s w) (hlen : s.heap.length ≤ S.heap.length) (hold : ∀ i,i < s.heap.length → S.heap[i]? = s.heap[i]?)
  (hlo : S.lo = s.lo) (hnd : S.nd = s.nd) : Tr π π1 lm lm s S w w1 where
 os:=g.os
 tape:=g.tape
 output:=g.output
 size:=g.size
 keep:=fun r hr _ _=>g.keep r hr
 low:=fun i A b n hA _ hp=>by
  obtain ⟨c,fz,f,_⟩:=hw.at hA hp
  exact g.keep b (lt_of_some f)
 same:=fun i hi _=>hold i hi
 lkeep:=fun _ L hL=>by
  obtain ⟨l,hl,rfl⟩:=List.getElem_of_mem hL
  obtain ⟨r,hr⟩ : ∃ r,s.loops[l]? = some r:=⟨_,List.getElem?_eq_getElem (hw.lsz ▸ hl)⟩
  obtain ⟨L',fn,D',ts,st,pd,f1,f2,f3⟩:=hw.loop l r hr
  rw [List.getElem?_eq_getElem hl] at f1
  obtain rfl:=Option.some.inj f1
  exact g.keep _ (lt_of_some f2)
 lo_le:=by rw [hlo]; exact Nat.le_refl _
 nd_le:=by rw [hnd]; exact Nat.le_refl _
 le:=fun i x hx=>by rw [g.old i (hw.dom i x hx)]; exact hx
 old:=g.old
 len:=hlen
 liv:=fun i A' hi hA'=>⟨A',by rw [← hold i hi]; exact hA',rfl⟩
 new:=g.new
 lmx:=⟨[],by simp,by simp⟩
theorem WR.merge {π1 π2 : Inj} {S S2 : St} {w1 w2 : World} (h : WR B π1 lm S w1) {a cnt : Nat} (hloops : S2.loops = S.loops)
  (hout : ∀ i,¬ (a ≤ i ∧ i < a + cnt) → S2.heap[i]? = S.heap[i]?)
  (hin : ∀ i A,a ≤ i → i < a + cnt → S2.heap[i]? = some (some A) → ∃ b n c,∃ fz : TypeId × Nat × Nat,π2 i = some (b,n) ∧ w2.heap[b]? = some (.cells c fz.1 fz.2) ∧ c.size = n ∧ (A.ro = false → fz = (A.elem,0,0) ∧ B ≤ b) ∧ w1.heap.size ≤ b ∧ LR π2 lm A.cells (c.toList.take A.cells.length) ∧ TailOk A c)
  (hdis : ∀ i i' A A' b n m,a ≤ i → i < a + cnt → a ≤ i' → i' < a + cnt → S2.heap[i]? = some (some A) → S2.heap[i']? = some (some A') → A.ro = false → π2 i = some (b,n) → π2 i' = some (b,m) → i = i')
  (hπ : ∀ i,¬ (a ≤ i ∧ i < a + cnt) → π2 i = π1 i) (hle : π1.le π2) (hdom : ∀ i x,π2 i = some x → i < S2.heap.length)
  (hk : ∀ (r : Nat),r < w1.heap.size → w2.heap[r]? = w1.heap[r]?) : WR B π2 lm S2 w2 where
 dom:=hdom
 blk:=fun i A hA=>by
  by_cases hi : a ≤ i ∧ i < a + cnt
  ·obtain ⟨b,n,c,fz,g1,g2,g3,g4,_,g6⟩:=hin i A hi.1 hi.2 hA
   exact ⟨b,n,c,fz,g1,g2,g3,g4,g6⟩
  ·rw [hout i hi] at hA
   obtain ⟨b,n,c,fz,g1,g2,g3,g4,g5⟩:=h.blk i A hA
   exact ⟨b,n,c,fz,by rw [hπ i hi]; exact g1,by rw [hk b (lt_of_some g2)]; exact g2,g3,g4,g5.1.mono hle (fun _ _ x=>x),g5.2⟩
 inj:=fun i j A A' b n m h1 h2 h3 h4 h5=>by
  have lowB : ∀ (i : Nat) (A : ABlk) (b n : Nat),¬ (a ≤ i ∧ i < a + cnt) → S2.heap[i]? = some (some A) → π2 i = some (b,n) → b < w1.heap.size:=fun i A b n hi hA hp=>by
   rw [hout i hi] at hA; rw [hπ i hi] at hp
   obtain ⟨c,fz,f,_⟩:=h.at hA hp
   exact lt_of_some f
  have highB : ∀ (i : Nat) (A : ABlk) (b n : Nat),(a ≤ i ∧ i < a + cnt) → S2.heap[i]? = some (some A) → π2 i = some (b,n) → w1.heap.size ≤ b:=fun i A b n hi hA hp=>by
   obtain ⟨b',n',c,fz,g1,_,_,_,g5,_⟩:=hin i A hi.1 hi.2 hA
   rw [g1] at hp
   obtain ⟨rfl,_⟩:=Prod.mk.inj (Option.some.inj hp)
   exact g5
  by_cases hi : a ≤ i ∧ i < a + cnt <;> by_cases hj : a ≤ j ∧ j < a + cnt
  ·exact hdis i j A A' b n m hi.1 hi.2 hj.1 hj.2 h1 h2 h3 h4 h5
  ·have:=highB i A b n hi h1 h4
   have:=lowB j A' b m hj h2 h5
   omega
  ·have:=lowB i A b n hi h1 h4
   have:=highB j A' b m hj h2 h5
   omega
  ·rw [hout i hi] at h1; rw [hout j hj] at h2; rw [hπ i hi] at h4; rw [hπ j hj] at h5
   exact h.inj i j A A' b n m h1 h2 h3 h4 h5
 lsz:=by rw [hloops]; exact h.lsz
 linj:=h.linj
 loop:=fun l r hr=>by
  rw [hloops] at hr
  obtain ⟨L,fn,D,ts,st,pd,f1,f2,f3,f4⟩:=h.loop l r hr
  exact ⟨L,fn,D,ts,st,pd,f1,by rw [hk L (lt_of_some f2)]; exact f2,f3,f4.mono hle (fun _ _ x=>x)⟩
theorem evOp_al {o : Oper} {v : AV} {s' : St} {k : Nat} (ha : alS o.op = true) (h : evOp0 P ts o s = some (.val v s' k)) (r : LR π lm ts a.tmps.toList) (w : World) :
  ∃ (e : TypeId) (cs : List AV) (vf : Nat → AV) (c0 : Value) (c : Array Value),v = vf s.heap.length ∧ s' = newBlk s e cs ∧ (execOp a.eval o).run P w = .ok (.value c0) { w with heap:=w.heap.push (.cells c e) } ∧
   LR π lm cs (c.toList.take cs.length) ∧ (∀ (π' : Inj) (lm' : List Nat) (i : Nat),π' i = some (w.heap.size,c.size) → VR π' lm' (vf i) c0) ∧ ∀ c,o.op ≠ .defer c:=by
 have run1 : ∀ (t : TypeId) (c : Value),(newVar t c).run P w = .ok ⟨w.heap.size,0,none⟩ { w with heap:=w.heap.push (.cells c.cells t) }:=fun t c=>by simp [newVar,newRow]
 cases ho : o.op with
 | alloc t =>
  simp only [evOp0,ho,Option.map_eq_some_iff,ORes.val.injEq] at h
  obtain ⟨z,h1,rfl,rfl,_⟩:=h
  obtain ⟨u,hu,hv⟩:=zero_rel (π:=π) (lm:=lm) h1 w
  refine ⟨t,z.cells,fun n=>.ptr n 0,.pointer (some ⟨w.heap.size,0,none⟩),u.cells,rfl,rfl,?_,hv.cells.take_self,fun π' lm' i hi=>.ptr hi,by simp⟩
  simp [execOp,ho,Instr.alloc,hu,run1]
 | box t x =>
  simp only [evOp0,ho,Option.map_eq_some_iff,ORes.val.injEq] at h
  obtain ⟨z,h1,rfl,rfl,_⟩:=h
  refine ⟨t,z.cells,fun n=>.ptr n 0,.pointer (some ⟨w.heap.size,0,none⟩),(a.eval x).cells,rfl,rfl,?_,(eval_rel h1 r).cells.take_self,fun π' lm' i hi=>.ptr hi,by simp⟩
  simp [execOp,ho,Instr.box,run1]
 | buildSlice t len xs =>
  simp only [evOp0,ho] at h
  split at h
  ·rename_i e hu
   split at h
   ·rename_i es z ps hn hz hx
    split at h
    ·cases h
    ·rename_i hc
     simp only [not_or,ne_eq,Decidable.not_not] at hc
     simp only [Option.map_eq_some_iff,ORes.val.injEq] at h
     obtain ⟨cs,hfill,rfl,rfl,_⟩:=h
     obtain ⟨e1,e2⟩:=evalParts_rel hx r
     have hq1 : ps.map (·.1) = ((xs.map fun (x : Nat × Operand)=>(x.1,a.eval x.2)).toList).map (·.1):=by rw [e1]; simp
     have hq2 : LR π lm (ps.map (·.2)) (((xs.map fun (x : Nat × Operand)=>(x.1,a.eval x.2)).toList).map (·.2)):=by
      have : ((xs.map fun (x : Nat × Operand)=>(x.1,a.eval x.2)).toList).map (·.2) = xs.toList.map fun x=>a.eval x.2:=by simp
      rw [this]; exact e2
     obtain ⟨u,hzu,hv⟩:=zero_rel (π:=π) (lm:=lm) hz w
     have hcl:=hv.cells
     have hsz : u.cells.size = es:=by have:=hcl.1; simp at this; omega
     have hrow : LR π lm (rep z.cells len) (((Array.range (len * es)).map fun i=>u.cells[i % u.cells.size]!).toList):=by
      rw [← hsz,zeros_eq]; exact rep_rel hcl _
     obtain ⟨d,hd,hdr⟩:=fill_rel hrow hq1 hq2 hfill
     refine ⟨e,cs,fun n=>.slice n 0 len len true es,.slice (some ⟨w.heap.size,0,none⟩) len len,d,rfl,rfl,?_,hdr.take_self,fun π' lm' i hi=>.sliceEx hi,by simp⟩
     simp only [execOp,ho,Instr.buildSlice,Sem.run_bind,run_underlying hu,Result.andThen_ok,run_sizeOf' hn]
     rw [if_neg hc.1]
     by_cases hz0 : len * es = 0
     ·have h0 : Array.range 0 = #[]:=rfl
      have hd' : Instr.fill (fun i=>some (i * es,es)) #[] ((xs.map fun (x : Nat × Operand)=>(x.1,a.eval x.2)).toList) = some d:=by
       rw [← hd]; simp [hz0,h0]
      simp only [Array.toList_map] at hd'
      simp [hz0,h0,hd',newRow]
     ·simp only [Array.toList_map] at hd
      simp [hz0,hzu,hd,newRow]
   ·cases h
  ·cases h
 | makeSlice t x y =>
  simp only [evOp0,ho] at h
  split at h
  ·rename_i e hu
   split at h
   ·rename_i es bs z k1 n k2 m hn hb hz hx hy
    split at h
    ·rename_i hc
     obtain ⟨h0,h1,h2,h3,h4⟩:=hc
     simp only [Option.some.injEq,ORes.val.injEq] at h
     obtain ⟨rfl,rfl,_⟩:=h
     obtain ⟨u,hzu,hv⟩:=zero_rel (π:=π) (lm:=lm) hz w
     have ex:=(eval_rel hx r).int_inv
     have ey:=(eval_rel hy r).int_inv
     have hcl:=hv.cells
     have hsz : u.cells.size = es:=by have:=hcl.1; simp at this; omega
     simp only [bytesA,Option.map_eq_some_iff] at hb
     obtain ⟨i,hi,rfl⟩:=hb
     have wn : IntKind.i64.wrap n = n:=IntWalk.i64_in _ (by omega)
     have wm : IntKind.i64.wrap m = m:=IntWalk.i64_in _ (by omega)
     have hrow : LR π lm (rep z.cells m.toNat) (((Array.range (m.toNat * es)).map fun i=>u.cells[i % u.cells.size]!).toList):=by
      rw [← hsz,zeros_eq]; exact rep_rel hcl _
     refine ⟨e,rep z.cells m.toNat,fun q=>.slice q 0 n.toNat m.toNat true es,.slice (some ⟨w.heap.size,0,none⟩) n.toNat m.toNat,(Array.range (m.toNat * es)).map fun i=>u.cells[i % u.cells.size]!,rfl,rfl,?_,hrow.take_self,fun π' lm' i hi=>.sliceEx hi,by simp⟩
     have h5 : (i.bytes : Int) * m = m * i.bytes:=Int.mul_comm _ _
     have hbig : ¬ ((i.bytes : Int) * m > 2 ^ 48):=by rw [h5]; omega
     have hm0 : ¬ m < 0:=by omega
     have hn0 : ¬ n < 0:=by omega
     have hnm : ¬ n > m:=by omega
     simp only [execOp,ho,Instr.makeSlice,Sem.run_bind,run_underlying hu,Result.andThen_ok,ex,ey,asInt,asIntOf,run_typeInfo' hi,wn,wm,Sem.run_pure]
     simp only [hm0,hbig,hn0,hnm,decide_false,Bool.or_false,Bool.false_eq_true,if_false,Result.andThen_ok,newRow,Sem.run_bind,run_newObj,Sem.run_pure,run_askRoom,run_sizeOf' hn,Sem.run_ite]
     by_cases hz0 : m.toNat * es = 0
     ·have h0 : Array.range 0 = #[]:=rfl
      simp [hz0,h0]
     ·simp [hz0,hzu]
    ·cases h
   ·cases h
  ·cases h
 | _=>rw [ho] at ha; simp [alS] at ha
end Go.Ev
