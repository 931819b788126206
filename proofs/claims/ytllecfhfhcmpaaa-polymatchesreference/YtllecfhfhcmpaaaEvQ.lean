/- The faster twin does what the evaluator does. -/
import Derived.Test.YtllecfhfhcmpaaaEvP
import Derived.Test.YtllecfhfhcmpaaaEvO
import Derived.IntWalk
namespace Go.Ev
set_option linter.unusedSectionVars false
variable [Rho] [Know] [KnowOk]
variable {P : Program} {look : Operand → Option AV} {ts : List AV}
theorem lookAll_eq : ∀ {xs : List Operand},(∀ x ∈ xs,look x = eval ts x) → lookAll look xs = evals ts xs
 | [],_=>rfl
 | x :: xs,h=>by
  simp only [lookAll,evals]
  rw [h x (by simp),lookAll_eq (fun y hy=>h y (by simp [hy]))]
  rfl
theorem lookParts_eq : ∀ {xs : List (Nat × Operand)},(∀ x ∈ xs.map (·.2),look x = eval ts x) → lookParts look xs = evalParts ts xs
 | [],_=>rfl
 | (i,x) :: xs,h=>by
  simp only [lookParts,evalParts]
  rw [h x (by simp),lookParts_eq (fun y hy=>h y (by simp at hy ⊢; exact .inr hy))]
  rfl
theorem lookOpt_eq {x : Option Operand} (h : ∀ y ∈ x.toList,look y = eval ts y) : lookOpt look x = evalOpt ts x:=by
 cases x with
 | none=>rfl
 | some x=>simp only [lookOpt,evalOpt]; rw [h x (by simp)]
theorem pureG_eq {o : Oper} (h : ∀ x ∈ o.op.operands,look x = eval ts x) : pureG P look o = pureOp P ts o:=by
 unfold pureG pureOp
 have e1 : (o.op.operands.toList.all fun x=>((look x).bind AV.toV).isSome) = (o.op.operands.toList.all fun x=>((eval ts x).bind AV.toV).isSome):=by
  rw [Bool.eq_iff_iff]
  simp only [List.all_eq_true]
  constructor <;> intro hh x hx
  ·rw [← h x (by simpa using hx)]; exact hh x hx
  ·rw [h x (by simpa using hx)]; exact hh x hx
 rw [e1]
 split
 ·rename_i hc
  rw [execOp_congr (ρ':=fun x=>((eval ts x).bind AV.toV).getD undef) o ?_ ?_]
  ·rfl
  ·intro cs b e
   rw [e] at hc; simp [plainOp] at hc
  ·intro x hx
   rw [h x hx]
 ·rfl
theorem fits_in {k : IntKind} {n : Int} (h : fits k n = true) : k.wrap n = n:=by
 cases k with
 | i64 =>
  cases n with
  | ofNat m=>simp only [fits,Nat.ble_eq] at h; exact IntWalk.i64_in _ (by simp only [Int.ofNat_eq_natCast]; omega)
  | negSucc m=>simp only [fits,Nat.ble_eq] at h; exact IntWalk.i64_in _ (by omega)
 | _=>cases h
theorem wrapF_eq (k : IntKind) (n : Int) : wrapF k n = k.wrap n:=by
 unfold wrapF
 cases h : fits k n
 ·rfl
 ·exact (fits_in h).symm
theorem intBinF_eq (op : BinOp) (k : IntKind) (a b : Int) : intBinF op k a b = intBin op k a b:=by
 cases op <;> simp only [intBinF,intBin,wrapF_eq]
theorem gVal_eq (x : Option AV) (s : St) : gVal x s = x.map (.val · s 0):=by cases x <;> rfl
theorem evOpG0_eq {o : Oper} (h : ∀ x ∈ o.op.operands,look x = eval ts x) (s : St) : evOpG0 P look o s = evOp0 P ts o s:=by
 have hp:=pureG_eq (P:=P) h
 cases ho : o.op <;> (try rw [ho] at h) <;> (try simp only [Op.operands] at h) <;> simp only [evOpG0,evOp0,ho]
 all_goals first
  | (rw [gVal_eq,hp]; done)
  | (rw [gVal_eq,h _ (by simp)]; done)
  | skip
 case pick c a b =>
  rw [h c (by simp)]
  simp only [gPick]
  cases eval ts c with
  | none=>rfl
  | some v =>
   cases v <;> try rfl
   rename_i t
   cases t <;> simp only [gVal_eq] <;> rw [h _ (by simp)] <;> rfl
 case alloc t=>rfl
 case box t x=>rw [h x (by simp)]; rfl
 case build t ps =>
  rw [lookParts_eq (ts:=ts) (by simpa using h)]; rfl
 case buildSlice t len ps =>
  rw [lookParts_eq (ts:=ts) (by simpa using h)]; rfl
 case load t a=>rw [h a (by simp)]; simp only [gLoad]; split <;> (try split) <;> simp_all
 case store t a x=>rw [h a (by simp),h x (by simp)]; rfl
 case binOp op xt x y yt =>
  rw [h x (by simp),h y (by simp)]
  have hg : gSym P look o op (eval ts x) (eval ts y) s = (match pureOp P ts o with
    | some v=>some v
    | none=>match eval ts x,eval ts y with
     | some u,some v=>symBinT P o op u v
     | _,_=>none).map (ORes.val · s 0):=by
   simp only [gSym,hp]
   cases pureOp P ts o with
   | some v=>rfl
   | none =>
    cases eval ts x <;> cases eval ts y <;> first | rfl | exact gVal_eq _ _
  simp only [gBin,binS,binA,intBinF_eq,hg]
  clear hg
  generalize eval ts x = u
  generalize eval ts y = v
  cases u with
  | none=>cases pureOp P ts o <;> rfl
  | some u=>cases v with
   | none=>cases u <;> cases pureOp P ts o <;> rfl
   | some v =>
    cases u with
    | int k a=>cases v with
     | int k' b =>
      simp only []
      by_cases hk : k = k'
      ·simp only [hk,if_true]
       cases intBin op k' a b with
       | some v=>rfl
       | none=>cases pureOp P ts o <;> rfl
      ·simp only [hk,if_false]
       cases pureOp P ts o <;> rfl
     | _=>cases pureOp P ts o <;> rfl
    | _=>cases pureOp P ts o <;> rfl
 case convert src dst x =>
  rw [h x (by simp)]
  simp only [gConv,convA,convS,hp]
  cases pureOp P ts o with
  | some v=>rfl
  | none=>cases eval ts x with
   | none=>rfl
   | some u =>
    simp only []
    cases symConv P src dst u with
    | some v=>rfl
    | none=>cases strA P s src dst u <;> rfl
 case unOp op xt x =>
  rw [h x (by simp)]
  unfold gNot
  split
  ·rename_i b hx
   obtain ⟨dst,op',type,pos,after,guard⟩:=o
   simp only at ho
   subst ho
   simp [unS,pureOp,Op.operands,hx,AV.toV,plainOp,execOp]
   cases b <;> rfl
  ·simp only [unS,hp]
   cases pureOp P ts o with
   | some v=>rfl
   | none =>
    rename_i opx _ _ _
    cases opx <;> cases eval ts x <;> first | rfl | exact gVal_eq _ _
 case makeFunc fn x1 x2 =>
  rw [lookAll_eq (ts:=ts) (xs:=x1.toList) (fun x hx=>h x (by simp at hx; simp [hx])),lookAll_eq (ts:=ts) (xs:=x2.toList) (fun x hx=>h x (by simp at hx; simp [hx]))]
  rfl
 case makeSlice t a b=>rw [h a (by simp),h b (by simp)]; rfl
 case slice t x lo hi mx =>
  rw [h x (by simp),lookOpt_eq (ts:=ts) (x:=lo) (fun y hy=>h y (by simp at hy; simp [hy])),lookOpt_eq (ts:=ts) (x:=hi) (fun y hy=>h y (by simp at hy; simp [hy]))]
  simp only [gSlice,gVal_eq,hp]
  rfl
 case nilCheck x=>rw [h x (by simp)]; simp only [gNil,gVal_eq,hp]; rfl
 case fieldAddr t x f=>rw [h x (by simp)]; rfl
 case indexAddr t x i=>rw [h x (by simp),h i (by simp)]; rfl
 case extract x i=>rw [h x (by simp)]; rfl
 case call c =>
  simp only [Call.operands] at h
  simp only [gCall]
  rw [lookAll_eq (ts:=ts) (xs:=c.args.toList) (fun x hx=>h x (by simp at hx; simp [hx]))]
  simp only [gVal_eq,hp]
  cases hc : c.callee with
  | builtin b=>rfl
  | value f=>simp only []; rw [h f (by simp [hc])]; rfl
  | invoke r m=>rfl
theorem evOpG_eq {o : Oper} (h : ∀ x ∈ o.op.operands,look x = eval ts x) (s : St) : evOpG P look o s = evOp P ts o s:=by
 unfold evOpG evOp
 rw [evOpG0_eq h s,evOpS_congr h s]
 cases evOp0 P ts o s <;> rfl
theorem nthD_setNth {α : Type} (d v : α) (l : List α) (i j : Nat) : nthD d (setNth v l i) j = if i = j ∧ i < l.length then v else nthD d l j:=by
 rw [nthD_eq,nthD_eq,setNth_eq,List.getElem?_set]
 by_cases e : i = j
 ·subst e
  rw [if_pos rfl]
  by_cases hl : i < l.length
  ·rw [if_pos hl,if_pos ⟨rfl,hl⟩]; rfl
  ·rw [if_neg hl,if_neg (fun q=>hl q.2),List.getElem?_eq_none (by omega)]
 ·rw [if_neg e,if_neg (fun q=>e q.1)]
structure Rel (N : Nat) (t : T3) (ts : List AV) : Prop where
 top : N ≤ 512
 len : ts.length = N
 get : ∀ i,i < N → t.get i = nthD undefA ts i
theorem Rel.sees {N : Nat} {t : T3} (h : Rel N t ts) {x : Operand} (hx : opndIn N x = true) : lookT t x = eval ts x:=by
 cases x with
 | tmp n=>simp only [opndIn,Nat.blt_eq] at hx; simp only [lookT,eval]; rw [h.get n hx]
 | _=>rfl
theorem Rel.set {N : Nat} {t : T3} (h : Rel N t ts) {d : Nat} (hd : d < N) (v : AV) : Rel N (t.set d v) (setNth v ts d):=by
 refine ⟨h.top,by rw [setNth_eq,List.length_set]; exact h.len,fun i hi=>?_⟩
 have:=h.top
 rw [T3.get_set _ _ _ _ (by omega) (by omega),nthD_setNth]
 by_cases e : d = i
 ·subst e; rw [if_pos rfl,if_pos ⟨rfl,by rw [h.len]; exact hd⟩]
 ·rw [if_neg e,if_neg (fun q=>e q.1),h.get i hi]
theorem Rel.put {N : Nat} {t : T3} (h : Rel N t ts) {o : Oper} (ho : operIn N o = true) (v : AV) : Rel N (putT t o.dst v) (put ts o.dst v):=by
 simp only [operIn,Bool.and_eq_true] at ho
 unfold putT Go.Ev.put
 cases hd : o.dst with
 | none=>exact h
 | some d=>rw [hd] at ho; simp only [Nat.blt_eq] at ho; exact h.set ho.1 v
theorem Rel.op {N : Nat} {t : T3} (h : Rel N t ts) {o : Oper} (ho : operIn N o = true) (s : St) : evOpG P (lookT t) o s = evOp P ts o s:=by
 simp only [operIn,Bool.and_eq_true,List.all_eq_true] at ho
 exact evOpG_eq (fun x hx=>h.sees (ho.2 x (by simpa using hx))) s
theorem Rel.op0 {N : Nat} {t : T3} (h : Rel N t ts) {o : Oper} (ho : operIn N o = true) (s : St) : evOpG0 P (lookT t) o s = evOp0 P ts o s:=by
 simp only [operIn,Bool.and_eq_true,List.all_eq_true] at ho
 exact evOpG0_eq (fun x hx=>h.sees (ho.2 x (by simpa using hx))) s
theorem Rel.wanted {N : Nat} {t : T3} (h : Rel N t ts) {ops : List Oper} (hops : ∀ o ∈ ops,operIn N o = true) (o : Oper) : wantedF ops o t = wantedA ops o ts:=by
 unfold wantedF wantedA
 cases hg : o.guard with
 | none=>rfl
 | some g =>
  obtain ⟨j,want⟩:=g
  simp only []
  cases hj : ops[j]? with
  | none=>rfl
  | some oj =>
   simp only [Option.bind_some]
   cases hd : oj.dst with
   | none=>rfl
   | some d =>
    have:=hops oj (List.mem_of_getElem? hj)
    simp only [operIn,hd,Bool.and_eq_true,Nat.blt_eq] at this
    have hl : d < ts.length:=by rw [h.len]; exact this.1
    simp only [h.get d this.1,nthD_eq,List.getElem?_eq_getElem hl,Option.getD_some]
    cases ts[d] <;> rfl
theorem Rel.toL {N : Nat} {t : T3} (h : Rel N t ts) : toL t N = ts:=by
 have aux : ∀ n i,toLFrom t i n = (List.range' i n).map t.get:=by
  intro n
  induction n with
  | zero=>intro i; rfl
  | succ n ih=>intro i; simp only [toLFrom,ih,List.range'_succ,List.map_cons]
 unfold Go.Ev.toL
 rw [aux]
 apply List.ext_getElem
 ·simp [h.len]
 ·intro i h1 h2
  simp only [List.getElem_map,List.getElem_range',Nat.zero_add,Nat.one_mul]
  rw [h.get i (by rw [← h.len]; exact h2),nthD_eq,List.getElem?_eq_getElem h2]; rfl
theorem Rel.ofL {N : Nat} {ts : List AV} (h : N ≤ 512) (hl : ts.length = N) : Rel N (ofL ts) ts:=⟨h,hl,fun i hi=>get_ofL ts i (by omega)⟩
def Sim (N : Nat) (r : Option (AExit × T3 × St)) (r' : Option (AExit × List AV × St)) : Prop:=
 ∀ e t s,r = some (e,t,s) → ∃ ts,Rel N t ts ∧ r' = some (e,ts,s)
structure SimAll (F : EvF) (E : Ev) : Prop where
 code : ∀ N c t ts s,codeIn N c = true → Rel N t ts → Sim N (F.code N c t s) (E.code c ts s)
 call : ∀ f args s r,F.call f args s = some r → E.call f args s = some r
 round : ∀ l args s r,F.round l args s = some r → E.round l args s = some r
variable {F : EvF} {E : Ev}
theorem oneF_sim (hs : SimAll F E) {N : Nat} {t : T3} (h : Rel N t ts) {o : Oper} (ho : operIn N o = true) {s : St} {r : AV × St} (hr : evOneF P F o t s = some r) : evOneV P E o ts s = some r:=by
 unfold evOneF at hr
 unfold evOneV
 rw [h.op ho] at hr
 split at hr
 ·rename_i v s' c e; rw [e]; exact hr
 ·rename_i f args e
  rw [e]
  simp only []
  split at hr
  ·rename_i v s' q e2; rw [hs.call _ _ _ _ e2]; exact hr
  ·cases hr
 ·rename_i l args e
  rw [e]
  simp only []
  split at hr
  ·rename_i b s' e2; rw [hs.round _ _ _ _ e2]; exact hr
  ·cases hr
 ·cases hr
theorem opsF_sim (hs : SimAll F E) {N : Nat} {ops : List Oper} (hops : ∀ o ∈ ops,operIn N o = true) : ∀ (rest : List Oper) (t : T3) (ts : List AV) (s : St) (t' : T3) (s' : St),
  (∀ o ∈ rest,operIn N o = true) → Rel N t ts → evOpsF P F ops rest t s = some (t',s') → ∃ ts',Rel N t' ts' ∧ evOps P E ops rest ts s = some (ts',s')
 | [],t,ts,s,t',s',_,h,hr=>by
  simp only [evOpsF,Option.some.injEq,Prod.mk.injEq] at hr
  obtain ⟨rfl,rfl⟩:=hr
  exact ⟨ts,h,rfl⟩
 | o :: rest,t,ts,s,t',s',hin,h,hr=>by
  have ho:=hin o (by simp)
  have hin' : ∀ o ∈ rest,operIn N o = true:=fun x hx=>hin x (by simp [hx])
  simp only [evOpsF] at hr
  simp only [evOps]
  rw [h.wanted hops o] at hr
  cases hw : wantedA ops o ts
  ·rw [hw] at hr
   simp only [Bool.false_eq_true,if_false]
   exact opsF_sim hs hops rest _ _ s t' s' hin' (h.put ho _) hr
  ·rw [hw] at hr
   simp only [if_true]
   simp only [] at hr
   split at hr
   ·rename_i v s1 e
    rw [oneF_sim hs h ho e]
    exact opsF_sim hs hops rest _ _ s1 t' s' hin' (h.put ho _) hr
   ·cases hr
theorem stepF_sim (hs : SimAll F E) {N : Nat} {t : T3} (h : Rel N t ts) {o : Oper} (ho : operIn N o = true) {s : St} {m h0 : Nat} {own : List Nat} {r : AV × St × Nat} (hr : stepF P F o t s m h0 own = some r) : stepN P E o ts s m h0 own = some r:=by
 unfold stepF at hr
 unfold stepN
 rw [h.op ho] at hr
 split at hr
 ·rename_i v s' c e
  rw [e]
  simp only []
  split at hr
  ·rename_i hp; rw [if_pos hp]; exact hr
  ·rename_i hp
   rw [if_neg hp]
   split at hr
   ·rename_i ha; rw [if_pos ha]; rw [h.op0 ho] at hr; exact hr
   ·rename_i ha
    rw [if_neg ha]
    split at hr
    ·rename_i ty x hop
     have hx : opndIn N x = true:=by
      simp only [operIn,Bool.and_eq_true,List.all_eq_true] at ho
      exact ho.2 x (by rw [hop]; simp [Op.operands])
     simp only [hop]
     rw [h.sees hx] at hr
     exact hr
    ·cases hr
 ·rename_i f args e
  rw [e]
  simp only []
  split at hr
  ·rename_i hck
   rw [if_pos hck]
   split at hr
   ·rename_i v s1 q e2; rw [hs.call _ _ _ _ e2]; exact hr
   ·cases hr
  ·cases hr
 ·cases hr
theorem blkF_sim {N : Nat} {t : T3} (h : Rel N t ts) {o : Oper} (ho : operIn N o = true) : blkF t o = blkOf ts o:=by
 have hx : ∀ x,x ∈ o.op.operands.toList → lookT t x = eval ts x:=fun x hx=>by
  simp only [operIn,Bool.and_eq_true,List.all_eq_true] at ho
  exact h.sees (ho.2 x hx)
 unfold blkF blkOf
 cases hop : o.op with
 | load ty x =>
  simp only []
  rw [hx x (by rw [hop]; simp [Op.operands])]
  rfl
 | store ty x y =>
  simp only []
  rw [hx x (by rw [hop]; simp [Op.operands])]
  rfl
 | _=>rfl
theorem addLateF_sim {N : Nat} {t : T3} (h : Rel N t ts) {o : Oper} (ho : operIn N o = true) (late : Bool) (lt : List Nat) : addLateF late t o lt = addLate late ts o lt:=by
 unfold addLateF addLate
 rw [blkF_sim h ho]
 cases late <;> cases isLoad o.op <;> rfl
theorem drawF_sim (hs : SimAll F E) {N : Nat} {ops : List Oper} (k h0 : Nat) (ms : List Nat) (hops : ∀ o ∈ ops,operIn N o = true) : ∀ (i : Nat) (rest : List Oper) (t : T3) (ts : List AV) (s : St) (own lt : List Nat) (wr : Option (Option Nat)) (t' : T3) (s' : St),
  (∀ o ∈ rest,operIn N o = true) → Rel N t ts → evDrawF P F ops k h0 ms i rest t s own lt wr = some (t',s') → ∃ ts',Rel N t' ts' ∧ evDraw P E ops k h0 ms i rest ts s own lt wr = some (ts',s')
 | _,[],t,ts,s,own,lt,wr,t',s',_,h,hr=>by
  simp only [evDrawF] at hr
  simp only [evDraw]
  split at hr
  ·rename_i hl
   rw [if_pos hl]
   simp only [Option.some.injEq,Prod.mk.injEq] at hr
   obtain ⟨rfl,rfl⟩:=hr
   exact ⟨ts,h,rfl⟩
  ·cases hr
 | i,o :: rest,t,ts,s,own,lt,wr,t',s',hin,h,hr=>by
  have ho:=hin o (by simp)
  have hin' : ∀ o ∈ rest,operIn N o = true:=fun x hx=>hin x (by simp [hx])
  simp only [evDrawF] at hr
  simp only [evDraw]
  rw [h.wanted hops o] at hr
  cases hw : wantedA ops o ts
  ·rw [hw] at hr
   simp only [Bool.false_eq_true,if_false]
   exact drawF_sim hs k h0 ms hops (i + 1) rest _ _ s own lt wr t' s' hin' (h.put ho _) hr
  ·rw [hw] at hr
   simp only [if_true]
   simp only [] at hr
   split at hr
   ·rename_i hik
    rw [if_pos hik]
    split at hr
    ·rename_i v s1 e
     rw [oneF_sim hs h ho e]
     rw [blkF_sim h ho] at hr
     exact drawF_sim hs k h0 ms hops (i + 1) rest _ _ s1 own lt _ t' s' hin' (h.put ho _) hr
    ·cases hr
   ·rename_i hik
    rw [if_neg hik]
    split at hr
    ·rename_i v s1 n e
     rw [stepF_sim hs h ho e]
     rw [addLateF_sim h ho] at hr
     exact drawF_sim hs k h0 ms hops (i + 1) rest _ _ s1 _ _ wr t' s' hin' (h.put ho _) hr
    ·cases hr
theorem effF_sim {N : Nat} {t : T3} (h : Rel N t ts) {o : Oper} (ho : operIn N o = true) (q : Bool) : effF t o q = effOf ts o q:=by
 have hx : ∀ x,x ∈ o.op.operands.toList → lookT t x = eval ts x:=fun x hx=>by
  simp only [operIn,Bool.and_eq_true,List.all_eq_true] at ho
  exact h.sees (ho.2 x hx)
 unfold effF effOf
 cases ha : alS o.op
 ·simp only [Bool.false_eq_true,if_false]
  cases hop : o.op with
  | store ty x y =>
   simp only []
   rw [hx x (by rw [hop]; simp [Op.operands])]
   rfl
  | call c =>
   simp only []
   cases hi : isApp (.call c) with
   | none=>rfl
   | some x =>
    simp only []
    rw [hx x (by
     rw [hop]
     unfold isApp at hi
     simp only [] at hi
     split at hi
     ·rename_i y l hb hl
      simp only [Option.some.injEq] at hi
      subst hi
      have : y ∈ c.args:=by rw [← Array.mem_toList_iff,hl]; simp
      simp [Op.operands,Call.operands,this]
     ·cases hi)]
  | _=>rfl
 ·rfl
theorem oneQF_sim (hs : SimAll F E) {N : Nat} {t : T3} (h : Rel N t ts) {o : Oper} (ho : operIn N o = true) {s : St} {r : AV × St × Bool} (hr : evOneQF P F o t s = some r) : evOneQ P E o ts s = some r:=by
 unfold evOneQF at hr
 unfold evOneQ
 rw [h.op ho] at hr
 split at hr
 ·rename_i e; rw [e]; exact hr
 ·rename_i e
  rw [e]
  simp only []
  split at hr
  ·rename_i e2; rw [hs.call _ _ _ _ e2]; exact hr
  ·cases hr
 ·rename_i e
  rw [e]
  simp only []
  split at hr
  ·rename_i e2; rw [hs.round _ _ _ _ e2]; exact hr
  ·cases hr
 ·cases hr
theorem chainF_sim (hs : SimAll F E) {N : Nat} {ops : List Oper} (ms : List Nat) (hops : ∀ o ∈ ops,operIn N o = true) : ∀ (i : Nat) (rest : List Oper) (t : T3) (ts : List AV) (s : St) (lds : List (Nat × Nat)) (mo : List (Nat × Eff × Nat)) (t' : T3) (s' : St),
  (∀ o ∈ rest,operIn N o = true) → Rel N t ts → evChainF P F ops ms i rest t s lds mo = some (t',s') → ∃ ts',Rel N t' ts' ∧ evChain P E ops ms i rest ts s lds mo = some (ts',s')
 | _,[],t,ts,s,lds,mo,t',s',_,h,hr=>by
  simp only [evChainF,Option.some.injEq,Prod.mk.injEq] at hr
  obtain ⟨rfl,rfl⟩:=hr
  exact ⟨ts,h,rfl⟩
 | i, o :: rest,t,ts,s,lds,mo,t',s',hin,h,hr=>by
  have ho:=hin o (by simp)
  have hin' : ∀ o ∈ rest,operIn N o = true:=fun x hx=>hin x (by simp [hx])
  simp only [evChainF] at hr
  simp only [evChain]
  rw [h.wanted hops o] at hr
  cases hw : wantedA ops o ts
  ·rw [hw] at hr
   simp only [Bool.false_eq_true,if_false]
   exact chainF_sim hs ms hops (i + 1) rest _ _ s lds mo t' s' hin' (h.put ho _) hr
  ·rw [hw] at hr
   simp only [if_true]
   simp only [] at hr
   cases hp : pureS o.op
   ·rw [hp] at hr
    simp only [Bool.false_eq_true,if_false]
    simp only [] at hr
    cases hl : isLoad o.op
    ·rw [hl] at hr
     simp only [Bool.false_eq_true,if_false]
     simp only [] at hr
     split at hr
     ·rename_i v s1 q e
      rw [oneQF_sim hs h ho e]
      rw [effF_sim h ho] at hr
      simp only []
      split at hr
      ·rename_i hall
       rw [if_pos hall]
       exact chainF_sim hs ms hops (i + 1) rest _ _ s1 lds _ t' s' hin' (h.put ho _) hr
      ·cases hr
     ·cases hr
    ·rw [hl] at hr
     simp only [if_true]
     simp only [] at hr
     rw [h.op ho,blkF_sim h ho] at hr
     split at hr
     ·rename_i v s1 c e
      rw [e]
      simp only []
      split at hr
      ·rename_i b hb
       rw [hb]
       simp only []
       split at hr
       ·rename_i hall
        rw [if_pos hall]
        exact chainF_sim hs ms hops (i + 1) rest _ _ s _ mo t' s' hin' (h.put ho _) hr
       ·cases hr
      ·cases hr
     ·cases hr
   ·rw [hp] at hr
    simp only [if_true]
    simp only [] at hr
    rw [h.op ho] at hr
    split at hr
    ·rename_i v s1 e
     rw [e]
     exact chainF_sim hs ms hops (i + 1) rest _ _ s lds mo t' s' hin' (h.put ho _) hr
    ·cases hr
theorem floatF_sim (hs : SimAll F E) {N : Nat} {ops : List Oper} (ms : List Nat) (h0 h1 : Nat) (hops : ∀ o ∈ ops,operIn N o = true) : ∀ (i c : Nat) (rest : List Oper) (t : T3) (ts : List AV) (s : St) (lds : List (Nat × Nat)) (mo : List (Nat × Eff × Nat)) (t' : T3) (s' : St),
  (∀ o ∈ rest,operIn N o = true) → Rel N t ts → evFloatF P F ops ms h0 h1 i c rest t s lds mo = some (t',s') → ∃ ts',Rel N t' ts' ∧ evFloat P E ops ms h0 h1 i c rest ts s lds mo = some (ts',s')
 | _,_,[],t,ts,s,lds,mo,t',s',_,h,hr=>by
  simp only [evFloatF,Option.some.injEq,Prod.mk.injEq] at hr
  obtain ⟨rfl,rfl⟩:=hr
  exact ⟨ts,h,rfl⟩
 | i, c,o :: rest,t,ts,s,lds,mo,t',s',hin,h,hr=>by
  have ho:=hin o (by simp)
  have hin' : ∀ o ∈ rest,operIn N o = true:=fun x hx=>hin x (by simp [hx])
  simp only [evFloatF] at hr
  simp only [evFloat]
  rw [h.wanted hops o] at hr
  cases hw : wantedA ops o ts
  ·rw [hw] at hr
   simp only [Bool.false_eq_true,if_false]
   simp only [] at hr
   split at hr
   ·rename_i ha
    rw [if_pos ha]
    split at hr
    ·rename_i hb
     rw [if_pos hb]
     exact floatF_sim hs ms h0 h1 hops (i + 1) (c + 1) rest _ _ s lds mo t' s' hin' (h.put ho _) hr
    ·cases hr
   ·rename_i ha
    rw [if_neg ha]
    exact floatF_sim hs ms h0 h1 hops (i + 1) c rest _ _ s lds mo t' s' hin' (h.put ho _) hr
  ·rw [hw] at hr
   simp only [if_true]
   simp only [] at hr
   cases hp : pureS o.op
   ·rw [hp] at hr
    simp only [Bool.false_eq_true,if_false]
    simp only [] at hr
    cases hl : isLoad o.op
    ·rw [hl] at hr
     simp only [Bool.false_eq_true,if_false]
     simp only [] at hr
     cases ha : alS o.op
     ·rw [ha] at hr
      simp only [Bool.false_eq_true,if_false]
      simp only [] at hr
      split at hr
      ·rename_i v s1 q e
       rw [oneQF_sim hs h ho e]
       rw [effF_sim h ho] at hr
       simp only []
       split at hr
       ·rename_i hall
        rw [if_pos hall]
        exact floatF_sim hs ms h0 h1 hops (i + 1) c rest _ _ s1 lds _ t' s' hin' (h.put ho _) hr
       ·cases hr
      ·cases hr
     ·rw [ha] at hr
      simp only [if_true]
      simp only [] at hr
      rw [h.op0 ho] at hr
      split at hr
      ·rename_i v A e
       rw [e]
       simp only []
       split at hr
       ·rename_i hb
        rw [if_pos hb]
        exact floatF_sim hs ms h0 h1 hops (i + 1) (c + 1) rest _ _ _ lds mo t' s' hin' (h.put ho _) hr
       ·cases hr
      ·cases hr
    ·rw [hl] at hr
     simp only [if_true]
     simp only [] at hr
     rw [h.op ho,blkF_sim h ho] at hr
     split at hr
     ·rename_i v s1 c0 e
      rw [e]
      simp only []
      split at hr
      ·rename_i b hb
       rw [hb]
       simp only []
       split at hr
       ·rename_i hall
        rw [if_pos hall]
        exact floatF_sim hs ms h0 h1 hops (i + 1) c rest _ _ s _ mo t' s' hin' (h.put ho _) hr
       ·cases hr
      ·cases hr
     ·cases hr
   ·rw [hp] at hr
    simp only [if_true]
    simp only [] at hr
    rw [h.op ho] at hr
    split at hr
    ·rename_i v s1 e
     rw [e]
     exact floatF_sim hs ms h0 h1 hops (i + 1) c rest _ _ s lds mo t' s' hin' (h.put ho _) hr
    ·cases hr
theorem codeF_sim (hs : SimAll F E) {N : Nat} {c : Code} {t : T3} {ts : List AV} {s : St} (hc : codeIn N c = true) (h : Rel N t ts) : Sim N (evCodeF P F N c t s) (evCode P E c ts s):=by
 intro e t' s' hr
 cases c with
 | skip=>simp only [evCodeF,Option.some.injEq,Prod.mk.injEq] at hr; obtain ⟨rfl,rfl,rfl⟩:=hr; exact ⟨ts,h,rfl⟩
 | label l=>simp only [evCodeF,Option.some.injEq,Prod.mk.injEq] at hr; obtain ⟨rfl,rfl,rfl⟩:=hr; exact ⟨ts,h,rfl⟩
 | exit l=>simp only [evCodeF,Option.some.injEq,Prod.mk.injEq] at hr; obtain ⟨rfl,rfl,rfl⟩:=hr; exact ⟨ts,h,rfl⟩
 | ret=>simp only [evCodeF,Option.some.injEq,Prod.mk.injEq] at hr; obtain ⟨rfl,rfl,rfl⟩:=hr; exact ⟨ts,h,rfl⟩
 | region id ops draw =>
  simp only [codeIn,List.all_eq_true] at hc
  cases draw with
  | false =>
   simp only [evCodeF,fRegion] at hr
   simp only [evCode]
   split at hr
   ·rename_i t1 s1 e1
    simp only [Option.some.injEq,Prod.mk.injEq] at hr
    obtain ⟨rfl,rfl,rfl⟩:=hr
    obtain ⟨ts1,h1,e2⟩:=opsF_sim hs hc _ _ _ _ _ _ hc h e1
    exact ⟨ts1,h1,by rw [e2]⟩
   ·cases hr
  | true =>
   simp only [evCodeF,fDraw] at hr
   simp only [evCode]
   split at hr
   ·rename_i hu
    rw [if_pos hu]
    split at hr
    ·rename_i t1 s1 e1
     simp only [Option.some.injEq,Prod.mk.injEq] at hr
     obtain ⟨rfl,rfl,rfl⟩:=hr
     obtain ⟨ts1,h1,e2⟩:=chainF_sim hs _ hc _ _ _ _ _ _ _ _ _ hc h e1
     exact ⟨ts1,h1,by rw [e2]⟩
    ·cases hr
   ·rename_i hu
    rw [if_neg hu]
    split at hr
    ·rename_i hd
     rw [if_pos hd]
     split at hr
     ·rename_i t1 s1 e1
      simp only [Option.some.injEq,Prod.mk.injEq] at hr
      obtain ⟨rfl,rfl,rfl⟩:=hr
      obtain ⟨ts1,h1,e2⟩:=drawF_sim hs _ _ _ hc _ _ _ _ _ _ _ _ _ _ hc h e1
      exact ⟨ts1,h1,by rw [e2]⟩
     ·cases hr
    ·rename_i hd
     rw [if_neg hd]
     split at hr
     ·rename_i hf
      rw [if_pos hf]
      split at hr
      ·rename_i t1 s1 e1
       simp only [Option.some.injEq,Prod.mk.injEq] at hr
       obtain ⟨rfl,rfl,rfl⟩:=hr
       obtain ⟨ts1,h1,e2⟩:=floatF_sim hs _ _ _ hc _ _ _ _ _ _ _ _ _ _ hc h e1
       exact ⟨ts1,h1,by rw [e2]⟩
      ·cases hr
     ·cases hr
 | seq a b =>
  simp only [codeIn,Bool.and_eq_true] at hc
  simp only [evCodeF,fSeq] at hr
  simp only [evCode]
  split at hr
  ·rename_i r t1 s1 e1
   obtain ⟨ts1,h1,e2⟩:=hs.code N a t ts s hc.1 h _ _ _ e1
   rw [e2]
   exact hs.code N b t1 ts1 s1 hc.2 h1 _ _ _ hr
  ·rename_i hn
   obtain ⟨ts1,h1,e2⟩:=hs.code N a t ts s hc.1 h _ _ _ hr
   refine ⟨ts1,h1,?_⟩
   rw [e2]
   cases e <;> first | rfl | (exact absurd hr (hn _ _))
 | cond c x y =>
  simp only [codeIn,Bool.and_eq_true] at hc
  simp only [evCodeF,fCond] at hr
  simp only [evCode]
  rw [h.sees hc.1] at hr
  split at hr
  ·rename_i b e1
   rw [e1]
   cases b
   ·exact hs.code N y t ts s hc.2.2 h _ _ _ hr
   ·exact hs.code N x t ts s hc.2.1 h _ _ _ hr
  ·cases hr
 | block id body =>
  simp only [codeIn] at hc
  simp only [evCodeF,fBlock] at hr
  simp only [evCode]
  split at hr
  ·rename_i r id' t1 s1 e1
   obtain ⟨ts1,h1,e2⟩:=hs.code N body t ts s hc h _ _ _ e1
   rw [e2]
   simp only []
   split at hr
   ·rename_i hi
    simp only [Option.some.injEq,Prod.mk.injEq] at hr
    obtain ⟨rfl,rfl,rfl⟩:=hr
    exact ⟨ts1,h1,by rw [if_pos hi]⟩
   ·rename_i hi
    simp only [Option.some.injEq,Prod.mk.injEq] at hr
    obtain ⟨rfl,rfl,rfl⟩:=hr
    exact ⟨ts1,h1,by rw [if_neg hi]⟩
  ·rename_i hn
   obtain ⟨ts1,h1,e2⟩:=hs.code N body t ts s hc h _ _ _ hr
   refine ⟨ts1,h1,?_⟩
   rw [e2]
   cases e <;> first | rfl | (exact absurd hr (hn _ _ _))
 | loop body =>
  simp only [codeIn] at hc
  simp only [evCodeF,fSeq] at hr
  simp only [evCode]
  split at hr
  ·rename_i r t1 s1 e1
   obtain ⟨ts1,h1,e2⟩:=hs.code N body t ts s hc h _ _ _ e1
   rw [e2]
   exact hs.code N (.loop body) t1 ts1 s1 (by simpa only [codeIn] using hc) h1 _ _ _ hr
  ·rename_i hn
   obtain ⟨ts1,h1,e2⟩:=hs.code N body t ts s hc h _ _ _ hr
   refine ⟨ts1,h1,?_⟩
   rw [e2]
   cases e <;> first | rfl | (exact absurd hr (hn _ _))
 | rangeFunc f ps assign body =>
  simp only [codeIn,Bool.and_eq_true] at hc
  simp only [evCodeF,fRange] at hr
  simp only [evCode]
  rw [h.sees hc.1,h.toL] at hr
  split at hr
  ·rename_i g l1 l2 e1
   rw [e1]
   simp only []
   split at hr
   ·rename_i v s1 q e2
    rw [hs.call _ _ _ _ e2]
    simp only []
    split at hr
    ·rename_i e3
     simp only [Option.some.injEq,Prod.mk.injEq] at hr
     obtain ⟨rfl,rfl,rfl⟩:=hr
     exact ⟨ts,h,by rw [e3]⟩
    ·rename_i e3
     simp only [Option.some.injEq,Prod.mk.injEq] at hr
     obtain ⟨rfl,rfl,rfl⟩:=hr
     exact ⟨ts,h,by rw [e3]⟩
    ·rename_i e3
     simp only [Option.some.injEq,Prod.mk.injEq] at hr
     obtain ⟨rfl,rfl,rfl⟩:=hr
     exact ⟨ts,h,by rw [e3]⟩
    ·cases hr
   ·cases hr
  ·cases hr
 | _=>cases hr
theorem results_sim {N : Nat} {t : T3} (h : Rel N t ts) {fn : Func} (hf : fn.results.toList.all (resIn N) = true) (s : St) : resultsF P fn t s = resultsA P fn ts s:=by
 have aux : ∀ l : List ResultVar,l.all (resIn N) = true → optMap (resultF P t s) l = optMap (resultA P ts s) l:=by
  intro l
  induction l with
  | nil=>intro _; rfl
  | cons r l ih =>
   intro hl
   simp only [List.all_cons,Bool.and_eq_true] at hl
   have e1 : resultF P t s r = resultA P ts s r:=by
    cases r with
    | tmp n=>have:=hl.1; simp only [resIn,Nat.blt_eq] at this; simp only [resultF,resultA,h.get n this]
    | cell a ty=>have:=hl.1; simp only [resIn,Nat.blt_eq] at this; simp only [resultF,resultA,h.get a this]; rfl
   simp only [optMap,e1,ih hl.2]
 unfold resultsF resultsA
 rw [aux _ hf]
 rfl
theorem end_sim {N : Nat} {t : T3} (h : Rel N t ts) {fn : Func} (hf : fn.results.toList.all (resIn N) = true) {s s1 : St} : fEnd P s fn t s1 = (match resultsA P fn ts s1 with
    | some v =>
     if s.heap.length ≤ s1.lo && s1.nd == s.nd && v.flat then some (v,s,true)
     else some (v,{ s1 with lo:=min s.lo s1.lo },false)
    | none=>none):=by
 unfold fEnd
 rw [results_sim h hf]
 rfl
theorem callF_sim (hs : SimAll F E) {f : FuncId} {args : List AV} {s : St} {r : AV × St × Bool} (hr : evCallF P F f args s = some r) : evCall P E f args s = some r:=by
 unfold evCallF at hr
 unfold evCall
 split at hr
 ·cases hr
 ·rename_i fn e1
  rw [e1]
  simp only []
  split at hr
  ·cases hr
  ·rename_i c e2
   rw [e2]
   simp only []
   split at hr
   ·rename_i hc
    simp only [Bool.and_eq_true,funcIn,Nat.ble_eq] at hc
    unfold fLeave at hr
    have hR : Rel fn.ntmps (ofL (args ++ List.replicate (fn.ntmps - args.length) undefA)) (args ++ List.replicate (fn.ntmps - args.length) undefA):=
     Rel.ofL hc.1.1 (by simp; omega)
    split at hr
    ·rename_i t s1 e3
     obtain ⟨ts1,h1,e4⟩:=hs.code _ _ _ _ _ hc.1.2.1 hR _ _ _ e3
     rw [e4]
     rw [end_sim h1 hc.1.2.2] at hr
     exact hr
    ·rename_i t s1 e3
     obtain ⟨ts1,h1,e4⟩:=hs.code _ _ _ _ _ hc.1.2.1 hR _ _ _ e3
     rw [e4]
     rw [end_sim h1 hc.1.2.2] at hr
     exact hr
    ·cases hr
   ·cases hr
theorem callOF_sim (orc : Orc) (hs : SimAll F E) {f : FuncId} {args : List AV} {s : St} {r : AV × St × Bool} (hr : evCallOF P F orc f args s = some r) : evCallO P orc E f args s = some r:=by
 unfold evCallOF at hr
 unfold evCallO
 split at hr
 ·rename_i v e; rw [e]; exact hr
 ·rename_i e; rw [e]; exact callF_sim hs hr
theorem putParams_len : ∀ (ps : List Tmp) (ts : List AV) (vs : List AV),(putParams ts ps vs).length = ts.length
 | [],_,_=>by simp only [putParams]
 | _ :: _,_,[]=>by simp only [putParams]
 | p :: ps,ts,v :: vs=>by simp only [putParams]; rw [putParams_len ps,setNth_eq,List.length_set]
theorem roundF_sim (hs : SimAll F E) {l : Nat} {args : List AV} {s : St} {r : Bool × St} (hr : evRoundF F l args s = some r) : evRound E l args s = some r:=by
 unfold evRoundF at hr
 unfold evRound
 split at hr
 ·rename_i tmps params assign body e1
  rw [e1]
  simp only [forceNat_eq] at hr
  simp only []
  split at hr
  ·rename_i hc
   simp only [Bool.and_eq_true,decide_eq_true_eq,Nat.ble_eq] at hc
   rw [if_pos hc.1]
   have hR : Rel tmps.length (ofL (putParams tmps params args)) (putParams tmps params args):=Rel.ofL hc.2.1 (putParams_len _ _ _)
   split at hr
   ·rename_i t1 s1 e2
    obtain ⟨ts1,h1,e3⟩:=hs.code _ _ _ _ _ hc.2.2.1 hR _ _ _ e2
    rw [e3]
    simp only []
    split at hr
    ·rename_i e4
     rw [e4]
     simp only []
     split at hr
     ·rename_i e t2 s2 e5
      obtain ⟨ts2,h2,e6⟩:=hs.code _ _ _ _ _ hc.2.2.2 h1 _ _ _ e5
      rw [e6]
      exact hr
     ·cases hr
    ·cases hr
   ·cases hr
  ·cases hr
 ·cases hr
theorem evF_sim (P : Program) (orc : Orc) : ∀ n,SimAll (evF P orc n) (ev P orc n)
 | 0 => { code:=fun _ _ _ _ _ _ _ _ _ _ h=>by cases h
          call:=fun _ _ _ _ h=>by cases h
          round:=fun _ _ _ _ h=>by cases h }
 | n + 1=>⟨fun _ _ _ _ _ hc h=>codeF_sim (evF_sim P orc n) hc h,fun _ _ _ _ h=>callOF_sim orc (evF_sim P orc n) h,fun _ _ _ _ h=>roundF_sim (evF_sim P orc n) h⟩
end Go.Ev
