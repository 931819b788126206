/- Operations. -/
import Derived.Test.YtllecfhfhcmpaaaEvE
import Derived.Laws.StructEq
namespace Go.Ev
open Go.RowKit (Below)
set_option linter.unusedSectionVars false
variable [Rho]
variable {P : Program} {B : Nat} {π : Inj} {lm : List Nat} {s : St} {w : World} {ts : List AV} {a : Act}
theorem VR.undef : VR π lm undefA undef:=.tup rfl (fun i p=>by simp at p)
theorem eval_rel {x : Operand} {v : AV} (h : eval ts x = some v) (r : LR π lm ts a.tmps.toList) : VR π lm v (a.eval x):=by
 cases x with
 | tmp t =>
  simp only [eval,nthD_eq,Option.some.injEq] at h
  subst h
  simp only [Act.eval,Array.getD_eq_getD_getElem?]
  cases ht : ts[t]? with
  | none =>
   have:=r.none ht
   rw [Array.getElem?_toList] at this
   rw [this]; exact .undef
  | some v =>
   obtain ⟨c,hc,hv⟩:=r.get ht
   rw [Array.getElem?_toList] at hc
   rw [hc]; exact hv
 | const v=>exact ofV_rel h
 | global g=>cases h
 | func f =>
  simp only [eval,Option.some.injEq] at h
  subst h
  exact .fn f rfl (fun i p=>by simp at p) rfl (fun i p=>by simp at p)
theorem evals_rel {xs : List Operand} {vs : List AV} (h : evals ts xs = some vs) (r : LR π lm ts a.tmps.toList) : LR π lm vs (xs.map a.eval):=by
 induction xs generalizing vs with
 | nil=>simp [evals] at h; subst h; exact .nil
 | cons x xs ih =>
  simp only [evals] at h
  split at h
  ·rename_i v us hv hus
   simp at h; subst h
   exact LR.cons (eval_rel hv r) (ih hus)
  ·cases h
theorem put_rel {dst : Option Tmp} {v : AV} {c : Value} (r : LR π lm ts a.tmps.toList) (hv : VR π lm v c) : LR π lm (put ts dst v) (a.put dst c).tmps.toList:=by
 cases dst with
 | none=>exact r
 | some d =>
  simp only [put,Act.put,setNth_eq,Array.toList_setIfInBounds]
  exact r.set d hv
theorem runPure_run {α : Type} {m : Sem α} {x : α} (h : runPure P m = some x) (w : World) : m.run P w = .ok x w:=by
 induction m with
 | pure a=>simp [runPure] at h; subst h; rfl
 | program k ih=>exact ih P h
 | _=>cases h
theorem pureOp_rel {o : Oper} {v : AV} (h : pureOp P ts o = some v) (r : LR π lm ts a.tmps.toList) (w : World) :
  ∃ c,(execOp a.eval o).run P w = .ok (.value c) w ∧ VR π lm v c:=by
 unfold pureOp at h
 split at h
 ·rename_i hc
  simp only [Bool.and_eq_true,List.all_eq_true] at hc
  split at h
  ·rename_i c hr
   refine ⟨c,?_,ofV_rel h⟩
   rw [← runPure_run hr w]
   congr 1
   refine execOp_congr o ?_ ?_
   ·intro cs b e; rw [e] at hc; simp [plainOp] at hc
   ·intro x hx
    obtain ⟨u,hu⟩:=Option.isSome_iff_exists.1 (hc.1 x (by simpa using hx))
    rw [hu]
    obtain ⟨v',hv',hu'⟩:=Option.bind_eq_some_iff.1 hu
    exact AV.toV_rel hu' (eval_rel hv' r)
  ·cases h
 ·cases h
def OpOk (P : Program) (B : Nat) (π : Inj) (lm : List Nat) (s : St) (w : World) (o : Oper) (a : Act) (v : AV) (s' : St) : Prop:=
 ∃ nx c w' π',(execOp a.eval o).run P w = .ok nx w' ∧ (nx = .value c ∨ (nx = .skip ∧ c = undef)) ∧ VR π' lm v c ∧ WR B π' lm s' w' ∧ Tr π π' lm lm s s' w w'
theorem OpOk.still {o : Oper} {v : AV} {c : Value} (hw : WR B π lm s w) (hr : (execOp a.eval o).run P w = .ok (.value c) w) (hv : VR π lm v c) : OpOk P B π lm s w o a v s:=
 ⟨_,c,w,π,hr,.inl rfl,hv,hw,Tr.refl _ _ _ hw.dom⟩
theorem op_pure {o : Oper} {v : AV} (hw : WR B π lm s w) (h : pureOp P ts o = some v) (r : LR π lm ts a.tmps.toList) : OpOk P B π lm s w o a v s:=by
 obtain ⟨c,h1,h2⟩:=pureOp_rel h r w
 exact .still hw h1 h2
theorem intBin_rel {op : BinOp} {k : IntKind} {x y : Int} {v : AV} (h : intBin op k x y = some v) (t : TypeId) (w : World) :
  ∃ c,(binOp op t (.int k x) (.int k y)).run P w = .ok c w ∧ VR π lm v c:=by
 cases op <;> simp only [intBin,Option.some.injEq,reduceCtorEq] at h <;>
  first
  | (subst h; exact ⟨_,by simp [binOp,Op.intArith,Op.intCmp]; rfl,by constructor⟩)
  | (split at h
     ·cases h
     ·rename_i hne
      simp only [Option.some.injEq] at h
      subst h
      exact ⟨_,by simp [binOp,Op.intDiv,hne]; rfl,by constructor⟩)
theorem eqGuard_int (op : BinOp) (t : TypeId) (x y : Operand) (k k' : IntKind) (m n : Int) (w : World) : (eqGuard op t x y (.int k m) (.int k' n)).run P w = .ok () w:=by
 unfold eqGuard
 simp only [Sem.run_ite]
 split <;> simp
theorem op_bin {o : Oper} {op : BinOp} {xt yt : TypeId} {x y : Operand} {v : AV} (ho : o.op = .binOp op xt x y yt) (hw : WR B π lm s w) (h : binA P ts o op x y = some v)
  (r : LR π lm ts a.tmps.toList) : OpOk P B π lm s w o a v s:=by
 unfold binA at h
 split at h
 ·rename_i k m k' n hx hy
  split at h
  ·rename_i hk
   subst hk
   split at h
   ·rename_i v' hv'
    simp at h; subst h
    have ex:=eval_rel hx r
    have ey:=eval_rel hy r
    generalize hcx : a.eval x = cx at ex
    generalize hcy : a.eval y = cy at ey
    cases ex; cases ey
    obtain ⟨c,h1,h2⟩:=intBin_rel (P:=P) (π:=π) (lm:=lm) hv' xt w
    refine .still hw (c:=c) ?_ h2
    simp [execOp,ho,hcx,hcy,eqGuard_int,h1]
   ·exact op_pure hw h r
  ·exact op_pure hw h r
 ·exact op_pure hw h r
theorem symCmp_ok {op : BinOp} {l1 h1 l2 h2 x y : Int} {b : Bool} (h : symCmp op l1 h1 l2 h2 = some b) (a1 : l1 ≤ x) (a2 : x ≤ h1) (b1 : l2 ≤ y) (b2 : y ≤ h2) (k : IntKind) (X Y : Int) (e : Y - X = y - x) :
  intBin op k X Y = some (.bool b):=by
 cases op <;> simp only [symCmp,reduceCtorEq] at h <;> simp only [intBin,Option.some.injEq,AV.bool.injEq] <;> (repeat' split at h) <;>
  simp only [Option.some.injEq,reduceCtorEq] at h <;> subst h <;>
  simp only [beq_eq_false_iff_ne,bne_iff_ne,beq_iff_eq,bne_eq_false_iff_eq,decide_eq_true_eq,decide_eq_false_iff_not,ne_eq] <;> omega
theorem cmpI_int {op : BinOp} {x y : Int} {b : Bool} (h : cmpI op x y = some b) (k : IntKind) : intBin op k x y = some (.bool b):=by
 cases op <;> simp only [cmpI,Option.some.injEq,reduceCtorEq] at h <;> subst h <;> rfl
theorem symCmp_I {op : BinOp} {l1 h1 l2 h2 x y : Int} {b : Bool} (h : symCmp op l1 h1 l2 h2 = some b) (a1 : l1 ≤ x) (a2 : x ≤ h1) (b1 : l2 ≤ y) (b2 : y ≤ h2) (X Y : Int) (e : Y - X = y - x) :
  cmpI op X Y = some b:=by
 have:=symCmp_ok h a1 a2 b1 b2 .i64 X Y e
 cases op <;> simp only [intBin,Option.some.injEq,AV.bool.injEq,reduceCtorEq,symCmp] at this h <;> (try (subst this; rfl)) <;> (split at this <;> cases this)
section
variable [Know] [KnowOk]
theorem cmpX_ok {op : BinOp} {a b : SX} {r : Bool} (h : cmpX op a b = some r) (ha : a.ok) (hb : b.ok) : cmpI op a.eval b.eval = some r:=by
 unfold cmpX at h
 split at h
 ·rename_i r' h1
  simp only [Option.some.injEq] at h; subst h
  split at h1
  ·rename_i l hh he
   have:=SX.less_ok hb he
   exact symCmp_I h1 (Int.le_refl _) (Int.le_refl _) this.1 this.2 _ _ (by omega)
  ·cases h1
 ·split at h
  ·rename_i r' h1
   simp only [Option.some.injEq] at h; subst h
   split at h1
   ·rename_i l hh he
    have:=SX.less_ok ha he
    exact symCmp_I h1 this.1 this.2 (Int.le_refl _) (Int.le_refl _) _ _ (by omega)
   ·cases h1
  ·split at h
   ·rename_i r' h1
    simp only [Option.some.injEq] at h; subst h
    split at h1
    ·rename_i l1 h1' l2 h2' e1 e2
     have k1:=SX.rng_ok e1 ha
     have k2:=SX.rng_ok e2 hb
     exact symCmp_I h1 k1.1 k1.2 k2.1 k2.2 _ _ rfl
    ·cases h1
   ·exact KnowOk.cmp h ha hb
theorem leX_ok {a b : SX} (h : leX a b = true) (ha : a.ok) (hb : b.ok) : a.eval ≤ b.eval:=by
 unfold leX at h
 split at h
 ·rename_i e
  have:=cmpX_ok e ha hb
  simpa [cmpI] using this
 ·cases h
theorem ltX_ok {a b : SX} (h : ltX a b = true) (ha : a.ok) (hb : b.ok) : a.eval < b.eval:=by
 unfold ltX at h
 split at h
 ·rename_i e
  have:=cmpX_ok e ha hb
  simpa [cmpI] using this
 ·cases h
end
theorem symBin0_ok {op : BinOp} {x y v : AV} {cx cy : Value} (h : symBin0 op x y = some v) (hx : VR π lm x cx) (hy : VR π lm y cy) :
  ∃ k n m u,cx = .int k n ∧ cy = .int k m ∧ intBin op k n m = some u ∧ ∀ c,VR π lm u c → VR π lm v c:=by
 unfold symBin0 at h
 split at h
 ·rename_i k e1 l1 h1 k' e2 l2 h2 s1 s2
  split at h
  ·rename_i hk
   subst hk
   obtain ⟨a0,a1,a2,rfl⟩:=symA_rel s1 hx
   obtain ⟨b0,b1,b2,rfl⟩:=symA_rel s2 hy
   split at h
   ·rename_i so hso
    split at h
    ·rename_i e l hh hop
     split at h
     ·rename_i hkin
      simp only [Option.some.injEq] at h
      subst h
      obtain ⟨m0,m1,m2,m3⟩:=symOp_ok hop a0 a1 a2 b0 b1 b2
      have hne : (op = .quo ∨ op = .rem) → e2.eval ≠ 0:=fun ho=>symOp_ne hop b1 (by
       rcases ho with rfl | rfl <;> simp only [sopOf,Option.some.injEq] at hso
       ·exact .inl hso.symm
       ·exact .inr hso.symm)
      refine ⟨k,e1.eval,e2.eval,.int k e.eval,rfl,rfl,?_,fun c hc=>by cases hc; exact mkA_rel m0 m1 m2⟩
      have hw:=kin_ok hkin m1 m2
      cases op <;> simp only [sopOf,Option.some.injEq,reduceCtorEq] at hso <;> subst hso <;> simp only [SOp.app] at m3 <;> simp only [intBin]
      ·rw [← m3,hw]
      ·rw [← m3,hw]
      ·rw [← m3,hw]
      ·rw [if_neg (hne (.inl rfl)),← m3,hw]
      ·rw [if_neg (hne (.inr rfl)),← m3]
     ·cases h
    ·cases h
   ·have fin : ∀ b,v = .bool b → intBin op k e1.eval e2.eval = some (.bool b) → ∃ k' n m u,Value.int k e1.eval = .int k' n ∧ Value.int k e2.eval = .int k' m ∧ intBin op k' n m = some u ∧ ∀ c,VR π lm u c → VR π lm v c:=fun b hv hb =>
     ⟨k,e1.eval,e2.eval,.bool b,rfl,rfl,hb,fun c hc=>by rw [hv]; exact hc⟩
    split at h
    ·rename_i l hh he
     simp only [Option.map_eq_some_iff] at h
     obtain ⟨b,hb,rfl⟩:=h
     have:=SX.less_ok b0 he
     exact fin b rfl (symCmp_ok hb (Int.le_refl _) (Int.le_refl _) this.1 this.2 k _ _ (by omega))
    ·split at h
     ·rename_i l hh he
      simp only [Option.map_eq_some_iff] at h
      obtain ⟨b,hb,rfl⟩:=h
      have:=SX.less_ok a0 he
      exact fin b rfl (symCmp_ok hb this.1 this.2 (Int.le_refl _) (Int.le_refl _) k _ _ (by omega))
     ·simp only [Option.map_eq_some_iff] at h
      obtain ⟨b,hb,rfl⟩:=h
      exact fin b rfl (symCmp_ok hb a1 a2 b1 b2 k _ _ rfl)
  ·cases h
 ·cases h
section
variable [Know] [KnowOk]
theorem symBin_ok {op : BinOp} {x y v : AV} {cx cy : Value} (h : symBin op x y = some v) (hx : VR π lm x cx) (hy : VR π lm y cy) :
  ∃ k n m u,cx = .int k n ∧ cy = .int k m ∧ intBin op k n m = some u ∧ ∀ c,VR π lm u c → VR π lm v c:=by
 unfold symBin at h
 split at h
 ·rename_i v' h'
  simp only [Option.some.injEq] at h; subst h
  exact symBin0_ok h' hx hy
 ·unfold symK at h
  split at h
  ·rename_i k e1 l1 h1 k' e2 l2 h2 s1 s2
   split at h
   ·rename_i hk
    subst hk
    obtain ⟨a0,a1,a2,rfl⟩:=symA_rel s1 hx
    obtain ⟨b0,b1,b2,rfl⟩:=symA_rel s2 hy
    split at h
    ·cases h
    ·simp only [Option.map_eq_some_iff] at h
     obtain ⟨b,hb,rfl⟩:=h
     exact ⟨k,e1.eval,e2.eval,.bool b,rfl,rfl,cmpI_int (KnowOk.cmp hb a0 b0) k,fun c hc=>hc⟩
   ·cases h
  ·cases h
end
theorem symW_ok {op : BinOp} {x y v : AV} {cx cy : Value} (h : symW op x y = some v) (hx : VR π lm x cx) (hy : VR π lm y cy) :
  ∃ k n k' m c,cx = .int k n ∧ cy = .int k' m ∧ VR π lm v c ∧ ∀ (t : TypeId) (w : World),(binOp op t cx cy).run P w = .ok c w:=by
 unfold symW at h
 split at h
 ·rename_i k e1 l1 h1 k' e2 l2 h2 s1 s2
  obtain ⟨a0,a1,a2,rfl⟩:=symA_rel s1 hx
  obtain ⟨b0,b1,b2,rfl⟩:=symA_rel s2 hy
  have fin : ∀ lo hi,v = .sym k (.wop op k e1 e2) lo hi → lo ≤ wapp op k e1.eval e2.eval → wapp op k e1.eval e2.eval ≤ hi →
    (∀ (t : TypeId) (w : World),(binOp op t (.int k e1.eval) (.int k' e2.eval)).run P w = .ok (.int k (wapp op k e1.eval e2.eval)) w) →
    ∃ k0 n k1 m c,Value.int k e1.eval = .int k0 n ∧ Value.int k' e2.eval = .int k1 m ∧ VR π lm v c ∧ ∀ (t : TypeId) (w : World),(binOp op t (.int k e1.eval) (.int k' e2.eval)).run P w = .ok c w:=
   fun lo hi hv g1 g2 g3=>⟨k,e1.eval,k',e2.eval,.int k (wapp op k e1.eval e2.eval),rfl,rfl,by rw [hv]; exact .sym (e:=.wop op k e1 e2) ⟨a0,b0⟩ g1 g2,g3⟩
  have hr:=wrap_rng k
  cases op <;> simp only [reduceCtorEq] at h
  case shr =>
   split at h
   ·rename_i hc
    simp only [Option.some.injEq] at h
    have hp : (0 : Int) < 2 ^ min e2.eval.toNat k.bits:=Int.pow_pos (by omega)
    refine fin 0 h1 h.symm ?_ ?_ (fun t w=>?_)
    ·simp only [wapp]; rw [Int.fdiv_eq_ediv_of_nonneg _ (by omega)]; exact Int.ediv_nonneg (by omega) (by omega)
    ·simp only [wapp]; rw [Int.fdiv_eq_ediv_of_nonneg _ (by omega)]
     exact Int.le_trans (Int.ediv_le_self _ (by omega)) a2
    ·have h0 : ¬ e2.eval < 0:=by omega
     simp [binOp,Op.shift,wapp,h0]
   ·cases h
  case shl =>
   split at h
   ·rename_i hc
    simp only [Option.some.injEq] at h
    refine fin _ _ h.symm (hr _).1 (hr _).2 (fun t w=>?_)
    have h0 : ¬ e2.eval < 0:=by omega
    simp [binOp,Op.shift,wapp,h0]
   ·cases h
  all_goals
   split at h
   ·rename_i hk
    subst hk
    simp only [Option.some.injEq] at h
    exact fin _ _ h.symm (hr _).1 (hr _).2 (fun t w=>by simp [binOp,Op.intArith,Op.intBits,wapp])
   ·cases h
 ·cases h
theorem cut_some' {l r : List AV} {off n : Nat} (h : cut l off n = some r) : off + n ≤ l.length ∧ r = (l.drop off).take n:=by
 unfold cut at h
 split at h
 ·rename_i hle; exact ⟨hle,(Option.some.inj h).symm⟩
 ·cases h
section
variable [Know] [KnowOk]
theorem eqFs_ok : ∀ (d : Nat) {fs : List Field} {l m : List AV} {xs ys : Array Value} {b : Bool},eqFs P d fs l m = some b → LR π lm l xs.toList → LR π lm m ys.toList →
  ∀ (dd : Nat) (w : World),d ≤ dd → (Op.eqFields dd xs ys fs).run P w = .ok b w
 | 0,_,_,_,_,_,_,h,_,_=>by simp [eqFs] at h
 | d + 1,[],_,_,_,_,_,h,_,_=>by
  intro dd w _
  simp only [eqFs,Option.some.injEq] at h
  subst h
  simp [Op.eqFields]
 | d + 1,f :: fs,l,m,xs,ys,b,h,hl,hm=>by
  intro dd w hdd
  simp only [eqFs] at h
  split at h
  ·cases h
  ·rename_i hn
   have hn' : f.name ≠ "_":=by simpa using hn
   have key : ∀ c,(match P.underlying f.type with
     | some (.int _)=>match l[f.offset]?,m[f.offset]? with
      | some x,some y=>match symBin .eql x y with
       | some (.bool b)=>some b
       | _=>none
      | _,_=>none
     | some (.struct gs)=>if P.stoodInHeld f.type then none else match sizeA P f.type with
      | some n=>match cut l f.offset n,cut m f.offset n with
       | some l',some m'=>eqFs P d gs.toList l' m'
       | _,_=>none
      | none=>none
     | _=>none) = some c → ∃ u v,(part f.type xs f.offset).run P w = .ok u w ∧ (part f.type ys f.offset).run P w = .ok v w ∧ (Op.equalIn dd f.type u v).run P w = .ok c w:=by
    intro c hc
    split at hc
    ·rename_i k hk
     split at hc
     ·rename_i x y hx hy
      split at hc
      ·rename_i b' hb
       simp only [Option.some.injEq] at hc
       subst hc
       obtain ⟨cx,e1,r1⟩:=hl.get hx
       obtain ⟨cy,e2,r2⟩:=hm.get hy
       obtain ⟨k',n,m',u,rfl,rfl,e3,e4⟩:=symBin_ok hb r1 r2
       have hag : isAggA P f.type = some false:=by simp [isAggA,hk]
       have ex : xs[f.offset]? = some (.int k' n):=by rw [← Array.getElem?_toList]; exact e1
       have ey : ys[f.offset]? = some (.int k' m'):=by rw [← Array.getElem?_toList]; exact e2
       refine ⟨.int k' n,.int k' m',by simp [part,run_isAgg' hag,ex],by simp [part,run_isAgg' hag,ey],?_⟩
       obtain ⟨dd',rfl⟩ : ∃ dd',dd = dd' + 1:=⟨dd - 1,by omega⟩
       rw [run_equalIn_int w dd' f.type k' k n m' hk]
       simp only [intBin,Option.some.injEq] at e3
       subst e3
       have:=e4 (.bool (n == m')) (.bool _)
       cases this
       rfl
      ·cases hc
     ·cases hc
    ·rename_i gs hk
     split at hc
     ·cases hc
     ·rename_i hst
      split at hc
      ·rename_i n hsz
       split at hc
       ·rename_i l' m' hc1 hc2
        obtain ⟨g1,rfl⟩:=cut_some' hc1
        obtain ⟨g2,rfl⟩:=cut_some' hc2
        have hag : isAggA P f.type = some true:=by simp [isAggA,hk]
        have q1 : LR π lm ((l.drop f.offset).take n) (xs.extract f.offset (f.offset + n)).toList:=by
         have:=(hl.drop f.offset).take n
         simpa [List.take_drop,Nat.add_comm] using this
        have q2 : LR π lm ((m.drop f.offset).take n) (ys.extract f.offset (f.offset + n)).toList:=by
         have:=(hm.drop f.offset).take n
         simpa [List.take_drop,Nat.add_comm] using this
        refine ⟨.agg (xs.extract f.offset (f.offset + n)),.agg (ys.extract f.offset (f.offset + n)),by simp [part,run_isAgg' hag,run_sizeOf' hsz],by simp [part,run_isAgg' hag,run_sizeOf' hsz],?_⟩
        obtain ⟨dd',rfl⟩ : ∃ dd',dd = dd' + 1:=⟨dd - 1,by omega⟩
        have hfo : P.fieldsOf f.type = gs:=by simp [Program.fieldsOf,hk]
        rw [run_equalIn_agg w dd' f.type _ _ (by rw [hfo]; exact hk) (by simpa using hst),hfo]
        exact eqFs_ok d hc q1 q2 dd' w (by omega)
       ·cases hc
      ·cases hc
    ·cases hc
   split at h
   ·rename_i hc
    obtain ⟨u,v,p1,p2,p3⟩:=key true hc
    have:=eqFs_ok d h hl hm dd w (by omega)
    simp only [Op.eqFields,hn',ne_eq,not_false_eq_true,if_true,Sem.run_bind,p1,p2,p3,Result.andThen_ok,Bool.not_true,Bool.false_eq_true,if_false,this]
   ·rename_i hne
    cases b with
    | true=>exact absurd h hne
    | false =>
     obtain ⟨u,v,p1,p2,p3⟩:=key false h
     simp only [Op.eqFields,hn',ne_eq,not_false_eq_true,if_true,Sem.run_bind,p1,p2,p3,Result.andThen_ok,Bool.not_false,Sem.run_pure]
theorem eqAgg_ok {t : TypeId} {l m : List AV} {xs ys : Array Value} {b : Bool} (h : eqAgg P t l m = some b) (hl : LR π lm l xs.toList) (hm : LR π lm m ys.toList) (w : World) :
  P.eqGuardType P.depth t = false ∧ (Op.equalIn 10000 t (.agg xs) (.agg ys)).run P w = .ok b w:=by
 unfold eqAgg at h
 split at h
 ·rename_i fs hk
  split at h
  ·cases h
  ·rename_i hc
   simp only [Bool.or_eq_true,not_or,Bool.not_eq_true] at hc
   refine ⟨hc.2,?_⟩
   have hfo : P.fieldsOf t = fs:=by simp [Program.fieldsOf,hk]
   rw [show (10000 : Nat) = 9999 + 1 from rfl,run_equalIn_agg w 9999 t _ _ (by rw [hfo]; exact hk) hc.1,hfo]
   exact eqFs_ok 100 h hl hm 9999 w (by omega)
 ·cases h
theorem op_binS {o : Oper} {op : BinOp} {xt yt : TypeId} {x y : Operand} {v : AV} (ho : o.op = .binOp op xt x y yt) (hw : WR B π lm s w) (h : binS P ts o op x y = some v)
  (r : LR π lm ts a.tmps.toList) : OpOk P B π lm s w o a v s:=by
 unfold binS at h
 split at h
 ·rename_i hb
  simp only [Option.some.injEq] at h; subst h
  exact op_bin ho hw hb r
 ·split at h
  ·rename_i u v' hx hy
   unfold symBinT at h
   split at h
   ·rename_i rr hs
    simp only [Option.some.injEq] at h; subst h
    obtain ⟨k,n,m,u',e1,e2,e3,e4⟩:=symBin_ok hs (eval_rel hx r) (eval_rel hy r)
    obtain ⟨c,h1,h2⟩:=intBin_rel (P:=P) (π:=π) (lm:=lm) e3 xt w
    refine .still hw (c:=c) ?_ (e4 c h2)
    simp [execOp,ho,e1,e2,eqGuard_int,h1]
   ·split at h
    ·rename_i rr hs
     simp only [Option.some.injEq] at h; subst h
     obtain ⟨k,n,k',m,c,e1,e2,e3,e4⟩:=symW_ok (P:=P) hs (eval_rel hx r) (eval_rel hy r)
     refine .still hw (c:=c) ?_ e3
     have e5:=e4 xt w
     rw [e1,e2] at e5
     simp [execOp,ho,e1,e2,eqGuard_int,e5]
    ·split at h
     ·rename_i l m op' xt' x' y' yt' ho' hns hns2
      rw [ho] at ho'
      cases ho'
      have rx:=eval_rel hx r
      have ry:=eval_rel hy r
      generalize hcx : a.eval x = cx at rx
      generalize hcy : a.eval y = cy at ry
      cases rx with
      | agg s1 r1 =>
      cases ry with
      | agg s2 r2 =>
      rename_i xs ys
      split at h
      ·simp only [Option.map_eq_some_iff] at h
       obtain ⟨b,hb,rfl⟩:=h
       obtain ⟨g1,g2⟩:=eqAgg_ok hb ⟨s1,r1⟩ ⟨s2,r2⟩ w
       refine .still hw (c:=.bool b) ?_ (.bool b)
       have ex : a.eval x = .agg xs:=by assumption
       simp [execOp,ho,ex,hcy,run_eqGuard_agg,g1,run_eql_struct,g2]
      ·simp only [Option.map_eq_some_iff] at h
       obtain ⟨b,hb,rfl⟩:=h
       obtain ⟨g1,g2⟩:=eqAgg_ok hb ⟨s1,r1⟩ ⟨s2,r2⟩ w
       refine .still hw (c:=.bool (!b)) ?_ (.bool _)
       have ex : a.eval x = .agg xs:=by assumption
       simp [execOp,ho,ex,hcy,run_eqGuard_agg,g1,run_neq_struct,g2]
      ·cases h
     ·cases h
  ·cases h
end
theorem op_unS {o : Oper} {op : UnOp} {t : TypeId} {x : Operand} {v : AV} (ho : o.op = .unOp op t x) (hw : WR B π lm s w) (h : unS P ts o op x = some v)
  (r : LR π lm ts a.tmps.toList) : OpOk P B π lm s w o a v s:=by
 unfold unS at h
 split at h
 ·rename_i hb
  simp only [Option.some.injEq] at h; subst h
  exact op_pure hw hb r
 ·split at h
  ·rename_i u hx
   unfold symNeg at h
   split at h
   ·rename_i k e lo hi
    split at h
    ·rename_i hk
     simp only [Option.some.injEq] at h; subst h
     have hv:=eval_rel hx r
     obtain ⟨a0,a1,a2,e1⟩:=symA_rel (v:=.sym k e lo hi) rfl hv
     have hev : (SX.bin .sub (.lit 0) e).eval = 0 - e.eval:=rfl
     have hw1 : k.wrap (-e.eval) = -e.eval:=kin_ok hk (by omega) (by omega)
     refine .still hw (c:=.int k (SX.bin .sub (.lit 0) e).eval) ?_ (mkA_rel ⟨trivial,a0⟩ (by omega) (by omega))
     simp [execOp,ho,e1,Op.unary,Op.intArith,hev,hw1]
    ·cases h
   ·cases h
  ·cases h
theorem op_convS {o : Oper} {src dst : TypeId} {x : Operand} {v : AV} (ho : o.op = .convert src dst x) (hw : WR B π lm s w) (h : convS P ts o src dst x = some v)
  (r : LR π lm ts a.tmps.toList) : OpOk P B π lm s w o a v s:=by
 unfold convS at h
 split at h
 ·rename_i hb
  simp only [Option.some.injEq] at h; subst h
  exact op_pure hw hb r
 ·split at h
  ·rename_i u hx
   unfold symConv at h
   split at h
   ·rename_i us k k' e l hh h1 h2 h3
    split at h
    ·rename_i hk
     simp only [Option.some.injEq] at h; subst h
     obtain ⟨a0,a1,a2,e1⟩:=symA_rel h3 (eval_rel hx r)
     refine .still hw (c:=.int k e.eval) ?_ (mkA_rel a0 a1 a2)
     simp [execOp,ho,convert,run_underlying h1,run_underlying h2,e1,Conv.intToInt,kin_ok hk a1 a2]
    ·unfold symCv at h
     rw [h3] at h
     simp only [Option.some.injEq] at h; subst h
     obtain ⟨a0,a1,a2,e1⟩:=symA_rel h3 (eval_rel hx r)
     have g:=wrap_rng k e.eval
     have e2 : (SX.wop BinOp.add k e (.lit 0)).eval = k.wrap e.eval:=by simp [SX.eval,wapp]
     refine .still hw (c:=.int k (SX.wop BinOp.add k e (.lit 0)).eval) ?_ (.sym (e:=.wop .add k e (.lit 0)) ⟨a0,trivial⟩ (by rw [e2]; exact g.1) (by rw [e2]; exact g.2))
     rw [e2]
     simp [execOp,ho,convert,run_underlying h1,run_underlying h2,e1,Conv.intToInt]
   ·cases h
  ·cases h
end Go.Ev
/- Operations that read and write memory, or make it. -/
namespace Go.Ev
open Go.RowKit (Below)
set_option linter.unusedSectionVars false
variable [Rho]
variable {P : Program} {B : Nat} {π : Inj} {lm : List Nat} {s : St} {w : World} {ts : List AV} {a : Act}
theorem cut_some {l r : List AV} {off n : Nat} (h : cut l off n = some r) : off + n ≤ l.length ∧ r = (l.drop off).take n:=by
 unfold cut at h
 split at h
 ·rename_i hle; exact ⟨hle,(Option.some.inj h).symm⟩
 ·cases h
theorem VR.ptr_inv {b off : Nat} {c : Value} (h : VR π lm (.ptr b off) c) : ∃ b' n,π b = some (b',n) ∧ c = .pointer (some ⟨b',off,none⟩):=by
 cases h with
 | ptr h=>exact ⟨_,_,h,rfl⟩
theorem VR.int_inv {k : IntKind} {n : Int} {c : Value} (h : VR π lm (.int k n) c) : c = .int k n:=by cases h; rfl
theorem VR.bool_inv {b : Bool} {c : Value} (h : VR π lm (.bool b) c) : c = .bool b:=by cases h; rfl
theorem VR.agg' {l : List AV} {c : Array Value} (h : LR π lm l c.toList) : VR π lm (.agg l) (.agg c):=.agg h.1 h.2
theorem VR.tup' {l : List AV} {c : Array Value} (h : LR π lm l c.toList) : VR π lm (.tup l) (.tuple c):=.tup h.1 h.2
theorem VR.fn' (f : FuncId) {l1 l2 : List AV} {c1 c2 : Array Value} (h1 : LR π lm l1 c1.toList) (h2 : LR π lm l2 c2.toList) : VR π lm (.fn f l1 l2) (.func (.func f) c1 c2):=.fn f h1.1 h1.2 h2.1 h2.2
theorem drop_take_take {α : Type} {l : List α} {off n m : Nat} (h : off + n ≤ m) : ((l.take m).drop off).take n = (l.drop off).take n:=by
 apply List.ext_getElem?
 intro j
 simp only [List.getElem?_take,List.getElem?_drop]
 by_cases hj : j < n
 ·rw [if_pos hj,if_pos hj,if_pos (by omega)]
 ·rw [if_neg hj,if_neg hj]
theorem load_rel {t : TypeId} {b off : Nat} {v : AV} (hw : WR B π lm s w) (h : loadA P s t b off = some v) {b' n : Nat} (hp : π b = some (b',n)) :
  ∃ c,(loadVar t ⟨b',off,none⟩).run P w = .ok c w ∧ VR π lm v c:=by
 unfold loadA at h
 split at h
 ·cases h
 ·rename_i A hA
  rw [blockAt_some] at hA
  obtain ⟨c,fz,hc,hsz,_,hl,_⟩:=hw.at hA hp
  have hAc : A.cells.length ≤ c.size:=by have:=hl.1; simp at this; omega
  split at h
  ·rename_i ha
   split at h
   ·rename_i k hk
    simp only [Option.map_eq_some_iff] at h
    obtain ⟨r,hr,rfl⟩:=h
    obtain ⟨hle,rfl⟩:=cut_some hr
    refine ⟨.agg ((c.toList.drop off).take k).toArray,?_,?_⟩
    ·simp [loadVar,run_isAgg' ha,run_sizeOf' hk,run_loadCells hc (show off + k ≤ c.size by omega)]
    ·have:=(hl.drop off).take k
     rw [drop_take_take hle] at this
     exact .agg' this
   ·cases h
  ·rename_i ha
   split at h
   ·rename_i v' hr
    obtain ⟨hle,he⟩:=cut_some hr
    simp at h; subst h
    have hlt : off < c.size:=by omega
    have hv : A.cells[off]? = some v':=by
     have : (A.cells.drop off).take 1 = [A.cells[off]'(by omega)]:=by
      rw [List.drop_eq_getElem_cons (by omega),List.take_succ_cons,List.take_zero]
     rw [this] at he
     simp at he
     rw [List.getElem?_eq_getElem (by omega),he]
    obtain ⟨u,hu,hvu⟩:=hl.get hv
    rw [List.getElem?_take_of_lt (by omega)] at hu
    refine ⟨u,?_,hvu⟩
    simp only [loadVar,Sem.run_bind,run_isAgg' ha,Result.andThen_ok]
    rw [if_neg (by simp)]
    rw [run_load,cell_of hc]
    rw [Array.getElem?_toList] at hu
    rw [hu]
   ·cases h
  ·cases h
theorem op_load {o : Oper} {t : TypeId} {x : Operand} {b off : Nat} {v : AV} (ho : o.op = .load t x) (hw : WR B π lm s w) (hx : eval ts x = some (.ptr b off)) (h : loadA P s t b off = some v)
  (r : LR π lm ts a.tmps.toList) : OpOk P B π lm s w o a v s:=by
 obtain ⟨b',n,hp,hc⟩:=VR.ptr_inv (eval_rel hx r)
 obtain ⟨c,h1,h2⟩:=load_rel hw h hp
 refine .still hw (c:=c) ?_ h2
 simp [execOp,ho,Instr.loadAt,hc,Instr.sureAddr,h1]
theorem storeCells_rel {b off : Nat} {avs : List AV} {vs : List Value} {s' : St} (hw : WR B π lm s w) (h : storeCellsA s b off avs = some s') (hv : LR π lm avs vs) {b' n : Nat} (hp : π b = some (b',n)) :
  ∃ w',(storeCells ⟨b',off,none⟩ vs).run P w = .ok () w' ∧ WR B π lm s' w' ∧ Tr π π lm lm s s' w w':=by
 unfold storeCellsA at h
 split at h
 ·cases h
 ·rename_i A hA
  rw [blockAt_some] at hA
  split at h
  ·cases h
  ·rename_i hro
   simp only [Bool.or_eq_true,Bool.not_eq_true',not_or,Bool.not_eq_true,Bool.not_eq_false,Option.isSome_eq_false_iff,Option.isNone_iff_eq_none] at hro
   split at h
   ·rename_i cs hcs
    simp at h; subst h
    obtain ⟨c,fz,hc,hsz,hrw,hl,_⟩:=hw.at hA hp
    obtain ⟨rfl,hB⟩:=hrw hro.1
    have hAc : A.cells.length ≤ c.size:=by have:=hl.1; simp at this; omega
    have hle:=(paste_some hcs).1
    have hlen:=hv.1
    obtain ⟨k1,k2⟩:=hw.store hA hro.1 hro.2.2 hp hc hv hcs
    exact ⟨_,by
     have:=run_storeCells (P:=P) (e:=A.elem) (b:=b') (off:=off) vs 0 w c (all_one hro.2.1 hv) hc (by omega)
     simpa using this,k1,k2⟩
   ·cases h
theorem op_store {o : Oper} {t : TypeId} {x y : Operand} {b off n : Nat} {v : AV} {s' : St} (ho : o.op = .store t x y) (hw : WR B π lm s w) (hx : eval ts x = some (.ptr b off)) (hy : eval ts y = some v)
  (hn : sizeA P t = some n) (hl : v.cells.length = n) (h : storeCellsA s b off v.cells = some s') (r : LR π lm ts a.tmps.toList) : OpOk P B π lm s w o a undefA s':=by
 obtain ⟨b',m,hp,hc⟩:=VR.ptr_inv (eval_rel hx r)
 have hv:=(eval_rel hy r).cells
 obtain ⟨w',h1,h2,h3⟩:=storeCells_rel (P:=P) hw h hv hp
 refine ⟨.skip,undef,w',π,?_,.inr ⟨rfl,rfl⟩,.undef,h2,h3⟩
 have hs : (a.eval y).cells.size = n:=by have:=hv.1; simp at this; omega
 simp [execOp,ho,Instr.storeAt,hc,Instr.sureAddr,storeVar,run_sizeOf' hn,hs,h1]
theorem zero_rel {t : TypeId} {z : AV} (h : zeroA P t = some z) (w : World) : ∃ u,(zeroValue t).run P w = .ok u w ∧ VR π lm z u:=by
 unfold zeroA at h
 split at h
 ·rename_i i hi
  split at h
  ·rename_i v hv
   exact ⟨v,by simp [zeroValue,run_typeInfo' hi,hv],ofV_rel h⟩
  ·cases h
 ·cases h
theorem LR.take_self {l : List AV} {c : Array Value} (h : LR π lm l c.toList) : LR π lm l (c.toList.take l.length):=by
 rw [List.take_of_length_le (by have:=h.1; omega)]; exact h
theorem newVar_rel {t : TypeId} {v : AV} {c : Value} (hw : WR B π lm s w) (hB : B ≤ w.heap.size) (hv : VR π lm v c) :
  ∃ w' π',(newVar t c).run P w = .ok ⟨w.heap.size,0,none⟩ w' ∧ (∃ n,π' s.heap.length = some (w.heap.size,n)) ∧ WR B π' lm (newBlk s t v.cells) w' ∧ Tr π π' lm lm s (newBlk s t v.cells) w w':=by
 obtain ⟨k1,k2⟩:=hw.new hB t (cs:=v.cells) (c:=c.cells) hv.cells.take_self
 refine ⟨_,_,?_,⟨c.cells.size,?_⟩,k1,k2⟩
 ·simp [newVar,newRow]
 ·simp [Inj.more]
theorem op_box {o : Oper} {t : TypeId} {x : Operand} {v : AV} (ho : o.op = .box t x) (hw : WR B π lm s w) (hB : B ≤ w.heap.size) (hx : eval ts x = some v)
  (r : LR π lm ts a.tmps.toList) : OpOk P B π lm s w o a (.ptr s.heap.length 0) (newBlk s t v.cells):=by
 obtain ⟨w',π',h1,⟨n,h2⟩,h3,h4⟩:=newVar_rel (P:=P) (t:=t) hw hB (eval_rel hx r)
 refine ⟨_,.pointer (some ⟨w.heap.size,0,none⟩),w',π',?_,.inl rfl,.ptr h2,h3,h4⟩
 simp [execOp,ho,Instr.box,h1]
theorem op_alloc {o : Oper} {t : TypeId} {z : AV} (ho : o.op = .alloc t) (hw : WR B π lm s w) (hB : B ≤ w.heap.size) (hz : zeroA P t = some z) :
  OpOk P B π lm s w o a (.ptr s.heap.length 0) (newBlk s t z.cells):=by
 obtain ⟨u,hu,hv⟩:=zero_rel (π:=π) (lm:=lm) hz w
 obtain ⟨w',π',h1,⟨n,h2⟩,h3,h4⟩:=newVar_rel (P:=P) (t:=t) hw hB hv
 refine ⟨_,.pointer (some ⟨w.heap.size,0,none⟩),w',π',?_,.inl rfl,.ptr h2,h3,h4⟩
 simp [execOp,ho,Instr.alloc,hu,h1]
theorem op_fieldAddr {o : Oper} {t : TypeId} {x : Operand} {f b off n : Nat} {fs : Array Field} {fd : Field} (ho : o.op = .fieldAddr t x f) (hw : WR B π lm s w) (hx : eval ts x = some (.ptr b off))
  (hu : P.underlying t = some (.struct fs)) (hf : fs.toList[f]? = some fd) (hn : sizeA P fd.type = some n) (h0 : n ≠ 0) (r : LR π lm ts a.tmps.toList) :
  OpOk P B π lm s w o a (.ptr b (off + fd.offset)) s:=by
 obtain ⟨b',m,hp,hc⟩:=VR.ptr_inv (eval_rel hx r)
 refine .still hw (c:=.pointer (some ⟨b',off + fd.offset,none⟩)) ?_ (.ptr hp)
 rw [Array.getElem?_toList] at hf
 simp [execOp,ho,Instr.fieldAt,run_underlying hu,hf,hc,Instr.sureAddr,fieldPlace,run_sizeOf' hn,h0,addr_add]
theorem op_nilCheck {o : Oper} {x : Operand} {b off : Nat} (ho : o.op = .nilCheck x) (hw : WR B π lm s w) (hx : eval ts x = some (.ptr b off)) (r : LR π lm ts a.tmps.toList) :
  OpOk P B π lm s w o a (.ptr b off) s:=by
 obtain ⟨b',m,hp,hc⟩:=VR.ptr_inv (eval_rel hx r)
 refine .still hw (c:=.pointer (some ⟨b',off,none⟩)) ?_ (.ptr hp)
 simp [execOp,ho,hc]
theorem op_indexArr {o : Oper} {t e : TypeId} {x i : Operand} {b off len es : Nat} {k : IntKind} {n : Int} (ho : o.op = .indexAddr t x i) (hw : WR B π lm s w) (hx : eval ts x = some (.ptr b off))
  (hi : eval ts i = some (.int k n)) (hu : P.underlying t = some (.array len e)) (hn : sizeA P e = some es) (hr : 0 ≤ n ∧ n < (len : Int)) (r : LR π lm ts a.tmps.toList) :
  OpOk P B π lm s w o a (.ptr b (off + n.toNat * es)) s:=by
 obtain ⟨b',m,hp,hc⟩:=VR.ptr_inv (eval_rel hx r)
 have hc2:=(eval_rel hi r).int_inv
 refine .still hw (c:=.pointer (some ⟨b',off + n.toNat * es,none⟩)) ?_ (.ptr hp)
 simp [execOp,ho,Instr.indexAt,hc2,asIntOf,run_underlying hu,hc,Instr.sureAddr,hr.1,hr.2,run_sizeOf' hn,addr_add]
theorem VR.slice_inv {b off len cap es : Nat} {ex : Bool} {c : Value} (h : VR π lm (.slice b off len cap ex es) c) :
  ∃ b' n cap',π b = some (b',n) ∧ c = .slice (some ⟨b',off,none⟩) len cap' ∧ ((ex = true ∧ cap' = cap) ∨ (ex = false ∧ cap ≤ cap' ∧ off + cap' * es = n)):=by
 cases h with
 | sliceEx h=>exact ⟨_,_,_,h,rfl,.inl ⟨rfl,rfl⟩⟩
 | sliceIn h hc hn=>exact ⟨_,_,_,h,rfl,.inr ⟨rfl,hc,hn⟩⟩
theorem op_indexSl {o : Oper} {t e : TypeId} {x i : Operand} {b off len cap es es' : Nat} {ex : Bool} {k : IntKind} {n : Int} (ho : o.op = .indexAddr t x i) (hw : WR B π lm s w)
  (hx : eval ts x = some (.slice b off len cap ex es')) (hi : eval ts i = some (.int k n)) (hu : P.underlying t = some (.slice e)) (hn : sizeA P e = some es) (hr : 0 ≤ n ∧ n < (len : Int))
  (r : LR π lm ts a.tmps.toList) : OpOk P B π lm s w o a (.ptr b (off + n.toNat * es)) s:=by
 obtain ⟨b',m,cap',hp,hc,_⟩:=VR.slice_inv (eval_rel hx r)
 have hc2:=(eval_rel hi r).int_inv
 refine .still hw (c:=.pointer (some ⟨b',off + n.toNat * es,none⟩)) ?_ (.ptr hp)
 simp [execOp,ho,Instr.indexAt,hc2,asIntOf,run_underlying hu,hc,hr.1,hr.2,run_sizeOf' hn,addr_add]
theorem op_makeFunc {o : Oper} {f : FuncId} {x1 x2 : Array Operand} {l1 l2 : List AV} (ho : o.op = .makeFunc (.func f) x1 x2) (hw : WR B π lm s w) (h1 : evals ts x1.toList = some l1) (h2 : evals ts x2.toList = some l2)
  (r : LR π lm ts a.tmps.toList) : OpOk P B π lm s w o a (.fn f l1 l2) s:=by
 have e1:=evals_rel h1 r
 have e2:=evals_rel h2 r
 refine .still hw (c:=.func (.func f) (x1.map a.eval) (x2.map a.eval)) (by simp [execOp,ho,Instr.makeFunc]) ?_
 exact .fn' f (by rw [Array.toList_map]; exact e1) (by rw [Array.toList_map]; exact e2)
theorem VR.tup_inv {l : List AV} {c : Value} (h : VR π lm (.tup l) c) : ∃ vs : Array Value,c = .tuple vs ∧ LR π lm l vs.toList:=by
 cases h with
 | tup s h=>exact ⟨_,rfl,s,h⟩
theorem op_extract {o : Oper} {x : Operand} {i : Nat} {l : List AV} {v : AV} (ho : o.op = .extract x i) (hw : WR B π lm s w) (hx : eval ts x = some (.tup l)) (hv : l[i]? = some v)
  (r : LR π lm ts a.tmps.toList) : OpOk P B π lm s w o a v s:=by
 obtain ⟨vs,hc,hl⟩:=VR.tup_inv (eval_rel hx r)
 obtain ⟨u,hu,hvu⟩:=hl.get hv
 rw [Array.getElem?_toList] at hu
 refine .still hw (c:=u) ?_ hvu
 simp [execOp,ho,Instr.extract,hc,hu]
end Go.Ev
/- Structs, slices, new rows. -/
namespace Go.Ev
open Go.RowKit (Below)
set_option linter.unusedSectionVars false
variable [Rho]
variable {P : Program} {B : Nat} {π : Inj} {lm : List Nat} {s : St} {w : World} {ts : List AV} {a : Act}
theorem foldl_paste (off : Nat) : ∀ (vs : List Value) (k : Nat) (c : Array Value),off + k + vs.length ≤ c.size →
  (vs.zipIdx k).foldl (fun cs (x : Value × Nat)=>cs.setIfInBounds (off + x.2) x.1) c = pasteV c (off + k) vs:=by
 intro vs
 induction vs with
 | nil=>intro k c _; simp [pasteV]
 | cons v vs ih =>
  intro k c h
  simp only [List.length_cons] at h
  simp only [List.zipIdx_cons,List.foldl_cons]
  rw [ih (k + 1) _ (by simp; omega),show off + (k + 1) = off + k + 1 from by omega,pasteV_step (by omega)]
theorem fill_rel {place : Nat → Option (Nat × Nat)} : ∀ {ps : List (Nat × AV)} {qs : List (Nat × Value)} {l : List AV} {c : Array Value} {r : List AV},LR π lm l c.toList →
  ps.map (·.1) = qs.map (·.1) → LR π lm (ps.map (·.2)) (qs.map (·.2)) → fillA place l ps = some r → ∃ d,Instr.fill place c qs = some d ∧ LR π lm r d.toList:=by
 intro ps
 induction ps with
 | nil =>
  intro qs l c r hl h1 _ h
  simp at h1
  subst h1
  simp [fillA] at h
  subst h
  exact ⟨c,rfl,hl⟩
 | cons p ps ih =>
  intro qs l c r hl h1 h2 h
  obtain ⟨i,v⟩:=p
  cases qs with
  | nil=>simp at h1
  | cons q qs =>
   obtain ⟨j,u⟩:=q
   simp only [List.map_cons,List.cons.injEq] at h1
   obtain ⟨rfl,h1⟩:=h1
   obtain ⟨u',us,he,hu,hus⟩:=h2.uncons
   simp only [List.map_cons,List.cons.injEq] at he
   obtain ⟨rfl,rfl⟩:=he
   simp only [fillA] at h
   split at h
   ·cases h
   ·rename_i off size hp
    split at h
    ·rename_i hsz
     split at h
     ·rename_i cs hcs
      obtain ⟨hle,he,hlen⟩:=paste_some hcs
      have hcu:=hu.cells
      have e1 : u.cells.size = size:=by have:=hcu.1; simp at this; omega
      have e2 : l.length = c.size:=by have:=hl.1; simpa using this
      have e3 : v.cells.length = u.cells.toList.length:=hcu.1
      have hlr : LR π lm cs (pasteV c off u.cells.toList).toList:=by
       rw [he]
       simp only [pasteV]
       rw [e3]
       exact (hl.take off).append (hcu.append (hl.drop _))
      obtain ⟨d,hd,hr⟩:=ih hlr h1 hus h
      refine ⟨d,?_,hr⟩
      simp only [Instr.fill,hp]
      rw [if_neg (by simp [e1]; simp at e3; omega)]
      have hf:=foldl_paste off u.cells.toList 0 c (by simp at e3; simp; omega)
      rw [← hd]
      congr 1
      rw [← Array.foldl_toList,Array.toList_zipIdx]
      simpa using hf
     ·cases h
    ·cases h
theorem evalParts_rel {xs : List (Nat × Operand)} {ps : List (Nat × AV)} (h : evalParts ts xs = some ps) (r : LR π lm ts a.tmps.toList) :
  ps.map (·.1) = xs.map (·.1) ∧ LR π lm (ps.map (·.2)) (xs.map fun x=>a.eval x.2):=by
 induction xs generalizing ps with
 | nil=>simp [evalParts] at h; subst h; exact ⟨rfl,.nil⟩
 | cons x xs ih =>
  obtain ⟨i,x⟩:=x
  simp only [evalParts] at h
  split at h
  ·rename_i v vs hv hvs
   simp at h; subst h
   obtain ⟨h1,h2⟩:=ih hvs
   exact ⟨by simp [h1],LR.cons (eval_rel hv r) h2⟩
  ·cases h
theorem run_mapM_list {α β : Type} {P : Program} {w : World} {g : α → Sem β} {f : α → β} : ∀ (l : List α),(∀ x ∈ l,(g x).run P w = .ok (f x) w) → (l.mapM g).run P w = .ok (l.map f) w:=by
 intro l
 induction l with
 | nil=>intro _; simp
 | cons x l ih =>
  intro h
  simp [List.mapM_cons,h x (by simp),ih (fun y hy=>h y (by simp [hy]))]
theorem run_mapM_arr {α β : Type} {P : Program} {w : World} {g : α → Sem β} {f : α → β} (c : Array α) (h : ∀ x ∈ c.toList,(g x).run P w = .ok (f x) w) : (c.mapM g).run P w = .ok (c.map f) w:=by
 rw [Array.mapM_eq_mapM_toList]
 simp only [Sem.run_map,run_mapM_list c.toList h,Result.andThen_ok]
 rw [← Array.toList_map,Array.toArray_toList]
theorem op_build {o : Oper} {t : TypeId} {xs : Array (Nat × Operand)} {ps : List (Nat × AV)} {v : AV} (ho : o.op = .build t xs) (hw : WR B π lm s w) (hx : evalParts ts xs.toList = some ps)
  (h : buildA P t ps = some v) (r : LR π lm ts a.tmps.toList) : OpOk P B π lm s w o a v s:=by
 obtain ⟨e1,e2⟩:=evalParts_rel hx r
 have hq1 : ps.map (·.1) = ((xs.map fun (x : Nat × Operand)=>(x.1,a.eval x.2)).toList).map (·.1):=by rw [e1]; simp
 have hq2 : LR π lm (ps.map (·.2)) (((xs.map fun (x : Nat × Operand)=>(x.1,a.eval x.2)).toList).map (·.2)):=by
  have : ((xs.map fun (x : Nat × Operand)=>(x.1,a.eval x.2)).toList).map (·.2) = xs.toList.map fun x=>a.eval x.2:=by simp
  rw [this]; exact e2
 unfold buildA at h
 split at h
 ·cases h
 ·rename_i z hz
  obtain ⟨u,hu,hv⟩:=zero_rel (π:=π) (lm:=lm) hz w
  split at h
  ·rename_i fs hfs
   split at h
   ·rename_i hall
    simp only [Option.map_eq_some_iff] at h
    obtain ⟨cs,hcs,rfl⟩:=h
    have hplace : fieldSize P fs = (((fs.map fun f=>(f.offset,(sizeA P f.type).getD 0)) : Array (Nat × Nat))[·]?):=by
     funext i
     simp only [fieldSize,Array.getElem?_map,Array.getElem?_toList]
     cases hfi : fs[i]? with
     | none=>simp
     | some f =>
      have hm : f ∈ fs.toList:=by
       rw [← Array.getElem?_toList] at hfi
       exact List.mem_of_getElem? hfi
      obtain ⟨n,hn⟩:=Option.isSome_iff_exists.1 (List.all_eq_true.1 hall f hm)
      simp [hn]
    rw [hplace] at hcs
    obtain ⟨d,hd,hdr⟩:=fill_rel hv.cells hq1 hq2 hcs
    refine .still hw (c:=.agg d) ?_ (.agg' hdr)
    have hm : ((fs.mapM fun f=>do pure (f.offset,← sizeOf f.type)) : Sem (Array (Nat × Nat))).run P w = .ok (fs.map fun f=>(f.offset,(sizeA P f.type).getD 0)) w:=by
     refine run_mapM_arr fs ?_
     intro f hf
     obtain ⟨n,hn⟩:=Option.isSome_iff_exists.1 (List.all_eq_true.1 hall f hf)
     simp [run_sizeOf' hn,hn]
    simp only [execOp,ho,Instr.build,Sem.run_bind,hu,Result.andThen_ok,run_underlying hfs,hm,hd]
    rfl
   ·cases h
  ·rename_i len e hfs
   split at h
   ·rename_i n hn
    simp only [Option.map_eq_some_iff] at h
    obtain ⟨cs,hcs,rfl⟩:=h
    obtain ⟨d,hd,hdr⟩:=fill_rel hv.cells hq1 hq2 hcs
    refine .still hw (c:=.agg d) ?_ (.agg' hdr)
    simp only [execOp,ho,Instr.build,Sem.run_bind,hu,Result.andThen_ok,run_underlying hfs,run_sizeOf' hn,hd]
    rfl
   ·cases h
  ·cases h
theorem rep_length {α : Type} (l : List α) (n : Nat) : (rep l n).length = n * l.length:=by
 induction n with
 | zero=>simp [rep]
 | succ n ih=>simp [rep,ih,Nat.succ_mul]; omega
theorem rep_get {α : Type} (l : List α) : ∀ (n j : Nat),j < n * l.length → (rep l n)[j]? = l[j % l.length]?
 | 0,j,h=>by simp at h
 | n + 1,j,h=>by
  simp only [rep]
  by_cases hj : j < l.length
  ·rw [List.getElem?_append_left hj,Nat.mod_eq_of_lt hj]
  ·have h' : j - l.length < n * l.length:=by rw [Nat.succ_mul] at h; omega
   rw [List.getElem?_append_right (by omega),rep_get l n _ h']
   congr 1
   conv=>rhs; rw [show j = (j - l.length) + l.length from by omega]
   rw [Nat.add_mod_right]
theorem rep_rel {l : List AV} {vs : List Value} (h : LR π lm l vs) (n : Nat) : LR π lm (rep l n) (rep vs n):=by
 induction n with
 | zero=>exact .nil
 | succ n ih=>exact h.append ih
theorem zeros_eq (z : Array Value) (m : Nat) : ((Array.range (m * z.size)).map fun i=>z[i % z.size]!).toList = rep z.toList m:=by
 apply List.ext_getElem?
 intro j
 by_cases hj : j < m * z.size
 ·rw [rep_get _ _ _ (by simpa using hj)]
  have hz : 0 < z.size:=Nat.pos_of_ne_zero (fun e=>by rw [e] at hj; omega)
  have hm : j % z.size < z.size:=Nat.mod_lt _ hz
  rw [Array.getElem?_toList,Array.getElem?_map,Array.getElem?_range]
  simp [hj,hm]
 ·rw [List.getElem?_eq_none (by simp; omega),List.getElem?_eq_none (by rw [rep_length]; simp; omega)]
theorem op_makeSlice {o : Oper} {t e : TypeId} {x y : Operand} {es bs : Nat} {z : AV} {k k' : IntKind} {n m : Int} (ho : o.op = .makeSlice t x y) (hw : WR B π lm s w) (hB : B ≤ w.heap.size)
  (hu : P.underlying t = some (.slice e)) (hn : sizeA P e = some es) (hb : bytesA P e = some bs) (hz : zeroA P e = some z) (hx : eval ts x = some (.int k n)) (hy : eval ts y = some (.int k' m))
  (h0 : 0 ≤ n) (h1 : n ≤ m) (h2 : m * bs ≤ 2 ^ 40) (h3 : m ≤ 2 ^ 40) (h4 : z.cells.length = es) (r : LR π lm ts a.tmps.toList) :
  OpOk P B π lm s w o a (.slice s.heap.length 0 n.toNat m.toNat true es) (newBlk s e (rep z.cells m.toNat)):=by
 obtain ⟨u,hzu,hv⟩:=zero_rel (π:=π) (lm:=lm) hz w
 have ex:=(eval_rel hx r).int_inv
 have ey:=(eval_rel hy r).int_inv
 have hcl:=hv.cells
 have hsz : u.cells.size = es:=by have:=hcl.1; simp at this; omega
 simp only [bytesA,Option.map_eq_some_iff] at hb
 obtain ⟨i,hi,rfl⟩:=hb
 have wn : IntKind.i64.wrap n = n:=IntWalk.i64_in _ (by omega)
 have wm : IntKind.i64.wrap m = m:=IntWalk.i64_in _ (by omega)
 have hrow : LR π lm (rep z.cells m.toNat) (((Array.range (m.toNat * es)).map fun i=>u.cells[i % u.cells.size]!).toList):=by
  rw [← hsz,zeros_eq]; exact rep_rel hcl _
 obtain ⟨k1,k2⟩:=hw.new hB e hrow.take_self
 refine ⟨_,.slice (some ⟨w.heap.size,0,none⟩) n.toNat m.toNat,_,_,?_,.inl rfl,.sliceEx (n:=((Array.range (m.toNat * es)).map fun i=>u.cells[i % u.cells.size]!).size) (by simp [Inj.more]),k1,k2⟩
 have h5 : (i.bytes : Int) * m = m * i.bytes:=Int.mul_comm _ _
 have hbig : ¬ ((i.bytes : Int) * m > 2 ^ 48):=by rw [h5]; omega
 have hm0 : ¬ m < 0:=by omega
 have hn0 : ¬ n < 0:=by omega
 have hnm : ¬ n > m:=by omega
 simp only [execOp,ho,Instr.makeSlice,Sem.run_bind,run_underlying hu,Result.andThen_ok,ex,ey,asInt,asIntOf,run_typeInfo' hi,wn,wm,Sem.run_pure]
 simp only [hm0,hbig,hn0,hnm,decide_false,Bool.or_false,Bool.false_eq_true,if_false,Result.andThen_ok,newRow,Sem.run_bind,run_newObj,Sem.run_pure,run_askRoom,run_sizeOf' hn,Sem.run_ite]
 by_cases hz0 : m.toNat * es = 0
 ·have h0 : Array.range 0 = #[]:=rfl
  simp [hz0,h0]
 ·simp [hz0,hzu]
end Go.Ev
/- Slices: literals, cuts, len, append. -/
namespace Go.Ev
open Go.RowKit (Below)
set_option linter.unusedSectionVars false
variable [Rho]
variable {P : Program} {B : Nat} {π : Inj} {lm : List Nat} {s : St} {w : World} {ts : List AV} {a : Act}
theorem op_buildSlice {o : Oper} {t e : TypeId} {len es : Nat} {z : AV} {xs : Array (Nat × Operand)} {ps : List (Nat × AV)} {cs : List AV} (ho : o.op = .buildSlice t len xs) (hw : WR B π lm s w)
  (hB : B ≤ w.heap.size) (hu : P.underlying t = some (.slice e)) (hn : sizeA P e = some es) (hz : zeroA P e = some z) (hx : evalParts ts xs.toList = some ps) (h1 : ¬ len * es > 2 ^ 24)
  (h2 : z.cells.length = es) (h : fillA (fun i=>some (i * es,es)) (rep z.cells len) ps = some cs) (r : LR π lm ts a.tmps.toList) :
  OpOk P B π lm s w o a (.slice s.heap.length 0 len len true es) (newBlk s e cs):=by
 obtain ⟨e1,e2⟩:=evalParts_rel hx r
 have hq1 : ps.map (·.1) = ((xs.map fun (x : Nat × Operand)=>(x.1,a.eval x.2)).toList).map (·.1):=by rw [e1]; simp
 have hq2 : LR π lm (ps.map (·.2)) (((xs.map fun (x : Nat × Operand)=>(x.1,a.eval x.2)).toList).map (·.2)):=by
  have : ((xs.map fun (x : Nat × Operand)=>(x.1,a.eval x.2)).toList).map (·.2) = xs.toList.map fun x=>a.eval x.2:=by simp
  rw [this]; exact e2
 obtain ⟨u,hzu,hv⟩:=zero_rel (π:=π) (lm:=lm) hz w
 have hcl:=hv.cells
 have hsz : u.cells.size = es:=by have:=hcl.1; simp at this; omega
 have hrow : LR π lm (rep z.cells len) (((Array.range (len * es)).map fun i=>u.cells[i % u.cells.size]!).toList):=by
  rw [← hsz,zeros_eq]; exact rep_rel hcl _
 obtain ⟨d,hd,hdr⟩:=fill_rel hrow hq1 hq2 h
 obtain ⟨k1,k2⟩:=hw.new hB e hdr.take_self
 refine ⟨_,.slice (some ⟨w.heap.size,0,none⟩) len len,_,_,?_,.inl rfl,.sliceEx (n:=d.size) (by simp [Inj.more]),k1,k2⟩
 simp only [execOp,ho,Instr.buildSlice,Sem.run_bind,run_underlying hu,Result.andThen_ok,run_sizeOf' hn]
 rw [if_neg h1]
 by_cases hz0 : len * es = 0
 ·have h0 : Array.range 0 = #[]:=rfl
  have hd' : Instr.fill (fun i=>some (i * es,es)) #[] ((xs.map fun (x : Nat × Operand)=>(x.1,a.eval x.2)).toList) = some d:=by
   rw [← hd]; simp [hz0,h0]
  simp only [Array.toList_map] at hd'
  simp [hz0,h0,hd',newRow]
 ·simp only [Array.toList_map] at hd
  simp [hz0,hzu,hd,newRow]
def OR (π : Inj) (lm : List Nat) : Option AV → Option Value → Prop
 | none,none=>True
 | some v,some c=>VR π lm v c
 | _,_=>False
theorem evalOpt_rel {x : Option Operand} {v : Option AV} (h : evalOpt ts x = some v) (r : LR π lm ts a.tmps.toList) : OR π lm v (x.map a.eval):=by
 cases x with
 | none=>simp [evalOpt] at h; subst h; trivial
 | some x =>
  simp only [evalOpt,Option.map_eq_some_iff] at h
  obtain ⟨u,hu,rfl⟩:=h
  exact eval_rel hu r
theorem bound_some {v : AV} {c : Value} {d top top' k : Nat} (hv : VR π lm v c) (h : boundA (some v) d top = some k) (ht : top ≤ top') (code : BoundsCode) (w : World) :
  (Instr.sliceBound c top' code).run P w = .ok k w:=by
 cases v with
 | int kk n =>
  simp only [boundA] at h
  split at h
  ·rename_i hr
   simp at h; subst h
   have:=VR.int_inv hv
   subst this
   simp only [Instr.sliceBound,asIntOf,Sem.run_bind,Sem.run_pure,Result.andThen_ok]
   rw [if_pos (by omega)]
   rfl
  ·cases h
 | _=>cases h
theorem bounds_rel {lo hi : Option AV} {cl ch : Option Value} {len cap cap' l h : Nat} (isSlice : Bool) (hl : OR π lm lo cl) (hh : OR π lm hi ch) (h1 : boundA hi len cap = some h) (h2 : boundA lo 0 h = some l)
  (hc : cap ≤ cap') : (Instr.sliceBounds isSlice len cap' cl ch none).run P w = .ok (l,h,cap') w:=by
 cases hi with
 | none =>
  cases ch with
  | some c=>exact hh.elim
  | none =>
   simp [boundA] at h1
   subst h1
   cases lo with
   | none =>
    cases cl with
    | some c=>exact hl.elim
    | none =>
     simp [boundA] at h2
     subst h2
     simp [Instr.sliceBounds]
   | some v =>
    cases cl with
    | none=>exact hl.elim
    | some c=>simp [Instr.sliceBounds,bound_some (P:=P) hl h2 (Nat.le_refl _)]
 | some u =>
  cases ch with
  | none=>exact hh.elim
  | some cu =>
   cases lo with
   | none =>
    cases cl with
    | some c=>exact hl.elim
    | none =>
     simp [boundA] at h2
     subst h2
     simp [Instr.sliceBounds,bound_some (P:=P) hh h1 hc]
   | some v =>
    cases cl with
    | none=>exact hl.elim
    | some c=>simp [Instr.sliceBounds,bound_some (P:=P) hl h2 (Nat.le_refl _),bound_some (P:=P) hh h1 hc]
theorem boundA_le {v : Option AV} {d top k : Nat} (h : boundA v d top = some k) : k ≤ top ∨ k = d:=by
 unfold boundA at h
 split at h
 ·simp at h; exact .inr h.symm
 ·split at h
  ·simp at h; left; omega
  ·cases h
 ·cases h
theorem op_slice {o : Oper} {t : TypeId} {x : Operand} {lo hi : Option Operand} {v v' : AV} {l h : Option AV} (ho : o.op = .slice t x lo hi none) (hw : WR B π lm s w) (hx : eval ts x = some v)
  (hl : evalOpt ts lo = some l) (hh : evalOpt ts hi = some h) (hs : sliceOf P t v l h = some v') (r : LR π lm ts a.tmps.toList) : OpOk P B π lm s w o a v' s:=by
 have rx:=eval_rel hx r
 have rl:=evalOpt_rel hl r
 have rh:=evalOpt_rel hh r
 unfold sliceOf at hs
 split at hs
 ·rename_i n e b off hu
  split at hs
  ·rename_i es hi' hn h1
   split at hs
   ·rename_i lo' h2
    simp at hs; subst hs
    obtain ⟨b',m,hp,hc⟩:=VR.ptr_inv rx
    refine .still hw (c:=.slice (some (if n = lo' then ⟨b',off,none⟩ else ⟨b',off + lo' * es,none⟩)) (hi' - lo') (n - lo')) ?_ ?_
    ·simp only [execOp,ho,Instr.sliceAt,Sem.run_bind,run_underlying hu,Result.andThen_ok,hc,Instr.sureAddr,Sem.run_pure,Option.map_none,
      bounds_rel (P:=P) (w:=w) false rl rh h1 h2 (Nat.le_refl _),run_sizeOf' hn,addr_add]
    ·by_cases hnl : n = lo'
     ·simp only [hnl,if_true]; exact .sliceEx hp
     ·simp only [hnl,if_false]; exact .sliceEx hp
   ·cases hs
  ·cases hs
 ·rename_i e b off len cap ex es hu
  split at hs
  ·rename_i n hi' hn h1
   split at hs
   ·rename_i hes
    subst hes
    split at hs
    ·rename_i lo' h2
     obtain ⟨b',m,cap',hp,hc,hex⟩:=VR.slice_inv rx
     have hcap : cap ≤ cap':=by rcases hex with ⟨_,h⟩ | ⟨_,h,_⟩ <;> omega
     have hrun : (execOp a.eval o).run P w = .ok (.value (.slice (if cap' = lo' then some ⟨b',off,none⟩ else some ⟨b',off + lo' * n,none⟩) (hi' - lo') (cap' - lo'))) w:=by
      simp only [execOp,ho,Instr.sliceAt,Sem.run_bind,run_underlying hu,Result.andThen_ok,Sem.run_pure,Option.map_none,hc,Instr.slice,
       bounds_rel (P:=P) (w:=w) true rl rh h1 h2 hcap,run_sizeOf' hn,addr_add,Option.map_some]
     split at hs
     ·rename_i hx1
      simp at hs; subst hs
      rcases hex with ⟨_,he⟩ | ⟨he,_⟩
      ·subst he
       refine .still hw hrun ?_
       by_cases hnl : cap' = lo'
       ·simp only [hnl,if_true]; exact .sliceEx hp
       ·simp only [hnl,if_false]; exact .sliceEx hp
      ·rw [he] at hx1; cases hx1
     ·rename_i hx1
      split at hs
      ·rename_i hlt
       simp at hs; subst hs
       rcases hex with ⟨he,_⟩ | ⟨_,h3,h4⟩
       ·exact absurd he hx1
       ·refine .still hw hrun ?_
        have hle : lo' ≤ cap':=by omega
        by_cases hnl : cap' = lo'
        ·have h0 : lo' = 0:=by omega
         subst h0
         simp only [hnl,if_true,Nat.zero_mul,Nat.add_zero,Nat.sub_zero]
         exact .sliceIn hp (by omega) (by rw [← h4,hnl])
        ·simp only [hnl,if_false]
         refine .sliceIn hp (by omega) ?_
         rw [← h4]
         have : cap' * n = lo' * n + (cap' - lo') * n:=by rw [← Nat.add_mul]; congr 1; omega
         omega
      ·cases hs
    ·cases hs
   ·cases hs
  ·cases hs
 ·rename_i e hu
  split at hs
  ·rename_i es hi' hn h1
   split at hs
   ·rename_i lo' h2
    simp at hs; subst hs
    have hc : a.eval x = .slice none 0 0:=by
     generalize a.eval x = cx at rx
     cases rx; rfl
    have b1:=boundA_le h1
    have b2:=boundA_le h2
    have e1 : hi' = 0:=by omega
    have e2 : lo' = 0:=by omega
    subst e1; subst e2
    refine .still hw (c:=.slice none 0 0) ?_ .nilSlice
    simp [execOp,ho,Instr.sliceAt,run_underlying hu,hc,Instr.slice,bounds_rel (P:=P) (w:=w) true rl rh h1 h2 (Nat.le_refl _),run_sizeOf' hn]
   ·cases hs
  ·cases hs
 ·cases hs
end Go.Ev
