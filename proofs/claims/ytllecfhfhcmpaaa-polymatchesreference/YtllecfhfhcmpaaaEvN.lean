/- The evaluator is right. -/
import Derived.Test.YtllecfhfhcmpaaaEvV
namespace Go.Ev
open Go.RowKit (Below)
set_option linter.unusedSectionVars false
variable [Rho]
variable {P : Program} {B : Nat} {π : Inj} {lm : List Nat} {s : St} {w : World} {ts : List AV} {a : Act}
theorem Post.trans {π1 : Inj} {lm1 : List Nat} {s1 s' : St} {w1 : World} {a1 : Act} {e : AExit} {ts' : List AV} {x : Exit} {a' : Act} {w' : World} (hw : WR B π1 lm1 s1 w1) (t : Tr π π1 lm lm1 s s1 w w1) (m : Mk w a a1 w1)
  (h : Post B π1 lm1 s1 w1 a1 e ts' s' x a' w') : Post B π lm s w a e ts' s' x a' w':=by
 obtain ⟨h1,π',lm',h2,h3,h4,h5⟩:=h
 exact ⟨h1,π',lm',h2,h3,t.trans h4,m.trans h5 hw h4 t.size⟩
theorem rounds_mono {F : Fence} {n : Nat} {c : Code} {Q Q' : Exit → Act → World → Prop} (hq : ∀ e a w,Q e a w → Q' e a w) : ∀ (m : Nat) (a : Act) (w : World),Code.roundsIn F n P c Q m a w → Code.roundsIn F n P c Q' m a w
 | 0,_,_,h=>h.elim
 | m + 1,a,w,h=>by
  rw [roundsIn_succ] at h ⊢
  refine wpIn_mono h fun e a1 w1 he=>?_
  cases e with
  | normal=>exact rounds_mono hq m a1 w1 he
  | _=>exact hq _ _ _ he
def SLoop (P : Program) (n : Nat) (code : Code → List AV → St → Option (AExit × List AV × St)) : Prop:=
 ∀ c ts s e ts' s',code (.loop c) ts s = some (e,ts',s') → ∀ B π lm w (a : Act) N ro,WR B π lm s w → B ≤ w.heap.size → LR π lm ts a.tmps.toList → (∀ L0,ro = some L0 → L0 ∈ lm) →
  Code.roundsIn (Fr ro) N P c (Post B π lm s w a e ts' s') n a w
theorem lm_sub {π' : Inj} {lm' : List Nat} {s' : St} {w' : World} (t : Tr π π' lm lm' s s' w w') {ro : Option Nat} (h : ∀ L0,ro = some L0 → L0 ∈ lm) : ∀ L0,ro = some L0 → L0 ∈ lm':=fun L0 e=>by
 obtain ⟨x,rfl,_⟩:=t.lmx
 exact List.mem_append_left _ (h L0 e)
theorem EX.normal {x : Exit} (h : EX .normal x) : x = .normal:=by cases x <;> first | rfl | exact h.elim
variable [Know] [KnowOk]
theorem loop_sound {n : Nat} {rec : Ev} (hc : SCode P rec.code) (hl : SLoop P n rec.code) : SLoop P (n + 1) (evCode P rec):=by
 intro c ts s e ts' s' h B π lm w a N ro hw hB r hro
 simp only [evCode] at h
 rw [roundsIn_succ]
 split at h
 ·rename_i ts1 s1 h1
  refine wpIn_mono (hc _ _ _ _ _ _ h1 B π lm w a N ro hw hB r hro) ?_
  rintro x a1 w1 ⟨hx,π1,lm1,k1,k2,k3,k4⟩
  obtain rfl:=hx.normal
  refine rounds_mono ?_ n a1 w1 (hl _ _ _ _ _ _ h B π1 lm1 w1 a1 N ro k1 (Nat.le_trans hB k3.size) k2 (lm_sub k3 hro))
  intro x2 a2 w2 hp
  exact hp.trans k1 k3 k4
 ·rename_i hne
  refine wpIn_mono (hc _ _ _ _ _ _ h B π lm w a N ro hw hB r hro) ?_
  intro x a1 w1 hp
  cases x with
  | normal =>
   have : e = .normal:=by
    have:=hp.1
    cases e <;> first | rfl | exact this.elim
   subst this
   exact absurd h (hne _ _)
  | _=>exact hp
set_option maxHeartbeats 1000000 in
theorem range_sound {rec : Ev} (hname : ∀ (f : Nat) (fn : Func),P.funcs[f]? = some fn → fn.name ≠ "runtime.NumGoroutine") (hcall : SCall P rec.call) {f : Operand} {ps : Array Tmp} {assign body : Code} {e : AExit} {ts' : List AV} {s' : St}
  (h : evCode P rec (.rangeFunc f ps assign body) ts s = some (e,ts',s')) (N : Nat) (ro : Option Nat) (hw : WR B π lm s w) (hB : B ≤ w.heap.size) (r : LR π lm ts a.tmps.toList) (hro : ∀ L0,ro = some L0 → L0 ∈ lm) :
  (Code.rangeFunc f ps assign body).wpIn (Fr ro) N P (Post B π lm s w a e ts' s') a w:=by
 simp only [evCode] at h
 split at h
 ·rename_i g l1 l2 hf
  split at h
  ·rename_i v s' q hcl
   obtain ⟨a1,a2,hv,hl1,hl2⟩:=VR.fn_inv (eval_rel hf r)
   obtain ⟨⟨fn,bd,hg,hbd⟩,_,hcall'⟩:=hcall _ _ _ _ _ _ hcl
   refine wpIn_rangeFunc fun cf _=>?_
   have enter : ∃ (L : Nat) (mk : List Deferred) (w1 : World) (D : Nat),(Instr.enterLoop cf a.tmps ps assign body (Fr ro).round).run P w = .ok (L,mk) w1 ∧
     (∀ r,r < w.heap.size → w1.heap[r]? = w.heap[r]?) ∧ w.heap.size ≤ w1.heap.size ∧ w1.os = w.os ∧ w1.tape = w.tape ∧ w1.output = w.output ∧ w.heap.size ≤ L ∧
     w1.heap[L]? = some (.loop { state:=.ready,pending:=none,fn:=cf,tmps:=a.tmps,params:=ps,assign,body,defers:=D }) ∧
     (mk = [] ∨ (mk = [mark w.heap.size] ∧ L ≠ w.heap.size ∧ w1.heap[w.heap.size]? = some (.deferred (some [])))):=by
    cases ro with
    | none =>
     refine ⟨_,_,_,w.heap.size,run_enterLoop_outer cf a.tmps ps assign body,?_,by simp; omega,rfl,rfl,rfl,by omega,?_,.inr ⟨rfl,by omega,?_⟩⟩
     ·intro r hr
      rw [Below.heap_alloc _ _ _ (by simp; omega),Below.heap_alloc _ _ _ hr]
     ·have:=World.alloc_heap_new (w.alloc (.deferred (some []))) (.loop { state:=.ready,pending:=none,fn:=cf,tmps:=a.tmps,params:=ps,assign,body,defers:=w.heap.size })
      rwa [World.size_alloc] at this
     ·rw [Below.heap_alloc _ _ _ (by simp)]
      exact World.alloc_heap_new w _
    | some L0 =>
     obtain ⟨r0,hr0⟩:=hw.loop_lt (hro L0 rfl)
     refine ⟨_,_,_,r0.defers,run_enterLoop_inner hr0 cf a.tmps ps assign body,?_,by simp,rfl,rfl,rfl,Nat.le_refl _,World.alloc_heap_new w _,.inl rfl⟩
     intro r hr
     rw [Below.heap_alloc _ _ _ hr]
   obtain ⟨L,mk,w1,D,e1,e2,e3,e4,e5,e6,e7,e8,e9⟩:=enter
   obtain ⟨p1,p2⟩:=hw.pushLoop e2 e3 e4 e5 e6 e7 (r:={ tmps:=ts,params:=ps.toList,assign,body,stat:=.ready }) (by simpa using e8) r rfl
   have hyield : VR π (lm ++ [L]) (.yield s.loops.length) (.func (.yield L) #[] #[]):=.yield (by rw [← hw.lsz]; simp)
   have hargs : LR π (lm ++ [L]) (l1 ++ (.yield s.loops.length :: l2)) (a1 ++ #[Value.func (.yield L) #[] #[]] ++ a2).toList:=by
    simp only [Array.toList_append,List.append_assoc]
    exact (p2.lr hl1).append (LR.cons hyield (p2.lr hl2))
   refine ⟨L,mk,w1,{ target:=.fn (.func g) a2,args:=a1 ++ #[Value.func (.yield L) #[] #[]] },w1,g,a1 ++ #[Value.func (.yield L) #[] #[]] ++ a2,w1,e1,?_,fun _ _=>trivial,?_,
    fun hh=>by simp [Fr,Fence.wide] at hh,(hcall' B π (lm ++ [L]) w1 (a1 ++ #[Value.func (.yield L) #[] #[]] ++ a2) (N - 1) ro p1 (Nat.le_trans hB e3) hargs).mono ?_⟩
   ·have hcv : ∀ v,a.eval (.const v) = v:=fun _=>rfl
    simp [resolve,hv,hcv,Deferred.ofValue]
   ·simp [invoke,call_run hg hbd (hname g fn hg)]
   ·rintro ee w3 ⟨cv,π',lm',rfl,q1,q2,q3⟩
    have hL' : lm'[s.loops.length]? = some L:=q3.lmono _ _ (by rw [← hw.lsz]; simp)
    have htot:=p2.trans q3
    have stat : ∀ {x : LStat},statAt s' s.loops.length = some x → ∃ rr : ALoop,s'.loops[s.loops.length]? = some rr ∧ rr.stat = x:=fun hx=>by
     unfold statAt at hx
     rw [Option.map_eq_some_iff] at hx
     exact hx
    have marks : ∀ {o : Obj},Mk w a { a with defers:=mk ++ a.defers } (w3.putObj L o):=fun {o}=>by
     rcases e9 with rfl | ⟨rfl,k1,k2⟩
     ·exact Mk.same rfl
     ·refine ⟨[w.heap.size],rfl,by simp,fun D' hD'=>?_⟩
      simp at hD'; subst hD'
      refine ⟨Nat.le_refl _,?_⟩
      rw [putObj_other (Ne.symm k1)]
      obtain ⟨m1,m2⟩:=p1.not_img k2
      rw [q3.keep _ (lt_of_some k2) m1 m2]; exact k2
    have finish : ∀ {rr : ALoop},s'.loops[s.loops.length]? = some rr → ∃ (L' : Nat) (fn' : FuncId) (D' : Nat) (tv : Array Value) (st : LoopState) (pd : Option Code),L' = L ∧
      w3.heap[L]? = some (.loop { state:=st,pending:=pd,fn:=fn',tmps:=tv,params:=rr.params.toArray,assign:=rr.assign,body:=rr.body,defers:=D' }) ∧ rr.stat.rel st pd ∧
      WR B π' lm' (setStat s' s.loops.length .over) (w3.putObj L (.loop { state:=.exhausted,pending:=pd,fn:=fn',tmps:=tv,params:=rr.params.toArray,assign:=rr.assign,body:=rr.body,defers:=D' })) ∧
      Tr π π' lm lm' s (setStat s' s.loops.length .over) w (w3.putObj L (.loop { state:=.exhausted,pending:=pd,fn:=fn',tmps:=tv,params:=rr.params.toArray,assign:=rr.assign,body:=rr.body,defers:=D' })):=fun {rr} hrr=>by
     obtain ⟨L',fn',D',tv,st,pd,m1,m2,m3,m4⟩:=q2.loop _ rr hrr
     rw [hL'] at m1
     obtain rfl:=Option.some.inj m1
     exact ⟨L,fn',D',tv,st,pd,rfl,m2,m3,q2.setStat hrr hL' .over trivial m4,htot.putNew hw e7 (setStat_heap _ _ _) (setStat_lo _ _ _) (setStat_nd _ _ _)⟩
    split at h
    ·rename_i hst
     simp only [Option.some.injEq,Prod.mk.injEq] at h
     obtain ⟨rfl,rfl,rfl⟩:=h
     obtain ⟨rr,hrr,hrs⟩:=stat hst
     obtain ⟨L',fn',D',tv,st,pd,_,m2,m3,m4,m5⟩:=finish hrr
     have : st = .ready ∧ pd = none:=by
      rw [hrs] at m3
      cases st <;> cases pd <;> simp [LStat.rel] at m3 ⊢
     obtain ⟨rfl,rfl⟩:=this
     exact ⟨none,_,run_endLoop m2 (by simp),⟨trivial,π',lm',m4,m5.lr r,m5,marks⟩⟩
    ·rename_i hst
     simp only [Option.some.injEq,Prod.mk.injEq] at h
     obtain ⟨rfl,rfl,rfl⟩:=h
     obtain ⟨rr,hrr,hrs⟩:=stat hst
     obtain ⟨L',fn',D',tv,st,pd,_,m2,m3,m4,m5⟩:=finish hrr
     have : st = .done ∧ pd = some .ret:=by
      rw [hrs] at m3
      cases st <;> cases pd <;> simp [LStat.rel] at m3 ⊢
      exact m3.symm
     obtain ⟨rfl,rfl⟩:=this
     exact ⟨some .ret,_,run_endLoop m2 (by simp),wpIn_ret ⟨trivial,π',lm',m4,m5.lr r,m5,marks⟩⟩
    ·rename_i id hst
     simp only [Option.some.injEq,Prod.mk.injEq] at h
     obtain ⟨rfl,rfl,rfl⟩:=h
     obtain ⟨rr,hrr,hrs⟩:=stat hst
     obtain ⟨L',fn',D',tv,st,pd,_,m2,m3,m4,m5⟩:=finish hrr
     have : st = .done ∧ pd = some (.exit id):=by
      rw [hrs] at m3
      cases st <;> cases pd <;> simp [LStat.rel] at m3 ⊢
      exact m3.symm
     obtain ⟨rfl,rfl⟩:=this
     exact ⟨some (.exit id),_,run_endLoop m2 (by simp),wpIn_exit ⟨rfl,π',lm',m4,m5.lr r,m5,marks⟩⟩
    ·cases h
  ·cases h
 ·cases h
theorem code_sound {n : Nat} {rec : Ev} (hmix : P.follows .mixedOrders = true) (hname : ∀ (f : Nat) (fn : Func),P.funcs[f]? = some fn → fn.name ≠ "runtime.NumGoroutine") (hcall : SCall P rec.call) (hround : SRound P rec.round) (hc : SCode P rec.code) (hl : SLoop P n rec.code) :
  SCode P (evCode P rec):=by
 intro c ts s e ts' s' h B π lm w a N ro hw hB r hro
 have refl : ∀ {x : Exit} {e : AExit},EX e x → Post B π lm s w a e ts s x a w:=fun hx=>⟨hx,π,lm,hw,r,Tr.refl _ _ _ hw.dom,Mk.refl _ _ _⟩
 cases c with
 | skip =>
  simp only [evCode,Option.some.injEq,Prod.mk.injEq] at h
  obtain ⟨rfl,rfl,rfl⟩:=h
  exact wpIn_skip (refl trivial)
 | label l =>
  simp only [evCode,Option.some.injEq,Prod.mk.injEq] at h
  obtain ⟨rfl,rfl,rfl⟩:=h
  exact wpIn_label (refl trivial)
 | exit id =>
  simp only [evCode,Option.some.injEq,Prod.mk.injEq] at h
  obtain ⟨rfl,rfl,rfl⟩:=h
  exact wpIn_exit (refl rfl)
 | ret =>
  simp only [evCode,Option.some.injEq,Prod.mk.injEq] at h
  obtain ⟨rfl,rfl,rfl⟩:=h
  exact wpIn_ret (refl trivial)
 | region id ops draw =>
  cases draw with
  | true =>
   simp only [evCode] at h
   split at h
   ·rename_i hu
    unfold useChain at hu
    rw [Bool.and_eq_true] at hu
    split at h
    ·rename_i ts1 s1 hd
     simp only [Option.some.injEq,Prod.mk.injEq] at h
     obtain ⟨rfl,rfl,rfl⟩:=h
     exact chain_sound hmix hname hcall hround id hu.1 hd hw hB r N ro (Post B π lm s w a .normal ts1 s1)
      (fun a' w' π' lm' k1 k2 k3 k4=>⟨trivial,π',lm',k1,k2,k3,Mk.same k4⟩)
    ·cases h
   ·split at h
    ·rename_i hok
     split at h
     ·rename_i ts1 s1 hd
      simp only [Option.some.injEq,Prod.mk.injEq] at h
      obtain ⟨rfl,rfl,rfl⟩:=h
      exact draw_sound hmix hname hcall hround id hok hd hw hB r N ro (Post B π lm s w a .normal ts1 s1)
       (fun a' w' π' lm' k1 k2 k3 k4=>⟨trivial,π',lm',k1,k2,k3,Mk.same k4⟩)
     ·cases h
    ·split at h
     ·rename_i hfl
      split at h
      ·rename_i ts1 s1 hd
       simp only [Option.some.injEq,Prod.mk.injEq] at h
       obtain ⟨rfl,rfl,rfl⟩:=h
       exact float_sound hmix hname hcall hround id hfl rfl hd hw hB r N ro (Post B π lm s w a .normal ts1 s1)
        (fun a' w' π' lm' k1 k2 k3 k4=>⟨trivial,π',lm',k1,k2,k3,Mk.same k4⟩)
      ·cases h
     ·cases h
  | false =>
   simp only [evCode] at h
   split at h
   ·rename_i ts1 s1 hops
    simp only [Option.some.injEq,Prod.mk.injEq] at h
    obtain ⟨rfl,rfl,rfl⟩:=h
    refine wpIn_region ?_
    have:=ops_sound hname hcall hround ops N ro (Post B π lm s w a .normal ts1 s1) ops.toList 0 ts s π lm w a (by simp) hops hw hB r
     (fun a' w' π' lm' k1 k2 k3 k4=>⟨trivial,π',lm',k1,k2,k3,Mk.same k4⟩)
    rw [List.range_eq_range']
    simpa using this
   ·cases h
 | seq x y =>
  simp only [evCode] at h
  refine wpIn_seq ?_
  split at h
  ·rename_i ts1 s1 h1
   refine wpIn_mono (hc _ _ _ _ _ _ h1 B π lm w a N ro hw hB r hro) ?_
   rintro z a1 w1 ⟨hx,π1,lm1,k1,k2,k3,k4⟩
   obtain rfl:=hx.normal
   refine wpIn_mono (hc _ _ _ _ _ _ h B π1 lm1 w1 a1 N ro k1 (Nat.le_trans hB k3.size) k2 (lm_sub k3 hro)) ?_
   intro x2 a2 w2 hp
   exact hp.trans k1 k3 k4
  ·rename_i hne
   refine wpIn_mono (hc _ _ _ _ _ _ h B π lm w a N ro hw hB r hro) ?_
   intro z a1 w1 hp
   cases z with
   | normal =>
    have : e = .normal:=by
     have:=hp.1
     cases e <;> first | rfl | exact this.elim
    subst this
    exact absurd h (hne _ _)
   | _=>exact hp
 | cond c x y =>
  simp only [evCode] at h
  split at h
  ·rename_i b hb
   exact wpIn_cond (VR.bool_inv (eval_rel hb r)) (hc _ _ _ _ _ _ h B π lm w a N ro hw hB r hro)
  ·cases h
 | block id body =>
  simp only [evCode] at h
  refine wpIn_block ?_
  split at h
  ·rename_i id' ts1 s1 h1
   refine wpIn_mono (hc _ _ _ _ _ _ h1 B π lm w a N ro hw hB r hro) ?_
   rintro z a1 w1 ⟨hx,hp⟩
   cases z with
   | exit j =>
    have hj : id' = j:=hx
    subst hj
    by_cases hid : id' = id
    ·simp only [Exit.inBlock,hid,if_true]
     rw [if_pos hid] at h
     simp only [Option.some.injEq,Prod.mk.injEq] at h
     obtain ⟨rfl,rfl,rfl⟩:=h
     exact ⟨trivial,hp⟩
    ·simp only [Exit.inBlock,hid,if_false]
     rw [if_neg hid] at h
     simp only [Option.some.injEq,Prod.mk.injEq] at h
     obtain ⟨rfl,rfl,rfl⟩:=h
     exact ⟨rfl,hp⟩
   | _=>exact hx.elim
  ·rename_i hne
   refine wpIn_mono (hc _ _ _ _ _ _ h B π lm w a N ro hw hB r hro) ?_
   intro z a1 w1 hp
   cases z with
   | exit j =>
    have : e = .exit j:=by
     have:=hp.1
     cases e <;> first | exact this.elim | (congr 1)
    subst this
    exact absurd h (hne _ _ _)
   | _=>exact hp
 | loop body=>exact wpIn_loop_rounds (n + 1) (loop_sound hc hl _ _ _ _ _ _ h B π lm w a N ro hw hB r hro)
 | rangeFunc f ps assign body=>exact range_sound hname hcall h N ro hw hB r hro
 | goto l=>simp [evCode] at h
 | scope body=>simp [evCode] at h
 | refuse why=>simp [evCode] at h
theorem round_sound {rec : Ev} (hc : SCode P rec.code) : SRound P (evRound rec):=by
 intro l args s b s' h
 unfold evRound at h
 split at h
 ·rename_i tmps params assign body hl
  split at h
  ·rename_i hlen
   refine ⟨_,hl,rfl,hlen,?_⟩
   intro B π lm w vs N ro L fn D tv hw hB hargs hL hobj htv
   split at h
   ·rename_i ts1 s1 h1
    split at h
    ·rename_i hst1
     split at h
     ·rename_i e ts2 s2 h2
      split at h
      ·rename_i hst2
       have hro : ∀ L0,(some L : Option Nat) = some L0 → L0 ∈ lm:=fun L0 e=>by
        obtain rfl:=Option.some.inj e; exact List.mem_of_getElem? hL
       refine roundIn_of_wpIn (F:=Fr ro) trivial ?_
       refine wpIn_mono (hc _ _ _ _ _ _ h1 B π lm w { tmps:=_,defers:=[] } N (some L) hw hB (params_rel' htv hargs) hro) ?_
       rintro x a1 w1 ⟨hx,π1,lm1,k1,k2,k3,k4⟩
       obtain rfl:=hx.normal
       have hL1:=k3.lmono _ _ hL
       have hm1 : L ∈ lm1:=List.mem_of_getElem? hL1
       unfold statAt at hst1
       rw [Option.map_eq_some_iff] at hst1
       obtain ⟨r1,hr1,hrs1⟩:=hst1
       obtain ⟨L',fn1,D1,tv1,st1,pd1,m1,m2,m3,m4⟩:=k1.loop l r1 hr1
       rw [hL1] at m1
       obtain rfl:=Option.some.inj m1
       have : st1 = .ready ∧ pd1 = none:=by
        rw [hrs1] at m3
        cases st1 <;> cases pd1 <;> simp [LStat.rel] at m3 ⊢
       obtain ⟨rfl,rfl⟩:=this
       refine ⟨_,run_beginRound m2 rfl,?_⟩
       have b1:=k1.setStat hr1 hL1 .busy (fn:=fn1) (D:=D1) (st:=.busy) (pd:=none) trivial m4
       have hro1 : ∀ L0,(some L : Option Nat) = some L0 → L0 ∈ lm1:=fun L0 e=>by
        obtain rfl:=Option.some.inj e; exact hm1
       refine wpIn_mono (hc _ _ _ _ _ _ h2 B π1 lm1 _ a1 N (some L) b1 (by rw [putObj_size]; exact Nat.le_trans hB k3.size) k2 hro1) ?_
       rintro x2 a2 w3 ⟨hx2,π2,lm2,q1,q2,q3,q4⟩
       have hL2:=q3.lmono _ _ hL1
       unfold statAt at hst2
       rw [Option.map_eq_some_iff] at hst2
       obtain ⟨r2,hr2,hrs2⟩:=hst2
       obtain ⟨L',fn2,D2,tv2,st2,pd2,n1,n2,n3,n4⟩:=q1.loop l r2 hr2
       rw [hL2] at n1
       obtain rfl:=Option.some.inj n1
       have : st2 = .busy ∧ pd2 = none:=by
        rw [hrs2] at n3
        cases st2 <;> cases pd2 <;> simp [LStat.rel] at n3 ⊢
       obtain ⟨rfl,rfl⟩:=this
       have lt1 : L < w1.heap.size:=lt_of_some m2
       have fin : ∀ (jump : Option Code) (x : LStat) (sx : St),x.rel (if jump.isNone then .ready else .done) jump → sx.heap = s2.heap → sx.loops = (setStat s2 l x).loops → sx.lo = s2.lo → s2.nd ≤ sx.nd →
         (jump.isNone = false → sx.nd ≠ s2.nd) → ∃ v w',(Instr.endRound L jump).run P w3 = .ok v w' ∧ v = .bool jump.isNone ∧ WR B π2 lm2 sx w' ∧ Tr π π2 lm lm2 s sx w w':=by
        intro jump x sx hrel g1 g2 g3 g4 g5
        refine ⟨_,_,run_endRound jump n2,rfl,?_,?_⟩
        ·exact (q1.setStat hr2 hL2 x hrel n4).congr (by rw [g1,setStat_heap]) g2
        ·refine k3.trans (q3.around k1 hm1 (setStat_heap _ _ _) (setStat_lo _ _ _) (setStat_nd _ _ _) g1 g3 g4 ?_)
         intro hnd
         have hq:=q3.nd_le
         rw [setStat_nd] at hq
         have hj : jump.isNone = true:=by
          cases hjj : jump.isNone with
          | true=>rfl
          | false=>exact absurd (by omega) (g5 hjj)
         have hkeep:=q3.lkeep (by rw [setStat_nd]; omega) L hm1
         rw [n2,putObj_heap,if_pos ⟨rfl,lt1⟩] at hkeep
         have e2:=Obj.loop.inj (Option.some.inj hkeep)
         rw [putObj_heap,if_pos ⟨rfl,lt_of_some n2⟩,m2]
         cases jump with
         | some c=>cases hj
         | none =>
          injection e2 with f1 f2 f3 f4 f5 f6 f7 f8
          subst f3; subst f4; subst f8
          rw [f5,f6,f7]
          rfl
       cases e with
       | normal =>
        obtain rfl:=hx2.normal
        simp only [Option.some.injEq,Prod.mk.injEq] at h
        obtain ⟨rfl,rfl⟩:=h
        obtain ⟨v,w',j1,rfl,j2,j3⟩:=fin none .ready (setStat s2 l .ready) trivial (setStat_heap _ _ _) rfl (setStat_lo _ _ _) (by rw [setStat_nd]; exact Nat.le_refl _) (by simp)
        exact ⟨_,w',j1,π2,lm2,rfl,j2,j3⟩
       | ret =>
        simp only [Option.some.injEq,Prod.mk.injEq] at h
        obtain ⟨rfl,rfl⟩:=h
        cases x2 with
        | ret =>
         obtain ⟨v,w',j1,rfl,j2,j3⟩:=fin (some .ret) (.done .ret) { setStat s2 l (.done .ret) with nd:=s2.nd + 1 } rfl (setStat_heap _ _ _) rfl (setStat_lo _ _ _) (by simp) (by simp)
         exact ⟨_,w',j1,π2,lm2,rfl,j2,j3⟩
        | _=>exact hx2.elim
       | exit id =>
        simp only [Option.some.injEq,Prod.mk.injEq] at h
        obtain ⟨rfl,rfl⟩:=h
        cases x2 with
        | exit j =>
         have hj : id = j:=hx2
         subst hj
         obtain ⟨v,w',j1,rfl,j2,j3⟩:=fin (some (.exit id)) (.done (.exit id)) { setStat s2 l (.done (.exit id)) with nd:=s2.nd + 1 } rfl (setStat_heap _ _ _) rfl (setStat_lo _ _ _) (by simp) (by simp)
         exact ⟨_,w',j1,π2,lm2,rfl,j2,j3⟩
        | _=>exact hx2.elim
       | goto i=>cases h
      ·cases h
     ·cases h
    ·cases h
   ·cases h
  ·cases h
 ·cases h
theorem leaves_marks {F : Fence} {n : Nat} {fn : Func} {tv : Array Value} {R : Ending → World → Prop} {v : AV} : ∀ (Ds : List Nat) {π : Inj} {lm : List Nat} {s : St} (w : World) (a : Act),a.tmps = tv → Ds.Nodup → (∀ D,D ∈ Ds → w.heap[D]? = some (.deferred (some []))) →
  WR B π lm s w → LR π lm ts tv.toList → resultsA P fn ts s = some v →
  (∀ c w',WR B π lm s w' → (∀ r,r ∉ Ds → w'.heap[r]? = w.heap[r]?) → w'.heap.size = w.heap.size → w'.os = w.os → w'.tape = w.tape → w'.output = w.output → VR π lm v c → R (.returned c) w') →
  LeavesInM F n P fn tv R (Ds.map mark) .returning w:=by
 intro Ds
 induction Ds with
 | nil =>
  intro π lm s w a ha _ _ hw hl hres hR
  subst ha
  obtain ⟨c,h1,h2⟩:=results_rel (P:=P) (a:=a) hw hl hres
  exact ⟨c,h1,hR c w hw (fun _ _=>rfl) rfl rfl rfl rfl h2⟩
 | cons D Ds ih =>
  intro π lm s w a ha hn hD hw hl hres hR
  rw [List.nodup_cons] at hn
  have hd:=hD D (by simp)
  obtain ⟨g1,g2⟩:=hw.not_img hd
  have g1' : ∀ i A n,s.heap[i]? = some (some A) → π i ≠ some (D,n):=fun i A n hA hp=>by
   obtain ⟨c,fz,hc,_⟩:=hw.at hA hp
   rw [hd] at hc; cases hc
  refine ⟨by simp,.inl ⟨D,_,rfl,run_takeDeferred hd,?_⟩⟩
  refine ih _ a ha hn.2 (fun D' hD'=>?_) (hw.putOther g1' g2) hl hres ?_
  ·rw [putObj_other (fun e : D' = D=>hn.1 (by rw [← e]; exact hD'))]
   exact hD D' (by simp [hD'])
  ·intro c w' k1 k2 k3 k4 k5 k6 k7
   refine hR c w' k1 (fun r hr=>?_) (k3.trans (putObj_size _ _ _)) k4 k5 k6 k7
   simp only [List.mem_cons,not_or] at hr
   rw [k2 r hr.2,putObj_other hr.1]
theorem call_sound {rec : Ev} (hc : SCode P rec.code) : SCall P (evCall P rec):=by
 intro f args s v s' q h
 unfold evCall at h
 split at h
 ·cases h
 ·rename_i fn hf
  split at h
  ·cases h
  ·rename_i c hb
   refine ⟨⟨fn,c,hf,hb⟩,?_,?_⟩
   ·intro hq
    subst hq
    split at h
    ·split at h
     ·split at h
      ·simp only [Option.some.injEq,Prod.mk.injEq] at h; exact h.2.1.symm
      ·simp at h
     ·cases h
    ·split at h
     ·split at h
      ·simp only [Option.some.injEq,Prod.mk.injEq] at h; exact h.2.1.symm
      ·simp at h
     ·cases h
    ·cases h
   intro B π lm w vs N ro hw hB hargs
   have rest : ∀ (e : AExit) (ts1 : List AV) (s1 : St),rec.code c (args ++ List.replicate (fn.ntmps - args.length) undefA) { s with lo:=s.heap.length } = some (e,ts1,s1) → (e = .normal ∨ e = .ret) →
     (match resultsA P fn ts1 s1 with
      | some v=>if s.heap.length ≤ s1.lo && s1.nd == s.nd && v.flat then some (v,s,true) else some (v,{ s1 with lo:=min s.lo s1.lo },false)
      | none=>none) = some (v,s',q) → CallsIn (Fr none) N P f vs w (CallPost B π lm s w v s'):=by
    intro e ts1 s1 h1 he hres
    have hw0 : WR B π lm { s with lo:=s.heap.length } w:=hw.congr rfl rfl
    have hl0 : LR π lm (args ++ List.replicate (fn.ntmps - args.length) undefA) (vs ++ Array.replicate (fn.ntmps - vs.size) undef).toList:=by
     have : args.length = vs.size:=by have:=hargs.1; simpa using this
     rw [Array.toList_append,Array.toList_replicate,this]
     exact hargs.append (LR.replicate .undef _)
    refine callsIn_of_wp_marks hf hb trivial ?_ rfl
    refine wpIn_mono (hc _ _ _ _ _ _ h1 B π lm w { tmps:=vs ++ Array.replicate (fn.ntmps - vs.size) undef,defers:=[] } N none hw0 hB hl0 (fun L0 e=>by cases e)) ?_
    rintro x a1 w1 ⟨hx,π1,lm1,k1,k2,k3,Ds,k4,k5,k6⟩
    have goal : LeavesInM (Fr none) N P fn a1.tmps (CallPost B π lm s w v s') a1.defers .returning w1:=by
     simp only [List.append_nil] at k4
     rw [k4]
     split at hres
     ·rename_i v1 hv1
      refine leaves_marks Ds w1 a1 rfl k5 (fun D hD=>(k6 D hD).2) k1 k2 hv1 ?_
      intro cv w' m1 m2 m3 m4 m5 m6 m7
      have old : ∀ r,r < w.heap.size → w'.heap[r]? = w1.heap[r]?:=fun r hr=>m2 r (fun hD=>by have:=(k6 r hD).1; omega)
      have tr : Tr π π1 lm lm1 { s with lo:=s.heap.length } s1 w w':=
       ⟨m4.trans k3.os,m5.trans k3.tape,m6.trans k3.output,by rw [m3]; exact k3.size,fun r hr g1 g2=>(old r hr).trans (k3.keep r hr g1 g2),
        fun i A b n hA hlo hp=>(old b (hw0.img_lt hA hp)).trans (k3.low i A b n hA hlo hp),k3.same,
        fun hnd L hL=>by
         obtain ⟨r,hr⟩:=hw0.loop_lt hL
         exact (old L (lt_of_some hr)).trans (k3.lkeep hnd L hL),
        k3.lo_le,k3.nd_le,k3.le,k3.old,k3.len,k3.liv,k3.new,k3.lmx⟩
      split at hres
      ·rename_i hq
       simp only [Bool.and_eq_true,decide_eq_true_eq,beq_iff_eq] at hq
       simp only [Option.some.injEq,Prod.mk.injEq] at hres
       obtain ⟨rfl,rfl,rfl⟩:=hres
       have keepB : ∀ i A b n,s.heap[i]? = some (some A) → π i = some (b,n) → w'.heap[b]? = w.heap[b]?:=fun i A b n hA hp =>
        tr.low i A b n hA (by have:=(List.getElem?_eq_some_iff.1 hA).1; omega) hp
       have keepL : ∀ (L : Nat),L ∈ lm → w'.heap[L]? = w.heap[L]?:=tr.lkeep hq.1.2
       refine ⟨cv,π,lm,rfl,flat_rel hq.2 m7 π lm,?_,?_⟩
       ·refine ⟨hw.dom,?_,hw.inj,hw.lsz,hw.linj,?_⟩
        ·intro i A hA
         obtain ⟨b,n,c',fz,g1,g2,g3⟩:=hw.blk i A hA
         exact ⟨b,n,c',fz,g1,by rw [keepB i A b n hA g1]; exact g2,g3⟩
        ·intro l r hr
         obtain ⟨L,fn',D,ts',st,pd,g1,g2,g3⟩:=hw.loop l r hr
         exact ⟨L,fn',D,ts',st,pd,g1,by rw [keepL L (List.mem_of_getElem? g1)]; exact g2,g3⟩
       ·exact { Tr.refl π lm w hw.dom with
         os:=tr.os,tape:=tr.tape,output:=tr.output,size:=tr.size
         keep:=tr.keep
         low:=fun i A b n hA _ hp=>keepB i A b n hA hp
         lkeep:=fun _ L hL=>keepL L hL }
      ·simp only [Option.some.injEq,Prod.mk.injEq] at hres
       obtain ⟨rfl,rfl,rfl⟩:=hres
       refine ⟨cv,π1,lm1,rfl,m7,m1.congr rfl rfl,?_⟩
       exact ⟨tr.os,tr.tape,tr.output,tr.size,tr.keep,fun i A b n hA hlo hp=>tr.low i A b n hA (by simp at hlo; omega) hp,fun i hi hlo=>tr.same i hi (by simp at hlo; omega),tr.lkeep,Nat.min_le_left _ _,tr.nd_le,tr.le,tr.old,
        tr.len,tr.liv,tr.new,tr.lmx⟩
     ·cases hres
    rcases he with rfl | rfl
    ·cases x with
     | normal=>exact goal
     | _=>exact hx.elim
    ·cases x with
     | ret=>exact goal
     | _=>exact hx.elim
   have all : CallsIn (Fr none) N P f vs w (CallPost B π lm s w v s'):=by
    split at h
    ·rename_i ts1 s1 h1; exact rest _ _ _ h1 (.inl rfl) h
    ·rename_i ts1 s1 h1; exact rest _ _ _ h1 (.inr rfl) h
    ·cases h
   cases ro with
   | none=>exact all
   | some l=>exact CallsIn.inRound l all
def OrcOk (P : Program) (orc : Orc) : Prop:=SCall P orc
omit [Know] [KnowOk] in
theorem noOrc_ok (P : Program) : OrcOk P noOrc:=fun f args s v s' q h=>by cases h
theorem callO_sound {orc : Orc} {rec : Ev} (ho : OrcOk P orc) (hc : SCode P rec.code) : SCall P (evCallO P orc rec):=by
 intro f args s v s' q h
 unfold evCallO at h
 split at h
 ·rename_i r hv
  simp only [Option.some.injEq] at h
  subst h
  exact ho f args s v s' q hv
 ·exact call_sound hc f args s v s' q h
theorem ev_sound {orc : Orc} (ho : OrcOk P orc) (hmix : P.follows .mixedOrders = true) (hname : ∀ (f : Nat) (fn : Func),P.funcs[f]? = some fn → fn.name ≠ "runtime.NumGoroutine") :
  ∀ n,SCall P (ev P orc n).call ∧ SRound P (ev P orc n).round ∧ SCode P (ev P orc n).code ∧ SLoop P n (ev P orc n).code
 | 0=>⟨fun f args s v s' q h=>by simp [ev,Ev.bot] at h,fun l args s b s' h=>by simp [ev,Ev.bot] at h,fun c ts s e ts' s' h=>by simp [ev,Ev.bot] at h,fun c ts s e ts' s' h=>by simp [ev,Ev.bot] at h⟩
 | n + 1=>by
  obtain ⟨h1,h2,h3,h4⟩:=ev_sound ho hmix hname n
  exact ⟨callO_sound ho h3,round_sound h3,code_sound hmix hname h1 h2 h3 h4,loop_sound h3 h4⟩
end Go.Ev
