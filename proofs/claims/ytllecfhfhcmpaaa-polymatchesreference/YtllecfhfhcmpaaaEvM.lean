/- Operations, all; calls. -/
import Derived.Test.YtllecfhfhcmpaaaEvJ3
import Derived.LoopNIn
import Derived.RangeFuncCalls
namespace Go.Ev
open Go.RowKit (Below)
set_option linter.unusedSectionVars false
variable [Rho] [Know] [KnowOk]
variable {P : Program} {B : Nat} {π : Inj} {lm : List Nat} {s : St} {w : World} {ts : List AV} {a : Act}
theorem evals_two {xs : Array Operand} {x y : AV} (h : evals ts xs.toList = some [x,y]) (r : LR π lm ts a.tmps.toList) : ∃ cx cy,xs.map a.eval = #[cx,cy] ∧ VR π lm x cx ∧ VR π lm y cy:=by
 have:=evals_rel h r
 obtain ⟨cx,ws,e1,h1,h2⟩:=this.uncons
 obtain ⟨cy,ws',e2,h3,h4⟩:=h2.uncons
 have:=h4.nil_inv
 subst this; subst e2
 refine ⟨cx,cy,?_,h1,h3⟩
 apply Array.toList_inj.1
 rw [Array.toList_map,e1]
theorem evals_one {xs : Array Operand} {x : AV} (h : evals ts xs.toList = some [x]) (r : LR π lm ts a.tmps.toList) : ∃ cx,xs.map a.eval = #[cx] ∧ VR π lm x cx:=by
 have:=evals_rel h r
 obtain ⟨cx,ws,e1,h1,h2⟩:=this.uncons
 have:=h2.nil_inv
 subst this
 refine ⟨cx,?_,h1⟩
 apply Array.toList_inj.1
 rw [Array.toList_map,e1]
theorem pick_u {op : BinOp} {k : IntKind} {m n : Int} {u : AV} (hop : op = .gtr ∨ op = .lss) (h : intBin op k m n = some u) : ∃ b,u = .bool b:=by
 rcases hop with rfl | rfl <;> simp only [intBin,Option.some.injEq] at h <;> exact ⟨_,h.symm⟩
theorem pick_rel {op : BinOp} {x y v : AV} {cx cy : Value} (hop : op = .gtr ∨ op = .lss) (h : pickA op x y = some v) (hx : VR π lm x cx) (hy : VR π lm y cy) :
  ∃ k n m b,cx = .int k n ∧ cy = .int k m ∧ intBin op k m n = some (.bool b) ∧ VR π lm v (if b then cy else cx):=by
 unfold pickA at h
 split at h
 ·rename_i hb
  simp only [Option.some.injEq] at h; subst h
  obtain ⟨k,n,m,u,rfl,rfl,h1,h2⟩:=symBin_ok hb hy hx
  obtain ⟨b,rfl⟩:=pick_u hop h1
  have hv:=h2 _ (.bool b)
  cases hv
  exact ⟨k,m,n,true,rfl,rfl,h1,hy⟩
 ·rename_i hb
  simp only [Option.some.injEq] at h; subst h
  obtain ⟨k,n,m,u,rfl,rfl,h1,h2⟩:=symBin_ok hb hy hx
  obtain ⟨b,rfl⟩:=pick_u hop h1
  have hv:=h2 _ (.bool b)
  cases hv
  exact ⟨k,m,n,false,rfl,rfl,h1,hx⟩
 ·cases h
theorem op_builtin {o : Oper} {c : Call} {b : Builtin} {args : List AV} {v : AV} {s' : St} {k : Nat} (ho : o.op = .call c) (hc : c.callee = .builtin b) (hw : WR B π lm s w) (hB : B ≤ w.heap.size)
  (hargs : evals ts c.args.toList = some args) (h : builtinA P s b c.argTypes.toList args = some (v,s',k)) (r : LR π lm ts a.tmps.toList) : OpOk P B π lm s w o a v s':=by
 unfold builtinA at h
 split at h
 ·rename_i t x heq
  split at h
  ·rename_i e n hu hn
   simp at h
   obtain ⟨rfl,rfl,rfl⟩:=h
   obtain ⟨cx,e1,hx⟩:=evals_one hargs r
   have a0 : c.argTypes[0]? = some t:=by rw [← Array.getElem?_toList,heq]; rfl
   refine .still hw (c:=.int .i64 n) ?_ (.int _ _)
   have : ∃ A cap,cx = .slice A n cap:=by
    cases hx <;> simp [lenA] at hn <;> subst hn <;> exact ⟨_,_,rfl⟩
   obtain ⟨A,cap,rfl⟩:=this
   simp [execOp,ho,resolve,hc,invoke,builtin,Builtin.len_,a0,e1,run_underlying hu,goInt]
  ·cases h
 ·rename_i st xt x y heq
  simp only [Option.map_eq_some_iff,Prod.mk.injEq,Prod.exists] at h
  obtain ⟨v',s1,h,rfl,rfl,rfl⟩:=h
  obtain ⟨cx,cy,e1,hx,hy⟩:=evals_two hargs r
  obtain ⟨cv,w',π',k1,k2,k3,k4⟩:=append_rel (P:=P) o.type hw hB h hx hy c.argTypes heq
  refine ⟨_,cv,w',π',?_,.inl rfl,k2,k3,k4⟩
  simp [execOp,ho,resolve,hc,invoke,builtin,e1,k1]
 ·rename_i x y heq
  simp only [Option.map_eq_some_iff,Prod.mk.injEq] at h
  obtain ⟨v',h,rfl,rfl,rfl⟩:=h
  obtain ⟨cx,cy,e1,hx,hy⟩:=evals_two hargs r
  obtain ⟨k,n,m,b,rfl,rfl,h1,h2⟩:=pick_rel (by first | exact .inl rfl | exact .inr rfl) h hx hy
  simp only [intBin,Option.some.injEq,AV.bool.injEq] at h1
  refine .still hw ?_ h2
  subst h1
  by_cases hl : n < m <;> simp [execOp,ho,resolve,hc,invoke,builtin,e1,Builtin.max_,Builtin.max2,hl]
 ·rename_i x y heq
  simp only [Option.map_eq_some_iff,Prod.mk.injEq] at h
  obtain ⟨v',h,rfl,rfl,rfl⟩:=h
  obtain ⟨cx,cy,e1,hx,hy⟩:=evals_two hargs r
  obtain ⟨k,n,m,b,rfl,rfl,h1,h2⟩:=pick_rel (by first | exact .inl rfl | exact .inr rfl) h hx hy
  simp only [intBin,Option.some.injEq,AV.bool.injEq] at h1
  refine .still hw ?_ h2
  subst h1
  by_cases hl : m < n <;> simp [execOp,ho,resolve,hc,invoke,builtin,e1,Builtin.min_,Builtin.min2,hl]
 ·cases h
theorem evOp0_val {o : Oper} {v : AV} {s' : St} {k : Nat} (hw : WR B π lm s w) (hB : B ≤ w.heap.size) (r : LR π lm ts a.tmps.toList) (h : evOp0 P ts o s = some (.val v s' k)) :
  OpOk P B π lm s w o a v s' ∧ ∀ c,o.op ≠ .defer c:=by
 have hpure : (pureOp P ts o).map (ORes.val · s 0) = some (ORes.val v s' k) → OpOk P B π lm s w o a v s':=fun h=>by
  simp only [Option.map_eq_some_iff,ORes.val.injEq] at h
  obtain ⟨v',h1,rfl,rfl,_⟩:=h
  exact op_pure hw h1 r
 unfold evOp0 at h
 split at h
 all_goals (rename_i ho)
 ·
  simp only [Option.map_eq_some_iff,ORes.val.injEq] at h
  obtain ⟨v',h1,rfl,rfl,_⟩:=h
  exact ⟨.still hw (c:=a.eval _) (by simp [execOp,ho]) (eval_rel h1 r),by simp [ho]⟩
 ·
  simp only [Option.map_eq_some_iff,ORes.val.injEq] at h
  obtain ⟨v',h1,rfl,rfl,_⟩:=h
  exact ⟨.still hw (c:=a.eval _) (by simp [execOp,ho]) (eval_rel h1 r),by simp [ho]⟩
 ·
  split at h
  ·rename_i t ht
   simp only [Option.map_eq_some_iff,ORes.val.injEq] at h
   obtain ⟨v',h1,rfl,rfl,_⟩:=h
   have hb:=VR.bool_inv (eval_rel ht r)
   have hv:=eval_rel h1 r
   refine ⟨.still hw (c:=a.eval _) ?_ hv,by simp [ho]⟩
   cases t <;> simp [execOp,ho,hb,asBool]
  ·cases h
 ·
  simp only [Option.map_eq_some_iff,ORes.val.injEq] at h
  obtain ⟨v',h1,rfl,rfl,_⟩:=h
  exact ⟨op_binS ho hw h1 r,by simp [ho]⟩
 ·
  unfold convA at h
  split at h
  ·rename_i v' h1
   simp only [Option.some.injEq,ORes.val.injEq] at h
   obtain ⟨rfl,rfl,_⟩:=h
   exact ⟨op_convS ho hw h1 r,by simp [ho]⟩
  ·split at h
   ·rename_i u hx
    simp only [Option.map_eq_some_iff,ORes.val.injEq] at h
    obtain ⟨v',h1,rfl,rfl,_⟩:=h
    exact ⟨op_str ho hw hx h1 r,by simp [ho]⟩
   ·cases h
 ·
  simp only [Option.map_eq_some_iff,ORes.val.injEq] at h
  obtain ⟨v',h1,rfl,rfl,_⟩:=h
  exact ⟨op_unS ho hw h1 r,by simp [ho]⟩
 ·
  split at h
  ·rename_i b off hx
   simp only [Option.some.injEq,ORes.val.injEq] at h
   obtain ⟨rfl,rfl,_⟩:=h
   exact ⟨op_nilCheck ho hw hx r,by simp [ho]⟩
  ·simp only [Option.map_eq_some_iff,ORes.val.injEq] at h
   obtain ⟨v',h1,rfl,rfl,_⟩:=h
   exact ⟨op_pure hw h1 r,by simp [ho]⟩
 ·
  split at h
  ·rename_i b off hx
   simp only [Option.map_eq_some_iff,ORes.val.injEq] at h
   obtain ⟨v',h1,rfl,rfl,_⟩:=h
   exact ⟨op_load ho hw hx h1 r,by simp [ho]⟩
  ·cases h
 ·
  split at h
  ·rename_i b off x n hx hy hn
   split at h
   ·rename_i hl
    simp only [Option.map_eq_some_iff,ORes.val.injEq] at h
    obtain ⟨s1,h1,rfl,rfl,_⟩:=h
    exact ⟨op_store ho hw hx hy hn hl h1 r,by simp [ho]⟩
   ·cases h
  ·cases h
 ·
  split at h
  ·rename_i fs b off hu hx
   split at h
   ·rename_i fd hf
    split at h
    ·rename_i n hn
     split at h
     ·cases h
     ·rename_i h0
      simp only [Option.some.injEq,ORes.val.injEq] at h
      obtain ⟨rfl,rfl,_⟩:=h
      exact ⟨op_fieldAddr ho hw hx hu hf hn h0 r,by simp [ho]⟩
    ·cases h
   ·cases h
  ·cases h
 ·
  split at h
  ·rename_i len e b off kk n hu hx hi
   split at h
   ·rename_i es hn
    split at h
    ·rename_i hr
     simp only [Option.some.injEq,ORes.val.injEq] at h
     obtain ⟨rfl,rfl,_⟩:=h
     exact ⟨op_indexArr ho hw hx hi hu hn hr r,by simp [ho]⟩
    ·cases h
   ·cases h
  ·rename_i e b off len cap ex es' kk n hu hx hi
   split at h
   ·rename_i es hn
    split at h
    ·rename_i hr
     simp only [Option.some.injEq,ORes.val.injEq] at h
     obtain ⟨rfl,rfl,_⟩:=h
     exact ⟨op_indexSl ho hw hx hi hu hn hr r,by simp [ho]⟩
    ·cases h
   ·cases h
  ·cases h
 ·
  simp only [Option.map_eq_some_iff,ORes.val.injEq] at h
  obtain ⟨z,h1,rfl,rfl,_⟩:=h
  exact ⟨op_alloc ho hw hB h1,by simp [ho]⟩
 ·
  simp only [Option.map_eq_some_iff,ORes.val.injEq] at h
  obtain ⟨z,h1,rfl,rfl,_⟩:=h
  exact ⟨op_box ho hw hB h1 r,by simp [ho]⟩
 ·
  split at h
  ·rename_i ps hps
   simp only [Option.map_eq_some_iff,ORes.val.injEq] at h
   obtain ⟨z,h1,rfl,rfl,_⟩:=h
   exact ⟨op_build ho hw hps h1 r,by simp [ho]⟩
  ·cases h
 ·
  split at h
  ·rename_i e hu
   split at h
   ·rename_i es z ps hn hz hps
    split at h
    ·cases h
    ·rename_i hc
     simp only [not_or,ne_eq,Decidable.not_not] at hc
     simp only [Option.map_eq_some_iff,ORes.val.injEq] at h
     obtain ⟨cs,h1,rfl,rfl,_⟩:=h
     exact ⟨op_buildSlice ho hw hB hu hn hz hps hc.1 hc.2 h1 r,by simp [ho]⟩
   ·cases h
  ·cases h
 ·
  split at h
  ·rename_i e hu
   split at h
   ·rename_i es bs z k1 n k2 m hn hb hz hx hy
    split at h
    ·rename_i hc
     simp only [Option.some.injEq,ORes.val.injEq] at h
     obtain ⟨rfl,rfl,_⟩:=h
     exact ⟨op_makeSlice ho hw hB hu hn hb hz hx hy hc.1 hc.2.1 hc.2.2.1 hc.2.2.2.1 hc.2.2.2.2 r,by simp [ho]⟩
    ·cases h
   ·cases h
  ·cases h
 ·
  split at h
  ·rename_i f l1 l2 h1 h2
   simp only [Option.some.injEq,ORes.val.injEq] at h
   obtain ⟨rfl,rfl,_⟩:=h
   exact ⟨op_makeFunc ho hw h1 h2 r,by simp [ho]⟩
  ·cases h
 ·
  split at h
  ·rename_i v0 l hh hx hl hhi
   split at h
   ·rename_i r' hr
    simp only [Option.some.injEq,ORes.val.injEq] at h
    obtain ⟨rfl,rfl,_⟩:=h
    exact ⟨op_slice ho hw hx hl hhi hr r,by simp [ho]⟩
   ·exact ⟨hpure h,by simp [ho]⟩
  ·cases h
 ·
  split at h
  ·rename_i vs hx
   split at h
   ·rename_i v0 hv
    simp only [Option.some.injEq,ORes.val.injEq] at h
    obtain ⟨rfl,rfl,_⟩:=h
    exact ⟨op_extract ho hw hx hv r,by simp [ho]⟩
   ·cases h
  ·cases h
 ·
  split at h
  ·rename_i b hc
   split at h
   ·rename_i args hargs
    split at h
    ·rename_i v0 s0 k0 hb
     simp only [Option.some.injEq,ORes.val.injEq] at h
     obtain ⟨rfl,rfl,_⟩:=h
     exact ⟨op_builtin ho hc hw hB hargs hb r,by simp [ho]⟩
    ·exact ⟨hpure h,by simp [ho]⟩
   ·cases h
  ·split at h
   ·cases h
   ·cases h
   ·cases h
  ·cases h
 ·
  refine ⟨hpure h,?_⟩
  intro c hc
  simp only [Option.map_eq_some_iff] at h
  obtain ⟨v',h1,_⟩:=h
  unfold pureOp at h1
  rw [hc] at h1
  simp [plainOp] at h1
theorem call_run {g : FuncId} {fn : Func} {body : Code} (hg : P.funcs[g]? = some fn) (hb : fn.body = some body) (hname : fn.name ≠ "runtime.NumGoroutine") (args : Array Value) (w : World) :
  (callFunc g args).run P w = .ok (.enter g args) w:=by
 simp [callFunc,hg,hname,hb]
theorem not_call {α : Type} {x : Option α} {f : α → AV} {st : α → St} {k : Nat} {R : ORes} (hR : ∀ v s k,R ≠ .val v s k) (h : x.map (fun v=>ORes.val (f v) (st v) k) = some R) : False:=by
 cases x with
 | none=>cases h
 | some v=>simp only [Option.map_some,Option.some.injEq] at h; exact hR _ _ _ h.symm
theorem evOp_val {o : Oper} {v : AV} {s' : St} {k : Nat} (hw : WR B π lm s w) (hB : B ≤ w.heap.size) (r : LR π lm ts a.tmps.toList) (h : evOp P ts o s = some (.val v s' k)) :
  OpOk P B π lm s w o a v s' ∧ ∀ c,o.op ≠ .defer c:=by
 unfold evOp at h
 split at h
 ·rename_i r' h'
  simp only [Option.some.injEq] at h; subst h
  exact evOp0_val hw hB r h'
 ·exact evOpS_val hw hB r h
theorem evOpS_vals {look : Operand → Option AV} {o : Oper} {R : ORes} (h : evOpS P look o s = some R) : ∃ v s' k,R = .val v s' k:=by
 unfold evOpS at h
 split at h
 ·unfold idxS at h
  (repeat' split at h) <;> first | (cases h; done) | exact ⟨_,_,_,(Option.some.inj h).symm⟩
 ·unfold loadS at h
  (repeat' split at h) <;> first | (cases h; done) | (simp only [Option.map_eq_some_iff] at h; obtain ⟨_,_,rfl⟩:=h; exact ⟨_,_,_,rfl⟩)
 ·unfold storeS at h
  (repeat' split at h) <;> first | (cases h; done) | exact ⟨_,_,_,(Option.some.inj h).symm⟩
 ·unfold sliceS at h
  (repeat' split at h) <;> first | (cases h; done) | exact ⟨_,_,_,(Option.some.inj h).symm⟩
 ·unfold makeS at h
  (repeat' split at h) <;> first | (cases h; done) | exact ⟨_,_,_,(Option.some.inj h).symm⟩
 ·split at h
  ·obtain ⟨x,_,h⟩:=Option.bind_eq_some_iff.1 h
   unfold lenS at h
   (repeat' split at h) <;> first | (cases h; done) | exact ⟨_,_,_,(Option.some.inj h).symm⟩
  ·obtain ⟨x,_,h⟩:=Option.bind_eq_some_iff.1 h
   obtain ⟨y,_,h⟩:=Option.bind_eq_some_iff.1 h
   unfold appS tipS growS at h
   (repeat' split at h) <;> first | (cases h; done) | exact ⟨_,_,_,(Option.some.inj h).symm⟩
  ·obtain ⟨x,_,h⟩:=Option.bind_eq_some_iff.1 h
   obtain ⟨y,_,h⟩:=Option.bind_eq_some_iff.1 h
   unfold copyS at h
   (repeat' split at h) <;> first | (cases h; done) | exact ⟨_,_,_,(Option.some.inj h).symm⟩
  ·cases h
 ·cases h
theorem evOp_some0 {o : Oper} {R : ORes} (h : evOp0 P ts o s = some R) : evOp P ts o s = some R:=by
 unfold evOp; rw [h]
theorem evOp_of0 {o : Oper} {R : ORes} (h0 : (evOp0 P ts o s).isSome = true) (h : evOp P ts o s = some R) : evOp0 P ts o s = some R:=by
 unfold evOp at h
 split at h
 ·rename_i r' h'; rw [h',h]
 ·rename_i h'; rw [h'] at h0; cases h0
theorem evOp_call0 {o : Oper} {R : ORes} (hR : ∀ v s k,R ≠ .val v s k) (h : evOp P ts o s = some R) : evOp0 P ts o s = some R:=by
 unfold evOp at h
 split at h
 ·rename_i r' h'
  rw [h',h]
 ·obtain ⟨v,s',k,rfl⟩:=evOpS_vals h
  exact absurd rfl (hR _ _ _)
theorem evOp_other {o : Oper} {R : ORes} (hR : ∀ v s k,R ≠ .val v s k) (h : evOp P ts o s = some R) :
  ∃ c f xs,o.op = .call c ∧ c.callee = .value f ∧ evals ts c.args.toList = some xs ∧
   ((∃ g l1 l2,eval ts f = some (.fn g l1 l2) ∧ R = .call g (l1 ++ (xs ++ l2))) ∨ (∃ l,eval ts f = some (.yield l) ∧ R = .round l xs)):=by
 have h:=evOp_call0 hR h
 unfold evOp0 convA at h
 split at h
 case h_20 =>
  rename_i c ho
  split at h
  ·split at h
   ·split at h
    ·simp only [Option.some.injEq] at h; exact (hR _ _ _ h.symm).elim
    ·exact (not_call hR h).elim
   ·cases h
  ·rename_i f hf
   split at h
   ·rename_i g l1 l2 xs h1 h2
    simp only [Option.some.injEq] at h
    exact ⟨c,f,xs,ho,hf,h2,.inl ⟨g,l1,l2,h1,h.symm⟩⟩
   ·rename_i l xs h1 h2
    simp only [Option.some.injEq] at h
    exact ⟨c,f,xs,ho,hf,h2,.inr ⟨l,h1,h.symm⟩⟩
   ·cases h
  ·cases h
 all_goals
  exfalso
  first
  | exact not_call hR h
  | ((repeat' split at h) <;> first | (cases h; done) | exact not_call hR h | exact hR _ _ _ (Option.some.inj h).symm)
theorem VR.fn_inv {f : FuncId} {l1 l2 : List AV} {c : Value} (h : VR π lm (.fn f l1 l2) c) : ∃ a1 a2,c = .func (.func f) a1 a2 ∧ LR π lm l1 a1.toList ∧ LR π lm l2 a2.toList:=by
 cases h with
 | fn f s1 h1 s2 h2=>exact ⟨_,_,rfl,⟨s1,h1⟩,⟨s2,h2⟩⟩
theorem VR.yield_inv {l : Nat} {c : Value} (h : VR π lm (.yield l) c) : ∃ L,lm[l]? = some L ∧ c = .func (.yield L) #[] #[]:=by
 cases h with
 | yield h=>exact ⟨_,h,rfl⟩
theorem evOp_call {o : Oper} {g : FuncId} {args : List AV} {fn : Func} {body : Code} (r : LR π lm ts a.tmps.toList) (h : evOp P ts o s = some (.call g args)) (hg : P.funcs[g]? = some fn)
  (hb : fn.body = some body) (hname : fn.name ≠ "runtime.NumGoroutine") (w : World) :
  (∃ vs,(execOp a.eval o).run P w = .ok (.enter g vs) w ∧ LR π lm args vs.toList) ∧ ∀ c,o.op ≠ .defer c:=by
 obtain ⟨c,f,xs,ho,hc,hxs,⟨g',l1,l2,hf,he⟩ | ⟨l,_,he⟩⟩:=evOp_other (by simp) h
 ·cases he
  obtain ⟨a1,a2,h1,h2,h3⟩:=VR.fn_inv (eval_rel hf r)
  have hx:=evals_rel hxs r
  refine ⟨⟨a1 ++ c.args.map a.eval ++ a2,?_,?_⟩,by simp [ho]⟩
  ·simp [execOp,ho,resolve,hc,h1,Deferred.ofValue,invoke,call_run hg hb hname]
  ·simp only [Array.toList_append,Array.toList_map,List.append_assoc]
   exact h2.append (hx.append h3)
 ·cases he
theorem evOp_round {o : Oper} {l : Nat} {args : List AV} (r : LR π lm ts a.tmps.toList) (h : evOp P ts o s = some (.round l args)) (hw : WR B π lm s w) {rec : ALoop} (hl : s.loops[l]? = some rec)
  (hlen : args.length = rec.params.length) :
  (∃ (L : Nat) (fn : FuncId) (D : Nat) (tv : Array Value) (st : LoopState) (pd : Option Code) (vs : Array Value),lm[l]? = some L ∧
   w.heap[L]? = some (.loop { state:=st,pending:=pd,fn,tmps:=tv,params:=rec.params.toArray,assign:=rec.assign,body:=rec.body,defers:=D }) ∧ rec.stat.rel st pd ∧ LR π lm rec.tmps tv.toList ∧
   (execOp a.eval o).run P w = .ok (.round L fn ((rec.params.toArray.zip vs).foldl (fun tmps (t,a)=>tmps.setIfInBounds t a) tv) rec.assign rec.body) w ∧ LR π lm args vs.toList) ∧ ∀ c,o.op ≠ .defer c:=by
 obtain ⟨c,f,xs,ho,hc,hxs,⟨g',l1,l2,hf,he⟩ | ⟨l',hf,he⟩⟩:=evOp_other (by simp) h
 ·cases he
 ·cases he
  obtain ⟨L,h1,h2⟩:=VR.yield_inv (eval_rel hf r)
  have hx:=evals_rel hxs r
  obtain ⟨L',fn,D,tv,st,pd,k1,k2,k3,k4⟩:=hw.loop l rec hl
  rw [h1] at k1
  obtain rfl:=Option.some.inj k1
  refine ⟨⟨L,fn,D,tv,st,pd,c.args.map a.eval,h1,k2,k3,k4,?_,by rw [Array.toList_map]; exact hx⟩,by simp [ho]⟩
  have hs : (c.args.map a.eval).size = rec.params.toArray.size:=by have:=hx.1; simp at this; simp; omega
  have:=run_yield (P:=P) (args:=c.args.map a.eval) k2 hs
  simp only [execOp,ho,resolve,hc,h2,Deferred.ofValue,invoke,Sem.run_bind,Sem.run_pure,Result.andThen_ok,Array.empty_append,this]
end Go.Ev
/- The evaluator is right: what it needs of itself; lists of operations. -/
namespace Go.Ev
open Go.RowKit (Below)
set_option linter.unusedSectionVars false
variable [Rho]
def Fr (ro : Option Nat) : Fence:={ Fence.wide with round:=ro }
def EX : AExit → Exit → Prop
 | .normal,.normal=>True
 | .exit i,.exit j=>i = j
 | .goto i,.goto j=>i = j
 | .ret,.ret=>True
 | _,_=>False
def mark (D : Nat) : Deferred:={ target:=.collected D,args:=#[] }
def Mk (w : World) (a a' : Act) (w' : World) : Prop:=
 ∃ Ds : List Nat,a'.defers = Ds.map mark ++ a.defers ∧ Ds.Nodup ∧ ∀ D,D ∈ Ds → w.heap.size ≤ D ∧ w'.heap[D]? = some (.deferred (some []))
def Post (B : Nat) (π : Inj) (lm : List Nat) (s : St) (w : World) (a : Act) (e : AExit) (ts' : List AV) (s' : St) : Exit → Act → World → Prop:=
 fun x a' w'=>EX e x ∧ ∃ π' lm',WR B π' lm' s' w' ∧ LR π' lm' ts' a'.tmps.toList ∧ Tr π π' lm lm' s s' w w' ∧ Mk w a a' w'
def CallPost (B : Nat) (π : Inj) (lm : List Nat) (s : St) (w : World) (v : AV) (s' : St) : Ending → World → Prop:=
 fun e w'=>∃ c π' lm',e = .returned c ∧ VR π' lm' v c ∧ WR B π' lm' s' w' ∧ Tr π π' lm lm' s s' w w'
def RoundPost (B : Nat) (π : Inj) (lm : List Nat) (s : St) (w : World) (b : Bool) (s' : St) : Ending → World → Prop:=
 fun e w'=>∃ π' lm',e = .returned (.bool b) ∧ WR B π' lm' s' w' ∧ Tr π π' lm lm' s s' w w'
def SCall (P : Program) (call : FuncId → List AV → St → Option (AV × St × Bool)) : Prop:=
 ∀ f args s v s' q,call f args s = some (v,s',q) → (∃ fn body,P.funcs[f]? = some fn ∧ fn.body = some body) ∧ (q = true → s' = s) ∧
  ∀ B π lm w (vs : Array Value) N ro,WR B π lm s w → B ≤ w.heap.size → LR π lm args vs.toList → CallsIn (Fr ro) N P f vs w (CallPost B π lm s w v s')
def SRound (P : Program) (round : Nat → List AV → St → Option (Bool × St)) : Prop:=
 ∀ l args s b s',round l args s = some (b,s') → ∃ r : ALoop,s.loops[l]? = some r ∧ r.stat = .ready ∧ args.length = r.params.length ∧
  ∀ B π lm w (vs : Array Value) N ro (L : Nat) (fn : FuncId) (D : Nat) (tv : Array Value),WR B π lm s w → B ≤ w.heap.size → LR π lm args vs.toList → lm[l]? = some L →
   w.heap[L]? = some (.loop { state:=.ready,pending:=none,fn,tmps:=tv,params:=r.params.toArray,assign:=r.assign,body:=r.body,defers:=D }) → LR π lm r.tmps tv.toList →
   RoundIn (Fr ro) N P L fn ((r.params.toArray.zip vs).foldl (fun tmps (t,a)=>tmps.setIfInBounds t a) tv) r.assign r.body w (RoundPost B π lm s w b s')
def SCode (P : Program) (code : Code → List AV → St → Option (AExit × List AV × St)) : Prop:=
 ∀ c ts s e ts' s',code c ts s = some (e,ts',s') → ∀ B π lm w (a : Act) N ro,WR B π lm s w → B ≤ w.heap.size → LR π lm ts a.tmps.toList → (∀ L0,ro = some L0 → L0 ∈ lm) →
  c.wpIn (Fr ro) N P (Post B π lm s w a e ts' s') a w
variable {P : Program} {B : Nat} {π : Inj} {lm : List Nat} {s : St} {w : World} {ts : List AV} {a : Act}
theorem wanted_rel {ops : Array Oper} {o : Oper} (r : LR π lm ts a.tmps.toList) : Region.wanted o (yielded ops a.tmps) = wantedA ops.toList o ts:=by
 unfold Region.wanted wantedA
 cases hg : o.guard with
 | none=>rfl
 | some g =>
  obtain ⟨j,want⟩:=g
  simp only [Array.getElem?_toList]
  unfold yielded
  cases hd : (ops[j]?).bind (·.dst) with
  | none=>simp
  | some d =>
   simp only [Option.bind_some]
   cases ht : ts[d]? with
   | none =>
    have:=r.none ht
    rw [Array.getElem?_toList] at this
    rw [this]; simp
   | some v =>
    obtain ⟨c,hc,hv⟩:=r.get ht
    rw [Array.getElem?_toList] at hc
    rw [hc]
    cases hv with
    | top h hb =>
     cases c with
     | bool b=>exact absurd rfl (hb b)
     | _=>simp
    | _=>simp
theorem Mk.refl (w : World) (a : Act) (w' : World) : Mk w a a w':=⟨[],by simp,by simp,by simp⟩
theorem Mk.same {w w' : World} {a a' : Act} (h : a'.defers = a.defers) : Mk w a a' w':=⟨[],by simp [h],by simp,by simp⟩
theorem WR.not_img (h : WR B π lm s w) {D : Nat} {x : Option (List Deferred)} (hD : w.heap[D]? = some (.deferred x)) : (∀ i A n,s.heap[i]? = some (some A) → A.ro = false → π i ≠ some (D,n)) ∧ D ∉ lm:=by
 constructor
 ·intro i A n hA _ hp
  obtain ⟨c,fz,hc,_⟩:=h.at hA hp
  rw [hD] at hc; cases hc
 ·intro hm
  obtain ⟨l,hl,rfl⟩:=List.getElem_of_mem hm
  obtain ⟨r,hr⟩ : ∃ r,s.loops[l]? = some r:=⟨_,List.getElem?_eq_getElem (h.lsz ▸ hl)⟩
  obtain ⟨L',fn,D',ts,st,pd,h1,h2,h3⟩:=h.loop l r hr
  rw [List.getElem?_eq_getElem hl] at h1
  obtain rfl:=Option.some.inj h1
  rw [hD] at h2; cases h2
theorem Mk.trans {π' : Inj} {lm' : List Nat} {s' : St} {w w1 w2 : World} {a a1 a2 : Act} (h : Mk w a a1 w1) (k : Mk w1 a1 a2 w2) (hw : WR B π lm s w1) (ht : Tr π π' lm lm' s s' w1 w2) (hsz : w.heap.size ≤ w1.heap.size) :
  Mk w a a2 w2:=by
 obtain ⟨D1,e1,n1,g1⟩:=h
 obtain ⟨D2,e2,n2,g2⟩:=k
 refine ⟨D2 ++ D1,by rw [e2,e1]; simp,?_,?_⟩
 ·rw [List.nodup_append]
  refine ⟨n2,n1,fun x hx y hy e=>?_⟩
  subst e
  have:=(g2 x hx).1
  have:=lt_of_some (g1 x hy).2
  omega
 ·intro D hD
  rcases List.mem_append.1 hD with hD | hD
  ·exact ⟨by have:=(g2 D hD).1; omega,(g2 D hD).2⟩
  ·obtain ⟨k1,k2⟩:=hw.not_img (g1 D hD).2
   exact ⟨(g1 D hD).1,by rw [ht.keep D (lt_of_some (g1 D hD).2) k1 k2]; exact (g1 D hD).2⟩
theorem put_defers (a : Act) (dst : Option Tmp) (v : Value) : (a.put dst v).defers = a.defers:=by cases dst <;> rfl
theorem semAt_exec {ro : Option Nat} {ρ : Operand → Value} {o : Oper} (h : ∀ c,o.op ≠ .defer c) : o.semAt ro ρ = execOp ρ o:=Oper.semAt_eq ro ρ o h
variable [Know] [KnowOk]
theorem one_sound {rec : Ev} (hname : ∀ (f : Nat) (fn : Func),P.funcs[f]? = some fn → fn.name ≠ "runtime.NumGoroutine") (hc : SCall P rec.call) (hr : SRound P rec.round) {o : Oper} {v : AV} {s' : St}
  (h : evOneV P rec o ts s = some (v,s')) (hw : WR B π lm s w) (hB : B ≤ w.heap.size) (r : LR π lm ts a.tmps.toList) (N : Nat) (ro : Option Nat) (K : Act → World → Prop) (Q : Exit → Act → World → Prop)
  (hK : ∀ c w' π' lm',VR π' lm' v c → WR B π' lm' s' w' → Tr π π' lm lm' s s' w w' → K (a.put o.dst c) w') :
  o.wpIn (Fr ro) N P a w K Q:=by
 refine ⟨fun _ _=>trivial,?_⟩
 unfold evOneV at h
 split at h
 ·rename_i v s1 k hop
  simp only [Option.some.injEq,Prod.mk.injEq] at h
  obtain ⟨rfl,rfl⟩:=h
  obtain ⟨⟨nx,c,w',π',k1,k2,k3,k4,k5⟩,hd⟩:=evOp_val hw hB r hop
  rw [semAt_exec hd,k1]
  have hfin : K (a.put o.dst c) w':=hK _ _ π' lm k3 k4 k5
  rcases k2 with rfl | ⟨rfl,rfl⟩
  ·exact hfin
  ·exact hfin
 ·rename_i f args hop
  split at h
  ·rename_i v s1 q hcall
   simp only [Option.some.injEq,Prod.mk.injEq] at h
   obtain ⟨rfl,rfl⟩:=h
   obtain ⟨⟨fn,body,h1,h2⟩,_,h3⟩:=hc _ _ _ _ _ _ hcall
   obtain ⟨⟨vs,k1,k2⟩,hd⟩:=evOp_call r hop h1 h2 (hname f fn h1) w
   rw [semAt_exec hd,k1]
   refine ⟨fun hh=>by simp [Fr,Fence.wide] at hh,(h3 B π lm w vs (N - 1) ro hw hB k2).mono ?_⟩
   rintro e w' ⟨c,π',lm',rfl,m1,m2,m3⟩
   exact hK _ _ π' lm' m1 m2 m3
  ·cases h
 ·rename_i l args hop
  split at h
  ·rename_i b s1 hround
   simp only [Option.some.injEq,Prod.mk.injEq] at h
   obtain ⟨rfl,rfl⟩:=h
   obtain ⟨rr,h1,h2,h3,h4⟩:=hr _ _ _ _ _ hround
   obtain ⟨⟨L,fn,D,tv,st,pd,vs,k1,k2,k3,k4,k5,k6⟩,hd⟩:=evOp_round r hop hw h1 h3
   rw [semAt_exec hd,k5]
   have hst : st = .ready ∧ pd = none:=by
    rw [h2] at k3
    cases st <;> cases pd <;> simp [LStat.rel] at k3 ⊢
   obtain ⟨rfl,rfl⟩:=hst
   refine ⟨fun hh=>by simp [Fr,Fence.wide] at hh,(h4 B π lm w vs (N - 1) ro L fn D tv hw hB k6 k1 k2 k4).mono ?_⟩
   rintro e w' ⟨π',lm',rfl,m2,m3⟩
   exact hK _ _ π' lm' (.bool b) m2 m3
  ·cases h
 ·cases h
theorem ops_sound {rec : Ev} (hname : ∀ (f : Nat) (fn : Func),P.funcs[f]? = some fn → fn.name ≠ "runtime.NumGoroutine") (hc : SCall P rec.call) (hr : SRound P rec.round) (ops : Array Oper) (N : Nat) (ro : Option Nat)
  (Q : Exit → Act → World → Prop) {ts' : List AV} {s' : St} : ∀ (rest : List Oper) (k : Nat) (ts : List AV) (s : St) (π : Inj) (lm : List Nat) (w : World) (a : Act),(∀ (j : Nat),rest[j]? = ops[k + j]?) →
  evOps P rec ops.toList rest ts s = some (ts',s') → WR B π lm s w → B ≤ w.heap.size → LR π lm ts a.tmps.toList →
  (∀ a' w' π' lm',WR B π' lm' s' w' → LR π' lm' ts' a'.tmps.toList → Tr π π' lm lm' s s' w w' → a'.defers = a.defers → Q .normal a' w') →
  wpOpsIn (Fr ro) N P ops Q (List.range' k rest.length) a w:=by
 intro rest
 induction rest with
 | nil =>
  intro k ts s π lm w a _ h hw _ r hQ
  simp only [evOps,Option.some.injEq,Prod.mk.injEq] at h
  obtain ⟨rfl,rfl⟩:=h
  simp only [List.length_nil,List.range'_zero,wpOpsIn]
  exact hQ a w π lm hw r (Tr.refl _ _ _ hw.dom) rfl
 | cons o rest ih =>
  intro k ts s π lm w a hops h hw hB r hQ
  have ho : ops[k]? = some o:=by have:=hops 0; simpa using this.symm
  have hrest : ∀ (j : Nat),rest[j]? = ops[k + 1 + j]?:=fun j=>by
   have:=hops (j + 1)
   simp only [List.getElem?_cons_succ] at this
   rw [this]; congr 1; omega
  simp only [List.length_cons,List.range'_succ,wpOpsIn,ho]
  rw [wanted_rel r]
  simp only [evOps] at h
  split at h
  ·rename_i hwant
   rw [if_pos hwant]
   split at h
   ·rename_i v1 s1 hone
    refine one_sound hname hc hr hone hw hB r N ro _ Q ?_
    intro c w1 π1 lm1 k0 k1 k3
    refine ih (k + 1) _ s1 π1 lm1 w1 _ hrest h k1 (Nat.le_trans hB k3.size) (put_rel (k3.lr r) k0) ?_
    intro a2 w2 π2 lm2 m1 m2 m3 m4
    exact hQ a2 w2 π2 lm2 m1 m2 (k3.trans m3) (m4.trans (put_defers _ _ _))
   ·cases h
  ·rename_i hwant
   rw [if_neg hwant]
   refine ⟨fun _ _=>trivial,ih (k + 1) _ s π lm w _ hrest h hw hB (put_rel r .undef) ?_⟩
   intro a2 w2 π2 lm2 m1 m2 m3 m4
   exact hQ a2 w2 π2 lm2 m1 m2 m3 (m4.trans (put_defers _ _ _))
end Go.Ev
/- Loops over functions: their records; results. -/
namespace Go.Ev
open Go.RowKit (Below)
set_option linter.unusedSectionVars false
variable [Rho]
variable {P : Program} {B : Nat} {π : Inj} {lm : List Nat} {s : St} {w : World} {ts : List AV} {a : Act}
theorem putObj_heap (w : World) (b : Nat) (o : Obj) (r : Nat) : (w.putObj b o).heap[r]? = if b = r ∧ b < w.heap.size then some o else w.heap[r]?:=upd_heap w b o r
theorem putObj_other {w : World} {b r : Nat} {o : Obj} (h : r ≠ b) : (w.putObj b o).heap[r]? = w.heap[r]?:=by
 rw [putObj_heap]; simp [Ne.symm h]
theorem putObj_size (w : World) (b : Nat) (o : Obj) : (w.putObj b o).heap.size = w.heap.size:=upd_size w b o
theorem WR.congr {s' : St} (h : WR B π lm s w) (h1 : s'.heap = s.heap) (h2 : s'.loops = s.loops) : WR B π lm s' w:=
 ⟨by rw [h1]; exact h.dom,by rw [h1]; exact h.blk,by rw [h1]; exact h.inj,by rw [h2]; exact h.lsz,h.linj,by rw [h2]; exact h.loop⟩
theorem WR.img_lt (h : WR B π lm s w) {i : Nat} {A : ABlk} (hA : s.heap[i]? = some (some A)) {b n : Nat} (hp : π i = some (b,n)) : b < w.heap.size:=by
 obtain ⟨c,fz,hc,_⟩:=h.at hA hp
 exact lt_of_some hc
theorem WR.loop_lt (h : WR B π lm s w) {L : Nat} (hL : L ∈ lm) : ∃ r,w.heap[L]? = some (.loop r):=by
 obtain ⟨l,hl1,rfl⟩:=List.getElem_of_mem hL
 obtain ⟨r,hr⟩ : ∃ r,s.loops[l]? = some r:=⟨_,List.getElem?_eq_getElem (h.lsz ▸ hl1)⟩
 obtain ⟨L',fn,D,ts,st,pd,h1,h2,h3⟩:=h.loop l r hr
 rw [List.getElem?_eq_getElem hl1] at h1
 obtain rfl:=Option.some.inj h1
 exact ⟨_,h2⟩
theorem WR.putOther (h : WR B π lm s w) {D : Nat} {o : Obj} (h1 : ∀ i A n,s.heap[i]? = some (some A) → π i ≠ some (D,n)) (h2 : D ∉ lm) : WR B π lm s (w.putObj D o):=by
 refine ⟨h.dom,?_,h.inj,h.lsz,h.linj,?_⟩
 ·intro i A hA
  obtain ⟨b,n,c,fz,k1,k2,k3⟩:=h.blk i A hA
  exact ⟨b,n,c,fz,k1,by rw [putObj_other (fun e=>h1 i A n hA (by rw [← e]; exact k1))]; exact k2,k3⟩
 ·intro l r hr
  obtain ⟨L,fn,D',ts,st,pd,k1,k2,k3⟩:=h.loop l r hr
  exact ⟨L,fn,D',ts,st,pd,k1,by rw [putObj_other (fun e=>h2 (by rw [← e]; exact List.mem_of_getElem? k1))]; exact k2,k3⟩
theorem Tr.putNew {π' : Inj} {lm' : List Nat} {s' s'' : St} {w' : World} (h : Tr π π' lm lm' s s' w w') (hw : WR B π lm s w) {D : Nat} {o : Obj} (hD : w.heap.size ≤ D) (e1 : s''.heap = s'.heap) (e2 : s''.lo = s'.lo) (e3 : s''.nd = s'.nd) :
  Tr π π' lm lm' s s'' w (w'.putObj D o):=by
 have hne : ∀ r,r < w.heap.size → (w'.putObj D o).heap[r]? = w'.heap[r]?:=fun r hr=>putObj_other (by omega)
 refine ⟨h.os,h.tape,h.output,by rw [putObj_size]; exact h.size,fun r hr h1 h2=>by rw [hne r hr]; exact h.keep r hr h1 h2,?_,by rw [e1,e2]; exact h.same,?_,by rw [e2]; exact h.lo_le,by rw [e3]; exact h.nd_le,h.le,h.old,
  by rw [e1]; exact h.len,by rw [e1]; exact h.liv,h.new,h.lmx⟩
 ·intro i A b n hA hlo hp
  rw [hne b (hw.img_lt hA hp)]
  exact h.low i A b n hA (by rw [← e2]; exact hlo) hp
 ·intro hnd L hL
  obtain ⟨r,hr⟩:=hw.loop_lt hL
  rw [hne L (lt_of_some hr)]
  exact h.lkeep (by rw [← e3]; exact hnd) L hL
theorem setStat_heap (s : St) (l : Nat) (x : LStat) : (setStat s l x).heap = s.heap:=by unfold setStat; split <;> rfl
theorem setStat_lo (s : St) (l : Nat) (x : LStat) : (setStat s l x).lo = s.lo:=by unfold setStat; split <;> rfl
theorem setStat_nd (s : St) (l : Nat) (x : LStat) : (setStat s l x).nd = s.nd:=by unfold setStat; split <;> rfl
theorem setStat_loops {s : St} {l : Nat} {r : ALoop} (h : s.loops[l]? = some r) (x : LStat) (j : Nat) : (setStat s l x).loops[j]? = if l = j then some { r with stat:=x } else s.loops[j]?:=by
 have hl:=(List.getElem?_eq_some_iff.1 h).1
 simp only [setStat,h,setNth_eq,List.getElem?_set]
 by_cases hj : l = j
 ·subst hj; simp [hl]
 ·simp [hj]
theorem WR.setStat (h : WR B π lm s w) {l L : Nat} {r : ALoop} (hr : s.loops[l]? = some r) (hL : lm[l]? = some L) (x : LStat) {fn : FuncId} {D : Nat} {tv : Array Value} {st : LoopState} {pd : Option Code} (hrel : x.rel st pd)
  (hts : LR π lm r.tmps tv.toList) : WR B π lm (setStat s l x) (w.putObj L (.loop { state:=st,pending:=pd,fn,tmps:=tv,params:=r.params.toArray,assign:=r.assign,body:=r.body,defers:=D })):=by
 have hmem : L ∈ lm:=List.mem_of_getElem? hL
 obtain ⟨r0,hr0⟩:=h.loop_lt hmem
 refine ⟨by rw [setStat_heap]; exact h.dom,?_,by rw [setStat_heap]; exact h.inj,?_,h.linj,?_⟩
 ·rw [setStat_heap]
  intro i A hA
  obtain ⟨b,n,c,fz,k1,k2,k3⟩:=h.blk i A hA
  exact ⟨b,n,c,fz,k1,by rw [putObj_other (fun e=>by rw [e,hr0] at k2; cases k2)]; exact k2,k3⟩
 ·rw [h.lsz]; unfold Ev.setStat; rw [hr]; simp [setNth_eq]
 ·intro j r' hr'
  rw [setStat_loops hr] at hr'
  by_cases hj : l = j
  ·subst hj
   simp at hr'
   subst hr'
   exact ⟨L,fn,D,tv,st,pd,hL,by rw [putObj_heap]; simp [lt_of_some hr0],hrel,hts⟩
  ·simp [hj] at hr'
   obtain ⟨L',fn',D',ts',st',pd',k1,k2,k3⟩:=h.loop j r' hr'
   exact ⟨L',fn',D',ts',st',pd',k1,by rw [putObj_other (fun e=>hj (h.linj l j L hL (by rw [← e]; exact k1)))]; exact k2,k3⟩
theorem Tr.around {π' : Inj} {lm' : List Nat} {s1 sb s2 s' : St} {w1 w3 : World} {L : Nat} {o1 o2 : Obj} (h : Tr π π' lm lm' sb s2 (w1.putObj L o1) w3) (hw : WR B π lm s1 w1) (hL : L ∈ lm)
  (e1 : sb.heap = s1.heap) (e2 : sb.lo = s1.lo) (e3 : sb.nd = s1.nd) (e4 : s'.heap = s2.heap) (e5 : s'.lo = s2.lo) (e6 : s2.nd ≤ s'.nd)
  (hs : s'.nd = s1.nd → (w3.putObj L o2).heap[L]? = w1.heap[L]?) : Tr π π' lm lm' s1 s' w1 (w3.putObj L o2):=by
 obtain ⟨r0,hr0⟩:=hw.loop_lt hL
 have hsz:=h.size
 rw [putObj_size] at hsz
 refine ⟨h.os,h.tape,h.output,by rw [putObj_size]; exact hsz,?_,?_,by rw [e4,e5,← e1]; exact h.same,?_,by rw [e5,← e2]; exact h.lo_le,by rw [← e3]; exact Nat.le_trans h.nd_le e6,h.le,
  by rw [← e1]; exact h.old,by rw [← e1,e4]; exact h.len,by rw [← e1,e4]; exact h.liv,?_,?_⟩
 ·intro r hr h1 h2
  have hne : r ≠ L:=fun e=>h2 (e ▸ hL)
  rw [putObj_other hne,h.keep r (by rw [putObj_size]; exact hr) (by rw [e1]; exact h1) h2,putObj_other hne]
 ·intro i A b n hA hlo hp
  have hne : b ≠ L:=fun e=>by
   obtain ⟨c,fz,hc,_⟩:=hw.at hA hp
   rw [e,hr0] at hc; cases hc
  rw [putObj_other hne,h.low i A b n (by rw [e1]; exact hA) (by rw [← e5]; exact hlo) hp,putObj_other hne]
 ·intro hnd L' hL'
  by_cases hne : L' = L
  ·subst hne; exact hs hnd
  ·have:=h.nd_le
   rw [putObj_other hne,h.lkeep (by omega) L' hL',putObj_other hne]
 ·intro i b n hi hp
  have:=h.new i b n (by rw [e1]; exact hi) hp
  rw [putObj_size,e1] at this
  exact this
 ·have:=h.lmx
  rw [putObj_size] at this
  exact this
theorem WR.pushLoop (h : WR B π lm s w) {w1 : World} (hext : ∀ r,r < w.heap.size → w1.heap[r]? = w.heap[r]?) (hsz : w.heap.size ≤ w1.heap.size) (h1 : w1.os = w.os) (h2 : w1.tape = w.tape) (h3 : w1.output = w.output)
  {L : Nat} (hL : w.heap.size ≤ L) {r : ALoop} {fn : FuncId} {D : Nat} {tv : Array Value}
  (hobj : w1.heap[L]? = some (.loop { state:=.ready,pending:=none,fn,tmps:=tv,params:=r.params.toArray,assign:=r.assign,body:=r.body,defers:=D })) (hts : LR π lm r.tmps tv.toList) (hst : r.stat = .ready) :
  WR B π (lm ++ [L]) { s with loops:=s.loops ++ [r] } w1 ∧ Tr π π lm (lm ++ [L]) s { s with loops:=s.loops ++ [r] } w w1:=by
 have hlm : ∀ (i x : Nat),lm[i]? = some x → (lm ++ [L])[i]? = some x:=fun i x hi=>by
  rw [List.getElem?_append_left (List.getElem?_eq_some_iff.1 hi).1]; exact hi
 have hlt : ∀ (i x : Nat),lm[i]? = some x → x < w.heap.size:=fun i x hi=>by
  obtain ⟨r,hr⟩:=h.loop_lt (List.mem_of_getElem? hi); exact lt_of_some hr
 have hnew : ∀ (i x : Nat),(lm ++ [L])[i]? = some x → (i < lm.length ∧ lm[i]? = some x) ∨ (i = lm.length ∧ x = L):=fun i x hi=>by
  by_cases hi' : i < lm.length
  ·rw [List.getElem?_append_left hi'] at hi; exact .inl ⟨hi',hi⟩
  ·rw [List.getElem?_append_right (by omega)] at hi
   have h0 : i - lm.length = 0:=by
    rcases Nat.eq_zero_or_pos (i - lm.length) with h0 | h0
    ·exact h0
    ·rw [List.getElem?_eq_none (by simp; omega)] at hi; cases hi
   rw [h0] at hi; simp at hi
   exact .inr ⟨by omega,hi.symm⟩
 constructor
 ·refine ⟨h.dom,?_,h.inj,by simp [h.lsz],?_,?_⟩
  ·intro i A hA
   obtain ⟨b,n,c,fz,k1,k2,k3,k4,k5⟩:=h.blk i A hA
   exact ⟨b,n,c,fz,k1,by rw [hext b (lt_of_some k2)]; exact k2,k3,k4,k5.1.mono (Inj.le_refl _) hlm,k5.2⟩
  ·intro l l' x hl hl'
   rcases hnew l x hl with ⟨a1,a2⟩ | ⟨a1,a2⟩ <;> rcases hnew l' x hl' with ⟨b1,b2⟩ | ⟨b1,b2⟩
   ·exact h.linj l l' x a2 b2
   ·have:=hlt l x a2; omega
   ·have:=hlt l' x b2; omega
   ·omega
  ·intro l r' hr'
   simp only at hr'
   by_cases hi' : l < s.loops.length
   ·rw [List.getElem?_append_left hi'] at hr'
    obtain ⟨L',fn',D',ts',st',pd',k1,k2,k3,k4⟩:=h.loop l r' hr'
    exact ⟨L',fn',D',ts',st',pd',hlm _ _ k1,by rw [hext L' (lt_of_some k2)]; exact k2,k3,k4.mono (Inj.le_refl _) hlm⟩
   ·rw [List.getElem?_append_right (by omega)] at hr'
    have h0 : l - s.loops.length = 0:=by
     rcases Nat.eq_zero_or_pos (l - s.loops.length) with h0 | h0
     ·exact h0
     ·rw [List.getElem?_eq_none (by simp; omega)] at hr'; cases hr'
    rw [h0] at hr'; simp at hr'
    subst hr'
    have hl : l = lm.length:=by rw [h.lsz]; omega
    subst hl
    exact ⟨L,fn,D,tv,.ready,none,by simp,hobj,by rw [hst]; trivial,hts.mono (Inj.le_refl _) hlm⟩
 ·exact { Tr.refl π lm w h.dom with
   os:=h1,tape:=h2,output:=h3,size:=hsz
   keep:=fun r hr _ _=>hext r hr
   low:=fun i A b n hA _ hp=>hext b (h.img_lt hA hp)
   lkeep:=fun _ L' hL'=>by obtain ⟨r,hr⟩:=h.loop_lt hL'; exact hext L' (lt_of_some hr)
   lo_le:=Nat.le_refl _
   nd_le:=Nat.le_refl _
   liv:=fun i A' _ hA=>⟨A',hA,rfl⟩
   lmx:=⟨[L],rfl,fun x hx=>by simp at hx; subst hx; exact hL⟩ }
theorem params_rel : ∀ {ps : List Tmp} {xs : List AV} {vs : List Value} {tl : List AV} {tv : Array Value},LR π lm tl tv.toList → LR π lm xs vs →
  LR π lm (putParams tl ps xs) ((ps.zip vs).foldl (fun (tmps : Array Value) (x : Tmp × Value)=>tmps.setIfInBounds x.1 x.2) tv).toList:=by
 intro ps
 induction ps with
 | nil=>intro xs vs tl tv ht _; simpa [putParams] using ht
 | cons p ps ih =>
  intro xs vs tl tv ht hx
  cases xs with
  | nil=>rw [hx.nil_inv]; simpa [putParams] using ht
  | cons x xs =>
   obtain ⟨c,ws,rfl,h1,h2⟩:=hx.uncons
   simp only [putParams,List.zip_cons_cons,List.foldl_cons]
   refine ih ?_ h2
   rw [setNth_eq,Array.toList_setIfInBounds]
   exact ht.set p h1
theorem params_rel' {ps : List Tmp} {xs : List AV} {vs tv : Array Value} {tl : List AV} (ht : LR π lm tl tv.toList) (hx : LR π lm xs vs.toList) :
  LR π lm (putParams tl ps xs) ((ps.toArray.zip vs).foldl (fun tmps (t,a)=>tmps.setIfInBounds t a) tv).toList:=by
 have:=params_rel (ps:=ps) ht hx
 rw [← Array.foldl_toList,Array.toList_zip]
 exact this
theorem sc_self {v : AV} {u : Value} (h : v.sc = some u) (π : Inj) (lm : List Nat) : VR π lm v u:=by
 cases v <;> simp [AV.sc] at h <;> subst h <;> constructor
theorem lone_rel {π' : Inj} {lm' : List Nat} {v : AV} {c : Value} (h : v.lone = true) (hv : VR π' lm' v c) (π : Inj) (lm : List Nat) : VR π lm v c:=by
 cases v with
 | sym k e lo hi=>cases hv with
  | sym h0 h1 h2=>exact .sym h0 h1 h2
 | _ =>
  simp only [AV.lone] at h
  obtain ⟨u,hu⟩:=Option.isSome_iff_exists.1 h
  rw [AV.sc_rel hu hv]
  exact sc_self hu π lm
theorem flat1_rel {π' : Inj} {lm' : List Nat} {v : AV} {c : Value} (h : v.flat1 = true) (hv : VR π' lm' v c) (π : Inj) (lm : List Nat) : VR π lm v c:=by
 cases v with
 | agg l =>
  cases hv with
  | agg hs hl =>
   simp only [AV.flat1,List.all_eq_true] at h
   exact .agg hs (fun i p q=>lone_rel (h _ (List.getElem_mem p)) (hl i p q) π lm)
 | _=>simp only [AV.flat1] at h; exact lone_rel h hv π lm
theorem flat_rel {π' : Inj} {lm' : List Nat} {v : AV} {c : Value} (h : v.flat = true) (hv : VR π' lm' v c) (π : Inj) (lm : List Nat) : VR π lm v c:=by
 cases v with
 | tup l =>
  obtain ⟨vs,rfl,hl⟩:=VR.tup_inv hv
  simp only [AV.flat,List.all_eq_true] at h
  exact .tup' ⟨hl.1,fun i p q=>flat1_rel (h _ (List.getElem_mem p)) (hl.2 i p q) π lm⟩
 | _=>simp only [AV.flat] at h; exact flat1_rel h hv π lm
def resG (tv : Array Value) : ResultVar → Sem Value
 | .tmp t=>pure (tv.getD t undef)
 | .cell x t=>do loadVar t (← asAddr (tv.getD x undef))
theorem results_eq (fn : Func) (tv : Array Value) : results fn tv = (do
  let vs ← fn.results.mapM (resG tv)
  pure (if h : vs.size = 1 then vs[0] else .tuple vs)):=by
 unfold results
 congr 1
theorem results_rel {fn : Func} {v : AV} (hw : WR B π lm s w) (r : LR π lm ts a.tmps.toList) (h : resultsA P fn ts s = some v) : ∃ c,(results fn a.tmps).run P w = .ok c w ∧ VR π lm v c:=by
 have slot : ∀ t,VR π lm (nthD undefA ts t) (a.tmps.getD t undef):=fun t=>eval_rel (x:=.tmp t) rfl r
 have key : ∀ (l : List ResultVar) (vs : List AV),optMap (resultA P ts s) l = some vs → ∃ cs : List Value,(l.mapM (resG a.tmps)).run P w = .ok cs w ∧ LR π lm vs cs:=by
  intro l
  induction l with
  | nil=>intro vs h; simp [optMap] at h; subst h; exact ⟨[],by simp,.nil⟩
  | cons x l ih =>
   intro vs h
   simp only [optMap] at h
   split at h
   ·rename_i u us hu hus
    simp at h; subst h
    obtain ⟨cs,h1,h2⟩:=ih us hus
    have : ∃ c,(resG a.tmps x).run P w = .ok c w ∧ VR π lm u c:=by
     cases x with
     | tmp t=>simp [resultA] at hu; subst hu; exact ⟨_,rfl,slot t⟩
     | cell x t =>
      simp only [resultA] at hu
      split at hu
      ·rename_i b off hb
       have:=slot x
       rw [hb] at this
       obtain ⟨b',n,hp,hc⟩:=VR.ptr_inv this
       obtain ⟨c,k1,k2⟩:=load_rel (P:=P) hw hu hp
       exact ⟨c,by simp [resG,hc,asAddr,k1],k2⟩
      ·cases hu
    obtain ⟨c,k1,k2⟩:=this
    refine ⟨c :: cs,?_,LR.cons k2 h2⟩
    rw [List.mapM_cons]
    simp only [Sem.run_bind,k1,Result.andThen_ok,h1,Sem.run_pure]
   ·cases h
 have fin : ∀ vs,optMap (resultA P ts s) fn.results.toList = some vs → ∃ cs : List Value,(fn.results.mapM (resG a.tmps)).run P w = .ok cs.toArray w ∧ LR π lm vs cs:=fun vs hvs=>by
  obtain ⟨cs,h1,h2⟩:=key _ _ hvs
  refine ⟨cs,?_,h2⟩
  rw [Array.mapM_eq_mapM_toList]
  simp only [Sem.run_map,h1,Result.andThen_ok]
 rw [results_eq]
 unfold resultsA at h
 split at h
 ·rename_i v' hv'
  simp at h; subst h
  obtain ⟨cs,h1,h2⟩:=fin _ hv'
  obtain ⟨c,ws,rfl,h3,h4⟩:=h2.uncons
  have:=h4.nil_inv
  subst this
  refine ⟨c,?_,h3⟩
  rw [Sem.run_bind,h1]
  simp
 ·rename_i vs hne hvs
  simp at h; subst h
  obtain ⟨cs,h1,h2⟩:=fin _ hvs
  have hlen : cs.length ≠ 1:=fun e=>by
   have:=h2.1
   rw [e] at this
   match vs,this,hne with
   | [v],_,hne=>exact hne v rfl
  refine ⟨.tuple cs.toArray,?_,.tup' h2⟩
  rw [Sem.run_bind,h1]
  simp [hlen]
 ·cases h
end Go.Ev
