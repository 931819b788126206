/- A faster twin: slots in a tree. -/
import Derived.Test.YtllecfhfhcmpaaaEvE
namespace Go.Ev
set_option linter.unusedSectionVars false
structure N8 (α : Type) where
 a : α
 b : α
 c : α
 d : α
 e : α
 f : α
 g : α
 h : α
def N8.sel {α : Type} (x : N8 α) (n : Nat) : α:=
 N8.casesOn (motive:=fun _=>α) x fun a b c d e f g h =>
 Nat.casesOn (motive:=fun _=>α) n a fun n=>Nat.casesOn (motive:=fun _=>α) n b fun n=>Nat.casesOn (motive:=fun _=>α) n c fun n=>Nat.casesOn (motive:=fun _=>α) n d fun n =>
 Nat.casesOn (motive:=fun _=>α) n e fun n=>Nat.casesOn (motive:=fun _=>α) n f fun n=>Nat.casesOn (motive:=fun _=>α) n g fun _=>h
def N8.up {α : Type} (k : α → α) (x : N8 α) (n : Nat) : N8 α:=
 N8.casesOn (motive:=fun _=>N8 α) x fun a b c d e f g h =>
 Nat.casesOn (motive:=fun _=>N8 α) n ⟨k a,b,c,d,e,f,g,h⟩ fun n=>Nat.casesOn (motive:=fun _=>N8 α) n ⟨a,k b,c,d,e,f,g,h⟩ fun n=>Nat.casesOn (motive:=fun _=>N8 α) n ⟨a,b,k c,d,e,f,g,h⟩ fun n =>
 Nat.casesOn (motive:=fun _=>N8 α) n ⟨a,b,c,k d,e,f,g,h⟩ fun n=>Nat.casesOn (motive:=fun _=>N8 α) n ⟨a,b,c,d,k e,f,g,h⟩ fun n=>Nat.casesOn (motive:=fun _=>N8 α) n ⟨a,b,c,d,e,k f,g,h⟩ fun n =>
 Nat.casesOn (motive:=fun _=>N8 α) n ⟨a,b,c,d,e,f,k g,h⟩ fun _=>⟨a,b,c,d,e,f,g,k h⟩
theorem N8.sel_up {α : Type} (k : α → α) (x : N8 α) (n m : Nat) (hn : n < 8) (hm : m < 8) : (N8.up k x n).sel m = if n = m then k (x.sel n) else x.sel m:=by
 cases x
 match n,hn with
 | 0,_ | 1,_ | 2,_ | 3,_ | 4,_ | 5,_ | 6,_ | 7,_=>match m,hm with
  | 0,_ | 1,_ | 2,_ | 3,_ | 4,_ | 5,_ | 6,_ | 7,_=>rfl
abbrev T3:=N8 (N8 (N8 AV))
def T3.get (t : T3) (n : Nat) : AV:=N8.sel (N8.sel (N8.sel t (n / 64)) (n / 8 % 8)) (n % 8)
def T3.set (t : T3) (n : Nat) (v : AV) : T3:=N8.up (fun x=>N8.up (fun y=>N8.up (fun _=>v) y (n % 8)) x (n / 8 % 8)) t (n / 64)
theorem T3.get_set (t : T3) (n m : Nat) (v : AV) (hn : n < 512) (hm : m < 512) : (t.set n v).get m = if n = m then v else t.get m:=by
 unfold T3.get T3.set
 rw [N8.sel_up _ _ _ _ (by omega) (by omega)]
 by_cases h1 : n / 64 = m / 64
 ·rw [if_pos h1,N8.sel_up _ _ _ _ (by omega) (by omega)]
  by_cases h2 : n / 8 % 8 = m / 8 % 8
  ·rw [if_pos h2,N8.sel_up _ _ _ _ (by omega) (by omega)]
   by_cases h3 : n % 8 = m % 8
   ·rw [if_pos h3,if_pos (by omega)]
   ·rw [if_neg h3,if_neg (by omega),h1,h2]
  ·rw [if_neg h2,if_neg (by omega),h1]
 ·rw [if_neg h1,if_neg (by omega)]
def N8.ofFn {α : Type} (f : Nat → α) : N8 α:=⟨f 0,f 1,f 2,f 3,f 4,f 5,f 6,f 7⟩
theorem N8.sel_ofFn {α : Type} (f : Nat → α) (n : Nat) (hn : n < 8) : (N8.ofFn f).sel n = f n:=by
 match n,hn with
 | 0,_ | 1,_ | 2,_ | 3,_ | 4,_ | 5,_ | 6,_ | 7,_=>rfl
def ofL (l : List AV) : T3:=N8.ofFn fun i=>N8.ofFn fun j=>N8.ofFn fun k=>nthD undefA l (i * 64 + j * 8 + k)
theorem get_ofL (l : List AV) (n : Nat) (hn : n < 512) : (ofL l).get n = nthD undefA l n:=by
 unfold T3.get ofL
 rw [N8.sel_ofFn _ _ (by omega),N8.sel_ofFn _ _ (by omega),N8.sel_ofFn _ _ (by omega)]
 congr 1; omega
def toLFrom (t : T3) : Nat → Nat → List AV
 | _,0=>[]
 | i,n + 1=>t.get i :: toLFrom t (i + 1) n
def toL (t : T3) (n : Nat) : List AV:=toLFrom t 0 n
section
variable [Know] (P : Program) (look : Operand → Option AV)
def lookAll : List Operand → Option (List AV)
 | []=>some []
 | x :: xs=>match look x,lookAll xs with
  | some v,some vs=>some (v :: vs)
  | _,_=>none
def lookParts : List (Nat × Operand) → Option (List (Nat × AV))
 | []=>some []
 | (i,x) :: xs=>match look x,lookParts xs with
  | some v,some vs=>some ((i,v) :: vs)
  | _,_=>none
def lookOpt : Option Operand → Option (Option AV)
 | none=>some none
 | some x=>(look x).map some
def pureG (o : Oper) : Option AV:=
 if o.op.operands.toList.all (fun x=>((look x).bind AV.toV).isSome) && plainOp o.op then
  match runPure P (execOp (fun x=>((look x).bind AV.toV).getD undef) o) with
  | some (.value v)=>ofV v
  | _=>none
 else none
def gVal (x : Option AV) (s : St) : Option ORes:=match x with
 | some v=>some (.val v s 0)
 | none=>none
def gPick (c : Option AV) (a b : Operand) (s : St) : Option ORes:=match c with
 | some (.bool t)=>gVal (look (Bool.casesOn t b a)) s
 | _=>none
def fits (k : IntKind) (n : Int) : Bool:=match k with
 | .i64=>match n with
  | .ofNat m=>Nat.ble m 9223372036854775807
  | .negSucc m=>Nat.ble m 9223372036854775807
 | _=>false
def wrapF (k : IntKind) (n : Int) : Int:=Bool.casesOn (fits k n) (k.wrap n) n
def intBinF (op : BinOp) (k : IntKind) (a b : Int) : Option AV:=
 match op with
 | .add=>some (.int k (wrapF k (a + b)))
 | .sub=>some (.int k (wrapF k (a - b)))
 | .mul=>some (.int k (wrapF k (a * b)))
 | op=>intBin op k a b
def gSym (o : Oper) (op : BinOp) (x y : Option AV) (s : St) : Option ORes:=
 match pureG P look o with
 | some v=>some (.val v s 0)
 | none=>match x,y with
  | some u,some v=>gVal (symBinT P o op u v) s
  | _,_=>none
def gBin (o : Oper) (op : BinOp) (x y : Option AV) (s : St) : Option ORes:=
 match x,y with
 | some (.int k a),some (.int k' b)=>if k = k' then (match intBinF op k a b with | some v=>some (.val v s 0) | none=>gSym P look o op x y s) else gSym P look o op x y s
 | _,_=>gSym P look o op x y s
def gConv (o : Oper) (src dst : TypeId) (x : Option AV) (s : St) : Option ORes:=
 match pureG P look o with
 | some v=>some (.val v s 0)
 | none=>match x with
  | some u=>match symConv P src dst u with
   | some v=>some (.val v s 0)
   | none=>match strA P s src dst u with
    | some v=>some (.val v s 1)
    | none=>none
  | none=>none
def gNot (o : Oper) (op : UnOp) (x : Option AV) (s : St) : Option ORes:=
 match op,x with
 | .not,some (.bool b)=>some (.val (.bool (!b)) s 0)
 | _,_=>match pureG P look o with
  | some v=>some (.val v s 0)
  | none=>match op,x with
   | .neg,some u=>gVal (symNeg u) s
   | _,_=>none
def gLoad (t : TypeId) (a : Option AV) (s : St) : Option ORes:=match a with
 | some (.ptr b off)=>match loadA P s t b off with
  | some v=>some (.val v s 1)
  | none=>none
 | _=>none
def gStore (t : TypeId) (a x : Option AV) (s : St) : Option ORes:=match a,x,sizeA P t with
 | some (.ptr b off),some v,some n=>if v.cells.length = n then (storeCellsA s b off v.cells).map (.val undefA · 2) else none
 | _,_,_=>none
def gFieldAddr (t : TypeId) (x : Option AV) (f : Nat) (s : St) : Option ORes:=match P.underlying t,x with
 | some (.struct fs),some (.ptr b off)=>match fs.toList[f]? with
  | some fd=>match sizeA P fd.type with
   | some n=>if n = 0 then none else some (.val (.ptr b (off + fd.offset)) s 0)
   | none=>none
  | none=>none
 | _,_=>none
def gIndexAddr (t : TypeId) (x i : Option AV) (s : St) : Option ORes:=match P.underlying t,x,i with
 | some (.array len e),some (.ptr b off),some (.int _ n)=>match sizeA P e with
  | some es=>if 0 ≤ n ∧ n < (len : Int) then some (.val (.ptr b (off + n.toNat * es)) s 0) else none
  | none=>none
 | some (.slice e),some (.slice b off len _ _ _),some (.int _ n)=>match sizeA P e with
  | some es=>if 0 ≤ n ∧ n < (len : Int) then some (.val (.ptr b (off + n.toNat * es)) s 0) else none
  | none=>none
 | _,_,_=>none
def gAlloc (t : TypeId) (s : St) : Option ORes:=(zeroA P t).map fun z=>.val (.ptr s.heap.length 0) (newBlk s t z.cells) 2
def gBox (t : TypeId) (x : Option AV) (s : St) : Option ORes:=x.map fun v=>.val (.ptr s.heap.length 0) (newBlk s t v.cells) 2
def gBuild (t : TypeId) (ps : Option (List (Nat × AV))) (s : St) : Option ORes:=match ps with
 | some ps=>(buildA P t ps).map (.val · s 0)
 | none=>none
def gBuildSlice (t : TypeId) (len : Nat) (ps : Option (List (Nat × AV))) (s : St) : Option ORes:=match P.underlying t with
 | some (.slice e)=>match sizeA P e,zeroA P e,ps with
  | some es,some z,some ps =>
   if len * es > 2 ^ 24 ∨ z.cells.length ≠ es then none else
   (fillA (fun i=>some (i * es,es)) (rep z.cells len) ps).map fun cs=>.val (.slice s.heap.length 0 len len true es) (newBlk s e cs) 2
  | _,_,_=>none
 | _=>none
def gMakeSlice (t : TypeId) (l c : Option AV) (s : St) : Option ORes:=match P.underlying t with
 | some (.slice e)=>match sizeA P e,bytesA P e,zeroA P e,l,c with
  | some es,some bs,some z,some (.int _ n),some (.int _ m) =>
   if 0 ≤ n ∧ n ≤ m ∧ m * bs ≤ 2 ^ 40 ∧ m ≤ 2 ^ 40 ∧ z.cells.length = es then
    some (.val (.slice s.heap.length 0 n.toNat m.toNat true es) (newBlk s e (rep z.cells m.toNat)) 2)
   else none
  | _,_,_,_,_=>none
 | _=>none
def gMakeFunc (fn : Fn) (x1 x2 : Option (List AV)) (s : St) : Option ORes:=match fn,x1,x2 with
 | .func f,some l1,some l2=>some (.val (.fn f l1 l2) s 0)
 | _,_,_=>none
def gSlice (o : Oper) (t : TypeId) (x : Option AV) (lo hi : Option (Option AV)) (mx : Option Operand) (s : St) : Option ORes:=match x,lo,hi,mx with
 | some v,some l,some h,none=>match sliceOf P t v l h with
  | some r=>some (.val r s 0)
  | none=>gVal (pureG P look o) s
 | _,_,_,_=>none
def gExtract (x : Option AV) (i : Nat) (s : St) : Option ORes:=match x with
 | some (.tup vs)=>match vs[i]? with
  | some v=>some (.val v s 0)
  | none=>none
 | _=>none
def gCall (o : Oper) (c : Call) (s : St) : Option ORes:=match c.callee with
 | .builtin b=>match lookAll look c.args.toList with
  | some args=>match builtinA P s b c.argTypes.toList args with
   | some (v,s',k)=>some (.val v s' k)
   | none=>gVal (pureG P look o) s
  | none=>none
 | .value f=>match look f,lookAll look c.args.toList with
  | some (.fn g l1 l2),some args=>some (.call g (l1 ++ (args ++ l2)))
  | some (.yield l),some args=>some (.round l args)
  | _,_=>none
 | _=>none
def gNil (o : Oper) (x : Option AV) (s : St) : Option ORes:=match x with
 | some (.ptr b off)=>some (.val (.ptr b off) s 0)
 | _=>gVal (pureG P look o) s
def evOpG0 (o : Oper) (s : St) : Option ORes:=
 match o.op with
 | .move x=>gVal (look x) s
 | .assign x=>gVal (look x) s
 | .pick c a b=>gPick look (look c) a b s
 | .binOp op _ x y _=>gBin P look o op (look x) (look y) s
 | .convert src dst x=>gConv P look o src dst (look x) s
 | .unOp op _ x=>gNot P look o op (look x) s
 | .nilCheck x=>gNil P look o (look x) s
 | .load t a=>gLoad P t (look a) s
 | .store t a x=>gStore P t (look a) (look x) s
 | .fieldAddr t x f=>gFieldAddr P t (look x) f s
 | .indexAddr t x i=>gIndexAddr P t (look x) (look i) s
 | .alloc t=>gAlloc P t s
 | .box t x=>gBox t (look x) s
 | .build t parts=>gBuild P t (lookParts look parts.toList) s
 | .buildSlice t len parts=>gBuildSlice P t len (lookParts look parts.toList) s
 | .makeSlice t l c=>gMakeSlice P t (look l) (look c) s
 | .makeFunc fn x1 x2=>gMakeFunc fn (lookAll look x1.toList) (lookAll look x2.toList) s
 | .slice t x lo hi mx=>gSlice P look o t (look x) (lookOpt look lo) (lookOpt look hi) mx s
 | .extract x i=>gExtract (look x) i s
 | .call c=>gCall P look o c s
 | _=>gVal (pureG P look o) s
def evOpG (o : Oper) (s : St) : Option ORes:=
 match evOpG0 P look o s with
 | some r=>some r
 | none=>evOpS P look o s
end
def lookT (t : T3) : Operand → Option AV
 | .tmp n=>some (t.get n)
 | .const v=>ofV v
 | .func f=>some (.fn f [] [])
 | .global _=>none
def putT (t : T3) (dst : Option Tmp) (v : AV) : T3:=match dst with
 | some d=>t.set d v
 | none=>t
structure EvF where
 code : Nat → Code → T3 → St → Option (AExit × T3 × St)
 call : FuncId → List AV → St → Option (AV × St × Bool)
 round : Nat → List AV → St → Option (Bool × St)
section
variable [Know] (P : Program) (rec : EvF)
def wantedF (ops : List Oper) (o : Oper) (t : T3) : Bool:=
 match o.guard with
 | none=>true
 | some (j,want)=>match (ops[j]?).bind (·.dst) with
  | none=>false
  | some d=>match t.get d with
   | .bool b=>b == want
   | _=>false
def evOneF (o : Oper) (t : T3) (s : St) : Option (AV × St):=
 match evOpG P (lookT t) o s with
 | some (.val v s' _)=>some (v,s')
 | some (.call f args)=>match rec.call f args s with
  | some (v,s',_)=>some (v,s')
  | none=>none
 | some (.round l args)=>match rec.round l args s with
  | some (b,s')=>some (.bool b,s')
  | none=>none
 | none=>none
def evOpsF (ops : List Oper) : List Oper → T3 → St → Option (T3 × St)
 | [],t,s=>some (t,s)
 | o :: rest,t,s =>
  Bool.casesOn (motive:=fun _=>Option (T3 × St)) (wantedF ops o t) (evOpsF ops rest (putT t o.dst undefA) s)
   (match evOneF P rec o t s with
   | some (v,s')=>evOpsF ops rest (putT t o.dst v) s'
   | none=>none)
def stepF (o : Oper) (t : T3) (s : St) (m h0 : Nat) (own : List Nat) : Option (AV × St × Nat):=
 match evOpG P (lookT t) o s with
 | some (.val v s' c) =>
  if pureS o.op then (if c = 0 then some (v,s,0) else none) else
  if alS o.op then (if (evOpG0 P (lookT t) o s).isSome then some (v,s',1) else none) else
  match o.op with
  | .load _ a=>match lookT t a with
   | some (.ptr b _)=>if Nat.blt b h0 || m.testBit (nthD 0 own (b - h0)) then some (v,s,0) else none
   | some (.sptr b _)=>if Nat.blt b h0 || m.testBit (nthD 0 own (b - h0)) then some (v,s,0) else none
   | _=>none
  | _=>none
 | some (.call f args) =>
  if refsLtL s.heap.length args && newOk s.heap.length (holes m.testBit own (s.heap.drop h0)) then
   match rec.call f args (maskSt m h0 own s) with
   | some (v,s1,q)=>if q then some (v,s,0) else
    if Nat.ble s.heap.length s1.lo && (Nat.ble s.heap.length s1.heap.length && (Nat.beq s1.nd s.nd && Nat.beq s1.loops.length s.loops.length)) then
     some (v,{ s with heap:=s.heap ++ s1.heap.drop s.heap.length },s1.heap.length - s.heap.length)
    else none
   | none=>none
  else none
 | _=>none
def blkF (t : T3) (o : Oper) : Option Nat:=
 match o.op with
 | .load _ a=>match lookT t a with
  | some (.ptr b _)=>some b
  | some (.sptr b _)=>some b
  | _=>none
 | .store _ a _=>match lookT t a with
  | some (.ptr b _)=>some b
  | some (.sptr b _)=>some b
  | _=>none
 | _=>none
def addLateF (late : Bool) (t : T3) (o : Oper) (lt : List Nat) : List Nat:=
 Bool.casesOn late lt (Bool.casesOn (isLoad o.op) lt (match blkF t o with | some b=>b :: lt | none=>lt))
def evDrawF (ops : List Oper) (k h0 : Nat) (ms : List Nat) : Nat → List Oper → T3 → St → List Nat → List Nat → Option (Option Nat) → Option (T3 × St)
 | _,[],t,s,_,lt,wr=>if lateOk lt wr then some (t,s) else none
 | i,o :: rest,t,s,own,lt,wr =>
  Bool.casesOn (motive:=fun _=>Option (T3 × St)) (wantedF ops o t) (evDrawF ops k h0 ms (i + 1) rest (putT t o.dst undefA) s own lt wr)
   (if i = k then match evOneF P rec o t s with
    | some (v,s')=>evDrawF ops k h0 ms (i + 1) rest (putT t o.dst v) s' own lt (some (blkF t o))
    | none=>none
   else match stepF P rec o t s (nthD 0 ms i) h0 own with
    | some (v,s',n)=>evDrawF ops k h0 ms (i + 1) rest (putT t o.dst v) s' (own ++ List.replicate n i) (addLateF (!(nthD 0 ms k).testBit i) t o lt) wr
    | none=>none)
def effF (t : T3) (o : Oper) (quiet : Bool) : Eff:=
 Bool.casesOn (alS o.op) (match o.op with
 | .store _ a _=>match lookT t a with
  | some (.ptr b _)=>some (some b)
  | some (.sptr b _)=>some (some b)
  | _=>some none
 | .call _=>match isApp o.op with
  | some x=>appE (lookT t x)
  | none=>if quiet then none else some none
 | _=>some none) none
def evOneQF (o : Oper) (t : T3) (s : St) : Option (AV × St × Bool):=
 match evOpG P (lookT t) o s with
 | some (.val v s' _)=>some (v,s',false)
 | some (.call f args)=>match rec.call f args s with
  | some (v,s',q)=>some (v,s',q || prefixB s.heap s'.heap)
  | none=>none
 | some (.round l args)=>match rec.round l args s with
  | some (b,s')=>some (.bool b,s',false)
  | none=>none
 | none=>none
def evChainF (ops : List Oper) (ms : List Nat) : Nat → List Oper → T3 → St → List (Nat × Nat) → List (Nat × Eff × Nat) → Option (T3 × St)
 | _,[],t,s,_,_=>some (t,s)
 | i, o :: rest,t,s,lds,mo =>
  Bool.casesOn (motive:=fun _=>Option (T3 × St)) (wantedF ops o t) (evChainF ops ms (i + 1) rest (putT t o.dst undefA) s lds mo)
   (Bool.casesOn (motive:=fun _=>Option (T3 × St)) (pureS o.op)
    (Bool.casesOn (motive:=fun _=>Option (T3 × St)) (isLoad o.op)
     (match evOneQF P rec o t s with
      | some (v,s',q)=>if lds.all (fun x=>(nthD 0 ms i).testBit x.1 || effOk (effF t o q) s.heap.length x.2) then
        evChainF ops ms (i + 1) rest (putT t o.dst v) s' lds ((i,effF t o q,s.heap.length) :: mo) else none
      | none=>none)
     (match evOpG P (lookT t) o s with
      | some (.val v _ _)=>match blkF t o with
       | some b=>if mo.all (fun x=>(nthD 0 ms i).testBit x.1 || effOk x.2.1 x.2.2 b) then evChainF ops ms (i + 1) rest (putT t o.dst v) s ((i,b) :: lds) mo else none
       | none=>none
      | _=>none))
    (match evOpG P (lookT t) o s with
     | some (.val v _ 0)=>evChainF ops ms (i + 1) rest (putT t o.dst v) s lds mo
     | _=>none))
def evFloatF (ops : List Oper) (ms : List Nat) (h0 h1 : Nat) : Nat → Nat → List Oper → T3 → St → List (Nat × Nat) → List (Nat × Eff × Nat) → Option (T3 × St)
 | _,_,[],t,s,_,_=>some (t,s)
 | i, c, o :: rest,t,s,lds,mo =>
  Bool.casesOn (motive:=fun _=>Option (T3 × St)) (wantedF ops o t)
   (if alS o.op then (if Nat.blt c h1 then evFloatF ops ms h0 h1 (i + 1) (c + 1) rest (putT t o.dst undefA) s lds mo else none)
    else evFloatF ops ms h0 h1 (i + 1) c rest (putT t o.dst undefA) s lds mo)
   (Bool.casesOn (motive:=fun _=>Option (T3 × St)) (pureS o.op)
    (Bool.casesOn (motive:=fun _=>Option (T3 × St)) (isLoad o.op)
     (Bool.casesOn (motive:=fun _=>Option (T3 × St)) (alS o.op)
      (match evOneQF P rec o t s with
       | some (v,s',q)=>if lds.all (fun x=>(nthD 0 ms i).testBit x.1 || effOk (effF t o q) s.heap.length x.2) then
         evFloatF ops ms h0 h1 (i + 1) c rest (putT t o.dst v) s' lds ((i,effF t o q,s.heap.length) :: mo) else none
       | none=>none)
      (match madeAt (evOpG0 P (lookT t) o (cutSt s c)) c with
       | some (v,A)=>if Nat.blt c h1 then evFloatF ops ms h0 h1 (i + 1) (c + 1) rest (putT t o.dst v) (setBlk s c A) lds mo else none
       | none=>none))
     (match evOpG P (lookT t) o s with
      | some (.val v _ _)=>match blkF t o with
       | some b=>if (Nat.blt b h0 || Nat.ble h1 b) && mo.all (fun x=>(nthD 0 ms i).testBit x.1 || effOk x.2.1 x.2.2 b) then evFloatF ops ms h0 h1 (i + 1) c rest (putT t o.dst v) s ((i,b) :: lds) mo else none
       | none=>none
      | _=>none))
    (match evOpG P (lookT t) o s with
     | some (.val v _ 0)=>evFloatF ops ms h0 h1 (i + 1) c rest (putT t o.dst v) s lds mo
     | _=>none))
def fRegion (ops : List Oper) (t : T3) (s : St) : Option (AExit × T3 × St):=match evOpsF P rec ops ops t s with
 | some (t',s')=>some (.normal,t',s')
 | none=>none
def fDraw (ops : Array Oper) (t : T3) (s : St) : Option (AExit × T3 × St):=if useChain ops then
  match evChainF P rec ops.toList (befs ops.toList []) 0 ops.toList t s [] [] with
  | some (t',s')=>some (.normal,t',s')
  | none=>none
 else if drawOk ops (sinkFrom ops.toList 0 ops.size) then
  match evDrawF P rec ops.toList (sinkFrom ops.toList 0 ops.size) s.heap.length (befs ops.toList []) 0 ops.toList t s [] [] none with
  | some (t',s')=>some (.normal,t',s')
  | none=>none
 else if floatOk ops then
  match evFloatF P rec ops.toList (befs ops.toList []) s.heap.length (s.heap.length + numAl ops.toList) 0 s.heap.length ops.toList t (room s (numAl ops.toList)) [] [] with
  | some (t',s')=>some (.normal,t',s')
  | none=>none
 else none
def fSeq (n : Nat) (r : Option (AExit × T3 × St)) (b : Code) : Option (AExit × T3 × St):=match r with
 | some (.normal,t',s')=>rec.code n b t' s'
 | r=>r
def fCond (n : Nat) (c : Option AV) (x y : Code) (t : T3) (s : St) : Option (AExit × T3 × St):=match c with
 | some (.bool b)=>rec.code n (Bool.casesOn b y x) t s
 | _=>none
def fBlock (id : Nat) (r : Option (AExit × T3 × St)) : Option (AExit × T3 × St):=match r with
 | some (.exit id',t',s')=>if id' = id then some (.normal,t',s') else some (.exit id',t',s')
 | r=>r
def fRange (n : Nat) (f : Option AV) (ps : Array Tmp) (assign body : Code) (t : T3) (s : St) : Option (AExit × T3 × St):=match f with
 | some (.fn g l1 l2) =>
  match rec.call g (l1 ++ (.yield s.loops.length :: l2)) { s with loops:=s.loops ++ [{ tmps:=toL t n,params:=ps.toList,assign,body,stat:=.ready }] } with
  | some (_,s',_)=>match statAt s' s.loops.length with
   | some .ready=>some (.normal,t,setStat s' s.loops.length .over)
   | some (.done .ret)=>some (.ret,t,setStat s' s.loops.length .over)
   | some (.done (.exit id))=>some (.exit id,t,setStat s' s.loops.length .over)
   | _=>none
  | none=>none
 | _=>none
def evCodeF (n : Nat) (c : Code) (t : T3) (s : St) : Option (AExit × T3 × St):=
 match c with
 | .skip=>some (.normal,t,s)
 | .label _=>some (.normal,t,s)
 | .region _ ops draw=>Bool.casesOn draw (fRegion P rec ops.toList t s) (fDraw P rec ops t s)
 | .seq a b=>fSeq rec n (rec.code n a t s) b
 | .cond c x y=>fCond rec n (lookT t c) x y t s
 | .block id body=>fBlock id (rec.code n body t s)
 | .loop body=>fSeq rec n (rec.code n body t s) (.loop body)
 | .exit id=>some (.exit id,t,s)
 | .ret=>some (.ret,t,s)
 | .rangeFunc f ps assign body=>fRange rec n (lookT t f) ps assign body t s
 | _=>none
def opndIn (n : Nat) : Operand → Bool
 | .tmp t=>Nat.blt t n
 | _=>true
def operIn (n : Nat) (o : Oper) : Bool:=(match o.dst with | some d=>Nat.blt d n | none=>true) && o.op.operands.toList.all (opndIn n)
def codeIn (n : Nat) : Code → Bool
 | .region _ ops _=>ops.toList.all (operIn n)
 | .seq a b=>codeIn n a && codeIn n b
 | .cond c x y=>opndIn n c && (codeIn n x && codeIn n y)
 | .block _ body=>codeIn n body
 | .loop body=>codeIn n body
 | .rangeFunc f ps assign body=>opndIn n f && (ps.toList.all (Nat.blt · n) && (codeIn n assign && codeIn n body))
 | .scope body=>codeIn n body
 | _=>true
def resIn (n : Nat) : ResultVar → Bool
 | .tmp t=>Nat.blt t n
 | .cell a _=>Nat.blt a n
def funcIn (fn : Func) (c : Code) : Bool:=Nat.ble fn.ntmps 512 && (codeIn fn.ntmps c && fn.results.toList.all (resIn fn.ntmps))
def resultF (t : T3) (s : St) : ResultVar → Option AV
 | .tmp n=>some (t.get n)
 | .cell a ty=>match t.get a with
  | .ptr b off=>loadA P s ty b off
  | _=>none
def resultsF (fn : Func) (t : T3) (s : St) : Option AV:=
 match optMap (resultF P t s) fn.results.toList with
 | some [v]=>some v
 | some vs=>some (.tup vs)
 | none=>none
def fEnd (s : St) (fn : Func) (t : T3) (s1 : St) : Option (AV × St × Bool):=match resultsF P fn t s1 with
 | some v =>
  if s.heap.length ≤ s1.lo && s1.nd == s.nd && v.flat then some (v,s,true)
  else some (v,{ s1 with lo:=min s.lo s1.lo },false)
 | none=>none
def fLeave (s : St) (fn : Func) (r : Option (AExit × T3 × St)) : Option (AV × St × Bool):=match r with
 | some (.normal,t,s1)=>fEnd P s fn t s1
 | some (.ret,t,s1)=>fEnd P s fn t s1
 | _=>none
def evCallF (f : FuncId) (args : List AV) (s : St) : Option (AV × St × Bool):=
 match P.funcs[f]? with
 | none=>none
 | some fn=>match fn.body with
  | none=>none
  | some c=>if funcIn fn c && Nat.ble args.length fn.ntmps then
    fLeave P s fn (rec.code fn.ntmps c (ofL (args ++ List.replicate (fn.ntmps - args.length) undefA)) { s with lo:=s.heap.length })
   else none
def evCallOF (orc : Orc) (f : FuncId) (args : List AV) (s : St) : Option (AV × St × Bool):=
 match orc f args s with
 | some r=>some r
 | none=>evCallF P rec f args s
def forceNat {α : Type} (n : Nat) (k : Nat → α) : α:=Nat.casesOn n (k 0) fun m=>k (m + 1)
omit [Know] in
theorem forceNat_eq {α : Type} (n : Nat) (k : Nat → α) : forceNat n k = k n:=by cases n <;> rfl
def evRoundF (l : Nat) (args : List AV) (s : St) : Option (Bool × St):=
 match s.loops[l]? with
 | some { tmps,params,assign,body,stat:=.ready } =>
  forceNat tmps.length fun n =>
  if args.length = params.length && (Nat.ble n 512 && (codeIn n assign && codeIn n body)) then
   match rec.code n assign (ofL (putParams tmps params args)) s with
   | some (.normal,t1,s1)=>match statAt s1 l with
    | some .ready=>match rec.code n body t1 (setStat s1 l .busy) with
     | some (e,_,s2)=>match statAt s2 l with
      | some .busy=>match e with
       | .normal=>some (true,setStat s2 l .ready)
       | .ret=>some (false,{ setStat s2 l (.done .ret) with nd:=s2.nd + 1 })
       | .exit id=>some (false,{ setStat s2 l (.done (.exit id)) with nd:=s2.nd + 1 })
       | .goto _=>none
      | _=>none
     | none=>none
    | _=>none
   | _=>none
  else none
 | _=>none
end
def EvF.bot : EvF:={ code:=fun _ _ _ _=>none,call:=fun _ _ _=>none,round:=fun _ _ _=>none }
def EvF.step [Know] (P : Program) (orc : Orc) (rec : EvF) : EvF:={ code:=evCodeF P rec,call:=evCallOF P rec orc,round:=evRoundF rec }
def evF [Know] (P : Program) (orc : Orc) : Nat → EvF
 | 0=>.bot
 | n + 1=>.step P orc (evF P orc n)
end Go.Ev
