/- The evaluator: its state, its operations, code, calls. -/
import Derived.Test.YtllecfhfhcmpaaaEvA
namespace Go.Ev
open Go.RowKit (Below)
structure ABlk where
 elem : TypeId
 cells : List AV
 ro : Bool
 tl : Option (Nat × EK):=none
def EK.no : EK → Nat
 | .int k=>kindNo k
 | .bool=>8
theorem EK.no_ok [Rho] {a b : EK} (h : Nat.beq a.no b.no = true) : a = b:=by
 cases a with
 | int k=>cases b with
  | int k'=>rw [kindNo_ok h]
  | bool=>cases k <;> simp [EK.no,kindNo] at h
 | bool=>cases b with
  | int k'=>cases k' <;> simp [EK.no,kindNo] at h
  | bool=>rfl
def tlSame : Option (Nat × EK) → Option (Nat × EK) → Bool
 | none,none=>true
 | some (k,d),some (k',d')=>Nat.beq k k' && Nat.beq d.no d'.no
 | _,_=>false
theorem tlSame_ok [Rho] {a b : Option (Nat × EK)} (h : tlSame a b = true) : a = b:=by
 unfold tlSame at h
 split at h
 ·rfl
 ·simp only [Bool.and_eq_true] at h; rw [Nat.beq_eq] at h; rw [h.1,EK.no_ok h.2]
 ·cases h
def beqB (x y : ABlk) : Bool:=Nat.beq x.elem y.elem && ((x.ro == y.ro) && (tlSame x.tl y.tl && beqL beq0 x.cells y.cells))
theorem beqB_ok [Rho] {x y : ABlk} (h : beqB x y = true) : x = y:=by
 simp only [beqB,Bool.and_eq_true,beq_iff_eq,Nat.beq_eq] at h
 cases x; cases y
 simp only at h
 rw [h.1,h.2.1,tlSame_ok h.2.2.1,beqL_ok beq0_ok h.2.2.2]
def prefixB : List (Option ABlk) → List (Option ABlk) → Bool
 | [],_=>true
 | some A :: l,some B :: m=>beqB A B && prefixB l m
 | none :: l,none :: m=>prefixB l m
 | _,_=>false
theorem prefixB_ok [Rho] : ∀ {l m : List (Option ABlk)},prefixB l m = true → ∀ (b : Nat),b < l.length → m[b]? = l[b]?
 | [],_,_,b,hb=>by simp at hb
 | some A :: l,some B :: m,h,b,hb=>by
  simp only [prefixB,Bool.and_eq_true] at h
  cases b with
  | zero=>simp [beqB_ok h.1]
  | succ b=>simpa using prefixB_ok h.2 b (by simpa using hb)
 | none :: l,none :: m,h,b,hb=>by
  cases b with
  | zero=>rfl
  | succ b=>simpa using prefixB_ok (show prefixB l m = true from h) b (by simpa using hb)
 | some _ :: _,none :: _,h,_,_=>by cases h
 | none :: _,some _ :: _,h,_,_=>by cases h
 | some _ :: _,[],h,_,_=>by cases h
 | none :: _,[],h,_,_=>by cases h
inductive LStat where
 | ready
 | busy
 | done (c : Code)
 | over
structure ALoop where
 tmps : List AV
 params : List Tmp
 assign : Code
 body : Code
 stat : LStat
structure St where
 heap : List (Option ABlk)
 lo : Nat
 loops : List ALoop
 nd : Nat
inductive AExit where
 | normal
 | exit (id : Nat)
 | goto (l : Nat)
 | ret
inductive ORes where
 | val (v : AV) (s : St) (cls : Nat)
 | call (f : FuncId) (args : List AV)
 | round (l : Nat) (args : List AV)
def nthD {α : Type} (d : α) : List α → Nat → α
 | [],_=>d
 | a :: _,0=>a
 | _ :: l,n + 1=>nthD d l n
def setNth {α : Type} (v : α) : List α → Nat → List α
 | [],_=>[]
 | _ :: l,0=>v :: l
 | a :: l,n + 1=>a :: setNth v l n
def eval (ts : List AV) : Operand → Option AV
 | .tmp t=>some (nthD undefA ts t)
 | .const v=>ofV v
 | .func f=>some (.fn f [] [])
 | .global _=>none
def evals (ts : List AV) : List Operand → Option (List AV)
 | []=>some []
 | x :: xs=>match eval ts x,evals ts xs with
  | some v,some vs=>some (v :: vs)
  | _,_=>none
def put (ts : List AV) (dst : Option Tmp) (v : AV) : List AV:=
 match dst with
 | some d=>setNth v ts d
 | none=>ts
def runPure {α : Type} (P : Program) : Sem α → Option α
 | .pure a=>some a
 | .program k=>runPure P (k P)
 | _=>none
def blockAt (s : St) (b : Nat) : Option ABlk:=nthD none s.heap b
def isAggA (P : Program) (t : TypeId) : Option Bool:=
 match P.underlying t with
 | some (.struct _)=>some true
 | some (.array _ _)=>some true
 | some _=>some false
 | none=>none
def sizeA (P : Program) (t : TypeId) : Option Nat:=(P.info? t).map (·.size)
def cut (l : List AV) (off n : Nat) : Option (List AV):=
 if off + n ≤ l.length then some ((l.drop off).take n) else none
def loadA (P : Program) (s : St) (t : TypeId) (b off : Nat) : Option AV:=
 match blockAt s b with
 | none=>none
 | some A=>match isAggA P t with
  | some true=>match sizeA P t with
   | some n=>(cut A.cells off n).map .agg
   | none=>none
  | some false=>match cut A.cells off 1 with
   | some [v]=>some v
   | _=>none
  | none=>none
def AV.one : AV → Bool
 | .agg _=>false
 | .tup _=>false
 | .top=>false
 | _=>true
def paste (l : List AV) (off : Nat) (vs : List AV) : Option (List AV):=
 if off + vs.length ≤ l.length then some (l.take off ++ (vs ++ l.drop (off + vs.length))) else none
def storeCellsA (s : St) (b off : Nat) (vs : List AV) : Option St:=
 match blockAt s b with
 | none=>none
 | some A=>if A.ro || (!(vs.all AV.one) || A.tl.isSome) then none else match paste A.cells off vs with
  | some cs=>some { s with heap:=setNth (some { A with cells:=cs }) s.heap b,lo:=min s.lo b }
  | none=>none
def newBlk (s : St) (t : TypeId) (cs : List AV) (tl : Option (Nat × EK):=none) : St:={ s with heap:=s.heap ++ [some { elem:=t,cells:=cs,ro:=false,tl:=tl }] }
def zeroA (P : Program) (t : TypeId) : Option AV:=
 match P.info? t with
 | some i=>match i.zero with
  | some v=>ofV v
  | none=>none
 | none=>none
def fillA (place : Nat → Option (Nat × Nat)) (cells : List AV) : List (Nat × AV) → Option (List AV)
 | []=>some cells
 | (i,v) :: rest =>
  match place i with
  | none=>none
  | some (off,size) =>
   if v.cells.length = size then
    match paste cells off v.cells with
    | some cs=>fillA place cs rest
    | none=>none
   else none
def evalParts (ts : List AV) : List (Nat × Operand) → Option (List (Nat × AV))
 | []=>some []
 | (i,x) :: xs=>match eval ts x,evalParts ts xs with
  | some v,some vs=>some ((i,v) :: vs)
  | _,_=>none
def fieldSize (P : Program) (fs : Array Field) (i : Nat) : Option (Nat × Nat):=
 match fs.toList[i]? with
 | some f=>(sizeA P f.type).map fun n=>(f.offset,n)
 | none=>none
def buildA (P : Program) (t : TypeId) (parts : List (Nat × AV)) : Option AV:=
 match zeroA P t with
 | none=>none
 | some z=>match P.underlying t with
  | some (.struct fs)=>if fs.toList.all (fun f=>(sizeA P f.type).isSome) then (fillA (fieldSize P fs) z.cells parts).map .agg else none
  | some (.array _ e)=>match sizeA P e with
   | some n=>(fillA (fun i=>some (i * n,n)) z.cells parts).map .agg
   | none=>none
  | _=>none
def rep {α : Type} (l : List α) : Nat → List α
 | 0=>[]
 | n + 1=>l ++ rep l n
def intA : AV → Option (IntKind × Int)
 | .int k n=>some (k,n)
 | _=>none
def boundA (v : Option AV) (dflt top : Nat) : Option Nat:=
 match v with
 | none=>some dflt
 | some (.int _ n)=>if 0 ≤ n ∧ n ≤ (top : Int) then some n.toNat else none
 | some _=>none
def evalOpt (ts : List AV) : Option Operand → Option (Option AV)
 | none=>some none
 | some x=>(eval ts x).map some
def sliceOf (P : Program) (t : TypeId) (x : AV) (lo hi : Option AV) : Option AV:=
 match P.underlying t,x with
 | some (.array n e),.ptr b off =>
  match sizeA P e,boundA hi n n with
  | some es,some h=>match boundA lo 0 h with
   | some l=>some (.slice b (if n = l then off else off + l * es) (h - l) (n - l) true es)
   | none=>none
  | _,_=>none
 | some (.slice e),.slice b off len cap ex es =>
  match sizeA P e,boundA hi len cap with
  | some n,some h =>
   if n = es then match boundA lo 0 h with
    | some l=>if ex then some (.slice b (if cap = l then off else off + l * es) (h - l) (cap - l) true es)
     else if l < cap ∨ l = 0 then some (.slice b (off + l * es) (h - l) (cap - l) false es) else none
    | none=>none
   else none
  | _,_=>none
 | some (.slice e),.nilSlice =>
  match sizeA P e,boundA hi 0 0 with
  | some _,some h=>match boundA lo 0 h with
   | some _=>some .nilSlice
   | none=>none
  | _,_=>none
 | _,_=>none
def firstA (s : St) (es n : Nat) : AV → Option (List AV)
 | .slice b off _ _ _ _=>match blockAt s b with
  | some A=>cut A.cells off (n * es)
  | none=>none
 | .nilSlice=>some []
 | _=>none
def lenA : AV → Option Nat
 | .slice _ _ len _ _ _=>some len
 | .nilSlice=>some 0
 | _=>none
def bytesA (P : Program) (t : TypeId) : Option Nat:=(P.info? t).map (·.bytes)
def appendA (P : Program) (s : St) (sT xT : TypeId) (x y : AV) : Option (AV × St):=
 match P.underlying sT,P.underlying xT with
 | some (.slice e),some (.slice _) =>
  match sizeA P e,bytesA P e,lenA y,zeroA P e with
  | some es,some bs,some n,some z =>
   if es = 0 ∨ bs = 0 ∨ z.cells.length ≠ es then none else
   match firstA s es n y with
   | none=>none
   | some new=>match x with
    | .nilSlice =>
     if n = 0 then some (.nilSlice,s)
     else if n * bs > 2 ^ 40 then none
     else some (.slice s.heap.length 0 n n false es,newBlk s e new)
    | .slice b off len cap ex es' =>
     if es' ≠ es then none else
     if len + n ≤ cap then (storeCellsA s b (off + len * es) new).map fun s'=>(.slice b off (len + n) cap ex es,s')
     else if (len + n) * bs > 2 ^ 40 then none
     else match firstA s es len x with
      | none=>none
      | some old =>
       if ex then some (.slice s.heap.length 0 (len + n) (len + n) false es,newBlk s e (old ++ new))
       else if off = 0 then
        match blockAt s b with
        | some A=>if A.ro ∨ A.elem ≠ e ∨ ¬ new.all AV.one then none else
         some (.slice s.heap.length 0 (len + n) (len + n) false es,
          { newBlk { s with heap:=setNth none s.heap b,lo:=min s.lo b } e (old ++ new) with lo:=min s.lo b })
        | none=>none
       else none
    | _=>none
  | _,_,_,_=>none
 | _,_=>none
section
variable [Know]
def pickA (op : BinOp) (x y : AV) : Option AV:=
 match symBin op y x with
 | some (.bool true)=>some y
 | some (.bool false)=>some x
 | _=>none
def builtinA (P : Program) (s : St) (b : Builtin) (ats : List TypeId) (args : List AV) : Option (AV × St × Nat):=
 match b,ats,args with
 | .len,[t],[x]=>match P.underlying t,lenA x with
  | some (.slice _),some n=>some (.int .i64 n,s,0)
  | _,_=>none
 | .append,[st,xt],[x,y]=>(appendA P s st xt x y).map fun (v,s')=>(v,s',2)
 | .max,[_,_],[x,y]=>(pickA .gtr x y).map fun v=>(v,s,0)
 | .min,[_,_],[x,y]=>(pickA .lss x y).map fun v=>(v,s,0)
 | _,_,_=>none
def intBin (op : BinOp) (k : IntKind) (a b : Int) : Option AV:=
 match op with
 | .add=>some (.int k (k.wrap (a + b)))
 | .sub=>some (.int k (k.wrap (a - b)))
 | .mul=>some (.int k (k.wrap (a * b)))
 | .quo=>if b = 0 then none else some (.int k (k.wrap (a.tdiv b)))
 | .rem=>if b = 0 then none else some (.int k (a.tmod b))
 | .eql=>some (.bool (a == b))
 | .neq=>some (.bool (a != b))
 | .lss=>some (.bool (a < b))
 | .leq=>some (.bool (a ≤ b))
 | .gtr=>some (.bool (a > b))
 | .geq=>some (.bool (a ≥ b))
 | _=>none
def plainOp : Op → Bool
 | .select ..=>false
 | .defer _=>false
 | _=>true
def pureOp (P : Program) (ts : List AV) (o : Oper) : Option AV:=
 if o.op.operands.toList.all (fun x=>((eval ts x).bind AV.toV).isSome) && plainOp o.op then
  match runPure P (execOp (fun x=>((eval ts x).bind AV.toV).getD undef) o) with
  | some (.value v)=>ofV v
  | _=>none
 else none
def binA (P : Program) (ts : List AV) (o : Oper) (op : BinOp) (x y : Operand) : Option AV:=
 match eval ts x,eval ts y with
 | some (.int k a),some (.int k' b)=>if k = k' then (match intBin op k a b with | some v=>some v | none=>pureOp P ts o) else pureOp P ts o
 | _,_=>pureOp P ts o
def eqFs (P : Program) : Nat → List Field → List AV → List AV → Option Bool
 | 0,_,_,_=>none
 | _ + 1,[],_,_=>some true
 | d + 1,f :: fs,l,m =>
  if f.name == "_" then none else
  match (match P.underlying f.type with
   | some (.int _)=>match l[f.offset]?,m[f.offset]? with
    | some x,some y=>match symBin .eql x y with
     | some (.bool b)=>some b
     | _=>none
    | _,_=>none
   | some (.struct gs)=>if P.stoodInHeld f.type then none else match sizeA P f.type with
    | some n=>match cut l f.offset n,cut m f.offset n with
     | some l',some m'=>eqFs P d gs.toList l' m'
     | _,_=>none
    | none=>none
   | _=>none) with
  | some true=>eqFs P d fs l m
  | r=>r
def eqAgg (P : Program) (t : TypeId) (l m : List AV) : Option Bool:=
 match P.underlying t with
 | some (.struct fs)=>if P.stoodInHeld t || P.eqGuardType P.depth t then none else eqFs P 100 fs.toList l m
 | _=>none
def symBinT (P : Program) (o : Oper) (op : BinOp) (u v : AV) : Option AV:=
 match symBin op u v with
 | some r=>some r
 | none=>match symW op u v with
 | some r=>some r
 | none=>match u,v,o.op with
  | .agg l,.agg m,.binOp _ xt _ _ _=>match op with
   | .eql=>(eqAgg P xt l m).map .bool
   | .neq=>(eqAgg P xt l m).map fun b=>.bool (!b)
   | _=>none
  | _,_,_=>none
def binS (P : Program) (ts : List AV) (o : Oper) (op : BinOp) (x y : Operand) : Option AV:=
 match binA P ts o op x y with
 | some v=>some v
 | none=>match eval ts x,eval ts y with
  | some u,some v=>symBinT P o op u v
  | _,_=>none
def symConv (P : Program) (src dst : TypeId) (u : AV) : Option AV:=
 match P.underlying src,P.underlying dst,symA u with
 | some _,some (.int k),some (_,e,l,h)=>if kin k l h then some (mkA k e l h) else symCv k u
 | _,_,_=>none
def convS (P : Program) (ts : List AV) (o : Oper) (src dst : TypeId) (x : Operand) : Option AV:=
 match pureOp P ts o with
 | some v=>some v
 | none=>match eval ts x with
  | some u=>symConv P src dst u
  | none=>none
def unS (P : Program) (ts : List AV) (o : Oper) (op : UnOp) (x : Operand) : Option AV:=
 match pureOp P ts o with
 | some v=>some v
 | none=>match op,eval ts x with
  | .neg,some u=>symNeg u
  | _,_=>none
def bytesOf : List AV → Option (List Int)
 | []=>some []
 | .int .u8 n :: l=>(bytesOf l).map (n :: ·)
 | _=>none
def strA (P : Program) (s : St) (src dst : TypeId) (v : AV) : Option AV:=
 match P.underlying src,P.underlying dst,v with
 | some (.slice e),some .string,.slice b off len _ _ _=>match P.underlying e,blockAt s b with
  | some (.int .u8),some A=>match cut A.cells off len with
   | some cs=>(bytesOf cs).map fun ns=>.str (ns.foldl (fun r n=>r.push (UInt8.ofNat n.toNat)) ByteArray.empty)
   | none=>none
  | _,_=>none
 | _,_,_=>none
def convA (P : Program) (ts : List AV) (o : Oper) (src dst : TypeId) (x : Operand) (s : St) : Option ORes:=
 match convS P ts o src dst x with
 | some v=>some (.val v s 0)
 | none=>match eval ts x with
  | some u=>(strA P s src dst u).map (.val · s 1)
  | none=>none
def evOp0 (P : Program) (ts : List AV) (o : Oper) (s : St) : Option ORes:=
 match o.op with
 | .move x | .assign x=>(eval ts x).map (.val · s 0)
 | .pick c a b=>match eval ts c with
  | some (.bool t)=>(eval ts (if t then a else b)).map (.val · s 0)
  | _=>none
 | .binOp op _ x y _=>(binS P ts o op x y).map (.val · s 0)
 | .convert src dst x=>convA P ts o src dst x s
 | .unOp op _ x=>(unS P ts o op x).map (.val · s 0)
 | .nilCheck x=>match eval ts x with
  | some (.ptr b off)=>some (.val (.ptr b off) s 0)
  | _=>(pureOp P ts o).map (.val · s 0)
 | .load t a=>match eval ts a with
  | some (.ptr b off)=>(loadA P s t b off).map (.val · s 1)
  | _=>none
 | .store t a x=>match eval ts a,eval ts x,sizeA P t with
  | some (.ptr b off),some v,some n=>if v.cells.length = n then (storeCellsA s b off v.cells).map (.val undefA · 2) else none
  | _,_,_=>none
 | .fieldAddr t x f=>match P.underlying t,eval ts x with
  | some (.struct fs),some (.ptr b off)=>match fs.toList[f]? with
   | some fd=>match sizeA P fd.type with
    | some n=>if n = 0 then none else some (.val (.ptr b (off + fd.offset)) s 0)
    | none=>none
   | none=>none
  | _,_=>none
 | .indexAddr t x i=>match P.underlying t,eval ts x,eval ts i with
  | some (.array len e),some (.ptr b off),some (.int _ n)=>match sizeA P e with
   | some es=>if 0 ≤ n ∧ n < (len : Int) then some (.val (.ptr b (off + n.toNat * es)) s 0) else none
   | none=>none
  | some (.slice e),some (.slice b off len _ _ _),some (.int _ n)=>match sizeA P e with
   | some es=>if 0 ≤ n ∧ n < (len : Int) then some (.val (.ptr b (off + n.toNat * es)) s 0) else none
   | none=>none
  | _,_,_=>none
 | .alloc t=>(zeroA P t).map fun z=>.val (.ptr s.heap.length 0) (newBlk s t z.cells) 2
 | .box t x=>(eval ts x).map fun v=>.val (.ptr s.heap.length 0) (newBlk s t v.cells) 2
 | .build t parts=>match evalParts ts parts.toList with
  | some ps=>(buildA P t ps).map (.val · s 0)
  | none=>none
 | .buildSlice t len parts=>match P.underlying t with
  | some (.slice e)=>match sizeA P e,zeroA P e,evalParts ts parts.toList with
   | some es,some z,some ps =>
    if len * es > 2 ^ 24 ∨ z.cells.length ≠ es then none else
    (fillA (fun i=>some (i * es,es)) (rep z.cells len) ps).map fun cs=>.val (.slice s.heap.length 0 len len true es) (newBlk s e cs) 2
   | _,_,_=>none
  | _=>none
 | .makeSlice t l c=>match P.underlying t with
  | some (.slice e)=>match sizeA P e,bytesA P e,zeroA P e,eval ts l,eval ts c with
   | some es,some bs,some z,some (.int _ n),some (.int _ m) =>
    if 0 ≤ n ∧ n ≤ m ∧ m * bs ≤ 2 ^ 40 ∧ m ≤ 2 ^ 40 ∧ z.cells.length = es then
     some (.val (.slice s.heap.length 0 n.toNat m.toNat true es) (newBlk s e (rep z.cells m.toNat)) 2)
    else none
   | _,_,_,_,_=>none
  | _=>none
 | .makeFunc fn first captured=>match fn,evals ts first.toList,evals ts captured.toList with
  | .func f,some l1,some l2=>some (.val (.fn f l1 l2) s 0)
  | _,_,_=>none
 | .slice t x lo hi mx=>match eval ts x,evalOpt ts lo,evalOpt ts hi,mx with
  | some v,some l,some h,none=>match sliceOf P t v l h with
   | some r=>some (.val r s 0)
   | none=>(pureOp P ts o).map (.val · s 0)
  | _,_,_,_=>none
 | .extract x i=>match eval ts x with
  | some (.tup vs)=>match vs[i]? with
   | some v=>some (.val v s 0)
   | none=>none
  | _=>none
 | .call c=>match c.callee with
  | .builtin b=>match evals ts c.args.toList with
   | some args=>match builtinA P s b c.argTypes.toList args with
    | some (v,s',k)=>some (.val v s' k)
    | none=>(pureOp P ts o).map (.val · s 0)
   | none=>none
  | .value f=>match eval ts f,evals ts c.args.toList with
   | some (.fn g l1 l2),some args=>some (.call g (l1 ++ (args ++ l2)))
   | some (.yield l),some args=>some (.round l args)
   | _,_=>none
  | _=>none
 | _=>(pureOp P ts o).map (.val · s 0)
def elemK (P : Program) (e : TypeId) : Option EK:=
 match P.underlying e with
 | some (.int k)=>some (.int k)
 | some .bool=>some .bool
 | _=>none
def AV.lone : AV → Bool
 | .sym _ _ _ _=>true
 | v=>v.sc.isSome
def idxS (P : Program) (t : TypeId) (x i : Option AV) (s : St) : Option ORes:=
 match P.underlying t,x,i.bind symA with
 | some (.slice e),some (.sls b off len _ _),some (_,ie,_,_) =>
  if sizeA P e = some 1 ∧ leX (.lit 0) ie = true ∧ ltX ie len = true then some (.val (.sptr b (addX off ie)) s 0) else none
 | _,_,_=>none
def loadS (P : Program) (t : TypeId) (a : Option AV) (s : St) : Option ORes:=
 match a with
 | some (.sptr b e)=>match blockAt s b with
  | some A=>match A.tl,isAggA P t with
   | some (k,d),some false=>(Know.cell k d e).map (.val · s 1)
   | _,_=>none
  | none=>none
 | _=>none
def storeS (P : Program) (t : TypeId) (a x : Option AV) (s : St) : Option ORes:=
 match a,x with
 | some (.sptr b e),some v=>match blockAt s b with
  | some A=>match A.tl with
   | some (k,d)=>if A.ro = false ∧ v.lone = true ∧ sizeA P t = some 1 then match Know.put k d e v with
    | some k'=>some (.val undefA { s with heap:=setNth (some { A with tl:=some (k',d),cells:=[] }) s.heap b,lo:=min s.lo b } 2)
    | none=>none
    else none
   | none=>none
  | none=>none
 | _,_=>none
def boundS (v : Option AV) (d : SX) : Option SX:=
 match v with
 | none=>some d
 | some v=>(symA v).map (·.2.1)
def sliceS (P : Program) (t : TypeId) (x : Option AV) (lo hi : Option (Option AV)) (s : St) : Option ORes:=
 match P.underlying t,x,lo,hi with
 | some (.slice e),some (.sls b off len cap ex),some l,some h=>match boundS l (.lit 0),boundS h len with
  | some l',some h' =>
   if sizeA P e = some 1 ∧ leX (.lit 0) l' = true ∧ leX l' h' = true ∧ leX h' len = true ∧ (l'.zero || ltX l' cap) = true then
    some (.val (.sls b (addX off l') (subX h' l') (subX cap l') ex) s 0) else none
  | _,_=>none
 | _,_,_,_=>none
def zeroK (P : Program) (e : TypeId) (d : EK) : Bool:=
 match d,zeroA P e with
 | .int k,some (.int k' n)=>Nat.beq (kindNo k) (kindNo k') && decide (n = 0)
 | .bool,some (.bool b)=>!b
 | _,_=>false
def makeS (P : Program) (t : TypeId) (l c : Option AV) (s : St) : Option ORes:=
 match P.underlying t,l.bind symA,c.bind symA with
 | some (.slice e),some (_,n,lo,hi),some (_,m,_,_)=>match elemK P e,bytesA P e with
  | some d,some bs =>
   if sizeA P e = some 1 ∧ zeroK P e d = true ∧ n.same m = true ∧ 0 ≤ lo ∧ hi * bs ≤ 2 ^ 40 ∧ hi ≤ 2 ^ 40 then match Know.rep d n with
    | some k=>some (.val (.sls s.heap.length (.lit 0) n n true) (newBlk s e [] (some (k,d))) 2)
    | none=>none
   else none
  | _,_=>none
 | _,_,_=>none
def lenS (P : Program) (t : TypeId) (x : AV) (s : St) : Option ORes:=
 match P.underlying t,x with
 | some (.slice _),.sls _ _ len _ _=>match len.rng with
  | some (l,h)=>some (.val (mkA .i64 len l h) s 0)
  | none=>none
 | _,_=>none
def descA (s : St) (d : EK) (x : AV) : Option (Desc × SX):=
 match x with
 | .nilSlice=>some (.cells [],.lit 0)
 | .slice b off len _ _ es=>if es = 1 then match blockAt s b with
  | some A=>match cut A.cells off len with
   | some l=>if l.all AV.lone then some (.cells l,.lit len) else none
   | none=>none
  | none=>none
  else none
 | .sls b off len _ _=>match blockAt s b with
  | some A=>match A.tl with
   | some (k,d')=>if d = d' then some (.lst k off len,len) else none
   | none=>none
  | none=>none
 | _=>none
def growS (s : St) (e : TypeId) (L : SX) (k : Nat) (d : EK) : ORes:=.val (.sls s.heap.length (.lit 0) L L false) (newBlk s e [] (some (k,d))) 2
def tipS (s : St) (e : TypeId) (b : Nat) (L : SX) (k : Nat) (d : EK) : Option ORes:=
 match blockAt s b with
 | some A=>if A.ro = false ∧ A.elem = e then
   some (.val (.sls s.heap.length (.lit 0) L L false) { newBlk { s with heap:=setNth none s.heap b,lo:=min s.lo b } e [] (some (k,d)) with lo:=min s.lo b } 2) else none
 | none=>none
def app0 (P : Program) (sT xT : TypeId) (x y : AV) : Option AV:=
 match P.underlying sT,P.underlying xT with
 | some (.slice e),some (.slice _)=>match y with
  | .sls _ _ len _ _=>if sizeA P e = some 1 ∧ len.zero = true then (match x with
   | .slice _ _ len cap _ _=>if Nat.ble len cap then some x else none
   | .sls _ _ _ _ _=>some x
   | _=>none) else none
  | _=>none
 | _,_=>none
def appS (P : Program) (sT xT : TypeId) (x y : AV) (s : St) : Option ORes:=
 match app0 P sT xT x y with
 | some v=>some (.val v s 2)
 | none =>
 match P.underlying sT,P.underlying xT with
 | some (.slice e),some (.slice _)=>match elemK P e,bytesA P e with
  | some d,some bs=>if sizeA P e = some 1 ∧ bs ≠ 0 ∧ zeroK P e d = true then
   match descA s d x,descA s d y with
   | some (dx,lx),some (dy,ly)=>match Know.app d dx dy,(addX lx ly).rng with
    | some k,some (_,h)=>if h * bs ≤ 2 ^ 40 then match x with
     | .nilSlice=>if ltX (.lit 0) (addX lx ly) = true then some (growS s e (addX lx ly) k d) else none
     | .slice b off _ cap ex _=>if ex then (if ltX (.lit cap) (addX lx ly) = true then some (growS s e (addX lx ly) k d) else none)
      else if off = 0 then tipS s e b (addX lx ly) k d else none
     | .sls b off _ cap ex=>if ex then (if ltX cap (addX lx ly) = true then some (growS s e (addX lx ly) k d) else none)
      else if off.zero then tipS s e b (addX lx ly) k d else none
     | _=>none
     else none
    | _,_=>none
   | _,_=>none
   else none
  | _,_=>none
 | _,_=>none
def copyS (P : Program) (sT : TypeId) (x y : AV) (s : St) : Option ORes:=
 match P.underlying sT,x with
 | some (.slice e),.sls b off len _ _=>match elemK P e,blockAt s b with
  | some d,some A=>match A.tl,descA s d y with
   | some (k,d'),some (dy,_)=>if sizeA P e = some 1 ∧ A.ro = false ∧ d = d' then match Know.cpy d k off len dy with
    | some (n,k')=>match n.rng with
     | some (l,h)=>some (.val (mkA .i64 n l h) { s with heap:=setNth (some { A with tl:=some (k',d),cells:=[] }) s.heap b,lo:=min s.lo b } 2)
     | none=>none
    | none=>none
    else none
   | _,_=>none
  | _,_=>none
 | _,_=>none
def lookO (look : Operand → Option AV) : Option Operand → Option (Option AV)
 | none=>some none
 | some y=>(look y).map some
def evOpS (P : Program) (look : Operand → Option AV) (o : Oper) (s : St) : Option ORes:=
 match o.op with
 | .indexAddr t x i=>idxS P t (look x) (look i) s
 | .load t a=>loadS P t (look a) s
 | .store t a x=>storeS P t (look a) (look x) s
 | .slice t x lo hi none=>sliceS P t (look x) (lookO look lo) (lookO look hi) s
 | .makeSlice t l c=>makeS P t (look l) (look c) s
 | .call c=>match c.callee,c.args.toList,c.argTypes.toList with
  | .builtin .len,[x],[t]=>(look x).bind fun v=>lenS P t v s
  | .builtin .append,[x,y],[t,u]=>(look x).bind fun v=>(look y).bind fun v'=>appS P t u v v' s
  | .builtin .copy,[x,y],[t,_]=>(look x).bind fun v=>(look y).bind fun v'=>copyS P t v v' s
  | _,_,_=>none
 | _=>none
def evOp (P : Program) (ts : List AV) (o : Oper) (s : St) : Option ORes:=
 match evOp0 P ts o s with
 | some r=>some r
 | none=>evOpS P (eval ts) o s
def wantedA (ops : List Oper) (o : Oper) (ts : List AV) : Bool:=
 match o.guard with
 | none=>true
 | some (j,want)=>match (ops[j]?).bind (·.dst) with
  | none=>false
  | some d=>match ts[d]? with
   | some (.bool b)=>b == want
   | _=>false
structure Ev where
 code : Code → List AV → St → Option (AExit × List AV × St)
 call : FuncId → List AV → St → Option (AV × St × Bool)
 round : Nat → List AV → St → Option (Bool × St)
def evOneV (P : Program) (rec : Ev) (o : Oper) (ts : List AV) (s : St) : Option (AV × St):=
 match evOp P ts o s with
 | some (.val v s' _)=>some (v,s')
 | some (.call f args)=>match rec.call f args s with
  | some (v,s',_)=>some (v,s')
  | none=>none
 | some (.round l args)=>match rec.round l args s with
  | some (b,s')=>some (.bool b,s')
  | none=>none
 | none=>none
def evOps (P : Program) (rec : Ev) (ops : List Oper) : List Oper → List AV → St → Option (List AV × St)
 | [],ts,s=>some (ts,s)
 | o :: rest,ts,s =>
  if wantedA ops o ts then
   match evOneV P rec o ts s with
   | some (v,s')=>evOps P rec ops rest (put ts o.dst v) s'
   | none=>none
  else evOps P rec ops rest (put ts o.dst undefA) s
def pureS : Op → Bool
 | .move _ | .assign _ | .pick .. | .binOp .. | .unOp .. | .nilCheck _ | .convert .. | .fieldAddr .. | .indexAddr .. | .field .. | .index .. | .extract .. | .makeFunc .. | .slice .. | .build ..=>true
 | .call c=>match c.callee with
  | .builtin .len=>true
  | _=>false
 | _=>false
def effS : Op → Bool
 | .store .. | .alloc _ | .box .. | .buildSlice .. | .makeSlice ..=>true
 | .call c=>match c.callee with
  | .builtin .append=>true
  | .builtin .copy=>true
  | _=>false
 | _=>false
def alS : Op → Bool
 | .alloc _ | .box .. | .buildSlice .. | .makeSlice ..=>true
 | _=>false
def sinkFrom : List Oper → Nat → Nat → Nat
 | [],_,r=>r
 | o :: l,i,r=>sinkFrom l (i + 1) (if effS o.op && !alS o.op then i else r)
def maskOf (acc : List Nat) (es : List Edge) : Nat:=es.foldl (fun m e=>if Region.binds .any e then m ||| 2 ^ e.on ||| nthD 0 acc e.on else m) 0
def befs : List Oper → List Nat → List Nat
 | [],acc=>acc
 | o :: l,acc=>befs l (acc ++ [maskOf acc o.after.toList])
def dstIn (o : Oper) (l : List Tmp) : Bool:=
 match o.dst with
 | some d=>l.contains d
 | none=>false
def clash (ops : Array Oper) (x y : Oper) : Bool:=dstIn x (y.looksAt ops) || dstIn y (x.looksAt ops) || dstIn x y.dst.toList
def isLoad : Op → Bool
 | .load _ _=>true
 | _=>false
def drawOk (ops : Array Oper) (k : Nat) : Bool:=
 let m:=befs ops.toList []
 let l:=ops.toList.zipIdx
 l.all (fun y=>l.all fun x=>!(decide (x.2 < y.2)) || !clash ops x.1 y.1 || (nthD 0 m y.2).testBit x.2) &&
 l.all (fun x=>x.2 == k || pureS x.1.op || k == ops.size || (nthD 0 m k).testBit x.2 || isLoad x.1.op) && l.all (fun x=>x.1.after.toList.all fun e=>!Region.binds .any e || decide (e.on < x.2))
mutual
def refsLt (n : Nat) : AV → Bool
 | .ptr b _=>Nat.blt b n
 | .slice b _ _ _ _ _=>Nat.blt b n
 | .sls b _ _ _ _=>Nat.blt b n
 | .sptr b _=>Nat.blt b n
 | .fn _ l1 l2=>refsLtL n l1 && refsLtL n l2
 | .iface _ v=>refsLt n v
 | .agg l=>refsLtL n l
 | .tup l=>refsLtL n l
 | _=>true
def refsLtL (n : Nat) : List AV → Bool
 | []=>true
 | v :: l=>refsLt n v && refsLtL n l
end
def holes (m : Nat → Bool) : List Nat → List (Option ABlk) → List (Option ABlk)
 | o :: os,b :: bs=>(if m o then b else none) :: holes m os bs
 | _,_=>[]
def maskSt (m h0 : Nat) (own : List Nat) (s : St) : St:={ s with heap:=s.heap.take h0 ++ holes m.testBit own (s.heap.drop h0),lo:=s.heap.length }
def newOk (n : Nat) : List (Option ABlk) → Bool
 | []=>true
 | none :: l=>newOk n l
 | some A :: l=>refsLtL n A.cells && newOk n l
def stepN (P : Program) (rec : Ev) (o : Oper) (ts : List AV) (s : St) (m h0 : Nat) (own : List Nat) : Option (AV × St × Nat):=
 match evOp P ts o s with
 | some (.val v s' c) =>
  if pureS o.op then (if c = 0 then some (v,s,0) else none) else
  if alS o.op then (if (evOp0 P ts o s).isSome then some (v,s',1) else none) else
  match o.op with
  | .load _ a=>match eval ts a with
   | some (.ptr b _)=>if Nat.blt b h0 || m.testBit (nthD 0 own (b - h0)) then some (v,s,0) else none
   | some (.sptr b _)=>if Nat.blt b h0 || m.testBit (nthD 0 own (b - h0)) then some (v,s,0) else none
   | _=>none
  | _=>none
 | some (.call f args) =>
  if refsLtL s.heap.length args && newOk s.heap.length (holes m.testBit own (s.heap.drop h0)) then
   match rec.call f args (maskSt m h0 own s) with
   | some (v,s1,q)=>if q then some (v,s,0) else
    if Nat.ble s.heap.length s1.lo && (Nat.ble s.heap.length s1.heap.length && (Nat.beq s1.nd s.nd && Nat.beq s1.loops.length s.loops.length)) then
     some (v,{ s with heap:=s.heap ++ s1.heap.drop s.heap.length },s1.heap.length - s.heap.length)
    else none
   | none=>none
  else none
 | _=>none
def blkOf (ts : List AV) (o : Oper) : Option Nat:=
 match o.op with
 | .load _ a | .store _ a _=>match eval ts a with
  | some (.ptr b _)=>some b
  | some (.sptr b _)=>some b
  | _=>none
 | _=>none
def addLate (late : Bool) (ts : List AV) (o : Oper) (lt : List Nat) : List Nat:=
 if late && isLoad o.op then (match blkOf ts o with | some b=>b :: lt | none=>lt) else lt
def lateOk (lt : List Nat) : Option (Option Nat) → Bool
 | none=>true
 | some none=>lt.isEmpty
 | some (some b)=>!lt.contains b
def evDraw (P : Program) (rec : Ev) (ops : List Oper) (k h0 : Nat) (ms : List Nat) : Nat → List Oper → List AV → St → List Nat → List Nat → Option (Option Nat) → Option (List AV × St)
 | _,[],ts,s,_,lt,wr=>if lateOk lt wr then some (ts,s) else none
 | i,o :: rest,ts,s,own,lt,wr =>
  if wantedA ops o ts then
   if i = k then match evOneV P rec o ts s with
    | some (v,s')=>evDraw P rec ops k h0 ms (i + 1) rest (put ts o.dst v) s' own lt (some (blkOf ts o))
    | none=>none
   else match stepN P rec o ts s (nthD 0 ms i) h0 own with
    | some (v,s',n)=>evDraw P rec ops k h0 ms (i + 1) rest (put ts o.dst v) s' (own ++ List.replicate n i) (addLate (!(nthD 0 ms k).testBit i) ts o lt) wr
    | none=>none
  else evDraw P rec ops k h0 ms (i + 1) rest (put ts o.dst undefA) s own lt wr
abbrev Eff:=Option (Option Nat)
def isApp : Op → Option Operand
 | .call c=>match c.callee,c.args.toList with
  | .builtin .append,x :: _=>some x
  | _,_=>none
 | _=>none
def appE (x : Option AV) : Eff:=
 match x with
 | some (.slice b _ _ _ _ _)=>some (some b)
 | some (.sls b _ _ _ _)=>some (some b)
 | some .nilSlice=>none
 | _=>some none
def effOf (ts : List AV) (o : Oper) (quiet : Bool) : Eff:=
 if alS o.op then none else
 match o.op with
 | .store _ a _=>match eval ts a with
  | some (.ptr b _)=>some (some b)
  | some (.sptr b _)=>some (some b)
  | _=>some none
 | .call _=>match isApp o.op with
  | some x=>appE (eval ts x)
  | none=>if quiet then none else some none
 | _=>some none
def effOk (e : Eff) (h b : Nat) : Bool:=Nat.blt b h && (match e with
 | none=>true
 | some none=>false
 | some (some b')=>!Nat.beq b b')
def evOneQ (P : Program) (rec : Ev) (o : Oper) (ts : List AV) (s : St) : Option (AV × St × Bool):=
 match evOp P ts o s with
 | some (.val v s' _)=>some (v,s',false)
 | some (.call f args)=>match rec.call f args s with
  | some (v,s',q)=>some (v,s',q || prefixB s.heap s'.heap)
  | none=>none
 | some (.round l args)=>match rec.round l args s with
  | some (b,s')=>some (.bool b,s',false)
  | none=>none
 | none=>none
def chainOk (ops : Array Oper) : Bool:=
 let m:=befs ops.toList []
 let l:=ops.toList.zipIdx
 l.all (fun y=>l.all fun x=>!(decide (x.2 < y.2)) || ((nthD 0 m y.2).testBit x.2 || (!clash ops x.1 y.1 && (pureS x.1.op || pureS y.1.op || isLoad x.1.op || isLoad y.1.op)))) &&
 l.all (fun x=>x.1.after.toList.all fun e=>!Region.binds .any e || decide (e.on < x.2))
def numEff (l : List Oper) : Nat:=l.foldl (fun n o=>if effS o.op && !alS o.op then n + 1 else n) 0
def useChain (ops : Array Oper) : Bool:=
 chainOk ops && (Nat.ble 2 (numEff ops.toList) ||
  (let m:=befs ops.toList []
   let l:=ops.toList.zipIdx
   l.all (fun y=>l.all fun x=>!(decide (x.2 < y.2)) || ((nthD 0 m y.2).testBit x.2 || (pureS x.1.op || pureS y.1.op || (isLoad x.1.op && isLoad y.1.op) || (isLoad x.1.op && alS y.1.op) || (alS x.1.op && isLoad y.1.op))))))
def evChain (P : Program) (rec : Ev) (ops : List Oper) (ms : List Nat) : Nat → List Oper → List AV → St → List (Nat × Nat) → List (Nat × Eff × Nat) → Option (List AV × St)
 | _,[],ts,s,_,_=>some (ts,s)
 | i, o :: rest,ts,s,lds,mo =>
  if wantedA ops o ts then
   if pureS o.op then match evOp P ts o s with
    | some (.val v _ 0)=>evChain P rec ops ms (i + 1) rest (put ts o.dst v) s lds mo
    | _=>none
   else if isLoad o.op then match evOp P ts o s with
    | some (.val v _ _)=>match blkOf ts o with
     | some b=>if mo.all (fun x=>(nthD 0 ms i).testBit x.1 || effOk x.2.1 x.2.2 b) then evChain P rec ops ms (i + 1) rest (put ts o.dst v) s ((i,b) :: lds) mo else none
     | none=>none
    | _=>none
   else match evOneQ P rec o ts s with
    | some (v,s',q)=>if lds.all (fun x=>(nthD 0 ms i).testBit x.1 || effOk (effOf ts o q) s.heap.length x.2) then
      evChain P rec ops ms (i + 1) rest (put ts o.dst v) s' lds ((i,effOf ts o q,s.heap.length) :: mo) else none
    | none=>none
  else evChain P rec ops ms (i + 1) rest (put ts o.dst undefA) s lds mo
def floatOk (ops : Array Oper) : Bool:=
 let m:=befs ops.toList []
 let l:=ops.toList.zipIdx
 l.all (fun y=>l.all fun x=>!(decide (x.2 < y.2)) || ((nthD 0 m y.2).testBit x.2 || (!clash ops x.1 y.1 && (pureS x.1.op || pureS y.1.op || isLoad x.1.op || isLoad y.1.op || alS y.1.op)))) &&
 l.all (fun x=>x.1.after.toList.all fun e=>!Region.binds .any e || decide (e.on < x.2))
def numAl (l : List Oper) : Nat:=l.foldl (fun n o=>if alS o.op then n + 1 else n) 0
def setBlk (s : St) (i : Nat) (A : ABlk) : St:={ s with heap:=setNth (some A) s.heap i }
def cutSt (s : St) (n : Nat) : St:={ s with heap:=s.heap.take n }
def room (s : St) (n : Nat) : St:={ s with heap:=s.heap ++ List.replicate n none }
def madeAt (r : Option ORes) (i : Nat) : Option (AV × ABlk):=
 match r with
 | some (.val v s1 _)=>match nthD none s1.heap i with
  | some A=>if A.cells.all AV.lone then some (v,A) else none
  | none=>none
 | _=>none
def evFloat (P : Program) (rec : Ev) (ops : List Oper) (ms : List Nat) (h0 h1 : Nat) : Nat → Nat → List Oper → List AV → St → List (Nat × Nat) → List (Nat × Eff × Nat) → Option (List AV × St)
 | _,_,[],ts,s,_,_=>some (ts,s)
 | i, c,o :: rest,ts,s,lds,mo =>
  if wantedA ops o ts then
   if pureS o.op then match evOp P ts o s with
    | some (.val v _ 0)=>evFloat P rec ops ms h0 h1 (i + 1) c rest (put ts o.dst v) s lds mo
    | _=>none
   else if isLoad o.op then match evOp P ts o s with
    | some (.val v _ _)=>match blkOf ts o with
     | some b=>if (Nat.blt b h0 || Nat.ble h1 b) && mo.all (fun x=>(nthD 0 ms i).testBit x.1 || effOk x.2.1 x.2.2 b) then evFloat P rec ops ms h0 h1 (i + 1) c rest (put ts o.dst v) s ((i,b) :: lds) mo else none
     | none=>none
    | _=>none
   else if alS o.op then match madeAt (evOp0 P ts o (cutSt s c)) c with
    | some (v,A)=>if Nat.blt c h1 then evFloat P rec ops ms h0 h1 (i + 1) (c + 1) rest (put ts o.dst v) (setBlk s c A) lds mo else none
    | none=>none
   else match evOneQ P rec o ts s with
    | some (v,s',q)=>if lds.all (fun x=>(nthD 0 ms i).testBit x.1 || effOk (effOf ts o q) s.heap.length x.2) then
      evFloat P rec ops ms h0 h1 (i + 1) c rest (put ts o.dst v) s' lds ((i,effOf ts o q,s.heap.length) :: mo) else none
    | none=>none
  else if alS o.op then (if Nat.blt c h1 then evFloat P rec ops ms h0 h1 (i + 1) (c + 1) rest (put ts o.dst undefA) s lds mo else none)
  else evFloat P rec ops ms h0 h1 (i + 1) c rest (put ts o.dst undefA) s lds mo
def setStat (s : St) (l : Nat) (x : LStat) : St:=
 match s.loops[l]? with
 | some r=>{ s with loops:=setNth { r with stat:=x } s.loops l }
 | none=>s
def statAt (s : St) (l : Nat) : Option LStat:=(s.loops[l]?).map (·.stat)
def putParams (ts : List AV) : List Tmp → List AV → List AV
 | p :: ps,a :: r=>putParams (setNth a ts p) ps r
 | _,_=>ts
def evCode (P : Program) (rec : Ev) (c : Code) (ts : List AV) (s : St) : Option (AExit × List AV × St):=
 match c with
 | .skip=>some (.normal,ts,s)
 | .label _=>some (.normal,ts,s)
 | .region _ ops false=>match evOps P rec ops.toList ops.toList ts s with
  | some (ts',s')=>some (.normal,ts',s')
  | none=>none
 | .region _ ops true=>if useChain ops then match evChain P rec ops.toList (befs ops.toList []) 0 ops.toList ts s [] [] with
   | some (ts',s')=>some (.normal,ts',s')
   | none=>none
  else if drawOk ops (sinkFrom ops.toList 0 ops.size) then
   match evDraw P rec ops.toList (sinkFrom ops.toList 0 ops.size) s.heap.length (befs ops.toList []) 0 ops.toList ts s [] [] none with
   | some (ts',s')=>some (.normal,ts',s')
   | none=>none
  else if floatOk ops then
   match evFloat P rec ops.toList (befs ops.toList []) s.heap.length (s.heap.length + numAl ops.toList) 0 s.heap.length ops.toList ts (room s (numAl ops.toList)) [] [] with
   | some (ts',s')=>some (.normal,ts',s')
   | none=>none
  else none
 | .seq a b=>match rec.code a ts s with
  | some (.normal,ts',s')=>rec.code b ts' s'
  | r=>r
 | .cond c x y=>match eval ts c with
  | some (.bool b)=>rec.code (if b then x else y) ts s
  | _=>none
 | .block id body=>match rec.code body ts s with
  | some (.exit id',ts',s')=>if id' = id then some (.normal,ts',s') else some (.exit id',ts',s')
  | r=>r
 | .loop body=>match rec.code body ts s with
  | some (.normal,ts',s')=>rec.code (.loop body) ts' s'
  | r=>r
 | .exit id=>some (.exit id,ts,s)
 | .ret=>some (.ret,ts,s)
 | .rangeFunc f ps assign body=>match eval ts f with
  | some (.fn g l1 l2) =>
   match rec.call g (l1 ++ (.yield s.loops.length :: l2)) { s with loops:=s.loops ++ [{ tmps:=ts,params:=ps.toList,assign,body,stat:=.ready }] } with
   | some (_,s',_)=>match statAt s' s.loops.length with
    | some .ready=>some (.normal,ts,setStat s' s.loops.length .over)
    | some (.done .ret)=>some (.ret,ts,setStat s' s.loops.length .over)
    | some (.done (.exit id))=>some (.exit id,ts,setStat s' s.loops.length .over)
    | _=>none
   | none=>none
  | _=>none
 | _=>none
def AV.flat1 : AV → Bool
 | .agg l=>l.all AV.lone
 | v=>v.lone
def AV.flat : AV → Bool
 | .tup l=>l.all AV.flat1
 | v=>v.flat1
def resultA (P : Program) (ts : List AV) (s : St) : ResultVar → Option AV
 | .tmp t=>some (nthD undefA ts t)
 | .cell a t=>match nthD undefA ts a with
  | .ptr b off=>loadA P s t b off
  | _=>none
def resultsA (P : Program) (fn : Func) (ts : List AV) (s : St) : Option AV:=
 match optMap (resultA P ts s) fn.results.toList with
 | some [v]=>some v
 | some vs=>some (.tup vs)
 | none=>none
def evCall (P : Program) (rec : Ev) (f : FuncId) (args : List AV) (s : St) : Option (AV × St × Bool):=
 match P.funcs[f]? with
 | none=>none
 | some fn=>match fn.body with
  | none=>none
  | some c=>match rec.code c (args ++ List.replicate (fn.ntmps - args.length) undefA) { s with lo:=s.heap.length } with
   | some (.normal,ts,s1) | some (.ret,ts,s1)=>match resultsA P fn ts s1 with
    | some v =>
     if s.heap.length ≤ s1.lo && s1.nd == s.nd && v.flat then some (v,s,true)
     else some (v,{ s1 with lo:=min s.lo s1.lo },false)
    | none=>none
   | _=>none
def evRound (rec : Ev) (l : Nat) (args : List AV) (s : St) : Option (Bool × St):=
 match s.loops[l]? with
 | some { tmps,params,assign,body,stat:=.ready } =>
  if args.length = params.length then
   match rec.code assign (putParams tmps params args) s with
   | some (.normal,ts1,s1)=>match statAt s1 l with
    | some .ready=>match rec.code body ts1 (setStat s1 l .busy) with
     | some (e,_,s2)=>match statAt s2 l with
      | some .busy=>match e with
       | .normal=>some (true,setStat s2 l .ready)
       | .ret=>some (false,{ setStat s2 l (.done .ret) with nd:=s2.nd + 1 })
       | .exit id=>some (false,{ setStat s2 l (.done (.exit id)) with nd:=s2.nd + 1 })
       | .goto _=>none
      | _=>none
     | none=>none
    | _=>none
   | _=>none
  else none
 | _=>none
abbrev Orc:=FuncId → List AV → St → Option (AV × St × Bool)
def evCallO (P : Program) (orc : Orc) (rec : Ev) (f : FuncId) (args : List AV) (s : St) : Option (AV × St × Bool):=
 match orc f args s with
 | some r=>some r
 | none=>evCall P rec f args s
def Ev.bot : Ev:={ code:=fun _ _ _=>none,call:=fun _ _ _=>none,round:=fun _ _ _=>none }
def Ev.step (P : Program) (orc : Orc) (rec : Ev) : Ev:={ code:=evCode P rec,call:=evCallO P orc rec,round:=evRound rec }
def ev (P : Program) (orc : Orc) : Nat → Ev
 | 0=>.bot
 | n + 1=>.step P orc (ev P orc n)
def noOrc : Orc:=fun _ _ _=>none
end
end Go.Ev
/- Worlds: rows of cells, loads, stores; the relation of a state and a world; a step's frame. -/
namespace Go.Ev
open Go.RowKit (Below)
set_option linter.unusedSectionVars false
variable [Rho]
def upd (w : World) (b : Nat) (o : Obj) : World:={ w with heap:=w.heap.setIfInBounds b o }
theorem upd_heap (w : World) (b : Nat) (o : Obj) (r : Nat) : (upd w b o).heap[r]? = if b = r ∧ b < w.heap.size then some o else w.heap[r]?:=by
 simp only [upd,Array.getElem?_setIfInBounds]
 by_cases h : b = r
 ·subst h
  by_cases h2 : b < w.heap.size
  ·simp [h2]
  ·simp [h2]
 ·simp [h]
theorem upd_size (w : World) (b : Nat) (o : Obj) : (upd w b o).heap.size = w.heap.size:=by simp [upd]
theorem lt_of_some {w : World} {b : Nat} {o : Obj} (h : w.heap[b]? = some o) : b < w.heap.size:=(Array.getElem?_eq_some_iff.1 h).1
theorem cell_of {w : World} {b off : Nat} {c : Array Value} {e : TypeId} {fz : Nat × Nat} (h : w.heap[b]? = some (.cells c e fz)) : w.cell? ⟨b,off,none⟩ = c[off]?:=by
 simp [World.cell?,h]
theorem frozen_of {w : World} {b off : Nat} {c : Array Value} {e : TypeId} (h : w.heap[b]? = some (.cells c e (0,0))) : w.frozen? ⟨b,off,none⟩ = false:=by
 simp [World.frozen?,h]
theorem setCell_of {w : World} {b off : Nat} {c : Array Value} {e : TypeId} {fz : Nat × Nat} (h : w.heap[b]? = some (.cells c e fz)) (v : Value) :
  w.setCell ⟨b,off,none⟩ v = upd w b (.cells (c.setIfInBounds off v) e fz):=by
 have hb:=lt_of_some h
 have hh : w.heap[b] = .cells c e fz:=by
  have:=Array.getElem?_eq_getElem hb; rw [h] at this; exact (Option.some.inj this).symm
 simp only [World.setCell,upd]
 congr 1
 apply Array.ext
 ·simp
 ·intro i h1 h2
  simp only [Array.getElem_modify]
  by_cases hi : b = i
  ·subst hi; simp [hh]
  ·rw [Array.getElem_setIfInBounds_ne (by simpa using h1) hi]; simp [hi]
theorem upd_upd (w : World) (b : Nat) (o p : Obj) : upd (upd w b o) b p = upd w b p:=by
 simp [upd,Array.setIfInBounds_setIfInBounds]
theorem run_typeInfo' {P : Program} {t : TypeId} {i : TypeInfo} (h : P.info? t = some i) (w : World) : (typeInfo t).run P w = .ok i w:=by
 simp [typeInfo,h]
theorem run_sizeOf' {P : Program} {t : TypeId} {n : Nat} (h : sizeA P t = some n) (w : World) : (sizeOf t).run P w = .ok n w:=by
 simp only [sizeA,Option.map_eq_some_iff] at h
 obtain ⟨i,hi,rfl⟩:=h
 simp [sizeOf,run_typeInfo' hi]
theorem run_isAgg' {P : Program} {t : TypeId} {b : Bool} (h : isAggA P t = some b) (w : World) : (isAgg t).run P w = .ok b w:=by
 simp only [isAggA] at h
 split at h <;> simp at h <;> subst h <;> rename_i hu
 ·simp [isAgg,run_underlying hu]
 ·simp [isAgg,run_underlying hu]
 ·rename_i d h1 h2
  simp only [isAgg,Sem.run_bind,run_underlying hu,Result.andThen_ok]
  rfl
theorem addr_add (b off n : Nat) : (⟨b,off,none⟩ : Addr).add n = ⟨b,off + n,none⟩:=by
 unfold Addr.add; split
 ·rename_i h; subst h; rfl
 ·rfl
theorem run_loadCellsFrom {P : Program} {w : World} {b off : Nat} {c : Array Value} {e : TypeId} {fz : Nat × Nat} (h : w.heap[b]? = some (.cells c e fz)) :
  ∀ (n i : Nat) (acc : Array Value),off + i + n ≤ c.size → (loadCellsFrom ⟨b,off,none⟩ i n acc).run P w = .ok (acc ++ ((c.toList.drop (off + i)).take n).toArray) w:=by
 intro n
 induction n with
 | zero=>intro i acc _; simp [loadCellsFrom]
 | succ n ih =>
  intro i acc hle
  have hlt : off + i < c.size:=by omega
  simp only [loadCellsFrom,Sem.run_bind,run_load,addr_add,cell_of h,Array.getElem?_eq_getElem hlt,Result.andThen_ok]
  rw [ih (i + 1) _ (by omega)]
  congr 1
  have hd : c.toList.drop (off + i) = c[off + i] :: c.toList.drop (off + (i + 1)):=by
   rw [List.drop_eq_getElem_cons (by simpa using hlt)]
   rfl
  rw [hd,List.take_succ_cons,Array.push_eq_append,Array.append_assoc]
  congr 1
  simp
theorem run_loadCells {P : Program} {w : World} {b off n : Nat} {c : Array Value} {e : TypeId} {fz : Nat × Nat} (h : w.heap[b]? = some (.cells c e fz)) (hle : off + n ≤ c.size) :
  (loadCells ⟨b,off,none⟩ n).run P w = .ok ((c.toList.drop off).take n).toArray w:=by
 have:=run_loadCellsFrom (P:=P) h (off:=off) n 0 #[] (by omega)
 simpa [loadCells] using this
def pasteV (c : Array Value) (off : Nat) (vs : List Value) : Array Value:=(c.toList.take off ++ (vs ++ c.toList.drop (off + vs.length))).toArray
theorem list_paste_step {α : Type} {l : List α} {k : Nat} (h : k < l.length) (v : α) (vs : List α) :
  (l.set k v).take (k + 1) ++ (vs ++ (l.set k v).drop (k + 1 + vs.length)) = l.take k ++ ((v :: vs) ++ l.drop (k + (v :: vs).length)):=by
 have e1 : (l.set k v).take (k + 1) = l.take k ++ [v]:=by
  rw [List.take_succ_eq_append_getElem (by simpa using h),List.getElem_set_self]
  congr 1
  rw [List.take_set_of_le (Nat.le_refl _)]
 have e2 : (l.set k v).drop (k + 1 + vs.length) = l.drop (k + (v :: vs).length):=by
  rw [List.drop_set_of_lt (by omega)]
  rw [List.length_cons]; congr 1; omega
 rw [e1,e2]; simp
theorem pasteV_step {c : Array Value} {k : Nat} (h : k < c.size) (v : Value) (vs : List Value) : pasteV (c.setIfInBounds k v) (k + 1) vs = pasteV c k (v :: vs):=by
 simp only [pasteV,Array.toList_setIfInBounds]
 rw [list_paste_step (by simpa using h)]
theorem run_storeCells {P : Program} {e : TypeId} {b off : Nat} : ∀ (vs : List Value) (i : Nat) (w : World) (c : Array Value),(∀ v ∈ vs,v.oneCell' = true) →
  w.heap[b]? = some (.cells c e (0,0)) → off + i + vs.length ≤ c.size → (storeCells ⟨b,off,none⟩ vs i).run P w = .ok () (upd w b (.cells (pasteV c (off + i) vs) e (0,0))):=by
 intro vs
 induction vs with
 | nil =>
  intro i w c _ h _
  have hu : upd w b (.cells (pasteV c (off + i) []) e (0,0)) = w:=by
   have hb:=lt_of_some h
   have hp : pasteV c (off + i) [] = c:=by simp [pasteV]
   rw [hp]
   have : w.heap.setIfInBounds b (.cells c e (0,0)) = w.heap:=by
    apply Array.ext
    ·simp
    ·intro j h1 h2
     by_cases hj : b = j
     ·subst hj
      rw [Array.getElem_setIfInBounds_self]
      have:=Array.getElem?_eq_getElem hb; rw [h] at this; exact Option.some.inj this
     ·rw [Array.getElem_setIfInBounds_ne (by simpa using h1) hj]
   simp only [upd,this]
  rw [hu]; rfl
 | cons v vs ih =>
  intro i w c hv h hle
  simp only [List.length_cons] at hle
  have hlt : off + i < c.size:=by omega
  have hs : (store ((⟨b,off,none⟩ : Addr).add i) v).run P w = .ok () (upd w b (.cells (c.setIfInBounds (off + i) v) e (0,0))):=by
   rw [addr_add,run_store P w _ v .plain (hv v (by simp)),cell_of h,Array.getElem?_eq_getElem hlt]
   simp only [frozen_of h,setCell_of h]
   rfl
  have h2 : (upd w b (.cells (c.setIfInBounds (off + i) v) e (0,0))).heap[b]? = some (.cells (c.setIfInBounds (off + i) v) e (0,0)):=by
   rw [upd_heap]; simp [lt_of_some h]
  simp only [storeCells,Sem.run_bind,hs,Result.andThen_ok]
  rw [ih (i + 1) _ _ (fun x hx=>hv x (by simp [hx])) h2 (by simp; omega),upd_upd]
  rw [show off + (i + 1) = off + i + 1 from by omega,pasteV_step hlt]
end Go.Ev
/- The relation of a state and a world; transitions. -/
namespace Go.Ev
open Go.RowKit (Below)
set_option linter.unusedSectionVars false
variable [Rho]
theorem nthD_eq {α : Type} (d : α) : ∀ (l : List α) (n : Nat),nthD d l n = (l[n]?).getD d
 | [],n=>by simp [nthD]
 | a :: l,0=>by simp [nthD]
 | a :: l,n + 1=>by simp [nthD,nthD_eq d l n]
theorem setNth_eq {α : Type} (v : α) : ∀ (l : List α) (n : Nat),setNth v l n = l.set n v
 | [],n=>by simp [setNth]
 | a :: l,0=>by simp [setNth]
 | a :: l,n + 1=>by simp [setNth,setNth_eq v l n]
theorem blockAt_some {s : St} {b : Nat} {A : ABlk} : blockAt s b = some A ↔ s.heap[b]? = some (some A):=by
 simp only [blockAt,nthD_eq]
 cases s.heap[b]? with
 | none=>simp
 | some o=>simp
def LStat.rel : LStat → LoopState → Option Code → Prop
 | .ready,.ready,none=>True
 | .busy,.busy,none=>True
 | .done c,.done,some c'=>c = c'
 | .over,_,_=>True
 | _,_,_=>False
def AV.vl0 : AV → Value
 | .bool b=>.bool b
 | .int k n=>.int k n
 | .sym k e _ _=>.int k e.eval
 | .str s=>.string s
 | .nilPtr=>.pointer none
 | .nilSlice=>.slice none 0 0
 | .nilFn=>.nilFunc
 | .nilIface=>.nilIface
 | _=>undef
def AV.fine0 : AV → Prop
 | .sym _ e lo hi=>e.ok ∧ lo ≤ e.eval ∧ e.eval ≤ hi
 | _=>True
theorem vl0_eq {π : Inj} {lm : List Nat} {v : AV} {c : Value} (h : v.lone = true) (r : VR π lm v c) : c = v.vl0:=by
 cases r <;> first | rfl | simp [AV.lone,AV.sc] at h
theorem vl0_rel {π : Inj} {lm : List Nat} {v : AV} (h : v.lone = true) (hf : v.fine0) : VR π lm v v.vl0:=by
 cases v with
 | sym k e lo hi=>exact .sym hf.1 hf.2.1 hf.2.2
 | _=>first | (simp [AV.lone,AV.sc] at h; done) | constructor
theorem fine0_of {π : Inj} {lm : List Nat} {v : AV} {c : Value} (r : VR π lm v c) : v.fine0:=by
 cases r <;> first | trivial | exact ⟨by assumption,by assumption,by assumption⟩
def lvals (k : Nat) (d : EK) : List Value:=(List.range (llen k)).map (lval k d)
def descV (d : EK) : Desc → List Value
 | .cells l=>l.map AV.vl0
 | .lst k off len=>(List.range len.eval.toNat).map fun i=>lval k d (off.eval.toNat - lskip k + i)
def descIn : Desc → Prop
 | .cells _=>True
 | .lst k off len=>lskip k ≤ off.eval.toNat ∧ off.eval.toNat + len.eval.toNat ≤ lskip k + llen k
def descFine : Desc → Prop
 | .cells l=>∀ v ∈ l,v.fine0
 | .lst _ off len=>off.ok ∧ len.ok ∧ 0 ≤ off.eval ∧ 0 ≤ len.eval
def descLen : Desc → Int
 | .cells l=>l.length
 | .lst _ _ len=>len.eval
class KnowOk [Know] : Prop where
 cmp : ∀ {op : BinOp} {a b : SX} {r : Bool},Know.cmp op a b = some r → a.ok → b.ok → cmpI op a.eval b.eval = some r
 cell : ∀ {k : Nat} {d : EK} {e : SX} {v : AV},Know.cell k d e = some v → e.ok → ∃ i : Nat,e.eval = ((lskip k + i : Nat) : Int) ∧ i < llen k ∧ ∀ π lm,VR π lm v (lval k d i)
 put : ∀ {k k' : Nat} {d : EK} {e : SX} {v : AV},Know.put k d e v = some k' → e.ok → v.fine0 → lskip k' = lskip k ∧ llen k' = llen k ∧
  ∃ i : Nat,e.eval = ((lskip k + i : Nat) : Int) ∧ i < llen k ∧ v.vl0 = lval k' d i ∧ ∀ j,j ≠ i → j < llen k → lval k' d j = lval k d j
 app : ∀ {d : EK} {dx dy : Desc} {k : Nat},Know.app d dx dy = some k → descFine dx → descFine dy → lskip k = 0 ∧ lvals k d = descV d dx ++ descV d dy ∧ descIn dx ∧ descIn dy
 rep : ∀ {d : EK} {n : SX} {k : Nat},Know.rep d n = some k → n.ok → 0 ≤ n.eval → lskip k = 0 ∧ lvals k d = List.replicate n.eval.toNat (d.val 0)
 cpy : ∀ {d : EK} {k k' : Nat} {off len n : SX} {dy : Desc},Know.cpy d k off len dy = some (n,k') → off.ok → len.ok → 0 ≤ off.eval → 0 ≤ len.eval → descFine dy →
  n.ok ∧ n.eval = min (descLen dy) len.eval ∧ descIn dy ∧ descIn (.lst k off len) ∧ lskip k' = lskip k ∧ llen k' = llen k ∧
  ∀ i,i < llen k → some (lval k' d i) = if off.eval.toNat - lskip k ≤ i ∧ i < off.eval.toNat - lskip k + n.eval.toNat then (descV d dy)[i - (off.eval.toNat - lskip k)]? else some (lval k d i)
def TailOk (A : ABlk) (c : Array Value) : Prop:=∀ (k : Nat) (d : EK),A.tl = some (k,d) → ∀ i,i < llen k → c[lskip k + i]? = some (lval k d i)
theorem TailOk.none {A : ABlk} {c : Array Value} (h : A.tl = .none) : TailOk A c:=fun k d e=>by rw [h] at e; cases e
structure WR (B : Nat) (π : Inj) (lm : List Nat) (s : St) (w : World) : Prop where
 dom : ∀ i x,π i = some x → i < s.heap.length
 blk : ∀ i A,s.heap[i]? = some (some A) → ∃ b n c,∃ fz : TypeId × Nat × Nat,π i = some (b,n) ∧ w.heap[b]? = some (.cells c fz.1 fz.2) ∧ c.size = n ∧
  (A.ro = false → fz = (A.elem,0,0) ∧ B ≤ b) ∧ LR π lm A.cells (c.toList.take A.cells.length) ∧ TailOk A c
 inj : ∀ i j A A' b n m,s.heap[i]? = some (some A) → s.heap[j]? = some (some A') → A.ro = false → π i = some (b,n) → π j = some (b,m) → i = j
 lsz : lm.length = s.loops.length
 linj : ∀ (l l' L : Nat),lm[l]? = some L → lm[l']? = some L → l = l'
 loop : ∀ (l : Nat) (r : ALoop),s.loops[l]? = some r → ∃ (L : Nat) (fn : FuncId) (D : Nat) (ts : Array Value) (st : LoopState) (pd : Option Code),lm[l]? = some L ∧
  w.heap[L]? = some (.loop { state:=st,pending:=pd,fn,tmps:=ts,params:=r.params.toArray,assign:=r.assign,body:=r.body,defers:=D }) ∧
  r.stat.rel st pd ∧ LR π lm r.tmps ts.toList
structure Tr (π π' : Inj) (lm lm' : List Nat) (s s' : St) (w w' : World) : Prop where
 os : w'.os = w.os
 tape : w'.tape = w.tape
 output : w'.output = w.output
 size : w.heap.size ≤ w'.heap.size
 keep : ∀ (r : Nat),r < w.heap.size → (∀ i A n,s.heap[i]? = some (some A) → A.ro = false → π i ≠ some (r,n)) → r ∉ lm → w'.heap[r]? = w.heap[r]?
 low : ∀ i A b n,s.heap[i]? = some (some A) → i < s'.lo → π i = some (b,n) → w'.heap[b]? = w.heap[b]?
 same : ∀ i,i < s.heap.length → i < s'.lo → s'.heap[i]? = s.heap[i]?
 lkeep : s'.nd = s.nd → ∀ (L : Nat),L ∈ lm → w'.heap[L]? = w.heap[L]?
 lo_le : s'.lo ≤ s.lo
 nd_le : s.nd ≤ s'.nd
 le : π.le π'
 old : ∀ i,i < s.heap.length → π' i = π i
 len : s.heap.length ≤ s'.heap.length
 liv : ∀ i A',i < s.heap.length → s'.heap[i]? = some (some A') → ∃ A,s.heap[i]? = some (some A) ∧ A.ro = A'.ro
 new : ∀ i b n,s.heap.length ≤ i → π' i = some (b,n) → w.heap.size ≤ b ∨ ∃ j A m,s.heap[j]? = some (some A) ∧ A.ro = false ∧ π j = some (b,m)
 lmx : ∃ t,lm' = lm ++ t ∧ ∀ (L : Nat),L ∈ t → w.heap.size ≤ L
theorem Tr.refl (π : Inj) (lm : List Nat) {s : St} (w : World) (hd : ∀ i x,π i = some x → i < s.heap.length) : Tr π π lm lm s s w w where
 os:=rfl
 tape:=rfl
 output:=rfl
 size:=Nat.le_refl _
 keep:=fun _ _ _ _=>rfl
 low:=fun _ _ _ _ _ _ _=>rfl
 same:=fun _ _ _=>rfl
 lkeep:=fun _ _ _=>rfl
 lo_le:=Nat.le_refl _
 nd_le:=Nat.le_refl _
 le:=Inj.le_refl _
 old:=fun _ _=>rfl
 len:=Nat.le_refl _
 liv:=fun i A' _ h=>⟨A',h,rfl⟩
 new:=fun i b n hi h=>absurd (hd _ _ h) (by omega)
 lmx:=⟨[],by simp,by simp⟩
theorem Tr.lmono {π π' : Inj} {lm lm' : List Nat} {s s' : St} {w w' : World} (h : Tr π π' lm lm' s s' w w') (i x : Nat) (hi : lm[i]? = some x) : lm'[i]? = some x:=by
 obtain ⟨t,rfl,_⟩:=h.lmx
 rw [List.getElem?_append_left (List.getElem?_eq_some_iff.1 hi).1]; exact hi
theorem Tr.lr {π π' : Inj} {lm lm' : List Nat} {s s' : St} {w w' : World} (h : Tr π π' lm lm' s s' w w') {l : List AV} {vs : List Value} (hv : LR π lm l vs) : LR π' lm' l vs:=
 hv.mono h.le h.lmono
theorem Tr.trans {π π' π'' : Inj} {lm lm' lm'' : List Nat} {s s' s'' : St} {w w' w'' : World}
  (h : Tr π π' lm lm' s s' w w') (k : Tr π' π'' lm' lm'' s' s'' w' w'') : Tr π π'' lm lm'' s s'' w w'':=by
 obtain ⟨t1,e1,g1⟩:=h.lmx
 obtain ⟨t2,e2,g2⟩:=k.lmx
 have hlen:=h.len
 have hsz:=h.size
 refine ⟨k.os.trans h.os,k.tape.trans h.tape,k.output.trans h.output,Nat.le_trans h.size k.size,?_,?_,?_,?_,Nat.le_trans k.lo_le h.lo_le,Nat.le_trans h.nd_le k.nd_le,
  h.le.trans k.le,?_,Nat.le_trans h.len k.len,?_,?_,?_⟩
 ·intro r hr hi hl
  rw [← h.keep r hr hi hl]
  refine k.keep r (by omega) ?_ ?_
  ·intro i A n hA hro hp
   by_cases hlt : i < s.heap.length
   ·obtain ⟨A0,hA0,hr0⟩:=h.liv i A hlt hA
    rw [h.old i hlt] at hp
    exact hi i A0 n hA0 (hr0.trans hro) hp
   ·rcases h.new i r n (by omega) hp with h1 | ⟨j,A0,m,h1,h2,h3⟩
    ·omega
    ·exact hi j A0 m h1 h2 h3
  ·rw [e1]; intro hm
   rcases List.mem_append.1 hm with h1 | h1
   ·exact hl h1
   ·have:=g1 r h1; omega
 ·intro i A b n hA hlo hp
  have hlt : i < s.heap.length:=(List.getElem?_eq_some_iff.1 hA).1
  have hl1 : i < s'.lo:=Nat.lt_of_lt_of_le hlo k.lo_le
  rw [← h.low i A b n hA hl1 hp]
  exact k.low i A b n (by rw [h.same i hlt hl1]; exact hA) hlo (h.le _ _ hp)
 ·intro i hlt hlo
  have hl1 : i < s'.lo:=Nat.lt_of_lt_of_le hlo k.lo_le
  rw [← h.same i hlt hl1]
  exact k.same i (by omega) hlo
 ·intro hnd L hL
  have a:=h.nd_le
  have b:=k.nd_le
  have hL' : L ∈ lm':=by rw [e1]; exact List.mem_append_left _ hL
  rw [k.lkeep (by omega) L hL',h.lkeep (by omega) L hL]
 ·intro i hi
  rw [k.old i (by omega),h.old i hi]
 ·intro i A' hi hA'
  obtain ⟨A1,h1,r1⟩:=k.liv i A' (by omega) hA'
  obtain ⟨A0,h0,r0⟩:=h.liv i A1 hi h1
  exact ⟨A0,h0,r0.trans r1⟩
 ·intro i b n hi hp
  by_cases hlt : i < s'.heap.length
  ·rw [k.old i hlt] at hp
   exact h.new i b n hi hp
  ·rcases k.new i b n (by omega) hp with h1 | ⟨j,A,m,h1,h2,h3⟩
   ·exact .inl (by omega)
   ·by_cases hj : j < s.heap.length
    ·obtain ⟨A0,hA0,hr0⟩:=h.liv j A hj h1
     rw [h.old j hj] at h3
     exact .inr ⟨j,A0,m,hA0,hr0.trans h2,h3⟩
    ·exact h.new j b m (by omega) h3
 ·exact ⟨t1 ++ t2,by rw [e2,e1,List.append_assoc],fun L hL=>by
   rcases List.mem_append.1 hL with h1 | h1
   ·exact g1 L h1
   ·have:=g2 L h1; omega⟩
end Go.Ev
/- Stores and new rows; operations that do nothing with memory, or read it. -/
namespace Go.Ev
open Go.RowKit (Below)
set_option linter.unusedSectionVars false
variable [Rho]
variable {P : Program} {B : Nat} {π : Inj} {lm : List Nat} {s : St} {w : World}
theorem AV.one_rel {v : AV} {c : Value} (h : v.one = true) (r : VR π lm v c) : c.oneCell' = true:=by
 cases r <;> simp [AV.one] at h <;> rfl
theorem all_one {l : List AV} {vs : List Value} (h : l.all AV.one = true) (r : LR π lm l vs) : ∀ v ∈ vs,v.oneCell' = true:=by
 intro v hv
 obtain ⟨i,hi,rfl⟩:=List.getElem_of_mem hv
 have hi' : i < l.length:=r.1 ▸ hi
 exact AV.one_rel (List.all_eq_true.1 h _ (List.getElem_mem hi')) (r.2 i hi' hi)
theorem paste_some {l : List AV} {off : Nat} {vs cs : List AV} (h : paste l off vs = some cs) :
  off + vs.length ≤ l.length ∧ cs = l.take off ++ (vs ++ l.drop (off + vs.length)) ∧ cs.length = l.length:=by
 unfold paste at h
 split at h
 ·rename_i hle
  have:=Option.some.inj h
  subst this
  exact ⟨hle,rfl,by simp; omega⟩
 ·cases h
theorem take_paste {α : Type} {l vs : List α} {off m : Nat} (h1 : off + vs.length ≤ m) :
  (l.take off ++ (vs ++ l.drop (off + vs.length))).take m = (l.take m).take off ++ (vs ++ (l.take m).drop (off + vs.length)) ∨ l.length < m:=by
 by_cases hl : l.length < m
 ·exact .inr hl
 ·left
  apply List.ext_getElem?
  intro j
  rw [List.getElem?_take]
  have lt1 : (l.take off).length = off:=by simp; omega
  have lt2 : ((l.take m).take off).length = off:=by simp; omega
  by_cases hj : j < off
  ·rw [if_pos (by omega),List.getElem?_append_left (by omega),List.getElem?_append_left (by omega),List.getElem?_take_of_lt hj,List.getElem?_take_of_lt hj,List.getElem?_take_of_lt (by omega)]
  ·rw [List.getElem?_append_right (l₁:=(l.take m).take off) (by omega),lt2,List.getElem?_append_right (by omega),lt1]
   by_cases hv : j - off < vs.length
   ·rw [if_pos (by omega),List.getElem?_append_left hv,List.getElem?_append_left hv]
   ·rw [List.getElem?_append_right (by omega),List.getElem?_append_right (by omega),List.getElem?_drop,List.getElem?_drop]
    have e : off + vs.length + (j - off - vs.length) = j:=by omega
    rw [e,List.getElem?_take]
theorem WR.at (h : WR B π lm s w) {i : Nat} {A : ABlk} (hA : s.heap[i]? = some (some A)) {b n : Nat} (hp : π i = some (b,n)) :
  ∃ c,∃ fz : TypeId × Nat × Nat,w.heap[b]? = some (.cells c fz.1 fz.2) ∧ c.size = n ∧ (A.ro = false → fz = (A.elem,0,0) ∧ B ≤ b) ∧ LR π lm A.cells (c.toList.take A.cells.length) ∧ TailOk A c:=by
 obtain ⟨b',n',c,fz,h1,h2⟩:=h.blk i A hA
 rw [hp] at h1
 obtain ⟨rfl,rfl⟩:=Prod.mk.inj (Option.some.inj h1)
 exact ⟨c,fz,h2⟩
theorem WR.write (h : WR B π lm s w) {b b' n : Nat} {A A' : ABlk} (hA : s.heap[b]? = some (some A)) (hro : A.ro = false) (hp : π b = some (b',n)) {c d : Array Value}
  (hc : w.heap[b']? = some (.cells c A.elem (0,0))) (he : A'.elem = A.elem) (hr' : A'.ro = false) (hd : d.size = c.size) (hl : LR π lm A'.cells (d.toList.take A'.cells.length)) (ht : TailOk A' d) :
  WR B π lm { s with heap:=setNth (some A') s.heap b,lo:=min s.lo b } (upd w b' (.cells d A.elem (0,0))) ∧
  Tr π π lm lm s { s with heap:=setNth (some A') s.heap b,lo:=min s.lo b } w (upd w b' (.cells d A.elem (0,0))):=by
 obtain ⟨c0,fz0,hc0,hsz,hrw,_⟩:=h.at hA hp
 rw [hc] at hc0
 obtain ⟨rfl,-,-⟩:=Obj.cells.inj (Option.some.inj hc0)
 have hb' : b' < w.heap.size:=lt_of_some hc
 have hb : b < s.heap.length:=(List.getElem?_eq_some_iff.1 hA).1
 have hheap : ∀ i,(setNth (some A') s.heap b)[i]? = if b = i then some (some A') else s.heap[i]?:=by
  intro i
  rw [setNth_eq,List.getElem?_set]
  by_cases hi : b = i
  ·subst hi; simp [hb]
  ·simp [hi]
 have other : ∀ r,r ≠ b' → (upd w b' (.cells d A.elem (0,0))).heap[r]? = w.heap[r]?:=fun r hr=>by
  rw [upd_heap]; simp [Ne.symm hr]
 have oneBlk : ∀ i A' b1 n1,s.heap[i]? = some (some A') → i ≠ b → π i = some (b1,n1) → b1 ≠ b':=fun i A' b1 n1 h1 h2 h3 e=>by
  subst e
  exact h2 (h.inj b i A A' b1 n n1 hA h1 hro hp h3).symm
 constructor
 ·refine ⟨fun i x hx=>by rw [setNth_eq]; simp; exact h.dom i x hx,?_,?_,h.lsz,h.linj,?_⟩
  ·intro i A1 hA1
   simp only [hheap] at hA1
   by_cases hi : b = i
   ·subst hi
    simp at hA1
    subst hA1
    refine ⟨b',n,d,(A'.elem,0,0),hp,?_,by omega,fun _=>⟨rfl,(hrw hro).2⟩,hl,ht⟩
    rw [upd_heap,he]; simp [hb']
   ·simp [hi] at hA1
    obtain ⟨b1,n1,c1,fz1,h1,h2,h3⟩:=h.blk i A1 hA1
    exact ⟨b1,n1,c1,fz1,h1,by rw [other b1 (oneBlk i A1 b1 n1 hA1 (Ne.symm hi) h1)]; exact h2,h3⟩
  ·intro i j A1 A2 b1 n1 m1 h1 h2 h3 h4 h5
   simp only [hheap] at h1 h2
   have g1 : ∃ A1',s.heap[i]? = some (some A1') ∧ A1'.ro = false:=by
    by_cases hi : b = i
    ·subst hi; exact ⟨A,hA,hro⟩
    ·simp [hi] at h1; exact ⟨A1,h1,h3⟩
   have g2 : ∃ A2',s.heap[j]? = some (some A2'):=by
    by_cases hi : b = j
    ·subst hi; exact ⟨A,hA⟩
    ·simp [hi] at h2; exact ⟨A2,h2⟩
   obtain ⟨A1',k1,k2⟩:=g1
   obtain ⟨A2',k3⟩:=g2
   exact h.inj i j A1' A2' b1 n1 m1 k1 k3 k2 h4 h5
  ·intro l r hr
   obtain ⟨L,fn,D,ts,st,pd,h1,h2,h3⟩:=h.loop l r hr
   have : L ≠ b':=fun e=>by subst e; rw [hc] at h2; cases h2
   exact ⟨L,fn,D,ts,st,pd,h1,by rw [other L this]; exact h2,h3⟩
 ·refine ⟨rfl,rfl,rfl,by rw [upd_size]; exact Nat.le_refl _,?_,?_,?_,?_,Nat.min_le_left _ _,Nat.le_refl _,Inj.le_refl _,fun _ _=>rfl,by rw [setNth_eq]; simp,?_,?_,⟨[],by simp,by simp⟩⟩
  ·intro r hr h1 _
   exact other r (fun e=>by subst e; exact h1 b A n hA hro hp)
  ·intro i A' b1 n1 h1 h2 h3
   have : i ≠ b:=by simp at h2; omega
   exact other b1 (oneBlk i A' b1 n1 h1 this h3)
  ·intro i hi h2
   simp only [hheap]
   simp at h2
   rw [if_neg (by omega)]
  ·intro _ L hL
   obtain ⟨l,hl1,rfl⟩:=List.getElem_of_mem hL
   obtain ⟨r,hr⟩ : ∃ r,s.loops[l]? = some r:=⟨_,List.getElem?_eq_getElem (h.lsz ▸ hl1)⟩
   obtain ⟨L',fn,D,ts,st,pd,h1,h2,h3⟩:=h.loop l r hr
   rw [List.getElem?_eq_getElem hl1] at h1
   obtain rfl:=Option.some.inj h1
   exact other _ (fun e=>by rw [e,hc] at h2; cases h2)
  ·intro i A' hi hA'
   simp only [hheap] at hA'
   by_cases hi : b = i
   ·subst hi; simp at hA'; subst hA'; exact ⟨A,hA,hro.trans hr'.symm⟩
   ·simp [hi] at hA'; exact ⟨A',hA',rfl⟩
  ·intro i b1 n1 hi hx
   have:=h.dom i _ hx; omega
theorem WR.store (h : WR B π lm s w) {b b' n : Nat} {A : ABlk} (hA : s.heap[b]? = some (some A)) (hro : A.ro = false) (htl : A.tl = none) (hp : π b = some (b',n)) {c : Array Value}
  (hc : w.heap[b']? = some (.cells c A.elem (0,0))) {off : Nat} {avs : List AV} {vs : List Value} (hv : LR π lm avs vs) {cs : List AV} (hpaste : paste A.cells off avs = some cs) :
  WR B π lm { s with heap:=setNth (some { A with cells:=cs }) s.heap b,lo:=min s.lo b } (upd w b' (.cells (pasteV c off vs) A.elem (0,0))) ∧
  Tr π π lm lm s { s with heap:=setNth (some { A with cells:=cs }) s.heap b,lo:=min s.lo b } w (upd w b' (.cells (pasteV c off vs) A.elem (0,0))):=by
 obtain ⟨hle,hcs,hlen⟩:=paste_some hpaste
 obtain ⟨c0,fz0,hc0,hsz,hrw,hl,_⟩:=h.at hA hp
 rw [hc] at hc0
 obtain ⟨rfl,-,-⟩:=Obj.cells.inj (Option.some.inj hc0)
 have hAc : A.cells.length ≤ c.toList.length:=by have:=hl.1; simp at this; simp; omega
 have hvl : avs.length = vs.length:=hv.1
 refine h.write hA hro hp hc rfl hro ?_ ?_ (TailOk.none htl)
 ·have hq : off + vs.length ≤ c.size:=by have:=hAc; simp at this; omega
  simp [pasteV]; omega
 ·simp only [pasteV,hlen]
  rcases take_paste (l:=c.toList) (vs:=vs) (off:=off) (m:=A.cells.length) (by omega) with e | e
  ·rw [e,hcs,hvl]
   exact (hl.take off).append (hv.append (hl.drop _))
  ·omega
def Inj.more (π : Inj) (i : Nat) (x : Nat × Nat) : Inj:=fun j=>if j = i then some x else π j
theorem Inj.le_more {π : Inj} {i : Nat} {x : Nat × Nat} (h : π i = none) : π.le (π.more i x):=fun j y hj=>by
 unfold Inj.more; split
 ·rename_i e; subst e; rw [h] at hj; cases hj
 ·exact hj
theorem WR.free (h : WR B π lm s w) : π s.heap.length = none:=by
 cases hp : π s.heap.length with
 | none=>rfl
 | some x=>exact absurd (h.dom _ _ hp) (by omega)
theorem heap_push (w : World) (o : Obj) (r : Nat) (hr : r < w.heap.size) : ({ w with heap:=w.heap.push o } : World).heap[r]? = w.heap[r]?:=by
 simp only [Array.getElem?_push]; rw [if_neg (by omega)]
theorem WR.newT (h : WR B π lm s w) (hB : B ≤ w.heap.size) (e : TypeId) {cs : List AV} {tl : Option (Nat × EK)} {c : Array Value} (hc : LR π lm cs (c.toList.take cs.length)) (ht : TailOk { elem:=e,cells:=cs,ro:=false,tl:=tl } c) :
  WR B (π.more s.heap.length (w.heap.size,c.size)) lm (newBlk s e cs tl) { w with heap:=w.heap.push (.cells c e) } ∧
  Tr π (π.more s.heap.length (w.heap.size,c.size)) lm lm s (newBlk s e cs tl) w { w with heap:=w.heap.push (.cells c e) }:=by
 have hle:=Inj.le_more (x:=(w.heap.size,c.size)) h.free
 have hold : ∀ i,i < s.heap.length → (π.more s.heap.length (w.heap.size,c.size)) i = π i:=fun i hi=>by
  unfold Inj.more; rw [if_neg (by omega)]
 have hheap : ∀ i A,(newBlk s e cs tl).heap[i]? = some (some A) → (i < s.heap.length ∧ s.heap[i]? = some (some A)) ∨ (i = s.heap.length ∧ A = { elem:=e,cells:=cs,ro:=false,tl:=tl }):=by
  intro i A hA
  simp only [newBlk] at hA
  by_cases hi : i < s.heap.length
  ·rw [List.getElem?_append_left hi] at hA; exact .inl ⟨hi,hA⟩
  ·rw [List.getElem?_append_right (by omega)] at hA
   have : i - s.heap.length = 0:=by
    rcases Nat.eq_zero_or_pos (i - s.heap.length) with h0 | h0
    ·exact h0
    ·rw [List.getElem?_eq_none (by simp; omega)] at hA; cases hA
   rw [this] at hA
   simp at hA
   exact .inr ⟨by omega,hA.symm⟩
 have hb0 : ∀ i A,s.heap[i]? = some (some A) → ∀ b n,π i = some (b,n) → b < w.heap.size:=fun i A hA b n hp=>by
  obtain ⟨c1,fz,h1,_⟩:=h.at hA hp
  exact lt_of_some h1
 constructor
 ·refine ⟨?_,?_,?_,h.lsz,h.linj,?_⟩
  ·intro i x hx
   simp only [newBlk,List.length_append,List.length_singleton]
   unfold Inj.more at hx
   split at hx
   ·omega
   ·have:=h.dom i x hx; omega
  ·intro i A hA
   rcases hheap i A hA with ⟨hi,hA'⟩ | ⟨rfl,rfl⟩
   ·obtain ⟨b,n,c1,fz,h1,h2,h3,h4,h5⟩:=h.blk i A hA'
    exact ⟨b,n,c1,fz,by rw [hold i hi]; exact h1,by rw [heap_push _ _ _ (lt_of_some h2)]; exact h2,h3,h4,h5.1.mono hle (fun _ _ x=>x),h5.2⟩
   ·refine ⟨w.heap.size,c.size,c,(e,0,0),by simp [Inj.more],by simp,rfl,fun _=>⟨rfl,hB⟩,hc.mono hle (fun _ _ x=>x),ht⟩
  ·intro i j A A' b n m h1 h2 h3 h4 h5
   rcases hheap i A h1 with ⟨hi,hA⟩ | ⟨rfl,rfl⟩ <;> rcases hheap j A' h2 with ⟨hj,hA'⟩ | ⟨rfl,rfl⟩
   ·rw [hold i hi] at h4; rw [hold j hj] at h5
    exact h.inj i j A A' b n m hA hA' h3 h4 h5
   ·rw [hold i hi] at h4
    have:=hb0 i A hA b n h4
    simp [Inj.more] at h5; omega
   ·rw [hold j hj] at h5
    have:=hb0 j A' hA' b m h5
    simp [Inj.more] at h4; omega
   ·rfl
  ·intro l r hr
   obtain ⟨L,fn,D,ts,st,pd,h1,h2,h3,h4⟩:=h.loop l r hr
   exact ⟨L,fn,D,ts,st,pd,h1,by rw [heap_push _ _ _ (lt_of_some h2)]; exact h2,h3,h4.mono hle (fun _ _ x=>x)⟩
 ·refine ⟨rfl,rfl,rfl,by simp,fun r hr _ _=>heap_push _ _ _ hr,?_,?_,?_,Nat.le_refl _,Nat.le_refl _,hle,hold,by simp [newBlk],?_,?_,⟨[],by simp,by simp⟩⟩
  ·intro i A b n hA _ hp
   exact heap_push _ _ _ (hb0 i A hA b n hp)
  ·intro i hi _
   simp only [newBlk]; rw [List.getElem?_append_left hi]
  ·intro _ L hL
   obtain ⟨l,hl1,rfl⟩:=List.getElem_of_mem hL
   obtain ⟨r,hr⟩ : ∃ r,s.loops[l]? = some r:=⟨_,List.getElem?_eq_getElem (h.lsz ▸ hl1)⟩
   obtain ⟨L',fn,D,ts,st,pd,h1,h2,h3⟩:=h.loop l r hr
   rw [List.getElem?_eq_getElem hl1] at h1
   obtain rfl:=Option.some.inj h1
   exact heap_push _ _ _ (lt_of_some h2)
  ·intro i A' hi hA'
   rcases hheap i A' hA' with ⟨_,hA⟩ | ⟨rfl,_⟩
   ·exact ⟨A',hA,rfl⟩
   ·omega
  ·intro i b n hi hx
   unfold Inj.more at hx
   split at hx
   ·left
    obtain ⟨rfl,_⟩:=Prod.mk.inj (Option.some.inj hx); exact Nat.le_refl _
   ·have:=h.dom i _ hx; omega
theorem WR.new (h : WR B π lm s w) (hB : B ≤ w.heap.size) (e : TypeId) {cs : List AV} {c : Array Value} (hc : LR π lm cs (c.toList.take cs.length)) :
  WR B (π.more s.heap.length (w.heap.size,c.size)) lm (newBlk s e cs) { w with heap:=w.heap.push (.cells c e) } ∧
  Tr π (π.more s.heap.length (w.heap.size,c.size)) lm lm s (newBlk s e cs) w { w with heap:=w.heap.push (.cells c e) }:=h.newT hB e hc (TailOk.none rfl)
end Go.Ev
