/- The evaluator: its state, its operations, code, calls. -/
import Derived.Test.YtdenpaifjpmkgaaEvA
namespace Go.Ev
open Go.RowKit (Below)

/-- A row of cells; ro: the caller's memory, which may only be read. -/
structure ABlk where
  elem : TypeId
  cells : List AV
  ro : Bool

inductive LStat where
  | ready
  | busy
  | done (c : Code)
  | over

/-- A loop over a function. -/
structure ALoop where
  tmps : List AV
  params : List Tmp
  assign : Code
  body : Code
  stat : LStat

/-- heap: the blocks; lo: no block below has been written since the call began; loops: all loops over functions; nd: how many have been left by a jump. -/
structure St where
  heap : List (Option ABlk)
  lo : Nat
  loops : List ALoop
  nd : Nat

inductive AExit where
  | normal
  | exit (id : Nat)
  | goto (l : Nat)
  | ret

/-- An operation's outcome; the number says what it does: 0 nothing with memory, 1 it reads, 2 it writes or makes memory. -/
inductive ORes where
  | val (v : AV) (s : St) (cls : Nat)
  | call (f : FuncId) (args : List AV)
  | round (l : Nat) (args : List AV)

def nthD {α : Type} (d : α) : List α → Nat → α
  | [], _ => d
  | a :: _, 0 => a
  | _ :: l, n + 1 => nthD d l n

def setNth {α : Type} (v : α) : List α → Nat → List α
  | [], _ => []
  | _ :: l, 0 => v :: l
  | a :: l, n + 1 => a :: setNth v l n

def eval (ts : List AV) : Operand → Option AV
  | .tmp t => some (nthD undefA ts t)
  | .const v => ofV v
  | .func f => some (.fn f [] [])
  | .global _ => none

def evals (ts : List AV) : List Operand → Option (List AV)
  | [] => some []
  | x :: xs => match eval ts x, evals ts xs with
    | some v, some vs => some (v :: vs)
    | _, _ => none

def put (ts : List AV) (dst : Option Tmp) (v : AV) : List AV :=
  match dst with
  | some d => setNth v ts d
  | none => ts

/-- What a run that asks only for the program gives. -/
def runPure {α : Type} (P : Program) : Sem α → Option α
  | .pure a => some a
  | .program k => runPure P (k P)
  | _ => none

def blockAt (s : St) (b : Nat) : Option ABlk := nthD none s.heap b

def isAggA (P : Program) (t : TypeId) : Option Bool :=
  match P.underlying t with
  | some (.struct _) => some true
  | some (.array _ _) => some true
  | some _ => some false
  | none => none

def sizeA (P : Program) (t : TypeId) : Option Nat := (P.info? t).map (·.size)

/-- n cells from place off on -/
def cut (l : List AV) (off n : Nat) : Option (List AV) :=
  if off + n ≤ l.length then some ((l.drop off).take n) else none

def loadA (P : Program) (s : St) (t : TypeId) (b off : Nat) : Option AV :=
  match blockAt s b with
  | none => none
  | some A => match isAggA P t with
    | some true => match sizeA P t with
      | some n => (cut A.cells off n).map .agg
      | none => none
    | some false => match cut A.cells off 1 with
      | some [v] => some v
      | _ => none
    | none => none

/-- the value of one cell -/
def AV.one : AV → Bool
  | .agg _ => false
  | .tup _ => false
  | _ => true

/-- the list with vs written at off -/
def paste (l : List AV) (off : Nat) (vs : List AV) : Option (List AV) :=
  if off + vs.length ≤ l.length then some (l.take off ++ (vs ++ l.drop (off + vs.length))) else none

def storeCellsA (s : St) (b off : Nat) (vs : List AV) : Option St :=
  match blockAt s b with
  | none => none
  | some A => if A.ro || !(vs.all AV.one) then none else match paste A.cells off vs with
    | some cs => some { s with heap := setNth (some { A with cells := cs }) s.heap b, lo := min s.lo b }
    | none => none

def newBlk (s : St) (t : TypeId) (cs : List AV) : St := { s with heap := s.heap ++ [some { elem := t, cells := cs, ro := false }] }

def zeroA (P : Program) (t : TypeId) : Option AV :=
  match P.info? t with
  | some i => match i.zero with
    | some v => ofV v
    | none => none
  | none => none

/-- all parts pasted, each at the place that its number has -/
def fillA (place : Nat → Option (Nat × Nat)) (cells : List AV) : List (Nat × AV) → Option (List AV)
  | [] => some cells
  | (i, v) :: rest =>
    match place i with
    | none => none
    | some (off, size) =>
      if v.cells.length = size then
        match paste cells off v.cells with
        | some cs => fillA place cs rest
        | none => none
      else none

def evalParts (ts : List AV) : List (Nat × Operand) → Option (List (Nat × AV))
  | [] => some []
  | (i, x) :: xs => match eval ts x, evalParts ts xs with
    | some v, some vs => some ((i, v) :: vs)
    | _, _ => none

def fieldSize (P : Program) (fs : Array Field) (i : Nat) : Option (Nat × Nat) :=
  match fs.toList[i]? with
  | some f => (sizeA P f.type).map fun n => (f.offset, n)
  | none => none

def buildA (P : Program) (t : TypeId) (parts : List (Nat × AV)) : Option AV :=
  match zeroA P t with
  | none => none
  | some z => match P.underlying t with
    | some (.struct fs) => if fs.toList.all (fun f => (sizeA P f.type).isSome) then (fillA (fieldSize P fs) z.cells parts).map .agg else none
    | some (.array _ e) => match sizeA P e with
      | some n => (fillA (fun i => some (i * n, n)) z.cells parts).map .agg
      | none => none
    | _ => none

def rep {α : Type} (l : List α) : Nat → List α
  | 0 => []
  | n + 1 => l ++ rep l n

/-- an int's number -/
def intA : AV → Option (IntKind × Int)
  | .int k n => some (k, n)
  | _ => none

/-- the bounds of a slice expression without a third bound: (low, high) -/
def boundA (v : Option AV) (dflt top : Nat) : Option Nat :=
  match v with
  | none => some dflt
  | some (.int _ n) => if 0 ≤ n ∧ n ≤ (top : Int) then some n.toNat else none
  | some _ => none

/-- an optional operand: none: it cannot be evaluated -/
def evalOpt (ts : List AV) : Option Operand → Option (Option AV)
  | none => some none
  | some x => (eval ts x).map some

def sliceOf (P : Program) (t : TypeId) (x : AV) (lo hi : Option AV) : Option AV :=
  match P.underlying t, x with
  | some (.array n e), .ptr b off =>
    match sizeA P e, boundA hi n n with
    | some es, some h => match boundA lo 0 h with
      | some l => some (.slice b (if n = l then off else off + l * es) (h - l) (n - l) true es)
      | none => none
    | _, _ => none
  | some (.slice e), .slice b off len cap ex es =>
    match sizeA P e, boundA hi len cap with
    | some n, some h =>
      if n = es then match boundA lo 0 h with
        | some l => if ex then some (.slice b (if cap = l then off else off + l * es) (h - l) (cap - l) true es)
          else if l < cap ∨ l = 0 then some (.slice b (off + l * es) (h - l) (cap - l) false es) else none
        | none => none
      else none
    | _, _ => none
  | some (.slice e), .nilSlice =>
    match sizeA P e, boundA hi 0 0 with
    | some _, some h => match boundA lo 0 h with
      | some _ => some .nilSlice
      | none => none
    | _, _ => none
  | _, _ => none

/-- the cells of the first n elements -/
def firstA (s : St) (es n : Nat) : AV → Option (List AV)
  | .slice b off _ _ _ _ => match blockAt s b with
    | some A => cut A.cells off (n * es)
    | none => none
  | .nilSlice => some []
  | _ => none

def lenA : AV → Option Nat
  | .slice _ _ len _ _ _ => some len
  | .nilSlice => some 0
  | _ => none

def bytesA (P : Program) (t : TypeId) : Option Nat := (P.info? t).map (·.bytes)

/-- append(x, y...) where both are slices -/
def appendA (P : Program) (s : St) (sT xT : TypeId) (x y : AV) : Option (AV × St) :=
  match P.underlying sT, P.underlying xT with
  | some (.slice e), some (.slice _) =>
    match sizeA P e, bytesA P e, lenA y, zeroA P e with
    | some es, some bs, some n, some z =>
      if es = 0 ∨ bs = 0 ∨ z.cells.length ≠ es then none else
      match firstA s es n y with
      | none => none
      | some new => match x with
        | .nilSlice =>
          if n = 0 then some (.nilSlice, s)
          else if n * bs > 2 ^ 40 then none
          else some (.slice s.heap.length 0 n n false es, newBlk s e new)
        | .slice b off len cap ex es' =>
          if es' ≠ es then none else
          if len + n ≤ cap then (storeCellsA s b (off + len * es) new).map fun s' => (.slice b off (len + n) cap ex es, s')
          else if (len + n) * bs > 2 ^ 40 then none
          else match firstA s es len x with
            | none => none
            | some old =>
              if ex then some (.slice s.heap.length 0 (len + n) (len + n) false es, newBlk s e (old ++ new))
              else if off = 0 then
                match blockAt s b with
                | some A => if A.ro ∨ A.elem ≠ e ∨ ¬ new.all AV.one then none else
                  some (.slice s.heap.length 0 (len + n) (len + n) false es,
                    { newBlk { s with heap := setNth none s.heap b, lo := min s.lo b } e (old ++ new) with lo := min s.lo b })
                | none => none
              else none
        | _ => none
    | _, _, _, _ => none
  | _, _ => none

/-- max, min: the second where the comparison holds of it and the first -/
def pickA (op : BinOp) (x y : AV) : Option AV :=
  match symBin op y x with
  | some (.bool true) => some y
  | some (.bool false) => some x
  | _ => none

def builtinA (P : Program) (s : St) (b : Builtin) (ats : List TypeId) (args : List AV) : Option (AV × St × Nat) :=
  match b, ats, args with
  | .len, [t], [x] => match P.underlying t, lenA x with
    | some (.slice _), some n => some (.int .i64 n, s, 0)
    | _, _ => none
  | .append, [st, xt], [x, y] => (appendA P s st xt x y).map fun (v, s') => (v, s', 2)
  | .max, [_, _], [x, y] => (pickA .gtr x y).map fun v => (v, s, 0)
  | .min, [_, _], [x, y] => (pickA .lss x y).map fun v => (v, s, 0)
  | _, _, _ => none

/-- an int's operation, as the model has it -/
def intBin (op : BinOp) (k : IntKind) (a b : Int) : Option AV :=
  match op with
  | .add => some (.int k (k.wrap (a + b)))
  | .sub => some (.int k (k.wrap (a - b)))
  | .mul => some (.int k (k.wrap (a * b)))
  | .quo => if b = 0 then none else some (.int k (k.wrap (a.tdiv b)))
  | .rem => if b = 0 then none else some (.int k (a.tmod b))
  | .eql => some (.bool (a == b))
  | .neq => some (.bool (a != b))
  | .lss => some (.bool (a < b))
  | .leq => some (.bool (a ≤ b))
  | .gtr => some (.bool (a > b))
  | .geq => some (.bool (a ≥ b))
  | _ => none

/-- by the model's own text, where no operand leads to memory -/
def plainOp : Op → Bool
  | .select .. => false
  | .defer _ => false
  | _ => true

def pureOp (P : Program) (ts : List AV) (o : Oper) : Option AV :=
  if o.op.operands.toList.all (fun x => ((eval ts x).bind AV.toV).isSome) && plainOp o.op then
    match runPure P (execOp (fun x => ((eval ts x).bind AV.toV).getD undef) o) with
    | some (.value v) => ofV v
    | _ => none
  else none

def binA (P : Program) (ts : List AV) (o : Oper) (op : BinOp) (x y : Operand) : Option AV :=
  match eval ts x, eval ts y with
  | some (.int k a), some (.int k' b) => if k = k' then (match intBin op k a b with | some v => some v | none => pureOp P ts o) else pureOp P ts o
  | _, _ => pureOp P ts o

/-- are these fields the same? -/
def eqFs (P : Program) : Nat → List Field → List AV → List AV → Option Bool
  | 0, _, _, _ => none
  | _ + 1, [], _, _ => some true
  | d + 1, f :: fs, l, m =>
    if f.name == "_" then none else
    match (match P.underlying f.type with
      | some (.int _) => match l[f.offset]?, m[f.offset]? with
        | some x, some y => match symBin .eql x y with
          | some (.bool b) => some b
          | _ => none
        | _, _ => none
      | some (.struct gs) => if P.stoodInHeld f.type then none else match sizeA P f.type with
        | some n => match cut l f.offset n, cut m f.offset n with
          | some l', some m' => eqFs P d gs.toList l' m'
          | _, _ => none
        | none => none
      | _ => none) with
    | some true => eqFs P d fs l m
    | r => r

def eqAgg (P : Program) (t : TypeId) (l m : List AV) : Option Bool :=
  match P.underlying t with
  | some (.struct fs) => if P.stoodInHeld t || P.eqGuardType P.depth t then none else eqFs P 100 fs.toList l m
  | _ => none

def symBinT (P : Program) (o : Oper) (op : BinOp) (u v : AV) : Option AV :=
  match symBin op u v with
  | some r => some r
  | none => match symW op u v with
  | some r => some r
  | none => match u, v, o.op with
    | .agg l, .agg m, .binOp _ xt _ _ _ => match op with
      | .eql => (eqAgg P xt l m).map .bool
      | .neq => (eqAgg P xt l m).map fun b => .bool (!b)
      | _ => none
    | _, _, _ => none

/-- numbers within bounds, where the numbers themselves are not known -/
def binS (P : Program) (ts : List AV) (o : Oper) (op : BinOp) (x y : Operand) : Option AV :=
  match binA P ts o op x y with
  | some v => some v
  | none => match eval ts x, eval ts y with
    | some u, some v => symBinT P o op u v
    | _, _ => none

def symConv (P : Program) (src dst : TypeId) (u : AV) : Option AV :=
  match P.underlying src, P.underlying dst, symA u with
  | some _, some (.int k), some (_, e, l, h) => if kin k l h then some (mkA k e l h) else symCv k u
  | _, _, _ => none

def convS (P : Program) (ts : List AV) (o : Oper) (src dst : TypeId) (x : Operand) : Option AV :=
  match pureOp P ts o with
  | some v => some v
  | none => match eval ts x with
    | some u => symConv P src dst u
    | none => none

def unS (P : Program) (ts : List AV) (o : Oper) (op : UnOp) (x : Operand) : Option AV :=
  match pureOp P ts o with
  | some v => some v
  | none => match op, eval ts x with
    | .neg, some u => symNeg u
    | _, _ => none

/-- bytes -/
def bytesOf : List AV → Option (List Int)
  | [] => some []
  | .int .u8 n :: l => (bytesOf l).map (n :: ·)
  | _ => none

/-- string(b) -/
def strA (P : Program) (s : St) (src dst : TypeId) (v : AV) : Option AV :=
  match P.underlying src, P.underlying dst, v with
  | some (.slice e), some .string, .slice b off len _ _ _ => match P.underlying e, blockAt s b with
    | some (.int .u8), some A => match cut A.cells off len with
      | some cs => (bytesOf cs).map fun ns => .str (ns.foldl (fun r n => r.push (UInt8.ofNat n.toNat)) ByteArray.empty)
      | none => none
    | _, _ => none
  | _, _, _ => none

def convA (P : Program) (ts : List AV) (o : Oper) (src dst : TypeId) (x : Operand) (s : St) : Option ORes :=
  match convS P ts o src dst x with
  | some v => some (.val v s 0)
  | none => match eval ts x with
    | some u => (strA P s src dst u).map (.val · s 1)
    | none => none

def evOp (P : Program) (ts : List AV) (o : Oper) (s : St) : Option ORes :=
  match o.op with
  | .move x | .assign x => (eval ts x).map (.val · s 0)
  | .pick c a b => match eval ts c with
    | some (.bool t) => (eval ts (if t then a else b)).map (.val · s 0)
    | _ => none
  | .binOp op _ x y _ => (binS P ts o op x y).map (.val · s 0)
  | .convert src dst x => convA P ts o src dst x s
  | .unOp op _ x => (unS P ts o op x).map (.val · s 0)
  | .nilCheck x => match eval ts x with
    | some (.ptr b off) => some (.val (.ptr b off) s 0)
    | _ => (pureOp P ts o).map (.val · s 0)
  | .load t a => match eval ts a with
    | some (.ptr b off) => (loadA P s t b off).map (.val · s 1)
    | _ => none
  | .store t a x => match eval ts a, eval ts x, sizeA P t with
    | some (.ptr b off), some v, some n => if v.cells.length = n then (storeCellsA s b off v.cells).map (.val undefA · 2) else none
    | _, _, _ => none
  | .fieldAddr t x f => match P.underlying t, eval ts x with
    | some (.struct fs), some (.ptr b off) => match fs.toList[f]? with
      | some fd => match sizeA P fd.type with
        | some n => if n = 0 then none else some (.val (.ptr b (off + fd.offset)) s 0)
        | none => none
      | none => none
    | _, _ => none
  | .indexAddr t x i => match P.underlying t, eval ts x, eval ts i with
    | some (.array len e), some (.ptr b off), some (.int _ n) => match sizeA P e with
      | some es => if 0 ≤ n ∧ n < (len : Int) then some (.val (.ptr b (off + n.toNat * es)) s 0) else none
      | none => none
    | some (.slice e), some (.slice b off len _ _ _), some (.int _ n) => match sizeA P e with
      | some es => if 0 ≤ n ∧ n < (len : Int) then some (.val (.ptr b (off + n.toNat * es)) s 0) else none
      | none => none
    | _, _, _ => none
  | .alloc t => (zeroA P t).map fun z => .val (.ptr s.heap.length 0) (newBlk s t z.cells) 2
  | .box t x => (eval ts x).map fun v => .val (.ptr s.heap.length 0) (newBlk s t v.cells) 2
  | .build t parts => match evalParts ts parts.toList with
    | some ps => (buildA P t ps).map (.val · s 0)
    | none => none
  | .buildSlice t len parts => match P.underlying t with
    | some (.slice e) => match sizeA P e, zeroA P e, evalParts ts parts.toList with
      | some es, some z, some ps =>
        if len * es > 2 ^ 24 ∨ z.cells.length ≠ es then none else
        (fillA (fun i => some (i * es, es)) (rep z.cells len) ps).map fun cs => .val (.slice s.heap.length 0 len len true es) (newBlk s e cs) 2
      | _, _, _ => none
    | _ => none
  | .makeSlice t l c => match P.underlying t with
    | some (.slice e) => match sizeA P e, bytesA P e, zeroA P e, eval ts l, eval ts c with
      | some es, some bs, some z, some (.int _ n), some (.int _ m) =>
        if 0 ≤ n ∧ n ≤ m ∧ m * bs ≤ 2 ^ 40 ∧ m ≤ 2 ^ 40 ∧ z.cells.length = es then
          some (.val (.slice s.heap.length 0 n.toNat m.toNat true es) (newBlk s e (rep z.cells m.toNat)) 2)
        else none
      | _, _, _, _, _ => none
    | _ => none
  | .makeFunc fn first captured => match fn, evals ts first.toList, evals ts captured.toList with
    | .func f, some l1, some l2 => some (.val (.fn f l1 l2) s 0)
    | _, _, _ => none
  | .slice t x lo hi mx => match eval ts x, evalOpt ts lo, evalOpt ts hi, mx with
    | some v, some l, some h, none => match sliceOf P t v l h with
      | some r => some (.val r s 0)
      | none => (pureOp P ts o).map (.val · s 0)
    | _, _, _, _ => none
  | .extract x i => match eval ts x with
    | some (.tup vs) => match vs[i]? with
      | some v => some (.val v s 0)
      | none => none
    | _ => none
  | .call c => match c.callee with
    | .builtin b => match evals ts c.args.toList with
      | some args => match builtinA P s b c.argTypes.toList args with
        | some (v, s', k) => some (.val v s' k)
        | none => (pureOp P ts o).map (.val · s 0)
      | none => none
    | .value f => match eval ts f, evals ts c.args.toList with
      | some (.fn g l1 l2), some args => some (.call g (l1 ++ (args ++ l2)))
      | some (.yield l), some args => some (.round l args)
      | _, _ => none
    | _ => none
  | _ => (pureOp P ts o).map (.val · s 0)

/-- Is the operation wanted? -/
def wantedA (ops : List Oper) (o : Oper) (ts : List AV) : Bool :=
  match o.guard with
  | none => true
  | some (j, want) => match (ops[j]?).bind (·.dst) with
    | none => false
    | some d => match ts[d]? with
      | some (.bool b) => b == want
      | _ => false

structure Ev where
  code : Code → List AV → St → Option (AExit × List AV × St)
  call : FuncId → List AV → St → Option (AV × St × Bool)
  round : Nat → List AV → St → Option (Bool × St)

/-- One operation: its value and the state behind it. -/
def evOneV (P : Program) (rec : Ev) (o : Oper) (ts : List AV) (s : St) : Option (AV × St) :=
  match evOp P ts o s with
  | some (.val v s' _) => some (v, s')
  | some (.call f args) => match rec.call f args s with
    | some (v, s', _) => some (v, s')
    | none => none
  | some (.round l args) => match rec.round l args s with
    | some (b, s') => some (.bool b, s')
    | none => none
  | none => none

def evOps (P : Program) (rec : Ev) (ops : List Oper) : List Oper → List AV → St → Option (List AV × St)
  | [], ts, s => some (ts, s)
  | o :: rest, ts, s =>
    if wantedA ops o ts then
      match evOneV P rec o ts s with
      | some (v, s') => evOps P rec ops rest (put ts o.dst v) s'
      | none => none
    else evOps P rec ops rest (put ts o.dst undefA) s

/-! A region that draws its order: one operation at most writes; whatever reads comes before it. -/

/-- surely without memory -/
def pureS : Op → Bool
  | .move _ | .assign _ | .pick .. | .binOp .. | .unOp .. | .nilCheck _ | .convert .. | .fieldAddr .. | .indexAddr .. | .field .. | .index .. | .extract .. | .makeFunc .. | .slice .. | .build .. => true
  | .call c => match c.callee with
    | .builtin .len => true
    | _ => false
  | _ => false

/-- it writes, or makes memory -/
def effS : Op → Bool
  | .store .. | .alloc _ | .box .. | .buildSlice .. | .makeSlice .. => true
  | .call c => match c.callee with
    | .builtin .append => true
    | _ => false
  | _ => false

/-- makes one row of memory, and does nothing else -/
def alS : Op → Bool
  | .alloc _ | .box .. | .buildSlice .. | .makeSlice .. => true
  | _ => false

def sinkFrom : List Oper → Nat → Nat → Nat
  | [], _, r => r
  | o :: l, i, r => sinkFrom l (i + 1) (if effS o.op && !alS o.op then i else r)

def maskOf (acc : List Nat) (es : List Edge) : Nat := es.foldl (fun m e => if Region.binds .any e then m ||| 2 ^ e.on ||| nthD 0 acc e.on else m) 0

def befs : List Oper → List Nat → List Nat
  | [], acc => acc
  | o :: l, acc => befs l (acc ++ [maskOf acc o.after.toList])

def dstIn (o : Oper) (l : List Tmp) : Bool :=
  match o.dst with
  | some d => l.contains d
  | none => false

/-- their slots part them -/
def clash (ops : Array Oper) (x y : Oper) : Bool := dstIn x (y.looksAt ops) || dstIn y (x.looksAt ops) || dstIn x y.dst.toList

def isLoad : Op → Bool
  | .load _ _ => true
  | _ => false

def drawOk (ops : Array Oper) (k : Nat) : Bool :=
  let m := befs ops.toList []
  let l := ops.toList.zipIdx
  l.all (fun y => l.all fun x => !(decide (x.2 < y.2)) || !clash ops x.1 y.1 || (nthD 0 m y.2).testBit x.2) &&
  l.all (fun x => x.2 == k || pureS x.1.op || k == ops.size || (nthD 0 m k).testBit x.2 || isLoad x.1.op) && l.all (fun x => x.1.after.toList.all fun e => !Region.binds .any e || decide (e.on < x.2))

mutual
/-- no block from n on -/
def refsLt (n : Nat) : AV → Bool
  | .ptr b _ => Nat.blt b n
  | .slice b _ _ _ _ _ => Nat.blt b n
  | .fn _ l1 l2 => refsLtL n l1 && refsLtL n l2
  | .iface _ v => refsLt n v
  | .agg l => refsLtL n l
  | .tup l => refsLtL n l
  | _ => true
def refsLtL (n : Nat) : List AV → Bool
  | [] => true
  | v :: l => refsLt n v && refsLtL n l
end

/-- of the new blocks those that these operations have made -/
def holes (m : Nat → Bool) : List Nat → List (Option ABlk) → List (Option ABlk)
  | o :: os, b :: bs => (if m o then b else none) :: holes m os bs
  | _, _ => []

def maskSt (m h0 : Nat) (own : List Nat) (s : St) : St := { s with heap := s.heap.take h0 ++ holes m.testBit own (s.heap.drop h0), lo := s.heap.length }

def newOk (n : Nat) : List (Option ABlk) → Bool
  | [] => true
  | none :: l => newOk n l
  | some A :: l => refsLtL n A.cells && newOk n l

/-- an operation that is not the one that writes: it reads, calls, makes memory; m: what surely came before it; own: who made the blocks from h0 on -/
def stepN (P : Program) (rec : Ev) (o : Oper) (ts : List AV) (s : St) (m h0 : Nat) (own : List Nat) : Option (AV × St × Nat) :=
  match evOp P ts o s with
  | some (.val v s' c) =>
    if pureS o.op then (if c = 0 then some (v, s, 0) else none) else
    if alS o.op then some (v, s', 1) else
    match o.op with
    | .load _ a => match eval ts a with
      | some (.ptr b _) => if Nat.blt b h0 || m.testBit (nthD 0 own (b - h0)) then some (v, s, 0) else none
      | _ => none
    | _ => none
  | some (.call f args) =>
    if refsLtL s.heap.length args && newOk s.heap.length (holes m.testBit own (s.heap.drop h0)) then
      match rec.call f args (maskSt m h0 own s) with
      | some (v, s1, q) => if q then some (v, s, 0) else
        if Nat.ble s.heap.length s1.lo && (Nat.ble s.heap.length s1.heap.length && (Nat.beq s1.nd s.nd && Nat.beq s1.loops.length s.loops.length)) then
          some (v, { s with heap := s.heap ++ s1.heap.drop s.heap.length }, s1.heap.length - s.heap.length)
        else none
      | none => none
    else none
  | _ => none

/-- the block that a load or a store names -/
def blkOf (ts : List AV) (o : Oper) : Option Nat :=
  match o.op with
  | .load _ a | .store _ a _ => match eval ts a with
    | some (.ptr b _) => some b
    | _ => none
  | _ => none

/-- a load that may come before or behind the one that writes -/
def addLate (late : Bool) (ts : List AV) (o : Oper) (lt : List Nat) : List Nat :=
  if late && isLoad o.op then (match blkOf ts o with | some b => b :: lt | none => lt) else lt

def lateOk (lt : List Nat) : Option (Option Nat) → Bool
  | none => true
  | some none => lt.isEmpty
  | some (some b) => !lt.contains b

def evDraw (P : Program) (rec : Ev) (ops : List Oper) (k h0 : Nat) (ms : List Nat) : Nat → List Oper → List AV → St → List Nat → List Nat → Option (Option Nat) → Option (List AV × St)
  | _, [], ts, s, _, lt, wr => if lateOk lt wr then some (ts, s) else none
  | i, o :: rest, ts, s, own, lt, wr =>
    if wantedA ops o ts then
      if i = k then match evOneV P rec o ts s with
        | some (v, s') => evDraw P rec ops k h0 ms (i + 1) rest (put ts o.dst v) s' own lt (some (blkOf ts o))
        | none => none
      else match stepN P rec o ts s (nthD 0 ms i) h0 own with
        | some (v, s', n) => evDraw P rec ops k h0 ms (i + 1) rest (put ts o.dst v) s' (own ++ List.replicate n i) (addLate (!(nthD 0 ms k).testBit i) ts o lt) wr
        | none => none
    else evDraw P rec ops k h0 ms (i + 1) rest (put ts o.dst undefA) s own lt wr

/-! A region that draws its order, of another kind: what works on memory comes in the order of the text, but for loads of what is not written meanwhile. -/

/-- none: it leaves all rows that there are; some (some b): it writes row b alone -/
abbrev Eff := Option (Option Nat)
def effOf (ts : List AV) (o : Oper) (quiet : Bool) : Eff :=
  if alS o.op then none else
  match o.op with
  | .store _ a _ => match eval ts a with
    | some (.ptr b _) => some (some b)
    | _ => some none
  | .call _ => if quiet then none else some none
  | _ => some none

def effOk (e : Eff) (h b : Nat) : Bool := Nat.blt b h && (match e with
  | none => true
  | some none => false
  | some (some b') => !Nat.beq b b')

def evOneQ (P : Program) (rec : Ev) (o : Oper) (ts : List AV) (s : St) : Option (AV × St × Bool) :=
  match evOp P ts o s with
  | some (.val v s' _) => some (v, s', false)
  | some (.call f args) => rec.call f args s
  | some (.round l args) => match rec.round l args s with
    | some (b, s') => some (.bool b, s', false)
    | none => none
  | none => none

def chainOk (ops : Array Oper) : Bool :=
  let m := befs ops.toList []
  let l := ops.toList.zipIdx
  l.all (fun y => l.all fun x => !(decide (x.2 < y.2)) || ((nthD 0 m y.2).testBit x.2 || (!clash ops x.1 y.1 && (pureS x.1.op || pureS y.1.op || isLoad x.1.op || isLoad y.1.op)))) &&
  l.all (fun x => x.1.after.toList.all fun e => !Region.binds .any e || decide (e.on < x.2))

def numEff (l : List Oper) : Nat := l.foldl (fun n o => if effS o.op && !alS o.op then n + 1 else n) 0

/-- Is this kind to be taken? where two operations write, or no load floats beside a call -/
def useChain (ops : Array Oper) : Bool :=
  chainOk ops && (Nat.ble 2 (numEff ops.toList) ||
    (let m := befs ops.toList []
     let l := ops.toList.zipIdx
     l.all (fun y => l.all fun x => !(decide (x.2 < y.2)) || ((nthD 0 m y.2).testBit x.2 || (pureS x.1.op || pureS y.1.op || (isLoad x.1.op && isLoad y.1.op) || (isLoad x.1.op && alS y.1.op) || (alS x.1.op && isLoad y.1.op))))))

def evChain (P : Program) (rec : Ev) (ops : List Oper) (ms : List Nat) : Nat → List Oper → List AV → St → List (Nat × Nat) → List (Nat × Eff × Nat) → Option (List AV × St)
  | _, [], ts, s, _, _ => some (ts, s)
  | i, o :: rest, ts, s, lds, mo =>
    if wantedA ops o ts then
      if pureS o.op then match evOp P ts o s with
        | some (.val v _ 0) => evChain P rec ops ms (i + 1) rest (put ts o.dst v) s lds mo
        | _ => none
      else if isLoad o.op then match evOp P ts o s with
        | some (.val v _ _) => match blkOf ts o with
          | some b => if mo.all (fun x => (nthD 0 ms i).testBit x.1 || effOk x.2.1 x.2.2 b) then evChain P rec ops ms (i + 1) rest (put ts o.dst v) s ((i, b) :: lds) mo else none
          | none => none
        | _ => none
      else match evOneQ P rec o ts s with
        | some (v, s', q) => if lds.all (fun x => (nthD 0 ms i).testBit x.1 || effOk (effOf ts o q) s.heap.length x.2) then
            evChain P rec ops ms (i + 1) rest (put ts o.dst v) s' lds ((i, effOf ts o q, s.heap.length) :: mo) else none
        | none => none
    else evChain P rec ops ms (i + 1) rest (put ts o.dst undefA) s lds mo

def setStat (s : St) (l : Nat) (x : LStat) : St :=
  match s.loops[l]? with
  | some r => { s with loops := setNth { r with stat := x } s.loops l }
  | none => s

def statAt (s : St) (l : Nat) : Option LStat := (s.loops[l]?).map (·.stat)

def putParams (ts : List AV) : List Tmp → List AV → List AV
  | p :: ps, a :: r => putParams (setNth a ts p) ps r
  | _, _ => ts

def evCode (P : Program) (rec : Ev) (c : Code) (ts : List AV) (s : St) : Option (AExit × List AV × St) :=
  match c with
  | .skip => some (.normal, ts, s)
  | .label _ => some (.normal, ts, s)
  | .region _ ops false => match evOps P rec ops.toList ops.toList ts s with
    | some (ts', s') => some (.normal, ts', s')
    | none => none
  | .region _ ops true => if useChain ops then match evChain P rec ops.toList (befs ops.toList []) 0 ops.toList ts s [] [] with
      | some (ts', s') => some (.normal, ts', s')
      | none => none
    else if drawOk ops (sinkFrom ops.toList 0 ops.size) then
      match evDraw P rec ops.toList (sinkFrom ops.toList 0 ops.size) s.heap.length (befs ops.toList []) 0 ops.toList ts s [] [] none with
      | some (ts', s') => some (.normal, ts', s')
      | none => none
    else none
  | .seq a b => match rec.code a ts s with
    | some (.normal, ts', s') => rec.code b ts' s'
    | r => r
  | .cond c x y => match eval ts c with
    | some (.bool b) => rec.code (if b then x else y) ts s
    | _ => none
  | .block id body => match rec.code body ts s with
    | some (.exit id', ts', s') => if id' = id then some (.normal, ts', s') else some (.exit id', ts', s')
    | r => r
  | .loop body => match rec.code body ts s with
    | some (.normal, ts', s') => rec.code (.loop body) ts' s'
    | r => r
  | .exit id => some (.exit id, ts, s)
  | .ret => some (.ret, ts, s)
  | .rangeFunc f ps assign body => match eval ts f with
    | some (.fn g l1 l2) =>
      match rec.call g (l1 ++ (.yield s.loops.length :: l2)) { s with loops := s.loops ++ [{ tmps := ts, params := ps.toList, assign, body, stat := .ready }] } with
      | some (_, s', _) => match statAt s' s.loops.length with
        | some .ready => some (.normal, ts, setStat s' s.loops.length .over)
        | some (.done .ret) => some (.ret, ts, setStat s' s.loops.length .over)
        | some (.done (.exit id)) => some (.exit id, ts, setStat s' s.loops.length .over)
        | _ => none
      | none => none
    | _ => none
  | _ => none

/-- scalars, structs of these, pairs of these: no address in it -/
def AV.lone : AV → Bool
  | .sym _ _ _ _ => true
  | v => v.sc.isSome
def AV.flat1 : AV → Bool
  | .agg l => l.all AV.lone
  | v => v.lone
def AV.flat : AV → Bool
  | .tup l => l.all AV.flat1
  | v => v.flat1

def resultA (P : Program) (ts : List AV) (s : St) : ResultVar → Option AV
  | .tmp t => some (nthD undefA ts t)
  | .cell a t => match nthD undefA ts a with
    | .ptr b off => loadA P s t b off
    | _ => none

def resultsA (P : Program) (fn : Func) (ts : List AV) (s : St) : Option AV :=
  match optMap (resultA P ts s) fn.results.toList with
  | some [v] => some v
  | some vs => some (.tup vs)
  | none => none

def evCall (P : Program) (rec : Ev) (f : FuncId) (args : List AV) (s : St) : Option (AV × St × Bool) :=
  match P.funcs[f]? with
  | none => none
  | some fn => match fn.body with
    | none => none
    | some c => match rec.code c (args ++ List.replicate (fn.ntmps - args.length) undefA) { s with lo := s.heap.length } with
      | some (.normal, ts, s1) | some (.ret, ts, s1) => match resultsA P fn ts s1 with
        | some v =>
          if s.heap.length ≤ s1.lo && s1.nd == s.nd && v.flat then some (v, s, true)
          else some (v, { s1 with lo := min s.lo s1.lo }, false)
        | none => none
      | _ => none

def evRound (rec : Ev) (l : Nat) (args : List AV) (s : St) : Option (Bool × St) :=
  match s.loops[l]? with
  | some { tmps, params, assign, body, stat := .ready } =>
    if args.length = params.length then
      match rec.code assign (putParams tmps params args) s with
      | some (.normal, ts1, s1) => match statAt s1 l with
        | some .ready => match rec.code body ts1 (setStat s1 l .busy) with
          | some (e, _, s2) => match statAt s2 l with
            | some .busy => match e with
              | .normal => some (true, setStat s2 l .ready)
              | .ret => some (false, { setStat s2 l (.done .ret) with nd := s2.nd + 1 })
              | .exit id => some (false, { setStat s2 l (.done (.exit id)) with nd := s2.nd + 1 })
              | .goto _ => none
            | _ => none
          | none => none
        | _ => none
      | _ => none
    else none
  | _ => none

/-- what is known of calls beforehand -/
abbrev Orc := FuncId → List AV → St → Option (AV × St × Bool)

def evCallO (P : Program) (orc : Orc) (rec : Ev) (f : FuncId) (args : List AV) (s : St) : Option (AV × St × Bool) :=
  match orc f args s with
  | some r => some r
  | none => evCall P rec f args s

def Ev.bot : Ev := { code := fun _ _ _ => none, call := fun _ _ _ => none, round := fun _ _ _ => none }
def Ev.step (P : Program) (orc : Orc) (rec : Ev) : Ev := { code := evCode P rec, call := evCallO P orc rec, round := evRound rec }
def ev (P : Program) (orc : Orc) : Nat → Ev
  | 0 => .bot
  | n + 1 => .step P orc (ev P orc n)

def noOrc : Orc := fun _ _ _ => none

end Go.Ev
