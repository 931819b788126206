/- A faster twin: slots in a tree. -/
import Derived.Test.YtjphnpbknaedcaaEvE
import Derived.Test.YtjphnpbknaedcaaEvO
import Derived.IntWalk
namespace Go.Ev

structure N8 (α : Type) where
  a : α
  b : α
  c : α
  d : α
  e : α
  f : α
  g : α
  h : α

def N8.sel {α : Type} (x : N8 α) (n : Nat) : α :=
  N8.casesOn (motive := fun _ => α) x fun a b c d e f g h =>
  Nat.casesOn (motive := fun _ => α) n a fun n => Nat.casesOn (motive := fun _ => α) n b fun n => Nat.casesOn (motive := fun _ => α) n c fun n => Nat.casesOn (motive := fun _ => α) n d fun n =>
  Nat.casesOn (motive := fun _ => α) n e fun n => Nat.casesOn (motive := fun _ => α) n f fun n => Nat.casesOn (motive := fun _ => α) n g fun _ => h

def N8.up {α : Type} (k : α → α) (x : N8 α) (n : Nat) : N8 α :=
  N8.casesOn (motive := fun _ => N8 α) x fun a b c d e f g h =>
  Nat.casesOn (motive := fun _ => N8 α) n ⟨k a, b, c, d, e, f, g, h⟩ fun n => Nat.casesOn (motive := fun _ => N8 α) n ⟨a, k b, c, d, e, f, g, h⟩ fun n => Nat.casesOn (motive := fun _ => N8 α) n ⟨a, b, k c, d, e, f, g, h⟩ fun n =>
  Nat.casesOn (motive := fun _ => N8 α) n ⟨a, b, c, k d, e, f, g, h⟩ fun n => Nat.casesOn (motive := fun _ => N8 α) n ⟨a, b, c, d, k e, f, g, h⟩ fun n => Nat.casesOn (motive := fun _ => N8 α) n ⟨a, b, c, d, e, k f, g, h⟩ fun n =>
  Nat.casesOn (motive := fun _ => N8 α) n ⟨a, b, c, d, e, f, k g, h⟩ fun _ => ⟨a, b, c, d, e, f, g, k h⟩

theorem N8.sel_up {α : Type} (k : α → α) (x : N8 α) (n m : Nat) (hn : n < 8) (hm : m < 8) : (N8.up k x n).sel m = if n = m then k (x.sel n) else x.sel m := by
  cases x
  match n, hn with
  | 0, _ | 1, _ | 2, _ | 3, _ | 4, _ | 5, _ | 6, _ | 7, _ => match m, hm with
    | 0, _ | 1, _ | 2, _ | 3, _ | 4, _ | 5, _ | 6, _ | 7, _ => rfl

abbrev T3 := N8 (N8 (N8 AV))

def T3.get (t : T3) (n : Nat) : AV := N8.sel (N8.sel (N8.sel t (n / 64)) (n / 8 % 8)) (n % 8)
def T3.set (t : T3) (n : Nat) (v : AV) : T3 := N8.up (fun x => N8.up (fun y => N8.up (fun _ => v) y (n % 8)) x (n / 8 % 8)) t (n / 64)

theorem T3.get_set (t : T3) (n m : Nat) (v : AV) (hn : n < 512) (hm : m < 512) : (t.set n v).get m = if n = m then v else t.get m := by
  unfold T3.get T3.set
  rw [N8.sel_up _ _ _ _ (by omega) (by omega)]
  by_cases h1 : n / 64 = m / 64
  · rw [if_pos h1, N8.sel_up _ _ _ _ (by omega) (by omega)]
    by_cases h2 : n / 8 % 8 = m / 8 % 8
    · rw [if_pos h2, N8.sel_up _ _ _ _ (by omega) (by omega)]
      by_cases h3 : n % 8 = m % 8
      · rw [if_pos h3, if_pos (by omega)]
      · rw [if_neg h3, if_neg (by omega), h1, h2]
    · rw [if_neg h2, if_neg (by omega), h1]
  · rw [if_neg h1, if_neg (by omega)]

def N8.ofFn {α : Type} (f : Nat → α) : N8 α := ⟨f 0, f 1, f 2, f 3, f 4, f 5, f 6, f 7⟩
theorem N8.sel_ofFn {α : Type} (f : Nat → α) (n : Nat) (hn : n < 8) : (N8.ofFn f).sel n = f n := by
  match n, hn with
  | 0, _ | 1, _ | 2, _ | 3, _ | 4, _ | 5, _ | 6, _ | 7, _ => rfl

/-- a tree of a list -/
def ofL (l : List AV) : T3 := N8.ofFn fun i => N8.ofFn fun j => N8.ofFn fun k => nthD undefA l (i * 64 + j * 8 + k)
theorem get_ofL (l : List AV) (n : Nat) (hn : n < 512) : (ofL l).get n = nthD undefA l n := by
  unfold T3.get ofL
  rw [N8.sel_ofFn _ _ (by omega), N8.sel_ofFn _ _ (by omega), N8.sel_ofFn _ _ (by omega)]
  congr 1; omega

/-- a list of a tree -/
def toLFrom (t : T3) : Nat → Nat → List AV
  | _, 0 => []
  | i, n + 1 => t.get i :: toLFrom t (i + 1) n
def toL (t : T3) (n : Nat) : List AV := toLFrom t 0 n

/-! An operation over a look-up. -/
section
variable (P : Program) (look : Operand → Option AV)

def lookAll : List Operand → Option (List AV)
  | [] => some []
  | x :: xs => match look x, lookAll xs with
    | some v, some vs => some (v :: vs)
    | _, _ => none

def lookParts : List (Nat × Operand) → Option (List (Nat × AV))
  | [] => some []
  | (i, x) :: xs => match look x, lookParts xs with
    | some v, some vs => some ((i, v) :: vs)
    | _, _ => none

def lookOpt : Option Operand → Option (Option AV)
  | none => some none
  | some x => (look x).map some

def pureG (o : Oper) : Option AV :=
  if o.op.operands.toList.all (fun x => ((look x).bind AV.toV).isSome) && plainOp o.op then
    match runPure P (execOp (fun x => ((look x).bind AV.toV).getD undef) o) with
    | some (.value v) => ofV v
    | _ => none
  else none

def gVal (x : Option AV) (s : St) : Option ORes := match x with
  | some v => some (.val v s 0)
  | none => none

def gPick (c : Option AV) (a b : Operand) (s : St) : Option ORes := match c with
  | some (.bool t) => gVal (look (Bool.casesOn t b a)) s
  | _ => none

def fits (k : IntKind) (n : Int) : Bool := match k with
  | .i64 => match n with
    | .ofNat m => Nat.ble m 9223372036854775807
    | .negSucc m => Nat.ble m 9223372036854775807
  | _ => false
def wrapF (k : IntKind) (n : Int) : Int := Bool.casesOn (fits k n) (k.wrap n) n

def intBinF (op : BinOp) (k : IntKind) (a b : Int) : Option AV :=
  match op with
  | .add => some (.int k (wrapF k (a + b)))
  | .sub => some (.int k (wrapF k (a - b)))
  | .mul => some (.int k (wrapF k (a * b)))
  | op => intBin op k a b

def gSym (o : Oper) (op : BinOp) (x y : Option AV) (s : St) : Option ORes :=
  match pureG P look o with
  | some v => some (.val v s 0)
  | none => match x, y with
    | some u, some v => gVal (symBinT P o op u v) s
    | _, _ => none

def gBin (o : Oper) (op : BinOp) (x y : Option AV) (s : St) : Option ORes :=
  match x, y with
  | some (.int k a), some (.int k' b) => if k = k' then (match intBinF op k a b with | some v => some (.val v s 0) | none => gSym P look o op x y s) else gSym P look o op x y s
  | _, _ => gSym P look o op x y s

def gConv (o : Oper) (src dst : TypeId) (x : Option AV) (s : St) : Option ORes :=
  match pureG P look o with
  | some v => some (.val v s 0)
  | none => match x with
    | some u => match symConv P src dst u with
      | some v => some (.val v s 0)
      | none => match strA P s src dst u with
        | some v => some (.val v s 1)
        | none => none
    | none => none

def gNot (o : Oper) (op : UnOp) (x : Option AV) (s : St) : Option ORes :=
  match op, x with
  | .not, some (.bool b) => some (.val (.bool (!b)) s 0)
  | _, _ => match pureG P look o with
    | some v => some (.val v s 0)
    | none => match op, x with
      | .neg, some u => gVal (symNeg u) s
      | _, _ => none

def gLoad (t : TypeId) (a : Option AV) (s : St) : Option ORes := match a with
  | some (.ptr b off) => match loadA P s t b off with
    | some v => some (.val v s 1)
    | none => none
  | _ => none

def gStore (t : TypeId) (a x : Option AV) (s : St) : Option ORes := match a, x, sizeA P t with
  | some (.ptr b off), some v, some n => if v.cells.length = n then (storeCellsA s b off v.cells).map (.val undefA · 2) else none
  | _, _, _ => none

def gFieldAddr (t : TypeId) (x : Option AV) (f : Nat) (s : St) : Option ORes := match P.underlying t, x with
  | some (.struct fs), some (.ptr b off) => match fs.toList[f]? with
    | some fd => match sizeA P fd.type with
      | some n => if n = 0 then none else some (.val (.ptr b (off + fd.offset)) s 0)
      | none => none
    | none => none
  | _, _ => none

def gIndexAddr (t : TypeId) (x i : Option AV) (s : St) : Option ORes := match P.underlying t, x, i with
  | some (.array len e), some (.ptr b off), some (.int _ n) => match sizeA P e with
    | some es => if 0 ≤ n ∧ n < (len : Int) then some (.val (.ptr b (off + n.toNat * es)) s 0) else none
    | none => none
  | some (.slice e), some (.slice b off len _ _ _), some (.int _ n) => match sizeA P e with
    | some es => if 0 ≤ n ∧ n < (len : Int) then some (.val (.ptr b (off + n.toNat * es)) s 0) else none
    | none => none
  | _, _, _ => none

def gAlloc (t : TypeId) (s : St) : Option ORes := (zeroA P t).map fun z => .val (.ptr s.heap.length 0) (newBlk s t z.cells) 2
def gBox (t : TypeId) (x : Option AV) (s : St) : Option ORes := x.map fun v => .val (.ptr s.heap.length 0) (newBlk s t v.cells) 2
def gBuild (t : TypeId) (ps : Option (List (Nat × AV))) (s : St) : Option ORes := match ps with
  | some ps => (buildA P t ps).map (.val · s 0)
  | none => none
def gBuildSlice (t : TypeId) (len : Nat) (ps : Option (List (Nat × AV))) (s : St) : Option ORes := match P.underlying t with
  | some (.slice e) => match sizeA P e, zeroA P e, ps with
    | some es, some z, some ps =>
      if len * es > 2 ^ 24 ∨ z.cells.length ≠ es then none else
      (fillA (fun i => some (i * es, es)) (rep z.cells len) ps).map fun cs => .val (.slice s.heap.length 0 len len true es) (newBlk s e cs) 2
    | _, _, _ => none
  | _ => none
def gMakeSlice (t : TypeId) (l c : Option AV) (s : St) : Option ORes := match P.underlying t with
  | some (.slice e) => match sizeA P e, bytesA P e, zeroA P e, l, c with
    | some es, some bs, some z, some (.int _ n), some (.int _ m) =>
      if 0 ≤ n ∧ n ≤ m ∧ m * bs ≤ 2 ^ 40 ∧ m ≤ 2 ^ 40 ∧ z.cells.length = es then
        some (.val (.slice s.heap.length 0 n.toNat m.toNat true es) (newBlk s e (rep z.cells m.toNat)) 2)
      else none
    | _, _, _, _, _ => none
  | _ => none
def gMakeFunc (fn : Fn) (x1 x2 : Option (List AV)) (s : St) : Option ORes := match fn, x1, x2 with
  | .func f, some l1, some l2 => some (.val (.fn f l1 l2) s 0)
  | _, _, _ => none
def gSlice (o : Oper) (t : TypeId) (x : Option AV) (lo hi : Option (Option AV)) (mx : Option Operand) (s : St) : Option ORes := match x, lo, hi, mx with
  | some v, some l, some h, none => match sliceOf P t v l h with
    | some r => some (.val r s 0)
    | none => gVal (pureG P look o) s
  | _, _, _, _ => none
def gExtract (x : Option AV) (i : Nat) (s : St) : Option ORes := match x with
  | some (.tup vs) => match vs[i]? with
    | some v => some (.val v s 0)
    | none => none
  | _ => none
def gCall (o : Oper) (c : Call) (s : St) : Option ORes := match c.callee with
  | .builtin b => match lookAll look c.args.toList with
    | some args => match builtinA P s b c.argTypes.toList args with
      | some (v, s', k) => some (.val v s' k)
      | none => gVal (pureG P look o) s
    | none => none
  | .value f => match look f, lookAll look c.args.toList with
    | some (.fn g l1 l2), some args => some (.call g (l1 ++ (args ++ l2)))
    | some (.yield l), some args => some (.round l args)
    | _, _ => none
  | _ => none

def gNil (o : Oper) (x : Option AV) (s : St) : Option ORes := match x with
  | some (.ptr b off) => some (.val (.ptr b off) s 0)
  | _ => gVal (pureG P look o) s

def evOpG (o : Oper) (s : St) : Option ORes :=
  match o.op with
  | .move x => gVal (look x) s
  | .assign x => gVal (look x) s
  | .pick c a b => gPick look (look c) a b s
  | .binOp op _ x y _ => gBin P look o op (look x) (look y) s
  | .convert src dst x => gConv P look o src dst (look x) s
  | .unOp op _ x => gNot P look o op (look x) s
  | .nilCheck x => gNil P look o (look x) s
  | .load t a => gLoad P t (look a) s
  | .store t a x => gStore P t (look a) (look x) s
  | .fieldAddr t x f => gFieldAddr P t (look x) f s
  | .indexAddr t x i => gIndexAddr P t (look x) (look i) s
  | .alloc t => gAlloc P t s
  | .box t x => gBox t (look x) s
  | .build t parts => gBuild P t (lookParts look parts.toList) s
  | .buildSlice t len parts => gBuildSlice P t len (lookParts look parts.toList) s
  | .makeSlice t l c => gMakeSlice P t (look l) (look c) s
  | .makeFunc fn x1 x2 => gMakeFunc fn (lookAll look x1.toList) (lookAll look x2.toList) s
  | .slice t x lo hi mx => gSlice P look o t (look x) (lookOpt look lo) (lookOpt look hi) mx s
  | .extract x i => gExtract (look x) i s
  | .call c => gCall P look o c s
  | _ => gVal (pureG P look o) s
end

def lookT (t : T3) : Operand → Option AV
  | .tmp n => some (t.get n)
  | .const v => ofV v
  | .func f => some (.fn f [] [])
  | .global _ => none

def putT (t : T3) (dst : Option Tmp) (v : AV) : T3 := match dst with
  | some d => t.set d v
  | none => t

structure EvF where
  code : Nat → Code → T3 → St → Option (AExit × T3 × St)
  call : FuncId → List AV → St → Option (AV × St × Bool)
  round : Nat → List AV → St → Option (Bool × St)

section
variable (P : Program) (rec : EvF)

def wantedF (ops : List Oper) (o : Oper) (t : T3) : Bool :=
  match o.guard with
  | none => true
  | some (j, want) => match (ops[j]?).bind (·.dst) with
    | none => false
    | some d => match t.get d with
      | .bool b => b == want
      | _ => false

def evOneF (o : Oper) (t : T3) (s : St) : Option (AV × St) :=
  match evOpG P (lookT t) o s with
  | some (.val v s' _) => some (v, s')
  | some (.call f args) => match rec.call f args s with
    | some (v, s', _) => some (v, s')
    | none => none
  | some (.round l args) => match rec.round l args s with
    | some (b, s') => some (.bool b, s')
    | none => none
  | none => none

def evOpsF (ops : List Oper) : List Oper → T3 → St → Option (T3 × St)
  | [], t, s => some (t, s)
  | o :: rest, t, s =>
    Bool.casesOn (motive := fun _ => Option (T3 × St)) (wantedF ops o t) (evOpsF ops rest (putT t o.dst undefA) s)
      (match evOneF P rec o t s with
      | some (v, s') => evOpsF ops rest (putT t o.dst v) s'
      | none => none)

def stepF (o : Oper) (t : T3) (s : St) (m h0 : Nat) (own : List Nat) : Option (AV × St × Nat) :=
  match evOpG P (lookT t) o s with
  | some (.val v s' c) =>
    if pureS o.op then (if c = 0 then some (v, s, 0) else none) else
    if alS o.op then some (v, s', 1) else
    match o.op with
    | .load _ a => match lookT t a with
      | some (.ptr b _) => if Nat.blt b h0 || m.testBit (nthD 0 own (b - h0)) then some (v, s, 0) else none
      | _ => none
    | _ => none
  | some (.call f args) =>
    if refsLtL s.heap.length args && newOk s.heap.length (holes m.testBit own (s.heap.drop h0)) then
      match rec.call f args (maskSt m h0 own s) with
      | some (v, s1, q) => if q then some (v, s, 0) else
        if Nat.ble s.heap.length s1.lo && (Nat.ble s.heap.length s1.heap.length && (Nat.beq s1.nd s.nd && Nat.beq s1.loops.length s.loops.length)) then
          some (v, { s with heap := s.heap ++ s1.heap.drop s.heap.length }, s1.heap.length - s.heap.length)
        else none
      | none => none
    else none
  | _ => none

def blkF (t : T3) (o : Oper) : Option Nat :=
  match o.op with
  | .load _ a => match lookT t a with
    | some (.ptr b _) => some b
    | _ => none
  | .store _ a _ => match lookT t a with
    | some (.ptr b _) => some b
    | _ => none
  | _ => none

def addLateF (late : Bool) (t : T3) (o : Oper) (lt : List Nat) : List Nat :=
  Bool.casesOn late lt (Bool.casesOn (isLoad o.op) lt (match blkF t o with | some b => b :: lt | none => lt))

def evDrawF (ops : List Oper) (k h0 : Nat) (ms : List Nat) : Nat → List Oper → T3 → St → List Nat → List Nat → Option (Option Nat) → Option (T3 × St)
  | _, [], t, s, _, lt, wr => if lateOk lt wr then some (t, s) else none
  | i, o :: rest, t, s, own, lt, wr =>
    Bool.casesOn (motive := fun _ => Option (T3 × St)) (wantedF ops o t) (evDrawF ops k h0 ms (i + 1) rest (putT t o.dst undefA) s own lt wr)
      (if i = k then match evOneF P rec o t s with
        | some (v, s') => evDrawF ops k h0 ms (i + 1) rest (putT t o.dst v) s' own lt (some (blkF t o))
        | none => none
      else match stepF P rec o t s (nthD 0 ms i) h0 own with
        | some (v, s', n) => evDrawF ops k h0 ms (i + 1) rest (putT t o.dst v) s' (own ++ List.replicate n i) (addLateF (!(nthD 0 ms k).testBit i) t o lt) wr
        | none => none)

def effF (t : T3) (o : Oper) (quiet : Bool) : Eff :=
  Bool.casesOn (alS o.op) (match o.op with
  | .store _ a _ => match lookT t a with
    | some (.ptr b _) => some (some b)
    | _ => some none
  | .call _ => match isApp o.op with
    | some x => appE (lookT t x)
    | none => if quiet then none else some none
  | _ => some none) none

def evOneQF (o : Oper) (t : T3) (s : St) : Option (AV × St × Bool) :=
  match evOpG P (lookT t) o s with
  | some (.val v s' _) => some (v, s', false)
  | some (.call f args) => rec.call f args s
  | some (.round l args) => match rec.round l args s with
    | some (b, s') => some (.bool b, s', false)
    | none => none
  | none => none

def evChainF (ops : List Oper) (ms : List Nat) : Nat → List Oper → T3 → St → List (Nat × Nat) → List (Nat × Eff × Nat) → Option (T3 × St)
  | _, [], t, s, _, _ => some (t, s)
  | i, o :: rest, t, s, lds, mo =>
    Bool.casesOn (motive := fun _ => Option (T3 × St)) (wantedF ops o t) (evChainF ops ms (i + 1) rest (putT t o.dst undefA) s lds mo)
      (Bool.casesOn (motive := fun _ => Option (T3 × St)) (pureS o.op)
        (Bool.casesOn (motive := fun _ => Option (T3 × St)) (isLoad o.op)
          (match evOneQF P rec o t s with
            | some (v, s', q) => if lds.all (fun x => (nthD 0 ms i).testBit x.1 || effOk (effF t o q) s.heap.length x.2) then
                evChainF ops ms (i + 1) rest (putT t o.dst v) s' lds ((i, effF t o q, s.heap.length) :: mo) else none
            | none => none)
          (match evOpG P (lookT t) o s with
            | some (.val v _ _) => match blkF t o with
              | some b => if mo.all (fun x => (nthD 0 ms i).testBit x.1 || effOk x.2.1 x.2.2 b) then evChainF ops ms (i + 1) rest (putT t o.dst v) s ((i, b) :: lds) mo else none
              | none => none
            | _ => none))
        (match evOpG P (lookT t) o s with
          | some (.val v _ 0) => evChainF ops ms (i + 1) rest (putT t o.dst v) s lds mo
          | _ => none))

def evFloatF (ops : List Oper) (ms : List Nat) (h0 h1 : Nat) : Nat → Nat → List Oper → T3 → St → List (Nat × Nat) → List (Nat × Eff × Nat) → Option (T3 × St)
  | _, _, [], t, s, _, _ => some (t, s)
  | i, c, o :: rest, t, s, lds, mo =>
    Bool.casesOn (motive := fun _ => Option (T3 × St)) (wantedF ops o t)
      (if alS o.op then (if Nat.blt c h1 then evFloatF ops ms h0 h1 (i + 1) (c + 1) rest (putT t o.dst undefA) s lds mo else none)
        else evFloatF ops ms h0 h1 (i + 1) c rest (putT t o.dst undefA) s lds mo)
      (Bool.casesOn (motive := fun _ => Option (T3 × St)) (pureS o.op)
        (Bool.casesOn (motive := fun _ => Option (T3 × St)) (isLoad o.op)
          (Bool.casesOn (motive := fun _ => Option (T3 × St)) (alS o.op)
            (match evOneQF P rec o t s with
              | some (v, s', q) => if lds.all (fun x => (nthD 0 ms i).testBit x.1 || effOk (effF t o q) s.heap.length x.2) then
                  evFloatF ops ms h0 h1 (i + 1) c rest (putT t o.dst v) s' lds ((i, effF t o q, s.heap.length) :: mo) else none
              | none => none)
            (match madeAt (evOpG P (lookT t) o (cutSt s c)) c with
              | some (v, A) => if Nat.blt c h1 then evFloatF ops ms h0 h1 (i + 1) (c + 1) rest (putT t o.dst v) (setBlk s c A) lds mo else none
              | none => none))
          (match evOpG P (lookT t) o s with
            | some (.val v _ _) => match blkF t o with
              | some b => if (Nat.blt b h0 || Nat.ble h1 b) && mo.all (fun x => (nthD 0 ms i).testBit x.1 || effOk x.2.1 x.2.2 b) then evFloatF ops ms h0 h1 (i + 1) c rest (putT t o.dst v) s ((i, b) :: lds) mo else none
              | none => none
            | _ => none))
        (match evOpG P (lookT t) o s with
          | some (.val v _ 0) => evFloatF ops ms h0 h1 (i + 1) c rest (putT t o.dst v) s lds mo
          | _ => none))

def fRegion (ops : List Oper) (t : T3) (s : St) : Option (AExit × T3 × St) := match evOpsF P rec ops ops t s with
  | some (t', s') => some (.normal, t', s')
  | none => none
def fDraw (ops : Array Oper) (t : T3) (s : St) : Option (AExit × T3 × St) := if useChain ops then
    match evChainF P rec ops.toList (befs ops.toList []) 0 ops.toList t s [] [] with
    | some (t', s') => some (.normal, t', s')
    | none => none
  else if drawOk ops (sinkFrom ops.toList 0 ops.size) then
    match evDrawF P rec ops.toList (sinkFrom ops.toList 0 ops.size) s.heap.length (befs ops.toList []) 0 ops.toList t s [] [] none with
    | some (t', s') => some (.normal, t', s')
    | none => none
  else if floatOk ops then
    match evFloatF P rec ops.toList (befs ops.toList []) s.heap.length (s.heap.length + numAl ops.toList) 0 s.heap.length ops.toList t (room s (numAl ops.toList)) [] [] with
    | some (t', s') => some (.normal, t', s')
    | none => none
  else none
def fSeq (n : Nat) (r : Option (AExit × T3 × St)) (b : Code) : Option (AExit × T3 × St) := match r with
  | some (.normal, t', s') => rec.code n b t' s'
  | r => r
def fCond (n : Nat) (c : Option AV) (x y : Code) (t : T3) (s : St) : Option (AExit × T3 × St) := match c with
  | some (.bool b) => rec.code n (Bool.casesOn b y x) t s
  | _ => none
def fBlock (id : Nat) (r : Option (AExit × T3 × St)) : Option (AExit × T3 × St) := match r with
  | some (.exit id', t', s') => if id' = id then some (.normal, t', s') else some (.exit id', t', s')
  | r => r
def fRange (n : Nat) (f : Option AV) (ps : Array Tmp) (assign body : Code) (t : T3) (s : St) : Option (AExit × T3 × St) := match f with
  | some (.fn g l1 l2) =>
    match rec.call g (l1 ++ (.yield s.loops.length :: l2)) { s with loops := s.loops ++ [{ tmps := toL t n, params := ps.toList, assign, body, stat := .ready }] } with
    | some (_, s', _) => match statAt s' s.loops.length with
      | some .ready => some (.normal, t, setStat s' s.loops.length .over)
      | some (.done .ret) => some (.ret, t, setStat s' s.loops.length .over)
      | some (.done (.exit id)) => some (.exit id, t, setStat s' s.loops.length .over)
      | _ => none
    | none => none
  | _ => none

def evCodeF (n : Nat) (c : Code) (t : T3) (s : St) : Option (AExit × T3 × St) :=
  match c with
  | .skip => some (.normal, t, s)
  | .label _ => some (.normal, t, s)
  | .region _ ops draw => Bool.casesOn draw (fRegion P rec ops.toList t s) (fDraw P rec ops t s)
  | .seq a b => fSeq rec n (rec.code n a t s) b
  | .cond c x y => fCond rec n (lookT t c) x y t s
  | .block id body => fBlock id (rec.code n body t s)
  | .loop body => fSeq rec n (rec.code n body t s) (.loop body)
  | .exit id => some (.exit id, t, s)
  | .ret => some (.ret, t, s)
  | .rangeFunc f ps assign body => fRange rec n (lookT t f) ps assign body t s
  | _ => none

/-! the slots that a text names are there -/
def opndIn (n : Nat) : Operand → Bool
  | .tmp t => Nat.blt t n
  | _ => true
def operIn (n : Nat) (o : Oper) : Bool := (match o.dst with | some d => Nat.blt d n | none => true) && o.op.operands.toList.all (opndIn n)
def codeIn (n : Nat) : Code → Bool
  | .region _ ops _ => ops.toList.all (operIn n)
  | .seq a b => codeIn n a && codeIn n b
  | .cond c x y => opndIn n c && (codeIn n x && codeIn n y)
  | .block _ body => codeIn n body
  | .loop body => codeIn n body
  | .rangeFunc f ps assign body => opndIn n f && (ps.toList.all (Nat.blt · n) && (codeIn n assign && codeIn n body))
  | .scope body => codeIn n body
  | _ => true
def resIn (n : Nat) : ResultVar → Bool
  | .tmp t => Nat.blt t n
  | .cell a _ => Nat.blt a n
def funcIn (fn : Func) (c : Code) : Bool := Nat.ble fn.ntmps 512 && (codeIn fn.ntmps c && fn.results.toList.all (resIn fn.ntmps))

def resultF (t : T3) (s : St) : ResultVar → Option AV
  | .tmp n => some (t.get n)
  | .cell a ty => match t.get a with
    | .ptr b off => loadA P s ty b off
    | _ => none

def resultsF (fn : Func) (t : T3) (s : St) : Option AV :=
  match optMap (resultF P t s) fn.results.toList with
  | some [v] => some v
  | some vs => some (.tup vs)
  | none => none

def fEnd (s : St) (fn : Func) (t : T3) (s1 : St) : Option (AV × St × Bool) := match resultsF P fn t s1 with
  | some v =>
    if s.heap.length ≤ s1.lo && s1.nd == s.nd && v.flat then some (v, s, true)
    else some (v, { s1 with lo := min s.lo s1.lo }, false)
  | none => none

def fLeave (s : St) (fn : Func) (r : Option (AExit × T3 × St)) : Option (AV × St × Bool) := match r with
  | some (.normal, t, s1) => fEnd P s fn t s1
  | some (.ret, t, s1) => fEnd P s fn t s1
  | _ => none

def evCallF (f : FuncId) (args : List AV) (s : St) : Option (AV × St × Bool) :=
  match P.funcs[f]? with
  | none => none
  | some fn => match fn.body with
    | none => none
    | some c => if funcIn fn c && Nat.ble args.length fn.ntmps then
        fLeave P s fn (rec.code fn.ntmps c (ofL (args ++ List.replicate (fn.ntmps - args.length) undefA)) { s with lo := s.heap.length })
      else none

def evCallOF (orc : Orc) (f : FuncId) (args : List AV) (s : St) : Option (AV × St × Bool) :=
  match orc f args s with
  | some r => some r
  | none => evCallF P rec f args s

/-- the number as it is, but reckoned -/
def forceNat {α : Type} (n : Nat) (k : Nat → α) : α := Nat.casesOn n (k 0) fun m => k (m + 1)
theorem forceNat_eq {α : Type} (n : Nat) (k : Nat → α) : forceNat n k = k n := by cases n <;> rfl

def evRoundF (l : Nat) (args : List AV) (s : St) : Option (Bool × St) :=
  match s.loops[l]? with
  | some { tmps, params, assign, body, stat := .ready } =>
    forceNat tmps.length fun n =>
    if args.length = params.length && (Nat.ble n 512 && (codeIn n assign && codeIn n body)) then
      match rec.code n assign (ofL (putParams tmps params args)) s with
      | some (.normal, t1, s1) => match statAt s1 l with
        | some .ready => match rec.code n body t1 (setStat s1 l .busy) with
          | some (e, _, s2) => match statAt s2 l with
            | some .busy => match e with
              | .normal => some (true, setStat s2 l .ready)
              | .ret => some (false, { setStat s2 l (.done .ret) with nd := s2.nd + 1 })
              | .exit id => some (false, { setStat s2 l (.done (.exit id)) with nd := s2.nd + 1 })
              | .goto _ => none
            | _ => none
          | none => none
        | _ => none
      | _ => none
    else none
  | _ => none
end

def EvF.bot : EvF := { code := fun _ _ _ _ => none, call := fun _ _ _ => none, round := fun _ _ _ => none }
def EvF.step (P : Program) (orc : Orc) (rec : EvF) : EvF := { code := evCodeF P rec, call := evCallOF P rec orc, round := evRoundF rec }
def evF (P : Program) (orc : Orc) : Nat → EvF
  | 0 => .bot
  | n + 1 => .step P orc (evF P orc n)

end Go.Ev

/- The faster twin does what the evaluator does. -/
namespace Go.Ev
set_option linter.unusedSectionVars false
variable [Rho]

variable {P : Program} {look : Operand → Option AV} {ts : List AV}

theorem lookAll_eq : ∀ {xs : List Operand}, (∀ x ∈ xs, look x = eval ts x) → lookAll look xs = evals ts xs
  | [], _ => rfl
  | x :: xs, h => by
    simp only [lookAll, evals]
    rw [h x (by simp), lookAll_eq (fun y hy => h y (by simp [hy]))]
    rfl

theorem lookParts_eq : ∀ {xs : List (Nat × Operand)}, (∀ x ∈ xs.map (·.2), look x = eval ts x) → lookParts look xs = evalParts ts xs
  | [], _ => rfl
  | (i, x) :: xs, h => by
    simp only [lookParts, evalParts]
    rw [h x (by simp), lookParts_eq (fun y hy => h y (by simp at hy ⊢; exact .inr hy))]
    rfl

theorem lookOpt_eq {x : Option Operand} (h : ∀ y ∈ x.toList, look y = eval ts y) : lookOpt look x = evalOpt ts x := by
  cases x with
  | none => rfl
  | some x => simp only [lookOpt, evalOpt]; rw [h x (by simp)]

theorem pureG_eq {o : Oper} (h : ∀ x ∈ o.op.operands, look x = eval ts x) : pureG P look o = pureOp P ts o := by
  unfold pureG pureOp
  have e1 : (o.op.operands.toList.all fun x => ((look x).bind AV.toV).isSome) = (o.op.operands.toList.all fun x => ((eval ts x).bind AV.toV).isSome) := by
    rw [Bool.eq_iff_iff]
    simp only [List.all_eq_true]
    constructor <;> intro hh x hx
    · rw [← h x (by simpa using hx)]; exact hh x hx
    · rw [h x (by simpa using hx)]; exact hh x hx
  rw [e1]
  split
  · rename_i hc
    rw [execOp_congr (ρ' := fun x => ((eval ts x).bind AV.toV).getD undef) o ?_ ?_]
    · rfl
    · intro cs b e
      rw [e] at hc; simp [plainOp] at hc
    · intro x hx
      rw [h x hx]
  · rfl

theorem fits_in {k : IntKind} {n : Int} (h : fits k n = true) : k.wrap n = n := by
  cases k with
  | i64 =>
    cases n with
    | ofNat m => simp only [fits, Nat.ble_eq] at h; exact IntWalk.i64_in _ (by simp only [Int.ofNat_eq_natCast]; omega)
    | negSucc m => simp only [fits, Nat.ble_eq] at h; exact IntWalk.i64_in _ (by omega)
  | _ => cases h

theorem wrapF_eq (k : IntKind) (n : Int) : wrapF k n = k.wrap n := by
  unfold wrapF
  cases h : fits k n
  · rfl
  · exact (fits_in h).symm

theorem intBinF_eq (op : BinOp) (k : IntKind) (a b : Int) : intBinF op k a b = intBin op k a b := by
  cases op <;> simp only [intBinF, intBin, wrapF_eq]

theorem gVal_eq (x : Option AV) (s : St) : gVal x s = x.map (.val · s 0) := by cases x <;> rfl

theorem evOpG_eq {o : Oper} (h : ∀ x ∈ o.op.operands, look x = eval ts x) (s : St) : evOpG P look o s = evOp P ts o s := by
  have hp := pureG_eq (P := P) h
  cases ho : o.op <;> (try rw [ho] at h) <;> (try simp only [Op.operands] at h) <;> simp only [evOpG, evOp, ho]
  all_goals first
    | (rw [gVal_eq, hp]; done)
    | (rw [gVal_eq, h _ (by simp)]; done)
    | skip
  case pick c a b =>
    rw [h c (by simp)]
    simp only [gPick]
    cases eval ts c with
    | none => rfl
    | some v =>
      cases v <;> try rfl
      rename_i t
      cases t <;> simp only [gVal_eq] <;> rw [h _ (by simp)] <;> rfl
  case alloc t => rfl
  case box t x => rw [h x (by simp)]; rfl
  case build t ps =>
    rw [lookParts_eq (ts := ts) (by simpa using h)]; rfl
  case buildSlice t len ps =>
    rw [lookParts_eq (ts := ts) (by simpa using h)]; rfl
  case load t a => rw [h a (by simp)]; simp only [gLoad]; split <;> (try split) <;> simp_all
  case store t a x => rw [h a (by simp), h x (by simp)]; rfl
  case binOp op xt x y yt =>
    rw [h x (by simp), h y (by simp)]
    have hg : gSym P look o op (eval ts x) (eval ts y) s = (match pureOp P ts o with
        | some v => some v
        | none => match eval ts x, eval ts y with
          | some u, some v => symBinT P o op u v
          | _, _ => none).map (ORes.val · s 0) := by
      simp only [gSym, hp]
      cases pureOp P ts o with
      | some v => rfl
      | none =>
        cases eval ts x <;> cases eval ts y <;> first | rfl | exact gVal_eq _ _
    simp only [gBin, binS, binA, intBinF_eq, hg]
    clear hg
    generalize eval ts x = u
    generalize eval ts y = v
    cases u with
    | none => cases pureOp P ts o <;> rfl
    | some u => cases v with
      | none => cases u <;> cases pureOp P ts o <;> rfl
      | some v =>
        cases u with
        | int k a => cases v with
          | int k' b =>
            simp only []
            by_cases hk : k = k'
            · simp only [hk, if_true]
              cases intBin op k' a b with
              | some v => rfl
              | none => cases pureOp P ts o <;> rfl
            · simp only [hk, if_false]
              cases pureOp P ts o <;> rfl
          | _ => cases pureOp P ts o <;> rfl
        | _ => cases pureOp P ts o <;> rfl
  case convert src dst x =>
    rw [h x (by simp)]
    simp only [gConv, convA, convS, hp]
    cases pureOp P ts o with
    | some v => rfl
    | none => cases eval ts x with
      | none => rfl
      | some u =>
        simp only []
        cases symConv P src dst u with
        | some v => rfl
        | none => cases strA P s src dst u <;> rfl
  case unOp op xt x =>
    rw [h x (by simp)]
    unfold gNot
    split
    · rename_i b hx
      obtain ⟨dst, op', type, pos, after, guard⟩ := o
      simp only at ho
      subst ho
      simp [unS, pureOp, Op.operands, hx, AV.toV, plainOp, execOp]
      cases b <;> rfl
    · simp only [unS, hp]
      cases pureOp P ts o with
      | some v => rfl
      | none =>
        rename_i opx _ _ _
        cases opx <;> cases eval ts x <;> first | rfl | exact gVal_eq _ _
  case makeFunc fn x1 x2 =>
    rw [lookAll_eq (ts := ts) (xs := x1.toList) (fun x hx => h x (by simp at hx; simp [hx])), lookAll_eq (ts := ts) (xs := x2.toList) (fun x hx => h x (by simp at hx; simp [hx]))]
    rfl
  case makeSlice t a b => rw [h a (by simp), h b (by simp)]; rfl
  case slice t x lo hi mx =>
    rw [h x (by simp), lookOpt_eq (ts := ts) (x := lo) (fun y hy => h y (by simp at hy; simp [hy])), lookOpt_eq (ts := ts) (x := hi) (fun y hy => h y (by simp at hy; simp [hy]))]
    simp only [gSlice, gVal_eq, hp]
    rfl
  case nilCheck x => rw [h x (by simp)]; simp only [gNil, gVal_eq, hp]; rfl
  case fieldAddr t x f => rw [h x (by simp)]; rfl
  case indexAddr t x i => rw [h x (by simp), h i (by simp)]; rfl
  case extract x i => rw [h x (by simp)]; rfl
  case call c =>
    simp only [Call.operands] at h
    simp only [gCall]
    rw [lookAll_eq (ts := ts) (xs := c.args.toList) (fun x hx => h x (by simp at hx; simp [hx]))]
    simp only [gVal_eq, hp]
    cases hc : c.callee with
    | builtin b => rfl
    | value f => simp only []; rw [h f (by simp [hc])]; rfl
    | invoke r m => rfl

/-! slots -/
theorem nthD_setNth {α : Type} (d v : α) (l : List α) (i j : Nat) : nthD d (setNth v l i) j = if i = j ∧ i < l.length then v else nthD d l j := by
  rw [nthD_eq, nthD_eq, setNth_eq, List.getElem?_set]
  by_cases e : i = j
  · subst e
    rw [if_pos rfl]
    by_cases hl : i < l.length
    · rw [if_pos hl, if_pos ⟨rfl, hl⟩]; rfl
    · rw [if_neg hl, if_neg (fun q => hl q.2), List.getElem?_eq_none (by omega)]
  · rw [if_neg e, if_neg (fun q => e q.1)]

structure Rel (N : Nat) (t : T3) (ts : List AV) : Prop where
  top : N ≤ 512
  len : ts.length = N
  get : ∀ i, i < N → t.get i = nthD undefA ts i

theorem Rel.sees {N : Nat} {t : T3} (h : Rel N t ts) {x : Operand} (hx : opndIn N x = true) : lookT t x = eval ts x := by
  cases x with
  | tmp n => simp only [opndIn, Nat.blt_eq] at hx; simp only [lookT, eval]; rw [h.get n hx]
  | _ => rfl

theorem Rel.set {N : Nat} {t : T3} (h : Rel N t ts) {d : Nat} (hd : d < N) (v : AV) : Rel N (t.set d v) (setNth v ts d) := by
  refine ⟨h.top, by rw [setNth_eq, List.length_set]; exact h.len, fun i hi => ?_⟩
  have := h.top
  rw [T3.get_set _ _ _ _ (by omega) (by omega), nthD_setNth]
  by_cases e : d = i
  · subst e; rw [if_pos rfl, if_pos ⟨rfl, by rw [h.len]; exact hd⟩]
  · rw [if_neg e, if_neg (fun q => e q.1), h.get i hi]

theorem Rel.put {N : Nat} {t : T3} (h : Rel N t ts) {o : Oper} (ho : operIn N o = true) (v : AV) : Rel N (putT t o.dst v) (put ts o.dst v) := by
  simp only [operIn, Bool.and_eq_true] at ho
  unfold putT Go.Ev.put
  cases hd : o.dst with
  | none => exact h
  | some d => rw [hd] at ho; simp only [Nat.blt_eq] at ho; exact h.set ho.1 v

theorem Rel.op {N : Nat} {t : T3} (h : Rel N t ts) {o : Oper} (ho : operIn N o = true) (s : St) : evOpG P (lookT t) o s = evOp P ts o s := by
  simp only [operIn, Bool.and_eq_true, List.all_eq_true] at ho
  exact evOpG_eq (fun x hx => h.sees (ho.2 x (by simpa using hx))) s

theorem Rel.wanted {N : Nat} {t : T3} (h : Rel N t ts) {ops : List Oper} (hops : ∀ o ∈ ops, operIn N o = true) (o : Oper) : wantedF ops o t = wantedA ops o ts := by
  unfold wantedF wantedA
  cases hg : o.guard with
  | none => rfl
  | some g =>
    obtain ⟨j, want⟩ := g
    simp only []
    cases hj : ops[j]? with
    | none => rfl
    | some oj =>
      simp only [Option.bind_some]
      cases hd : oj.dst with
      | none => rfl
      | some d =>
        have := hops oj (List.mem_of_getElem? hj)
        simp only [operIn, hd, Bool.and_eq_true, Nat.blt_eq] at this
        have hl : d < ts.length := by rw [h.len]; exact this.1
        simp only [h.get d this.1, nthD_eq, List.getElem?_eq_getElem hl, Option.getD_some]
        cases ts[d] <;> rfl

theorem Rel.toL {N : Nat} {t : T3} (h : Rel N t ts) : toL t N = ts := by
  have aux : ∀ n i, toLFrom t i n = (List.range' i n).map t.get := by
    intro n
    induction n with
    | zero => intro i; rfl
    | succ n ih => intro i; simp only [toLFrom, ih, List.range'_succ, List.map_cons]
  unfold Go.Ev.toL
  rw [aux]
  apply List.ext_getElem
  · simp [h.len]
  · intro i h1 h2
    simp only [List.getElem_map, List.getElem_range', Nat.zero_add, Nat.one_mul]
    rw [h.get i (by rw [← h.len]; exact h2), nthD_eq, List.getElem?_eq_getElem h2]; rfl

theorem Rel.ofL {N : Nat} {ts : List AV} (h : N ≤ 512) (hl : ts.length = N) : Rel N (ofL ts) ts := ⟨h, hl, fun i hi => get_ofL ts i (by omega)⟩

/-! what the twin does, the evaluator does -/
def Sim (N : Nat) (r : Option (AExit × T3 × St)) (r' : Option (AExit × List AV × St)) : Prop :=
  ∀ e t s, r = some (e, t, s) → ∃ ts, Rel N t ts ∧ r' = some (e, ts, s)

structure SimAll (F : EvF) (E : Ev) : Prop where
  code : ∀ N c t ts s, codeIn N c = true → Rel N t ts → Sim N (F.code N c t s) (E.code c ts s)
  call : ∀ f args s r, F.call f args s = some r → E.call f args s = some r
  round : ∀ l args s r, F.round l args s = some r → E.round l args s = some r

variable {F : EvF} {E : Ev}

theorem oneF_sim (hs : SimAll F E) {N : Nat} {t : T3} (h : Rel N t ts) {o : Oper} (ho : operIn N o = true) {s : St} {r : AV × St} (hr : evOneF P F o t s = some r) : evOneV P E o ts s = some r := by
  unfold evOneF at hr
  unfold evOneV
  rw [h.op ho] at hr
  split at hr
  · rename_i v s' c e; rw [e]; exact hr
  · rename_i f args e
    rw [e]
    simp only []
    split at hr
    · rename_i v s' q e2; rw [hs.call _ _ _ _ e2]; exact hr
    · cases hr
  · rename_i l args e
    rw [e]
    simp only []
    split at hr
    · rename_i b s' e2; rw [hs.round _ _ _ _ e2]; exact hr
    · cases hr
  · cases hr

theorem opsF_sim (hs : SimAll F E) {N : Nat} {ops : List Oper} (hops : ∀ o ∈ ops, operIn N o = true) : ∀ (rest : List Oper) (t : T3) (ts : List AV) (s : St) (t' : T3) (s' : St),
    (∀ o ∈ rest, operIn N o = true) → Rel N t ts → evOpsF P F ops rest t s = some (t', s') → ∃ ts', Rel N t' ts' ∧ evOps P E ops rest ts s = some (ts', s')
  | [], t, ts, s, t', s', _, h, hr => by
    simp only [evOpsF, Option.some.injEq, Prod.mk.injEq] at hr
    obtain ⟨rfl, rfl⟩ := hr
    exact ⟨ts, h, rfl⟩
  | o :: rest, t, ts, s, t', s', hin, h, hr => by
    have ho := hin o (by simp)
    have hin' : ∀ o ∈ rest, operIn N o = true := fun x hx => hin x (by simp [hx])
    simp only [evOpsF] at hr
    simp only [evOps]
    rw [h.wanted hops o] at hr
    cases hw : wantedA ops o ts
    · rw [hw] at hr
      simp only [Bool.false_eq_true, if_false]
      exact opsF_sim hs hops rest _ _ s t' s' hin' (h.put ho _) hr
    · rw [hw] at hr
      simp only [if_true]
      simp only [] at hr
      split at hr
      · rename_i v s1 e
        rw [oneF_sim hs h ho e]
        exact opsF_sim hs hops rest _ _ s1 t' s' hin' (h.put ho _) hr
      · cases hr

theorem stepF_sim (hs : SimAll F E) {N : Nat} {t : T3} (h : Rel N t ts) {o : Oper} (ho : operIn N o = true) {s : St} {m h0 : Nat} {own : List Nat} {r : AV × St × Nat} (hr : stepF P F o t s m h0 own = some r) : stepN P E o ts s m h0 own = some r := by
  unfold stepF at hr
  unfold stepN
  rw [h.op ho] at hr
  split at hr
  · rename_i v s' c e
    rw [e]
    simp only []
    split at hr
    · rename_i hp; rw [if_pos hp]; exact hr
    · rename_i hp
      rw [if_neg hp]
      split at hr
      · rename_i ha; rw [if_pos ha]; exact hr
      · rename_i ha
        rw [if_neg ha]
        split at hr
        · rename_i ty x hop
          have hx : opndIn N x = true := by
            simp only [operIn, Bool.and_eq_true, List.all_eq_true] at ho
            exact ho.2 x (by rw [hop]; simp [Op.operands])
          simp only [hop]
          rw [h.sees hx] at hr
          exact hr
        · cases hr
  · rename_i f args e
    rw [e]
    simp only []
    split at hr
    · rename_i hck
      rw [if_pos hck]
      split at hr
      · rename_i v s1 q e2; rw [hs.call _ _ _ _ e2]; exact hr
      · cases hr
    · cases hr
  · cases hr

theorem blkF_sim {N : Nat} {t : T3} (h : Rel N t ts) {o : Oper} (ho : operIn N o = true) : blkF t o = blkOf ts o := by
  have hx : ∀ x, x ∈ o.op.operands.toList → lookT t x = eval ts x := fun x hx => by
    simp only [operIn, Bool.and_eq_true, List.all_eq_true] at ho
    exact h.sees (ho.2 x hx)
  unfold blkF blkOf
  cases hop : o.op with
  | load ty x =>
    simp only []
    rw [hx x (by rw [hop]; simp [Op.operands])]
    rfl
  | store ty x y =>
    simp only []
    rw [hx x (by rw [hop]; simp [Op.operands])]
    rfl
  | _ => rfl

theorem addLateF_sim {N : Nat} {t : T3} (h : Rel N t ts) {o : Oper} (ho : operIn N o = true) (late : Bool) (lt : List Nat) : addLateF late t o lt = addLate late ts o lt := by
  unfold addLateF addLate
  rw [blkF_sim h ho]
  cases late <;> cases isLoad o.op <;> rfl

theorem drawF_sim (hs : SimAll F E) {N : Nat} {ops : List Oper} (k h0 : Nat) (ms : List Nat) (hops : ∀ o ∈ ops, operIn N o = true) : ∀ (i : Nat) (rest : List Oper) (t : T3) (ts : List AV) (s : St) (own lt : List Nat) (wr : Option (Option Nat)) (t' : T3) (s' : St),
    (∀ o ∈ rest, operIn N o = true) → Rel N t ts → evDrawF P F ops k h0 ms i rest t s own lt wr = some (t', s') → ∃ ts', Rel N t' ts' ∧ evDraw P E ops k h0 ms i rest ts s own lt wr = some (ts', s')
  | _, [], t, ts, s, own, lt, wr, t', s', _, h, hr => by
    simp only [evDrawF] at hr
    simp only [evDraw]
    split at hr
    · rename_i hl
      rw [if_pos hl]
      simp only [Option.some.injEq, Prod.mk.injEq] at hr
      obtain ⟨rfl, rfl⟩ := hr
      exact ⟨ts, h, rfl⟩
    · cases hr
  | i, o :: rest, t, ts, s, own, lt, wr, t', s', hin, h, hr => by
    have ho := hin o (by simp)
    have hin' : ∀ o ∈ rest, operIn N o = true := fun x hx => hin x (by simp [hx])
    simp only [evDrawF] at hr
    simp only [evDraw]
    rw [h.wanted hops o] at hr
    cases hw : wantedA ops o ts
    · rw [hw] at hr
      simp only [Bool.false_eq_true, if_false]
      exact drawF_sim hs k h0 ms hops (i + 1) rest _ _ s own lt wr t' s' hin' (h.put ho _) hr
    · rw [hw] at hr
      simp only [if_true]
      simp only [] at hr
      split at hr
      · rename_i hik
        rw [if_pos hik]
        split at hr
        · rename_i v s1 e
          rw [oneF_sim hs h ho e]
          rw [blkF_sim h ho] at hr
          exact drawF_sim hs k h0 ms hops (i + 1) rest _ _ s1 own lt _ t' s' hin' (h.put ho _) hr
        · cases hr
      · rename_i hik
        rw [if_neg hik]
        split at hr
        · rename_i v s1 n e
          rw [stepF_sim hs h ho e]
          rw [addLateF_sim h ho] at hr
          exact drawF_sim hs k h0 ms hops (i + 1) rest _ _ s1 _ _ wr t' s' hin' (h.put ho _) hr
        · cases hr

theorem effF_sim {N : Nat} {t : T3} (h : Rel N t ts) {o : Oper} (ho : operIn N o = true) (q : Bool) : effF t o q = effOf ts o q := by
  have hx : ∀ x, x ∈ o.op.operands.toList → lookT t x = eval ts x := fun x hx => by
    simp only [operIn, Bool.and_eq_true, List.all_eq_true] at ho
    exact h.sees (ho.2 x hx)
  unfold effF effOf
  cases ha : alS o.op
  · simp only [Bool.false_eq_true, if_false]
    cases hop : o.op with
    | store ty x y =>
      simp only []
      rw [hx x (by rw [hop]; simp [Op.operands])]
      rfl
    | call c =>
      simp only []
      cases hi : isApp (.call c) with
      | none => rfl
      | some x =>
        simp only []
        rw [hx x (by
          rw [hop]
          unfold isApp at hi
          simp only [] at hi
          split at hi
          · rename_i y l hb hl
            simp only [Option.some.injEq] at hi
            subst hi
            have : y ∈ c.args := by rw [← Array.mem_toList_iff, hl]; simp
            simp [Op.operands, Call.operands, this]
          · cases hi)]
    | _ => rfl
  · rfl

theorem oneQF_sim (hs : SimAll F E) {N : Nat} {t : T3} (h : Rel N t ts) {o : Oper} (ho : operIn N o = true) {s : St} {r : AV × St × Bool} (hr : evOneQF P F o t s = some r) : evOneQ P E o ts s = some r := by
  unfold evOneQF at hr
  unfold evOneQ
  rw [h.op ho] at hr
  split at hr
  · rename_i e; rw [e]; exact hr
  · rename_i e; rw [e]; exact hs.call _ _ _ _ hr
  · rename_i e
    rw [e]
    simp only []
    split at hr
    · rename_i e2; rw [hs.round _ _ _ _ e2]; exact hr
    · cases hr
  · cases hr

theorem chainF_sim (hs : SimAll F E) {N : Nat} {ops : List Oper} (ms : List Nat) (hops : ∀ o ∈ ops, operIn N o = true) : ∀ (i : Nat) (rest : List Oper) (t : T3) (ts : List AV) (s : St) (lds : List (Nat × Nat)) (mo : List (Nat × Eff × Nat)) (t' : T3) (s' : St),
    (∀ o ∈ rest, operIn N o = true) → Rel N t ts → evChainF P F ops ms i rest t s lds mo = some (t', s') → ∃ ts', Rel N t' ts' ∧ evChain P E ops ms i rest ts s lds mo = some (ts', s')
  | _, [], t, ts, s, lds, mo, t', s', _, h, hr => by
    simp only [evChainF, Option.some.injEq, Prod.mk.injEq] at hr
    obtain ⟨rfl, rfl⟩ := hr
    exact ⟨ts, h, rfl⟩
  | i, o :: rest, t, ts, s, lds, mo, t', s', hin, h, hr => by
    have ho := hin o (by simp)
    have hin' : ∀ o ∈ rest, operIn N o = true := fun x hx => hin x (by simp [hx])
    simp only [evChainF] at hr
    simp only [evChain]
    rw [h.wanted hops o] at hr
    cases hw : wantedA ops o ts
    · rw [hw] at hr
      simp only [Bool.false_eq_true, if_false]
      exact chainF_sim hs ms hops (i + 1) rest _ _ s lds mo t' s' hin' (h.put ho _) hr
    · rw [hw] at hr
      simp only [if_true]
      simp only [] at hr
      cases hp : pureS o.op
      · rw [hp] at hr
        simp only [Bool.false_eq_true, if_false]
        simp only [] at hr
        cases hl : isLoad o.op
        · rw [hl] at hr
          simp only [Bool.false_eq_true, if_false]
          simp only [] at hr
          split at hr
          · rename_i v s1 q e
            rw [oneQF_sim hs h ho e]
            rw [effF_sim h ho] at hr
            simp only []
            split at hr
            · rename_i hall
              rw [if_pos hall]
              exact chainF_sim hs ms hops (i + 1) rest _ _ s1 lds _ t' s' hin' (h.put ho _) hr
            · cases hr
          · cases hr
        · rw [hl] at hr
          simp only [if_true]
          simp only [] at hr
          rw [h.op ho, blkF_sim h ho] at hr
          split at hr
          · rename_i v s1 c e
            rw [e]
            simp only []
            split at hr
            · rename_i b hb
              rw [hb]
              simp only []
              split at hr
              · rename_i hall
                rw [if_pos hall]
                exact chainF_sim hs ms hops (i + 1) rest _ _ s _ mo t' s' hin' (h.put ho _) hr
              · cases hr
            · cases hr
          · cases hr
      · rw [hp] at hr
        simp only [if_true]
        simp only [] at hr
        rw [h.op ho] at hr
        split at hr
        · rename_i v s1 e
          rw [e]
          exact chainF_sim hs ms hops (i + 1) rest _ _ s lds mo t' s' hin' (h.put ho _) hr
        · cases hr


theorem floatF_sim (hs : SimAll F E) {N : Nat} {ops : List Oper} (ms : List Nat) (h0 h1 : Nat) (hops : ∀ o ∈ ops, operIn N o = true) : ∀ (i c : Nat) (rest : List Oper) (t : T3) (ts : List AV) (s : St) (lds : List (Nat × Nat)) (mo : List (Nat × Eff × Nat)) (t' : T3) (s' : St),
    (∀ o ∈ rest, operIn N o = true) → Rel N t ts → evFloatF P F ops ms h0 h1 i c rest t s lds mo = some (t', s') → ∃ ts', Rel N t' ts' ∧ evFloat P E ops ms h0 h1 i c rest ts s lds mo = some (ts', s')
  | _, _, [], t, ts, s, lds, mo, t', s', _, h, hr => by
    simp only [evFloatF, Option.some.injEq, Prod.mk.injEq] at hr
    obtain ⟨rfl, rfl⟩ := hr
    exact ⟨ts, h, rfl⟩
  | i, c, o :: rest, t, ts, s, lds, mo, t', s', hin, h, hr => by
    have ho := hin o (by simp)
    have hin' : ∀ o ∈ rest, operIn N o = true := fun x hx => hin x (by simp [hx])
    simp only [evFloatF] at hr
    simp only [evFloat]
    rw [h.wanted hops o] at hr
    cases hw : wantedA ops o ts
    · rw [hw] at hr
      simp only [Bool.false_eq_true, if_false]
      simp only [] at hr
      split at hr
      · rename_i ha
        rw [if_pos ha]
        split at hr
        · rename_i hb
          rw [if_pos hb]
          exact floatF_sim hs ms h0 h1 hops (i + 1) (c + 1) rest _ _ s lds mo t' s' hin' (h.put ho _) hr
        · cases hr
      · rename_i ha
        rw [if_neg ha]
        exact floatF_sim hs ms h0 h1 hops (i + 1) c rest _ _ s lds mo t' s' hin' (h.put ho _) hr
    · rw [hw] at hr
      simp only [if_true]
      simp only [] at hr
      cases hp : pureS o.op
      · rw [hp] at hr
        simp only [Bool.false_eq_true, if_false]
        simp only [] at hr
        cases hl : isLoad o.op
        · rw [hl] at hr
          simp only [Bool.false_eq_true, if_false]
          simp only [] at hr
          cases ha : alS o.op
          · rw [ha] at hr
            simp only [Bool.false_eq_true, if_false]
            simp only [] at hr
            split at hr
            · rename_i v s1 q e
              rw [oneQF_sim hs h ho e]
              rw [effF_sim h ho] at hr
              simp only []
              split at hr
              · rename_i hall
                rw [if_pos hall]
                exact floatF_sim hs ms h0 h1 hops (i + 1) c rest _ _ s1 lds _ t' s' hin' (h.put ho _) hr
              · cases hr
            · cases hr
          · rw [ha] at hr
            simp only [if_true]
            simp only [] at hr
            rw [h.op ho] at hr
            split at hr
            · rename_i v A e
              rw [e]
              simp only []
              split at hr
              · rename_i hb
                rw [if_pos hb]
                exact floatF_sim hs ms h0 h1 hops (i + 1) (c + 1) rest _ _ _ lds mo t' s' hin' (h.put ho _) hr
              · cases hr
            · cases hr
        · rw [hl] at hr
          simp only [if_true]
          simp only [] at hr
          rw [h.op ho, blkF_sim h ho] at hr
          split at hr
          · rename_i v s1 c0 e
            rw [e]
            simp only []
            split at hr
            · rename_i b hb
              rw [hb]
              simp only []
              split at hr
              · rename_i hall
                rw [if_pos hall]
                exact floatF_sim hs ms h0 h1 hops (i + 1) c rest _ _ s _ mo t' s' hin' (h.put ho _) hr
              · cases hr
            · cases hr
          · cases hr
      · rw [hp] at hr
        simp only [if_true]
        simp only [] at hr
        rw [h.op ho] at hr
        split at hr
        · rename_i v s1 e
          rw [e]
          exact floatF_sim hs ms h0 h1 hops (i + 1) c rest _ _ s lds mo t' s' hin' (h.put ho _) hr
        · cases hr

theorem codeF_sim (hs : SimAll F E) {N : Nat} {c : Code} {t : T3} {ts : List AV} {s : St} (hc : codeIn N c = true) (h : Rel N t ts) : Sim N (evCodeF P F N c t s) (evCode P E c ts s) := by
  intro e t' s' hr
  cases c with
  | skip => simp only [evCodeF, Option.some.injEq, Prod.mk.injEq] at hr; obtain ⟨rfl, rfl, rfl⟩ := hr; exact ⟨ts, h, rfl⟩
  | label l => simp only [evCodeF, Option.some.injEq, Prod.mk.injEq] at hr; obtain ⟨rfl, rfl, rfl⟩ := hr; exact ⟨ts, h, rfl⟩
  | exit l => simp only [evCodeF, Option.some.injEq, Prod.mk.injEq] at hr; obtain ⟨rfl, rfl, rfl⟩ := hr; exact ⟨ts, h, rfl⟩
  | ret => simp only [evCodeF, Option.some.injEq, Prod.mk.injEq] at hr; obtain ⟨rfl, rfl, rfl⟩ := hr; exact ⟨ts, h, rfl⟩
  | region id ops draw =>
    simp only [codeIn, List.all_eq_true] at hc
    cases draw with
    | false =>
      simp only [evCodeF, fRegion] at hr
      simp only [evCode]
      split at hr
      · rename_i t1 s1 e1
        simp only [Option.some.injEq, Prod.mk.injEq] at hr
        obtain ⟨rfl, rfl, rfl⟩ := hr
        obtain ⟨ts1, h1, e2⟩ := opsF_sim hs hc _ _ _ _ _ _ hc h e1
        exact ⟨ts1, h1, by rw [e2]⟩
      · cases hr
    | true =>
      simp only [evCodeF, fDraw] at hr
      simp only [evCode]
      split at hr
      · rename_i hu
        rw [if_pos hu]
        split at hr
        · rename_i t1 s1 e1
          simp only [Option.some.injEq, Prod.mk.injEq] at hr
          obtain ⟨rfl, rfl, rfl⟩ := hr
          obtain ⟨ts1, h1, e2⟩ := chainF_sim hs _ hc _ _ _ _ _ _ _ _ _ hc h e1
          exact ⟨ts1, h1, by rw [e2]⟩
        · cases hr
      · rename_i hu
        rw [if_neg hu]
        split at hr
        · rename_i hd
          rw [if_pos hd]
          split at hr
          · rename_i t1 s1 e1
            simp only [Option.some.injEq, Prod.mk.injEq] at hr
            obtain ⟨rfl, rfl, rfl⟩ := hr
            obtain ⟨ts1, h1, e2⟩ := drawF_sim hs _ _ _ hc _ _ _ _ _ _ _ _ _ _ hc h e1
            exact ⟨ts1, h1, by rw [e2]⟩
          · cases hr
        · rename_i hd
          rw [if_neg hd]
          split at hr
          · rename_i hf
            rw [if_pos hf]
            split at hr
            · rename_i t1 s1 e1
              simp only [Option.some.injEq, Prod.mk.injEq] at hr
              obtain ⟨rfl, rfl, rfl⟩ := hr
              obtain ⟨ts1, h1, e2⟩ := floatF_sim hs _ _ _ hc _ _ _ _ _ _ _ _ _ _ hc h e1
              exact ⟨ts1, h1, by rw [e2]⟩
            · cases hr
          · cases hr
  | seq a b =>
    simp only [codeIn, Bool.and_eq_true] at hc
    simp only [evCodeF, fSeq] at hr
    simp only [evCode]
    split at hr
    · rename_i r t1 s1 e1
      obtain ⟨ts1, h1, e2⟩ := hs.code N a t ts s hc.1 h _ _ _ e1
      rw [e2]
      exact hs.code N b t1 ts1 s1 hc.2 h1 _ _ _ hr
    · rename_i hn
      obtain ⟨ts1, h1, e2⟩ := hs.code N a t ts s hc.1 h _ _ _ hr
      refine ⟨ts1, h1, ?_⟩
      rw [e2]
      cases e <;> first | rfl | (exact absurd hr (hn _ _))
  | cond c x y =>
    simp only [codeIn, Bool.and_eq_true] at hc
    simp only [evCodeF, fCond] at hr
    simp only [evCode]
    rw [h.sees hc.1] at hr
    split at hr
    · rename_i b e1
      rw [e1]
      cases b
      · exact hs.code N y t ts s hc.2.2 h _ _ _ hr
      · exact hs.code N x t ts s hc.2.1 h _ _ _ hr
    · cases hr
  | block id body =>
    simp only [codeIn] at hc
    simp only [evCodeF, fBlock] at hr
    simp only [evCode]
    split at hr
    · rename_i r id' t1 s1 e1
      obtain ⟨ts1, h1, e2⟩ := hs.code N body t ts s hc h _ _ _ e1
      rw [e2]
      simp only []
      split at hr
      · rename_i hi
        simp only [Option.some.injEq, Prod.mk.injEq] at hr
        obtain ⟨rfl, rfl, rfl⟩ := hr
        exact ⟨ts1, h1, by rw [if_pos hi]⟩
      · rename_i hi
        simp only [Option.some.injEq, Prod.mk.injEq] at hr
        obtain ⟨rfl, rfl, rfl⟩ := hr
        exact ⟨ts1, h1, by rw [if_neg hi]⟩
    · rename_i hn
      obtain ⟨ts1, h1, e2⟩ := hs.code N body t ts s hc h _ _ _ hr
      refine ⟨ts1, h1, ?_⟩
      rw [e2]
      cases e <;> first | rfl | (exact absurd hr (hn _ _ _))
  | loop body =>
    simp only [codeIn] at hc
    simp only [evCodeF, fSeq] at hr
    simp only [evCode]
    split at hr
    · rename_i r t1 s1 e1
      obtain ⟨ts1, h1, e2⟩ := hs.code N body t ts s hc h _ _ _ e1
      rw [e2]
      exact hs.code N (.loop body) t1 ts1 s1 (by simpa only [codeIn] using hc) h1 _ _ _ hr
    · rename_i hn
      obtain ⟨ts1, h1, e2⟩ := hs.code N body t ts s hc h _ _ _ hr
      refine ⟨ts1, h1, ?_⟩
      rw [e2]
      cases e <;> first | rfl | (exact absurd hr (hn _ _))
  | rangeFunc f ps assign body =>
    simp only [codeIn, Bool.and_eq_true] at hc
    simp only [evCodeF, fRange] at hr
    simp only [evCode]
    rw [h.sees hc.1, h.toL] at hr
    split at hr
    · rename_i g l1 l2 e1
      rw [e1]
      simp only []
      split at hr
      · rename_i v s1 q e2
        rw [hs.call _ _ _ _ e2]
        simp only []
        split at hr
        · rename_i e3
          simp only [Option.some.injEq, Prod.mk.injEq] at hr
          obtain ⟨rfl, rfl, rfl⟩ := hr
          exact ⟨ts, h, by rw [e3]⟩
        · rename_i e3
          simp only [Option.some.injEq, Prod.mk.injEq] at hr
          obtain ⟨rfl, rfl, rfl⟩ := hr
          exact ⟨ts, h, by rw [e3]⟩
        · rename_i e3
          simp only [Option.some.injEq, Prod.mk.injEq] at hr
          obtain ⟨rfl, rfl, rfl⟩ := hr
          exact ⟨ts, h, by rw [e3]⟩
        · cases hr
      · cases hr
    · cases hr
  | _ => cases hr

theorem results_sim {N : Nat} {t : T3} (h : Rel N t ts) {fn : Func} (hf : fn.results.toList.all (resIn N) = true) (s : St) : resultsF P fn t s = resultsA P fn ts s := by
  have aux : ∀ l : List ResultVar, l.all (resIn N) = true → optMap (resultF P t s) l = optMap (resultA P ts s) l := by
    intro l
    induction l with
    | nil => intro _; rfl
    | cons r l ih =>
      intro hl
      simp only [List.all_cons, Bool.and_eq_true] at hl
      have e1 : resultF P t s r = resultA P ts s r := by
        cases r with
        | tmp n => have := hl.1; simp only [resIn, Nat.blt_eq] at this; simp only [resultF, resultA, h.get n this]
        | cell a ty => have := hl.1; simp only [resIn, Nat.blt_eq] at this; simp only [resultF, resultA, h.get a this]; rfl
      simp only [optMap, e1, ih hl.2]
  unfold resultsF resultsA
  rw [aux _ hf]
  rfl

theorem end_sim {N : Nat} {t : T3} (h : Rel N t ts) {fn : Func} (hf : fn.results.toList.all (resIn N) = true) {s s1 : St} : fEnd P s fn t s1 = (match resultsA P fn ts s1 with
        | some v =>
          if s.heap.length ≤ s1.lo && s1.nd == s.nd && v.flat then some (v, s, true)
          else some (v, { s1 with lo := min s.lo s1.lo }, false)
        | none => none) := by
  unfold fEnd
  rw [results_sim h hf]
  rfl

theorem callF_sim (hs : SimAll F E) {f : FuncId} {args : List AV} {s : St} {r : AV × St × Bool} (hr : evCallF P F f args s = some r) : evCall P E f args s = some r := by
  unfold evCallF at hr
  unfold evCall
  split at hr
  · cases hr
  · rename_i fn e1
    rw [e1]
    simp only []
    split at hr
    · cases hr
    · rename_i c e2
      rw [e2]
      simp only []
      split at hr
      · rename_i hc
        simp only [Bool.and_eq_true, funcIn, Nat.ble_eq] at hc
        unfold fLeave at hr
        have hR : Rel fn.ntmps (ofL (args ++ List.replicate (fn.ntmps - args.length) undefA)) (args ++ List.replicate (fn.ntmps - args.length) undefA) :=
          Rel.ofL hc.1.1 (by simp; omega)
        split at hr
        · rename_i t s1 e3
          obtain ⟨ts1, h1, e4⟩ := hs.code _ _ _ _ _ hc.1.2.1 hR _ _ _ e3
          rw [e4]
          rw [end_sim h1 hc.1.2.2] at hr
          exact hr
        · rename_i t s1 e3
          obtain ⟨ts1, h1, e4⟩ := hs.code _ _ _ _ _ hc.1.2.1 hR _ _ _ e3
          rw [e4]
          rw [end_sim h1 hc.1.2.2] at hr
          exact hr
        · cases hr
      · cases hr

theorem callOF_sim (orc : Orc) (hs : SimAll F E) {f : FuncId} {args : List AV} {s : St} {r : AV × St × Bool} (hr : evCallOF P F orc f args s = some r) : evCallO P orc E f args s = some r := by
  unfold evCallOF at hr
  unfold evCallO
  split at hr
  · rename_i v e; rw [e]; exact hr
  · rename_i e; rw [e]; exact callF_sim hs hr

theorem putParams_len : ∀ (ps : List Tmp) (ts : List AV) (vs : List AV), (putParams ts ps vs).length = ts.length
  | [], _, _ => by simp only [putParams]
  | _ :: _, _, [] => by simp only [putParams]
  | p :: ps, ts, v :: vs => by simp only [putParams]; rw [putParams_len ps, setNth_eq, List.length_set]

theorem roundF_sim (hs : SimAll F E) {l : Nat} {args : List AV} {s : St} {r : Bool × St} (hr : evRoundF F l args s = some r) : evRound E l args s = some r := by
  unfold evRoundF at hr
  unfold evRound
  split at hr
  · rename_i tmps params assign body e1
    rw [e1]
    simp only [forceNat_eq] at hr
    simp only []
    split at hr
    · rename_i hc
      simp only [Bool.and_eq_true, decide_eq_true_eq, Nat.ble_eq] at hc
      rw [if_pos hc.1]
      have hR : Rel tmps.length (ofL (putParams tmps params args)) (putParams tmps params args) := Rel.ofL hc.2.1 (putParams_len _ _ _)
      split at hr
      · rename_i t1 s1 e2
        obtain ⟨ts1, h1, e3⟩ := hs.code _ _ _ _ _ hc.2.2.1 hR _ _ _ e2
        rw [e3]
        simp only []
        split at hr
        · rename_i e4
          rw [e4]
          simp only []
          split at hr
          · rename_i e t2 s2 e5
            obtain ⟨ts2, h2, e6⟩ := hs.code _ _ _ _ _ hc.2.2.2 h1 _ _ _ e5
            rw [e6]
            exact hr
          · cases hr
        · cases hr
      · cases hr
    · cases hr
  · cases hr

theorem evF_sim (P : Program) (orc : Orc) : ∀ n, SimAll (evF P orc n) (ev P orc n)
  | 0 => { code := fun _ _ _ _ _ _ _ _ _ _ h => by cases h
           call := fun _ _ _ _ h => by cases h
           round := fun _ _ _ _ h => by cases h }
  | n + 1 => ⟨fun _ _ _ _ _ hc h => codeF_sim (evF_sim P orc n) hc h, fun _ _ _ _ h => callOF_sim orc (evF_sim P orc n) h, fun _ _ _ _ h => roundF_sim (evF_sim P orc n) h⟩

end Go.Ev
