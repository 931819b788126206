/- The evaluator: abstract values, their relation to the model's values, worlds. -/
import Derived.RangeFuncNested
import Derived.RangeFuncLeaves
import Derived.Shelf.Abstract
import Derived.WalkKit
import Derived.IntWalk
namespace Go.Ev
open Go.RowKit (Below)
inductive SOp where
 | add
 | sub
 | mul
 | quo
 | rem
def SOp.app : SOp → Int → Int → Int
 | .add,a,b=>a + b
 | .sub,a,b=>a - b
 | .mul,a,b=>a * b
 | .quo,a,b=>a.tdiv b
 | .rem,a,b=>a.tmod b
class Rho where
 ρ : Nat → Int
def wapp (op : BinOp) (k : IntKind) (a b : Int) : Int:=
 match op with
 | .add=>k.wrap (a + b)
 | .sub=>k.wrap (a - b)
 | .mul=>k.wrap (a * b)
 | .and=>k.wrap (BitVec.ofInt k.bits a &&& BitVec.ofInt k.bits b).toNat
 | .or=>k.wrap (BitVec.ofInt k.bits a ||| BitVec.ofInt k.bits b).toNat
 | .xor=>k.wrap (BitVec.ofInt k.bits a ^^^ BitVec.ofInt k.bits b).toNat
 | .andNot=>k.wrap (BitVec.ofInt k.bits a &&& ~~~BitVec.ofInt k.bits b).toNat
 | .shl=>k.wrap (a * 2 ^ min b.toNat k.bits)
 | .shr=>a.fdiv (2 ^ min b.toNat k.bits)
 | _=>k.wrap a
inductive SX where
 | lit (n : Int)
 | var (i : Nat) (lo hi : Int)
 | bin (o : SOp) (a b : SX)
 | wop (op : BinOp) (k : IntKind) (a b : SX)
 | free (i : Nat)
set_option linter.unusedSectionVars false
variable [Rho]
def SX.eval : SX → Int
 | .lit n=>n
 | .var i _ _=>Rho.ρ i
 | .bin o a b=>o.app a.eval b.eval
 | .wop op k a b=>wapp op k a.eval b.eval
 | .free i=>Rho.ρ i
def SX.ok : SX → Prop
 | .lit _=>True
 | .var i lo hi=>lo ≤ Rho.ρ i ∧ Rho.ρ i ≤ hi
 | .bin _ a b=>a.ok ∧ b.ok
 | .wop _ _ a b=>a.ok ∧ b.ok
 | .free _=>True
def krange : IntKind → Int × Int
 | .i8=>(-128,127)
 | .i16=>(-32768,32767)
 | .i32=>(-2147483648,2147483647)
 | .i64=>(-9223372036854775808,9223372036854775807)
 | .u8=>(0,255)
 | .u16=>(0,65535)
 | .u32=>(0,4294967295)
 | .u64=>(0,18446744073709551615)
theorem wrap_rng (k : IntKind) (n : Int) : (krange k).1 ≤ k.wrap n ∧ k.wrap n ≤ (krange k).2:=by
 cases k <;> simp [IntKind.wrap,IntKind.bits,IntKind.signed,krange] <;> constructor <;> (try split) <;> omega
def wrng (op : BinOp) (k : IntKind) : Option (Int × Int):=
 match op with
 | .shr=>none
 | _=>some (krange k)
theorem wrng_ok {op : BinOp} {k : IntKind} {l h a b : Int} (e : wrng op k = some (l,h)) : l ≤ wapp op k a b ∧ wapp op k a b ≤ h:=by
 have e1 : op ≠ .shr → krange k = (l,h):=fun hn=>by cases op <;> simp only [wrng,Option.some.injEq,reduceCtorEq] at e <;> first | exact e | exact absurd rfl hn
 cases op <;> first
  | (simp [wrng] at e; done)
  | (have e2:=e1 (by decide); have g:=wrap_rng k; rw [e2] at g; simp only [wapp]; exact g _)
inductive AV where
 | bool (b : Bool)
 | int (k : IntKind) (n : Int)
 | sym (k : IntKind) (e : SX) (lo hi : Int)
 | str (s : ByteArray)
 | ptr (b off : Nat)
 | nilPtr
 | slice (b off len cap : Nat) (ex : Bool) (es : Nat)
 | nilSlice
 | fn (f : FuncId) (first captured : List AV)
 | yield (l : Nat)
 | nilFn
 | nilIface
 | iface (t : TypeId) (v : AV)
 | agg (cs : List AV)
 | tup (vs : List AV)
 | top
 | sls (b : Nat) (off len cap : SX) (ex : Bool)
 | sptr (b : Nat) (e : SX)
inductive EK where
 | int (k : IntKind)
 | bool
deriving DecidableEq
def lix (k i : Nat) : Nat:=1000000 + (i * 1000 + k)
def llen (k : Nat) : Nat:=(Rho.ρ (lix k 0)).toNat
def lskip (k : Nat) : Nat:=(Rho.ρ (lix k 1)).toNat
def lel (k i : Nat) : Int:=Rho.ρ (lix k (i + 2))
def EK.val (d : EK) (n : Int) : Value:=match d with
 | .int k=>.int k n
 | .bool=>.bool (decide (n ≠ 0))
def lval (k : Nat) (d : EK) (i : Nat) : Value:=d.val (lel k i)
inductive Desc where
 | cells (l : List AV)
 | lst (k : Nat) (off len : SX)
class Know where
 cmp : BinOp → SX → SX → Option Bool
 cell : Nat → EK → SX → Option AV
 put : Nat → EK → SX → AV → Option Nat
 app : EK → Desc → Desc → Option Nat
 rep : EK → SX → Option Nat
 cpy : EK → Nat → SX → SX → Desc → Option (SX × Nat)
def cmpI (op : BinOp) (x y : Int) : Option Bool:=
 match op with
 | .lss=>some (decide (x < y))
 | .leq=>some (decide (x ≤ y))
 | .gtr=>some (decide (x > y))
 | .geq=>some (decide (x ≥ y))
 | .eql=>some (x == y)
 | .neq=>some (x != y)
 | _=>none
structure SlOk (off len cap : SX) : Prop where
 o1 : off.ok
 o2 : len.ok
 o3 : cap.ok
 n1 : 0 ≤ off.eval
 n2 : 0 ≤ len.eval
 n3 : len.eval ≤ cap.eval
abbrev undefA : AV:=.tup []
def AV.cells : AV → List AV
 | .agg l=>l
 | v=>[v]
abbrev Inj:=Nat → Option (Nat × Nat)
inductive VR (π : Inj) (lm : List Nat) : AV → Value → Prop
 | bool (b : Bool) : VR π lm (.bool b) (.bool b)
 | int (k : IntKind) (n : Int) : VR π lm (.int k n) (.int k n)
 | sym {k : IntKind} {e : SX} {lo hi : Int} (h0 : e.ok) (h1 : lo ≤ e.eval) (h2 : e.eval ≤ hi) : VR π lm (.sym k e lo hi) (.int k e.eval)
 | str (s : ByteArray) : VR π lm (.str s) (.string s)
 | ptr {b b' n off : Nat} (h : π b = some (b',n)) : VR π lm (.ptr b off) (.pointer (some ⟨b',off,none⟩))
 | nilPtr : VR π lm .nilPtr (.pointer none)
 | sliceEx {b b' n off len cap es : Nat} (h : π b = some (b',n)) : VR π lm (.slice b off len cap true es) (.slice (some ⟨b',off,none⟩) len cap)
 | sliceIn {b b' n off len cap cap' es : Nat} (h : π b = some (b',n)) (hc : cap ≤ cap') (hn : off + cap' * es = n) :
   VR π lm (.slice b off len cap false es) (.slice (some ⟨b',off,none⟩) len cap')
 | nilSlice : VR π lm .nilSlice (.slice none 0 0)
 | fn (f : FuncId) {l1 l2 : List AV} {a1 a2 : Array Value} (s1 : l1.length = a1.toList.length)
   (h1 : ∀ i (p : i < l1.length) (q : i < a1.toList.length),VR π lm l1[i] a1.toList[i]) (s2 : l2.length = a2.toList.length)
   (h2 : ∀ i (p : i < l2.length) (q : i < a2.toList.length),VR π lm l2[i] a2.toList[i]) : VR π lm (.fn f l1 l2) (.func (.func f) a1 a2)
 | yield {l L : Nat} (h : lm[l]? = some L) : VR π lm (.yield l) (.func (.yield L) #[] #[])
 | nilFn : VR π lm .nilFn .nilFunc
 | nilIface : VR π lm .nilIface .nilIface
 | iface (t : TypeId) {v : AV} {c : Value} (h : VR π lm v c) : VR π lm (.iface t v) (.iface t c)
 | agg {l : List AV} {a : Array Value} (s : l.length = a.toList.length)
   (h : ∀ i (p : i < l.length) (q : i < a.toList.length),VR π lm l[i] a.toList[i]) : VR π lm (.agg l) (.agg a)
 | tup {l : List AV} {a : Array Value} (s : l.length = a.toList.length)
   (h : ∀ i (p : i < l.length) (q : i < a.toList.length),VR π lm l[i] a.toList[i]) : VR π lm (.tup l) (.tuple a)
 | top {c : Value} (h : c.cells = #[c]) (hb : ∀ b,c ≠ .bool b) : VR π lm .top c
 | slsEx {b b' n : Nat} {off len cap : SX} (o : SlOk off len cap) (h : π b = some (b',n)) : VR π lm (.sls b off len cap true) (.slice (some ⟨b',off.eval.toNat,none⟩) len.eval.toNat cap.eval.toNat)
 | slsIn {b b' n cap' : Nat} {off len cap : SX} (o : SlOk off len cap) (h : π b = some (b',n)) (hc : cap.eval.toNat ≤ cap') (hn : off.eval.toNat + cap' * 1 = n) :
   VR π lm (.sls b off len cap false) (.slice (some ⟨b',off.eval.toNat,none⟩) len.eval.toNat cap')
 | sptr {b b' n : Nat} {e : SX} (o : e.ok) (n1 : 0 ≤ e.eval) (h : π b = some (b',n)) : VR π lm (.sptr b e) (.pointer (some ⟨b',e.eval.toNat,none⟩))
def LR (π : Inj) (lm : List Nat) (l : List AV) (vs : List Value) : Prop:=
 l.length = vs.length ∧ ∀ i (p : i < l.length) (q : i < vs.length),VR π lm l[i] vs[i]
theorem LR.nil {π : Inj} {lm : List Nat} : LR π lm [] []:=⟨rfl,fun i p=>by simp at p⟩
theorem LR.cons {π : Inj} {lm : List Nat} {v : AV} {c : Value} {l : List AV} {vs : List Value} (h : VR π lm v c) (t : LR π lm l vs) : LR π lm (v :: l) (c :: vs):=
 ⟨by simp [t.1],fun i p q=>by
  cases i with
  | zero=>exact h
  | succ i=>exact t.2 i (by simpa using p) (by simpa using q)⟩
theorem LR.uncons {π : Inj} {lm : List Nat} {v : AV} {l : List AV} {vs : List Value} (h : LR π lm (v :: l) vs) : ∃ c ws,vs = c :: ws ∧ VR π lm v c ∧ LR π lm l ws:=by
 obtain ⟨hs,h⟩:=h
 cases vs with
 | nil=>simp at hs
 | cons c ws =>
  refine ⟨c,ws,rfl,h 0 (by simp) (by simp),by simpa using hs,fun i p q=>?_⟩
  exact h (i + 1) (by simpa using p) (by simpa using q)
theorem LR.nil_inv {π : Inj} {lm : List Nat} {vs : List Value} (h : LR π lm [] vs) : vs = []:=by
 have:=h.1; simp at this; exact List.eq_nil_of_length_eq_zero this.symm
theorem LR.get {π : Inj} {lm : List Nat} {l : List AV} {vs : List Value} (h : LR π lm l vs) {i : Nat} {v : AV} (hv : l[i]? = some v) : ∃ c,vs[i]? = some c ∧ VR π lm v c:=by
 obtain ⟨p,rfl⟩:=List.getElem?_eq_some_iff.1 hv
 have q : i < vs.length:=h.1 ▸ p
 exact ⟨vs[i],List.getElem?_eq_getElem q,h.2 i p q⟩
theorem LR.none {π : Inj} {lm : List Nat} {l : List AV} {vs : List Value} (h : LR π lm l vs) {i : Nat} (hv : l[i]? = .none) : vs[i]? = .none:=by
 rw [List.getElem?_eq_none_iff] at hv ⊢; exact h.1 ▸ hv
theorem LR.append {π : Inj} {lm : List Nat} {l1 l2 : List AV} {v1 v2 : List Value} (h1 : LR π lm l1 v1) (h2 : LR π lm l2 v2) : LR π lm (l1 ++ l2) (v1 ++ v2):=by
 induction l1 generalizing v1 with
 | nil=>rw [h1.nil_inv]; exact h2
 | cons v l ih =>
  obtain ⟨c,ws,rfl,hv,ht⟩:=h1.uncons
  exact LR.cons hv (ih ht)
theorem LR.set {π : Inj} {lm : List Nat} {l : List AV} {vs : List Value} (h : LR π lm l vs) (i : Nat) {v : AV} {c : Value} (hv : VR π lm v c) : LR π lm (l.set i v) (vs.set i c):=by
 refine ⟨by simp [h.1],fun j p q=>?_⟩
 simp only [List.getElem_set]
 split
 ·exact hv
 ·exact h.2 j (by simpa using p) (by simpa using q)
theorem LR.drop {π : Inj} {lm : List Nat} {l : List AV} {vs : List Value} (h : LR π lm l vs) (n : Nat) : LR π lm (l.drop n) (vs.drop n):=by
 refine ⟨by simp [h.1],fun j p q=>?_⟩
 simp only [List.getElem_drop]
 exact h.2 _ _ _
theorem LR.take {π : Inj} {lm : List Nat} {l : List AV} {vs : List Value} (h : LR π lm l vs) (n : Nat) : LR π lm (l.take n) (vs.take n):=by
 refine ⟨by simp [h.1],fun j p q=>?_⟩
 simp only [List.getElem_take]
 exact h.2 _ _ _
theorem LR.replicate {π : Inj} {lm : List Nat} {v : AV} {c : Value} (h : VR π lm v c) (n : Nat) : LR π lm (List.replicate n v) (List.replicate n c):=
 ⟨by simp,fun i p q=>by rw [List.getElem_replicate,List.getElem_replicate]; exact h⟩
def Inj.le (π π' : Inj) : Prop:=∀ i x,π i = some x → π' i = some x
theorem Inj.le_refl (π : Inj) : π.le π:=fun _ _ h=>h
theorem Inj.le.trans {a b c : Inj} (h : a.le b) (k : b.le c) : a.le c:=fun i x hx=>k i x (h i x hx)
theorem VR.mono {π π' : Inj} {lm lm' : List Nat} (hp : π.le π') (hl : ∀ (i x : Nat),lm[i]? = some x → lm'[i]? = some x) {v : AV} {c : Value} (h : VR π lm v c) : VR π' lm' v c:=by
 induction h with
 | bool b=>exact .bool b
 | int k n=>exact .int k n
 | sym h0 h1 h2=>exact .sym h0 h1 h2
 | str s=>exact .str s
 | ptr h=>exact .ptr (hp _ _ h)
 | nilPtr=>exact .nilPtr
 | sliceEx h=>exact .sliceEx (hp _ _ h)
 | sliceIn h hc hn=>exact .sliceIn (hp _ _ h) hc hn
 | nilSlice=>exact .nilSlice
 | fn f s1 _ s2 _ ih1 ih2=>exact .fn f s1 ih1 s2 ih2
 | yield h=>exact .yield (hl _ _ h)
 | nilFn=>exact .nilFn
 | nilIface=>exact .nilIface
 | iface t _ ih=>exact .iface t ih
 | agg s _ ih=>exact .agg s ih
 | tup s _ ih=>exact .tup s ih
 | top h hb=>exact .top h hb
 | slsEx o h=>exact .slsEx o (hp _ _ h)
 | slsIn o h hc hn=>exact .slsIn o (hp _ _ h) hc hn
 | sptr o n1 h=>exact .sptr o n1 (hp _ _ h)
theorem LR.mono {π π' : Inj} {lm lm' : List Nat} (hp : π.le π') (hl : ∀ (i x : Nat),lm[i]? = some x → lm'[i]? = some x) {l : List AV} {vs : List Value} (h : LR π lm l vs) : LR π' lm' l vs:=
 ⟨h.1,fun i p q=>(h.2 i p q).mono hp hl⟩
theorem VR.cells {π : Inj} {lm : List Nat} {v : AV} {c : Value} (h : VR π lm v c) : LR π lm v.cells c.cells.toList:=by
 cases h with
 | agg s h=>exact ⟨s,h⟩
 | bool b=>exact LR.cons (.bool b) .nil
 | int k n=>exact LR.cons (.int k n) .nil
 | sym h0 h1 h2=>exact LR.cons (.sym h0 h1 h2) .nil
 | str s=>exact LR.cons (.str s) .nil
 | ptr h=>exact LR.cons (.ptr h) .nil
 | nilPtr=>exact LR.cons .nilPtr .nil
 | sliceEx h=>exact LR.cons (.sliceEx h) .nil
 | sliceIn h hc hn=>exact LR.cons (.sliceIn h hc hn) .nil
 | nilSlice=>exact LR.cons .nilSlice .nil
 | fn f s1 h1 s2 h2=>exact LR.cons (.fn f s1 h1 s2 h2) .nil
 | yield h=>exact LR.cons (.yield h) .nil
 | nilFn=>exact LR.cons .nilFn .nil
 | nilIface=>exact LR.cons .nilIface .nil
 | iface t h=>exact LR.cons (.iface t h) .nil
 | tup s h=>exact LR.cons (.tup s h) .nil
 | top h hb=>rw [h]; exact LR.cons (.top h hb) .nil
 | slsEx o h=>exact LR.cons (.slsEx o h) .nil
 | slsIn o h hc hn=>exact LR.cons (.slsIn o h hc hn) .nil
 | sptr o n1 h=>exact LR.cons (.sptr o n1 h) .nil
def AV.sc : AV → Option Value
 | .bool b=>some (.bool b)
 | .int k n=>some (.int k n)
 | .str s=>some (.string s)
 | .nilPtr=>some (.pointer none)
 | .nilSlice=>some (.slice none 0 0)
 | .nilFn=>some .nilFunc
 | .nilIface=>some .nilIface
 | _=>none
def optMap {α β : Type} (f : α → Option β) : List α → Option (List β)
 | []=>some []
 | a :: l=>match f a,optMap f l with
  | some b,some bs=>some (b :: bs)
  | _,_=>none
def AV.toV : AV → Option Value
 | .agg l=>(optMap AV.sc l).map fun vs=>.agg vs.toArray
 | v=>v.sc
def ofSc : Value → Option AV
 | .bool b=>some (.bool b)
 | .int k n=>some (.int k n)
 | .string s=>some (.str s)
 | .pointer none=>some .nilPtr
 | .slice none 0 0=>some .nilSlice
 | .nilFunc=>some .nilFn
 | .nilIface=>some .nilIface
 | _=>none
def ofV : Value → Option AV
 | .agg a=>(optMap ofSc a.toList).map .agg
 | v=>ofSc v
theorem AV.sc_rel {π : Inj} {lm : List Nat} {v : AV} {u c : Value} (h : v.sc = some u) (r : VR π lm v c) : c = u:=by
 cases r <;> simp [AV.sc] at h <;> exact h
theorem optMap_sc_rel {π : Inj} {lm : List Nat} {l : List AV} {vs cs : List Value} (h : optMap AV.sc l = some vs) (r : LR π lm l cs) : cs = vs:=by
 induction l generalizing vs cs with
 | nil=>simp [optMap] at h; rw [r.nil_inv,h]
 | cons v l ih =>
  simp only [optMap] at h
  split at h
  ·rename_i u us hu hus
   obtain ⟨c,ws,rfl,hv,ht⟩:=r.uncons
   simp at h; subst h
   rw [AV.sc_rel hu hv,ih hus ht]
  ·cases h
theorem AV.toV_rel {π : Inj} {lm : List Nat} {v : AV} {u c : Value} (h : v.toV = some u) (r : VR π lm v c) : c = u:=by
 cases r with
 | agg s hr =>
  simp only [AV.toV,Option.map_eq_some_iff] at h
  obtain ⟨vs,h1,rfl⟩:=h
  have:=optMap_sc_rel (π:=π) (lm:=lm) h1 ⟨s,hr⟩
  rw [← this]
 | _=>simp [AV.toV,AV.sc] at h <;> exact h
theorem ofSc_rel {π : Inj} {lm : List Nat} {u : Value} {v : AV} (h : ofSc u = some v) : VR π lm v u:=by
 unfold ofSc at h
 split at h <;> simp at h <;> subst h <;> constructor
theorem optMap_ofSc_rel {π : Inj} {lm : List Nat} {us : List Value} {l : List AV} (h : optMap ofSc us = some l) : LR π lm l us:=by
 induction us generalizing l with
 | nil=>simp [optMap] at h; subst h; exact .nil
 | cons u us ih =>
  simp only [optMap] at h
  split at h
  ·rename_i b bs hb hbs
   simp at h; subst h
   exact LR.cons (ofSc_rel hb) (ih hbs)
  ·cases h
theorem ofV_rel {π : Inj} {lm : List Nat} {u : Value} {v : AV} (h : ofV u = some v) : VR π lm v u:=by
 cases u with
 | agg a =>
  simp only [ofV,Option.map_eq_some_iff] at h
  obtain ⟨l,hl,rfl⟩:=h
  have:=optMap_ofSc_rel (π:=π) (lm:=lm) hl
  exact .agg this.1 this.2
 | _=>exact ofSc_rel h
def rngOp (o : SOp) (l1 h1 l2 h2 : Int) : Option (Int × Int):=
 match o with
 | .add=>some (l1 + l2,h1 + h2)
 | .sub=>some (l1 - h2,h1 - l2)
 | .mul=>if 0 ≤ l1 ∧ 0 ≤ l2 then some (l1 * l2,h1 * h2) else none
 | .quo=>if 0 ≤ l1 ∧ 1 ≤ l2 then some (l1 / h2,h1 / l2) else none
 | .rem=>if 0 ≤ l1 ∧ 1 ≤ l2 then (if h1 < l2 then some (l1,h1) else some (0,h2 - 1)) else none
theorem rngOp_ok {o : SOp} {l1 h1 l2 h2 l h a b : Int} (e : rngOp o l1 h1 l2 h2 = some (l,h)) (a1 : l1 ≤ a) (a2 : a ≤ h1) (b1 : l2 ≤ b) (b2 : b ≤ h2) : l ≤ o.app a b ∧ o.app a b ≤ h:=by
 cases o with
 | add=>simp only [rngOp,Option.some.injEq,Prod.mk.injEq] at e; obtain ⟨rfl,rfl⟩:=e; simp only [SOp.app]; omega
 | sub=>simp only [rngOp,Option.some.injEq,Prod.mk.injEq] at e; obtain ⟨rfl,rfl⟩:=e; simp only [SOp.app]; omega
 | mul =>
  simp only [rngOp] at e
  split at e
  ·rename_i hc
   simp only [Option.some.injEq,Prod.mk.injEq] at e; obtain ⟨rfl,rfl⟩:=e
   exact ⟨Int.mul_le_mul a1 b1 hc.2 (by omega),Int.mul_le_mul a2 b2 (by omega) (by omega)⟩
  ·cases e
 | quo =>
  simp only [rngOp] at e
  split at e
  ·rename_i hc
   simp only [Option.some.injEq,Prod.mk.injEq] at e; obtain ⟨rfl,rfl⟩:=e
   simp only [SOp.app]
   rw [Int.tdiv_eq_ediv_of_nonneg (by omega)]
   constructor
   ·have hb : 0 < b:=by omega
    rw [Int.le_ediv_iff_mul_le hb]
    have q0 : 0 ≤ l1 / h2:=Int.ediv_nonneg hc.1 (by omega)
    have : l1 / h2 * h2 ≤ l1:=Int.ediv_mul_le _ (by omega)
    have:=Int.mul_le_mul_of_nonneg_left b2 q0
    omega
   ·have hl : (0 : Int) < l2:=by omega
    rw [Int.le_ediv_iff_mul_le hl]
    have q0 : 0 ≤ a / b:=Int.ediv_nonneg (by omega) (by omega)
    have : a / b * b ≤ a:=Int.ediv_mul_le _ (by omega)
    have:=Int.mul_le_mul_of_nonneg_left b1 q0
    omega
  ·cases e
 | rem =>
  simp only [rngOp] at e
  split at e
  ·rename_i hc
   simp only [SOp.app]
   rw [Int.tmod_eq_emod_of_nonneg (by omega)]
   split at e
   ·rename_i hl
    simp only [Option.some.injEq,Prod.mk.injEq] at e; obtain ⟨rfl,rfl⟩:=e
    rw [Int.emod_eq_of_lt (by omega) (by omega)]
    exact ⟨a1,a2⟩
   ·simp only [Option.some.injEq,Prod.mk.injEq] at e; obtain ⟨rfl,rfl⟩:=e
    have:=Int.emod_nonneg a (show b ≠ 0 by omega)
    have:=Int.emod_lt_of_pos a (show 0 < b by omega)
    omega
  ·cases e
def SX.rng : SX → Option (Int × Int)
 | .lit n=>some (n,n)
 | .var _ lo hi=>some (lo,hi)
 | .bin o a b=>match a.rng,b.rng with
  | some (l1,h1),some (l2,h2)=>rngOp o l1 h1 l2 h2
  | _,_=>none
 | .wop op k _ _=>wrng op k
 | .free _=>none
theorem SX.rng_ok {e : SX} {l h : Int} (hr : e.rng = some (l,h)) (ho : e.ok) : l ≤ e.eval ∧ e.eval ≤ h:=by
 induction e generalizing l h with
 | lit n=>simp only [SX.rng,Option.some.injEq,Prod.mk.injEq] at hr; simp only [SX.eval]; omega
 | var i lo hi=>simp only [SX.rng,Option.some.injEq,Prod.mk.injEq] at hr; simp only [SX.eval,SX.ok] at ho ⊢; omega
 | bin o a b iha ihb =>
  simp only [SX.rng] at hr
  split at hr
  ·rename_i l1 h1 l2 h2 e1 e2
   have k1:=iha e1 ho.1
   have k2:=ihb e2 ho.2
   exact rngOp_ok hr k1.1 k1.2 k2.1 k2.2
  ·cases hr
 | wop op k a b=>exact wrng_ok hr
 | free i=>cases hr
def splitX : SX → SX → Option (SX × SX × Int × Int)
 | .bin .add (.bin .mul (.lit m') u) r,.lit m =>
  if m' = m ∧ 1 ≤ m then match r.rng with
   | some (lr,hr)=>if 0 ≤ lr ∧ hr < m then some (u,r,lr,hr) else none
   | none=>none
  else none
 | _,_=>none
theorem splitX_ok {a b u r : SX} {lr hr : Int} (h : splitX a b = some (u,r,lr,hr)) (ho : a.ok) (h0 : 0 ≤ a.eval) :
  u.ok ∧ r.ok ∧ lr ≤ r.eval ∧ r.eval ≤ hr ∧ a.eval.tdiv b.eval = u.eval ∧ a.eval.tmod b.eval = r.eval:=by
 unfold splitX at h
 split at h
 ·rename_i m' u' r' m
  split at h
  ·rename_i hm
   obtain ⟨rfl,hm⟩:=hm
   split at h
   ·rename_i l1 h1 e1
    split at h
    ·rename_i hc
     simp only [Option.some.injEq,Prod.mk.injEq] at h
     obtain ⟨rfl,rfl,rfl,rfl⟩:=h
     have k:=SX.rng_ok e1 ho.2
     refine ⟨ho.1.2,ho.2,k.1,k.2,?_,?_⟩
     ·rw [Int.tdiv_eq_ediv_of_nonneg h0]
      simp only [SX.eval,SOp.app]
      rw [Int.add_comm,Int.add_mul_ediv_left _ _ (by omega),Int.ediv_eq_zero_of_lt (by omega) (by omega)]
      omega
     ·rw [Int.tmod_eq_emod_of_nonneg h0]
      simp only [SX.eval,SOp.app]
      rw [Int.add_comm,Int.add_mul_emod_self_left,Int.emod_eq_of_lt (by omega) (by omega)]
    ·cases h
   ·cases h
  ·cases h
 ·cases h
def SX.zero : SX → Bool
 | .lit n=>n == 0
 | _=>false
theorem SX.zero_eval {e : SX} (h : e.zero = true) : e.eval = 0:=by
 cases e <;> simp [SX.zero] at h
 exact h
def addX (a b : SX) : SX:=if a.zero then b else if b.zero then a else .bin .add a b
theorem addX_ok (a b : SX) (ha : a.ok) (hb : b.ok) : (addX a b).ok ∧ (addX a b).eval = a.eval + b.eval:=by
 unfold addX
 split
 ·rename_i h; exact ⟨hb,by rw [SX.zero_eval h]; omega⟩
 ·split
  ·rename_i h; exact ⟨ha,by rw [SX.zero_eval h]; omega⟩
  ·exact ⟨⟨ha,hb⟩,rfl⟩
def splitN : SX → SX → Option (SX × Int × Int)
 | .bin .sub r (.bin .mul (.lit m') u),.lit m =>
  if m' = m ∧ 1 ≤ m then match r.rng,u.rng with
   | some (lr,hr),some (lu,_)=>if -m < lr ∧ hr ≤ 0 ∧ 0 ≤ lu then some (r,lr,hr) else none
   | _,_=>none
  else none
 | _,_=>none
theorem splitN_ok {a b r : SX} {lr hr : Int} (h : splitN a b = some (r,lr,hr)) (ho : a.ok) : r.ok ∧ lr ≤ r.eval ∧ r.eval ≤ hr ∧ a.eval.tmod b.eval = r.eval:=by
 unfold splitN at h
 split at h
 ·rename_i r' m' u' m
  split at h
  ·rename_i hm
   obtain ⟨rfl,hm⟩:=hm
   split at h
   ·rename_i l1 h1 l2 h2 e1 e2
    split at h
    ·rename_i hc
     simp only [Option.some.injEq,Prod.mk.injEq] at h
     obtain ⟨rfl,rfl,rfl⟩:=h
     have k:=SX.rng_ok e1 ho.1
     have j:=SX.rng_ok e2 ho.2.2
     refine ⟨ho.1,k.1,k.2,?_⟩
     show (r'.eval - m' * u'.eval).tmod m' = r'.eval
     have hn : r'.eval - m' * u'.eval = -(-r'.eval + m' * u'.eval):=by omega
     have hp : 0 ≤ m' * u'.eval:=Int.mul_nonneg (by omega) (by omega)
     rw [hn,Int.neg_tmod,Int.tmod_eq_emod_of_nonneg (by omega),Int.add_mul_emod_self_left,Int.emod_eq_of_lt (by omega) (by omega)]
     omega
    ·cases h
   ·cases h
  ·cases h
 ·cases h
def symOp0 (o : SOp) (e1 : SX) (l1 h1 : Int) (e2 : SX) (l2 h2 : Int) : Option (SX × Int × Int):=
 match rngOp o l1 h1 l2 h2 with
 | none=>none
 | some (l,h)=>match o with
  | .add=>some (addX e1 e2,l,h)
  | .rem=>match splitX e1 e2 with
   | some (_,r,lr,hr)=>some (r,lr,hr)
   | none=>if h1 < l2 then some (e1,l1,h1) else some (.bin .rem e1 e2,l,h)
  | .quo=>match splitX e1 e2 with
   | some (u,_,_,_)=>some (u,l,h)
   | none=>some (.bin .quo e1 e2,l,h)
  | .sub=>some (.bin .sub e1 e2,l,h)
  | .mul=>some (.bin .mul e1 e2,l,h)
theorem symOp0_ok {o : SOp} {e1 e2 e : SX} {l1 h1 l2 h2 l h : Int} (hs : symOp0 o e1 l1 h1 e2 l2 h2 = some (e,l,h)) (o1 : e1.ok) (a1 : l1 ≤ e1.eval) (a2 : e1.eval ≤ h1) (o2 : e2.ok) (b1 : l2 ≤ e2.eval) (b2 : e2.eval ≤ h2) :
  e.ok ∧ l ≤ e.eval ∧ e.eval ≤ h ∧ e.eval = o.app e1.eval e2.eval:=by
 unfold symOp0 at hs
 split at hs
 ·cases hs
 ·rename_i l' h' hr
  have k:=rngOp_ok hr a1 a2 b1 b2
  have n1 : (o = .rem ∨ o = .quo) → 0 ≤ l1 ∧ 1 ≤ l2:=fun ho=>by
   rcases ho with rfl | rfl <;> simp only [rngOp] at hr <;> split at hr
   ·assumption
   ·cases hr
   ·assumption
   ·cases hr
  split at hs
  ·simp only [Option.some.injEq,Prod.mk.injEq] at hs
   obtain ⟨rfl,rfl,rfl⟩:=hs
   obtain ⟨m1,m2⟩:=addX_ok e1 e2 o1 o2
   exact ⟨m1,by rw [m2]; exact k.1,by rw [m2]; exact k.2,m2⟩
  ·have n2:=n1 (.inl rfl)
   split at hs
   ·rename_i e3
    simp only [Option.some.injEq,Prod.mk.injEq] at hs
    obtain ⟨rfl,rfl,rfl⟩:=hs
    obtain ⟨m1,m2,m3,m4,m5,m6⟩:=splitX_ok e3 o1 (by omega)
    exact ⟨m2,m3,m4,m6.symm⟩
   ·split at hs
    ·rename_i hl
     simp only [Option.some.injEq,Prod.mk.injEq] at hs
     obtain ⟨rfl,rfl,rfl⟩:=hs
     refine ⟨o1,a1,a2,?_⟩
     simp only [SOp.app]
     rw [Int.tmod_eq_emod_of_nonneg (by omega),Int.emod_eq_of_lt (by omega) (by omega)]
    ·simp only [Option.some.injEq,Prod.mk.injEq] at hs
     obtain ⟨rfl,rfl,rfl⟩:=hs
     exact ⟨⟨o1,o2⟩,k.1,k.2,rfl⟩
  ·have n2:=n1 (.inr rfl)
   split at hs
   ·rename_i e3
    simp only [Option.some.injEq,Prod.mk.injEq] at hs
    obtain ⟨rfl,rfl,rfl⟩:=hs
    obtain ⟨m1,m2,m3,m4,m5,m6⟩:=splitX_ok e3 o1 (by omega)
    simp only [SOp.app] at k
    rw [m5] at k
    exact ⟨m1,k.1,k.2,m5.symm⟩
   ·simp only [Option.some.injEq,Prod.mk.injEq] at hs
    obtain ⟨rfl,rfl,rfl⟩:=hs
    exact ⟨⟨o1,o2⟩,k.1,k.2,rfl⟩
  ·simp only [Option.some.injEq,Prod.mk.injEq] at hs
   obtain ⟨rfl,rfl,rfl⟩:=hs
   exact ⟨⟨o1,o2⟩,k.1,k.2,rfl⟩
  ·simp only [Option.some.injEq,Prod.mk.injEq] at hs
   obtain ⟨rfl,rfl,rfl⟩:=hs
   exact ⟨⟨o1,o2⟩,k.1,k.2,rfl⟩
def mulLo (l1 h1 l2 h2 : Int) : Int:=min (min (l1 * l2) (l1 * h2)) (min (h1 * l2) (h1 * h2))
def mulHi (l1 h1 l2 h2 : Int) : Int:=max (max (l1 * l2) (l1 * h2)) (max (h1 * l2) (h1 * h2))
theorem mul_btw {x lo hi y : Int} (h1 : lo ≤ y) (h2 : y ≤ hi) : min (x * lo) (x * hi) ≤ x * y ∧ x * y ≤ max (x * lo) (x * hi):=by
 rcases Int.le_total 0 x with h | h
 ·have a:=Int.mul_le_mul_of_nonneg_left h1 h
  have b:=Int.mul_le_mul_of_nonneg_left h2 h
  omega
 ·have a:=Int.mul_le_mul_of_nonpos_left h h1
  have b:=Int.mul_le_mul_of_nonpos_left h h2
  omega
theorem mul_corner {l1 h1 l2 h2 a b : Int} (a1 : l1 ≤ a) (a2 : a ≤ h1) (b1 : l2 ≤ b) (b2 : b ≤ h2) : mulLo l1 h1 l2 h2 ≤ a * b ∧ a * b ≤ mulHi l1 h1 l2 h2:=by
 have k:=mul_btw (x:=b) a1 a2
 have k1:=mul_btw (x:=l1) b1 b2
 have k2:=mul_btw (x:=h1) b1 b2
 rw [Int.mul_comm b l1,Int.mul_comm b h1,Int.mul_comm b a] at k
 unfold mulLo mulHi
 omega
def symOp (o : SOp) (e1 : SX) (l1 h1 : Int) (e2 : SX) (l2 h2 : Int) : Option (SX × Int × Int):=
 match symOp0 o e1 l1 h1 e2 l2 h2 with
 | some r=>some r
 | none=>match o with
  | .rem=>match splitN e1 e2 with
   | some r=>some r
   | none=>if 1 ≤ l2 then some (.bin .rem e1 e2,1 - h2,h2 - 1) else none
  | .mul=>some (.bin .mul e1 e2,mulLo l1 h1 l2 h2,mulHi l1 h1 l2 h2)
  | _=>none
theorem symOp_ok {o : SOp} {e1 e2 e : SX} {l1 h1 l2 h2 l h : Int} (hs : symOp o e1 l1 h1 e2 l2 h2 = some (e,l,h)) (o1 : e1.ok) (a1 : l1 ≤ e1.eval) (a2 : e1.eval ≤ h1) (o2 : e2.ok) (b1 : l2 ≤ e2.eval) (b2 : e2.eval ≤ h2) :
  e.ok ∧ l ≤ e.eval ∧ e.eval ≤ h ∧ e.eval = o.app e1.eval e2.eval:=by
 unfold symOp at hs
 split at hs
 ·rename_i r hr
  simp only [Option.some.injEq] at hs
  subst hs
  exact symOp0_ok hr o1 a1 a2 o2 b1 b2
 ·split at hs
  ·split at hs
   ·rename_i r hr
    simp only [Option.some.injEq] at hs
    subst hs
    obtain ⟨m1,m2,m3,m4⟩:=splitN_ok hr o1
    exact ⟨m1,m2,m3,m4.symm⟩
   ·split at hs
    ·rename_i hc
     simp only [Option.some.injEq,Prod.mk.injEq] at hs
     obtain ⟨rfl,rfl,rfl⟩:=hs
     refine ⟨⟨o1,o2⟩,?_,?_,rfl⟩
     ·show 1 - h2 ≤ e1.eval.tmod e2.eval
      rcases Int.le_total 0 e1.eval with hn | hn
      ·have:=Int.tmod_nonneg e2.eval hn; omega
      ·have k:=Int.tmod_lt_of_pos (-e1.eval) (show 0 < e2.eval by omega)
       rw [Int.neg_tmod] at k; omega
     ·show e1.eval.tmod e2.eval ≤ h2 - 1
      have k:=Int.tmod_lt_of_pos e1.eval (show 0 < e2.eval by omega)
      omega
    ·cases hs
  ·simp only [Option.some.injEq,Prod.mk.injEq] at hs
   obtain ⟨rfl,rfl,rfl⟩:=hs
   have k:=mul_corner a1 a2 b1 b2
   exact ⟨⟨o1,o2⟩,k.1,k.2,rfl⟩
  ·cases hs
theorem splitN_ne {a b : SX} {r : SX × Int × Int} (h : splitN a b = some r) : b.eval ≠ 0:=by
 unfold splitN at h
 split at h
 ·split at h
  ·rename_i hm
   show (_ : Int) ≠ 0
   simp only [SX.eval]; omega
  ·cases h
 ·cases h
theorem symOp_ne {o : SOp} {e1 e2 : SX} {l1 h1 l2 h2 : Int} {r : SX × Int × Int} (hs : symOp o e1 l1 h1 e2 l2 h2 = some r) (b1 : l2 ≤ e2.eval) (ho : o = .quo ∨ o = .rem) : e2.eval ≠ 0:=by
 unfold symOp at hs
 split at hs
 ·rename_i r' hr
  unfold symOp0 at hr
  split at hr
  ·cases hr
  ·rename_i hg
   rcases ho with rfl | rfl <;> simp only [rngOp] at hg <;> split at hg
   ·omega
   ·cases hg
   ·omega
   ·cases hg
 ·rcases ho with rfl | rfl
  ·cases hs
  ·simp only at hs
   split at hs
   ·rename_i r' hr
    exact splitN_ne hr
   ·split at hs
    ·omega
    ·cases hs
def SOp.same : SOp → SOp → Bool
 | .add,.add=>true
 | .sub,.sub=>true
 | .mul,.mul=>true
 | .quo,.quo=>true
 | .rem,.rem=>true
 | _,_=>false
theorem SOp.same_ok {a b : SOp} (h : a.same b = true) : a = b:=by cases a <;> cases b <;> first | rfl | cases h
def SX.same : SX → SX → Bool
 | .lit a,.lit b=>decide (a = b)
 | .var i lo hi,.var j lo' hi'=>Nat.beq i j && (decide (lo = lo') && decide (hi = hi'))
 | .bin o a b,.bin o' a' b'=>o.same o' && (a.same a' && b.same b')
 | .wop o k a b,.wop o' k' a' b'=>decide (o = o') && (decide (k = k') && (a.same a' && b.same b'))
 | .free i,.free j=>Nat.beq i j
 | _,_=>false
theorem SX.same_ok : ∀ {a b : SX},a.same b = true → a = b
 | .lit a,.lit b,h=>by simp only [SX.same,decide_eq_true_eq] at h; rw [h]
 | .var i lo hi,.var j lo' hi',h=>by
  simp only [SX.same,Bool.and_eq_true,decide_eq_true_eq,Nat.beq_eq] at h
  rw [h.1,h.2.1,h.2.2]
 | .bin o a b,.bin o' a' b',h=>by
  simp only [SX.same,Bool.and_eq_true] at h
  rw [SOp.same_ok h.1,SX.same_ok h.2.1,SX.same_ok h.2.2]
 | .wop o k a b,.wop o' k' a' b',h=>by
  simp only [SX.same,Bool.and_eq_true,decide_eq_true_eq] at h
  rw [h.1,h.2.1,SX.same_ok h.2.2.1,SX.same_ok h.2.2.2]
 | .free i,.free j,h=>by simp only [SX.same,Nat.beq_eq] at h; rw [h]
 | .lit _,.free _,h=>by cases h
 | .var _ _ _,.free _,h=>by cases h
 | .bin _ _ _,.free _,h=>by cases h
 | .wop _ _ _ _,.free _,h=>by cases h
 | .free _,.lit _,h=>by cases h
 | .free _,.var _ _ _,h=>by cases h
 | .free _,.bin _ _ _,h=>by cases h
 | .free _,.wop _ _ _ _,h=>by cases h
 | .lit _,.wop _ _ _ _,h=>by cases h
 | .var _ _ _,.wop _ _ _ _,h=>by cases h
 | .bin _ _ _,.wop _ _ _ _,h=>by cases h
 | .wop _ _ _ _,.lit _,h=>by cases h
 | .wop _ _ _ _,.var _ _ _,h=>by cases h
 | .wop _ _ _ _,.bin _ _ _,h=>by cases h
 | .lit _,.var _ _ _,h=>by cases h
 | .lit _,.bin _ _ _,h=>by cases h
 | .var _ _ _,.lit _,h=>by cases h
 | .var _ _ _,.bin _ _ _,h=>by cases h
 | .bin _ _ _,.lit _,h=>by cases h
 | .bin _ _ _,.var _ _ _,h=>by cases h
def SX.less (a b : SX) : Option (Int × Int):=
 if a.same b then some (0,0) else
 match b with
 | .bin .add b1 d=>if a.same b1 then d.rng else none
 | .bin .sub b1 d=>if a.same b1 then d.rng.map fun (l,h)=>(-h,-l) else none
 | _=>none
theorem SX.less_ok {a b : SX} {l h : Int} (hb : b.ok) (e : a.less b = some (l,h)) : l ≤ b.eval - a.eval ∧ b.eval - a.eval ≤ h:=by
 unfold SX.less at e
 split at e
 ·rename_i hs
  rw [SX.same_ok hs]
  simp only [Option.some.injEq,Prod.mk.injEq] at e
  omega
 ·split at e
  ·rename_i b1 d
   split at e
   ·rename_i hs
    obtain rfl:=SX.same_ok hs
    have:=SX.rng_ok e hb.2
    simp only [SX.eval,SOp.app]
    omega
   ·cases e
  ·rename_i b1 d
   split at e
   ·rename_i hs
    obtain rfl:=SX.same_ok hs
    simp only [Option.map_eq_some_iff,Prod.mk.injEq] at e
    obtain ⟨⟨l',h'⟩,e1,rfl,rfl⟩:=e
    have:=SX.rng_ok e1 hb.2
    simp only [SX.eval,SOp.app]
    omega
   ·cases e
  ·cases e
def symCmp (op : BinOp) (l1 h1 l2 h2 : Int) : Option Bool:=
 match op with
 | .lss=>if h1 < l2 then some true else if h2 ≤ l1 then some false else none
 | .leq=>if h1 ≤ l2 then some true else if h2 < l1 then some false else none
 | .gtr=>if h2 < l1 then some true else if h1 ≤ l2 then some false else none
 | .geq=>if h2 ≤ l1 then some true else if h1 < l2 then some false else none
 | .eql=>if h1 < l2 ∨ h2 < l1 then some false else if l1 = h1 ∧ l2 = h2 ∧ l1 = l2 then some true else none
 | .neq=>if h1 < l2 ∨ h2 < l1 then some true else if l1 = h1 ∧ l2 = h2 ∧ l1 = l2 then some false else none
 | _=>none
def kin (k : IntKind) (lo hi : Int) : Bool:=
 match k with
 | .i8=>decide (-128 ≤ lo) && decide (hi ≤ 127)
 | .i16=>decide (-32768 ≤ lo) && decide (hi ≤ 32767)
 | .i32=>decide (-2147483648 ≤ lo) && decide (hi ≤ 2147483647)
 | .i64=>decide (-9223372036854775808 ≤ lo) && decide (hi ≤ 9223372036854775807)
 | .u8=>decide (0 ≤ lo) && decide (hi ≤ 255)
 | .u16=>decide (0 ≤ lo) && decide (hi ≤ 65535)
 | .u32=>decide (0 ≤ lo) && decide (hi ≤ 4294967295)
 | .u64=>decide (0 ≤ lo) && decide (hi ≤ 18446744073709551615)
theorem kin_ok {k : IntKind} {lo hi n : Int} (h : kin k lo hi = true) (h1 : lo ≤ n) (h2 : n ≤ hi) : k.wrap n = n:=by
 cases k <;> simp only [kin,Bool.and_eq_true,decide_eq_true_eq] at h
 ·exact IntWalk.i8_in n (by omega)
 ·exact IntWalk.i16_in n (by omega)
 ·exact IntWalk.i32_in n (by omega)
 ·exact IntWalk.i64_in n (by omega)
 ·exact IntWalk.u8_in n (by omega)
 ·exact IntWalk.u16_in n (by omega)
 ·exact IntWalk.u32_in n (by omega)
 ·exact IntWalk.u64_in n (by omega)
def symA : AV → Option (IntKind × SX × Int × Int)
 | .int k n=>some (k,.lit n,n,n)
 | .sym k e lo hi=>some (k,e,lo,hi)
 | _=>none
theorem symA_rel {π : Inj} {lm : List Nat} {v : AV} {c : Value} {k : IntKind} {e : SX} {lo hi : Int} (h : symA v = some (k,e,lo,hi)) (hv : VR π lm v c) : e.ok ∧ lo ≤ e.eval ∧ e.eval ≤ hi ∧ c = .int k e.eval:=by
 cases hv <;> simp only [symA,Option.some.injEq,Prod.mk.injEq,reduceCtorEq] at h
 ·obtain ⟨rfl,rfl,rfl,rfl⟩:=h; exact ⟨trivial,Int.le_refl _,Int.le_refl _,rfl⟩
 ·rename_i h0 h1 h2
  obtain ⟨rfl,rfl,rfl,rfl⟩:=h; exact ⟨h0,h1,h2,rfl⟩
def mkA (k : IntKind) (e : SX) (lo hi : Int) : AV:=if lo = hi then .int k lo else .sym k e lo hi
theorem mkA_rel {π : Inj} {lm : List Nat} {k : IntKind} {e : SX} {lo hi : Int} (h0 : e.ok) (h1 : lo ≤ e.eval) (h2 : e.eval ≤ hi) : VR π lm (mkA k e lo hi) (.int k e.eval):=by
 unfold mkA
 split
 ·rw [show e.eval = lo by omega]; exact .int k lo
 ·exact .sym h0 h1 h2
def sopOf : BinOp → Option SOp
 | .add=>some .add
 | .sub=>some .sub
 | .mul=>some .mul
 | .quo=>some .quo
 | .rem=>some .rem
 | _=>none
def symBin0 (op : BinOp) (x y : AV) : Option AV:=
 match symA x,symA y with
 | some (k,e1,l1,h1),some (k',e2,l2,h2) =>
  if k = k' then match sopOf op with
   | some o=>match symOp o e1 l1 h1 e2 l2 h2 with
    | some (e,l,h)=>if kin k l h then some (mkA k e l h) else none
    | none=>none
   | none=>match e1.less e2 with
    | some (l,h)=>(symCmp op 0 0 l h).map .bool
    | none=>match e2.less e1 with
     | some (l,h)=>(symCmp op l h 0 0).map .bool
     | none=>(symCmp op l1 h1 l2 h2).map .bool
  else none
 | _,_=>none
section
variable [Know]
def symK (op : BinOp) (x y : AV) : Option AV:=
 match symA x,symA y with
 | some (k,e1,_,_),some (k',e2,_,_)=>if k = k' then (match sopOf op with | some _=>none | none=>(Know.cmp op e1 e2).map .bool) else none
 | _,_=>none
def symBin (op : BinOp) (x y : AV) : Option AV:=
 match symBin0 op x y with
 | some v=>some v
 | none=>symK op x y
def cmpX (op : BinOp) (a b : SX) : Option Bool:=
 match (match a.less b with | some (l,h)=>symCmp op 0 0 l h | none=>none) with
 | some r=>some r
 | none=>match (match b.less a with | some (l,h)=>symCmp op l h 0 0 | none=>none) with
  | some r=>some r
  | none=>match (match a.rng,b.rng with | some (l1,h1),some (l2,h2)=>symCmp op l1 h1 l2 h2 | _,_=>none) with
   | some r=>some r
   | none=>Know.cmp op a b
def leX (a b : SX) : Bool:=match cmpX .leq a b with | some true=>true | _=>false
def ltX (a b : SX) : Bool:=match cmpX .lss a b with | some true=>true | _=>false
end
def subX (a b : SX) : SX:=if b.zero then a else .bin .sub a b
theorem subX_ok (a b : SX) (ha : a.ok) (hb : b.ok) : (subX a b).ok ∧ (subX a b).eval = a.eval - b.eval:=by
 unfold subX
 split
 ·rename_i h; exact ⟨ha,by rw [SX.zero_eval h]; omega⟩
 ·exact ⟨⟨ha,hb⟩,rfl⟩
def symW (op : BinOp) (x y : AV) : Option AV:=
 match symA x,symA y with
 | some (k,e1,l1,h1),some (k',e2,l2,_)=>match op with
  | .add | .sub | .mul | .and | .or | .xor | .andNot=>if k = k' then some (.sym k (.wop op k e1 e2) (krange k).1 (krange k).2) else none
  | .shl=>if 0 ≤ l2 then some (.sym k (.wop op k e1 e2) (krange k).1 (krange k).2) else none
  | .shr=>if 0 ≤ l1 ∧ 0 ≤ l2 then some (.sym k (.wop op k e1 e2) 0 h1) else none
  | _=>none
 | _,_=>none
def symCv (k : IntKind) (x : AV) : Option AV:=
 match symA x with
 | some (_,e,_,_)=>some (.sym k (.wop .add k e (.lit 0)) (krange k).1 (krange k).2)
 | none=>none
def symNeg : AV → Option AV
 | .sym k e lo hi=>if kin k (-hi) (-lo) then some (mkA k (.bin .sub (.lit 0) e) (-hi) (-lo)) else none
 | _=>none
def byteSame (a b : UInt8) : Bool:=Nat.beq a.toNat b.toNat
def strSame (a b : List UInt8) : Bool:=
 match a,b with
 | [],[]=>true
 | x :: l,y :: m=>byteSame x y && strSame l m
 | _,_=>false
theorem strSame_ok : ∀ {a b : List UInt8},strSame a b = true → a = b
 | [],[],_=>rfl
 | x :: l,y :: m,h=>by
  simp only [strSame,byteSame,Bool.and_eq_true,Nat.beq_eq] at h
  rw [UInt8.toNat_inj.1 h.1,strSame_ok h.2]
 | [],_ :: _,h=>by simp [strSame] at h
 | _ :: _,[],h=>by simp [strSame] at h
def kindNo : IntKind → Nat
 | .i8=>0
 | .i16=>1
 | .i32=>2
 | .i64=>3
 | .u8=>4
 | .u16=>5
 | .u32=>6
 | .u64=>7
theorem kindNo_ok {a b : IntKind} (h : Nat.beq (kindNo a) (kindNo b) = true) : a = b:=by
 cases a <;> cases b <;> first | rfl | simp [kindNo] at h
def beq0 (x y : AV) : Bool:=
 match x,y with
 | .bool a,.bool b=>a == b
 | .str a,.str b=>strSame a.data.toList b.data.toList
 | .sym k e lo hi,.sym k' e' lo' hi'=>Nat.beq (kindNo k) (kindNo k') && (e.same e' && (decide (lo = lo') && decide (hi = hi')))
 | .int k a,.int k' b=>decide (k = k') && decide (a = b)
 | .ptr b o,.ptr b' o'=>Nat.beq b b' && Nat.beq o o'
 | .slice b o l c x e,.slice b' o' l' c' x' e'=>(Nat.beq b b' && Nat.beq o o') && ((Nat.beq l l' && Nat.beq c c') && ((x == x') && Nat.beq e e'))
 | .nilSlice,.nilSlice=>true
 | .nilPtr,.nilPtr=>true
 | .sls b o l c x,.sls b' o' l' c' x'=>Nat.beq b b' && ((x == x') && (o.same o' && (l.same l' && c.same c')))
 | .sptr b e,.sptr b' e'=>Nat.beq b b' && e.same e'
 | _,_=>false
theorem beq0_ok {x y : AV} (h : beq0 x y = true) : x = y:=by
 unfold beq0 at h
 split at h
 case h_2 a b =>
  have:=strSame_ok h
  have h2 : a.data = b.data:=Array.toList_inj.1 this
  cases a; cases b; simp only at h2; rw [h2]
 case h_3 =>
  simp only [Bool.and_eq_true,decide_eq_true_eq] at h
  rw [kindNo_ok h.1,SX.same_ok h.2.1,h.2.2.1,h.2.2.2]
 all_goals simp only [Bool.and_eq_true,beq_iff_eq,decide_eq_true_eq,Nat.beq_eq,reduceCtorEq] at h
 ·rw [h]
 ·rw [h.1,h.2]
 ·rw [h.1,h.2]
 ·obtain ⟨⟨h1,h2⟩,⟨h3,h4⟩,h5,h6⟩:=h; rw [h1,h2,h3,h4,h5,h6]
 ·rfl
 ·rfl
 ·obtain ⟨h1,h2,h3,h4,h5⟩:=h; rw [h1,h2,SX.same_ok h3,SX.same_ok h4,SX.same_ok h5]
 ·obtain ⟨h1,h2⟩:=h; rw [h1,SX.same_ok h2]
def beqL {α : Type} (f : α → α → Bool) : List α → List α → Bool
 | [],[]=>true
 | a :: l,b :: m=>f a b && beqL f l m
 | _,_=>false
theorem beqL_ok {α : Type} {f : α → α → Bool} (hf : ∀ {x y},f x y = true → x = y) : ∀ {l m : List α},beqL f l m = true → l = m
 | [],[],_=>rfl
 | a :: l,b :: m,h=>by
  simp only [beqL,Bool.and_eq_true] at h
  rw [hf h.1,beqL_ok hf h.2]
 | [],_ :: _,h=>by simp [beqL] at h
 | _ :: _,[],h=>by simp [beqL] at h
def beq1 (x y : AV) : Bool:=
 match x,y with
 | .agg l,.agg m=>beqL beq0 l m
 | x,y=>beq0 x y
theorem beq1_ok {x y : AV} (h : beq1 x y = true) : x = y:=by
 unfold beq1 at h
 split at h
 ·rw [beqL_ok beq0_ok h]
 ·exact beq0_ok h
def beq2 (x y : AV) : Bool:=
 match x,y with
 | .tup l,.tup m=>beqL beq1 l m
 | x,y=>beq1 x y
theorem beq2_ok {x y : AV} (h : beq2 x y = true) : x = y:=by
 unfold beq2 at h
 split at h
 ·rw [beqL_ok beq1_ok h]
 ·exact beq1_ok h
end Go.Ev
