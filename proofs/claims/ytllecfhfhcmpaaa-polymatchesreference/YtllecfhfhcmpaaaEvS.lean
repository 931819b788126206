/- Regions that draw their order: whatever the order, what comes of it is what comes of the order of the text. -/
import Derived.Test.YtllecfhfhcmpaaaEvO
namespace Go.Ev
open Go.RowKit (Below)
set_option linter.unusedSectionVars false
variable [Rho] [Know] [KnowOk]
variable {P : Program} {B : Nat} {π : Inj} {lm : List Nat} {s : St} {w : World} {ts : List AV} {a : Act}
def StepF (P : Program) (rec : Ev) (ops : Array Oper) (k h0 : Nat) (ms : List Nat) (T : Nat → List AV) (V : Nat → AV) (S : Nat → St) (O : Nat → List Nat) (L : Nat → List Nat) (Wr : Nat → Option (Option Nat)) (j : Nat) (o : Oper) : Prop:=
 T (j + 1) = put (T j) o.dst (V j) ∧
 ((wantedA ops.toList o (T j) = false ∧ V j = undefA ∧ S (j + 1) = S j ∧ O (j + 1) = O j ∧ L (j + 1) = L j ∧ Wr (j + 1) = Wr j) ∨
  (wantedA ops.toList o (T j) = true ∧ j = k ∧ evOneV P rec o (T j) (S j) = some (V j,S (j + 1)) ∧ O (j + 1) = O j ∧ L (j + 1) = L j ∧ Wr (j + 1) = some (blkOf (T j) o)) ∨
  (wantedA ops.toList o (T j) = true ∧ j ≠ k ∧ ∃ cnt,stepN P rec o (T j) (S j) (nthD 0 ms j) h0 (O j) = some (V j,S (j + 1),cnt) ∧ O (j + 1) = O j ++ List.replicate cnt j ∧ L (j + 1) = addLate (!(nthD 0 ms k).testBit j) (T j) o (L j) ∧ Wr (j + 1) = Wr j))
theorem draw_data {rec : Ev} {ops : Array Oper} {k h0 : Nat} {ms : List Nat} {s' : St} {ts' : List AV} : ∀ (rest : List Oper) (i : Nat) (ts : List AV) (sx : St) (own lt : List Nat) (wr : Option (Option Nat)),(∀ (j : Nat),rest[j]? = ops[i + j]?) → i + rest.length = ops.size →
  evDraw P rec ops.toList k h0 ms i rest ts sx own lt wr = some (ts',s') →
  ∃ (T : Nat → List AV) (V : Nat → AV) (S : Nat → St) (O : Nat → List Nat) (L : Nat → List Nat) (Wr : Nat → Option (Option Nat)),T i = ts ∧ S i = sx ∧ O i = own ∧ L i = lt ∧ Wr i = wr ∧ lateOk (L ops.size) (Wr ops.size) = true ∧ T ops.size = ts' ∧ S ops.size = s' ∧
   ∀ (j : Nat) (o : Oper),i ≤ j → ops[j]? = some o → StepF P rec ops k h0 ms T V S O L Wr j o:=by
 intro rest
 induction rest with
 | nil =>
  intro i ts sx own lt wr hops hlen h
  simp only [evDraw] at h
  split at h
  case isFalse=>cases h
  rename_i hlate
  simp only [Option.some.injEq,Prod.mk.injEq] at h
  obtain ⟨rfl,rfl⟩:=h
  simp only [List.length_nil,Nat.add_zero] at hlen
  subst hlen
  refine ⟨fun _=>ts,fun _=>undefA,fun _=>sx,fun _=>own,fun _=>lt,fun _=>wr,rfl,rfl,rfl,rfl,rfl,hlate,rfl,rfl,?_⟩
  intro j o hj ho
  have:=(Array.getElem?_eq_some_iff.1 ho).1; omega
 | cons o rest ih =>
  intro i ts sx own lt wr hops hlen h
  have ho : ops[i]? = some o:=by have:=hops 0; simpa using this.symm
  have hrest : ∀ (j : Nat),rest[j]? = ops[i + 1 + j]?:=fun j=>by
   have:=hops (j + 1)
   simp only [List.getElem?_cons_succ] at this
   rw [this]; congr 1; omega
  have hlen' : i + 1 + rest.length = ops.size:=by simp only [List.length_cons] at hlen; omega
  have step : ∀ (v : AV) (sy : St) (own' lt' : List Nat) (wr' : Option (Option Nat)),evDraw P rec ops.toList k h0 ms (i + 1) rest (put ts o.dst v) sy own' lt' wr' = some (ts',s') →
    ((wantedA ops.toList o ts = false ∧ v = undefA ∧ sy = sx ∧ own' = own ∧ lt' = lt ∧ wr' = wr) ∨ (wantedA ops.toList o ts = true ∧ i = k ∧ evOneV P rec o ts sx = some (v,sy) ∧ own' = own ∧ lt' = lt ∧ wr' = some (blkOf ts o)) ∨
     (wantedA ops.toList o ts = true ∧ i ≠ k ∧ ∃ cnt,stepN P rec o ts sx (nthD 0 ms i) h0 own = some (v,sy,cnt) ∧ own' = own ++ List.replicate cnt i ∧ lt' = addLate (!(nthD 0 ms k).testBit i) ts o lt ∧ wr' = wr)) →
    ∃ (T : Nat → List AV) (V : Nat → AV) (S : Nat → St) (O : Nat → List Nat) (L : Nat → List Nat) (Wr : Nat → Option (Option Nat)),T i = ts ∧ S i = sx ∧ O i = own ∧ L i = lt ∧ Wr i = wr ∧ lateOk (L ops.size) (Wr ops.size) = true ∧ T ops.size = ts' ∧ S ops.size = s' ∧
     ∀ (j : Nat) (o : Oper),i ≤ j → ops[j]? = some o → StepF P rec ops k h0 ms T V S O L Wr j o:=by
   intro v sy own' lt' wr' h1 h4
   obtain ⟨T,V,S,O,L,Wr,e1,e2,e3,e7,e8,e9,e4,e5,e6⟩:=ih (i + 1) _ sy own' lt' wr' hrest hlen' h1
   have hsz : ¬ ops.size ≤ i:=by omega
   refine ⟨fun j=>if j ≤ i then ts else T j,fun j=>if j = i then v else V j,fun j=>if j ≤ i then sx else S j,fun j=>if j ≤ i then own else O j,fun j=>if j ≤ i then lt else L j,fun j=>if j ≤ i then wr else Wr j,by simp,by simp,by simp,by simp,by simp,by simp only [if_neg hsz]; exact e9,by simp only [if_neg hsz]; exact e4,by simp only [if_neg hsz]; exact e5,?_⟩
   intro j o' hj ho'
   by_cases hji : j = i
   ·subst hji
    rw [ho] at ho'
    obtain rfl:=Option.some.inj ho'
    simp only [StepF,if_neg (show ¬ j + 1 ≤ j by omega),if_pos (Nat.le_refl j),if_true,e1,e2,e3,e7,e8]
    exact ⟨trivial,h4⟩
   ·have:=e6 j o' (by omega) ho'
    simp only [StepF,if_neg (show ¬ j + 1 ≤ i by omega),if_neg (show ¬ j ≤ i by omega),if_neg hji] at this ⊢
    exact this
  simp only [evDraw] at h
  split at h
  ·rename_i hwant
   split at h
   ·rename_i hik
    split at h
    ·rename_i v sy hone
     exact step v sy own lt _ h (.inr (.inl ⟨hwant,hik,hone,rfl,rfl,rfl⟩))
    ·cases h
   ·rename_i hik
    split at h
    ·rename_i v sy n hq
     exact step v sy _ _ wr h (.inr (.inr ⟨hwant,hik,n,hq,rfl,rfl,rfl⟩))
    ·cases h
  ·rename_i hwant
   exact step undefA sx own lt wr h (.inl ⟨by simpa using hwant,rfl,rfl,rfl,rfl,rfl⟩)
theorem stepN_shape {rec : Ev} {o : Oper} {v : AV} {s' : St} {m h0 cnt : Nat} {own : List Nat} (h : stepN P rec o ts s m h0 own = some (v,s',cnt)) :
  ∃ nb : List (Option ABlk),s' = { s with heap:=s.heap ++ nb } ∧ nb.length = cnt ∧ (pureS o.op = true → cnt = 0) ∧ (isLoad o.op = true → cnt = 0):=by
 unfold stepN at h
 split at h
 ·rename_i v0 s0 c0 hop
  split at h
  ·split at h
   ·simp only [Option.some.injEq,Prod.mk.injEq] at h
    obtain ⟨rfl,rfl,rfl⟩:=h
    exact ⟨[],by simp,rfl,fun _=>rfl,fun _=>rfl⟩
   ·cases h
  ·rename_i hp
   split at h
   ·rename_i ha
    split at h
    case isFalse=>cases h
    rename_i h0
    have hop:=evOp_of0 h0 hop
    simp only [Option.some.injEq,Prod.mk.injEq] at h
    obtain ⟨rfl,rfl,rfl⟩:=h
    have : ∃ e cs,s0 = newBlk s e cs:=by
     cases ho : o.op with
     | alloc t =>
      simp only [evOp0,ho,Option.map_eq_some_iff,ORes.val.injEq] at hop
      obtain ⟨z,h1,rfl,rfl,_⟩:=hop
      exact ⟨_,_,rfl⟩
     | box t x =>
      simp only [evOp0,ho,Option.map_eq_some_iff,ORes.val.injEq] at hop
      obtain ⟨z,h1,rfl,rfl,_⟩:=hop
      exact ⟨_,_,rfl⟩
     | buildSlice t len xs =>
      simp only [evOp0,ho] at hop
      split at hop
      ·split at hop
       ·split at hop
        ·cases hop
        ·simp only [Option.map_eq_some_iff,ORes.val.injEq] at hop
         obtain ⟨cs,_,rfl,rfl,_⟩:=hop
         exact ⟨_,_,rfl⟩
       ·cases hop
      ·cases hop
     | makeSlice t x y =>
      simp only [evOp0,ho] at hop
      split at hop
      ·split at hop
       ·split at hop
        ·simp only [Option.some.injEq,ORes.val.injEq] at hop
         obtain ⟨rfl,rfl,_⟩:=hop
         exact ⟨_,_,rfl⟩
        ·cases hop
       ·cases hop
      ·cases hop
     | _=>rw [ho] at ha; simp [alS] at ha
    obtain ⟨e,cs,rfl⟩:=this
    exact ⟨_,rfl,rfl,fun h=>absurd h hp,fun h=>by cases ho : o.op <;> rw [ho] at h ha <;> simp [isLoad,alS] at h ha⟩
   ·split at h
    ·split at h
     ·split at h
      ·simp only [Option.some.injEq,Prod.mk.injEq] at h
       obtain ⟨rfl,rfl,rfl⟩:=h
       exact ⟨[],by simp,rfl,fun _=>rfl,fun _=>rfl⟩
      ·cases h
     ·split at h
      ·simp only [Option.some.injEq,Prod.mk.injEq] at h
       obtain ⟨rfl,rfl,rfl⟩:=h
       exact ⟨[],by simp,rfl,fun _=>rfl,fun _=>rfl⟩
      ·cases h
     ·cases h
    ·cases h
 ·rename_i f args hop
  have hop0:=evOp_call0 (by simp) hop
  have hnp : (pureS o.op = true → cnt = 0) ∧ (isLoad o.op = true → cnt = 0):=⟨fun hps=>(by
   obtain ⟨v',e1,_⟩:=evOp_pureS hps hop (by simp)
   cases e1),fun hl=>by
   cases ho : o.op with
   | load t x =>
    simp only [evOp0,ho] at hop0
    split at hop0
    ·simp at hop0
    ·cases hop0
   | _=>rw [ho] at hl; simp [isLoad] at hl⟩
  split at h
  ·split at h
   ·split at h
    ·simp only [Option.some.injEq,Prod.mk.injEq] at h
     obtain ⟨rfl,rfl,rfl⟩:=h
     exact ⟨[],by simp,rfl,fun _=>rfl,fun _=>rfl⟩
    ·split at h
     ·simp only [Option.some.injEq,Prod.mk.injEq] at h
      obtain ⟨rfl,rfl,rfl⟩:=h
      exact ⟨_,rfl,by simp,hnp⟩
     ·cases h
   ·cases h
  ·cases h
 ·cases h
theorem trace_grows {rec : Ev} {ops : Array Oper} {k h0 : Nat} {ms : List Nat} {T : Nat → List AV} {V : Nat → AV} {S : Nat → St} {O : Nat → List Nat} {L : Nat → List Nat} {Wr : Nat → Option (Option Nat)}
  (hF : ∀ (j : Nat) (o : Oper),ops[j]? = some o → StepF P rec ops k h0 ms T V S O L Wr j o) (i : Nat) : ∀ (d : Nat),i + d ≤ ops.size → (∀ x,i ≤ x → x < i + d → x ≠ k) →
  ∃ (nb : List (Option ABlk)) (oe : List Nat),S (i + d) = { S i with heap:=(S i).heap ++ nb } ∧ O (i + d) = O i ++ oe ∧ nb.length = oe.length ∧
   ∀ x ∈ oe,i ≤ x ∧ x < i + d ∧ ∃ o,ops[x]? = some o ∧ pureS o.op = false ∧ isLoad o.op = false:=by
 intro d
 induction d with
 | zero=>intro _ _; exact ⟨[],[],by simp,by simp,rfl,by simp⟩
 | succ d ih =>
  intro hle hk
  obtain ⟨nb,oe,e1,e2,e3,e4⟩:=ih (by omega) (fun x h1 h2=>hk x h1 (by omega))
  have hlt : i + d < ops.size:=by omega
  obtain ⟨hT,hs⟩:=hF (i + d) ops[i + d] (Array.getElem?_eq_getElem hlt)
  have e4' : ∀ x ∈ oe,i ≤ x ∧ x < i + (d + 1) ∧ ∃ o,ops[x]? = some o ∧ pureS o.op = false ∧ isLoad o.op = false:=fun x hx=>by
   obtain ⟨h1,h2,h3⟩:=e4 x hx
   exact ⟨h1,by omega,h3⟩
  rcases hs with ⟨_,_,h1,h2,_⟩ | ⟨_,h1,_⟩ | ⟨_,_,cnt,h1,h2,_⟩
  ·exact ⟨nb,oe,by rw [← Nat.add_assoc,h1,e1],by rw [← Nat.add_assoc,h2,e2],e3,e4'⟩
  ·exact absurd h1 (hk (i + d) (by omega) (by omega))
  ·obtain ⟨nb',f1,f2,f3,f4⟩:=stepN_shape h1
   refine ⟨nb ++ nb',oe ++ List.replicate cnt (i + d),?_,?_,by simp [e3,f2],?_⟩
   ·rw [← Nat.add_assoc,f1,e1]; simp
   ·rw [← Nat.add_assoc,h2,e2]; simp
   ·intro x hx
    rcases List.mem_append.1 hx with hx | hx
    ·exact e4' x hx
    ·obtain ⟨hc,rfl⟩:=List.mem_replicate.1 hx
     refine ⟨by omega,by omega,_,Array.getElem?_eq_getElem hlt,?_⟩
     constructor
     ·cases hp : pureS ops[i + d].op with
      | false=>rfl
      | true=>exact absurd (f3 hp) hc
     ·cases hp : isLoad ops[i + d].op with
      | false=>rfl
      | true=>exact absurd (f4 hp) hc
def partSt (s : St) (FO : List Nat) (NB : List (Option ABlk)) (D : Nat → Bool) : St:=
 { s with heap:=s.heap ++ holes D FO NB,lo:=s.heap.length + NB.length }
theorem partSt_len {FO : List Nat} {NB : List (Option ABlk)} (hl : FO.length = NB.length) (D : Nat → Bool) : (partSt s FO NB D).heap.length = s.heap.length + NB.length:=by
 simp [partSt,holes_length hl]
theorem partSt_old {FO : List Nat} {NB : List (Option ABlk)} (D : Nat → Bool) {i : Nat} (hi : i < s.heap.length) : (partSt s FO NB D).heap[i]? = s.heap[i]?:=by
 simp only [partSt]; rw [List.getElem?_append_left hi]
theorem partSt_new {FO : List Nat} {NB : List (Option ABlk)} (hl : FO.length = NB.length) (D : Nat → Bool) {p o : Nat} {b : Option ABlk} (ho : FO[p]? = some o) (hb : NB[p]? = some b) :
  (partSt s FO NB D).heap[s.heap.length + p]? = some (if D o then b else none):=by
 simp only [partSt]
 rw [List.getElem?_append_right (by omega),Nat.add_sub_cancel_left]
 exact holes_get hl p o b ho hb
theorem holes_congr {D D' : Nat → Bool} : ∀ {FO : List Nat} {NB : List (Option ABlk)},(∀ o ∈ FO,D o = D' o) → holes D FO NB = holes D' FO NB
 | [],_,_=>by simp [holes]
 | _ :: _,[],_=>by simp [holes]
 | o :: os,b :: bs,h=>by
  simp only [holes]
  rw [h o (by simp),holes_congr (fun x hx=>h x (by simp [hx]))]
theorem holes_all {D : Nat → Bool} : ∀ {FO : List Nat} {NB : List (Option ABlk)},FO.length = NB.length → (∀ o ∈ FO,D o = true) → holes D FO NB = NB
 | [],[],_,_=>rfl
 | [],_ :: _,h,_=>by simp at h
 | _ :: _,[],h,_=>by simp at h
 | o :: os,b :: bs,hl,h=>by
  simp only [holes]
  rw [h o (by simp),holes_all (by simpa using hl) (fun x hx=>h x (by simp [hx]))]
  rfl
structure DI (ops : Array Oper) (V : Nat → AV) (B : Nat) (π : Inj) (lm : List Nat) (s s' : St) (FO : List Nat) (NB : List (Option ABlk)) (ts : List AV) (w : World) (a : Act) (k : Nat) (listed : Array Bool) (a1 : Act) (w1 : World) : Prop where
 size : listed.size = ops.size
 closed : ∀ (j : Nat) (o : Oper),listed.getD j false = true → ops.toList[j]? = some o → ∀ e ∈ o.after.toList,Region.binds .any e = true → listed.getD e.on false = true
 st : ∃ π1 lm1,LR π1 lm1 (PD ops.toList V (fun i=>listed.getD i false) ts ops.size) a1.tmps.toList ∧
  ((listed.getD k false = true ∧ WR B π1 lm1 s' w1 ∧ Tr π π1 lm lm1 s s' w w1) ∨
   (listed.getD k false = false ∧ lm1 = lm ∧ WR B π1 lm (partSt s FO NB (fun i=>listed.getD i false)) w1 ∧ Grow s π π1 w w1 ∧ ∀ p o,FO[p]? = some o → listed.getD o false = false → π1 (s.heap.length + p) = none))
 df : a1.defers = a.defers
def unlisted (listed : Array Bool) : Nat:=listed.toList.countP (fun b=>!b)
theorem getD_set (listed : Array Bool) (j i : Nat) (hj : j < listed.size) : (listed.setIfInBounds j true).getD i false = if i = j then true else listed.getD i false:=by
 simp only [Array.getD_eq_getD_getElem?,Array.getElem?_setIfInBounds]
 by_cases h : j = i
 ·subst h; simp [hj]
 ·simp [h,Ne.symm h]
theorem unlisted_set {listed : Array Bool} {j : Nat} (hj : j < listed.size) (h : listed.getD j false = false) : unlisted (listed.setIfInBounds j true) + 1 = unlisted listed:=by
 unfold unlisted
 rw [Array.toList_setIfInBounds]
 have hj' : j < listed.toList.length:=by simpa using hj
 have hget : listed.toList[j] = false:=by
  rw [Array.getD_eq_getD_getElem?,Array.getElem?_eq_getElem hj] at h
  simpa using h
 have key : ∀ (l : List Bool) (j : Nat) (hj : j < l.length),l[j] = false → (l.set j true).countP (fun b=>!b) + 1 = l.countP (fun b=>!b):=by
  intro l
  induction l with
  | nil=>intro j hj; simp at hj
  | cons x l ih =>
   intro j hj hx
   cases j with
   | zero=>simp at hx; subst hx; simp
   | succ j =>
    simp only [List.set_cons_succ,List.countP_cons]
    have:=ih j (by simpa using hj) (by simpa using hx)
    omega
 exact key _ _ hj' hget
theorem operand_looks {ops : Array Oper} {o : Oper} {x : Operand} {t : Tmp} (hx : x ∈ o.op.operands) (ht : x = .tmp t) : t ∈ o.looksAt ops:=by
 subst ht
 simp only [Oper.looksAt,List.mem_append,List.mem_filterMap]
 exact .inl ⟨.tmp t,by simpa using hx,rfl⟩
theorem still_step {S : St} {π1 π2 : Inj} {lm2 : List Nat} {w1 w2 : World} (h1 : WR B π1 lm S w1) (h2 : WR B π2 lm2 S w2) (t : Tr π1 π2 lm lm2 S S w1 w2) (hlo : S.heap.length ≤ S.lo) :
  lm2 = lm ∧ π2 = π1 ∧ ∀ (r : Nat),r < w1.heap.size → w2.heap[r]? = w1.heap[r]?:=by
 refine ⟨?_,?_,t.all hlo rfl⟩
 ·obtain ⟨x,e,_⟩:=t.lmx
  have:=h1.lsz; have:=h2.lsz
  rw [e] at this ⊢
  simp only [List.length_append] at this
  have : x.length = 0:=by omega
  rw [List.eq_nil_of_length_eq_zero this]; simp
 ·funext i
  by_cases hi : i < S.heap.length
  ·exact t.old i hi
  ·have a1 : π1 i = none:=by
    cases hx : π1 i with
    | none=>rfl
    | some x=>exact absurd (h1.dom i x hx) hi
   have a2 : π2 i = none:=by
    cases hx : π2 i with
    | none=>rfl
    | some x=>exact absurd (h2.dom i x hx) hi
   rw [a1,a2]
theorem Grow.then {π1 π2 : Inj} {w1 w2 : World} (g : Grow s π π1 w w1) (e1 : w2.os = w1.os) (e2 : w2.tape = w1.tape) (e3 : w2.output = w1.output) (e4 : w1.heap.size ≤ w2.heap.size)
  (e5 : ∀ (r : Nat),r < w1.heap.size → w2.heap[r]? = w1.heap[r]?) (e6 : ∀ i,i < s.heap.length → π2 i = π1 i)
  (e7 : ∀ i b n,s.heap.length ≤ i → π2 i = some (b,n) → (∃ i' m,s.heap.length ≤ i' ∧ π1 i' = some (b,m)) ∨ w1.heap.size ≤ b ∨ ∃ j A m,s.heap[j]? = some (some A) ∧ A.ro = false ∧ π j = some (b,m)) : Grow s π π2 w w2 where
 os:=e1.trans g.os
 tape:=e2.trans g.tape
 output:=e3.trans g.output
 size:=Nat.le_trans g.size e4
 keep:=fun r hr=>by rw [e5 r (Nat.lt_of_lt_of_le hr g.size),g.keep r hr]
 old:=fun i hi=>by rw [e6 i hi,g.old i hi]
 new:=fun i b n hi hp=>by
  rcases e7 i b n hi hp with ⟨i',m,h1,h2⟩ | h | h
  ·exact g.new i' b m h1 h2
  ·exact .inl (Nat.le_trans g.size h)
  ·exact .inr h
def with1 (D : Nat → Bool) (j : Nat) : Nat → Bool:=fun i=>if i = j then true else D i
theorem partSt_congr {FO : List Nat} {NB : List (Option ABlk)} (hl : FO.length = NB.length) {D D' : Nat → Bool} {i : Nat} (h : ∀ p o,i = s.heap.length + p → FO[p]? = some o → D o = D' o) :
  (partSt s FO NB D).heap[i]? = (partSt s FO NB D').heap[i]?:=by
 by_cases hi : i < s.heap.length
 ·rw [partSt_old D hi,partSt_old D' hi]
 ·obtain ⟨p,rfl⟩ : ∃ p,i = s.heap.length + p:=⟨i - s.heap.length,by omega⟩
  by_cases hp : p < FO.length
  ·have ho : FO[p]? = some FO[p]:=List.getElem?_eq_getElem hp
   have hb : NB[p]? = some (NB[p]'(by omega)):=List.getElem?_eq_getElem (by omega)
   rw [partSt_new hl D ho hb,partSt_new hl D' ho hb,h p _ rfl ho]
  ·rw [List.getElem?_eq_none (by rw [partSt_len hl]; omega),List.getElem?_eq_none (by rw [partSt_len hl]; omega)]
section
variable {FO : List Nat} {NB : List (Option ABlk)} {D : Nat → Bool} {j q cnt : Nat} {π1 : Inj} {w1 : World}
theorem alloc_step (hl : FO.length = NB.length) (hown : ∀ p o,FO[p]? = some o → (o = j ↔ p = q)) (hq : FO[q]? = some j) (hD : D j = false) {e : TypeId} {cs : List AV} (hnb : NB[q]? = some (some { elem:=e,cells:=cs,ro:=false }))
  {c : Array Value} (h1 : WR B π1 lm (partSt s FO NB D) w1) (hB : B ≤ w1.heap.size) (g : Grow s π π1 w w1) (hfree : ∀ p o,FO[p]? = some o → D o = false → π1 (s.heap.length + p) = none)
  (hc : LR π1 lm cs (c.toList.take cs.length)) :
  WR B (π1.more (s.heap.length + q) (w1.heap.size,c.size)) lm (partSt s FO NB (with1 D j)) { w1 with heap:=w1.heap.push (.cells c e) } ∧
  Grow s π (π1.more (s.heap.length + q) (w1.heap.size,c.size)) w { w1 with heap:=w1.heap.push (.cells c e) } ∧
  (∀ p o,FO[p]? = some o → with1 D j o = false → (π1.more (s.heap.length + q) (w1.heap.size,c.size)) (s.heap.length + p) = none) ∧ π1.le (π1.more (s.heap.length + q) (w1.heap.size,c.size)):=by
 have hqn : q < NB.length:=(List.getElem?_eq_some_iff.1 hnb).1
 have hle : π1.le (π1.more (s.heap.length + q) (w1.heap.size,c.size)):=Inj.le_more (hfree q j hq hD)
 have hoth : ∀ i,¬ (s.heap.length + q ≤ i ∧ i < s.heap.length + q + 1) → (π1.more (s.heap.length + q) (w1.heap.size,c.size)) i = π1 i:=fun i hi=>by
  unfold Inj.more; rw [if_neg (by omega)]
 have hat : (partSt s FO NB (with1 D j)).heap[s.heap.length + q]? = some (some { elem:=e,cells:=cs,ro:=false }):=by
  rw [partSt_new hl _ hq hnb]; simp [with1]
 refine ⟨h1.merge (a:=s.heap.length + q) (cnt:=1) rfl ?_ ?_ ?_ hoth hle ?_ (fun r hr=>heap_push _ _ _ hr),g.then rfl rfl rfl (by simp) (fun r hr=>heap_push _ _ _ hr) ?_ ?_,?_,hle⟩
 ·intro i hi
  refine partSt_congr hl (fun p o hip ho=>?_)
  have : o ≠ j:=fun e=>by have:=(hown p o ho).1 e; omega
  simp [with1,this]
 ·intro i A hi1 hi2 hA
  obtain rfl : i = s.heap.length + q:=by omega
  rw [hat] at hA
  obtain rfl:=Option.some.inj (Option.some.inj hA)
  refine ⟨w1.heap.size,c.size,c,(e,0,0),by simp [Inj.more],by simp,rfl,fun _=>⟨rfl,hB⟩,Nat.le_refl _,hc.mono hle (fun _ _ x=>x),TailOk.none rfl⟩
 ·intro i i' A A' b n m a1 a2 a3 a4 _ _ _ _ _; omega
 ·intro i x hx
  rw [partSt_len hl]
  by_cases hi : i = s.heap.length + q
  ·omega
  ·rw [hoth i (by omega)] at hx
   have:=h1.dom i x hx
   rw [partSt_len hl] at this; exact this
 ·intro i hi; exact hoth i (by omega)
 ·intro i b n hi hp
  by_cases hiq : i = s.heap.length + q
  ·subst hiq
   simp only [Inj.more,if_true,Option.some.injEq,Prod.mk.injEq] at hp
   right; left; omega
  ·rw [hoth i (by omega)] at hp; exact .inl ⟨i,n,hi,hp⟩
 ·intro p o ho hd
  have hoj : o ≠ j:=fun e=>by subst e; simp [with1] at hd
  have hpq : p ≠ q:=fun e=>hoj ((hown p o ho).2 e)
  rw [hoth _ (by omega)]
  exact hfree p o ho (by simpa [with1,hoj] using hd)
theorem sub_wr (hl : FO.length = NB.length) {m : Nat} {Sj : St} (hq : q ≤ NB.length) (hS : Sj = { s with heap:=s.heap ++ NB.take q }) (hsub : ∀ o ∈ FO.take q,m.testBit o = true → D o = true)
  (hnew : newOk Sj.heap.length (holes m.testBit (FO.take q) (Sj.heap.drop s.heap.length)) = true) (hw : WR B π lm s w) (h1 : WR B π1 lm (partSt s FO NB D) w1) (g : Grow s π π1 w w1) :
  WR B (π1.cut (s.heap.length + q)) lm (maskSt m s.heap.length (FO.take q) Sj) w1 ∧ (maskSt m s.heap.length (FO.take q) Sj).heap.length = s.heap.length + q ∧ Sj.heap.length = s.heap.length + q ∧
   (∀ (i : Nat) (A : ABlk),(maskSt m s.heap.length (FO.take q) Sj).heap[i]? = some (some A) → (partSt s FO NB D).heap[i]? = some (some A)) ∧
   ∀ (i : Nat),i < s.heap.length → (maskSt m s.heap.length (FO.take q) Sj).heap[i]? = s.heap[i]?:=by
 subst hS
 have hlq : (FO.take q).length = (NB.take q).length:=by simp [hl]
 have hd : (s.heap ++ NB.take q).drop s.heap.length = NB.take q:=by simp
 have ht : (s.heap ++ NB.take q).take s.heap.length = s.heap:=by simp
 have hheap : (maskSt m s.heap.length (FO.take q) { s with heap:=s.heap ++ NB.take q }).heap = s.heap ++ holes m.testBit (FO.take q) (NB.take q):=by
  simp only [maskSt,hd,ht]
 have hlen : (s.heap ++ NB.take q).length = s.heap.length + q:=by simp; omega
 simp only [hd,hlen] at hnew
 have hle : π.le (π1.cut (s.heap.length + q)):=fun i x hx=>by
  have:=hw.dom i x hx
  simp only [Inj.cut,if_pos (show i < s.heap.length + q by omega)]
  rw [g.old i this]; exact hx
 have get : ∀ (i : Nat) (A : ABlk),(maskSt m s.heap.length (FO.take q) { s with heap:=s.heap ++ NB.take q }).heap[i]? = some (some A) →
   (i < s.heap.length ∧ s.heap[i]? = some (some A)) ∨ ∃ p o,i = s.heap.length + p ∧ p < q ∧ FO[p]? = some o ∧ m.testBit o = true ∧ NB[p]? = some (some A) ∧ (holes m.testBit (FO.take q) (NB.take q))[p]? = some (some A):=by
  intro i A hA
  rw [hheap] at hA
  by_cases hi : i < s.heap.length
  ·rw [List.getElem?_append_left hi] at hA; exact .inl ⟨hi,hA⟩
  ·obtain ⟨p,rfl⟩ : ∃ p,i = s.heap.length + p:=⟨i - s.heap.length,by omega⟩
   rw [List.getElem?_append_right (by omega),Nat.add_sub_cancel_left] at hA
   have hp:=(List.getElem?_eq_some_iff.1 hA).1
   rw [holes_length hlq] at hp
   have hpq : p < q:=by have:=hp; simp at this; omega
   have hpn : p < NB.length:=by have:=hp; simp at this; omega
   have ho : FO[p]? = some (FO[p]'(by omega)):=List.getElem?_eq_getElem (by omega)
   have hb : NB[p]? = some NB[p]:=List.getElem?_eq_getElem hpn
   have hg:=holes_get hlq p (FO[p]'(by omega)) NB[p] (m:=m.testBit) (by rw [List.getElem?_take,if_pos hpq]; exact ho) (by rw [List.getElem?_take,if_pos hpq]; exact hb)
   have hA':=hA
   rw [hg] at hA
   simp only [Option.some.injEq] at hA
   split at hA
   ·rename_i hm
    exact .inr ⟨p,_,rfl,hpq,ho,hm,by rw [hb,hA],hA'⟩
   ·cases hA
 have live : ∀ (i : Nat) (A : ABlk),(maskSt m s.heap.length (FO.take q) { s with heap:=s.heap ++ NB.take q }).heap[i]? = some (some A) → (partSt s FO NB D).heap[i]? = some (some A):=by
  intro i A hA
  rcases get i A hA with ⟨hi,h2⟩ | ⟨p,o,rfl,hpq,ho,hm,hb,_⟩
  ·rw [partSt_old D hi]; exact h2
  ·rw [partSt_new hl D ho hb,hsub o (List.mem_of_getElem? (by rw [List.getElem?_take,if_pos hpq]; exact ho)) hm]; rfl
 have hRlen : (maskSt m s.heap.length (FO.take q) { s with heap:=s.heap ++ NB.take q }).heap.length = s.heap.length + q:=by
  rw [hheap,List.length_append,holes_length hlq,List.length_take]; omega
 have hcut : ∀ i x,(π1.cut (s.heap.length + q)) i = some x → i < s.heap.length + q ∧ π1 i = some x:=fun i x hx=>by
  simp only [Inj.cut] at hx
  split at hx
  ·exact ⟨by assumption,hx⟩
  ·cases hx
 refine ⟨?_,hRlen,hlen,live,fun i hi=>by rw [hheap,List.getElem?_append_left hi]⟩
 exact {
  dom:=fun i x hx=>by rw [hRlen]; exact (hcut i x hx).1
  blk:=fun i A hA=>by
   rcases get i A hA with ⟨hi,h2⟩ | ⟨p,o,rfl,hpq,ho,hm,hb,hh⟩
   ·obtain ⟨b,n,c,fz,f1,f2,f3,f4,f5⟩:=hw.blk i A h2
    exact ⟨b,n,c,fz,hle _ _ f1,by rw [g.keep b (lt_of_some f2)]; exact f2,f3,f4,f5.1.mono hle (fun _ _ x=>x),f5.2⟩
   ·obtain ⟨b,n,c,fz,f1,f2,f3,f4,f5⟩:=h1.blk _ A (live _ A hA)
    exact ⟨b,n,c,fz,by simp only [Inj.cut,if_pos (show s.heap.length + p < s.heap.length + q by omega)]; exact f1,f2,f3,f4,refsL_cut f5.1 (newOk_get hnew p A hh),f5.2⟩
  inj:=fun i j' A A' b n m' e1 e2 e3 e4 e5=>h1.inj i j' A A' b n m' (live i A e1) (live j' A' e2) e3 (hcut _ _ e4).2 (hcut _ _ e5).2
  lsz:=hw.lsz
  linj:=hw.linj
  loop:=fun l r hr=>by
   obtain ⟨L,fn,D',ts,st,pd,f1,f2,f3,f4⟩:=hw.loop l r hr
   exact ⟨L,fn,D',ts,st,pd,f1,by rw [g.keep L (lt_of_some f2)]; exact f2,f3,f4.mono hle (fun _ _ x=>x)⟩ }
theorem call_step (hl : FO.length = NB.length) (hown : ∀ p o,FO[p]? = some o → (o = j ↔ q ≤ p ∧ p < q + cnt)) (hD : D j = false) {R s1 : St} {π2 : Inj} {lm2 : List Nat} {w2 : World}
  (h1 : WR B π1 lm (partSt s FO NB D) w1) (g : Grow s π π1 w w1) (hfree : ∀ p o,FO[p]? = some o → D o = false → π1 (s.heap.length + p) = none) (hRlen : R.heap.length = s.heap.length + q) (hRold : ∀ i,i < s.heap.length → R.heap[i]? = s.heap[i]?)
  (hR : WR B (π1.cut (s.heap.length + q)) lm R w1) (h2 : WR B π2 lm2 s1 w2) (t : Tr (π1.cut (s.heap.length + q)) π2 lm lm2 R s1 w1 w2)
  (hlo : s.heap.length + q ≤ s1.lo) (hnd : s1.nd = R.nd) (hlp : s1.loops.length = R.loops.length) (hcnt : s1.heap.length = s.heap.length + q + cnt) (hnb : ∀ i,i < cnt → NB[q + i]? = s1.heap[s.heap.length + q + i]?) :
  ∃ π3,WR B π3 lm (partSt s FO NB (with1 D j)) w2 ∧ Grow s π π3 w w2 ∧ (∀ p o,FO[p]? = some o → with1 D j o = false → π3 (s.heap.length + p) = none) ∧ π1.le π3 ∧ π2.le π3 ∧ lm2 = lm:=by
 have hlm : lm2 = lm:=by
  obtain ⟨x,e,_⟩:=t.lmx
  have e1:=hR.lsz; have e2:=h2.lsz
  rw [e] at e2 ⊢
  simp only [List.length_append] at e2
  have : x.length = 0:=by omega
  rw [List.eq_nil_of_length_eq_zero this]; simp
 subst hlm
 have hall:=t.all (by omega) hnd
 let π3 : Inj:=fun i=>if s.heap.length + q ≤ i ∧ i < s.heap.length + q + cnt then π2 i else π1 i
 have hqn : cnt = 0 ∨ q + cnt ≤ NB.length:=by
  rcases Nat.eq_zero_or_pos cnt with h | h
  ·exact .inl h
  ·right
   have:=hnb (cnt - 1) (by omega)
   rw [List.getElem?_eq_getElem (show s.heap.length + q + (cnt - 1) < s1.heap.length by omega)] at this
   have:=(List.getElem?_eq_some_iff.1 this).1
   omega
 have hoth : ∀ i,¬ (s.heap.length + q ≤ i ∧ i < s.heap.length + q + cnt) → π3 i = π1 i:=fun i hi=>by simp only [π3]; rw [if_neg hi]
 have hins : ∀ i,(s.heap.length + q ≤ i ∧ i < s.heap.length + q + cnt) → π3 i = π2 i:=fun i hi=>by simp only [π3]; rw [if_pos hi]
 have ownJ : ∀ i,(s.heap.length + q ≤ i ∧ i < s.heap.length + q + cnt) → FO[i - s.heap.length]? = some j:=fun i hi=>by
  have hlt : i - s.heap.length < FO.length:=by omega
  have ho : FO[i - s.heap.length]? = some FO[i - s.heap.length]:=List.getElem?_eq_getElem hlt
  rw [ho,(hown _ _ ho).2 (by omega)]
 have hle1 : π1.le π3:=fun i x hx=>by
  by_cases hi : s.heap.length + q ≤ i ∧ i < s.heap.length + q + cnt
  ·have:=hfree _ _ (ownJ i hi) hD
   rw [show s.heap.length + (i - s.heap.length) = i by omega] at this
   rw [this] at hx; cases hx
  ·rw [hoth i hi]; exact hx
 have hle2 : π2.le π3:=fun i x hx=>by
  have hd:=h2.dom i x hx
  by_cases hi : s.heap.length + q ≤ i ∧ i < s.heap.length + q + cnt
  ·rw [hins i hi]; exact hx
  ·have hlt : i < s.heap.length + q:=by omega
   rw [t.old i (by omega)] at hx
   rw [hoth i hi]
   simp only [Inj.cut,if_pos hlt] at hx
   exact hx
 have same1 : ∀ (i : Nat),i < s.heap.length + q → s1.heap[i]? = R.heap[i]?:=fun i hi=>t.same i (by omega) (by omega)
 have inS1 : ∀ (i : Nat) (A : ABlk),s.heap.length + q ≤ i → i < s.heap.length + q + cnt → (partSt s FO NB (with1 D j)).heap[i]? = some (some A) → s1.heap[i]? = some (some A):=fun i A hi1 hi2 hA=>by
  have hj:=ownJ i ⟨hi1,hi2⟩
  have hlt : i - s.heap.length < NB.length:=by omega
  have hb : NB[i - s.heap.length]? = some NB[i - s.heap.length]:=List.getElem?_eq_getElem hlt
  have:=partSt_new (s:=s) hl (with1 D j) hj hb
  rw [show s.heap.length + (i - s.heap.length) = i by omega,hA] at this
  simp only [with1,if_true,Option.some.injEq] at this
  have hh:=hnb (i - s.heap.length - q) (by omega)
  rw [show q + (i - s.heap.length - q) = i - s.heap.length by omega,show s.heap.length + q + (i - s.heap.length - q) = i by omega,hb] at hh
  rw [← hh,← this]
 refine ⟨π3,?_,?_,?_,hle1,hle2,rfl⟩
 ·refine h1.merge (a:=s.heap.length + q) (cnt:=cnt) rfl ?_ ?_ ?_ hoth hle1 ?_ hall
  ·intro i hi
   refine partSt_congr hl (fun p o hip ho=>?_)
   have : o ≠ j:=fun e=>by have:=(hown p o ho).1 e; omega
   simp [with1,this]
  ·intro i A hi1 hi2 hA
   have hA1:=inS1 i A hi1 hi2 hA
   obtain ⟨b,n,c,fz,f1,f2,f3,f4,f5⟩:=h2.blk i A hA1
   refine ⟨b,n,c,fz,by rw [hins i ⟨hi1,hi2⟩]; exact f1,f2,f3,f4,?_,f5.1.mono hle2 (fun _ _ x=>x),f5.2⟩
   rcases t.new i b n (by omega) f1 with h | ⟨i',A',m',k1,k2,k3⟩
   ·exact h
   ·exfalso
    have hi' : i' < R.heap.length:=(List.getElem?_eq_some_iff.1 k1).1
    have e1 : s1.heap[i']? = some (some A'):=by rw [same1 i' (by omega)]; exact k1
    have:=h2.inj i' i A' A b m' n e1 hA1 k2 (t.le _ _ k3) f1
    omega
  ·intro i i' A A' b n m' a1 a2 a3 a4 e1 e2 e3 e4 e5
   rw [hins i ⟨a1,a2⟩] at e4; rw [hins i' ⟨a3,a4⟩] at e5
   exact h2.inj i i' A A' b n m' (inS1 i A a1 a2 e1) (inS1 i' A' a3 a4 e2) e3 e4 e5
  ·intro i x hx
   rw [partSt_len hl]
   by_cases hi : s.heap.length + q ≤ i ∧ i < s.heap.length + q + cnt
   ·omega
   ·rw [hoth i hi] at hx
    have:=h1.dom i x hx
    rw [partSt_len hl] at this; exact this
 ·refine g.then t.os t.tape t.output t.size hall (fun i hi=>hoth i (by omega)) ?_
  intro i b n hi hp
  by_cases hir : s.heap.length + q ≤ i ∧ i < s.heap.length + q + cnt
  ·rw [hins i hir] at hp
   rcases t.new i b n (by omega) hp with h | ⟨i',A',m',k1,k2,k3⟩
   ·exact .inr (.inl h)
   ·have hi' : i' < R.heap.length:=(List.getElem?_eq_some_iff.1 k1).1
    simp only [Inj.cut] at k3
    split at k3
    ·by_cases hio : i' < s.heap.length
     ·right; right
      rw [g.old i' hio] at k3
      exact ⟨i',A',m',by rw [← hRold i' hio]; exact k1,k2,k3⟩
     ·exact .inl ⟨i',m',by omega,k3⟩
    ·cases k3
  ·rw [hoth i hir] at hp; exact .inl ⟨i,n,hi,hp⟩
 ·intro p o ho hd
  have hoj : o ≠ j:=fun e=>by subst e; simp [with1] at hd
  have hpq : ¬ (q ≤ p ∧ p < q + cnt):=fun e=>hoj ((hown p o ho).2 e)
  rw [hoth _ (by omega)]
  exact hfree p o ho (by simpa [with1,hoj] using hd)
end
end Go.Ev
