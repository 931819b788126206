/- Regions that draw their order: all orders. -/
import Derived.Test.YtllecfhfhcmpaaaEvS
namespace Go.Ev
open Go.RowKit (Below)
set_option linter.unusedSectionVars false
variable [Rho] [Know] [KnowOk]
variable {P : Program} {B : Nat} {π : Inj} {lm : List Nat} {s : St} {w : World} {ts : List AV} {a : Act}
theorem own_range {A C : List Nat} {j cnt : Nat} (hA : ∀ x ∈ A,x < j) (hC : ∀ x ∈ C,j < x) (p o : Nat) (h : (A ++ (List.replicate cnt j ++ C))[p]? = some o) : o = j ↔ A.length ≤ p ∧ p < A.length + cnt:=by
 by_cases h1 : p < A.length
 ·rw [List.getElem?_append_left h1] at h
  have:=hA o (List.mem_of_getElem? h)
  omega
 ·rw [List.getElem?_append_right (by omega)] at h
  by_cases h2 : p - A.length < cnt
  ·rw [List.getElem?_append_left (by simpa using h2),List.getElem?_replicate,if_pos h2] at h
   simp at h; omega
  ·rw [List.getElem?_append_right (by simp; omega)] at h
   have:=hC o (List.mem_of_getElem? h)
   omega
set_option maxHeartbeats 2000000 in
theorem draw_any {rec : Ev} (hname : ∀ (f : Nat) (fn : Func),P.funcs[f]? = some fn → fn.name ≠ "runtime.NumGoroutine") (hc : SCall P rec.call) (hr : SRound P rec.round) {ops : Array Oper} {k : Nat} (hok : drawOk ops k = true)
  {T : Nat → List AV} {V : Nat → AV} {S : Nat → St} {O : Nat → List Nat} {L : Nat → List Nat} {Wr : Nat → Option (Option Nat)} {ts' : List AV} {s' : St} (hT0 : T 0 = ts) (hS0 : S 0 = s) (hO0 : O 0 = []) (hlate : lateOk (L ops.size) (Wr ops.size) = true) (hTn : T ops.size = ts') (hSn : S ops.size = s')
  (hF : ∀ (j : Nat) (o : Oper),ops[j]? = some o → StepF P rec ops k s.heap.length (befs ops.toList []) T V S O L Wr j o) (hw : WR B π lm s w) (hB : B ≤ w.heap.size) (N : Nat) (ro : Option Nat) (Q : Exit → Act → World → Prop)
  (hQ : ∀ a' w' π' lm',WR B π' lm' s' w' → LR π' lm' ts' a'.tmps.toList → Tr π π' lm lm' s s' w w' → a'.defers = a.defers → Q .normal a' w') :
  ∃ (FO : List Nat) (NB : List (Option ABlk)),FO.length = NB.length ∧ ∀ (fuel : Nat) (listed : Array Bool) (a1 : Act) (w1 : World),unlisted listed = fuel → DI ops V B π lm s s' FO NB ts w a k listed a1 w1 → wpAnyIn (Fr ro) N P .any ops Q fuel listed a1 w1:=by
 simp only [drawOk,Bool.and_eq_true,List.all_eq_true] at hok
 obtain ⟨⟨hclash,hread⟩,hedge⟩:=hok
 have hmem : ∀ (j : Nat) (o : Oper),ops[j]? = some o → (o,j) ∈ ops.toList.zipIdx:=fun j o ho=>by
  rw [List.mem_zipIdx_iff_getElem?]
  rw [Array.getElem?_toList]; exact ho
 have hback : ∀ (j : Nat) (o : Oper),ops.toList[j]? = some o → ∀ e ∈ o.after.toList,Region.binds .any e = true → e.on < j:=fun j o ho e he hb=>by
  have:=hedge _ (hmem j o (by rw [← Array.getElem?_toList]; exact ho)) e he
  simpa [hb] using this
 have clashBit : ∀ (i j : Nat) (x y : Oper),ops[i]? = some x → ops[j]? = some y → i < j → clash ops x y = true → (nthD 0 (befs ops.toList []) j).testBit i = true:=fun i j x y hx hy hij hcl=>by
  have:=hclash _ (hmem j y hy) _ (hmem i x hx)
  simpa [hij,hcl] using this
 have hT : ∀ (j : Nat) (o : Oper),ops[j]? = some o → T (j + 1) = put (T j) o.dst (V j):=fun j o ho=>(hF j o ho).1
 have early : ∀ (j : Nat) (o : Oper),ops[j]? = some o → j ≠ k → pureS o.op = false → isLoad o.op = false → k = ops.size ∨ (nthD 0 (befs ops.toList []) k).testBit j = true:=fun j o ho hjk hnp hnl=>by
  have:=hread _ (hmem j o ho)
  simp only [Bool.or_eq_true,beq_iff_eq] at this
  rcases this with (((h1 | h1) | h1) | h1) | h1
  ·exact absurd h1 hjk
  ·rw [hnp] at h1; cases h1
  ·exact .inl h1
  ·exact .inr h1
  ·rw [hnl] at h1; cases h1
 have bitk : ∀ j,(nthD 0 (befs ops.toList []) k).testBit j = true → k < ops.size ∧ j < k:=fun j h1=>by
  by_cases hkn : k < ops.size
  ·exact ⟨hkn,bit_lt hback k ops[k] j (by rw [Array.getElem?_toList]; exact Array.getElem?_eq_getElem hkn) h1⟩
  ·have : nthD 0 (befs ops.toList []) k = 0:=by
    have hlen : ∀ (l : List Oper) (acc : List Nat),(befs l acc).length = acc.length + l.length:=by
     intro l
     induction l with
     | nil=>intro acc; simp [befs]
     | cons x l ihl=>intro acc; simp only [befs,ihl,List.length_append,List.length_cons,List.length_nil]; omega
    rw [nthD_eq,List.getElem?_eq_none (by rw [hlen]; simp; omega)]
    rfl
   rw [this] at h1; simp at h1
 obtain ⟨K,hKn,hKk,hKe⟩ : ∃ K,K ≤ ops.size ∧ K ≤ k ∧ (K = k ∨ K = ops.size):=by
  by_cases h : k < ops.size
  ·exact ⟨k,by omega,Nat.le_refl _,.inl rfl⟩
  ·exact ⟨ops.size,Nat.le_refl _,by omega,.inr rfl⟩
 obtain ⟨NB,FO,z1,z2,z3,z4⟩:=trace_grows hF 0 K (by omega) (fun x _ h=>by omega)
 simp only [Nat.zero_add,hS0,hO0,List.nil_append] at z1 z2 z4
 refine ⟨FO,NB,z3.symm,?_⟩
 have hl : FO.length = NB.length:=z3.symm
 have hl' : FO.length = NB.length:=hl
 have isF : ∀ D : Nat → Bool,(∀ o ∈ FO,D o = true) → (partSt s FO NB D).heap = (S K).heap ∧ (partSt s FO NB D).loops = (S K).loops:=fun D h=>by
  rw [z1]; simp [partSt,holes_all hl h]
 have before : ∀ j,j < K → ∃ q,S j = { s with heap:=s.heap ++ NB.take q } ∧ O j = FO.take q ∧ q ≤ NB.length ∧ ∀ x ∈ FO.take q,x < j:=fun j hj=>by
  obtain ⟨nb,oe,e1,e2,e3,e4⟩:=trace_grows hF 0 j (by omega) (fun x _ h=>by omega)
  obtain ⟨nb',oe',f1,f2,f3,f4⟩:=trace_grows hF j (K - j) (by omega) (fun x _ h=>by omega)
  rw [show j + (K - j) = K by omega] at f1 f2
  simp only [Nat.zero_add,hS0,hO0,List.nil_append] at e1 e2 e4
  have hNB : NB = nb ++ nb':=by
   rw [e1] at f1
   rw [z1] at f1
   have:=congrArg St.heap f1
   simp only [List.append_assoc] at this
   exact List.append_cancel_left this
  have hFO : FO = oe ++ oe':=by rw [← z2,f2,e2]
  have t1 : FO.take nb.length = oe:=by rw [hFO,e3]; simp
  refine ⟨nb.length,by rw [e1,hNB]; simp,by rw [e2,t1],by rw [hNB]; simp,fun x hx=>?_⟩
  rw [t1] at hx
  exact (e4 x hx).2.1
 have range : ∀ j,j < K → ∀ (q cnt : Nat),O j = FO.take q → q ≤ NB.length → O (j + 1) = O j ++ List.replicate cnt j → (∀ x ∈ FO.take q,x < j) →
   (∀ (p o : Nat),FO[p]? = some o → (o = j ↔ q ≤ p ∧ p < q + cnt)) ∧ S (j + 1) = { s with heap:=s.heap ++ NB.take (q + cnt) } ∧ q + cnt ≤ NB.length:=fun j hj q cnt hq hqn hO hlt=>by
  obtain ⟨nb',oe',f1,f2,f3,f4⟩:=trace_grows hF (j + 1) (K - (j + 1)) (by omega) (fun x _ h=>by omega)
  rw [show j + 1 + (K - (j + 1)) = K by omega] at f1 f2
  have hFO : FO = FO.take q ++ (List.replicate cnt j ++ oe'):=by
   rw [← List.append_assoc,← hq,← hO,← f2,z2]
  have hql : (FO.take q).length = q:=by rw [List.length_take]; omega
  have hlen : q + cnt + oe'.length = NB.length:=by
   have:=congrArg List.length hFO
   simp only [List.length_append,hql,List.length_replicate] at this
   omega
  refine ⟨fun p o ho=>?_,?_,by omega⟩
  ·rw [hFO] at ho
   have:=own_range hlt (fun x hx=>by have:=(f4 x hx).1; omega) p o ho
   rw [hql] at this
   exact this
  ·obtain ⟨nb2,oe2,g1,g2,g3,g4⟩:=trace_grows hF 0 (j + 1) (by omega) (fun x _ h=>by omega)
   simp only [Nat.zero_add,hS0,hO0,List.nil_append] at g1 g2
   have hNB : NB = nb2 ++ nb':=by
    rw [g1] at f1
    rw [z1] at f1
    have:=congrArg St.heap f1
    simp only [List.append_assoc] at this
    exact List.append_cancel_left this
   have : nb2.length = q + cnt:=by
    rw [g3,← g2,hO,hq,List.length_append,hql,List.length_replicate]
   rw [g1,hNB,← this]; simp
 have later : ∀ j,k < j → j ≤ ops.size → S j = S (k + 1) ∧ O j = O (k + 1):=fun j h1 h2=>by
  obtain ⟨nb,oe,e1,e2,e3,e4⟩:=trace_grows hF (k + 1) (j - (k + 1)) (by omega) (fun x _ _=>by omega)
  rw [show k + 1 + (j - (k + 1)) = j by omega] at e1 e2
  have : oe = []:=by
   cases oe with
   | nil=>rfl
   | cons x l =>
    obtain ⟨g1,_,o,g3,g4,g5⟩:=e4 x (by simp)
    rcases early x o g3 (by omega) g4 g5 with h | h
    ·omega
    ·have:=(bitk x h).2; omega
  subst this
  have : nb = []:=List.eq_nil_of_length_eq_zero e3
  subst this
  rw [e1,e2]; simp
 have lateSub : ∀ (d i : Nat),i + d ≤ ops.size → ∀ b ∈ L i,b ∈ L (i + d):=fun d=>by
  induction d with
  | zero=>intro i _ b hb; exact hb
  | succ d ih =>
   intro i hle b hb
   have h1:=ih i (by omega) b hb
   rcases (hF (i + d) ops[i + d] (Array.getElem?_eq_getElem (by omega))).2 with ⟨_,_,_,_,h2,_⟩ | ⟨_,_,_,_,h2,_⟩ | ⟨_,_,_,_,_,h2,_⟩
   ·rw [← Nat.add_assoc,h2]; exact h1
   ·rw [← Nat.add_assoc,h2]; exact h1
   ·rw [← Nat.add_assoc,h2]
    unfold addLate
    split
    ·split
     ·exact List.mem_cons_of_mem _ h1
     ·exact h1
    ·exact h1
 have wrSame : ∀ (d : Nat),k + 1 + d ≤ ops.size → Wr (k + 1 + d) = Wr (k + 1):=fun d=>by
  induction d with
  | zero=>intro _; rfl
  | succ d ih =>
   intro hle
   have h1:=ih (by omega)
   rcases (hF (k + 1 + d) ops[k + 1 + d] (Array.getElem?_eq_getElem (by omega))).2 with ⟨_,_,_,_,_,h2⟩ | ⟨_,h2,_⟩ | ⟨_,_,_,_,_,_,h2⟩
   ·rw [← Nat.add_assoc,h2]; exact h1
   ·omega
   ·rw [← Nat.add_assoc,h2]; exact h1
 have lateHeap : ∀ (j : Nat) (o : Oper) (b : Nat),ops[j]? = some o → k < ops.size → j ≠ k → (nthD 0 (befs ops.toList []) k).testBit j = false → isLoad o.op = true → wantedA ops.toList o (T j) = true → blkOf (T j) o = some b →
   (S (k + 1)).heap[b]? = (S k).heap[b]?:=fun j o b ho hkn hjk hbit hld hwant hb=>by
  have hjn:=(Array.getElem?_eq_some_iff.1 ho).1
  have hin : b ∈ L ops.size:=by
   have h1 : b ∈ L (j + 1):=by
    rcases (hF j o ho).2 with ⟨h,_⟩ | ⟨_,h,_⟩ | ⟨_,_,_,_,_,h2,_⟩
    ·rw [hwant] at h; cases h
    ·exact absurd h hjk
    ·rw [h2]; unfold addLate; rw [hbit,hld,hb]; simp
   have:=lateSub (ops.size - (j + 1)) (j + 1) (by omega) b h1
   rwa [show j + 1 + (ops.size - (j + 1)) = ops.size by omega] at this
  rcases (hF k ops[k] (Array.getElem?_eq_getElem hkn)).2 with ⟨_,_,h3,_⟩ | ⟨_,_,h3,_,_,h4⟩ | ⟨_,h,_⟩
  ·rw [h3]
  ·have h5:=wrSame (ops.size - (k + 1)) (by omega)
   rw [show k + 1 + (ops.size - (k + 1)) = ops.size by omega,h4] at h5
   rw [h5] at hlate
   cases hbw : blkOf (T k) ops[k] with
   | none =>
    rw [hbw] at hlate
    simp only [lateOk,List.isEmpty_iff] at hlate
    rw [hlate] at hin; simp at hin
   | some bw =>
    rw [hbw] at hlate
    simp only [lateOk,Bool.not_eq_true',List.contains_eq_mem,decide_eq_false_iff_not] at hlate
    have hne : b ≠ bw:=fun e=>hlate (e ▸ hin)
    have hbw0:=hbw
    unfold blkOf at hbw
    split at hbw
    ·rename_i ty x hop
     unfold evOneV at h3
     cases hev : evOp P (T k) ops[k] (S k) with
     | none=>rw [hev] at h3; cases h3
     | some R =>
      obtain ⟨b1,v1,_,rfl,_⟩:=load_op hop hev
      rw [hev] at h3
      simp only [Option.some.injEq,Prod.mk.injEq] at h3
      rw [← h3.2]
    ·rename_i ty x y hop
     unfold evOneV at h3
     cases hev : evOp P (T k) ops[k] (S k) with
     | none=>rw [hev] at h3; cases h3
     | some R =>
      obtain ⟨b1,s1,g1,rfl,g2⟩:=store_op hop hev
      rw [hbw0] at g1
      obtain rfl:=Option.some.inj g1
      rw [hev] at h3
      simp only [Option.some.injEq,Prod.mk.injEq] at h3
      rw [← h3.2]
      exact g2 b hne
    ·cases hbw
  ·exact absurd rfl h
 have finish : ∀ (listed : Array Bool) (a1 : Act) (w1 : World),DI ops V B π lm s s' FO NB ts w a k listed a1 w1 → (∀ j,j < ops.size → listed.getD j false = true) → Q .normal a1 w1:=by
  intro listed a1 w1 hi hall
  obtain ⟨π1,lm1,h1,h2⟩:=hi.st
  have hP : PD ops.toList V (fun i=>listed.getD i false) ts ops.size = ts':=by
   have e:=(PD_lt (ops:=ops.toList) (V:=V) hT0 (n:=ops.size) (by simp) (fun i o _ ho=>hT i o (by rw [← Array.getElem?_toList]; exact ho)) ops.size ops.size (Nat.le_refl _))
   rw [Nat.min_self,hTn] at e
   rw [← e]
   have : ∀ m,m ≤ ops.size → PD ops.toList V (fun i=>listed.getD i false) ts m = PD ops.toList V (fun i=>decide (i < ops.size)) ts m:=by
    intro m
    induction m with
    | zero=>intro _; rfl
    | succ m ih =>
     intro hm
     simp only [PD,ih (by omega),hall m (by omega),show m < ops.size by omega,decide_true]
   exact this _ (Nat.le_refl _)
  rw [hP] at h1
  rcases h2 with ⟨_,g1,g2⟩ | ⟨g0,rfl,g1,g2,_⟩
  ·exact hQ a1 w1 π1 lm1 g1 h1 g2 hi.df
  ·have hkn : ops.size ≤ k:=by
    by_cases hkn : k < ops.size
    ·rw [hall k hkn] at g0; cases g0
    ·omega
   have hKs : K = ops.size:=by rcases hKe with h | h <;> omega
   obtain ⟨i1,i2⟩:=isF (fun i=>listed.getD i false) (fun o ho=>hall o (by have:=(z4 o ho).2.1; omega))
   rw [hKs,hSn] at i1 i2 z1
   exact hQ a1 w1 π1 lm1 (g1.congr i1.symm i2.symm) h1 (g2.tr hw (by rw [z1]; simp) (fun i hi=>by rw [z1]; simp only []; rw [List.getElem?_append_left hi]) (by rw [z1]) (by rw [z1])) hi.df
 have stuck : ∀ (listed : Array Bool) (a1 : Act) (w1 : World),DI ops V B π lm s s' FO NB ts w a k listed a1 w1 → Region.ready .any ops listed = [] → ∀ j,j < ops.size → listed.getD j false = true:=by
  intro listed a1 w1 hi hnil j
  induction j using Nat.strongRecOn with
  | _ j ih =>
   intro hj
   cases hl : listed.getD j false with
   | true=>rfl
   | false =>
    exfalso
    have hj' : j < listed.size:=by rw [hi.size]; exact hj
    have : j ∈ Region.ready .any ops listed:=by
     rw [mem_ready]
     refine ⟨?_,ops[j],Array.getElem?_eq_getElem hj,fun e he hb=>?_⟩
     ·rw [Array.getD_eq_getD_getElem?,Array.getElem?_eq_getElem hj'] at hl ⊢
      simpa using hl
     ·have:=hback j ops[j] (by rw [Array.getElem?_toList]; exact Array.getElem?_eq_getElem hj) e (by simpa using he) hb
      exact ih e.on this (by omega)
    rw [hnil] at this; cases this
 intro fuel
 induction fuel with
 | zero =>
  intro listed a1 w1 hf hi
  have hall : ∀ j,j < ops.size → listed.getD j false = true:=fun j hj=>by
   cases hl : listed.getD j false with
   | true=>rfl
   | false =>
    have:=unlisted_set (by rw [hi.size]; exact hj) hl
    omega
  refine ⟨?_,finish listed a1 w1 hi hall⟩
  cases hrd : Region.ready .any ops listed with
  | nil=>rfl
  | cons j l =>
   exfalso
   have : j ∈ Region.ready .any ops listed:=by rw [hrd]; simp
   rw [mem_ready] at this
   obtain ⟨h1,o,ho,_⟩:=this
   have hj:=(Array.getElem?_eq_some_iff.1 ho).1
   have:=hall j hj
   rw [Array.getD_eq_getD_getElem?] at h1 this
   cases hx : listed[j]? with
   | none=>rw [hx] at h1; simp at h1
   | some b=>rw [hx] at h1 this; simp at h1 this; rw [h1] at this; cases this
 | succ fuel ih =>
  intro listed a1 w1 hf hi
  refine ⟨fun hnil=>finish listed a1 w1 hi (stuck listed a1 w1 hi hnil),?_⟩
  intro j hj
  rw [mem_ready] at hj
  obtain ⟨hlj,o,ho,hedges⟩:=hj
  have hjn:=(Array.getElem?_eq_some_iff.1 ho).1
  have hjs : j < listed.size:=by rw [hi.size]; exact hjn
  have hl0 : listed.getD j false = false:=by
   rw [Array.getD_eq_getD_getElem?,Array.getElem?_eq_getElem hjs] at hlj ⊢
   simpa using hlj
  have ho' : ops.toList[j]? = some o:=by rw [Array.getElem?_toList]; exact ho
  have hed : ∀ e ∈ o.after.toList,Region.binds .any e = true → listed.getD e.on false = true:=fun e he hb=>hedges e (by simpa using he) hb
  have had : ∀ i,(nthD 0 (befs ops.toList []) j).testBit i = true → listed.getD i false = true:=fun i hb=>bit_listed (L:=fun i=>listed.getD i false) hi.closed j o i ho' hed hb
  have behind : ∀ (i : Nat) (x : Oper),ops[i]? = some x → (nthD 0 (befs ops.toList []) i).testBit j = true → listed.getD i false = false:=fun i x hx hb=>by
   cases hli : listed.getD i false with
   | false=>rfl
   | true =>
    have hx' : ops.toList[i]? = some x:=by rw [Array.getElem?_toList]; exact hx
    have this : listed.getD j false = true:=bit_listed (L:=fun i=>listed.getD i false) hi.closed i x j hx' (hi.closed i x hli hx') hb
    rw [hl0] at this; cases this
  have slot : ∀ t ∈ o.looksAt ops,(PD ops.toList V (fun i=>listed.getD i false) ts ops.size)[t]? = (T j)[t]?:=fun t ht=>by
   have e:=(PD_lt (ops:=ops.toList) (V:=V) hT0 (n:=ops.size) (by simp) (fun i o _ ho=>hT i o (by rw [← Array.getElem?_toList]; exact ho)) j ops.size (by omega))
   rw [show min j ops.size = j from by omega] at e
   rw [← e]
   refine (PD_slot ops.size ?_).1
   intro i x hin hx hd
   have hx' : ops[i]? = some x:=by rw [← Array.getElem?_toList]; exact hx
   rcases Nat.lt_trichotomy i j with h1 | h1 | h1
   ·have : clash ops x o = true:=by simp [clash,dstIn,hd,ht]
    rw [had i (clashBit i j x o hx' ho h1 this)]
    simp [h1]
   ·subst h1; simp only [hl0]; simp
   ·have : clash ops o x = true:=by simp [clash,dstIn,hd,ht]
    rw [behind i x hx' (clashBit j i o x ho hx' h1 this)]
    simp; omega
  have more : PD ops.toList V (fun i=>(listed.setIfInBounds j true).getD i false) ts ops.size = put (PD ops.toList V (fun i=>listed.getD i false) ts ops.size) o.dst (V j):=by
   have:=PD_more (ops:=ops.toList) (V:=V) (D:=fun i=>listed.getD i false) (ts:=ts) ho' hl0 ops.size hjn (fun i x hji hLi hx t hd e=>by
    have hx' : ops[i]? = some x:=by rw [← Array.getElem?_toList]; exact hx
    have : clash ops o x = true:=by simp [clash,dstIn,hd,e]
    have:=behind i x hx' (clashBit j i o x ho hx' hji this)
    have hLi' : listed.getD i false = true:=hLi
    rw [this] at hLi'; cases hLi')
   rw [← this]
   congr 1
   funext i
   rw [getD_set _ _ _ hjs]
  have set1 : (fun i=>(listed.setIfInBounds j true).getD i false) = with1 (fun i=>listed.getD i false) j:=by
   funext i; rw [getD_set _ _ _ hjs]; rfl
  obtain ⟨π1,lm1,hlr,hst⟩:=hi.st
  have setk : j ≠ k → (listed.setIfInBounds j true).getD k false = listed.getD k false:=fun h=>by
   rw [getD_set _ _ _ hjs,if_neg (Ne.symm h)]
  have next : ∀ (c : Value) (w2 : World) (π2 : Inj) (lm2 : List Nat),VR π2 lm2 (V j) c → LR π2 lm2 (PD ops.toList V (fun i=>listed.getD i false) ts ops.size) a1.tmps.toList →
    (((listed.setIfInBounds j true).getD k false = true ∧ WR B π2 lm2 s' w2 ∧ Tr π π2 lm lm2 s s' w w2) ∨
     ((listed.setIfInBounds j true).getD k false = false ∧ lm2 = lm ∧ WR B π2 lm (partSt s FO NB (with1 (fun i=>listed.getD i false) j)) w2 ∧ Grow s π π2 w w2 ∧ ∀ (p o : Nat),FO[p]? = some o → with1 (fun i=>listed.getD i false) j o = false → π2 (s.heap.length + p) = none)) →
    wpAnyIn (Fr ro) N P .any ops Q fuel (listed.setIfInBounds j true) (a1.put o.dst c) w2:=by
   intro c w2 π2 lm2 hv hl2 hs2
   refine ih _ _ _ (by have:=unlisted_set hjs hl0; omega) ⟨by simp [hi.size],?_,⟨π2,lm2,?_,?_⟩,(put_defers _ _ _).trans hi.df⟩
   ·intro i x hLi hx e he hb
    rw [getD_set _ _ _ hjs] at hLi ⊢
    split at hLi
    ·rename_i hij
     subst hij
     rw [ho'] at hx
     obtain rfl:=Option.some.inj hx
     rw [hed e he hb]; simp
    ·rw [hi.closed i x hLi hx e he hb]; simp
   ·rw [more]; exact put_rel hl2 hv
   ·rw [set1]
    rcases hs2 with h | ⟨h1,h2,h3,h4,h5⟩
    ·exact .inl h
    ·exact .inr ⟨h1,h2,h3,h4,fun p o ho hd=>h5 p o ho (by rw [← set1]; exact hd)⟩
  have congrOp : ∀ sx : St,evOp P (PD ops.toList V (fun i=>listed.getD i false) ts ops.size) o sx = evOp P (T j) o sx:=fun sx =>
   evOp_congr (fun x hx=>eval_slot (fun t ht=>slot t (operand_looks hx ht))) sx
  have congrOp0 : ∀ sx : St,evOp0 P (PD ops.toList V (fun i=>listed.getD i false) ts ops.size) o sx = evOp0 P (T j) o sx:=fun sx =>
   evOp0_congr (fun x hx=>eval_slot (fun t ht=>slot t (operand_looks hx ht))) sx
  have sameHeap : (∀ (p x : Nat),FO[p]? = some x → x ≠ j) → partSt s FO NB (with1 (fun i=>listed.getD i false) j) = partSt s FO NB (fun i=>listed.getD i false):=fun h=>by
   unfold partSt
   rw [holes_congr (D:=with1 (fun i=>listed.getD i false) j) (D':=fun i=>listed.getD i false) (fun x hx=>by
    obtain ⟨p,hp,rfl⟩:=List.getElem_of_mem hx
    simp [with1,h p _ (List.getElem?_eq_getElem hp)])]
  have full : j = k → ∀ x ∈ FO,listed.getD x false = true:=fun hjk x hx=>by
   obtain ⟨_,h2,o2,h3,h4,h5⟩:=z4 x hx
   rcases early x o2 h3 (by omega) h4 h5 with h | h
   ·omega
   ·rw [hjk] at had; exact had x h
  simp only [wpOpIn,ho]
  rw [wanted_rel hlr,wanted_congr slot]
  rcases (hF j o ho).2 with ⟨f1,f2,f3,f4,_⟩ | ⟨f1,rfl,f2,f3,_⟩ | ⟨f1,hjk,cnt,f2,f3,_⟩
  ·
   rw [f1]
   simp only [Bool.false_eq_true,if_false]
   refine ⟨fun _ _=>trivial,next undef w1 π1 lm1 (by rw [f2]; exact .undef) hlr ?_⟩
   by_cases hjk : j = k
   ·subst hjk
    rcases hst with ⟨g0,_,_⟩ | ⟨g0,rfl,g1,g2,g3⟩
    ·rw [hl0] at g0; cases g0
    ·left
     have hKj : K = j:=by rcases hKe with h | h <;> omega
     have hs' : s' = S K:=by rw [← hSn,(later ops.size (by omega) (Nat.le_refl _)).1,f3,hKj]
     obtain ⟨i1,i2⟩:=isF (fun i=>listed.getD i false) (full rfl)
     refine ⟨by rw [getD_set _ _ _ hjs,if_pos rfl],?_,?_⟩
     ·rw [hs']; exact g1.congr i1.symm i2.symm
     ·rw [hs']; exact g2.tr hw (by rw [z1]; simp) (fun i hi=>by rw [z1]; simp only []; rw [List.getElem?_append_left hi]) (by rw [z1]) (by rw [z1])
   ·rw [setk hjk]
    rcases hst with h | ⟨g0,rfl,g1,g2,g3⟩
    ·exact .inl h
    ·right
     have hno : ∀ (p x : Nat),FO[p]? = some x → x ≠ j:=fun p x hx hxj=>by
      by_cases hjK : j < K
      ·obtain ⟨q,_,b2,b3,b4⟩:=before j hjK
       have:=(range j hjK q 0 b2 b3 (by rw [f4]; simp) b4).1 p x hx
       have:=this.1 hxj
       omega
      ·have:=(z4 x (List.mem_of_getElem? hx)).2.1
       omega
     refine ⟨g0,rfl,?_,g2,fun p x hx hd=>g3 p x hx ?_⟩
     ·rw [sameHeap hno]; exact g1
     ·simpa [with1,hno p x hx] using hd
  ·
   rw [f1]
   simp only [if_true]
   rcases hst with ⟨g0,_,_⟩ | ⟨g0,rfl,g1,g2,g3⟩
   ·rw [hl0] at g0; cases g0
   ·have hKj : K = j:=by rcases hKe with h | h <;> omega
    have hs' : s' = S (j + 1):=by rw [← hSn,(later ops.size (by omega) (Nat.le_refl _)).1]
    obtain ⟨i1,i2⟩:=isF (fun i=>listed.getD i false) (full rfl)
    rw [hKj] at i1 i2 z1
    have g1' : WR B π1 lm1 (S j) w1:=g1.congr i1.symm i2.symm
    have g2' : Tr π π1 lm1 lm1 s (S j) w w1:=g2.tr hw (by rw [z1]; simp) (fun i hi=>by rw [z1]; simp only []; rw [List.getElem?_append_left hi]) (by rw [z1]) (by rw [z1])
    have f2' : evOneV P rec o (PD ops.toList V (fun i=>listed.getD i false) ts ops.size) (S j) = some (V j,S (j + 1)):=by
     unfold evOneV at f2 ⊢
     rw [congrOp]; exact f2
    refine one_sound hname hc hr f2' g1' (Nat.le_trans hB g2.size) hlr N ro _ Q ?_
    intro c w2 π2 lm2 m0 m1 m2
    exact next c w2 π2 lm2 m0 (m2.lr hlr) (.inl ⟨by rw [getD_set _ _ _ hjs,if_pos rfl],by rw [hs']; exact m1,by rw [hs']; exact g2'.trans m2⟩)
  ·
   rw [f1]
   simp only [if_true]
   rcases hst with ⟨g0,g1,g2⟩ | ⟨g0,rfl,g1,g2,g3⟩
   ·
    have hkn : k < ops.size:=by
     by_cases h : k < ops.size
     ·exact h
     ·rw [Array.getD_eq_getD_getElem?,Array.getElem?_eq_none (by rw [hi.size]; omega)] at g0
      cases g0
    have hs' : s' = S (k + 1):=by rw [← hSn,(later ops.size (by omega) (Nat.le_refl _)).1]
    have hnob : (nthD 0 (befs ops.toList []) k).testBit j = false:=by
     cases hb : (nthD 0 (befs ops.toList []) k).testBit j with
     | false=>rfl
     | true =>
      have:=behind k ops[k] (Array.getElem?_eq_getElem hkn) hb
      rw [g0] at this; cases this
    have hev : evOneV P rec o (PD ops.toList V (fun i=>listed.getD i false) ts ops.size) s' = some (V j,s'):=by
     cases hp : pureS o.op with
     | true =>
      unfold stepN at f2
      split at f2
      ·rename_i v0 s0 c0 hop
       rw [if_pos hp] at f2
       split at f2
       ·rename_i hc0
        subst hc0
        obtain ⟨v',e1,e2⟩:=evOp_pureS hp hop (by simp)
        simp only [ORes.val.injEq] at e1
        obtain ⟨rfl,_,_⟩:=e1
        simp only [Option.some.injEq,Prod.mk.injEq] at f2
        obtain ⟨rfl,_,_⟩:=f2
        unfold evOneV
        rw [congrOp,e2 s']
       ·cases f2
      ·rename_i f args hop
       obtain ⟨v',e1,_⟩:=evOp_pureS hp hop (by simp)
       cases e1
      ·cases f2
     | false =>
      cases hld : isLoad o.op with
      | false =>
       exfalso
       rcases early j o ho hjk hp hld with h | h
       ·omega
       ·rw [hnob] at h; cases h
      | true =>
       cases hop : o.op with
       | load t x =>
        obtain ⟨b,hbl,hsx,_,hbl2,_,hany⟩:=stepN_load hop f2
        unfold evOneV
        rw [congrOp]
        have hh:=lateHeap j o b ho hkn hjk hnob hld f1 hbl
        have hblk : blockAt s' b = blockAt (S j) b:=by
         unfold blockAt
         rw [nthD_eq,nthD_eq,hs',hh]
         congr 1
         by_cases hjk2 : j < k
         ·obtain ⟨nb',oe',g3,_,_,_⟩:=trace_grows hF j (k - j) (by omega) (fun x _ h=>by omega)
          rw [show j + (k - j) = k by omega] at g3
          rw [g3]; simp only []
          rw [List.getElem?_append_left hbl2]
         ·rw [← hh,(later j (by omega) (by omega)).1]
        rw [hany s' hblk]
       | _=>rw [hop] at hld; simp [isLoad] at hld
    refine one_sound hname hc hr hev g1 (Nat.le_trans hB g2.size) hlr N ro _ Q ?_
    intro c w2 π2 lm2 m0 m1 m2
    exact next c w2 π2 lm2 m0 (m2.lr hlr) (.inl ⟨by rw [setk hjk]; exact g0,m1,g2.trans m2⟩)
   ·
    have hB1 : B ≤ w1.heap.size:=Nat.le_trans hB g2.size
    have stay : (∀ (p x : Nat),FO[p]? = some x → x ≠ j) → evOneV P rec o (PD ops.toList V (fun i=>listed.getD i false) ts ops.size) (partSt s FO NB (fun i=>listed.getD i false)) = some (V j,partSt s FO NB (fun i=>listed.getD i false)) →
      o.wpIn (Fr ro) N P a1 w1 (wpAnyIn (Fr ro) N P .any ops Q fuel (listed.setIfInBounds j true)) Q:=fun hno hev=>by
     refine one_sound hname hc hr hev g1 hB1 hlr N ro _ Q ?_
     intro c w2 π2 lm2 m0 m1 m2
     obtain ⟨rfl,rfl,hk⟩:=still_step g1 m1 m2 (by rw [partSt_len hl]; simp [partSt])
     refine next c w2 π2 lm2 m0 hlr (.inr ⟨by rw [setk hjk]; exact g0,rfl,?_,?_,fun p x hx hd=>g3 p x hx (by simpa [with1,hno p x hx] using hd)⟩)
     ·rw [sameHeap hno]; exact m1
     ·exact g2.then m2.os m2.tape m2.output m2.size hk (fun i _=>rfl) (fun i b n hi hp=>.inl ⟨i,n,hi,hp⟩)
    by_cases hjK : j < K
    case neg =>
     have hno : ∀ (p x : Nat),FO[p]? = some x → x ≠ j:=fun p x hx hxj=>by
      have:=(z4 x (List.mem_of_getElem? hx)).2.1
      omega
     have hKk' : K = k:=by rcases hKe with h' | h' <;> omega
     have hkj : k < j:=by omega
     refine stay hno ?_
     cases hp : pureS o.op with
     | true =>
      unfold stepN at f2
      split at f2
      ·rename_i v0 s0 c0 hop
       rw [if_pos hp] at f2
       split at f2
       ·rename_i hc0
        subst hc0
        obtain ⟨v',e1,e2⟩:=evOp_pureS hp hop (by simp)
        simp only [ORes.val.injEq] at e1
        obtain ⟨rfl,_,_⟩:=e1
        simp only [Option.some.injEq,Prod.mk.injEq] at f2
        obtain ⟨rfl,_,_⟩:=f2
        unfold evOneV
        rw [congrOp,e2]
       ·cases f2
      ·rename_i f args hop
       obtain ⟨v',e1,_⟩:=evOp_pureS hp hop (by simp)
       cases e1
      ·cases f2
     | false =>
      cases hld : isLoad o.op with
      | false =>
       exfalso
       rcases early j o ho hjk hp hld with h | h
       ·omega
       ·obtain ⟨hk1,hk2⟩:=bitk j h
        omega
      | true =>
       have hnob : (nthD 0 (befs ops.toList []) k).testBit j = false:=by
        cases hb : (nthD 0 (befs ops.toList []) k).testBit j with
        | false=>rfl
        | true=>have:=(bitk j hb).2; omega
       cases hop : o.op with
       | load t x =>
        obtain ⟨b,hbl,hsx,_,hbl2,hbok,hany⟩:=stepN_load hop f2
        unfold evOneV
        rw [congrOp]
        have hh:=lateHeap j o b ho (by omega) hjk hnob hld f1 hbl
        have hOj : O j = FO:=by
         rw [(later j hkj (by omega)).2,← z2,hKk']
         rcases (hF k ops[k] (Array.getElem?_eq_getElem (by omega))).2 with ⟨_,_,_,h,_⟩ | ⟨_,_,_,h,_⟩ | ⟨_,h,_⟩
         ·exact h
         ·exact h
         ·exact absurd rfl h
        have hSk : (S j).heap[b]? = (S K).heap[b]?:=by rw [(later j hkj (by omega)).1,hh,hKk']
        have hblk : blockAt (partSt s FO NB (fun i=>listed.getD i false)) b = blockAt (S j) b:=by
         unfold blockAt
         rw [nthD_eq,nthD_eq,hSk,z1]
         congr 1
         simp only [Bool.or_eq_true,Nat.blt_eq] at hbok
         by_cases hb : b < s.heap.length
         ·rw [partSt_old _ hb,List.getElem?_append_left hb]
         ·have hbit:=hbok.resolve_left hb
          obtain ⟨p,rfl⟩ : ∃ p,b = s.heap.length + p:=⟨b - s.heap.length,by omega⟩
          rw [Nat.add_sub_cancel_left,hOj] at hbit
          by_cases hpn : p < NB.length
          ·have hFp : FO[p]? = some (FO[p]'(by omega)):=List.getElem?_eq_getElem (by omega)
           have hNp : NB[p]? = some NB[p]:=List.getElem?_eq_getElem hpn
           rw [nthD_eq 0 FO,hFp] at hbit
           have hL : listed.getD (FO[p]'(by omega)) false = true:=had _ hbit
           rw [partSt_new hl' _ hFp hNp,List.getElem?_append_right (by omega),Nat.add_sub_cancel_left,hNp]
           rw [if_pos hL]
          ·rw [List.getElem?_eq_none (by rw [partSt_len hl']; omega),List.getElem?_eq_none (by simp; omega)]
        rw [hany _ hblk]
       | _=>rw [hop] at hld; simp [isLoad] at hld
    obtain ⟨q,b1,b2,b3,b4⟩:=before j hjK
    obtain ⟨r1,r2,r3⟩:=range j hjK q cnt b2 b3 f3 b4
    have no0 : cnt = 0 → ∀ (p x : Nat),FO[p]? = some x → x ≠ j:=fun h0 p x hx hxj=>by
     have:=(r1 p x hx).1 hxj; omega
    have hsub : ∀ x ∈ FO.take q,(nthD 0 (befs ops.toList []) j).testBit x = true → listed.getD x false = true:=fun x _ hb=>had x hb
    have hSlen : (S j).heap.length = s.heap.length + q:=by rw [b1]; simp; omega
    by_cases hldd : isLoad o.op = true
    ·
     obtain ⟨t,x,hload⟩ : ∃ t x,o.op = .load t x:=by cases h : o.op <;> rw [h] at hldd <;> first | exact ⟨_,_,rfl⟩ | (simp [isLoad] at hldd)
     obtain ⟨b,_,_,h0c,hbl2,hbok,hany⟩:=stepN_load hload f2
     refine stay (no0 h0c) ?_
     unfold evOneV
     rw [congrOp]
     have hblk : blockAt (partSt s FO NB (fun i=>listed.getD i false)) b = blockAt (S j) b:=by
      unfold blockAt
      rw [nthD_eq,nthD_eq]
      congr 1
      simp only [Bool.or_eq_true,Nat.blt_eq] at hbok
      by_cases hb : b < s.heap.length
      ·rw [partSt_old _ hb,b1,List.getElem?_append_left hb]
      ·have hbit:=hbok.resolve_left hb
       obtain ⟨p,rfl⟩ : ∃ p,b = s.heap.length + p:=⟨b - s.heap.length,by omega⟩
       rw [Nat.add_sub_cancel_left] at hbit
       have hpq : p < q:=by omega
       have hpn : p < NB.length:=by omega
       have hFp : FO[p]? = some (FO[p]'(by omega)):=List.getElem?_eq_getElem (by omega)
       have hNp : NB[p]? = some NB[p]:=List.getElem?_eq_getElem hpn
       rw [b2,nthD_eq 0 (List.take q FO),List.getElem?_take,if_pos hpq,hFp] at hbit
       rw [partSt_new hl _ hFp hNp,b1]
       rw [List.getElem?_append_right (by omega),Nat.add_sub_cancel_left,List.getElem?_take,if_pos hpq,hNp]
       have hL : listed.getD (FO[p]'(by omega)) false = true:=had _ hbit
       rw [if_pos hL]
     rw [hany _ hblk]
    unfold stepN at f2
    split at f2
    ·rename_i v0 s0 c0 hop
     split at f2
     ·
      rename_i hp
      split at f2
      case isFalse=>cases f2
      rename_i hc0
      subst hc0
      simp only [Option.some.injEq,Prod.mk.injEq] at f2
      obtain ⟨rfl,_,rfl⟩:=f2
      obtain ⟨v',e1,e2⟩:=evOp_pureS hp hop (by simp)
      simp only [ORes.val.injEq] at e1
      obtain ⟨rfl,_,_⟩:=e1
      refine stay (no0 rfl) ?_
      unfold evOneV
      rw [congrOp,e2]
     ·split at f2
      ·
       rename_i ha
       split at f2
       case isFalse=>cases f2
       rename_i h00
       have hop:=evOp_of0 h00 hop
       simp only [Option.some.injEq,Prod.mk.injEq] at f2
       obtain ⟨rfl,hs0,rfl⟩:=f2
       obtain ⟨e,cs,vf,c0',c,k1,k2,k3,k4,k5,k6⟩:=evOp_al (s:=S j) ha (by rw [congrOp0]; exact hop) hlr w1
       have hnb : NB[q]? = some (some { elem:=e,cells:=cs,ro:=false }):=by
        have h1:=hs0
        rw [k2,r2,b1] at h1
        have:=congrArg St.heap h1
        simp only [newBlk,List.append_assoc] at this
        have:=List.append_cancel_left this
        have h3 : (NB.take (q + 1))[q]? = some (some { elem:=e,cells:=cs,ro:=false }):=by
         rw [← this,List.getElem?_append_right (by rw [List.length_take]; omega),List.length_take,show q - min q NB.length = 0 by omega]
         rfl
        rw [List.getElem?_take,if_pos (by omega)] at h3
        exact h3
       have hFq : FO[q]? = some j:=by
        have hlt : q < FO.length:=by rw [hl]; exact (List.getElem?_eq_some_iff.1 hnb).1
        have h1 : FO[q]? = some FO[q]:=List.getElem?_eq_getElem hlt
        rw [h1,(r1 q _ h1).2 (by omega)]
       obtain ⟨n1,n2,n3,n4⟩:=alloc_step (D:=fun i=>listed.getD i false) (s:=s) (π:=π) (w:=w) hl (fun p x hx=>by have:=r1 p x hx; omega) hFq hl0 hnb g1 hB1 g2 g3 k4
       refine ⟨fun _ _=>trivial,?_⟩
       rw [semAt_exec k6,k3]
       have hfin:=next c0' _ _ _ (by rw [k1,hSlen]; exact k5 _ lm1 _ (by simp [Inj.more])) (hlr.mono n4 (fun _ _ x=>x)) (.inr ⟨by rw [setk hjk]; exact g0,rfl,n1,n2,n3⟩)
       exact hfin
      ·split at f2
       ·rename_i t x hload
        exact absurd (by rw [hload]; rfl) hldd
       ·cases f2
    ·rename_i f args hop
     split at f2
     ·rename_i hck
      simp only [Bool.and_eq_true] at hck
      obtain ⟨ck1,ck2⟩:=hck
      split at f2
      ·rename_i v s1 qq hcall
       obtain ⟨⟨fn,body,u1,u2⟩,u3,u4⟩:=hc _ _ _ _ _ _ hcall
       have hop' : evOp P (PD ops.toList V (fun i=>listed.getD i false) ts ops.size) o (S j) = some (.call f args):=by rw [congrOp]; exact hop
       obtain ⟨⟨vs,k1,k2⟩,hd⟩:=evOp_call hlr hop' u1 u2 (hname f fn u1) w1
       rw [b2] at ck2 hcall u4
       obtain ⟨x1,x2,x3,x4,x5⟩:=sub_wr (D:=fun i=>listed.getD i false) (q:=q) hl b3 b1 hsub ck2 hw g1 g2
       rw [hSlen] at ck1
       have facts : V j = v ∧ s.heap.length + q ≤ s1.lo ∧ s1.nd = (maskSt (nthD 0 (befs ops.toList []) j) s.heap.length (FO.take q) (S j)).nd ∧
         s1.loops.length = (maskSt (nthD 0 (befs ops.toList []) j) s.heap.length (FO.take q) (S j)).loops.length ∧ s1.heap.length = s.heap.length + q + cnt ∧ ∀ i,i < cnt → NB[q + i]? = s1.heap[s.heap.length + q + i]?:=by
        split at f2
        ·rename_i hqq
         simp only [Option.some.injEq,Prod.mk.injEq] at f2
         obtain ⟨rfl,_,rfl⟩:=f2
         have hs1:=u3 hqq
         rw [b2] at hs1
         subst hs1
         refine ⟨rfl,?_,rfl,rfl,by rw [x2]; rfl,fun i hi=>by omega⟩
         simp only [maskSt]; omega
        ·split at f2
         ·rename_i hok2
          simp only [Bool.and_eq_true,Nat.ble_eq,Nat.beq_eq] at hok2
          obtain ⟨y1,hge,y2,y3⟩:=hok2
          simp only [Option.some.injEq,Prod.mk.injEq] at f2
          obtain ⟨rfl,hS1,hcn⟩:=f2
          refine ⟨rfl,by omega,by simpa [maskSt] using y2,by simpa [maskSt] using y3,by omega,fun i hi=>?_⟩
          rw [r2,b1] at hS1
          have:=congrArg St.heap hS1
          simp only [List.append_assoc] at this
          have:=List.append_cancel_left this
          have h3 : (NB.take (q + cnt))[q + i]? = s1.heap[s.heap.length + q + i]?:=by
           rw [← this,List.getElem?_append_right (by simp; omega),List.getElem?_drop]
           congr 1
           simp; omega
          rw [List.getElem?_take,if_pos (by omega)] at h3
          exact h3
         ·cases f2
       obtain ⟨rfl,v1,v2,v3,v4,v5⟩:=facts
       refine ⟨fun _ _=>trivial,?_⟩
       rw [semAt_exec hd,k1]
       refine ⟨fun hh=>by simp [Fr,Fence.wide] at hh,(u4 B _ _ w1 vs (N - 1) ro x1 hB1 (refsL_cut k2 ck1)).mono ?_⟩
       rintro e w2 ⟨c,π2,lm2,rfl,m1,m2,m3⟩
       obtain ⟨π3,n1,n2,n3,n4,n5,rfl⟩:=call_step (D:=fun i=>listed.getD i false) hl r1 hl0 g1 g2 g3 x2 x5 x1 m2 m3 v1 v2 v3 v4 v5
       exact next c w2 π3 _ (m1.mono n5 (fun _ _ x=>x)) (hlr.mono n4 (fun _ _ x=>x)) (.inr ⟨by rw [setk hjk]; exact g0,rfl,n1,n2,n3⟩)
      ·cases f2
     ·cases f2
    ·cases f2
theorem start_wr {FO : List Nat} {NB : List (Option ABlk)} (hl : FO.length = NB.length) (h : WR B π lm s w) : WR B π lm (partSt s FO NB (fun _=>false)) w:=by
 have get : ∀ (i : Nat) (A : ABlk),(partSt s FO NB (fun _=>false)).heap[i]? = some (some A) → s.heap[i]? = some (some A):=fun i A hA=>by
  by_cases hi : i < s.heap.length
  ·rw [partSt_old _ hi] at hA; exact hA
  ·obtain ⟨p,rfl⟩ : ∃ p,i = s.heap.length + p:=⟨i - s.heap.length,by omega⟩
   have hp:=(List.getElem?_eq_some_iff.1 hA).1
   rw [partSt_len hl] at hp
   rw [partSt_new hl _ (List.getElem?_eq_getElem (show p < FO.length by omega)) (List.getElem?_eq_getElem (show p < NB.length by omega))] at hA
   simp at hA
 exact {
  dom:=fun i x hx=>by rw [partSt_len hl]; have:=h.dom i x hx; omega
  blk:=fun i A hA=>h.blk i A (get i A hA)
  inj:=fun i j A A' b n m h1 h2=>h.inj i j A A' b n m (get i A h1) (get j A' h2)
  lsz:=h.lsz
  linj:=h.linj
  loop:=h.loop }
theorem draw_sound {rec : Ev} (hmix : P.follows .mixedOrders = true) (hname : ∀ (f : Nat) (fn : Func),P.funcs[f]? = some fn → fn.name ≠ "runtime.NumGoroutine") (hc : SCall P rec.call) (hr : SRound P rec.round) (id : Nat) {ops : Array Oper} {k : Nat}
  (hok : drawOk ops k = true) {ts' : List AV} {s' : St} (h : evDraw P rec ops.toList k s.heap.length (befs ops.toList []) 0 ops.toList ts s [] [] none = some (ts',s')) (hw : WR B π lm s w) (hB : B ≤ w.heap.size) (r : LR π lm ts a.tmps.toList) (N : Nat) (ro : Option Nat)
  (Q : Exit → Act → World → Prop) (hQ : ∀ a' w' π' lm',WR B π' lm' s' w' → LR π' lm' ts' a'.tmps.toList → Tr π π' lm lm' s s' w w' → a'.defers = a.defers → Q .normal a' w') :
  (Code.region id ops true).wpIn (Fr ro) N P Q a w:=by
 obtain ⟨T,V,S,O,L,Wr,e1,e2,e3,_,_,e9,e4,e5,e6⟩:=draw_data (k:=k) ops.toList 0 ts s [] [] none (by simp) (by simp) h
 refine wpIn_region_any hmix ?_
 obtain ⟨FO,NB,hl,hall⟩:=draw_any hname hc hr hok e1 e2 e3 e9 e4 e5 (fun j o ho=>e6 j o (Nat.zero_le _) ho) hw hB N ro Q hQ
 refine hall ops.size _ a _ ?_ ?_
 ·simp [unlisted,List.countP_replicate]
 ·have hn : ∀ i,(Array.replicate ops.size false).getD i false = false:=fun i=>by
   rw [Array.getD_eq_getD_getElem?,Array.getElem?_replicate]; split <;> rfl
  have hfun : (fun i=>(Array.replicate ops.size false).getD i false) = fun _=>false:=funext hn
  refine ⟨by simp,?_,⟨π,lm,?_,.inr ⟨hn k,rfl,?_,?_,?_⟩⟩,rfl⟩
  ·intro j o hj; rw [hn] at hj; cases hj
  ·have : ∀ m,PD ops.toList V (fun i=>(Array.replicate ops.size false).getD i false) ts m = ts:=by
    intro m
    induction m with
    | zero=>rfl
    | succ m ih =>
     rw [PD,if_neg (by rw [hn]; simp)]
     exact ih
   rw [this]; exact r
  ·rw [hfun]; exact (start_wr hl hw).heapEq rfl
  ·exact ⟨rfl,rfl,rfl,Nat.le_refl _,fun _ _=>rfl,fun _ _=>rfl,fun i b n hi hp=>absurd (hw.dom _ _ hp) (by omega)⟩
  ·intro p o ho _
   cases hx : π (s.heap.length + p) with
   | none=>rfl
   | some x=>exact absurd (hw.dom _ _ hx) (by omega)
end Go.Ev
