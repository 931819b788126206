/- Regions that draw their order, of the second kind: what works on memory comes in the order of the text, but for loads of what is not written meanwhile. -/
import Derived.Test.YtllecfhfhcmpaaaEvT
namespace Go.Ev
open Go.RowKit (Below)
set_option linter.unusedSectionVars false
variable [Rho] [Know] [KnowOk]
variable {P : Program} {B : Nat} {π : Inj} {lm : List Nat} {s : St} {w : World} {ts : List AV} {a : Act}
def StepC (P : Program) (rec : Ev) (ops : Array Oper) (ms : List Nat) (T : Nat → List AV) (V : Nat → AV) (S : Nat → St) (Ld : Nat → List (Nat × Nat)) (Mo : Nat → List (Nat × Eff × Nat)) (j : Nat) (o : Oper) : Prop:=
 T (j + 1) = put (T j) o.dst (V j) ∧
 ((wantedA ops.toList o (T j) = false ∧ V j = undefA ∧ S (j + 1) = S j ∧ Ld (j + 1) = Ld j ∧ Mo (j + 1) = Mo j) ∨
  (wantedA ops.toList o (T j) = true ∧ pureS o.op = true ∧ (∃ s0,evOp P (T j) o (S j) = some (.val (V j) s0 0)) ∧ S (j + 1) = S j ∧ Ld (j + 1) = Ld j ∧ Mo (j + 1) = Mo j) ∨
  (wantedA ops.toList o (T j) = true ∧ pureS o.op = false ∧ isLoad o.op = true ∧ (∃ s0 c b,evOp P (T j) o (S j) = some (.val (V j) s0 c) ∧ blkOf (T j) o = some b ∧
     (Mo j).all (fun x=>(nthD 0 ms j).testBit x.1 || effOk x.2.1 x.2.2 b) = true ∧ Ld (j + 1) = (j,b) :: Ld j) ∧ S (j + 1) = S j ∧ Mo (j + 1) = Mo j) ∨
  (wantedA ops.toList o (T j) = true ∧ pureS o.op = false ∧ isLoad o.op = false ∧ ∃ q,evOneQ P rec o (T j) (S j) = some (V j,S (j + 1),q) ∧
     (Ld j).all (fun x=>(nthD 0 ms j).testBit x.1 || effOk (effOf (T j) o q) (S j).heap.length x.2) = true ∧ Ld (j + 1) = Ld j ∧ Mo (j + 1) = (j,effOf (T j) o q,(S j).heap.length) :: Mo j))
theorem chain_data {rec : Ev} {ops : Array Oper} {ms : List Nat} {s' : St} {ts' : List AV} : ∀ (rest : List Oper) (i : Nat) (ts : List AV) (sx : St) (lds : List (Nat × Nat)) (mo : List (Nat × Eff × Nat)),(∀ (j : Nat),rest[j]? = ops[i + j]?) → i + rest.length = ops.size →
  evChain P rec ops.toList ms i rest ts sx lds mo = some (ts',s') →
  ∃ (T : Nat → List AV) (V : Nat → AV) (S : Nat → St) (Ld : Nat → List (Nat × Nat)) (Mo : Nat → List (Nat × Eff × Nat)),T i = ts ∧ S i = sx ∧ Ld i = lds ∧ Mo i = mo ∧ T ops.size = ts' ∧ S ops.size = s' ∧
   ∀ (j : Nat) (o : Oper),i ≤ j → ops[j]? = some o → StepC P rec ops ms T V S Ld Mo j o:=by
 intro rest
 induction rest with
 | nil =>
  intro i ts sx lds mo hops hlen h
  simp only [evChain,Option.some.injEq,Prod.mk.injEq] at h
  obtain ⟨rfl,rfl⟩:=h
  simp only [List.length_nil,Nat.add_zero] at hlen
  subst hlen
  refine ⟨fun _=>ts,fun _=>undefA,fun _=>sx,fun _=>lds,fun _=>mo,rfl,rfl,rfl,rfl,rfl,rfl,?_⟩
  intro j o hj ho
  have:=(Array.getElem?_eq_some_iff.1 ho).1; omega
 | cons o rest ih =>
  intro i ts sx lds mo hops hlen h
  have ho : ops[i]? = some o:=by have:=hops 0; simpa using this.symm
  have hrest : ∀ (j : Nat),rest[j]? = ops[i + 1 + j]?:=fun j=>by
   have:=hops (j + 1)
   simp only [List.getElem?_cons_succ] at this
   rw [this]; congr 1; omega
  have hlen' : i + 1 + rest.length = ops.size:=by simp only [List.length_cons] at hlen; omega
  have step : ∀ (v : AV) (sy : St) (lds' : List (Nat × Nat)) (mo' : List (Nat × Eff × Nat)),evChain P rec ops.toList ms (i + 1) rest (put ts o.dst v) sy lds' mo' = some (ts',s') →
    ((wantedA ops.toList o ts = false ∧ v = undefA ∧ sy = sx ∧ lds' = lds ∧ mo' = mo) ∨
     (wantedA ops.toList o ts = true ∧ pureS o.op = true ∧ (∃ s0,evOp P ts o sx = some (.val v s0 0)) ∧ sy = sx ∧ lds' = lds ∧ mo' = mo) ∨
     (wantedA ops.toList o ts = true ∧ pureS o.op = false ∧ isLoad o.op = true ∧ (∃ s0 c b,evOp P ts o sx = some (.val v s0 c) ∧ blkOf ts o = some b ∧
        mo.all (fun x=>(nthD 0 ms i).testBit x.1 || effOk x.2.1 x.2.2 b) = true ∧ lds' = (i,b) :: lds) ∧ sy = sx ∧ mo' = mo) ∨
     (wantedA ops.toList o ts = true ∧ pureS o.op = false ∧ isLoad o.op = false ∧ ∃ q,evOneQ P rec o ts sx = some (v,sy,q) ∧
        lds.all (fun x=>(nthD 0 ms i).testBit x.1 || effOk (effOf ts o q) sx.heap.length x.2) = true ∧ lds' = lds ∧ mo' = (i,effOf ts o q,sx.heap.length) :: mo)) →
    ∃ (T : Nat → List AV) (V : Nat → AV) (S : Nat → St) (Ld : Nat → List (Nat × Nat)) (Mo : Nat → List (Nat × Eff × Nat)),T i = ts ∧ S i = sx ∧ Ld i = lds ∧ Mo i = mo ∧ T ops.size = ts' ∧ S ops.size = s' ∧
     ∀ (j : Nat) (o : Oper),i ≤ j → ops[j]? = some o → StepC P rec ops ms T V S Ld Mo j o:=by
   intro v sy lds' mo' h1 h4
   obtain ⟨T,V,S,Ld,Mo,e1,e2,e3,e7,e4,e5,e6⟩:=ih (i + 1) _ sy lds' mo' hrest hlen' h1
   have hsz : ¬ ops.size ≤ i:=by omega
   refine ⟨fun j=>if j ≤ i then ts else T j,fun j=>if j = i then v else V j,fun j=>if j ≤ i then sx else S j,fun j=>if j ≤ i then lds else Ld j,fun j=>if j ≤ i then mo else Mo j,by simp,by simp,by simp,by simp,by simp only [if_neg hsz]; exact e4,by simp only [if_neg hsz]; exact e5,?_⟩
   intro j o' hj ho'
   by_cases hji : j = i
   ·subst hji
    rw [ho] at ho'
    obtain rfl:=Option.some.inj ho'
    simp only [StepC,if_neg (show ¬ j + 1 ≤ j by omega),if_pos (Nat.le_refl j),if_true,e1,e2,e3,e7]
    exact ⟨trivial,h4⟩
   ·have:=e6 j o' (by omega) ho'
    simp only [StepC,if_neg (show ¬ j + 1 ≤ i by omega),if_neg (show ¬ j ≤ i by omega),if_neg hji] at this ⊢
    exact this
  simp only [evChain] at h
  split at h
  ·rename_i hwant
   split at h
   ·rename_i hp
    split at h
    ·rename_i v s0 hop
     exact step v sx lds mo h (.inr (.inl ⟨hwant,hp,⟨s0,hop⟩,rfl,rfl,rfl⟩))
    ·cases h
   ·rename_i hp
    have hp' : pureS o.op = false:=by simpa using hp
    split at h
    ·rename_i hl
     split at h
     ·rename_i v s0 c hop
      split at h
      ·rename_i b hb
       split at h
       ·rename_i hall
        exact step v sx _ mo h (.inr (.inr (.inl ⟨hwant,hp',hl,⟨s0,c,b,hop,hb,hall,rfl⟩,rfl,rfl⟩)))
       ·cases h
      ·cases h
     ·cases h
    ·rename_i hl
     split at h
     ·rename_i v sy q hq
      split at h
      ·rename_i hall
       exact step v sy lds _ h (.inr (.inr (.inr ⟨hwant,hp',by simpa using hl,q,hq,hall,rfl,rfl⟩)))
      ·cases h
     ·cases h
  ·rename_i hwant
   exact step undefA sx lds mo h (.inl ⟨by simpa using hwant,rfl,rfl,rfl,rfl⟩)
theorem evOneQ_V {rec : Ev} {o : Oper} {v : AV} {s' : St} {q : Bool} (h : evOneQ P rec o ts s = some (v,s',q)) : evOneV P rec o ts s = some (v,s'):=by
 unfold evOneQ at h
 unfold evOneV
 split at h
 ·simp only [Option.some.injEq,Prod.mk.injEq] at h ⊢; exact ⟨h.1,h.2.1⟩
 ·split at h
  ·simp only [Option.some.injEq,Prod.mk.injEq] at h ⊢; exact ⟨h.1,h.2.1⟩
  ·cases h
 ·split at h
  ·rename_i e2; simp only [Option.some.injEq,Prod.mk.injEq] at h ⊢; exact ⟨h.1,h.2.1⟩
  ·cases h
 ·cases h
theorem alS_state0 {o : Oper} {v : AV} {s' : St} {k : Nat} (ha : alS o.op = true) (h : evOp0 P ts o s = some (.val v s' k)) : ∃ (e : TypeId) (cs : List AV),s' = newBlk s e cs:=by
 cases ho : o.op with
 | alloc t =>
  simp only [evOp0,ho,Option.map_eq_some_iff,ORes.val.injEq] at h
  obtain ⟨z,_,_,rfl,_⟩:=h
  exact ⟨_,_,rfl⟩
 | box t x =>
  simp only [evOp0,ho,Option.map_eq_some_iff,ORes.val.injEq] at h
  obtain ⟨z,_,_,rfl,_⟩:=h
  exact ⟨_,_,rfl⟩
 | buildSlice t len xs =>
  simp only [evOp0,ho] at h
  split at h
  ·split at h
   ·split at h
    ·cases h
    ·simp only [Option.map_eq_some_iff,ORes.val.injEq] at h
     obtain ⟨z,_,_,rfl,_⟩:=h
     exact ⟨_,_,rfl⟩
   ·cases h
  ·cases h
 | makeSlice t x y =>
  simp only [evOp0,ho] at h
  split at h
  ·split at h
   ·split at h
    ·simp only [Option.some.injEq,ORes.val.injEq] at h
     obtain ⟨_,rfl,_⟩:=h
     exact ⟨_,_,rfl⟩
    ·cases h
   ·cases h
  ·cases h
 | _=>simp [alS,ho] at ha
theorem alS_state {o : Oper} {v : AV} {s' : St} {k : Nat} (ha : alS o.op = true) (h : evOp P ts o s = some (.val v s' k)) : ∃ (e : TypeId) (cs : List AV) (tl : Option (Nat × EK)),s' = newBlk s e cs tl:=by
 unfold evOp at h
 split at h
 ·rename_i r' h'
  simp only [Option.some.injEq] at h; subst h
  obtain ⟨e,cs,rfl⟩:=alS_state0 ha h'
  exact ⟨e,cs,none,rfl⟩
 ·unfold evOpS at h
  split at h
  case h_5 =>
   unfold makeS at h
   split at h
   ·split at h
    ·split at h
     ·split at h
      ·simp only [Option.some.injEq,ORes.val.injEq] at h
       exact ⟨_,_,_,h.2.1.symm⟩
      ·cases h
     ·cases h
    ·cases h
   ·cases h
  case h_7=>cases h
  all_goals (rename_i ho; rw [ho] at ha; simp [alS] at ha)
theorem newBlk_at (s : St) (e : TypeId) (cs : List AV) {b : Nat} (h : b < s.heap.length) {tl : Option (Nat × EK)} : blockAt (newBlk s e cs tl) b = blockAt s b:=by
 unfold blockAt newBlk
 rw [nthD_eq,nthD_eq,List.getElem?_append_left h]
theorem eff_none {o : Oper} {q : Bool} (h : effOf ts o q = none) : alS o.op = true ∨ ((∃ c,o.op = .call c) ∧ q = true) ∨ ∃ x,isApp o.op = some x ∧ eval ts x = some .nilSlice:=by
 unfold effOf at h
 split at h
 ·rename_i ha; exact .inl ha
 ·right
  split at h
  ·split at h <;> cases h
  ·rename_i c ho
   split at h
   ·rename_i x hx
    right
    unfold appE at h
    split at h
    ·cases h
    ·cases h
    ·rename_i e; exact ⟨x,hx,e⟩
    ·cases h
   ·cases q
    ·cases h
    ·exact .inl ⟨⟨c,ho⟩,rfl⟩
  ·cases h
def appB : Option AV → Option Nat
 | some (.slice b _ _ _ _ _)=>some b
 | some (.sls b _ _ _ _)=>some b
 | _=>none
theorem eff_one {o : Oper} {q : Bool} {b : Nat} (h : effOf ts o q = some (some b)) : (∃ t x y,o.op = .store t x y ∧ blkOf ts o = some b) ∨
  ∃ x,isApp o.op = some x ∧ appB (eval ts x) = some b:=by
 unfold effOf at h
 split at h
 ·cases h
 ·split at h
  ·rename_i t x y ho
   split at h
   ·rename_i b' off hx
    simp only [Option.some.injEq] at h
    exact .inl ⟨t,x,y,ho,by unfold blkOf; rw [ho]; simp only [hx,h]⟩
   ·rename_i b' off hx
    simp only [Option.some.injEq] at h
    exact .inl ⟨t,x,y,ho,by unfold blkOf; rw [ho]; simp only [hx,h]⟩
   ·cases h
  ·split at h
   ·rename_i x hx
    unfold appE at h
    split at h
    ·rename_i b' off len cap ex es e
     simp only [Option.some.injEq] at h
     exact .inr ⟨x,hx,by rw [e]; simp only [appB,h]⟩
    ·rename_i b' off len cap ex e
     simp only [Option.some.injEq] at h
     exact .inr ⟨x,hx,by rw [e]; simp only [appB,h]⟩
    ·cases h
    ·cases h
   ·split at h <;> cases h
  ·cases h
theorem storeCellsA_at {s s2 : St} {b' off : Nat} {vs : List AV} (hst : storeCellsA s b' off vs = some s2) {b : Nat} (he : b ≠ b') : blockAt s2 b = blockAt s b:=by
 unfold storeCellsA at hst
 split at hst
 ·cases hst
 ·split at hst
  ·cases hst
  ·split at hst
   ·simp only [Option.some.injEq] at hst
    rw [← hst]
    unfold blockAt
    simp only [setNth_eq]
    rw [nthD_eq,nthD_eq,List.getElem?_set_ne (Ne.symm he)]
   ·cases hst
theorem appendA_keeps {s s' : St} {sT xT : TypeId} {x y v : AV} (h : appendA P s sT xT x y = some (v,s')) {b : Nat} (hb : b < s.heap.length) (hx : ∀ b' off len cap ex es,x = .slice b' off len cap ex es → b ≠ b') : blockAt s' b = blockAt s b:=by
 unfold appendA at h
 split at h
 case h_2=>cases h
 split at h
 case h_2=>cases h
 split at h
 ·cases h
 split at h
 ·cases h
 split at h
 ·
  split at h
  ·simp only [Option.some.injEq,Prod.mk.injEq] at h; rw [← h.2]
  ·split at h
   ·cases h
   ·simp only [Option.some.injEq,Prod.mk.injEq] at h; rw [← h.2]; exact newBlk_at _ _ _ hb
 ·rename_i b' off len cap ex es'
  have hne:=hx b' off len cap ex es' rfl
  split at h
  ·cases h
  split at h
  ·simp only [Option.map_eq_some_iff,Prod.mk.injEq] at h
   obtain ⟨s2,h1,_,rfl⟩:=h
   exact storeCellsA_at h1 hne
  split at h
  ·cases h
  split at h
  ·cases h
  split at h
  ·simp only [Option.some.injEq,Prod.mk.injEq] at h; rw [← h.2]; exact newBlk_at _ _ _ hb
  split at h
  ·split at h
   ·split at h
    ·cases h
    ·simp only [Option.some.injEq,Prod.mk.injEq] at h
     rw [← h.2]
     unfold blockAt newBlk
     simp only [setNth_eq]
     rw [nthD_eq,nthD_eq,List.getElem?_append_left (by simpa using hb),List.getElem?_set_ne (Ne.symm hne)]
   ·cases h
  ·cases h
 ·cases h
theorem builtinA_app {s s' : St} {ats : List TypeId} {args : List AV} {v : AV} {k : Nat} (e : builtinA P s .append ats args = some (v,s',k)) : ∃ st xt u y v',args = [u,y] ∧ appendA P s st xt u y = some (v',s'):=by
 unfold builtinA at e
 split at e
 ·contradiction
 ·rename_i st xt u y' _
  simp only [Option.map_eq_some_iff,Prod.mk.injEq] at e
  obtain ⟨⟨v1,s1⟩,e1,_,rfl,_⟩:=e
  exact ⟨st,xt,u,y',v1,rfl,e1⟩
 ·contradiction
 ·contradiction
 ·cases e
theorem app_state0 {o : Oper} {x : Operand} {r : ORes} (hx : isApp o.op = some x) (h : evOp0 P ts o s = some r) : ∃ v s' k,r = .val v s' k ∧ (s' = s ∨ ∃ st xt u y v',eval ts x = some u ∧ appendA P s st xt u y = some (v',s')):=by
 unfold isApp at hx
 split at hx
 ·rename_i c ho
  split at hx
  ·rename_i y l hb hl
   simp only [Option.some.injEq] at hx
   subst hx
   simp only [evOp0,ho,hb,hl] at h
   split at h
   ·rename_i args ha
    split at h
    ·rename_i v s' k e
     simp only [Option.some.injEq] at h
     refine ⟨v,s',k,h.symm,.inr ?_⟩
     obtain ⟨st,xt,u,y',v1,rfl,e1⟩:=builtinA_app e
     simp only [evals] at ha
     split at ha
     ·rename_i u1 us h1 h2
      simp only [Option.some.injEq,List.cons.injEq] at ha
      exact ⟨st,xt,u,y',v1,by rw [h1,ha.1],e1⟩
     ·cases ha
    ·simp only [Option.map_eq_some_iff] at h
     obtain ⟨v,_,rfl⟩:=h
     exact ⟨v,s,0,rfl,.inl rfl⟩
   ·cases h
  ·cases hx
 ·cases hx
theorem tipS_keeps {e : TypeId} {b' k kk : Nat} {L : SX} {d : EK} {v : AV} {s' : St} (h : tipS s e b' L k d = some (.val v s' kk)) {b : Nat} (hb : b < s.heap.length) (hne : b ≠ b') : blockAt s' b = blockAt s b:=by
 unfold tipS at h
 split at h
 ·split at h
  ·simp only [Option.some.injEq,ORes.val.injEq] at h
   rw [← h.2.1]
   unfold blockAt newBlk
   simp only [setNth_eq]
   rw [nthD_eq,nthD_eq,List.getElem?_append_left (by simpa using hb),List.getElem?_set_ne (Ne.symm hne)]
  ·cases h
 ·cases h
theorem appS_keeps {sT xT : TypeId} {x y v : AV} {s' : St} {kk : Nat} (h : appS P sT xT x y s = some (.val v s' kk)) {b : Nat} (hb : b < s.heap.length) (hne : ∀ b',appB (some x) = some b' → b ≠ b') : blockAt s' b = blockAt s b:=by
 have gr : ∀ {e : TypeId} {L : SX} {k : Nat} {d : EK},some (growS s e L k d) = some (ORes.val v s' kk) → blockAt s' b = blockAt s b:=fun h=>by
  simp only [growS,Option.some.injEq,ORes.val.injEq] at h
  rw [← h.2.1]; exact newBlk_at _ _ _ hb
 unfold appS at h
 split at h
 ·simp only [Option.some.injEq,ORes.val.injEq] at h
  rw [h.2.1]
 split at h
 case h_2=>cases h
 split at h
 case h_2=>cases h
 split at h
 case isFalse=>cases h
 split at h
 case h_2=>cases h
 split at h
 case h_2=>cases h
 split at h
 case isFalse=>cases h
 split at h
 ·split at h
  ·exact gr h
  ·cases h
 ·split at h
  ·split at h
   ·exact gr h
   ·cases h
  ·split at h
   ·exact tipS_keeps h hb (hne _ rfl)
   ·cases h
 ·split at h
  ·split at h
   ·exact gr h
   ·cases h
  ·split at h
   ·exact tipS_keeps h hb (hne _ rfl)
   ·cases h
 ·cases h
theorem app_op {o : Oper} {x : Operand} {r : ORes} (hx : isApp o.op = some x) (h : evOp P ts o s = some r) : ∃ v s' k,r = .val v s' k ∧ ∀ b,b < s.heap.length → (∀ b',appB (eval ts x) = some b' → b ≠ b') → blockAt s' b = blockAt s b:=by
 unfold evOp at h
 split at h
 ·rename_i r' h'
  simp only [Option.some.injEq] at h; subst h
  obtain ⟨v,s',k,e1,e2⟩:=app_state0 hx h'
  refine ⟨v,s',k,e1,fun b hb hne=>?_⟩
  rcases e2 with rfl | ⟨st,xt,u,y,v',hu,ha⟩
  ·rfl
  ·exact appendA_keeps ha hb (fun b' off len cap ex es hh=>hne b' (by rw [hu,hh]; rfl))
 ·unfold isApp at hx
  split at hx
  ·rename_i c ho
   split at hx
   ·rename_i y l hb hl
    simp only [Option.some.injEq] at hx
    subst hx
    obtain ⟨v,s',k,rfl⟩:=evOpS_vals h
    refine ⟨v,s',k,rfl,fun b hbl hne=>?_⟩
    simp only [evOpS,ho,hb,hl] at h
    split at h
    ·rename_i hbb _ _; cases hbb
    ·rename_i hla _
     simp only [List.cons.injEq] at hla
     obtain ⟨rfl,rfl⟩:=hla
     obtain ⟨u,hu,h⟩:=Option.bind_eq_some_iff.1 h
     obtain ⟨u2,hu2,h⟩:=Option.bind_eq_some_iff.1 h
     exact appS_keeps h hbl (fun b' e=>hne b' (by rw [hu]; exact e))
    ·rename_i hbb _ _; cases hbb
    ·cases h
   ·cases hx
  ·cases hx
theorem app_keeps {rec : Ev} {o : Oper} {x : Operand} {v : AV} {s' : St} {q : Bool} {b : Nat} (hx : isApp o.op = some x) (h : evOneQ P rec o ts s = some (v,s',q)) (hb : b < s.heap.length)
  (hne : ∀ b',appB (eval ts x) = some b' → b ≠ b') : blockAt s' b = blockAt s b:=by
 unfold evOneQ at h
 split at h
 ·rename_i v0 s0 k e
  simp only [Option.some.injEq,Prod.mk.injEq] at h
  obtain ⟨_,rfl,_⟩:=h
  obtain ⟨v1,s1,k1,e1,e2⟩:=app_op hx e
  simp only [ORes.val.injEq] at e1
  obtain ⟨_,rfl,_⟩:=e1
  exact e2 b hb hne
 ·rename_i f args e
  obtain ⟨v1,s1,k1,e1,_⟩:=app_op hx e
  cases e1
 ·rename_i l args e
  obtain ⟨v1,s1,k1,e1,_⟩:=app_op hx e
  cases e1
 ·cases h
theorem eff_keeps {rec : Ev} (hc : SCall P rec.call) {o : Oper} {v : AV} {s' : St} {q : Bool} {b : Nat} (h : evOneQ P rec o ts s = some (v,s',q)) (he : effOk (effOf ts o q) s.heap.length b = true) :
  blockAt s' b = blockAt s b:=by
 simp only [effOk,Bool.and_eq_true,Nat.blt_eq] at he
 obtain ⟨hb,he⟩:=he
 cases hef : effOf ts o q with
 | none =>
  rcases eff_none hef with ha | ⟨⟨c,ho⟩,hq⟩ | ⟨x,hx,hn⟩
  ·unfold evOneQ at h
   split at h
   ·rename_i v0 s0 k e
    simp only [Option.some.injEq,Prod.mk.injEq] at h
    obtain ⟨_,rfl,_⟩:=h
    obtain ⟨t,cs,tl,rfl⟩:=alS_state ha e
    exact newBlk_at _ _ _ hb
   ·rename_i f args e
    obtain ⟨c,f,xs,ho,_⟩:=evOp_other (by simp) e
    rw [ho] at ha; simp [alS] at ha
   ·rename_i l args e
    obtain ⟨c,f,xs,ho,_⟩:=evOp_other (by simp) e
    rw [ho] at ha; simp [alS] at ha
   ·cases h
  ·unfold evOneQ at h
   split at h
   ·simp only [Option.some.injEq,Prod.mk.injEq] at h
    rw [← h.2.2] at hq; cases hq
   ·rename_i f args e
    split at h
    ·rename_i v1 s1 q1 e1
     simp only [Option.some.injEq,Prod.mk.injEq] at h
     obtain ⟨_,rfl,hqq⟩:=h
     rw [← hqq,Bool.or_eq_true] at hq
     rcases hq with hq | hq
     ·rw [(hc _ _ _ _ _ _ e1).2.1 hq]
     ·unfold blockAt
      rw [nthD_eq,nthD_eq,prefixB_ok hq b hb]
    ·cases h
   ·split at h
    ·simp only [Option.some.injEq,Prod.mk.injEq] at h
     rw [← h.2.2] at hq; cases hq
    ·cases h
   ·cases h
  ·exact app_keeps hx h hb (fun b' e=>by rw [hn] at e; cases e)
 | some e0 =>
  rw [hef] at he
  cases e0 with
  | none=>cases he
  | some b' =>
   have he : b ≠ b':=fun e=>by subst e; simp at he
   rcases eff_one hef with ⟨t,x,y,ho,hbk⟩ | ⟨x,hx,hev⟩
   case inr =>
    exact app_keeps hx h hb (fun b2 e=>by
     rw [hev] at e
     rw [← Option.some.inj e]; exact he)
   unfold evOneQ at h
   cases hop : evOp P ts o s with
   | none=>rw [hop] at h; cases h
   | some R =>
    obtain ⟨b1,s1,g1,rfl,g2⟩:=store_op ho hop
    rw [hbk] at g1
    obtain rfl:=Option.some.inj g1
    rw [hop] at h
    simp only [Option.some.injEq,Prod.mk.injEq] at h
    obtain ⟨_,rfl,_⟩:=h
    unfold blockAt
    rw [nthD_eq,nthD_eq,g2 b he]
structure DC (ops : Array Oper) (V : Nat → AV) (S : Nat → St) (B : Nat) (π : Inj) (lm : List Nat) (s : St) (ts : List AV) (w : World) (a : Act) (listed : Array Bool) (a1 : Act) (w1 : World) : Prop where
 size : listed.size = ops.size
 closed : ∀ (j : Nat) (o : Oper),listed.getD j false = true → ops.toList[j]? = some o → ∀ e ∈ o.after.toList,Region.binds .any e = true → listed.getD e.on false = true
 st : ∃ q π1 lm1,q ≤ ops.size ∧ (∀ (i : Nat) (x : Oper),ops[i]? = some x → pureS x.op = false → isLoad x.op = false → (listed.getD i false = true ↔ i < q)) ∧
  LR π1 lm1 (PD ops.toList V (fun i=>listed.getD i false) ts ops.size) a1.tmps.toList ∧ WR B π1 lm1 (S q) w1 ∧ Tr π π1 lm lm1 s (S q) w w1
 df : a1.defers = a.defers
set_option maxHeartbeats 2000000 in
theorem chain_any {rec : Ev} (hname : ∀ (f : Nat) (fn : Func),P.funcs[f]? = some fn → fn.name ≠ "runtime.NumGoroutine") (hc : SCall P rec.call) (hr : SRound P rec.round) {ops : Array Oper} (hok : chainOk ops = true)
  {T : Nat → List AV} {V : Nat → AV} {S : Nat → St} {Ld : Nat → List (Nat × Nat)} {Mo : Nat → List (Nat × Eff × Nat)} {ts' : List AV} {s' : St} (hT0 : T 0 = ts) (hTn : T ops.size = ts') (hSn : S ops.size = s')
  (hF : ∀ (j : Nat) (o : Oper),ops[j]? = some o → StepC P rec ops (befs ops.toList []) T V S Ld Mo j o) (hB : B ≤ w.heap.size) (N : Nat) (ro : Option Nat) (Q : Exit → Act → World → Prop)
  (hQ : ∀ a' w' π' lm',WR B π' lm' s' w' → LR π' lm' ts' a'.tmps.toList → Tr π π' lm lm' s s' w w' → a'.defers = a.defers → Q .normal a' w') :
  ∀ (fuel : Nat) (listed : Array Bool) (a1 : Act) (w1 : World),unlisted listed = fuel → DC ops V S B π lm s ts w a listed a1 w1 → wpAnyIn (Fr ro) N P .any ops Q fuel listed a1 w1:=by
 simp only [chainOk,Bool.and_eq_true,List.all_eq_true] at hok
 obtain ⟨hpair,hedge⟩:=hok
 have hmem : ∀ (j : Nat) (o : Oper),ops[j]? = some o → (o,j) ∈ ops.toList.zipIdx:=fun j o ho=>by
  rw [List.mem_zipIdx_iff_getElem?]
  rw [Array.getElem?_toList]; exact ho
 have hback : ∀ (j : Nat) (o : Oper),ops.toList[j]? = some o → ∀ e ∈ o.after.toList,Region.binds .any e = true → e.on < j:=fun j o ho e he hb=>by
  have:=hedge _ (hmem j o (by rw [← Array.getElem?_toList]; exact ho)) e he
  simpa [hb] using this
 have clashBit : ∀ (i j : Nat) (x y : Oper),ops[i]? = some x → ops[j]? = some y → i < j → clash ops x y = true → (nthD 0 (befs ops.toList []) j).testBit i = true:=fun i j x y hx hy hij hcl=>by
  have:=hpair _ (hmem j y hy) _ (hmem i x hx)
  simpa [hij,hcl] using this
 have memBit : ∀ (i j : Nat) (x y : Oper),ops[i]? = some x → ops[j]? = some y → i < j → pureS x.op = false → isLoad x.op = false → pureS y.op = false → isLoad y.op = false → (nthD 0 (befs ops.toList []) j).testBit i = true:=fun i j x y hx hy hij h1 h2 h3 h4=>by
  have:=hpair _ (hmem j y hy) _ (hmem i x hx)
  simpa [hij,h1,h2,h3,h4] using this
 have hT : ∀ (j : Nat) (o : Oper),ops[j]? = some o → T (j + 1) = put (T j) o.dst (V j):=fun j o ho=>(hF j o ho).1
 have stay : ∀ (j : Nat) (o : Oper),ops[j]? = some o → (pureS o.op = true ∨ isLoad o.op = true) → S (j + 1) = S j:=fun j o ho h=>by
  rcases (hF j o ho).2 with ⟨_,_,h1,_⟩ | ⟨_,_,_,h1,_⟩ | ⟨_,_,_,_,h1,_⟩ | ⟨_,h1,h2,_⟩
  ·exact h1
  ·exact h1
  ·exact h1
  ·rcases h with h | h
   ·rw [h1] at h; cases h
   ·rw [h2] at h; cases h
 have sameS : ∀ (d p : Nat),p + d ≤ ops.size → (∀ (i : Nat) (x : Oper),p ≤ i → i < p + d → ops[i]? = some x → pureS x.op = true ∨ isLoad x.op = true) → S (p + d) = S p:=fun d=>by
  induction d with
  | zero=>intro p _ _; rfl
  | succ d ih =>
   intro p hle h
   have h1:=ih p (by omega) (fun i x a b c=>h i x a (by omega) c)
   have ho : ops[p + d]? = some ops[p + d]:=Array.getElem?_eq_getElem (by omega)
   rw [← Nat.add_assoc,stay (p + d) _ ho (h _ _ (by omega) (by omega) ho),h1]
 have between : ∀ (q j : Nat),q ≤ ops.size → j ≤ ops.size → (∀ (i : Nat) (x : Oper),ops[i]? = some x → pureS x.op = false → isLoad x.op = false → (i < q ↔ i < j)) → S q = S j:=fun q j hq hj h=>by
  have no : ∀ (i : Nat) (x : Oper),ops[i]? = some x → ¬ (i < q ↔ i < j) → pureS x.op = true ∨ isLoad x.op = true:=fun i x hx hn=>by
   cases h1 : pureS x.op with
   | true=>exact .inl rfl
   | false=>cases h2 : isLoad x.op with
    | true=>exact .inr rfl
    | false=>exact absurd (h i x hx h1 h2) hn
  by_cases hqj : q ≤ j
  ·have:=sameS (j - q) q (by omega) (fun i x a b c=>no i x c (by omega))
   rw [show q + (j - q) = j by omega] at this
   exact this.symm
  ·have:=sameS (q - j) j (by omega) (fun i x a b c=>no i x c (by omega))
   rw [show j + (q - j) = q by omega] at this
   exact this
 have moSub : ∀ (d i : Nat),i + d ≤ ops.size → ∀ x ∈ Mo i,x ∈ Mo (i + d):=fun d=>by
  induction d with
  | zero=>intro i _ x hx; exact hx
  | succ d ih =>
   intro i hle x hx
   have h1:=ih i (by omega) x hx
   rcases (hF (i + d) ops[i + d] (Array.getElem?_eq_getElem (by omega))).2 with ⟨_,_,_,_,h2⟩ | ⟨_,_,_,_,_,h2⟩ | ⟨_,_,_,_,_,h2⟩ | ⟨_,_,_,q,_,_,_,h2⟩
   ·rw [← Nat.add_assoc,h2]; exact h1
   ·rw [← Nat.add_assoc,h2]; exact h1
   ·rw [← Nat.add_assoc,h2]; exact h1
   ·rw [← Nat.add_assoc,h2]; exact List.mem_cons_of_mem _ h1
 have ldSub : ∀ (d i : Nat),i + d ≤ ops.size → ∀ x ∈ Ld i,x ∈ Ld (i + d):=fun d=>by
  induction d with
  | zero=>intro i _ x hx; exact hx
  | succ d ih =>
   intro i hle x hx
   have h1:=ih i (by omega) x hx
   rcases (hF (i + d) ops[i + d] (Array.getElem?_eq_getElem (by omega))).2 with ⟨_,_,_,h2,_⟩ | ⟨_,_,_,_,h2,_⟩ | ⟨_,_,_,⟨_,_,_,_,_,_,h2⟩,_,_⟩ | ⟨_,_,_,q,_,_,h2,_⟩
   ·rw [← Nat.add_assoc,h2]; exact h1
   ·rw [← Nat.add_assoc,h2]; exact h1
   ·rw [← Nat.add_assoc,h2]; exact List.mem_cons_of_mem _ h1
   ·rw [← Nat.add_assoc,h2]; exact h1
 have rowSame : ∀ (b d p : Nat),p + d ≤ ops.size → (∀ (i : Nat) (x : Oper) (e : Eff) (h : Nat),p ≤ i → i < p + d → ops[i]? = some x → pureS x.op = false → isLoad x.op = false → Mo (i + 1) = (i,e,h) :: Mo i → effOk e h b = true) →
   blockAt (S (p + d)) b = blockAt (S p) b:=fun b d=>by
  induction d with
  | zero=>intro p _ _; rfl
  | succ d ih =>
   intro p hle h
   have h1:=ih p (by omega) (fun i x e h0 a b' c=>h i x e h0 a (by omega) c)
   have ho : ops[p + d]? = some ops[p + d]:=Array.getElem?_eq_getElem (by omega)
   rw [← Nat.add_assoc,← h1]
   rcases (hF (p + d) _ ho).2 with ⟨_,_,h2,_⟩ | ⟨_,_,_,h2,_⟩ | ⟨_,_,_,_,h2,_⟩ | ⟨_,h3,h4,q,h5,_,_,h6⟩
   ·rw [h2]
   ·rw [h2]
   ·rw [h2]
   ·exact eff_keeps hc h5 (h _ _ _ _ (by omega) (by omega) ho h3 h4 h6)
 have finish : ∀ (listed : Array Bool) (a1 : Act) (w1 : World),DC ops V S B π lm s ts w a listed a1 w1 → (∀ j,j < ops.size → listed.getD j false = true) → Q .normal a1 w1:=by
  intro listed a1 w1 hi hall
  obtain ⟨q,π1,lm1,g0,gq,h1,g1,g2⟩:=hi.st
  have hP : PD ops.toList V (fun i=>listed.getD i false) ts ops.size = ts':=by
   have e:=(PD_lt (ops:=ops.toList) (V:=V) hT0 (n:=ops.size) (by simp) (fun i o _ ho=>hT i o (by rw [← Array.getElem?_toList]; exact ho)) ops.size ops.size (Nat.le_refl _))
   rw [Nat.min_self,hTn] at e
   rw [← e]
   have : ∀ m,m ≤ ops.size → PD ops.toList V (fun i=>listed.getD i false) ts m = PD ops.toList V (fun i=>decide (i < ops.size)) ts m:=by
    intro m
    induction m with
    | zero=>intro _; rfl
    | succ m ih =>
     intro hm
     simp only [PD,ih (by omega),hall m (by omega),show m < ops.size by omega,decide_true]
   exact this _ (Nat.le_refl _)
  rw [hP] at h1
  have hs : S q = s':=by
   rw [← hSn]
   refine between q ops.size g0 (Nat.le_refl _) (fun i x hx n1 n2=>?_)
   have hi':=(Array.getElem?_eq_some_iff.1 hx).1
   have:=(gq i x hx n1 n2).1 (hall i hi')
   omega
  rw [hs] at g1 g2
  exact hQ a1 w1 π1 lm1 g1 h1 g2 hi.df
 have stuck : ∀ (listed : Array Bool) (a1 : Act) (w1 : World),DC ops V S B π lm s ts w a listed a1 w1 → Region.ready .any ops listed = [] → ∀ j,j < ops.size → listed.getD j false = true:=by
  intro listed a1 w1 hi hnil j
  induction j using Nat.strongRecOn with
  | _ j ih =>
   intro hj
   cases hl : listed.getD j false with
   | true=>rfl
   | false =>
    exfalso
    have hj' : j < listed.size:=by rw [hi.size]; exact hj
    have : j ∈ Region.ready .any ops listed:=by
     rw [mem_ready]
     refine ⟨?_,ops[j],Array.getElem?_eq_getElem hj,fun e he hb=>?_⟩
     ·rw [Array.getD_eq_getD_getElem?,Array.getElem?_eq_getElem hj'] at hl ⊢
      simpa using hl
     ·have:=hback j ops[j] (by rw [Array.getElem?_toList]; exact Array.getElem?_eq_getElem hj) e (by simpa using he) hb
      exact ih e.on this (by omega)
    rw [hnil] at this; cases this
 intro fuel
 induction fuel with
 | zero =>
  intro listed a1 w1 hf hi
  have hall : ∀ j,j < ops.size → listed.getD j false = true:=fun j hj=>by
   cases hl : listed.getD j false with
   | true=>rfl
   | false =>
    have:=unlisted_set (by rw [hi.size]; exact hj) hl
    omega
  refine ⟨?_,finish listed a1 w1 hi hall⟩
  cases hrd : Region.ready .any ops listed with
  | nil=>rfl
  | cons j l =>
   exfalso
   have : j ∈ Region.ready .any ops listed:=by rw [hrd]; simp
   rw [mem_ready] at this
   obtain ⟨h1,o,ho,_⟩:=this
   have hj:=(Array.getElem?_eq_some_iff.1 ho).1
   have:=hall j hj
   rw [Array.getD_eq_getD_getElem?] at h1 this
   cases hx : listed[j]? with
   | none=>rw [hx] at h1; simp at h1
   | some b=>rw [hx] at h1 this; simp at h1 this; rw [h1] at this; cases this
 | succ fuel ih =>
  intro listed a1 w1 hf hi
  refine ⟨fun hnil=>finish listed a1 w1 hi (stuck listed a1 w1 hi hnil),?_⟩
  intro j hj
  rw [mem_ready] at hj
  obtain ⟨hlj,o,ho,hedges⟩:=hj
  have hjn:=(Array.getElem?_eq_some_iff.1 ho).1
  have hjs : j < listed.size:=by rw [hi.size]; exact hjn
  have hl0 : listed.getD j false = false:=by
   rw [Array.getD_eq_getD_getElem?,Array.getElem?_eq_getElem hjs] at hlj ⊢
   simpa using hlj
  have ho' : ops.toList[j]? = some o:=by rw [Array.getElem?_toList]; exact ho
  have hed : ∀ e ∈ o.after.toList,Region.binds .any e = true → listed.getD e.on false = true:=fun e he hb=>hedges e (by simpa using he) hb
  have had : ∀ i,(nthD 0 (befs ops.toList []) j).testBit i = true → listed.getD i false = true:=fun i hb=>bit_listed (L:=fun i=>listed.getD i false) hi.closed j o i ho' hed hb
  have behind : ∀ (i : Nat) (x : Oper),ops[i]? = some x → (nthD 0 (befs ops.toList []) i).testBit j = true → listed.getD i false = false:=fun i x hx hb=>by
   cases hli : listed.getD i false with
   | false=>rfl
   | true =>
    have hx' : ops.toList[i]? = some x:=by rw [Array.getElem?_toList]; exact hx
    have this : listed.getD j false = true:=bit_listed (L:=fun i=>listed.getD i false) hi.closed i x j hx' (hi.closed i x hli hx') hb
    rw [hl0] at this; cases this
  have slot : ∀ t ∈ o.looksAt ops,(PD ops.toList V (fun i=>listed.getD i false) ts ops.size)[t]? = (T j)[t]?:=fun t ht=>by
   have e:=(PD_lt (ops:=ops.toList) (V:=V) hT0 (n:=ops.size) (by simp) (fun i o _ ho=>hT i o (by rw [← Array.getElem?_toList]; exact ho)) j ops.size (by omega))
   rw [show min j ops.size = j from by omega] at e
   rw [← e]
   refine (PD_slot ops.size ?_).1
   intro i x hin hx hd
   have hx' : ops[i]? = some x:=by rw [← Array.getElem?_toList]; exact hx
   rcases Nat.lt_trichotomy i j with h1 | h1 | h1
   ·have : clash ops x o = true:=by simp [clash,dstIn,hd,ht]
    rw [had i (clashBit i j x o hx' ho h1 this)]
    simp [h1]
   ·subst h1; simp only [hl0]; simp
   ·have : clash ops o x = true:=by simp [clash,dstIn,hd,ht]
    rw [behind i x hx' (clashBit j i o x ho hx' h1 this)]
    simp; omega
  have more : PD ops.toList V (fun i=>(listed.setIfInBounds j true).getD i false) ts ops.size = put (PD ops.toList V (fun i=>listed.getD i false) ts ops.size) o.dst (V j):=by
   have:=PD_more (ops:=ops.toList) (V:=V) (D:=fun i=>listed.getD i false) (ts:=ts) ho' hl0 ops.size hjn (fun i x hji hLi hx t hd e=>by
    have hx' : ops[i]? = some x:=by rw [← Array.getElem?_toList]; exact hx
    have : clash ops o x = true:=by simp [clash,dstIn,hd,e]
    have:=behind i x hx' (clashBit j i o x ho hx' hji this)
    have hLi' : listed.getD i false = true:=hLi
    rw [this] at hLi'; cases hLi')
   rw [← this]
   congr 1
   funext i
   rw [getD_set _ _ _ hjs]
  obtain ⟨q,π1,lm1,hqn,hq,hlr,hwr,htr⟩:=hi.st
  have next : ∀ (c : Value) (w2 : World) (π2 : Inj) (lm2 : List Nat) (q2 : Nat),q2 ≤ ops.size → VR π2 lm2 (V j) c → LR π2 lm2 (PD ops.toList V (fun i=>listed.getD i false) ts ops.size) a1.tmps.toList →
    (∀ (i : Nat) (x : Oper),ops[i]? = some x → pureS x.op = false → isLoad x.op = false → ((listed.setIfInBounds j true).getD i false = true ↔ i < q2)) → WR B π2 lm2 (S q2) w2 → Tr π π2 lm lm2 s (S q2) w w2 →
    wpAnyIn (Fr ro) N P .any ops Q fuel (listed.setIfInBounds j true) (a1.put o.dst c) w2:=by
   intro c w2 π2 lm2 q2 hq2 hv hl2 hlist hw2 ht2
   refine ih _ _ _ (by have:=unlisted_set hjs hl0; omega) ⟨by simp [hi.size],?_,⟨q2,π2,lm2,hq2,hlist,?_,hw2,ht2⟩,(put_defers _ _ _).trans hi.df⟩
   ·intro i x hLi hx e he hb
    rw [getD_set _ _ _ hjs] at hLi ⊢
    split at hLi
    ·rename_i hij
     subst hij
     rw [ho'] at hx
     obtain rfl:=Option.some.inj hx
     rw [hed e he hb]; simp
    ·rw [hi.closed i x hLi hx e he hb]; simp
   ·rw [more]; exact put_rel hl2 hv
  have congrOp : ∀ sx : St,evOp P (PD ops.toList V (fun i=>listed.getD i false) ts ops.size) o sx = evOp P (T j) o sx:=fun sx =>
   evOp_congr (fun x hx=>eval_slot (fun t ht=>slot t (operand_looks hx ht))) sx
  have listSame : (pureS o.op = true ∨ isLoad o.op = true) → ∀ (i : Nat) (x : Oper),ops[i]? = some x → pureS x.op = false → isLoad x.op = false → ((listed.setIfInBounds j true).getD i false = true ↔ i < q):=fun hpl i x hx n1 n2=>by
   rw [getD_set _ _ _ hjs]
   split
   ·rename_i hij
    subst hij
    rw [ho] at hx
    obtain rfl:=Option.some.inj hx
    rcases hpl with h | h
    ·rw [n1] at h; cases h
    ·rw [n2] at h; cases h
   ·exact hq i x hx n1 n2
  have turn : pureS o.op = false → isLoad o.op = false → (∀ (i : Nat) (x : Oper),ops[i]? = some x → pureS x.op = false → isLoad x.op = false → (i < q ↔ i < j)):=fun n3 n4 i x hx n1 n2=>by
   rw [← hq i x hx n1 n2]
   rcases Nat.lt_trichotomy i j with h1 | h1 | h1
   ·exact ⟨fun _=>h1,fun _=>had i (memBit i j x o hx ho h1 n1 n2 n3 n4)⟩
   ·subst h1; rw [hl0]; simp
   ·rw [behind i x hx (memBit j i o x ho hx h1 n3 n4 n1 n2)]; simp; omega
  have listNext : pureS o.op = false → isLoad o.op = false → ∀ (i : Nat) (x : Oper),ops[i]? = some x → pureS x.op = false → isLoad x.op = false → ((listed.setIfInBounds j true).getD i false = true ↔ i < j + 1):=fun n3 n4 i x hx n1 n2=>by
   rw [getD_set _ _ _ hjs]
   split
   ·rename_i hij; simp; omega
   ·rename_i hij
    rw [hq i x hx n1 n2,turn n3 n4 i x hx n1 n2]; omega
  simp only [wpOpIn,ho]
  rw [wanted_rel hlr,wanted_congr slot]
  rcases (hF j o ho).2 with ⟨f1,f2,f3,_⟩ | ⟨f1,f2,⟨s0,f3⟩,f4,_⟩ | ⟨f1,f2,f3,⟨s0,c,b,f4,f5,f6,f7⟩,f8,_⟩ | ⟨f1,f2,f3,qq,f4,f5,f6,f7⟩
  ·
   rw [f1]
   simp only [Bool.false_eq_true,if_false]
   refine ⟨fun _ _=>trivial,?_⟩
   by_cases hm : pureS o.op = true ∨ isLoad o.op = true
   ·exact next undef w1 π1 lm1 q hqn (by rw [f2]; exact .undef) hlr (listSame hm) hwr htr
   ·have n3 : pureS o.op = false:=by cases h : pureS o.op with | false=>rfl | true=>exact absurd (.inl h) hm
    have n4 : isLoad o.op = false:=by cases h : isLoad o.op with | false=>rfl | true=>exact absurd (.inr h) hm
    have hs : S q = S j:=between q j hqn (by omega) (turn n3 n4)
    exact next undef w1 π1 lm1 (j + 1) (by omega) (by rw [f2]; exact .undef) hlr (listNext n3 n4) (by rw [f3,← hs]; exact hwr) (by rw [f3,← hs]; exact htr)
  ·
   rw [f1]
   simp only [if_true]
   obtain ⟨v',e1,e2⟩:=evOp_pureS f2 f3 (by simp)
   simp only [ORes.val.injEq] at e1
   obtain ⟨rfl,_,_⟩:=e1
   have hone : evOneV P rec o (PD ops.toList V (fun i=>listed.getD i false) ts ops.size) (S q) = some (V j,S q):=by
    unfold evOneV; rw [congrOp,e2 (S q)]
   refine one_sound hname hc hr hone hwr (Nat.le_trans hB htr.size) hlr N ro _ Q ?_
   intro c w2 π2 lm2 m0 m1 m2
   exact next c w2 π2 lm2 q hqn m0 (m2.lr hlr) (listSame (.inl f2)) m1 (htr.trans m2)
  ·
   rw [f1]
   simp only [if_true]
   have hrow : blockAt (S q) b = blockAt (S j) b:=by
    by_cases hqj : q ≤ j
    ·have:=rowSame b (j - q) q (by omega) (fun i x e h a1 a2 hx n1 n2 hmo=>by
      have hin : (i,e,h) ∈ Mo j:=by
       have:=moSub (j - (i + 1)) (i + 1) (by omega) (i,e,h) (by rw [hmo]; simp)
       rwa [show i + 1 + (j - (i + 1)) = j by omega] at this
      rw [List.all_eq_true] at f6
      have:=f6 _ hin
      simp only [Bool.or_eq_true] at this
      rcases this with hb | hb
      ·have:=(hq i x hx n1 n2).1 (had i hb)
       omega
      ·exact hb)
     rw [show q + (j - q) = j by omega] at this
     exact this.symm
    ·have:=rowSame b (q - j) j (by omega) (fun i x e h a1 a2 hx n1 n2 hmo=>by
      by_cases hij : i = j
      ·subst hij
       rw [ho] at hx
       obtain rfl:=Option.some.inj hx
       rw [f3] at n2; cases n2
      ·have hin : (j,b) ∈ Ld i:=by
        have:=ldSub (i - (j + 1)) (j + 1) (by omega) (j,b) (by rw [f7]; simp)
        rwa [show j + 1 + (i - (j + 1)) = i by omega] at this
       rcases (hF i x hx).2 with ⟨_,_,_,_,h2⟩ | ⟨_,h2,_⟩ | ⟨_,_,h2,_⟩ | ⟨_,_,_,qq,_,h2,_,h3⟩
       ·rw [h2] at hmo
        have:=congrArg List.length hmo
        simp at this
       ·rw [n1] at h2; cases h2
       ·rw [n2] at h2; cases h2
       ·rw [h3] at hmo
        simp only [List.cons.injEq,Prod.mk.injEq,and_true,true_and] at hmo
        obtain ⟨rfl,rfl⟩:=hmo
        rw [List.all_eq_true] at h2
        have:=h2 _ hin
        simp only [Bool.or_eq_true] at this
        rcases this with hb | hb
        ·have:=behind i x hx hb
         have:=(hq i x hx n1 n2).2 (by omega)
         rw [behind i x hx hb] at this; cases this
        ·exact hb)
     rw [show j + (q - j) = q by omega] at this
     exact this
   have hone : evOneV P rec o (PD ops.toList V (fun i=>listed.getD i false) ts ops.size) (S q) = some (V j,S q):=by
    unfold evOneV
    rw [congrOp]
    cases hop : o.op with
    | load t x =>
     obtain ⟨b1,v1,g1,g2,_,g3⟩:=load_op hop f4
     rw [f5] at g1
     obtain rfl:=Option.some.inj g1
     simp only [ORes.val.injEq] at g2
     obtain ⟨rfl,_,_⟩:=g2
     rw [g3 _ hrow]
    | _=>simp [isLoad,hop] at f3
   refine one_sound hname hc hr hone hwr (Nat.le_trans hB htr.size) hlr N ro _ Q ?_
   intro c w2 π2 lm2 m0 m1 m2
   exact next c w2 π2 lm2 q hqn m0 (m2.lr hlr) (listSame (.inr f3)) m1 (htr.trans m2)
  ·
   rw [f1]
   simp only [if_true]
   have hs : S q = S j:=between q j hqn (by omega) (turn f2 f3)
   rw [hs] at hwr htr
   have hone : evOneV P rec o (PD ops.toList V (fun i=>listed.getD i false) ts ops.size) (S j) = some (V j,S (j + 1)):=by
    have:=evOneQ_V f4
    unfold evOneV at this ⊢
    rw [congrOp]; exact this
   refine one_sound hname hc hr hone hwr (Nat.le_trans hB htr.size) hlr N ro _ Q ?_
   intro c w2 π2 lm2 m0 m1 m2
   exact next c w2 π2 lm2 (j + 1) (by omega) m0 (m2.lr hlr) (listNext f2 f3) m1 (htr.trans m2)
theorem chain_sound {rec : Ev} (hmix : P.follows .mixedOrders = true) (hname : ∀ (f : Nat) (fn : Func),P.funcs[f]? = some fn → fn.name ≠ "runtime.NumGoroutine") (hc : SCall P rec.call) (hr : SRound P rec.round) (id : Nat) {ops : Array Oper}
  (hok : chainOk ops = true) {ts' : List AV} {s' : St} (h : evChain P rec ops.toList (befs ops.toList []) 0 ops.toList ts s [] [] = some (ts',s')) (hw : WR B π lm s w) (hB : B ≤ w.heap.size) (r : LR π lm ts a.tmps.toList) (N : Nat) (ro : Option Nat)
  (Q : Exit → Act → World → Prop) (hQ : ∀ a' w' π' lm',WR B π' lm' s' w' → LR π' lm' ts' a'.tmps.toList → Tr π π' lm lm' s s' w w' → a'.defers = a.defers → Q .normal a' w') :
  (Code.region id ops true).wpIn (Fr ro) N P Q a w:=by
 obtain ⟨T,V,S,Ld,Mo,e1,e2,_,_,e4,e5,e6⟩:=chain_data ops.toList 0 ts s [] [] (by simp) (by simp) h
 refine wpIn_region_any hmix ?_
 refine chain_any hname hc hr hok e1 e4 e5 (fun j o ho=>e6 j o (Nat.zero_le _) ho) hB N ro Q hQ ops.size _ a _ ?_ ?_
 ·simp [unlisted,List.countP_replicate]
 ·have hn : ∀ i,(Array.replicate ops.size false).getD i false = false:=fun i=>by
   rw [Array.getD_eq_getD_getElem?,Array.getElem?_replicate]; split <;> rfl
  refine ⟨by simp,?_,⟨0,π,lm,Nat.zero_le _,fun i x _ _ _=>by rw [hn]; simp,?_,?_,?_⟩,rfl⟩
  ·intro j o hj; rw [hn] at hj; cases hj
  ·have : ∀ m,PD ops.toList V (fun i=>(Array.replicate ops.size false).getD i false) ts m = ts:=by
    intro m
    induction m with
    | zero=>rfl
    | succ m ih =>
     rw [PD,if_neg (by rw [hn]; simp)]
     exact ih
   rw [this]; exact r
  ·rw [e2]; exact hw.heapEq rfl
  ·rw [e2]; exact Tr.heapEq hw rfl rfl rfl rfl
end Go.Ev
