/- append. -/
import Derived.Test.YtllecfhfhcmpaaaEvI
import Derived.Laws.BytesString
namespace Go.Ev
open Go.RowKit (Below)
set_option linter.unusedSectionVars false
variable [Rho]
variable {P : Program} {B : Nat} {π : Inj} {lm : List Nat} {s : St} {w : World} {ts : List AV} {a : Act}
theorem WR.heapEq (h : WR B π lm s w) {w' : World} (e : w'.heap = w.heap) : WR B π lm s w':=
 ⟨h.dom,by rw [e]; exact h.blk,h.inj,h.lsz,h.linj,by rw [e]; exact h.loop⟩
theorem Tr.heapEq (h : WR B π lm s w) {w' : World} (e : w'.heap = w.heap) (h1 : w'.os = w.os) (h2 : w'.tape = w.tape) (h3 : w'.output = w.output) : Tr π π lm lm s s w w':=
 { Tr.refl π lm w h.dom with
  os:=h1,tape:=h2,output:=h3,size:=by rw [e]; exact Nat.le_refl _
  keep:=fun r _ _ _=>by rw [e]
  low:=fun i A b n _ _ _=>by rw [e]
  lkeep:=fun _ L _=>by rw [e] }
theorem WR.adopt (h : WR B π lm s w) {b b' m : Nat} {A : ABlk} (hA : s.heap[b]? = some (some A)) (hro : A.ro = false) (hp : π b = some (b',m)) {c d : Array Value} {e : TypeId}
  (hc : w.heap[b']? = some (.cells c A.elem (0,0))) (hd : d.size = m) {cs : List AV} {tl : Option (Nat × EK)} (hl : LR π lm cs (d.toList.take cs.length)) (ht : TailOk { elem:=e,cells:=cs,ro:=false,tl:=tl } d) :
  WR B (π.more s.heap.length (b',m)) lm { newBlk { s with heap:=setNth none s.heap b,lo:=min s.lo b } e cs tl with lo:=min s.lo b } (upd w b' (.cells d e (0,0))) ∧
  Tr π (π.more s.heap.length (b',m)) lm lm s { newBlk { s with heap:=setNth none s.heap b,lo:=min s.lo b } e cs tl with lo:=min s.lo b } w (upd w b' (.cells d e (0,0))):=by
 have hle:=Inj.le_more (x:=(b',m)) h.free
 have hb : b < s.heap.length:=(List.getElem?_eq_some_iff.1 hA).1
 have hb' : b' < w.heap.size:=lt_of_some hc
 have hBb : B ≤ b':=by
  obtain ⟨c0,fz,_,_,hrw,_⟩:=h.at hA hp
  exact (hrw hro).2
 have hold : ∀ i,i < s.heap.length → (π.more s.heap.length (b',m)) i = π i:=fun i hi=>by
  unfold Inj.more; rw [if_neg (by omega)]
 have hheap : ∀ (i : Nat) (A1 : ABlk),((setNth none s.heap b) ++ [some { elem:=e,cells:=cs,ro:=false,tl:=tl }])[i]? = some (some A1) →
   (i < s.heap.length ∧ i ≠ b ∧ s.heap[i]? = some (some A1)) ∨ (i = s.heap.length ∧ A1 = { elem:=e,cells:=cs,ro:=false,tl:=tl }):=by
  intro i A1 h1
  rw [setNth_eq] at h1
  by_cases hi : i < s.heap.length
  ·rw [List.getElem?_append_left (by simpa using hi),List.getElem?_set] at h1
   by_cases hib : b = i
   ·subst hib; simp [hb] at h1
   ·simp [hib] at h1; exact .inl ⟨hi,Ne.symm hib,h1⟩
  ·rw [List.getElem?_append_right (by simp; omega)] at h1
   have : i - (s.heap.set b none).length = 0:=by
    rcases Nat.eq_zero_or_pos (i - (s.heap.set b none).length) with h0 | h0
    ·exact h0
    ·rw [List.getElem?_eq_none (by simp only [List.length_singleton]; omega)] at h1; cases h1
   rw [this] at h1
   simp at h1 this
   exact .inr ⟨by omega,h1.symm⟩
 have other : ∀ r,r ≠ b' → (upd w b' (.cells d e (0,0))).heap[r]? = w.heap[r]?:=fun r hr=>by
  rw [upd_heap]; simp [Ne.symm hr]
 have oneBlk : ∀ i A' b1 n1,s.heap[i]? = some (some A') → i ≠ b → π i = some (b1,n1) → b1 ≠ b':=fun i A' b1 n1 h1 h2 h3 e=>by
  subst e
  exact h2 (h.inj b i A A' b1 m n1 hA h1 hro hp h3).symm
 constructor
 ·refine ⟨?_,?_,?_,h.lsz,h.linj,?_⟩
  ·intro i x hx
   simp only [newBlk,List.length_append,List.length_singleton,setNth_eq,List.length_set]
   unfold Inj.more at hx
   split at hx
   ·omega
   ·have:=h.dom i x hx; omega
  ·intro i A1 h1
   rcases hheap i A1 h1 with ⟨hi,hib,hA1⟩ | ⟨rfl,rfl⟩
   ·obtain ⟨b1,n1,c1,fz,k1,k2,k3,k4,k5⟩:=h.blk i A1 hA1
    exact ⟨b1,n1,c1,fz,by rw [hold i hi]; exact k1,by rw [other b1 (oneBlk i A1 b1 n1 hA1 hib k1)]; exact k2,k3,k4,k5.1.mono hle (fun _ _ x=>x),k5.2⟩
   ·exact ⟨b',m,d,(e,0,0),by simp [Inj.more],by rw [upd_heap]; simp [hb'],hd,fun _=>⟨rfl,hBb⟩,hl.mono hle (fun _ _ x=>x),ht⟩
  ·intro i j A1 A2 b1 n1 m1 h1 h2 h3 h4 h5
   rcases hheap i A1 h1 with ⟨hi,hib,hA1⟩ | ⟨rfl,rfl⟩ <;> rcases hheap j A2 h2 with ⟨hj,hjb,hA2⟩ | ⟨rfl,rfl⟩
   ·rw [hold i hi] at h4; rw [hold j hj] at h5
    exact h.inj i j A1 A2 b1 n1 m1 hA1 hA2 h3 h4 h5
   ·rw [hold i hi] at h4
    simp [Inj.more] at h5
    exact absurd h5.1.symm (oneBlk i A1 b1 n1 hA1 hib h4)
   ·rw [hold j hj] at h5
    simp [Inj.more] at h4
    exact absurd h4.1.symm (oneBlk j A2 b1 m1 hA2 hjb h5)
   ·rfl
  ·intro l r hr
   obtain ⟨L,fn,D,ts,st,pd,h1,h2,h3,h4⟩:=h.loop l r hr
   have : L ≠ b':=fun e=>by subst e; rw [hc] at h2; cases h2
   exact ⟨L,fn,D,ts,st,pd,h1,by rw [other L this]; exact h2,h3,h4.mono hle (fun _ _ x=>x)⟩
 ·refine ⟨rfl,rfl,rfl,by rw [upd_size]; exact Nat.le_refl _,?_,?_,?_,?_,Nat.min_le_left _ _,Nat.le_refl _,hle,hold,by simp [newBlk,setNth_eq],?_,?_,⟨[],by simp,by simp⟩⟩
  ·intro r hr h1 _
   exact other r (fun e=>by subst e; exact h1 b A m hA hro hp)
  ·intro i A' b1 n1 h1 h2 h3
   have : i ≠ b:=by simp at h2; omega
   exact other b1 (oneBlk i A' b1 n1 h1 this h3)
  ·intro i hi h2
   simp at h2
   simp only [newBlk,setNth_eq]
   rw [List.getElem?_append_left (by simpa using hi),List.getElem?_set_ne (by omega)]
  ·intro _ L hL
   obtain ⟨l,hl1,rfl⟩:=List.getElem_of_mem hL
   obtain ⟨r,hr⟩ : ∃ r,s.loops[l]? = some r:=⟨_,List.getElem?_eq_getElem (h.lsz ▸ hl1)⟩
   obtain ⟨L',fn,D,ts,st,pd,h1,h2,h3⟩:=h.loop l r hr
   rw [List.getElem?_eq_getElem hl1] at h1
   obtain rfl:=Option.some.inj h1
   exact other _ (fun e=>by rw [e,hc] at h2; cases h2)
  ·intro i A' hi hA'
   rcases hheap i A' hA' with ⟨_,_,hA⟩ | ⟨rfl,_⟩
   ·exact ⟨A',hA,rfl⟩
   ·omega
  ·intro i b1 n1 hi hx
   unfold Inj.more at hx
   split at hx
   ·obtain ⟨rfl,_⟩:=Prod.mk.inj (Option.some.inj hx)
    exact .inr ⟨b,A,m,hA,hro,hp⟩
   ·have:=h.dom i _ hx; omega
theorem WR.kill (h : WR B π lm s w) {b : Nat} {A : ABlk} (hA : s.heap[b]? = some (some A)) :
  WR B π lm { s with heap:=setNth none s.heap b,lo:=min s.lo b } w ∧ Tr π π lm lm s { s with heap:=setNth none s.heap b,lo:=min s.lo b } w w:=by
 have hb : b < s.heap.length:=(List.getElem?_eq_some_iff.1 hA).1
 have hheap : ∀ (i : Nat) (A1 : ABlk),(setNth none s.heap b)[i]? = some (some A1) → s.heap[i]? = some (some A1):=by
  intro i A1 h1
  rw [setNth_eq,List.getElem?_set] at h1
  by_cases hib : b = i
  ·subst hib; simp [hb] at h1
  ·simpa [hib] using h1
 constructor
 ·exact ⟨fun i x hx=>by rw [setNth_eq]; simpa using h.dom i x hx,fun i A1 h1=>h.blk i A1 (hheap i A1 h1),fun i j A1 A2 b1 n1 m1 h1 h2=>h.inj i j A1 A2 b1 n1 m1 (hheap i A1 h1) (hheap j A2 h2),h.lsz,h.linj,h.loop⟩
 ·exact { Tr.refl π lm w h.dom with
   low:=fun _ _ _ _ _ _ _=>rfl
   same:=fun i hi h2=>by
    simp at h2
    simp only [setNth_eq]
    rw [List.getElem?_set_ne (by omega)]
   lkeep:=fun _ _ _=>rfl
   lo_le:=Nat.min_le_left _ _
   nd_le:=Nat.le_refl _
   len:=by rw [setNth_eq]; simp
   liv:=fun i A' _ h1=>⟨A',hheap i A' h1,rfl⟩ }
theorem growBy_le (newLen : Nat) : ∀ (r c : Nat),Builtin.growBy newLen r c ≤ max c (newLen + (newLen + 768) / 4)
 | 0,c=>by simp only [Builtin.growBy]; omega
 | r + 1,c=>by
  simp only [Builtin.growBy]
  split
  ·omega
  ·have:=growBy_le newLen r (c + (c + 768) / 4)
   omega
theorem nextslicecap_le {newLen oldCap : Nat} (h : oldCap < newLen) : Builtin.nextslicecap newLen oldCap ≤ 2 * newLen + 192:=by
 unfold Builtin.nextslicecap
 split
 ·omega
 ·split
  ·omega
  ·have:=growBy_le newLen 4 oldCap
   omega
theorem len_rel {y : AV} {c : Value} {n : Nat} (h : lenA y = some n) (r : VR π lm y c) (w : World) : (Builtin.lenOf c).run P w = .ok n w:=by
 cases r <;> simp [lenA] at h <;> subst h <;> rfl
theorem first_rel {y : AV} {c : Value} {es n : Nat} {l : List AV} (hw : WR B π lm s w) (h : firstA s es n y = some l) (r : VR π lm y c) :
  ∃ vs,(∀ w' : World,w'.heap = w.heap → (Builtin.firstCells es n c).run P w' = .ok vs w') ∧ LR π lm l vs.toList:=by
 cases y with
 | slice b off len cap ex es' =>
  obtain ⟨b',m,cap',hp,rfl,_⟩:=VR.slice_inv r
  simp only [firstA] at h
  split at h
  ·rename_i A hA
   rw [blockAt_some] at hA
   obtain ⟨c,fz,hc,hsz,_,hl,_⟩:=hw.at hA hp
   obtain ⟨hle,rfl⟩:=cut_some h
   have hAc : A.cells.length ≤ c.size:=by have:=hl.1; simp at this; omega
   refine ⟨_,fun w' e'=>run_loadCells (by rw [e']; exact hc) (by omega),?_⟩
   have:=(hl.drop off).take (n * es)
   rw [drop_take_take hle] at this
   exact this
  ·cases h
 | nilSlice =>
  simp [firstA] at h
  subst h
  cases r
  exact ⟨#[],fun _ _=>rfl,.nil⟩
 | _=>simp [firstA] at h
theorem bytes_some {t : TypeId} {n : Nat} (h : bytesA P t = some n) : ∃ i,P.info? t = some i ∧ i.bytes = n:=by
 simpa [bytesA,Option.map_eq_some_iff] using h
theorem run_grow {e : TypeId} {es bs need cap : Nat} {z : AV} (hz : zeroA P e = some z) (hzl : z.cells.length = es) (hbs : bytesA P e = some bs)     (old new : Array Value) (hs : old.size + new.size = need * es) (mo mn : Sem (Array Value)) (hmo : ∀ w' : World,w'.heap = w.heap → mo.run P w' = .ok old w') (hmn : ∀ w' : World,w'.heap = w.heap → mn.run P w' = .ok new w') :
  ∃ (d : Array Value) (cap' : Nat),need ≤ cap' ∧ d.size = cap' * es ∧ d.toList.take (need * es) = old.toList ++ new.toList ∧
   (do
    let newCap ← choose (.appendCap need cap e)
    askRoom (newCap * (← typeInfo e).bytes)
    let o ← mo
    let n ← mn
    let rest:=Builtin.zeroCells (← zeroValue e).cells (newCap - need)
    pure (Value.slice (some (← newRow e (o ++ n ++ rest))) need newCap) : Sem Value).run P w =
   .ok (.slice (some ⟨w.heap.size,0,none⟩) need cap') { w with heap:=w.heap.push (.cells d e),drawn:=w.drawn + 1 }:=by
 obtain ⟨i,hi,rfl⟩:=bytes_some hbs
 obtain ⟨u,hzu,hv⟩:=zero_rel (π:=fun _=>none) (lm:=[]) hz ({ w with drawn:=w.drawn + 1 } : World)
 have husz : u.cells.size = es:=by have:=hv.cells.1; simp at this; omega
 refine ⟨old ++ new ++ Builtin.zeroCells u.cells ((need + w.tape w.drawn (.appendCap need cap e) % (2 ^ 63 - need)) - need),need + w.tape w.drawn (.appendCap need cap e) % (2 ^ 63 - need),by omega,?_,?_,?_⟩
 ·have : (Builtin.zeroCells u.cells ((need + w.tape w.drawn (.appendCap need cap e) % (2 ^ 63 - need)) - need)).size = ((need + w.tape w.drawn (.appendCap need cap e) % (2 ^ 63 - need)) - need) * es:=by
   simp [Builtin.zeroCells,husz]
  simp only [Array.size_append,this,hs]
  rw [← Nat.add_mul]; congr 1; omega
 ·simp only [Array.toList_append]
  rw [List.take_append_of_le_length (by simp; omega),List.take_of_length_le (by simp; omega)]
 ·simp only [Sem.run_bind,run_choose,Question.forced,Bool.false_eq_true,if_false,Question.cut,Result.andThen_ok,run_typeInfo' hi,run_askRoom,hmo ({ w with drawn:=w.drawn + 1 } : World) rfl,
   hmn ({ w with drawn:=w.drawn + 1 } : World) rfl,hzu,newRow,run_newObj,Sem.run_pure]
theorem run_append_fits {st xt : TypeId} {e e' : TypeId} {es n len cap : Nat} {base : Option Addr} {cy : Value} {vs : Array Value} (ty : TypeId) (ats : Array TypeId) (a0 : ats[0]? = some st) (a1 : ats[1]? = some xt)
  (hu : P.underlying st = some (.slice e)) (hu' : P.underlying xt = some (.slice e')) (hes : sizeA P e = some es) (hn : (Builtin.lenOf cy).run P w = .ok n w) (hf : (Builtin.firstCells es n cy).run P w = .ok vs w)
  (hle : len + n ≤ cap) : (Builtin.append_ ats ty #[.slice base len cap,cy]).run P w =
   (do
    if let some a:=base then storeCells (a.add (len * es)) vs.toList
    pure (Value.slice base (len + n) cap) : Sem Value).run P w:=by
 simp only [Builtin.append_,a0,a1,Sem.run_bind,run_underlying hu,run_underlying hu',run_sizeOf' hes,Result.andThen_ok,List.getElem?_toArray,List.getElem?_cons_zero,List.getElem?_cons_succ,Sem.run_pure,
  Bool.false_eq_true,if_false,hn,Bool.not_false,if_true,if_pos hle,hf]
 cases base <;> rfl
theorem run_append_grows {st xt : TypeId} {e e' : TypeId} {es bs n len cap : Nat} {base : Option Addr} {cy : Value} (ty : TypeId) (ats : Array TypeId) (a0 : ats[0]? = some st) (a1 : ats[1]? = some xt)
  (hu : P.underlying st = some (.slice e)) (hu' : P.underlying xt = some (.slice e')) (hes : sizeA P e = some es) (hbs : bytesA P e = some bs) (hb0 : bs ≠ 0) (hn : (Builtin.lenOf cy).run P w = .ok n w)
  (hgt : ¬ len + n ≤ cap) (hsmall : (len + n) * bs ≤ 2 ^ 40) : (Builtin.append_ ats ty #[.slice base len cap,cy]).run P w =
   (do
    let newCap ← choose (.appendCap (len + n) cap e)
    askRoom (newCap * (← typeInfo e).bytes)
    let o ← Builtin.firstCells es len (.slice base len cap)
    let n' ← Builtin.firstCells es n cy
    let rest:=Builtin.zeroCells (← zeroValue e).cells (newCap - (len + n))
    pure (Value.slice (some (← newRow e (o ++ n' ++ rest))) (len + n) newCap) : Sem Value).run P w:=by
 obtain ⟨i,hi,rfl⟩:=bytes_some hbs
 have h1 : ¬ (((len + n : Nat) : Int) > IntKind.i64.max ∧ (False ∨ i.bytes = 0)):=fun h=>by rcases h.2 with h2 | h2 <;> first | exact h2.elim | exact hb0 h2
 have h2 : ¬ Builtin.nextslicecap (len + n) cap * i.bytes > 2 ^ 48:=by
  have hm : Builtin.nextslicecap (len + n) cap ≤ 2 * (len + n) + 192:=nextslicecap_le (by omega)
  have h3 : Builtin.nextslicecap (len + n) cap * i.bytes ≤ (2 * (len + n) + 192) * i.bytes:=Nat.mul_le_mul_right _ hm
  have h4 : (2 * (len + n) + 192) * i.bytes ≤ 194 * ((len + n) * i.bytes):=by
   rw [← Nat.mul_assoc]
   exact Nat.mul_le_mul_right _ (by omega)
  omega
 simp only [Builtin.append_,a0,a1,Sem.run_bind,run_underlying hu,run_underlying hu',run_sizeOf' hes,Result.andThen_ok,List.getElem?_toArray,List.getElem?_cons_zero,List.getElem?_cons_succ,Sem.run_pure,
  Bool.false_eq_true,if_false,hn,Bool.not_false,if_true,if_neg hgt,run_typeInfo' hi,if_neg h1,if_neg h2]
theorem Tr.withDrawn {π π' : Inj} {lm lm' : List Nat} {s s' : St} {w w1 w' : World} (h : Tr π π' lm lm' s s' w1 w') (e : w1.heap = w.heap) (h1 : w1.os = w.os) (h2 : w1.tape = w.tape) (h3 : w1.output = w.output) :
  Tr π π' lm lm' s s' w w':=
 ⟨h.os.trans h1,h.tape.trans h2,h.output.trans h3,by have:=h.size; rw [e] at this; exact this,by have:=h.keep; rw [e] at this; exact this,by have:=h.low; rw [e] at this; exact this,h.same,
  by have:=h.lkeep; rw [e] at this; exact this,h.lo_le,h.nd_le,h.le,h.old,h.len,h.liv,by have:=h.new; rw [e] at this; exact this,by have:=h.lmx; rw [e] at this; exact this⟩
theorem append_rel {st xt : TypeId} {x y v : AV} {cx cy : Value} {s' : St} (ty : TypeId) (hw : WR B π lm s w) (hB : B ≤ w.heap.size) (h : appendA P s st xt x y = some (v,s')) (hx : VR π lm x cx) (hy : VR π lm y cy)
  (ats : Array TypeId) (hats : ats.toList = [st,xt]) : ∃ c w' π',(Builtin.append_ ats ty #[cx,cy]).run P w = .ok c w' ∧ VR π' lm v c ∧ WR B π' lm s' w' ∧ Tr π π' lm lm s s' w w':=by
 unfold appendA at h
 split at h
 ·rename_i e e' hu hu'
  split at h
  ·rename_i es bs n z hes hbs hlen hz
   split at h
   ·cases h
   ·rename_i hne
    simp only [not_or,Decidable.not_not] at hne
    obtain ⟨hes0,hbs0,hzl⟩:=hne
    split at h
    ·cases h
    ·rename_i new hnew
     have a0 : ats[0]? = some st:=by rw [← Array.getElem?_toList,hats]; rfl
     have a1 : ats[1]? = some xt:=by rw [← Array.getElem?_toList,hats]; rfl
     obtain ⟨vs,hvs,hvr⟩:=first_rel (P:=P) hw hnew hy
     have fits : ∀ {base : Option Addr} {len cap : Nat},len + n ≤ cap → (Builtin.append_ ats ty #[.slice base len cap,cy]).run P w =
       (do
        if let some a:=base then storeCells (a.add (len * es)) vs.toList
        pure (Value.slice base (len + n) cap) : Sem Value).run P w:=fun hle =>
      run_append_fits ty ats a0 a1 hu hu' hes (len_rel hlen hy w) (hvs w rfl) hle
     have grows : ∀ {base : Option Addr} {len cap : Nat} {old : List AV} {ov : Array Value} {s1 : St},¬ len + n ≤ cap → (len + n) * bs ≤ 2 ^ 40 →
       (∀ w' : World,w'.heap = w.heap → (Builtin.firstCells es len (.slice base len cap)).run P w' = .ok ov w') → LR π lm old ov.toList → old.length + new.length = (len + n) * es → WR B π lm s1 w → Tr π π lm lm s s1 w w → s1.heap.length = s.heap.length →
       ∃ c w' π',(Builtin.append_ ats ty #[.slice base len cap,cy]).run P w = .ok c w' ∧ VR π' lm (.slice s.heap.length 0 (len + n) (len + n) false es) c ∧
        WR B π' lm (newBlk s1 e (old ++ new)) w' ∧ Tr π π' lm lm s (newBlk s1 e (old ++ new)) w w':=by
      intro base len cap old ov s1 hgt hsmall hov2 holr hsum hw1 htr hlen1
      have hsz : ov.size + vs.size = (len + n) * es:=by have a:=holr.1; have b:=hvr.1; simp at a b; omega
      obtain ⟨d,cap',k1,k2,k3,k4⟩:=run_grow (w:=w) (cap:=cap) hz hzl hbs ov vs hsz _ _ hov2 hvs
      have hnewl : LR π lm (old ++ new) (d.toList.take (old ++ new).length):=by
       rw [List.length_append,hsum,k3]
       exact holr.append hvr
      have hw2 : WR B π lm s1 ({ w with drawn:=w.drawn + 1 } : World):=hw1.heapEq rfl
      obtain ⟨m1,m2⟩:=hw2.new (by simpa using hB) e hnewl
      refine ⟨_,_,_,by rw [run_append_grows ty ats a0 a1 hu hu' hes hbs hbs0 (len_rel hlen hy w) hgt hsmall]; exact k4,?_,m1,?_⟩
      ·refine .sliceIn (n:=d.size) ?_ k1 (by rw [k2]; simp)
       simp [Inj.more,hlen1]
      ·exact htr.trans (m2.withDrawn rfl rfl rfl rfl)
     have hnl : new.length = n * es:=by
      cases y with
      | slice b off len cap ex es' =>
       simp only [firstA] at hnew
       split at hnew
       ·obtain ⟨hle,rfl⟩:=cut_some hnew
        simp; omega
       ·cases hnew
      | nilSlice=>simp [firstA] at hnew; simp [lenA] at hlen; subst hnew; subst hlen; simp
      | _=>simp [firstA] at hnew
     split at h
     ·have hcx : cx = .slice none 0 0:=by cases hx; rfl
      subst hcx
      split at h
      ·rename_i hn0
       simp at h
       obtain ⟨rfl,rfl⟩:=h
       subst hn0
       refine ⟨.slice none 0 0,w,π,?_,.nilSlice,hw,Tr.refl _ _ _ hw.dom⟩
       rw [fits (by omega)]; rfl
      ·rename_i hn0
       split at h
       ·cases h
       ·rename_i hsm
        simp at h
        obtain ⟨rfl,rfl⟩:=h
        have:=grows (base:=none) (len:=0) (cap:=0) (old:=[]) (ov:=#[]) (s1:=s) (by omega) (by simpa using Nat.le_of_not_lt hsm) (fun _ _=>rfl) .nil (by simpa using hnl) hw (Tr.refl _ _ _ hw.dom) rfl
        simpa using this
     ·rename_i b off len cap ex es'
      obtain ⟨b',m,cap',hp,rfl,hex⟩:=VR.slice_inv hx
      have hcap : cap ≤ cap':=by rcases hex with ⟨_,h⟩ | ⟨_,h,_⟩ <;> omega
      split at h
      ·cases h
      ·rename_i hee
       simp only [ne_eq,Decidable.not_not] at hee
       subst hee
       split at h
       ·rename_i hle
        simp only [Option.map_eq_some_iff,Prod.mk.injEq] at h
        obtain ⟨s1,hs1,rfl,rfl⟩:=h
        obtain ⟨w',k1,k2,k3⟩:=storeCells_rel (P:=P) hw hs1 hvr hp
        refine ⟨.slice (some ⟨b',off,none⟩) (len + n) cap',w',π,?_,?_,k2,k3⟩
        ·rw [fits (by omega)]
         simp [addr_add,k1]
        ·rcases hex with ⟨rfl,rfl⟩ | ⟨rfl,h1,h2⟩
         ·exact .sliceEx hp
         ·exact .sliceIn hp h1 h2
       ·rename_i hgt
        split at h
        ·cases h
        ·rename_i hsm
         split at h
         ·cases h
         ·rename_i old hold
          obtain ⟨ov,hov,holr⟩:=first_rel (P:=P) hw hold hx
          have hol : old.length = len * es':=by
           simp only [firstA] at hold
           split at hold
           ·obtain ⟨hle,rfl⟩:=cut_some hold
            simp; omega
           ·cases hold
          have hsum : old.length + new.length = (len + n) * es':=by rw [hol,hnl,Nat.add_mul]
          split at h
          ·rename_i hx1
           simp at h
           obtain ⟨rfl,rfl⟩:=h
           rcases hex with ⟨_,rfl⟩ | ⟨h1,_⟩
           ·exact grows hgt (Nat.le_of_not_lt hsm) hov holr hsum hw (Tr.refl _ _ _ hw.dom) rfl
           ·rw [h1] at hx1; cases hx1
          ·rename_i hx1
           split at h
           ·rename_i h0
            subst h0
            split at h
            ·rename_i A hA
             rw [blockAt_some] at hA
             split at h
             ·cases h
             ·rename_i hro
              simp only [not_or,Bool.not_eq_true,ne_eq,Decidable.not_not] at hro
              obtain ⟨hro,hel,hone⟩:=hro
              simp at h
              obtain ⟨rfl,rfl⟩:=h
              rcases hex with ⟨h1,_⟩ | ⟨_,h1,h2⟩
              ·exact absurd h1 hx1
              ·by_cases hfit : len + n ≤ cap'
               ·obtain ⟨c,fz,hc,hsz,hrw,hl,_⟩:=hw.at hA hp
                obtain ⟨rfl,hBb⟩:=hrw hro
                subst hel
                have hvl : vs.size = n * es':=by have:=hvr.1; simp at this; omega
                have hcs : cap' * es' = (len + n) * es' + (cap' - (len + n)) * es':=by rw [← Nat.add_mul]; congr 1; omega
                have hmul : (len + n) * es' = len * es' + n * es':=Nat.add_mul _ _ _
                have hco : c.size = cap' * es':=by omega
                have hov1:=hov w rfl
                have hov3 : (Builtin.firstCells es' len (.slice (some ⟨b',0,none⟩) len cap')).run P w = .ok _ w:=run_loadCells hc (show 0 + len * es' ≤ c.size by omega)
                rw [hov3] at hov1
                obtain rfl:=(Result.ok.inj hov1).1
                have hst:=run_storeCells (P:=P) (e:=A.elem) (b:=b') (off:=len * es') vs.toList 0 w c (all_one (by simpa using hone) hvr) hc (by simp; omega)
                have hdl : LR π lm (old ++ new) ((pasteV c (len * es') vs.toList).toList.take (old ++ new).length):=by
                 have e1 : (pasteV c (len * es') vs.toList).toList.take (old ++ new).length = (c.toList.drop 0).take (len * es') ++ vs.toList:=by
                  rw [List.length_append,hsum]
                  simp only [pasteV,List.drop_zero]
                  rw [← List.append_assoc,List.take_append_of_le_length (by simp; omega),List.take_of_length_le (by simp; omega)]
                 rw [e1]
                 exact holr.append hvr
                obtain ⟨m1,m2⟩:=hw.adopt hA hro hp hc (d:=pasteV c (len * es') vs.toList) (e:=A.elem) (by simp [pasteV]; omega) hdl (TailOk.none rfl)
                refine ⟨.slice (some ⟨b',0,none⟩) (len + n) cap',_,_,?_,.sliceIn (n:=m) (by simp [Inj.more]) hfit h2,m1,m2⟩
                rw [fits hfit]
                simp only [addr_add,Nat.zero_add,Sem.run_bind] at hst ⊢
                simp [hst]
               ·obtain ⟨k1,k2⟩:=hw.kill hA
                exact grows hfit (Nat.le_of_not_lt hsm) hov holr hsum k1 k2 (by simp [setNth_eq])
            ·cases h
           ·cases h
     ·cases h
  ·cases h
 ·cases h
theorem bytesOf_rel : ∀ {cs : List AV} {ns : List Int} {vs : List Value},bytesOf cs = some ns → LR π lm cs vs → vs = ns.map (Value.int .u8)
 | [],ns,vs,h,r=>by simp [bytesOf] at h; subst h; rw [r.nil_inv]; rfl
 | v :: l,ns,vs,h,r=>by
  obtain ⟨c,ws,rfl,hv,ht⟩:=r.uncons
  unfold bytesOf at h
  split at h
  ·rename_i h1; cases h1
  ·rename_i n l' h1
   obtain ⟨rfl,rfl⟩:=List.cons.inj h1
   simp only [Option.map_eq_some_iff] at h
   obtain ⟨ms,h2,rfl⟩:=h
   rw [hv.int_inv,bytesOf_rel h2 ht]; rfl
  ·cases h
theorem op_str {o : Oper} {src dst : TypeId} {x : Operand} {u v : AV} (ho : o.op = .convert src dst x) (hw : WR B π lm s w) (hx : eval ts x = some u) (h : strA P s src dst u = some v)
  (r : LR π lm ts a.tmps.toList) : OpOk P B π lm s w o a v s:=by
 unfold strA at h
 split at h
 ·rename_i e b off len cap ex es hs hd
  split at h
  ·rename_i A he hA
   split at h
   ·rename_i cs hcut
    simp only [Option.map_eq_some_iff] at h
    obtain ⟨ns,hns,rfl⟩:=h
    obtain ⟨b',m,cap',hp,hc,_⟩:=VR.slice_inv (eval_rel hx r)
    rw [blockAt_some] at hA
    obtain ⟨c,fz,hcell,hsz,_,hl,_⟩:=hw.at hA hp
    obtain ⟨hle,rfl⟩:=cut_some hcut
    have hAc : A.cells.length ≤ c.size:=by have:=hl.1; simp at this; omega
    have hrow:=(hl.drop off).take len
    rw [drop_take_take hle] at hrow
    have e1:=bytesOf_rel hns hrow
    refine .still hw (c:=.string (ns.foldl (fun r n=>r.push (UInt8.ofNat n.toNat)) ByteArray.empty)) ?_ (.str _)
    have hld : (loadCells ⟨b',off,none⟩ len).run P w = .ok (ns.map (Value.int .u8)).toArray w:=by
     rw [run_loadCells hcell (by omega),e1]
    simp [execOp,ho,hc,run_convert_bytes_string w src dst e _ _ _ hs he hd,run_bytesToString w _ len cap' ns hld]
   ·cases h
  ·cases h
 ·cases h
end Go.Ev
/- Operations on lists that are letters. -/
namespace Go.Ev
open Go.RowKit (Below)
set_option linter.unusedSectionVars false
variable [Rho] [Know] [KnowOk]
variable {P : Program} {B : Nat} {π : Inj} {lm : List Nat} {s : St} {w : World} {ts : List AV} {a : Act}
theorem VR.sls_inv {b : Nat} {off len cap : SX} {ex : Bool} {c : Value} (h : VR π lm (.sls b off len cap ex) c) :
  SlOk off len cap ∧ ∃ b' n cap',π b = some (b',n) ∧ c = .slice (some ⟨b',off.eval.toNat,none⟩) len.eval.toNat cap' ∧
   ((ex = true ∧ cap' = cap.eval.toNat) ∨ (ex = false ∧ cap.eval.toNat ≤ cap' ∧ off.eval.toNat + cap' * 1 = n)):=by
 cases h with
 | slsEx o h=>exact ⟨o,_,_,_,h,rfl,.inl ⟨rfl,rfl⟩⟩
 | slsIn o h hc hn=>exact ⟨o,_,_,_,h,rfl,.inr ⟨rfl,hc,hn⟩⟩
theorem VR.sptr_inv {b : Nat} {e : SX} {c : Value} (h : VR π lm (.sptr b e) c) : e.ok ∧ 0 ≤ e.eval ∧ ∃ b' n,π b = some (b',n) ∧ c = .pointer (some ⟨b',e.eval.toNat,none⟩):=by
 cases h with
 | sptr o n1 h=>exact ⟨o,n1,_,_,h,rfl⟩
theorem symA_some {x : Option AV} {k : IntKind} {e : SX} {lo hi : Int} (h : x.bind symA = some (k,e,lo,hi)) : ∃ v,x = some v ∧ symA v = some (k,e,lo,hi):=Option.bind_eq_some_iff.1 h
theorem op_idxS {o : Oper} {t : TypeId} {x i : Operand} {v : AV} {s' : St} {k : Nat} (ho : o.op = .indexAddr t x i) (hw : WR B π lm s w) (h : idxS P t (eval ts x) (eval ts i) s = some (.val v s' k)) (r : LR π lm ts a.tmps.toList) :
  OpOk P B π lm s w o a v s':=by
 unfold idxS at h
 split at h
 ·rename_i e b off len cap ex kk ie lo hi hu hx hi
  obtain ⟨vi,hvi,hsi⟩:=symA_some hi
  split at h
  ·rename_i hc
   simp only [Option.some.injEq,ORes.val.injEq] at h
   obtain ⟨rfl,rfl,_⟩:=h
   obtain ⟨o1,_,_,c2⟩:=symA_rel hsi (eval_rel hvi r)
   obtain ⟨so,b',m,cap',hp,cx,_⟩:=VR.sls_inv (eval_rel hx r)
   have l1:=leX_ok hc.2.1 (show (SX.lit 0).ok from trivial) o1
   have l2:=ltX_ok hc.2.2 o1 so.o2
   have l0 : (0 : Int) ≤ ie.eval:=l1
   obtain ⟨ao,ae⟩:=addX_ok off ie so.o1 o1
   have n1:=so.n1
   refine .still hw (c:=.pointer (some ⟨b',(addX off ie).eval.toNat,none⟩)) ?_ (.sptr ao (by rw [ae]; omega) hp)
   have e1 : (addX off ie).eval.toNat = off.eval.toNat + ie.eval.toNat * 1:=by rw [ae]; omega
   have l3 : ie.eval < (len.eval.toNat : Int):=by omega
   have l4 : ¬ max len.eval 0 ≤ ie.eval:=by omega
   simp [execOp,ho,Instr.indexAt,c2,asIntOf,run_underlying hu,cx,l0,l4,run_sizeOf' hc.1,addr_add,e1]
  ·cases h
 ·cases h
theorem op_loadS {o : Oper} {t : TypeId} {x : Operand} {v : AV} {s' : St} {k : Nat} (ho : o.op = .load t x) (hw : WR B π lm s w) (h : loadS P t (eval ts x) s = some (.val v s' k)) (r : LR π lm ts a.tmps.toList) :
  OpOk P B π lm s w o a v s':=by
 unfold loadS at h
 split at h
 ·rename_i b e hx
  obtain ⟨eo,en,b',n,hp,cx⟩:=VR.sptr_inv (eval_rel hx r)
  split at h
  ·rename_i A hA
   rw [blockAt_some] at hA
   split at h
   ·rename_i kk d htl ha
    simp only [Option.map_eq_some_iff,ORes.val.injEq] at h
    obtain ⟨v',hk,rfl,rfl,_⟩:=h
    obtain ⟨i,h1,h2,h3⟩:=KnowOk.cell hk eo
    obtain ⟨c,fz,hc,hsz,_,_,ht⟩:=hw.at hA hp
    have h4:=ht _ _ htl i h2
    refine .still hw (c:=lval kk d i) ?_ (h3 _ _)
    have e1 : e.eval.toNat = lskip kk + i:=by omega
    have hl : (loadVar t ⟨b',e.eval.toNat,none⟩).run P w = .ok (lval kk d i) w:=by
     simp only [loadVar,Sem.run_bind,run_isAgg' ha,Result.andThen_ok]
     rw [if_neg (by simp)]
     rw [run_load,cell_of hc,e1,h4]
    simp [execOp,ho,Instr.loadAt,cx,Instr.sureAddr,hl]
   ·cases h
  ·cases h
 ·cases h
theorem pasteV_get {c : Array Value} {off : Nat} {vs : List Value} (h : off + vs.length ≤ c.size) (m : Nat) : (pasteV c off vs)[m]? = if off ≤ m ∧ m < off + vs.length then vs[m - off]? else c[m]?:=by
 simp only [pasteV,List.getElem?_toArray]
 have hl : (c.toList.take off).length = off:=by simp; omega
 by_cases h1 : m < off
 ·rw [if_neg (by omega),List.getElem?_append_left (by omega),List.getElem?_take_of_lt h1,Array.getElem?_toList]
 ·rw [List.getElem?_append_right (by omega),hl]
  by_cases h2 : m - off < vs.length
  ·rw [if_pos (by omega),List.getElem?_append_left h2]
  ·rw [if_neg (by omega),List.getElem?_append_right (by omega),List.getElem?_drop,show off + vs.length + (m - off - vs.length) = m by omega,Array.getElem?_toList]
theorem lone_one {v : AV} {c : Value} (h : v.lone = true) (r : VR π lm v c) : v.cells = [v] ∧ c.cells = #[c] ∧ c.oneCell' = true:=by
 cases r <;> first | exact ⟨rfl,rfl,rfl⟩ | (simp [AV.lone,AV.sc] at h)
theorem op_storeS {o : Oper} {t : TypeId} {x y : Operand} {v : AV} {s' : St} {k : Nat} (ho : o.op = .store t x y) (hw : WR B π lm s w) (h : storeS P t (eval ts x) (eval ts y) s = some (.val v s' k)) (r : LR π lm ts a.tmps.toList) :
  OpOk P B π lm s w o a v s':=by
 unfold storeS at h
 split at h
 ·rename_i b e u hx hy
  obtain ⟨eo,en,b',n,hp,cx⟩:=VR.sptr_inv (eval_rel hx r)
  have ry:=eval_rel hy r
  split at h
  ·rename_i A hA
   rw [blockAt_some] at hA
   split at h
   ·rename_i kk d htl
    split at h
    ·rename_i hcond
     obtain ⟨hro,hlone,hsz1⟩:=hcond
     split at h
     ·rename_i k' hk
      simp only [Option.some.injEq,ORes.val.injEq] at h
      obtain ⟨rfl,rfl,_⟩:=h
      obtain ⟨p1,p2,i,p3,p4,p5,p6⟩:=KnowOk.put hk eo (fine0_of ry)
      obtain ⟨c,fz,hc,hsz,hrw,_,ht⟩:=hw.at hA hp
      obtain ⟨rfl,_⟩:=hrw hro
      have h4:=ht _ _ htl i p4
      have e1 : e.eval.toNat = lskip kk + i:=by omega
      have hlt : lskip kk + i < c.size:=(Array.getElem?_eq_some_iff.1 h4).1
      obtain ⟨_,q2,q3⟩:=lone_one hlone ry
      have hcv:=vl0_eq hlone ry
      have hst:=run_storeCells (P:=P) (e:=A.elem) (b:=b') (off:=e.eval.toNat) [a.eval y] 0 w c (by simpa using q3) hc (by simp; omega)
      have hpl : e.eval.toNat + [a.eval y].length ≤ c.size:=by simp; omega
      obtain ⟨m1,m2⟩:=hw.write (A':={ A with tl:=some (k',d),cells:=[] }) hA hro hp hc (d:=pasteV c (e.eval.toNat) [a.eval y]) rfl hro (by simp only [List.length_singleton] at hpl; simp [pasteV]; omega) (by simpa using LR.nil) (by
       intro k2 d2 hk2 j hj
       simp only [Option.some.injEq,Prod.mk.injEq] at hk2
       obtain ⟨rfl,rfl⟩:=hk2
       rw [p2] at hj
       rw [p1,pasteV_get hpl]
       by_cases hji : j = i
       ·subst hji
        rw [if_pos (by simp; omega),e1]
        simp [← p5,hcv]
       ·rw [if_neg (by simp; omega),ht _ _ htl j hj,p6 j hji hj])
      refine ⟨.skip,undef,_,π,?_,.inr ⟨rfl,rfl⟩,.undef,m1,m2⟩
      have hst' : (storeCells ⟨b',e.eval.toNat,none⟩ [a.eval y]).run P w = .ok () (upd w b' (.cells (pasteV c e.eval.toNat [a.eval y]) A.elem (0,0))):=by simpa using hst
      simp [execOp,ho,Instr.storeAt,cx,Instr.sureAddr,storeVar,run_sizeOf' hsz1,q2,hst']
     ·cases h
    ·cases h
   ·cases h
  ·cases h
 ·cases h
theorem boundS_rel {v : Option AV} {c : Option Value} {d l : SX} (hv : OR π lm v c) (h : boundS v d = some l) (hd : d.ok) :
  l.ok ∧ ((v = none ∧ l = d) ∨ ∃ k,c = some (.int k l.eval)):=by
 cases v with
 | none=>simp [boundS] at h; subst h; exact ⟨hd,.inl ⟨rfl,rfl⟩⟩
 | some v =>
  simp only [boundS,Option.map_eq_some_iff] at h
  obtain ⟨⟨k,e,lo,hi⟩,h1,rfl⟩:=h
  cases c with
  | none=>exact hv.elim
  | some c =>
   obtain ⟨g1,_,_,g2⟩:=symA_rel h1 hv
   exact ⟨g1,.inr ⟨k,by rw [g2]⟩⟩
theorem lookOpt_rel {x : Option Operand} {l : Option AV} (h : lookO (eval ts) x = some l) (r : LR π lm ts a.tmps.toList) : OR π lm l (x.map a.eval):=by
 cases x with
 | none=>simp [lookO] at h; subst h; trivial
 | some y =>
  simp only [lookO,Option.map_eq_some_iff] at h
  obtain ⟨u,hu,rfl⟩:=h
  exact eval_rel hu r
theorem op_sliceS {o : Oper} {t : TypeId} {x : Operand} {lo hi : Option Operand} {v : AV} {s' : St} {k : Nat} (ho : o.op = .slice t x lo hi none) (hw : WR B π lm s w)
  (h : sliceS P t (eval ts x) (lookO (eval ts) lo) (lookO (eval ts) hi) s = some (.val v s' k)) (r : LR π lm ts a.tmps.toList) :
  OpOk P B π lm s w o a v s':=by
 unfold sliceS at h
 split at h
 ·rename_i e b off len cap ex l hh hu hx hl hhi
  obtain ⟨so,b',m,cap',hp,cx,hex⟩:=VR.sls_inv (eval_rel hx r)
  have rl:=lookOpt_rel hl r
  have rh:=lookOpt_rel hhi r
  split at h
  ·rename_i l' h' bl bh
   split at h
   ·rename_i hc
    obtain ⟨c1,c2,c3,c4,c5⟩:=hc
    simp only [Option.some.injEq,ORes.val.injEq] at h
    obtain ⟨rfl,rfl,_⟩:=h
    obtain ⟨lo',hlv⟩:=boundS_rel rl bl (show (SX.lit 0).ok from trivial)
    obtain ⟨ho',hhv⟩:=boundS_rel rh bh so.o2
    have i1 : (0 : Int) ≤ l'.eval:=leX_ok c2 (show (SX.lit 0).ok from trivial) lo'
    have i2:=leX_ok c3 lo' ho'
    have i3:=leX_ok c4 ho' so.o2
    have n1:=so.n1
    have n2:=so.n2
    have n3:=so.n3
    have hcap : cap.eval.toNat ≤ cap':=by rcases hex with ⟨_,h⟩ | ⟨_,h,_⟩ <;> omega
    have i4 : l'.eval = 0 ∨ l'.eval < cap.eval:=by
     simp only [Bool.or_eq_true] at c5
     rcases c5 with c5 | c5
     ·exact .inl (SX.zero_eval c5)
     ·exact .inr (ltX_ok c5 lo' so.o3)
    have hb : (Instr.sliceBounds true len.eval.toNat cap' (lo.map a.eval) (hi.map a.eval) none).run P w = .ok (l'.eval.toNat,h'.eval.toNat,cap') w:=by
     have q1 : ∃ u : Option AV,OR π lm u (hi.map a.eval) ∧ boundA u len.eval.toNat cap.eval.toNat = some h'.eval.toNat:=by
      rcases hhv with ⟨q,q'⟩ | ⟨kk,q⟩
      ·subst q'
       rw [q] at rh
       exact ⟨none,rh,rfl⟩
      ·rw [q]
       exact ⟨some (.int kk h'.eval),.int _ _,by simp only [boundA]; rw [if_pos (by omega)]⟩
     have q2 : ∃ u : Option AV,OR π lm u (lo.map a.eval) ∧ boundA u 0 h'.eval.toNat = some l'.eval.toNat:=by
      rcases hlv with ⟨q,q'⟩ | ⟨kk,q⟩
      ·subst q'
       rw [q] at rl
       exact ⟨none,rl,rfl⟩
      ·rw [q]
       exact ⟨some (.int kk l'.eval),.int _ _,by simp only [boundA]; rw [if_pos (by omega)]⟩
     obtain ⟨u1,g1,g2⟩:=q1
     obtain ⟨u2,g3,g4⟩:=q2
     exact bounds_rel true g3 g1 g2 g4 hcap
    have hrun : (execOp a.eval o).run P w = .ok (.value (.slice (if cap' = l'.eval.toNat then some ⟨b',off.eval.toNat,none⟩ else some ⟨b',off.eval.toNat + l'.eval.toNat * 1,none⟩) (h'.eval.toNat - l'.eval.toNat) (cap' - l'.eval.toNat))) w:=by
     simp only [execOp,ho,Instr.sliceAt,Sem.run_bind,run_underlying hu,Result.andThen_ok,Sem.run_pure,Option.map_none,cx,Instr.slice,hb,run_sizeOf' c1,addr_add,Option.map_some]
    obtain ⟨a1,a2⟩:=addX_ok off l' so.o1 lo'
    obtain ⟨s1,s2⟩:=subX_ok h' l' ho' lo'
    obtain ⟨t1,t2⟩:=subX_ok cap l' so.o3 lo'
    have so' : SlOk (addX off l') (subX h' l') (subX cap l'):=⟨a1,s1,t1,by rw [a2]; omega,by rw [s2]; omega,by rw [s2,t2]; omega⟩
    have e1 : (addX off l').eval.toNat = off.eval.toNat + l'.eval.toNat * 1:=by rw [a2]; omega
    have e2 : (subX h' l').eval.toNat = h'.eval.toNat - l'.eval.toNat:=by rw [s2]; omega
    have e3 : (subX cap l').eval.toNat = cap.eval.toNat - l'.eval.toNat:=by rw [t2]; omega
    have base : (if cap' = l'.eval.toNat then some (⟨b',off.eval.toNat,none⟩ : Addr) else some ⟨b',off.eval.toNat + l'.eval.toNat * 1,none⟩) = some ⟨b',(addX off l').eval.toNat,none⟩:=by
     by_cases hq : cap' = l'.eval.toNat
     ·rw [if_pos hq,e1]
      have : l'.eval = 0:=by rcases i4 with h | h <;> omega
      simp [this]
     ·rw [if_neg hq,e1]
    rw [base,← e2] at hrun
    rcases hex with ⟨rfl,rfl⟩ | ⟨rfl,h3,h4⟩
    ·rw [← e3] at hrun
     exact .still hw hrun (.slsEx so' hp)
    ·exact .still hw hrun (.slsIn so' hp (by omega) (by rw [e1]; omega))
   ·cases h
  ·cases h
 ·cases h
theorem zeroK_ok {e : TypeId} {d : EK} (h : zeroK P e d = true) : ∃ z,zeroA P e = some z ∧ z.cells = [z] ∧ z.lone = true ∧ z.vl0 = d.val 0:=by
 unfold zeroK at h
 split at h
 ·rename_i k k' n hz
  simp only [Bool.and_eq_true,decide_eq_true_eq] at h
  obtain ⟨h1,rfl⟩:=h
  obtain rfl:=kindNo_ok h1
  exact ⟨_,hz,rfl,rfl,rfl⟩
 ·rename_i b hz
  simp only [Bool.not_eq_true'] at h
  subst h
  exact ⟨_,hz,rfl,rfl,by simp [AV.vl0,EK.val]⟩
 ·cases h
theorem lvals_get {k : Nat} {d : EK} {i : Nat} (h : i < llen k) : (lvals k d)[i]? = some (lval k d i):=by
 simp [lvals,h]
theorem lvals_len {k : Nat} {d : EK} : (lvals k d).length = llen k:=by simp [lvals]
theorem op_makeS {o : Oper} {t : TypeId} {x y : Operand} {v : AV} {s' : St} {kk : Nat} (ho : o.op = .makeSlice t x y) (hw : WR B π lm s w) (hB : B ≤ w.heap.size)
  (h : makeS P t (eval ts x) (eval ts y) s = some (.val v s' kk)) (r : LR π lm ts a.tmps.toList) : OpOk P B π lm s w o a v s':=by
 unfold makeS at h
 split at h
 ·rename_i e k1 n lo hi k2 m lo2 hi2 hu hx hy
  obtain ⟨vx,hvx,hsx⟩:=symA_some hx
  obtain ⟨vy,hvy,hsy⟩:=symA_some hy
  split at h
  ·rename_i d bs hd hb
   split at h
   ·rename_i hc
    obtain ⟨c1,c2,c3,c4,c5,c6⟩:=hc
    split at h
    ·rename_i k hk
     simp only [Option.some.injEq,ORes.val.injEq] at h
     obtain ⟨rfl,rfl,_⟩:=h
     obtain ⟨n1,n2,n3,ex⟩:=symA_rel hsx (eval_rel hvx r)
     obtain ⟨m1,m2,m3,ey⟩:=symA_rel hsy (eval_rel hvy r)
     obtain rfl:=SX.same_ok c3
     obtain ⟨g1,g2⟩:=KnowOk.rep hk n1 (by omega)
     obtain ⟨z,hz,hz1,hz2,hz3⟩:=zeroK_ok c2
     obtain ⟨u,hzu,hv⟩:=zero_rel (π:=π) (lm:=lm) hz w
     have hu0:=vl0_eq hz2 hv
     obtain ⟨_,huc,_⟩:=lone_one hz2 hv
     simp only [bytesA,Option.map_eq_some_iff] at hb
     obtain ⟨i,hi',rfl⟩:=hb
     have h0 : 0 ≤ n.eval:=by omega
     have h2 : n.eval * i.bytes ≤ 2 ^ 40:=Int.le_trans (Int.mul_le_mul_of_nonneg_right n3 (by omega)) c5
     have h3 : n.eval ≤ 2 ^ 40:=Int.le_trans n3 c6
     have wn : IntKind.i64.wrap n.eval = n.eval:=IntWalk.i64_in _ (by omega)
     have hsz : u.cells.size = 1:=by rw [huc]; rfl
     have hcs : (((Array.range (n.eval.toNat * 1)).map fun i=>u.cells[i % u.cells.size]!)).toList = List.replicate n.eval.toNat (d.val 0):=by
      rw [← hz3,← hu0,huc]
      apply List.ext_getElem
      ·simp
      ·intro j p q
       simp [Nat.mod_one]
     have ht : TailOk { elem:=e,cells:=[],ro:=false,tl:=some (k,d) } ((Array.range (n.eval.toNat * 1)).map fun i=>u.cells[i % u.cells.size]!):=by
      intro k2 d2 hk2 j hj
      simp only [Option.some.injEq,Prod.mk.injEq] at hk2
      obtain ⟨rfl,rfl⟩:=hk2
      rw [g1,Nat.zero_add,← Array.getElem?_toList,hcs,← g2,lvals_get hj]
     obtain ⟨q1,q2⟩:=hw.newT hB e (cs:=[]) (tl:=some (k,d)) LR.nil ht
     have so : SlOk (.lit 0) n n:=⟨trivial,n1,n1,Int.le_refl _,h0,Int.le_refl _⟩
     refine ⟨_,.slice (some ⟨w.heap.size,0,none⟩) n.eval.toNat n.eval.toNat,_,_,?_,.inl rfl,.slsEx so (n:=((Array.range (n.eval.toNat * 1)).map fun i=>u.cells[i % u.cells.size]!).size) (by simp [Inj.more]),q1,q2⟩
     have h5 : (i.bytes : Int) * n.eval = n.eval * i.bytes:=Int.mul_comm _ _
     have hbig : ¬ ((i.bytes : Int) * n.eval > 2 ^ 48):=by rw [h5]; omega
     have hn0 : ¬ n.eval < 0:=by omega
     have hnm : ¬ n.eval > n.eval:=by omega
     simp only [execOp,ho,Instr.makeSlice,Sem.run_bind,run_underlying hu,Result.andThen_ok,ex,ey,asInt,asIntOf,run_typeInfo' hi',wn,Sem.run_pure]
     simp only [hbig,hn0,hnm,decide_false,Bool.or_false,Bool.false_eq_true,if_false,Result.andThen_ok,newRow,Sem.run_bind,run_newObj,Sem.run_pure,run_askRoom,run_sizeOf' c1,Sem.run_ite]
     by_cases hz0 : n.eval.toNat * 1 = 0
     ·have h0 : Array.range 0 = #[]:=rfl
      simp [hz0,h0]
     ·have hz1 : ¬ n.eval ≤ 0:=by omega
      simp [hz1,hzu]
    ·cases h
   ·cases h
  ·cases h
 ·cases h
theorem len_of_rng {len : SX} {l h : Int} (hr : len.rng = some (l,h)) (ho : len.ok) : VR π lm (mkA .i64 len l h) (.int .i64 len.eval):=by
 have:=SX.rng_ok hr ho
 exact mkA_rel ho this.1 this.2
theorem descA_rel {d : EK} {x : AV} {c : Value} {dx : Desc} {lx : SX} (hw : WR B π lm s w) (h : descA s d x = some (dx,lx)) (r : VR π lm x c) :
  lx.ok ∧ descFine dx ∧ 0 ≤ lx.eval ∧ descLen dx = lx.eval ∧ (∀ w' : World,(Builtin.lenOf c).run P w' = .ok lx.eval.toNat w') ∧
  (descIn dx → ∀ n,n ≤ lx.eval.toNat → ∃ vs : Array Value,vs.toList = (descV d dx).take n ∧ ∀ w' : World,w'.heap = w.heap → (Builtin.firstCells 1 n c).run P w' = .ok vs w'):=by
 unfold descA at h
 split at h
 ·simp only [Option.some.injEq,Prod.mk.injEq] at h
  obtain ⟨rfl,rfl⟩:=h
  cases r
  refine ⟨trivial,by simp [descFine],Int.le_refl _,rfl,fun _=>rfl,fun _ n hn=>⟨#[],by simp [descV],fun _ _=>?_⟩⟩
  have : n = 0:=by simpa [SX.eval] using hn
  subst this; rfl
 ·rename_i b off len cap ex es
  split at h
  ·rename_i hes
   subst hes
   split at h
   ·rename_i A hA
    rw [blockAt_some] at hA
    split at h
    ·rename_i l hcut
     split at h
     ·rename_i hlone
      simp only [Option.some.injEq,Prod.mk.injEq] at h
      obtain ⟨rfl,rfl⟩:=h
      obtain ⟨b',m,cap',hp,rfl,_⟩:=VR.slice_inv r
      obtain ⟨c,fz,hc,hsz,_,hl,_⟩:=hw.at hA hp
      obtain ⟨hle,rfl⟩:=cut_some hcut
      have hAc : A.cells.length ≤ c.size:=by have:=hl.1; simp at this; omega
      have hr:=(hl.drop off).take len
      rw [drop_take_take hle] at hr
      simp only [List.all_eq_true] at hlone
      have hvs : (c.toList.drop off).take len = ((A.cells.drop off).take len).map AV.vl0:=by
       apply List.ext_getElem
       ·simpa using hr.1.symm
       ·intro i p q
        rw [List.getElem_map]
        exact vl0_eq (hlone _ (List.getElem_mem _)) (hr.2 i (by simpa using q) p)
      refine ⟨trivial,fun v hv=>?_,by simp [SX.eval],by simp [descLen,SX.eval]; omega,fun _=>rfl,fun _ n hn=>?_⟩
      ·obtain ⟨i,hi,rfl⟩:=List.getElem_of_mem hv
       exact fine0_of (hr.2 i hi (hr.1 ▸ hi))
      ·have hn' : n ≤ len:=by simpa [SX.eval] using hn
       refine ⟨((c.toList.drop off).take (n * 1)).toArray,?_,fun w' e'=>run_loadCells (by rw [e']; exact hc) (by omega)⟩
       simp only [descV,← hvs,Nat.mul_one]
       rw [List.take_take,Nat.min_eq_left hn']
     ·cases h
    ·cases h
   ·cases h
  ·cases h
 ·rename_i b off len cap ex
  split at h
  ·rename_i A hA
   rw [blockAt_some] at hA
   split at h
   ·rename_i k d' htl
    split at h
    ·rename_i hd
     subst hd
     simp only [Option.some.injEq,Prod.mk.injEq] at h
     obtain ⟨rfl,rfl⟩:=h
     obtain ⟨so,b',m,cap',hp,rfl,_⟩:=VR.sls_inv r
     obtain ⟨c,fz,hc,hsz,_,hl,ht⟩:=hw.at hA hp
     refine ⟨so.o2,⟨so.o1,so.o2,so.n1,so.n2⟩,so.n2,rfl,fun _=>rfl,fun hin n hn=>?_⟩
     obtain ⟨i1,i2⟩:=hin
     have hg : ∀ j,j < len.eval.toNat → c[off.eval.toNat + j]? = some (lval k d (off.eval.toNat - lskip k + j)):=fun j hj=>by
      have:=ht _ _ htl (off.eval.toNat - lskip k + j) (by omega)
      rw [← this]; congr 1; omega
     rcases Nat.eq_zero_or_pos n with h0 | h0
     ·subst h0
      exact ⟨#[],by simp,fun w' _=>by simp [Builtin.firstCells,loadCells,loadCellsFrom]⟩
     have hfit : off.eval.toNat + n * 1 ≤ c.size:=by
      have:=(Array.getElem?_eq_some_iff.1 (hg (n - 1) (by omega))).1; omega
     refine ⟨((c.toList.drop off.eval.toNat).take (n * 1)).toArray,?_,fun w' e'=>run_loadCells (by rw [e']; exact hc) hfit⟩
     simp only [descV,Nat.mul_one]
     apply List.ext_getElem?
     intro j
     rw [List.getElem?_take,List.getElem?_take]
     by_cases hj : j < n
     ·rw [if_pos hj,if_pos hj,List.getElem?_drop,Array.getElem?_toList,hg j (by omega)]
      simp [show j < len.eval.toNat by omega]
     ·rw [if_neg hj,if_neg hj]
    ·cases h
   ·cases h
  ·cases h
 ·cases h
end Go.Ev
/- append and copy of lists that are letters. -/
namespace Go.Ev
open Go.RowKit (Below)
set_option linter.unusedSectionVars false
variable [Rho] [Know] [KnowOk]
variable {P : Program} {B : Nat} {π : Inj} {lm : List Nat} {s : St} {w : World} {ts : List AV} {a : Act}
theorem grow_tail {st xt : TypeId} {e e' : TypeId} {bs n len cap k : Nat} {d : EK} {base : Option Addr} {cy : Value} {ov vs : Array Value} {L : SX} {s1 : St} (ty : TypeId) (ats : Array TypeId) (a0 : ats[0]? = some st) (a1 : ats[1]? = some xt)
  (hu : P.underlying st = some (.slice e)) (hu' : P.underlying xt = some (.slice e')) (hes : sizeA P e = some 1) (hbs : bytesA P e = some bs) (hbs0 : bs ≠ 0) (hz : zeroK P e d = true)
  (hB : B ≤ w.heap.size) (hlen : ∀ w' : World,(Builtin.lenOf cy).run P w' = .ok n w') (hov : ∀ w' : World,w'.heap = w.heap → (Builtin.firstCells 1 len (.slice base len cap)).run P w' = .ok ov w')
  (hvs : ∀ w' : World,w'.heap = w.heap → (Builtin.firstCells 1 n cy).run P w' = .ok vs w') (hol : ov.size = len) (hvl : vs.size = n) (hgt : ¬ len + n ≤ cap) (hsm : (len + n) * bs ≤ 2 ^ 40)
  (hLo : L.ok) (hLe : L.eval = ((len + n : Nat) : Int)) (hk0 : lskip k = 0) (hkv : lvals k d = ov.toList ++ vs.toList) (hw1 : WR B π lm s1 w) (htr : Tr π π lm lm s s1 w w) (hlen1 : s1.heap.length = s.heap.length) :
  ∃ c w' π',(Builtin.append_ ats ty #[.slice base len cap,cy]).run P w = .ok c w' ∧ VR π' lm (.sls s.heap.length (.lit 0) L L false) c ∧
   WR B π' lm (newBlk s1 e [] (some (k,d))) w' ∧ Tr π π' lm lm s (newBlk s1 e [] (some (k,d))) w w':=by
 obtain ⟨z,hz0,hz1,_,_⟩:=zeroK_ok hz
 obtain ⟨g,cap',k1,k2,k3,k4⟩:=run_grow (w:=w) (cap:=cap) hz0 (by rw [hz1]; rfl) hbs ov vs (show ov.size + vs.size = (len + n) * 1 by omega) _ _ hov hvs
 have hw2 : WR B π lm s1 ({ w with drawn:=w.drawn + 1 } : World):=hw1.heapEq rfl
 have hkl : llen k = len + n:=by
  have:=congrArg List.length hkv
  rw [lvals_len] at this
  simp at this; omega
 have ht : TailOk { elem:=e,cells:=[],ro:=false,tl:=some (k,d) } g:=by
  intro k2 d2 hk2 j hj
  simp only [Option.some.injEq,Prod.mk.injEq] at hk2
  obtain ⟨rfl,rfl⟩:=hk2
  rw [hk0,Nat.zero_add,← Array.getElem?_toList,← List.getElem?_take_of_lt (show j < (len + n) * 1 by omega),k3,← hkv,lvals_get hj]
 obtain ⟨m1,m2⟩:=hw2.newT (by simpa using hB) e (cs:=[]) (tl:=some (k,d)) LR.nil ht
 refine ⟨_,_,_,by rw [run_append_grows ty ats a0 a1 hu hu' hes hbs hbs0 (hlen w) hgt hsm]; exact k4,?_,m1,?_⟩
 ·have so : SlOk (.lit 0) L L:=⟨trivial,hLo,hLo,Int.le_refl _,by omega,Int.le_refl _⟩
  have e1 : L.eval.toNat = len + n:=by omega
  have:=VR.slsIn (π:=π.more s1.heap.length (w.heap.size,g.size)) (lm:=lm) (b:=s.heap.length) (b':=w.heap.size) (n:=g.size) (cap':=cap') so (by simp [Inj.more,hlen1]) (by omega) (by rw [k2]; simp [SX.eval])
  rw [e1] at this
  exact this
 ·exact htr.trans (m2.withDrawn rfl rfl rfl rfl)
theorem app0_run {sT xT : TypeId} {x y v : AV} {cx cy : Value} (ty : TypeId) (ats : Array TypeId) (a0 : ats[0]? = some sT) (a1 : ats[1]? = some xT) (h : app0 P sT xT x y = some v) (rx : VR π lm x cx) (ry : VR π lm y cy) (hw : WR B π lm s w) :
  ∃ cv w' π',(Builtin.append_ ats ty #[cx,cy]).run P w = .ok cv w' ∧ VR π' lm v cv ∧ WR B π' lm s w' ∧ Tr π π' lm lm s s w w':=by
 unfold app0 at h
 split at h
 ·rename_i e e' hu hu'
  split at h
  ·rename_i by' offy leny capy exy
   split at h
   ·rename_i hc
    obtain ⟨hes,hz⟩:=hc
    obtain ⟨so,b1,m1,cap1,hp1,rfl,hex1⟩:=VR.sls_inv ry
    have e0 : leny.eval = 0:=SX.zero_eval hz
    rw [e0]
    have hn : (Builtin.lenOf (.slice (some ⟨b1,offy.eval.toNat,none⟩) (0 : Int).toNat cap1)).run P w = .ok 0 w:=by simp [Builtin.lenOf]
    have hf : (Builtin.firstCells 1 0 (.slice (some ⟨b1,offy.eval.toNat,none⟩) (0 : Int).toNat cap1)).run P w = .ok #[] w:=by
     simp [Builtin.firstCells,loadCells,loadCellsFrom]
    have key : ∀ {b' len cap : Nat} {off : Nat},cx = .slice (some ⟨b',off,none⟩) len cap → len ≤ cap → x = v →
      ∃ cv w' π',(Builtin.append_ ats ty #[cx,.slice (some ⟨b1,offy.eval.toNat,none⟩) (0 : Int).toNat cap1]).run P w = .ok cv w' ∧ VR π' lm v cv ∧ WR B π' lm s w' ∧ Tr π π' lm lm s s w w':=by
     intro b' len cap off hcx hle hv
     subst hv
     refine ⟨cx,w,π,?_,rx,hw,Tr.refl _ _ _ hw.dom⟩
     rw [hcx,run_append_fits ty ats a0 a1 hu hu' hes hn hf (show len + 0 ≤ cap by omega)]
     simp [storeCells]
    split at h
    ·rename_i b off len cap ex es
     obtain ⟨b',m,cap',hp,hcx,hex⟩:=VR.slice_inv rx
     split at h
     ·rename_i hle
      rw [Nat.ble_eq] at hle
      simp only [Option.some.injEq] at h
      exact key hcx (by rcases hex with ⟨_,h1⟩ | ⟨_,h1,_⟩ <;> omega) h
     ·cases h
    ·rename_i b off len cap ex
     simp only [Option.some.injEq] at h
     obtain ⟨so',b',m,cap',hp,hcx,hex⟩:=VR.sls_inv rx
     have:=so'.n3
     have:=so'.n2
     exact key hcx (by rcases hex with ⟨_,h1⟩ | ⟨_,h1,_⟩ <;> omega) h
    ·cases h
   ·cases h
  ·cases h
 ·cases h
theorem op_appS {o : Oper} {c : Call} {sT xT : TypeId} {x y v : AV} {s' : St} {k : Nat} {ox oy : Operand} (ho : o.op = .call c) (hc : c.callee = .builtin .append) (ha : c.args.toList = [ox,oy]) (ht : c.argTypes.toList = [sT,xT])
  (hx : eval ts ox = some x) (hy : eval ts oy = some y) (hw : WR B π lm s w) (hB : B ≤ w.heap.size) (h : appS P sT xT x y s = some (.val v s' k)) (r : LR π lm ts a.tmps.toList) : OpOk P B π lm s w o a v s':=by
 have rx:=eval_rel hx r
 have ry:=eval_rel hy r
 have hargs : c.args.map a.eval = #[a.eval ox,a.eval oy]:=by
  have : c.args = #[ox,oy]:=by rw [← Array.toList_inj,ha]
  simp [this]
 have a0 : c.argTypes[0]? = some sT:=by rw [← Array.getElem?_toList,ht]; rfl
 have a1 : c.argTypes[1]? = some xT:=by rw [← Array.getElem?_toList,ht]; rfl
 have fin : (∃ cv w' π',(Builtin.append_ c.argTypes o.type #[a.eval ox,a.eval oy]).run P w = .ok cv w' ∧ VR π' lm v cv ∧ WR B π' lm s' w' ∧ Tr π π' lm lm s s' w w') → OpOk P B π lm s w o a v s':=by
  rintro ⟨cv,w',π',k1,k2,k3,k4⟩
  refine ⟨_,cv,w',π',?_,.inl rfl,k2,k3,k4⟩
  simp [execOp,ho,resolve,hc,invoke,builtin,hargs,k1]
 unfold appS at h
 split at h
 ·rename_i u hu0
  simp only [Option.some.injEq,ORes.val.injEq] at h
  obtain ⟨rfl,rfl,_⟩:=h
  exact fin (app0_run o.type c.argTypes a0 a1 hu0 rx ry hw)
 rename_i h00
 clear h00
 split at h
 ·rename_i e e' hu hu'
  split at h
  ·rename_i d bs hd hbs
   split at h
   ·rename_i hcond
    obtain ⟨hes,hbs0,hz⟩:=hcond
    split at h
    ·rename_i dx lx dy ly hdx hdy
     obtain ⟨x1,x2,x3,x4,x5,x6⟩:=descA_rel (P:=P) hw hdx rx
     obtain ⟨y1,y2,y3,y4,y5,y6⟩:=descA_rel (P:=P) hw hdy ry
     split at h
     ·rename_i kk l hh hk hrng
      obtain ⟨hk0,hkv,inx,iny⟩:=KnowOk.app hk x2 y2
      obtain ⟨Lo,Le⟩:=addX_ok lx ly x1 y1
      have hR:=SX.rng_ok hrng Lo
      split at h
      ·rename_i hsm
       obtain ⟨ov,hov1,hov2⟩:=x6 inx _ (Nat.le_refl _)
       obtain ⟨vs,hvs1,hvs2⟩:=y6 iny _ (Nat.le_refl _)
       have dl : ∀ (dd : Desc),descLen dd = ((descV d dd).length : Int) ∨ descLen dd < 0:=fun dd=>by
        cases dd with
        | cells l=>left; simp [descLen,descV]
        | lst k off len=>simp only [descLen,descV,List.length_map,List.length_range]; omega
       have hol : ov.size = lx.eval.toNat:=by
        have:=congrArg List.length hov1
        have h2:=dl dx
        simp only [Array.length_toList,List.length_take] at this; omega
       have hvl : vs.size = ly.eval.toNat:=by
        have:=congrArg List.length hvs1
        have h2:=dl dy
        simp only [Array.length_toList,List.length_take] at this; omega
       have hkv' : lvals kk d = ov.toList ++ vs.toList:=by
        rw [hkv,hov1,hvs1,List.take_of_length_le,List.take_of_length_le]
        ·have h2:=dl dy; omega
        ·have h2:=dl dx; omega
       have hLe : (addX lx ly).eval = ((lx.eval.toNat + ly.eval.toNat : Nat) : Int):=by rw [Le]; omega
       have hsm' : (lx.eval.toNat + ly.eval.toNat) * bs ≤ 2 ^ 40:=by
        have q : (addX lx ly).eval * bs ≤ hh * bs:=Int.mul_le_mul_of_nonneg_right hR.2 (by omega)
        rw [hLe] at q
        have : (((lx.eval.toNat + ly.eval.toNat : Nat) : Int) * (bs : Int)) = (((lx.eval.toNat + ly.eval.toNat) * bs : Nat) : Int):=by simp
        rw [this] at q
        omega
       have grow : ∀ {base : Option Addr} {cap : Nat},a.eval ox = .slice base lx.eval.toNat cap → ¬ lx.eval.toNat + ly.eval.toNat ≤ cap → some (growS s e (addX lx ly) kk d) = some (ORes.val v s' k) → OpOk P B π lm s w o a v s':=by
        intro base cap hcx hgt hv
        simp only [growS,Option.some.injEq,ORes.val.injEq] at hv
        obtain ⟨rfl,rfl,_⟩:=hv
        rw [hcx] at hov2 fin
        exact fin (grow_tail o.type c.argTypes a0 a1 hu hu' hes hbs hbs0 hz hB y5 hov2 hvs2 hol hvl hgt hsm' Lo hLe hk0 hkv' hw (Tr.refl _ _ _ hw.dom) rfl)
       have tip : ∀ {b b' m cap' : Nat},a.eval ox = .slice (some ⟨b',0,none⟩) lx.eval.toNat cap' → π b = some (b',m) → 0 + cap' * 1 = m → tipS s e b (addX lx ly) kk d = some (ORes.val v s' k) → OpOk P B π lm s w o a v s':=by
        intro b b' m cap' hcx hp hm hv
        unfold tipS at hv
        split at hv
        ·rename_i A hA
         rw [blockAt_some] at hA
         split at hv
         ·rename_i hro
          obtain ⟨hro,hel⟩:=hro
          simp only [Option.some.injEq,ORes.val.injEq] at hv
          obtain ⟨rfl,rfl,_⟩:=hv
          rw [hcx] at hov2 fin
          by_cases hfit : lx.eval.toNat + ly.eval.toNat ≤ cap'
          ·obtain ⟨c0,fz,hc0,hsz,hrw,_,_⟩:=hw.at hA hp
           obtain ⟨rfl,hBb⟩:=hrw hro
           subst hel
           have hov3 : (Builtin.firstCells 1 lx.eval.toNat (.slice (some ⟨b',0,none⟩) lx.eval.toNat cap')).run P w = .ok _ w:=run_loadCells hc0 (show 0 + lx.eval.toNat * 1 ≤ c0.size by omega)
           have hov4:=hov2 w rfl
           rw [hov3] at hov4
           obtain rfl:=(Result.ok.inj hov4).1
           have hone : ∀ u ∈ vs.toList,u.oneCell' = true:=by
            intro u hu2
            rw [hvs1] at hu2
            have hu3:=List.mem_of_mem_take hu2
            have hu4 : u ∈ lvals kk d:=by rw [hkv]; exact List.mem_append_right _ hu3
            simp only [lvals,List.mem_map] at hu4
            obtain ⟨i,_,rfl⟩:=hu4
            unfold lval EK.val
            cases d <;> rfl
           have hst:=run_storeCells (P:=P) (e:=A.elem) (b:=b') (off:=lx.eval.toNat * 1) vs.toList 0 w c0 hone hc0 (by simp; omega)
           have hpl : lx.eval.toNat * 1 + vs.toList.length ≤ c0.size:=by simp; omega
           have hkl : llen kk = lx.eval.toNat + ly.eval.toNat:=by
            have:=congrArg List.length hkv'
            rw [lvals_len] at this
            simp only [List.length_append,Array.length_toList,hvl] at this
            simp only [List.drop_zero,List.length_take,Array.length_toList] at this
            omega
           have htl : TailOk { elem:=A.elem,cells:=[],ro:=false,tl:=some (kk,d) } (pasteV c0 (lx.eval.toNat * 1) vs.toList):=by
            intro k2 d2 hk2 j hj
            simp only [Option.some.injEq,Prod.mk.injEq] at hk2
            obtain ⟨rfl,rfl⟩:=hk2
            have hg:=lvals_get (d:=d) hj
            rw [hkv'] at hg
            rw [hk0,Nat.zero_add,pasteV_get hpl,← hg]
            have e1 : ((c0.toList.drop 0).take (lx.eval.toNat * 1)).length = lx.eval.toNat:=by simp; omega
            by_cases hj2 : j < lx.eval.toNat
            ·rw [if_neg (by omega),List.getElem?_append_left (by simpa using (by omega : j < min lx.eval.toNat c0.size))]
             simp only [List.drop_zero]
             rw [List.getElem?_take_of_lt (by omega),Array.getElem?_toList]
            ·rw [if_pos (by simp; omega),List.getElem?_append_right (by simp; omega)]
             simp only [List.drop_zero,List.length_take,Array.length_toList]
             congr 1; omega
           obtain ⟨m1,m2⟩:=hw.adopt (tl:=some (kk,d)) hA hro hp hc0 (d:=pasteV c0 (lx.eval.toNat * 1) vs.toList) (e:=A.elem) (by simp only [Array.length_toList] at hpl; simp [pasteV]; omega) (cs:=[]) LR.nil htl
           have so : SlOk (.lit 0) (addX lx ly) (addX lx ly):=⟨trivial,Lo,Lo,Int.le_refl _,by omega,Int.le_refl _⟩
           refine fin ⟨.slice (some ⟨b',0,none⟩) (lx.eval.toNat + ly.eval.toNat) cap',_,_,?_,?_,m1,m2⟩
           ·rw [run_append_fits o.type c.argTypes a0 a1 hu hu' hes (y5 w) (hvs2 w rfl) hfit]
            have hst' : (storeCells ⟨b',lx.eval.toNat,none⟩ vs.toList).run P w = .ok () (upd w b' (.cells (pasteV c0 lx.eval.toNat vs.toList) A.elem (0,0))):=by simpa using hst
            simp [addr_add,hst']
           ·have:=VR.slsIn (π:=π.more s.heap.length (b',m)) (lm:=lm) (b:=s.heap.length) (b':=b') (n:=m) (cap':=cap') so (by simp [Inj.more]) (by omega) (by simp [SX.eval]; omega)
            rw [show (addX lx ly).eval.toNat = lx.eval.toNat + ly.eval.toNat by omega] at this
            exact this
          ·obtain ⟨k1,k2⟩:=hw.kill hA
           have:=grow_tail (s:=s) o.type c.argTypes a0 a1 hu hu' hes hbs hbs0 hz hB y5 hov2 hvs2 hol hvl hfit hsm' Lo hLe hk0 hkv' k1 k2 (by simp [setNth_eq])
           exact fin this
         ·cases hv
        ·cases hv
       split at h
       ·
        have hcx : a.eval ox = .slice none 0 0:=by
         generalize a.eval ox = cx at rx
         cases rx; rfl
        simp only [descA,Option.some.injEq,Prod.mk.injEq] at hdx
        obtain ⟨rfl,rfl⟩:=hdx
        split at h
        ·rename_i hlt
         have hlt':=ltX_ok hlt (show (SX.lit 0).ok from trivial) Lo
         have h0 : (SX.lit 0).eval = 0:=rfl
         exact grow hcx (by rw [h0] at hlt'; omega) h
        ·cases h
       ·rename_i b off len cap ex es
        obtain ⟨b',m,cap',hp,hcx,hex⟩:=VR.slice_inv rx
        have hes1 : es = 1:=by
         simp only [descA] at hdx
         split at hdx
         ·assumption
         ·cases hdx
        subst hes1
        have hlx : lx = .lit len:=by
         simp only [descA,if_true] at hdx
         split at hdx
         ·split at hdx
          ·split at hdx
           ·simp only [Option.some.injEq,Prod.mk.injEq] at hdx; exact hdx.2.symm
           ·cases hdx
          ·cases hdx
         ·cases hdx
        subst hlx
        have hle : (SX.lit (len : Int)).eval.toNat = len:=by simp [SX.eval]
        split at h
        ·rename_i hx1
         split at h
         ·rename_i hlt
          have hlt':=ltX_ok hlt (show (SX.lit _).ok from trivial) Lo
          rcases hex with ⟨_,rfl⟩ | ⟨h1,_⟩
          ·rw [← hle] at hcx
           have h0 : (SX.lit (cap' : Int)).eval = cap':=rfl
           exact grow hcx (by omega) h
          ·rw [h1] at hx1; cases hx1
         ·cases h
        ·rename_i hx1
         split at h
         ·rename_i h0
          subst h0
          rcases hex with ⟨h1,_⟩ | ⟨_,_,h2⟩
          ·exact absurd h1 hx1
          ·rw [← hle] at hcx
           exact tip hcx hp h2 h
         ·cases h
       ·rename_i b off len cap ex
        obtain ⟨so,b',m,cap',hp,hcx,hex⟩:=VR.sls_inv rx
        have hlx : lx = len:=by
         simp only [descA] at hdx
         split at hdx
         ·split at hdx
          ·split at hdx
           ·simp only [Option.some.injEq,Prod.mk.injEq] at hdx; exact hdx.2.symm
           ·cases hdx
          ·cases hdx
         ·cases hdx
        subst hlx
        split at h
        ·rename_i hx1
         split at h
         ·rename_i hlt
          have hlt':=ltX_ok hlt so.o3 Lo
          have:=so.n3
          have:=so.n2
          rcases hex with ⟨_,rfl⟩ | ⟨h1,_⟩
          ·exact grow hcx (by omega) h
          ·rw [h1] at hx1; cases hx1
         ·cases h
        ·rename_i hx1
         split at h
         ·rename_i h0
          have h0':=SX.zero_eval h0
          rw [show off.eval.toNat = 0 by omega] at hcx
          rcases hex with ⟨h1,_⟩ | ⟨_,_,h2⟩
          ·exact absurd h1 hx1
          ·exact tip hcx hp (by omega) h
         ·cases h
       ·cases h
      ·cases h
     ·cases h
    ·cases h
   ·cases h
  ·cases h
 ·cases h
theorem op_lenS {o : Oper} {c : Call} {t : TypeId} {x v : AV} {s' : St} {k : Nat} {ox : Operand} (ho : o.op = .call c) (hc : c.callee = .builtin .len) (ha : c.args.toList = [ox]) (ht : c.argTypes.toList = [t])
  (hx : eval ts ox = some x) (hw : WR B π lm s w) (h : lenS P t x s = some (.val v s' k)) (r : LR π lm ts a.tmps.toList) : OpOk P B π lm s w o a v s':=by
 have rx:=eval_rel hx r
 unfold lenS at h
 split at h
 ·rename_i e b off len cap ex hu
  split at h
  ·rename_i l hh hr
   simp only [Option.some.injEq,ORes.val.injEq] at h
   obtain ⟨rfl,rfl,_⟩:=h
   obtain ⟨so,b',m,cap',hp,hcx,_⟩:=VR.sls_inv rx
   have n2:=so.n2
   refine .still hw (c:=.int .i64 len.eval) ?_ (len_of_rng hr so.o2)
   have a0 : c.argTypes[0]? = some t:=by rw [← Array.getElem?_toList,ht]; rfl
   have hargs : c.args.map a.eval = #[a.eval ox]:=by
    have : c.args = #[ox]:=by rw [← Array.toList_inj,ha]
    simp [this]
   have e1 : ((len.eval.toNat : Nat) : Int) = len.eval:=by omega
   simp [execOp,ho,resolve,hc,invoke,builtin,Builtin.len_,a0,hargs,hcx,run_underlying hu,goInt,Int.max_eq_left n2]
  ·cases h
 ·cases h
theorem op_copyS {o : Oper} {c : Call} {sT yT : TypeId} {x y v : AV} {s' : St} {k : Nat} {ox oy : Operand} (ho : o.op = .call c) (hc : c.callee = .builtin .copy) (ha : c.args.toList = [ox,oy]) (ht : c.argTypes.toList = [sT,yT])
  (hx : eval ts ox = some x) (hy : eval ts oy = some y) (hw : WR B π lm s w) (h : copyS P sT x y s = some (.val v s' k)) (r : LR π lm ts a.tmps.toList) : OpOk P B π lm s w o a v s':=by
 have rx:=eval_rel hx r
 have ry:=eval_rel hy r
 have hargs : c.args.map a.eval = #[a.eval ox,a.eval oy]:=by
  have : c.args = #[ox,oy]:=by rw [← Array.toList_inj,ha]
  simp [this]
 have a0 : c.argTypes[0]? = some sT:=by rw [← Array.getElem?_toList,ht]; rfl
 unfold copyS at h
 split at h
 ·rename_i e b off len cap ex hu
  obtain ⟨so,b',m,cap',hp,hcx,_⟩:=VR.sls_inv rx
  split at h
  ·rename_i d A hd hA
   rw [blockAt_some] at hA
   split at h
   ·rename_i kk d' dy ly htl hdy
    split at h
    ·rename_i hcond
     obtain ⟨hes,hro,rfl⟩:=hcond
     split at h
     ·rename_i n k' hk
      obtain ⟨y1,y2,y3,y4,y5,y6⟩:=descA_rel (P:=P) hw hdy ry
      obtain ⟨n1,n2,iny,inx,q1,q2,q3⟩:=KnowOk.cpy hk so.o1 so.o2 so.n1 so.n2 y2
      obtain ⟨i1,i2⟩:=inx
      split at h
      ·rename_i l hh hr
       simp only [Option.some.injEq,ORes.val.injEq] at h
       obtain ⟨rfl,rfl,_⟩:=h
       have sn2:=so.n2
       have sn1:=so.n1
       have hnm : n.eval.toNat = Nat.min ly.eval.toNat len.eval.toNat:=by
        rw [n2,y4]
        rcases Int.le_total ly.eval len.eval with h | h
        ·rw [Int.min_eq_left h,show Nat.min ly.eval.toNat len.eval.toNat = ly.eval.toNat from Nat.min_eq_left (by omega)]
        ·rw [Int.min_eq_right h,show Nat.min ly.eval.toNat len.eval.toNat = len.eval.toNat from Nat.min_eq_right (by omega)]
       have hn0 : 0 ≤ n.eval:=by rw [n2,y4]; omega
       have hnl : n.eval.toNat ≤ ly.eval.toNat:=by rw [hnm]; exact Nat.min_le_left _ _
       have hnl2 : n.eval.toNat ≤ len.eval.toNat:=by rw [hnm]; exact Nat.min_le_right _ _
       obtain ⟨vs,hvs1,hvs2⟩:=y6 iny n.eval.toNat hnl
       obtain ⟨c0,fz,hc0,hsz,hrw,_,htail⟩:=hw.at hA hp
       obtain ⟨rfl,_⟩:=hrw hro
       have hdl : ly.eval.toNat ≤ (descV d dy).length:=by
        cases dy with
        | cells l=>simp only [descV,List.length_map]; simp only [descLen] at y4; omega
        | lst k off len=>simp only [descV,List.length_map,List.length_range]; simp only [descLen] at y4; omega
       have hvl : vs.toList.length = n.eval.toNat:=by rw [hvs1]; simp; omega
       by_cases hz : n.eval.toNat = 0
       ·
        have hv0 : vs = #[]:=by rw [← Array.toList_inj]; exact List.eq_nil_of_length_eq_zero (by omega)
        have htl2 : TailOk { A with tl:=some (k',d),cells:=[] } c0:=by
         intro k2 d2 hk2 j hj
         simp only [Option.some.injEq,Prod.mk.injEq] at hk2
         obtain ⟨rfl,rfl⟩:=hk2
         rw [q2] at hj
         have:=q3 j hj
         rw [if_neg (by omega)] at this
         rw [q1,Option.some.inj this]
         exact htail _ _ htl j hj
        obtain ⟨m1,m2⟩:=hw.write (A':={ A with tl:=some (k',d),cells:=[] }) hA hro hp hc0 (d:=c0) rfl hro rfl (by simpa using LR.nil) htl2
        have hself : upd w b' (.cells c0 A.elem (0,0)) = w:=by
         unfold upd
         have : w.heap.setIfInBounds b' (.cells c0 A.elem (0,0)) = w.heap:=by
          apply Array.ext
          ·simp
          ·intro j g1 g2
           by_cases hj : b' = j
           ·subst hj
            rw [Array.getElem_setIfInBounds_self]
            have:=Array.getElem?_eq_getElem g2; rw [hc0] at this; exact Option.some.inj this
           ·rw [Array.getElem_setIfInBounds_ne (by simpa using g1) hj]
         rw [this]
        rw [hself] at m1 m2
        refine ⟨_,.int .i64 n.eval,w,π,?_,.inl rfl,len_of_rng hr n1,m1,m2⟩
        have hfc : (Builtin.firstCells 1 0 (a.eval oy)).run P w = .ok #[] w:=by rw [← hz,← hv0]; exact hvs2 w rfl
        have e0 : n.eval = 0:=by omega
        simp [execOp,ho,resolve,hc,invoke,builtin,hargs,Builtin.copy_,a0,run_underlying hu,hcx,y5,run_sizeOf' hes,hfc,storeCells,goInt,← hnm,e0]
       ·have hlast : lskip kk + (off.eval.toNat - lskip kk + (n.eval.toNat - 1)) < c0.size:=(Array.getElem?_eq_some_iff.1 (htail _ _ htl (off.eval.toNat - lskip kk + (n.eval.toNat - 1)) (by omega))).1
        have hpl : off.eval.toNat + vs.toList.length ≤ c0.size:=by rw [hvl]; omega
        have hone : ∀ u ∈ vs.toList,u.oneCell' = true:=by
         intro u hu2
         obtain ⟨i,hi,rfl⟩:=List.getElem_of_mem hu2
         have hi2 : i < n.eval.toNat:=by omega
         have h7:=q3 (off.eval.toNat - lskip kk + i) (by omega)
         rw [if_pos (by omega),show off.eval.toNat - lskip kk + i - (off.eval.toNat - lskip kk) = i by omega] at h7
         have h8 : vs.toList[i]? = (descV d dy)[i]?:=by rw [hvs1,List.getElem?_take_of_lt hi2]
         rw [← h8,List.getElem?_eq_getElem hi] at h7
         rw [← Option.some.inj h7]
         unfold lval EK.val
         cases d <;> rfl
        have hst:=run_storeCells (P:=P) (e:=A.elem) (b:=b') (off:=off.eval.toNat) vs.toList 0 w c0 hone hc0 (by omega)
        have htl2 : TailOk { A with tl:=some (k',d),cells:=[] } (pasteV c0 off.eval.toNat vs.toList):=by
         intro k2 d2 hk2 j hj
         simp only [Option.some.injEq,Prod.mk.injEq] at hk2
         obtain ⟨rfl,rfl⟩:=hk2
         rw [q2] at hj
         have h7:=q3 j hj
         rw [q1,pasteV_get hpl,h7]
         by_cases hin : off.eval.toNat - lskip kk ≤ j ∧ j < off.eval.toNat - lskip kk + n.eval.toNat
         ·rw [if_pos (by omega),if_pos hin,hvs1,List.getElem?_take_of_lt (by omega)]
          congr 1; omega
         ·rw [if_neg (by omega),if_neg hin,htail _ _ htl j hj]
        obtain ⟨m1,m2⟩:=hw.write (A':={ A with tl:=some (k',d),cells:=[] }) hA hro hp hc0 (d:=pasteV c0 off.eval.toNat vs.toList) rfl hro (by simp only [Array.length_toList] at hpl; simp [pasteV]; omega) (by simpa using LR.nil) htl2
        refine ⟨_,.int .i64 n.eval,_,π,?_,.inl rfl,len_of_rng hr n1,m1,m2⟩
        have hfc : (Builtin.firstCells 1 n.eval.toNat (a.eval oy)).run P w = .ok vs w:=hvs2 w rfl
        have e0 : ((n.eval.toNat : Nat) : Int) = n.eval:=by omega
        have hst' : (storeCells ⟨b',off.eval.toNat,none⟩ vs.toList).run P w = .ok () (upd w b' (.cells (pasteV c0 off.eval.toNat vs.toList) A.elem (0,0))):=by simpa using hst
        simp [execOp,ho,resolve,hc,invoke,builtin,hargs,Builtin.copy_,a0,run_underlying hu,hcx,y5,run_sizeOf' hes,hfc,goInt,← hnm,hst',Int.max_eq_left hn0]
      ·cases h
     ·cases h
    ·cases h
   ·cases h
  ·cases h
 ·cases h
theorem evOpS_val {o : Oper} {v : AV} {s' : St} {k : Nat} (hw : WR B π lm s w) (hB : B ≤ w.heap.size) (r : LR π lm ts a.tmps.toList) (h : evOpS P (eval ts) o s = some (.val v s' k)) :
  OpOk P B π lm s w o a v s' ∧ ∀ c,o.op ≠ .defer c:=by
 unfold evOpS at h
 split at h
 ·rename_i ho; exact ⟨op_idxS ho hw h r,by simp [ho]⟩
 ·rename_i ho; exact ⟨op_loadS ho hw h r,by simp [ho]⟩
 ·rename_i ho; exact ⟨op_storeS ho hw h r,by simp [ho]⟩
 ·rename_i ho; exact ⟨op_sliceS ho hw h r,by simp [ho]⟩
 ·rename_i ho; exact ⟨op_makeS ho hw hB h r,by simp [ho]⟩
 ·rename_i c ho
  refine ⟨?_,by simp [ho]⟩
  split at h
  ·rename_i hc ha ht
   obtain ⟨x,hx,h⟩:=Option.bind_eq_some_iff.1 h
   exact op_lenS ho hc ha ht hx hw h r
  ·rename_i hc ha ht
   obtain ⟨x,hx,h⟩:=Option.bind_eq_some_iff.1 h
   obtain ⟨y,hy,h⟩:=Option.bind_eq_some_iff.1 h
   exact op_appS ho hc ha ht hx hy hw hB h r
  ·rename_i hc ha ht
   obtain ⟨x,hx,h⟩:=Option.bind_eq_some_iff.1 h
   obtain ⟨y,hy,h⟩:=Option.bind_eq_some_iff.1 h
   exact op_copyS ho hc ha ht hx hy hw h r
  ·cases h
 ·cases h
end Go.Ev
