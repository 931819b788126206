/- Regions that draw their order, of the third kind: rows that are made have their places beforehand. -/
import Derived.Test.YtllecfhfhcmpaaaEvX
namespace Go.Ev
open Go.RowKit (Below)
set_option linter.unusedSectionVars false
variable [Rho] [Know] [KnowOk]
variable {P : Program} {B : Nat} {π : Inj} {lm : List Nat} {s : St} {w : World} {ts : List AV} {a : Act}
theorem alS_shape {o : Oper} {v : AV} {s' : St} {k : Nat} (ha : alS o.op = true) (h : evOp0 P ts o s = some (.val v s' k)) : ∃ (G : Nat → AV) (e : TypeId) (cs : List AV),
  ((∀ n,G n = .ptr n 0) ∨ ∃ len cap es,∀ n,G n = .slice n 0 len cap true es) ∧ v = G s.heap.length ∧ s' = newBlk s e cs ∧ ∀ s2 : St,evOp0 P ts o s2 = some (.val (G s2.heap.length) (newBlk s2 e cs) k):=by
 cases ho : o.op with
 | alloc t =>
  simp only [evOp0,ho,Option.map_eq_some_iff,ORes.val.injEq] at h ⊢
  obtain ⟨z,hz,rfl,rfl,rfl⟩:=h
  exact ⟨fun n=>.ptr n 0,_,_,.inl fun _=>rfl,rfl,rfl,fun s2=>⟨z,hz,rfl,rfl,rfl⟩⟩
 | box t x =>
  simp only [evOp0,ho,Option.map_eq_some_iff,ORes.val.injEq] at h ⊢
  obtain ⟨z,hz,rfl,rfl,rfl⟩:=h
  exact ⟨fun n=>.ptr n 0,_,_,.inl fun _=>rfl,rfl,rfl,fun s2=>⟨z,hz,rfl,rfl,rfl⟩⟩
 | buildSlice t len xs =>
  simp only [evOp0,ho] at h ⊢
  split at h
  ·split at h
   ·split at h
    ·cases h
    ·rename_i hc
     simp only [Option.map_eq_some_iff,ORes.val.injEq] at h
     obtain ⟨z,hz,rfl,rfl,rfl⟩:=h
     refine ⟨fun n=>.slice n 0 len len true _,_,_,.inr ⟨_,_,_,fun _=>rfl⟩,rfl,rfl,fun s2=>?_⟩
     rw [if_neg hc,hz]; rfl
   ·cases h
  ·cases h
 | makeSlice t x y =>
  simp only [evOp0,ho] at h ⊢
  split at h
  ·split at h
   ·split at h
    ·rename_i hc
     simp only [Option.some.injEq,ORes.val.injEq] at h
     obtain ⟨rfl,rfl,rfl⟩:=h
     refine ⟨fun n=>.slice n 0 _ _ true _,_,_,.inr ⟨_,_,_,fun _=>rfl⟩,rfl,rfl,fun s2=>?_⟩
     rw [if_pos hc]
    ·cases h
   ·cases h
  ·cases h
 | _=>simp [alS,ho] at ha
theorem WR.sub {X X0 : St} (h : WR B π lm X w) (hl : X0.heap.length = X.heap.length) (hp : X0.loops = X.loops) (hs : ∀ (i : Nat) (A : ABlk),X0.heap[i]? = some (some A) → X.heap[i]? = some (some A)) : WR B π lm X0 w where
 dom:=fun i x hx=>by rw [hl]; exact h.dom i x hx
 blk:=fun i A hA=>h.blk i A (hs i A hA)
 inj:=fun i j A A' b n m h1 h2=>h.inj i j A A' b n m (hs _ _ h1) (hs _ _ h2)
 lsz:=by rw [hp]; exact h.lsz
 linj:=h.linj
 loop:=fun l r hr=>h.loop l r (by rw [← hp]; exact hr)
theorem WR.notLoop {X : St} (h : WR B π lm X w) {i b n : Nat} {A : ABlk} (hA : X.heap[i]? = some (some A)) (hp : π i = some (b,n)) : b ∉ lm:=by
 intro hm
 obtain ⟨l,hl,e⟩:=List.getElem_of_mem hm
 obtain ⟨r,hr⟩ : ∃ r,X.loops[l]? = some r:=⟨_,List.getElem?_eq_getElem (h.lsz ▸ hl)⟩
 obtain ⟨L,fn,D,ts,st,pd,f1,f2,_⟩:=h.loop l r hr
 rw [List.getElem?_eq_getElem hl,e] at f1
 obtain rfl:=Option.some.inj f1
 obtain ⟨b',n',c,fz,g1,g2,_⟩:=h.blk i A hA
 rw [hp] at g1
 simp only [Option.some.injEq,Prod.mk.injEq] at g1
 rw [← g1.1,f2] at g2; cases g2
theorem readd {π1 π2 : Inj} {lm1 lm2 : List Nat} {X X0 Y Z : St} {w1 w2 : World} (hX : WR B π1 lm1 X w1) (hY : WR B π2 lm2 Y w2) (t : Tr π1 π2 lm1 lm2 X0 Y w1 w2)
  (hl : X0.heap.length = X.heap.length) (hn : X0.nd = X.nd) (hlo : X0.lo = X.lo) (hs : ∀ (i : Nat) (A : ABlk),X0.heap[i]? = some (some A) → X.heap[i]? = some (some A))
  (zp : Z.loops = Y.loops) (zn : Z.nd = Y.nd) (zlo : Z.lo = Y.lo) (zl : Z.heap.length = Y.heap.length)
  (hz : ∀ (i : Nat) (A : ABlk),Z.heap[i]? = some (some A) → Y.heap[i]? = some (some A) ∨ (X.heap[i]? = some (some A) ∧ ∀ A' : ABlk,X0.heap[i]? ≠ some (some A')))
  (hz3 : ∀ (i : Nat),i < X.heap.length → Y.heap[i]? = X0.heap[i]? → Z.heap[i]? = X.heap[i]?) : WR B π2 lm2 Z w2 ∧ Tr π1 π2 lm1 lm2 X Z w1 w2:=by
 have key : ∀ (i : Nat) (A : ABlk) (b n : Nat),X.heap[i]? = some (some A) → (∀ A' : ABlk,X0.heap[i]? ≠ some (some A')) → π1 i = some (b,n) → w2.heap[b]? = w1.heap[b]?:=by
  intro i A b n hA h0 hp
  obtain ⟨b',n',c,fz,g1,g2,_⟩:=hX.blk i A hA
  rw [hp] at g1
  simp only [Option.some.injEq,Prod.mk.injEq] at g1
  refine t.keep b (by rw [g1.1]; exact lt_of_some g2) (fun i' A' m h1 hro h2=>?_) (hX.notLoop hA hp)
  obtain rfl:=hX.inj i' i A' A b m n (hs _ _ h1) hA hro h2 hp
  exact h0 A' h1
 have lt : ∀ (i : Nat) (A : ABlk),X.heap[i]? = some (some A) → i < X.heap.length:=fun i A h=>(List.getElem?_eq_some_iff.1 h).1
 have size1 : ∀ (i : Nat) (A : ABlk) (b n : Nat),X.heap[i]? = some (some A) → π1 i = some (b,n) → b < w1.heap.size:=fun i A b n hA hp=>by
  obtain ⟨b',n',c,fz,g1,g2,_⟩:=hX.blk i A hA
  rw [hp] at g1
  simp only [Option.some.injEq,Prod.mk.injEq] at g1
  rw [g1.1]; exact lt_of_some g2
 have old : ∀ i,i < X.heap.length → π2 i = π1 i:=fun i hi=>t.old i (by rw [hl]; exact hi)
 refine ⟨{
  dom:=fun i x hx=>by rw [zl]; exact hY.dom i x hx
  blk:=fun i A hA=>?_
  inj:=fun i j A A' b n m h1 h2 h3 h4 h5=>?_
  lsz:=by rw [zp]; exact hY.lsz
  linj:=hY.linj
  loop:=fun l r hr=>hY.loop l r (by rw [← zp]; exact hr) },{
  os:=t.os,tape:=t.tape,output:=t.output,size:=t.size
  keep:=fun r hr hm hlm=>t.keep r hr (fun i A n h1 h2=>hm i A n (hs _ _ h1) h2) hlm
  low:=fun i A b n hA hi hp=>?_
  same:=fun i hi hi2=>hz3 i hi (t.same i (by rw [hl]; exact hi) (by rw [← zlo]; exact hi2))
  lkeep:=fun h=>t.lkeep (by rw [hn,← zn]; exact h)
  lo_le:=by rw [zlo,← hlo]; exact t.lo_le
  nd_le:=by rw [zn,← hn]; exact t.nd_le
  le:=t.le
  old:=old
  len:=by rw [zl,← hl]; exact t.len
  liv:=fun i A' hi hA=>?_
  new:=fun i b n hi hp=>?_
  lmx:=t.lmx }⟩
 ·rcases hz i A hA with h | ⟨h,h0⟩
  ·exact hY.blk i A h
  ·obtain ⟨b,n,c,fz,g1,g2,g3,g4,g5⟩:=hX.blk i A h
   exact ⟨b,n,c,fz,t.le _ _ g1,by rw [key i A b n h h0 g1]; exact g2,g3,g4,t.lr g5.1,g5.2⟩
 ·rcases hz i A h1 with k1 | ⟨k1,k0⟩ <;> rcases hz j A' h2 with q1 | ⟨q1,q0⟩
  ·exact hY.inj i j A A' b n m k1 q1 h3 h4 h5
  ·rw [old j (lt _ _ q1)] at h5
   by_cases hi : i < X.heap.length
   ·rw [old i hi] at h4
    obtain ⟨A2,e1,e2⟩:=t.liv i A (by rw [hl]; exact hi) k1
    exact hX.inj i j A2 A' b n m (hs _ _ e1) q1 (by rw [e2]; exact h3) h4 h5
   ·rcases t.new i b n (by omega) h4 with g | ⟨j',A2,m2,e1,e2,e3⟩
    ·have:=size1 j A' b m q1 h5; omega
    ·obtain rfl:=hX.inj j' j A2 A' b m2 m (hs _ _ e1) q1 e2 e3 h5
     exact absurd e1 (q0 A2)
  ·rw [old i (lt _ _ k1)] at h4
   by_cases hj : j < X.heap.length
   ·rw [old j hj] at h5
    obtain ⟨A2,e1,e2⟩:=t.liv j A' (by rw [hl]; exact hj) q1
    exact hX.inj i j A A2 b n m k1 (hs _ _ e1) h3 h4 h5
   ·rcases t.new j b m (by omega) h5 with g | ⟨j',A2,m2,e1,e2,e3⟩
    ·have:=size1 i A b n k1 h4; omega
    ·obtain rfl:=hX.inj j' i A2 A b m2 n (hs _ _ e1) k1 e2 e3 h4
     exact absurd e1 (k0 A2)
  ·rw [old i (lt _ _ k1)] at h4
   rw [old j (lt _ _ q1)] at h5
   exact hX.inj i j A A' b n m k1 q1 h3 h4 h5
 ·by_cases h0 : ∃ A' : ABlk,X0.heap[i]? = some (some A')
  ·obtain ⟨A',h0⟩:=h0
   exact t.low i A' b n h0 (by rw [← zlo]; exact hi) hp
  ·exact key i A b n hA (fun A' h=>h0 ⟨A',h⟩) hp
 ·rcases hz i A' hA with k1 | ⟨k1,k0⟩
  ·obtain ⟨A2,e1,e2⟩:=t.liv i A' (by rw [hl]; exact hi) k1
   exact ⟨A2,hs _ _ e1,e2⟩
  ·exact ⟨A',k1,rfl⟩
 ·rcases t.new i b n (by rw [hl]; exact hi) hp with g | ⟨j',A2,m2,e1,e2,e3⟩
  ·exact .inl g
  ·exact .inr ⟨j',A2,m2,hs _ _ e1,e2,e3⟩
def bare (X : St) : St:={ X with heap:=List.replicate X.heap.length none }
theorem made {π1 π2 : Inj} {lm1 lm2 : List Nat} {X : St} {w1 w2 : World} {e : TypeId} {cs : List AV} {k : Nat} (hX : WR B π1 lm1 X w1) (T0 : Tr π π1 lm lm1 s X w w1)
  (h2 : WR B π2 lm2 (newBlk (bare X) e cs) w2) (t : Tr π1 π2 lm1 lm2 (bare X) (newBlk (bare X) e cs) w1 w2) (hk : X.heap[k]? = some none) (hpk : π1 k = none) (hsk : s.heap.length ≤ k) (hc : cs.all AV.lone = true) :
  ∃ π3 : Inj,WR B π3 lm1 (setBlk X k { elem:=e,cells:=cs,ro:=false }) w2 ∧ Tr π π3 lm lm1 s (setBlk X k { elem:=e,cells:=cs,ro:=false }) w w2 ∧ π1.le π3 ∧ (∀ i,i ≠ k → π3 i = π1 i) ∧
   ∀ (G : Nat → AV) (c : Value),((∀ n,G n = .ptr n 0) ∨ ∃ len cap es,∀ n,G n = .slice n 0 len cap true es) → VR π2 lm2 (G X.heap.length) c → VR π3 lm1 (G k) c:=by
 have hkl : k < X.heap.length:=(List.getElem?_eq_some_iff.1 hk).1
 have bl : (bare X).heap.length = X.heap.length:=by simp [bare]
 have bno : ∀ (i : Nat) (A : ABlk),(bare X).heap[i]? ≠ some (some A):=fun i A h=>by
  simp only [bare,List.getElem?_replicate] at h
  split at h <;> simp at h
 have hlm : lm2 = lm1:=by
  obtain ⟨l,e1,_⟩:=t.lmx
  have h3 : lm2.length = X.loops.length:=h2.lsz
  have h4:=hX.lsz
  rw [e1,List.length_append] at h3
  have : l = []:=List.eq_nil_of_length_eq_zero (by omega)
  rw [e1,this,List.append_nil]
 subst hlm
 have kept : ∀ (r : Nat),r < w1.heap.size → w2.heap[r]? = w1.heap[r]?:=fun r hr=>by
  by_cases hm : r ∈ lm2
  ·exact t.lkeep rfl r hm
  ·exact t.keep r hr (fun i A n h=>absurd h (bno i A)) hm
 obtain ⟨b0,n0,c0,fz0,g1,g2,g3,g4,g5⟩:=h2.blk X.heap.length { elem:=e,cells:=cs,ro:=false } (by
  simp only [newBlk]
  rw [List.getElem?_append_right (by rw [bl]; exact Nat.le_refl _),bl]; simp)
 have big : w1.heap.size ≤ b0:=by
  rcases t.new X.heap.length b0 n0 (by rw [bl]; exact Nat.le_refl _) g1 with g | ⟨j,A,m,h,_⟩
  ·exact g
  ·exact absurd h (bno j A)
 let π3 : Inj:=fun i=>if i = k then π2 X.heap.length else π1 i
 have p3k : π3 k = some (b0,n0):=by simp only [π3,if_pos]; exact g1
 have p3n : ∀ i,i ≠ k → π3 i = π1 i:=fun i hi=>by simp only [π3,if_neg hi]
 have le : π1.le π3:=fun i x hx=>by
  have : i ≠ k:=fun h=>by rw [h,hpk] at hx; cases hx
  rw [p3n i this]; exact hx
 have at_k : (setBlk X k { elem:=e,cells:=cs,ro:=false }).heap[k]? = some (some { elem:=e,cells:=cs,ro:=false }):=by
  simp only [setBlk,setNth_eq]
  rw [List.getElem?_set_self hkl]
 have at_n : ∀ i,i ≠ k → (setBlk X k { elem:=e,cells:=cs,ro:=false }).heap[i]? = X.heap[i]?:=fun i hi=>by
  simp only [setBlk,setNth_eq]
  rw [List.getElem?_set_ne (Ne.symm hi)]
 have zl : (setBlk X k { elem:=e,cells:=cs,ro:=false }).heap.length = X.heap.length:=by simp [setBlk,setNth_eq]
 have sz : ∀ (i : Nat) (A : ABlk) (b n : Nat),X.heap[i]? = some (some A) → π1 i = some (b,n) → b < w1.heap.size:=fun i A b n hA hp=>by
  obtain ⟨b',n',c,fz,g1,g2,_⟩:=hX.blk i A hA
  rw [hp] at g1
  simp only [Option.some.injEq,Prod.mk.injEq] at g1
  rw [g1.1]; exact lt_of_some g2
 refine ⟨π3,{
  dom:=fun i x hx=>by
   rw [zl]
   by_cases hi : i = k
   ·rw [hi]; exact hkl
   ·rw [p3n i hi] at hx; exact hX.dom i x hx
  blk:=fun i A hA=>by
   by_cases hi : i = k
   ·subst hi
    rw [at_k] at hA
    simp only [Option.some.injEq] at hA
    subst hA
    refine ⟨b0,n0,c0,fz0,p3k,g2,g3,g4,⟨g5.1.1,fun j p q=>lone_rel ?_ (g5.1.2 j p q) _ _⟩,TailOk.none rfl⟩
    simp only [List.all_eq_true] at hc
    exact hc _ (List.getElem_mem p)
   ·rw [at_n i hi] at hA
    obtain ⟨b,n,c,fz,f1,f2,f3,f4,f5⟩:=hX.blk i A hA
    exact ⟨b,n,c,fz,le _ _ f1,by rw [kept b (lt_of_some f2)]; exact f2,f3,f4,f5.1.mono le (fun _ _ x=>x),f5.2⟩
  inj:=fun i j A A' b n m h1 h2 h3 h4 h5=>by
   by_cases hi : i = k <;> by_cases hj : j = k
   ·rw [hi,hj]
   ·subst hi
    rw [p3k] at h4
    simp only [Option.some.injEq,Prod.mk.injEq] at h4
    rw [at_n j hj] at h2
    rw [p3n j hj] at h5
    have:=sz j A' b m h2 h5
    omega
   ·subst hj
    rw [p3k] at h5
    simp only [Option.some.injEq,Prod.mk.injEq] at h5
    rw [at_n i hi] at h1
    rw [p3n i hi] at h4
    have:=sz i A b n h1 h4
    omega
   ·rw [at_n i hi] at h1
    rw [at_n j hj] at h2
    rw [p3n i hi] at h4
    rw [p3n j hj] at h5
    exact hX.inj i j A A' b n m h1 h2 h3 h4 h5
  lsz:=hX.lsz
  linj:=hX.linj
  loop:=fun l r hr=>by
   obtain ⟨L,fn,D,ts,st,pd,f1,f2,f3,f4⟩:=hX.loop l r hr
   exact ⟨L,fn,D,ts,st,pd,f1,by rw [kept L (lt_of_some f2)]; exact f2,f3,f4.mono le (fun _ _ x=>x)⟩ },{
  os:=t.os.trans T0.os,tape:=t.tape.trans T0.tape,output:=t.output.trans T0.output,size:=Nat.le_trans T0.size t.size
  keep:=fun r hr h1 h2=>by rw [kept r (Nat.lt_of_lt_of_le hr T0.size)]; exact T0.keep r hr h1 h2
  low:=fun i A b n hA hi hp=>by
   have h0:=T0.low i A b n hA hi hp
   by_cases hb : b < w1.heap.size
   ·rw [kept b hb]; exact h0
   ·have hil:=(List.getElem?_eq_some_iff.1 hA).1
    have e1 : π1 i = some (b,n):=T0.le _ _ hp
    have hX1 : w1.heap[b]? = none:=by rw [Array.getElem?_eq_none (by omega)]
    have hw0 : w.heap[b]? = none:=by rw [← h0]; exact hX1
    by_cases hb2 : b < w2.heap.size
    ·exfalso
     have hs0:=T0.same i hil hi
     rw [hA] at hs0
     have:=sz i A b n hs0 e1
     omega
    ·rw [hw0,Array.getElem?_eq_none (by omega)]
  same:=fun i hi hi2=>by rw [at_n i (by omega)]; exact T0.same i hi hi2
  lkeep:=fun h L hL=>by
   have e1:=T0.lkeep h L hL
   obtain ⟨l,hl,_⟩:=T0.lmx
   have hL1 : L ∈ lm2:=by rw [hl]; exact List.mem_append_left _ hL
   rw [t.lkeep rfl L hL1]; exact e1
  lo_le:=T0.lo_le
  nd_le:=T0.nd_le
  le:=T0.le.trans le
  old:=fun i hi=>by rw [p3n i (by omega)]; exact T0.old i hi
  len:=by rw [zl]; exact T0.len
  liv:=fun i A' hi hA=>T0.liv i A' hi (by rw [← at_n i (by omega)]; exact hA)
  new:=fun i b n hi hp=>by
   by_cases hik : i = k
   ·subst hik
    rw [p3k] at hp
    simp only [Option.some.injEq,Prod.mk.injEq] at hp
    have:=T0.size
    left; omega
   ·rw [p3n i hik] at hp
    exact T0.new i b n hi hp
  lmx:=T0.lmx },le,p3n,fun G c hG hv=>?_⟩
 rcases hG with hG | ⟨len,cap,es,hG⟩
 ·rw [hG] at hv ⊢
  cases hv with
  | ptr h=>exact .ptr (by rw [p3k,← g1]; exact h)
 ·rw [hG] at hv ⊢
  cases hv with
  | sliceEx h=>exact .sliceEx (by rw [p3k,← g1]; exact h)
theorem alS_excl {o : Op} (h : alS o = true) : pureS o = false ∧ isLoad o = false:=by cases o <;> first | exact ⟨rfl,rfl⟩ | (simp [alS] at h)
def StepL (P : Program) (rec : Ev) (ops : Array Oper) (ms : List Nat) (h0 h1 : Nat) (T : Nat → List AV) (V : Nat → AV) (S : Nat → St) (C : Nat → Nat) (Bl : Nat → Option ABlk) (Ld : Nat → List (Nat × Nat)) (Mo : Nat → List (Nat × Eff × Nat)) (j : Nat) (o : Oper) : Prop:=
 T (j + 1) = put (T j) o.dst (V j) ∧ ((alS o.op = false ∧ C (j + 1) = C j) ∨ (alS o.op = true ∧ C (j + 1) = C j + 1 ∧ C j < h1)) ∧
 ((wantedA ops.toList o (T j) = false ∧ V j = undefA ∧ Bl j = none ∧ S (j + 1) = S j ∧ Ld (j + 1) = Ld j ∧ Mo (j + 1) = Mo j) ∨
  (wantedA ops.toList o (T j) = true ∧ pureS o.op = true ∧ (∃ s0,evOp P (T j) o (S j) = some (.val (V j) s0 0)) ∧ S (j + 1) = S j ∧ Ld (j + 1) = Ld j ∧ Mo (j + 1) = Mo j) ∨
  (wantedA ops.toList o (T j) = true ∧ pureS o.op = false ∧ isLoad o.op = true ∧ (∃ s0 c b,evOp P (T j) o (S j) = some (.val (V j) s0 c) ∧ blkOf (T j) o = some b ∧ (b < h0 ∨ h1 ≤ b) ∧
     (Mo j).all (fun x=>(nthD 0 ms j).testBit x.1 || effOk x.2.1 x.2.2 b) = true ∧ Ld (j + 1) = (j,b) :: Ld j) ∧ S (j + 1) = S j ∧ Mo (j + 1) = Mo j) ∨
  (wantedA ops.toList o (T j) = true ∧ alS o.op = true ∧ (∃ A,madeAt (evOp0 P (T j) o (cutSt (S j) (C j))) (C j) = some (V j,A) ∧ Bl j = some A ∧ S (j + 1) = setBlk (S j) (C j) A) ∧ Ld (j + 1) = Ld j ∧ Mo (j + 1) = Mo j) ∨
  (wantedA ops.toList o (T j) = true ∧ pureS o.op = false ∧ isLoad o.op = false ∧ alS o.op = false ∧ ∃ q,evOneQ P rec o (T j) (S j) = some (V j,S (j + 1),q) ∧
     (Ld j).all (fun x=>(nthD 0 ms j).testBit x.1 || effOk (effOf (T j) o q) (S j).heap.length x.2) = true ∧ Ld (j + 1) = Ld j ∧ Mo (j + 1) = (j,effOf (T j) o q,(S j).heap.length) :: Mo j))
theorem float_data {rec : Ev} {ops : Array Oper} {ms : List Nat} {h0 h1 : Nat} {s' : St} {ts' : List AV} : ∀ (rest : List Oper) (i c : Nat) (ts : List AV) (sx : St) (lds : List (Nat × Nat)) (mo : List (Nat × Eff × Nat)),(∀ (j : Nat),rest[j]? = ops[i + j]?) → i + rest.length = ops.size →
  evFloat P rec ops.toList ms h0 h1 i c rest ts sx lds mo = some (ts',s') →
  ∃ (T : Nat → List AV) (V : Nat → AV) (S : Nat → St) (C : Nat → Nat) (Bl : Nat → Option ABlk) (Ld : Nat → List (Nat × Nat)) (Mo : Nat → List (Nat × Eff × Nat)),T i = ts ∧ S i = sx ∧ C i = c ∧ Ld i = lds ∧ Mo i = mo ∧ T ops.size = ts' ∧ S ops.size = s' ∧
   ∀ (j : Nat) (o : Oper),i ≤ j → ops[j]? = some o → StepL P rec ops ms h0 h1 T V S C Bl Ld Mo j o:=by
 intro rest
 induction rest with
 | nil =>
  intro i c ts sx lds mo hops hlen h
  simp only [evFloat,Option.some.injEq,Prod.mk.injEq] at h
  obtain ⟨rfl,rfl⟩:=h
  simp only [List.length_nil,Nat.add_zero] at hlen
  subst hlen
  refine ⟨fun _=>ts,fun _=>undefA,fun _=>sx,fun _=>c,fun _=>none,fun _=>lds,fun _=>mo,rfl,rfl,rfl,rfl,rfl,rfl,rfl,?_⟩
  intro j o hj ho
  have:=(Array.getElem?_eq_some_iff.1 ho).1; omega
 | cons o rest ih =>
  intro i c ts sx lds mo hops hlen h
  have ho : ops[i]? = some o:=by have:=hops 0; simpa using this.symm
  have hrest : ∀ (j : Nat),rest[j]? = ops[i + 1 + j]?:=fun j=>by
   have:=hops (j + 1)
   simp only [List.getElem?_cons_succ] at this
   rw [this]; congr 1; omega
  have hlen' : i + 1 + rest.length = ops.size:=by simp only [List.length_cons] at hlen; omega
  have step : ∀ (v : AV) (sy : St) (c' : Nat) (bl : Option ABlk) (lds' : List (Nat × Nat)) (mo' : List (Nat × Eff × Nat)),evFloat P rec ops.toList ms h0 h1 (i + 1) c' rest (put ts o.dst v) sy lds' mo' = some (ts',s') →
    (((alS o.op = false ∧ c' = c) ∨ (alS o.op = true ∧ c' = c + 1 ∧ c < h1)) ∧
    ((wantedA ops.toList o ts = false ∧ v = undefA ∧ bl = none ∧ sy = sx ∧ lds' = lds ∧ mo' = mo) ∨
     (wantedA ops.toList o ts = true ∧ pureS o.op = true ∧ (∃ s0,evOp P ts o sx = some (.val v s0 0)) ∧ sy = sx ∧ lds' = lds ∧ mo' = mo) ∨
     (wantedA ops.toList o ts = true ∧ pureS o.op = false ∧ isLoad o.op = true ∧ (∃ s0 c b,evOp P ts o sx = some (.val v s0 c) ∧ blkOf ts o = some b ∧ (b < h0 ∨ h1 ≤ b) ∧
        mo.all (fun x=>(nthD 0 ms i).testBit x.1 || effOk x.2.1 x.2.2 b) = true ∧ lds' = (i,b) :: lds) ∧ sy = sx ∧ mo' = mo) ∨
     (wantedA ops.toList o ts = true ∧ alS o.op = true ∧ (∃ A,madeAt (evOp0 P ts o (cutSt sx c)) c = some (v,A) ∧ bl = some A ∧ sy = setBlk sx c A) ∧ lds' = lds ∧ mo' = mo) ∨
     (wantedA ops.toList o ts = true ∧ pureS o.op = false ∧ isLoad o.op = false ∧ alS o.op = false ∧ ∃ q,evOneQ P rec o ts sx = some (v,sy,q) ∧
        lds.all (fun x=>(nthD 0 ms i).testBit x.1 || effOk (effOf ts o q) sx.heap.length x.2) = true ∧ lds' = lds ∧ mo' = (i,effOf ts o q,sx.heap.length) :: mo))) →
    ∃ (T : Nat → List AV) (V : Nat → AV) (S : Nat → St) (C : Nat → Nat) (Bl : Nat → Option ABlk) (Ld : Nat → List (Nat × Nat)) (Mo : Nat → List (Nat × Eff × Nat)),T i = ts ∧ S i = sx ∧ C i = c ∧ Ld i = lds ∧ Mo i = mo ∧ T ops.size = ts' ∧ S ops.size = s' ∧
     ∀ (j : Nat) (o : Oper),i ≤ j → ops[j]? = some o → StepL P rec ops ms h0 h1 T V S C Bl Ld Mo j o:=by
   intro v sy c' bl lds' mo' k1 k4
   obtain ⟨T,V,S,C,Bl,Ld,Mo,e1,e2,e8,e3,e7,e4,e5,e6⟩:=ih (i + 1) c' _ sy lds' mo' hrest hlen' k1
   have hsz : ¬ ops.size ≤ i:=by omega
   refine ⟨fun j=>if j ≤ i then ts else T j,fun j=>if j = i then v else V j,fun j=>if j ≤ i then sx else S j,fun j=>if j ≤ i then c else C j,fun j=>if j = i then bl else Bl j,fun j=>if j ≤ i then lds else Ld j,fun j=>if j ≤ i then mo else Mo j,by simp,by simp,by simp,by simp,by simp,by simp only [if_neg hsz]; exact e4,by simp only [if_neg hsz]; exact e5,?_⟩
   intro j o' hj ho'
   by_cases hji : j = i
   ·subst hji
    rw [ho] at ho'
    obtain rfl:=Option.some.inj ho'
    simp only [StepL,if_neg (show ¬ j + 1 ≤ j by omega),if_pos (Nat.le_refl j),if_true,e1,e2,e3,e7,e8]
    exact ⟨trivial,k4⟩
   ·have:=e6 j o' (by omega) ho'
    simp only [StepL,if_neg (show ¬ j + 1 ≤ i by omega),if_neg (show ¬ j ≤ i by omega),if_neg hji] at this ⊢
    exact this
  have noAl : pureS o.op = true ∨ isLoad o.op = true → alS o.op = false:=fun hh=>by
   cases ha : alS o.op with
   | false=>rfl
   | true =>
    have:=alS_excl ha
    rcases hh with hh | hh
    ·rw [this.1] at hh; cases hh
    ·rw [this.2] at hh; cases hh
  simp only [evFloat] at h
  split at h
  ·rename_i hwant
   split at h
   ·rename_i hp
    split at h
    ·rename_i v s0 hop
     exact step v sx c none lds mo h ⟨.inl ⟨noAl (.inl hp),rfl⟩,.inr (.inl ⟨hwant,hp,⟨s0,hop⟩,rfl,rfl,rfl⟩)⟩
    ·cases h
   ·rename_i hp
    have hp' : pureS o.op = false:=by simpa using hp
    split at h
    ·rename_i hl
     split at h
     ·rename_i v s0 c0 hop
      split at h
      ·rename_i b hb
       split at h
       ·rename_i hall
        simp only [Bool.and_eq_true,Bool.or_eq_true,Nat.blt_eq,Nat.ble_eq] at hall
        exact step v sx c none _ mo h ⟨.inl ⟨noAl (.inr hl),rfl⟩,.inr (.inr (.inl ⟨hwant,hp',hl,⟨s0,c0,b,hop,hb,hall.1,by simpa using hall.2,rfl⟩,rfl,rfl⟩))⟩
       ·cases h
      ·cases h
     ·cases h
    ·rename_i hl
     split at h
     ·rename_i ha
      split at h
      ·rename_i v A hm
       split at h
       ·rename_i hlt
        exact step v _ (c + 1) (some A) lds mo h ⟨.inr ⟨ha,rfl,by simpa using hlt⟩,.inr (.inr (.inr (.inl ⟨hwant,ha,⟨A,hm,rfl,rfl⟩,rfl,rfl⟩)))⟩
       ·cases h
      ·cases h
     ·rename_i ha
      split at h
      ·rename_i v sy q hq
       split at h
       ·rename_i hall
        exact step v sy c none lds _ h ⟨.inl ⟨by simpa using ha,rfl⟩,.inr (.inr (.inr (.inr ⟨hwant,hp',by simpa using hl,by simpa using ha,q,hq,hall,rfl,rfl⟩)))⟩
       ·cases h
      ·cases h
  ·rename_i hwant
   split at h
   ·rename_i ha
    split at h
    ·rename_i hlt
     exact step undefA sx (c + 1) none lds mo h ⟨.inr ⟨ha,rfl,by simpa using hlt⟩,.inl ⟨by simpa using hwant,rfl,rfl,rfl,rfl,rfl⟩⟩
    ·cases h
   ·rename_i ha
    exact step undefA sx c none lds mo h ⟨.inl ⟨by simpa using ha,rfl⟩,.inl ⟨by simpa using hwant,rfl,rfl,rfl,rfl,rfl⟩⟩
structure FX (ops : Array Oper) (S : Nat → St) (C : Nat → Nat) (Bl : Nat → Option ABlk) (q : Nat) (L : Nat → Bool) (X : St) : Prop where
 loops : X.loops = (S q).loops
 nd : X.nd = (S q).nd
 lo : X.lo = (S q).lo
 len : X.heap.length = (S q).heap.length
 out : ∀ i,(∀ (k : Nat) (o : Oper),q ≤ k → ops[k]? = some o → alS o.op = true → C k ≠ i) → X.heap[i]? = (S q).heap[i]?
 res : ∀ (k : Nat) (o : Oper),q ≤ k → ops[k]? = some o → alS o.op = true → X.heap[C k]? = some (if L k then Bl k else none)
 hole : ∀ (k : Nat) (o : Oper),q ≤ k → ops[k]? = some o → alS o.op = true → (S q).heap[C k]? = some none
structure DF (ops : Array Oper) (V : Nat → AV) (S : Nat → St) (C : Nat → Nat) (Bl : Nat → Option ABlk) (B : Nat) (π : Inj) (lm : List Nat) (s : St) (ts : List AV) (w : World) (a : Act) (listed : Array Bool) (a1 : Act) (w1 : World) : Prop where
 size : listed.size = ops.size
 closed : ∀ (j : Nat) (o : Oper),listed.getD j false = true → ops.toList[j]? = some o → ∀ e ∈ o.after.toList,Region.binds .any e = true → listed.getD e.on false = true
 st : ∃ q X π1 lm1,q ≤ ops.size ∧ (∀ (i : Nat) (x : Oper),ops[i]? = some x → pureS x.op = false → isLoad x.op = false → alS x.op = false → (listed.getD i false = true ↔ i < q)) ∧
  (∀ (i : Nat) (x : Oper),ops[i]? = some x → alS x.op = true → i < q → listed.getD i false = true) ∧ FX ops S C Bl q (fun i=>listed.getD i false) X ∧
  (∀ (k : Nat) (x : Oper),ops[k]? = some x → alS x.op = true → listed.getD k false = false → π1 (C k) = none) ∧
  LR π1 lm1 (PD ops.toList V (fun i=>listed.getD i false) ts ops.size) a1.tmps.toList ∧ WR B π1 lm1 X w1 ∧ Tr π π1 lm lm1 s X w w1
 df : a1.defers = a.defers
theorem FX.list {ops : Array Oper} {S : Nat → St} {C : Nat → Nat} {Bl : Nat → Option ABlk} {q : Nat} {L L' : Nat → Bool} {X : St} (h : FX ops S C Bl q L X) (hl : ∀ (k : Nat) (o : Oper),ops[k]? = some o → alS o.op = true → L' k = L k) : FX ops S C Bl q L' X:=
 ⟨h.loops,h.nd,h.lo,h.len,h.out,fun k o h1 h2 h3=>by rw [hl k o h2 h3]; exact h.res k o h1 h2 h3,h.hole⟩
set_option maxHeartbeats 2000000 in
theorem float_any {rec : Ev} (hname : ∀ (f : Nat) (fn : Func),P.funcs[f]? = some fn → fn.name ≠ "runtime.NumGoroutine") (hc : SCall P rec.call) (hr : SRound P rec.round) {ops : Array Oper} (hok : floatOk ops = true) {h0 h1 : Nat}
  {T : Nat → List AV} {V : Nat → AV} {S : Nat → St} {C : Nat → Nat} {Bl : Nat → Option ABlk} {Ld : Nat → List (Nat × Nat)} {Mo : Nat → List (Nat × Eff × Nat)} {ts' : List AV} {s' : St} (hT0 : T 0 = ts) (hTn : T ops.size = ts') (hSn : S ops.size = s') (hC0 : C 0 = h0) (hs0 : s.heap.length = h0)
  (hF : ∀ (j : Nat) (o : Oper),ops[j]? = some o → StepL P rec ops (befs ops.toList []) h0 h1 T V S C Bl Ld Mo j o) (hB : B ≤ w.heap.size) (N : Nat) (ro : Option Nat) (Q : Exit → Act → World → Prop)
  (hQ : ∀ a' w' π' lm',WR B π' lm' s' w' → LR π' lm' ts' a'.tmps.toList → Tr π π' lm lm' s s' w w' → a'.defers = a.defers → Q .normal a' w') :
  ∀ (fuel : Nat) (listed : Array Bool) (a1 : Act) (w1 : World),unlisted listed = fuel → DF ops V S C Bl B π lm s ts w a listed a1 w1 → wpAnyIn (Fr ro) N P .any ops Q fuel listed a1 w1:=by
 simp only [floatOk,Bool.and_eq_true,List.all_eq_true] at hok
 obtain ⟨hpair,hedge⟩:=hok
 have hmem : ∀ (j : Nat) (o : Oper),ops[j]? = some o → (o,j) ∈ ops.toList.zipIdx:=fun j o ho=>by
  rw [List.mem_zipIdx_iff_getElem?]
  rw [Array.getElem?_toList]; exact ho
 have hback : ∀ (j : Nat) (o : Oper),ops.toList[j]? = some o → ∀ e ∈ o.after.toList,Region.binds .any e = true → e.on < j:=fun j o ho e he hb=>by
  have:=hedge _ (hmem j o (by rw [← Array.getElem?_toList]; exact ho)) e he
  simpa [hb] using this
 have clashBit : ∀ (i j : Nat) (x y : Oper),ops[i]? = some x → ops[j]? = some y → i < j → clash ops x y = true → (nthD 0 (befs ops.toList []) j).testBit i = true:=fun i j x y hx hy hij hcl=>by
  have:=hpair _ (hmem j y hy) _ (hmem i x hx)
  simpa [hij,hcl] using this
 have memBit : ∀ (i j : Nat) (x y : Oper),ops[i]? = some x → ops[j]? = some y → i < j → pureS x.op = false → isLoad x.op = false → pureS y.op = false → isLoad y.op = false → alS y.op = false → (nthD 0 (befs ops.toList []) j).testBit i = true:=fun i j x y hx hy hij h1 h2 h3 h4 h5=>by
  have:=hpair _ (hmem j y hy) _ (hmem i x hx)
  simpa [hij,h1,h2,h3,h4,h5] using this
 have alP : ∀ {o : Oper},alS o.op = true → pureS o.op = false:=fun h=>(alS_excl h).1
 have alL : ∀ {o : Oper},alS o.op = true → isLoad o.op = false:=fun h=>(alS_excl h).2
 have hT : ∀ (j : Nat) (o : Oper),ops[j]? = some o → T (j + 1) = put (T j) o.dst (V j):=fun j o ho=>(hF j o ho).1
 have cStep : ∀ (j : Nat),j < ops.size → C j ≤ C (j + 1):=fun j hj=>by
  rcases (hF j _ (Array.getElem?_eq_getElem hj)).2.1 with ⟨_,h⟩ | ⟨_,h,_⟩ <;> omega
 have cMono : ∀ (d i : Nat),i + d ≤ ops.size → C i ≤ C (i + d):=fun d=>by
  induction d with
  | zero=>intro i _; exact Nat.le_refl _
  | succ d ih=>intro i h; exact Nat.le_trans (ih i (by omega)) (cStep _ (by omega))
 have cLt : ∀ (i k : Nat) (x : Oper),ops[i]? = some x → alS x.op = true → i < k → k ≤ ops.size → C i < C k:=fun i k x hx ha hik hk=>by
  have h1:=cMono (k - (i + 1)) (i + 1) (by omega)
  rw [show i + 1 + (k - (i + 1)) = k by omega] at h1
  rcases (hF i x hx).2.1 with ⟨h,_⟩ | ⟨_,h,_⟩
  ·rw [ha] at h; cases h
  ·omega
 have szOf : ∀ (k : Nat) (x : Oper),ops[k]? = some x → k < ops.size:=fun k x hx=>(Array.getElem?_eq_some_iff.1 hx).1
 have cNe : ∀ (i k : Nat) (x y : Oper),ops[i]? = some x → ops[k]? = some y → alS x.op = true → alS y.op = true → i ≠ k → C i ≠ C k:=fun i k x y hx hy hax hay hik=>by
  rcases Nat.lt_or_gt_of_ne hik with h | h
  ·have:=cLt i k x hx hax h (Nat.le_of_lt (szOf k y hy)); omega
  ·have:=cLt k i y hy hay h (Nat.le_of_lt (szOf i x hx)); omega
 have cLo : ∀ (k : Nat),k ≤ ops.size → h0 ≤ C k:=fun k hk=>by
  have:=cMono k 0 (by omega)
  rw [Nat.zero_add,hC0] at this; exact this
 have cHi : ∀ (k : Nat) (x : Oper),ops[k]? = some x → alS x.op = true → C k < h1:=fun k x hx ha=>by
  rcases (hF k x hx).2.1 with ⟨h,_⟩ | ⟨_,_,h⟩
  ·rw [ha] at h; cases h
  ·exact h
 have stay : ∀ (j : Nat) (o : Oper),ops[j]? = some o → (pureS o.op = true ∨ isLoad o.op = true) → S (j + 1) = S j:=fun j o ho h=>by
  rcases (hF j o ho).2.2 with ⟨_,_,_,h1,_⟩ | ⟨_,_,_,h1,_⟩ | ⟨_,_,_,_,h1,_⟩ | ⟨_,h1,_⟩ | ⟨_,h1,h2,_⟩
  ·exact h1
  ·exact h1
  ·exact h1
  ·rcases h with h | h
   ·rw [alP h1] at h; cases h
   ·rw [alL h1] at h; cases h
  ·rcases h with h | h
   ·rw [h1] at h; cases h
   ·rw [h2] at h; cases h
 have adv1 : ∀ (q : Nat) (o : Oper) (L : Nat → Bool) (X : St),ops[q]? = some o → (alS o.op = false → S (q + 1) = S q) → (alS o.op = true → L q = true) → FX ops S C Bl q L X → FX ops S C Bl (q + 1) L X:=fun q o L X ho hno hL hX=>by
  cases ha : alS o.op with
  | false =>
   have e:=hno ha
   refine ⟨by rw [e]; exact hX.loops,by rw [e]; exact hX.nd,by rw [e]; exact hX.lo,by rw [e]; exact hX.len,fun i hi=>?_,fun k x hk=>hX.res k x (by omega),fun k x hk hx hax=>by rw [e]; exact hX.hole k x (by omega) hx hax⟩
   rw [e]
   refine hX.out i (fun k x hk hx hax=>?_)
   by_cases hkq : k = q
   ·subst hkq
    rw [ho] at hx
    obtain rfl:=Option.some.inj hx
    rw [ha] at hax; cases hax
   ·exact hi k x (by omega) hx hax
  | true =>
   have hres:=hX.res q o (Nat.le_refl q) ho ha
   have hhole:=hX.hole q o (Nat.le_refl q) ho ha
   rw [hL ha] at hres
   simp only [if_true] at hres
   have hq:=szOf q o ho
   rcases (hF q o ho).2.2 with ⟨_,_,hbl,e,_⟩ | ⟨_,h1,_⟩ | ⟨_,_,h1,_⟩ | ⟨_,_,⟨A,_,hbl,e⟩,_⟩ | ⟨_,_,_,h1,_⟩
   ·rw [hbl] at hres
    refine ⟨by rw [e]; exact hX.loops,by rw [e]; exact hX.nd,by rw [e]; exact hX.lo,by rw [e]; exact hX.len,fun i hi=>?_,fun k x hk=>hX.res k x (by omega),fun k x hk hx hax=>by rw [e]; exact hX.hole k x (by omega) hx hax⟩
    rw [e]
    by_cases hic : i = C q
    ·rw [hic,hres,hhole]
    ·refine hX.out i (fun k x hk hx hax=>?_)
     by_cases hkq : k = q
     ·rw [hkq]; exact fun h=>hic h.symm
     ·exact hi k x (by omega) hx hax
   ·rw [alP ha] at h1; cases h1
   ·rw [alL ha] at h1; cases h1
   ·rw [hbl] at hres
    have hlt : C q < (S q).heap.length:=(List.getElem?_eq_some_iff.1 hhole).1
    have at_n : ∀ i,i ≠ C q → (S (q + 1)).heap[i]? = (S q).heap[i]?:=fun i hi=>by
     rw [e]; simp only [setBlk,setNth_eq]; rw [List.getElem?_set_ne (Ne.symm hi)]
    have at_q : (S (q + 1)).heap[C q]? = some (some A):=by
     rw [e]; simp only [setBlk,setNth_eq]; rw [List.getElem?_set_self hlt]
    refine ⟨by rw [e]; exact hX.loops,by rw [e]; exact hX.nd,by rw [e]; exact hX.lo,by rw [e]; simp only [setBlk,setNth_eq,List.length_set]; exact hX.len,fun i hi=>?_,fun k x hk=>hX.res k x (by omega),fun k x hk hx hax=>?_⟩
    ·by_cases hic : i = C q
     ·rw [hic,hres,at_q]
     ·rw [at_n i hic]
      refine hX.out i (fun k x hk hx hax=>?_)
      by_cases hkq : k = q
      ·rw [hkq]; exact fun h=>hic h.symm
      ·exact hi k x (by omega) hx hax
    ·rw [at_n _ (cNe k q x o hx ho hax ha (by omega))]
     exact hX.hole k x (by omega) hx hax
   ·rw [ha] at h1; cases h1
 have adv : ∀ (d q : Nat) (L : Nat → Bool) (X : St),q + d ≤ ops.size → (∀ (i : Nat) (x : Oper),q ≤ i → i < q + d → ops[i]? = some x → (pureS x.op = true ∨ isLoad x.op = true) ∨ (alS x.op = true ∧ L i = true)) → FX ops S C Bl q L X → FX ops S C Bl (q + d) L X:=fun d=>by
  induction d with
  | zero=>intro q L X _ _ h; exact h
  | succ d ih =>
   intro q L X hle h hX
   have h1:=ih q L X (by omega) (fun i x a b c=>h i x a (by omega) c) hX
   have ho : ops[q + d]? = some ops[q + d]:=Array.getElem?_eq_getElem (by omega)
   have h2:=h (q + d) _ (by omega) (by omega) ho
   rw [← Nat.add_assoc]
   refine adv1 (q + d) _ L X ho (fun ha=>?_) (fun ha=>?_) h1
   ·rcases h2 with h2 | ⟨h2,_⟩
    ·exact stay _ _ ho h2
    ·rw [ha] at h2; cases h2
   ·rcases h2 with h2 | ⟨_,h2⟩
    ·rcases h2 with h2 | h2
     ·rw [alP ha] at h2; cases h2
     ·rw [alL ha] at h2; cases h2
    ·exact h2
 have moSub : ∀ (d i : Nat),i + d ≤ ops.size → ∀ x ∈ Mo i,x ∈ Mo (i + d):=fun d=>by
  induction d with
  | zero=>intro i _ x hx; exact hx
  | succ d ih =>
   intro i hle x hx
   have h1:=ih i (by omega) x hx
   rcases (hF (i + d) ops[i + d] (Array.getElem?_eq_getElem (by omega))).2.2 with ⟨_,_,_,_,_,h2⟩ | ⟨_,_,_,_,_,h2⟩ | ⟨_,_,_,_,_,h2⟩ | ⟨_,_,_,_,h2⟩ | ⟨_,_,_,_,q,_,_,_,h2⟩
   ·rw [← Nat.add_assoc,h2]; exact h1
   ·rw [← Nat.add_assoc,h2]; exact h1
   ·rw [← Nat.add_assoc,h2]; exact h1
   ·rw [← Nat.add_assoc,h2]; exact h1
   ·rw [← Nat.add_assoc,h2]; exact List.mem_cons_of_mem _ h1
 have ldSub : ∀ (d i : Nat),i + d ≤ ops.size → ∀ x ∈ Ld i,x ∈ Ld (i + d):=fun d=>by
  induction d with
  | zero=>intro i _ x hx; exact hx
  | succ d ih =>
   intro i hle x hx
   have h1:=ih i (by omega) x hx
   rcases (hF (i + d) ops[i + d] (Array.getElem?_eq_getElem (by omega))).2.2 with ⟨_,_,_,_,h2,_⟩ | ⟨_,_,_,_,h2,_⟩ | ⟨_,_,_,⟨_,_,_,_,_,_,_,h2⟩,_,_⟩ | ⟨_,_,_,h2,_⟩ | ⟨_,_,_,_,q,_,_,h2,_⟩
   ·rw [← Nat.add_assoc,h2]; exact h1
   ·rw [← Nat.add_assoc,h2]; exact h1
   ·rw [← Nat.add_assoc,h2]; exact List.mem_cons_of_mem _ h1
   ·rw [← Nat.add_assoc,h2]; exact h1
   ·rw [← Nat.add_assoc,h2]; exact h1
 have rowSame : ∀ (b d p : Nat),(b < h0 ∨ h1 ≤ b) → p + d ≤ ops.size → (∀ (i : Nat) (x : Oper) (e : Eff) (h : Nat),p ≤ i → i < p + d → ops[i]? = some x → pureS x.op = false → isLoad x.op = false → Mo (i + 1) = (i,e,h) :: Mo i → effOk e h b = true) →
   blockAt (S (p + d)) b = blockAt (S p) b:=fun b d=>by
  induction d with
  | zero=>intro p _ _ _; rfl
  | succ d ih =>
   intro p hb hle h
   have h1:=ih p hb (by omega) (fun i x e h0 a b' c=>h i x e h0 a (by omega) c)
   have ho : ops[p + d]? = some ops[p + d]:=Array.getElem?_eq_getElem (by omega)
   rw [← Nat.add_assoc,← h1]
   rcases (hF (p + d) _ ho).2.2 with ⟨_,_,_,h2,_⟩ | ⟨_,_,_,h2,_⟩ | ⟨_,_,_,_,h2,_⟩ | ⟨_,h3,⟨A,_,_,h2⟩,_⟩ | ⟨_,h3,h4,_,q,h5,_,_,h6⟩
   ·rw [h2]
   ·rw [h2]
   ·rw [h2]
   ·rw [h2]
    have hne : C (p + d) ≠ b:=by
     have k1:=cLo (p + d) (by omega)
     have k2:=cHi (p + d) _ ho h3
     omega
    unfold blockAt setBlk
    simp only [setNth_eq]
    rw [nthD_eq,nthD_eq,List.getElem?_set_ne hne]
   ·exact eff_keeps hc h5 (h _ _ _ _ (by omega) (by omega) ho h3 h4 h6)
 have finish : ∀ (listed : Array Bool) (a1 : Act) (w1 : World),DF ops V S C Bl B π lm s ts w a listed a1 w1 → (∀ j,j < ops.size → listed.getD j false = true) → Q .normal a1 w1:=by
  intro listed a1 w1 hi hall
  obtain ⟨q,X,π1,lm1,g0,gq,_,gx,_,h1,g1,g2⟩:=hi.st
  have hP : PD ops.toList V (fun i=>listed.getD i false) ts ops.size = ts':=by
   have e:=(PD_lt (ops:=ops.toList) (V:=V) hT0 (n:=ops.size) (by simp) (fun i o _ ho=>hT i o (by rw [← Array.getElem?_toList]; exact ho)) ops.size ops.size (Nat.le_refl _))
   rw [Nat.min_self,hTn] at e
   rw [← e]
   have : ∀ m,m ≤ ops.size → PD ops.toList V (fun i=>listed.getD i false) ts m = PD ops.toList V (fun i=>decide (i < ops.size)) ts m:=by
    intro m
    induction m with
    | zero=>intro _; rfl
    | succ m ih =>
     intro hm
     simp only [PD,ih (by omega),hall m (by omega),show m < ops.size by omega,decide_true]
   exact this _ (Nat.le_refl _)
  rw [hP] at h1
  have hs : X = s':=by
   rw [← hSn]
   have hx:=adv (ops.size - q) q _ X (by omega) (fun i x h1 h2 hx=>by
    have hi':=szOf i x hx
    cases n1 : pureS x.op with
    | true=>exact .inl (.inl rfl)
    | false=>cases n2 : isLoad x.op with
     | true=>exact .inl (.inr rfl)
     | false=>cases n3 : alS x.op with
      | true=>exact .inr ⟨rfl,hall i hi'⟩
      | false =>
       have:=(gq i x hx n1 n2 n3).1 (hall i hi')
       omega) gx
   rw [show q + (ops.size - q) = ops.size by omega] at hx
   have hh : X.heap = (S ops.size).heap:=List.ext_getElem? fun i=>hx.out i (fun k o hk hko _=>by have:=szOf k o hko; omega)
   have e1:=hx.loops
   have e2:=hx.nd
   have e3:=hx.lo
   cases X
   simp only at hh e1 e2 e3
   rw [hh,e1,e2,e3]
  rw [hs] at g1 g2
  exact hQ a1 w1 π1 lm1 g1 h1 g2 hi.df
 have stuck : ∀ (listed : Array Bool) (a1 : Act) (w1 : World),DF ops V S C Bl B π lm s ts w a listed a1 w1 → Region.ready .any ops listed = [] → ∀ j,j < ops.size → listed.getD j false = true:=by
  intro listed a1 w1 hi hnil j
  induction j using Nat.strongRecOn with
  | _ j ih =>
   intro hj
   cases hl : listed.getD j false with
   | true=>rfl
   | false =>
    exfalso
    have hj' : j < listed.size:=by rw [hi.size]; exact hj
    have : j ∈ Region.ready .any ops listed:=by
     rw [mem_ready]
     refine ⟨?_,ops[j],Array.getElem?_eq_getElem hj,fun e he hb=>?_⟩
     ·rw [Array.getD_eq_getD_getElem?,Array.getElem?_eq_getElem hj'] at hl ⊢
      simpa using hl
     ·have:=hback j ops[j] (by rw [Array.getElem?_toList]; exact Array.getElem?_eq_getElem hj) e (by simpa using he) hb
      exact ih e.on this (by omega)
    rw [hnil] at this; cases this
 intro fuel
 induction fuel with
 | zero =>
  intro listed a1 w1 hf hi
  have hall : ∀ j,j < ops.size → listed.getD j false = true:=fun j hj=>by
   cases hl : listed.getD j false with
   | true=>rfl
   | false =>
    have:=unlisted_set (by rw [hi.size]; exact hj) hl
    omega
  refine ⟨?_,finish listed a1 w1 hi hall⟩
  cases hrd : Region.ready .any ops listed with
  | nil=>rfl
  | cons j l =>
   exfalso
   have : j ∈ Region.ready .any ops listed:=by rw [hrd]; simp
   rw [mem_ready] at this
   obtain ⟨h1,o,ho,_⟩:=this
   have hj:=(Array.getElem?_eq_some_iff.1 ho).1
   have:=hall j hj
   rw [Array.getD_eq_getD_getElem?] at h1 this
   cases hx : listed[j]? with
   | none=>rw [hx] at h1; simp at h1
   | some b=>rw [hx] at h1 this; simp at h1 this; rw [h1] at this; cases this
 | succ fuel ih =>
  intro listed a1 w1 hf hi
  refine ⟨fun hnil=>finish listed a1 w1 hi (stuck listed a1 w1 hi hnil),?_⟩
  intro j hj
  rw [mem_ready] at hj
  obtain ⟨hlj,o,ho,hedges⟩:=hj
  have hjn:=(Array.getElem?_eq_some_iff.1 ho).1
  have hjs : j < listed.size:=by rw [hi.size]; exact hjn
  have hl0 : listed.getD j false = false:=by
   rw [Array.getD_eq_getD_getElem?,Array.getElem?_eq_getElem hjs] at hlj ⊢
   simpa using hlj
  have ho' : ops.toList[j]? = some o:=by rw [Array.getElem?_toList]; exact ho
  have hed : ∀ e ∈ o.after.toList,Region.binds .any e = true → listed.getD e.on false = true:=fun e he hb=>hedges e (by simpa using he) hb
  have had : ∀ i,(nthD 0 (befs ops.toList []) j).testBit i = true → listed.getD i false = true:=fun i hb=>bit_listed (L:=fun i=>listed.getD i false) hi.closed j o i ho' hed hb
  have behind : ∀ (i : Nat) (x : Oper),ops[i]? = some x → (nthD 0 (befs ops.toList []) i).testBit j = true → listed.getD i false = false:=fun i x hx hb=>by
   cases hli : listed.getD i false with
   | false=>rfl
   | true =>
    have hx' : ops.toList[i]? = some x:=by rw [Array.getElem?_toList]; exact hx
    have this : listed.getD j false = true:=bit_listed (L:=fun i=>listed.getD i false) hi.closed i x j hx' (hi.closed i x hli hx') hb
    rw [hl0] at this; cases this
  have slot : ∀ t ∈ o.looksAt ops,(PD ops.toList V (fun i=>listed.getD i false) ts ops.size)[t]? = (T j)[t]?:=fun t ht=>by
   have e:=(PD_lt (ops:=ops.toList) (V:=V) hT0 (n:=ops.size) (by simp) (fun i o _ ho=>hT i o (by rw [← Array.getElem?_toList]; exact ho)) j ops.size (by omega))
   rw [show min j ops.size = j from by omega] at e
   rw [← e]
   refine (PD_slot ops.size ?_).1
   intro i x hin hx hd
   have hx' : ops[i]? = some x:=by rw [← Array.getElem?_toList]; exact hx
   rcases Nat.lt_trichotomy i j with h1 | h1 | h1
   ·have : clash ops x o = true:=by simp [clash,dstIn,hd,ht]
    rw [had i (clashBit i j x o hx' ho h1 this)]
    simp [h1]
   ·subst h1; simp only [hl0]; simp
   ·have : clash ops o x = true:=by simp [clash,dstIn,hd,ht]
    rw [behind i x hx' (clashBit j i o x ho hx' h1 this)]
    simp; omega
  have more : PD ops.toList V (fun i=>(listed.setIfInBounds j true).getD i false) ts ops.size = put (PD ops.toList V (fun i=>listed.getD i false) ts ops.size) o.dst (V j):=by
   have:=PD_more (ops:=ops.toList) (V:=V) (D:=fun i=>listed.getD i false) (ts:=ts) ho' hl0 ops.size hjn (fun i x hji hLi hx t hd e=>by
    have hx' : ops[i]? = some x:=by rw [← Array.getElem?_toList]; exact hx
    have : clash ops o x = true:=by simp [clash,dstIn,hd,e]
    have:=behind i x hx' (clashBit j i o x ho hx' hji this)
    have hLi' : listed.getD i false = true:=hLi
    rw [this] at hLi'; cases hLi')
   rw [← this]
   congr 1
   funext i
   rw [getD_set _ _ _ hjs]
  obtain ⟨q,X,π1,lm1,hqn,hq,hqa,hX,hpn,hlr,hwr,htr⟩:=hi.st
  have next : ∀ (c : Value) (w2 : World) (π2 : Inj) (lm2 : List Nat) (q2 : Nat) (X2 : St),q2 ≤ ops.size → VR π2 lm2 (V j) c → LR π2 lm2 (PD ops.toList V (fun i=>listed.getD i false) ts ops.size) a1.tmps.toList →
    (∀ (i : Nat) (x : Oper),ops[i]? = some x → pureS x.op = false → isLoad x.op = false → alS x.op = false → ((listed.setIfInBounds j true).getD i false = true ↔ i < q2)) →
    (∀ (i : Nat) (x : Oper),ops[i]? = some x → alS x.op = true → i < q2 → (listed.setIfInBounds j true).getD i false = true) → FX ops S C Bl q2 (fun i=>(listed.setIfInBounds j true).getD i false) X2 →
    (∀ (k : Nat) (x : Oper),ops[k]? = some x → alS x.op = true → (listed.setIfInBounds j true).getD k false = false → π2 (C k) = none) → WR B π2 lm2 X2 w2 → Tr π π2 lm lm2 s X2 w w2 →
    wpAnyIn (Fr ro) N P .any ops Q fuel (listed.setIfInBounds j true) (a1.put o.dst c) w2:=by
   intro c w2 π2 lm2 q2 X2 hq2 hv hl2 hlist hlist2 hX2 hpn2 hw2 ht2
   refine ih _ _ _ (by have:=unlisted_set hjs hl0; omega) ⟨by simp [hi.size],?_,⟨q2,X2,π2,lm2,hq2,hlist,hlist2,hX2,hpn2,?_,hw2,ht2⟩,(put_defers _ _ _).trans hi.df⟩
   ·intro i x hLi hx e he hb
    rw [getD_set _ _ _ hjs] at hLi ⊢
    split at hLi
    ·rename_i hij
     subst hij
     rw [ho'] at hx
     obtain rfl:=Option.some.inj hx
     rw [hed e he hb]; simp
    ·rw [hi.closed i x hLi hx e he hb]; simp
   ·rw [more]; exact put_rel hl2 hv
  have congrOp : ∀ sx : St,evOp P (PD ops.toList V (fun i=>listed.getD i false) ts ops.size) o sx = evOp P (T j) o sx:=fun sx =>
   evOp_congr (fun x hx=>eval_slot (fun t ht=>slot t (operand_looks hx ht))) sx
  have lset : ∀ i,listed.getD i false = true → (listed.setIfInBounds j true).getD i false = true:=fun i h=>by
   rw [getD_set _ _ _ hjs]; split
   ·rfl
   ·exact h
  have lsame : ∀ i,i ≠ j → (listed.setIfInBounds j true).getD i false = listed.getD i false:=fun i h=>by
   rw [getD_set _ _ _ hjs,if_neg h]
  have lset2 : ∀ (q2 : Nat),(∀ (i : Nat) (x : Oper),ops[i]? = some x → alS x.op = true → i < q2 → listed.getD i false = true) → ∀ (i : Nat) (x : Oper),ops[i]? = some x → alS x.op = true → i < q2 → (listed.setIfInBounds j true).getD i false = true:=
   fun q2 h i x hx ha hi=>lset i (h i x hx ha hi)
  have pset : ∀ (π2 : Inj),(∀ (k : Nat) (x : Oper),ops[k]? = some x → alS x.op = true → listed.getD k false = false → π2 (C k) = π1 (C k)) → ∀ (k : Nat) (x : Oper),ops[k]? = some x → alS x.op = true → (listed.setIfInBounds j true).getD k false = false → π2 (C k) = none:=fun π2 h k x hx ha hl=>by
   have hl' : listed.getD k false = false:=by
    cases hh : listed.getD k false with
    | false=>rfl
    | true=>rw [lset k hh] at hl; cases hl
   rw [h k x hx ha hl',hpn k x hx ha hl']
  have listSame : (pureS o.op = true ∨ isLoad o.op = true ∨ alS o.op = true) → ∀ (i : Nat) (x : Oper),ops[i]? = some x → pureS x.op = false → isLoad x.op = false → alS x.op = false → ((listed.setIfInBounds j true).getD i false = true ↔ i < q):=fun hpl i x hx n1 n2 n3=>by
   by_cases hij : i = j
   ·subst hij
    rw [ho] at hx
    obtain rfl:=Option.some.inj hx
    rcases hpl with h | h | h
    ·rw [n1] at h; cases h
    ·rw [n2] at h; cases h
    ·rw [n3] at h; cases h
   ·rw [lsame i hij]; exact hq i x hx n1 n2 n3
  have fxSame : alS o.op = false → ∀ q2 X2,FX ops S C Bl q2 (fun i=>listed.getD i false) X2 → FX ops S C Bl q2 (fun i=>(listed.setIfInBounds j true).getD i false) X2:=fun ha q2 X2 h=>h.list (fun k x hx hax=>lsame k (fun e=>by
   subst e
   rw [ho] at hx
   obtain rfl:=Option.some.inj hx
   rw [ha] at hax; cases hax))
  have turn : pureS o.op = false → isLoad o.op = false → alS o.op = false → q ≤ j ∧ FX ops S C Bl j (fun i=>listed.getD i false) X ∧ (∀ (i : Nat) (x : Oper),ops[i]? = some x → alS x.op = true → i < j → listed.getD i false = true) ∧
    (∀ (i : Nat) (x : Oper),ops[i]? = some x → pureS x.op = false → isLoad x.op = false → alS x.op = false → ((listed.setIfInBounds j true).getD i false = true ↔ i < j + 1)):=fun n3 n4 n5=>by
   have hqj : q ≤ j:=by
    by_cases h : q ≤ j
    ·exact h
    ·have:=(hq j o ho n3 n4 n5).2 (by omega)
     rw [hl0] at this; cases this
   have hal : ∀ (i : Nat) (x : Oper),ops[i]? = some x → alS x.op = true → i < j → listed.getD i false = true:=fun i x hx hax hij=>had i (memBit i j x o hx ho hij (alP hax) (alL hax) n3 n4 n5)
   refine ⟨hqj,?_,hal,fun i x hx n1 n2 n6=>?_⟩
   ·have:=adv (j - q) q _ X (by omega) (fun i x h1 h2 hx=>by
     cases n1 : pureS x.op with
     | true=>exact .inl (.inl rfl)
     | false=>cases n2 : isLoad x.op with
      | true=>exact .inl (.inr rfl)
      | false=>cases n6 : alS x.op with
       | true=>exact .inr ⟨rfl,hal i x hx n6 (by omega)⟩
       | false =>
        have:=(hq i x hx n1 n2 n6).1 (had i (memBit i j x o hx ho (by omega) n1 n2 n3 n4 n5))
        omega) hX
    rwa [show q + (j - q) = j by omega] at this
   ·rcases Nat.lt_trichotomy i j with h1 | h1 | h1
    ·rw [lsame i (by omega)]
     exact ⟨fun _=>by omega,fun _=>had i (memBit i j x o hx ho h1 n1 n2 n3 n4 n5)⟩
    ·subst h1; rw [getD_set _ _ _ hjs,if_pos rfl]; simp
    ·rw [lsame i (by omega),behind i x hx (memBit j i o x ho hx h1 n3 n4 n1 n2 n6)]; simp; omega
  simp only [wpOpIn,ho]
  rw [wanted_rel hlr,wanted_congr slot]
  rcases (hF j o ho).2.2 with ⟨f1,f2,fb,f3,_⟩ | ⟨f1,f2,⟨s0,f3⟩,f4,_⟩ | ⟨f1,f2,f3,⟨s0,c,b,f4,f5,fr,f6,f7⟩,f8,_⟩ | ⟨f1,fa,⟨A,fm,fb,f4⟩,_⟩ | ⟨f1,f2,f3,fa,qq,f4,f5,f6,f7⟩
  ·
   rw [f1]
   simp only [Bool.false_eq_true,if_false]
   refine ⟨fun _ _=>trivial,?_⟩
   by_cases ha : alS o.op = true
   ·refine next undef w1 π1 lm1 q X hqn (by rw [f2]; exact .undef) hlr (listSame (.inr (.inr ha))) (lset2 q hqa) ?_ (pset π1 (fun _ _ _ _ _=>rfl)) hwr htr
    refine ⟨hX.loops,hX.nd,hX.lo,hX.len,hX.out,fun k x hk hx hax=>?_,hX.hole⟩
    rw [hX.res k x hk hx hax]
    by_cases hkj : k = j
    ·subst hkj
     rw [fb]; simp
    ·rw [lsame k hkj]
   ·have ha' : alS o.op = false:=by simpa using ha
    by_cases hm : pureS o.op = true ∨ isLoad o.op = true
    ·exact next undef w1 π1 lm1 q X hqn (by rw [f2]; exact .undef) hlr (listSame (by rcases hm with h | h; exact .inl h; exact .inr (.inl h))) (lset2 q hqa) (fxSame ha' q X hX) (pset π1 (fun _ _ _ _ _=>rfl)) hwr htr
    ·have n3 : pureS o.op = false:=by cases h : pureS o.op with | false=>rfl | true=>exact absurd (.inl h) hm
     have n4 : isLoad o.op = false:=by cases h : isLoad o.op with | false=>rfl | true=>exact absurd (.inr h) hm
     obtain ⟨t1,t2,t3,t4⟩:=turn n3 n4 ha'
     refine next undef w1 π1 lm1 (j + 1) X (by omega) (by rw [f2]; exact .undef) hlr t4 (fun i x hx hax hij=>?_) (fxSame ha' (j + 1) X (adv1 j o _ X ho (fun _=>f3) (fun h=>by rw [ha'] at h; cases h) t2)) (pset π1 (fun _ _ _ _ _=>rfl)) hwr htr
     by_cases hij2 : i = j
     ·subst hij2
      rw [ho] at hx
      obtain rfl:=Option.some.inj hx
      rw [ha'] at hax; cases hax
     ·exact lset i (t3 i x hx hax (by omega))
  ·
   rw [f1]
   simp only [if_true]
   obtain ⟨v',e1,e2⟩:=evOp_pureS f2 f3 (by simp)
   simp only [ORes.val.injEq] at e1
   obtain ⟨rfl,_,_⟩:=e1
   have ha' : alS o.op = false:=by cases h : alS o.op with | false=>rfl | true=>(rw [alP h] at f2; cases f2)
   have hone : evOneV P rec o (PD ops.toList V (fun i=>listed.getD i false) ts ops.size) X = some (V j,X):=by
    unfold evOneV; rw [congrOp,e2 X]
   refine one_sound hname hc hr hone hwr (Nat.le_trans hB htr.size) hlr N ro _ Q ?_
   intro c w2 π2 lm2 m0 m1 m2
   exact next c w2 π2 lm2 q X hqn m0 (m2.lr hlr) (listSame (.inl f2)) (lset2 q hqa) (fxSame ha' q X hX) (pset π2 (fun k x hx hax hl=>m2.old _ (by
    have hkq : q ≤ k:=by
     by_cases h : q ≤ k
     ·exact h
     ·have:=hqa k x hx hax (by omega)
      rw [hl] at this; cases this
    exact (List.getElem?_eq_some_iff.1 (hX.res k x hkq hx hax)).1))) m1 (htr.trans m2)
  ·
   rw [f1]
   simp only [if_true]
   have ha' : alS o.op = false:=by cases h : alS o.op with | false=>rfl | true=>(rw [alL h] at f3; cases f3)
   have alOf : ∀ (i : Nat) (x : Oper) (e : Eff) (h : Nat),ops[i]? = some x → Mo (i + 1) = (i,e,h) :: Mo i → alS x.op = false:=fun i x e h hx hmo=>by
    rcases (hF i x hx).2.2 with ⟨_,_,_,_,_,h2⟩ | ⟨_,_,_,_,_,h2⟩ | ⟨_,_,_,_,_,h2⟩ | ⟨_,_,_,_,h2⟩ | ⟨_,_,_,h2,_⟩
    ·rw [h2] at hmo; have:=congrArg List.length hmo; simp at this
    ·rw [h2] at hmo; have:=congrArg List.length hmo; simp at this
    ·rw [h2] at hmo; have:=congrArg List.length hmo; simp at this
    ·rw [h2] at hmo; have:=congrArg List.length hmo; simp at this
    ·exact h2
   have alOf2 : ∀ (i : Nat) (x : Oper),ops[i]? = some x → pureS x.op = false → isLoad x.op = false → ∀ (e : Eff) (h : Nat),Mo (i + 1) = (i,e,h) :: Mo i → alS x.op = false:=fun i x hx _ _ e h hmo=>alOf i x e h hx hmo
   have hrow : blockAt (S q) b = blockAt (S j) b:=by
    by_cases hqj : q ≤ j
    ·have:=rowSame b (j - q) q fr (by omega) (fun i x e h a1 a2 hx n1 n2 hmo=>by
      have hin : (i,e,h) ∈ Mo j:=by
       have:=moSub (j - (i + 1)) (i + 1) (by omega) (i,e,h) (by rw [hmo]; simp)
       rwa [show i + 1 + (j - (i + 1)) = j by omega] at this
      rw [List.all_eq_true] at f6
      have:=f6 _ hin
      simp only [Bool.or_eq_true] at this
      rcases this with hb | hb
      ·have:=(hq i x hx n1 n2 (alOf i x e h hx hmo)).1 (had i hb)
       omega
      ·exact hb)
     rw [show q + (j - q) = j by omega] at this
     exact this.symm
    ·have:=rowSame b (q - j) j fr (by omega) (fun i x e h a1 a2 hx n1 n2 hmo=>by
      by_cases hij : i = j
      ·subst hij
       rw [ho] at hx
       obtain rfl:=Option.some.inj hx
       rw [f3] at n2; cases n2
      ·have hin : (j,b) ∈ Ld i:=by
        have:=ldSub (i - (j + 1)) (j + 1) (by omega) (j,b) (by rw [f7]; simp)
        rwa [show j + 1 + (i - (j + 1)) = i by omega] at this
       have hmo0:=hmo
       rcases (hF i x hx).2.2 with ⟨_,_,_,_,_,h2⟩ | ⟨_,h2,_⟩ | ⟨_,_,h2,_⟩ | ⟨_,_,_,_,h2⟩ | ⟨_,_,_,_,qq,_,h2,_,h3⟩
       ·rw [h2] at hmo
        have:=congrArg List.length hmo
        simp at this
       ·rw [n1] at h2; cases h2
       ·rw [n2] at h2; cases h2
       ·rw [h2] at hmo
        have:=congrArg List.length hmo
        simp at this
       ·rw [h3] at hmo
        simp only [List.cons.injEq,Prod.mk.injEq,and_true,true_and] at hmo
        obtain ⟨rfl,rfl⟩:=hmo
        rw [List.all_eq_true] at h2
        have:=h2 _ hin
        simp only [Bool.or_eq_true] at this
        rcases this with hb | hb
        ·have:=behind i x hx hb
         have:=(hq i x hx n1 n2 (alOf2 i x hx n1 n2 _ _ hmo0)).2 (by omega)
         rw [behind i x hx hb] at this; cases this
        ·exact hb)
     rw [show j + (q - j) = q by omega] at this
     exact this
   have hrowX : blockAt X b = blockAt (S q) b:=by
    unfold blockAt
    rw [nthD_eq,nthD_eq,hX.out b (fun k x hk hx hax=>by
     have k1:=cLo k (Nat.le_of_lt (szOf k x hx))
     have k2:=cHi k x hx hax
     omega)]
   have hone : evOneV P rec o (PD ops.toList V (fun i=>listed.getD i false) ts ops.size) X = some (V j,X):=by
    unfold evOneV
    rw [congrOp]
    cases hop : o.op with
    | load t x =>
     obtain ⟨b1,v1,g1,g2,_,g3⟩:=load_op hop f4
     rw [f5] at g1
     obtain rfl:=Option.some.inj g1
     simp only [ORes.val.injEq] at g2
     obtain ⟨rfl,_,_⟩:=g2
     rw [g3 X (by rw [hrowX,hrow])]
    | _=>simp [isLoad,hop] at f3
   refine one_sound hname hc hr hone hwr (Nat.le_trans hB htr.size) hlr N ro _ Q ?_
   intro c w2 π2 lm2 m0 m1 m2
   exact next c w2 π2 lm2 q X hqn m0 (m2.lr hlr) (listSame (.inr (.inl f3))) (lset2 q hqa) (fxSame ha' q X hX) (pset π2 (fun k x hx hax hl=>m2.old _ (by
    have hkq : q ≤ k:=by
     by_cases h : q ≤ k
     ·exact h
     ·have:=hqa k x hx hax (by omega)
      rw [hl] at this; cases this
    exact (List.getElem?_eq_some_iff.1 (hX.res k x hkq hx hax)).1))) m1 (htr.trans m2)
  ·
   rw [f1]
   simp only [if_true]
   have hqj : q ≤ j:=by
    by_cases h : q ≤ j
    ·exact h
    ·have:=hqa j o ho fa (by omega)
     rw [hl0] at this; cases this
   have hres : X.heap[C j]? = some none:=by
    rw [hX.res j o hqj ho fa,hl0]; rfl
   unfold madeAt at fm
   split at fm
   case h_2=>cases fm
   rename_i v0 s1 k0 hop
   obtain ⟨G,e,cs,hG,rfl,rfl,hall⟩:=alS_shape fa hop
   split at fm
   case h_2=>cases fm
   rename_i A0 hA0
   split at fm
   case isFalse=>cases fm
   rename_i hlone
   simp only [Option.some.injEq,Prod.mk.injEq] at fm
   obtain ⟨fv,rfl⟩:=fm
   have hlen : (cutSt (S j) (C j)).heap.length = C j:=by
    by_cases hle : C j ≤ (S j).heap.length
    ·simp only [cutSt,List.length_take]; omega
    ·exfalso
     simp only [newBlk] at hA0
     rw [nthD_eq,List.getElem?_eq_none (by simp only [cutSt,List.length_append,List.length_take,List.length_cons,List.length_nil]; omega)] at hA0
     cases hA0
   have hA1 : A0 = { elem:=e,cells:=cs,ro:=false }:=by
    simp only [newBlk] at hA0
    rw [nthD_eq,List.getElem?_append_right (by omega),hlen,Nat.sub_self] at hA0
    simpa using hA0.symm
   subst hA1
   rw [hlen] at fv
   have hone : evOneV P rec o (PD ops.toList V (fun i=>listed.getD i false) ts ops.size) (bare X) = some (G (bare X).heap.length,newBlk (bare X) e cs):=by
    unfold evOneV; rw [congrOp,evOp_some0 (hall (bare X))]
   have hwb : WR B π1 lm1 (bare X) w1:=hwr.sub (by simp [bare]) rfl (fun i A h=>by
    simp only [bare,List.getElem?_replicate] at h
    split at h <;> simp at h)
   refine one_sound hname hc hr hone hwb (Nat.le_trans hB htr.size) hlr N ro _ Q ?_
   intro c w2 π2 lm2 m0 m1 m2
   obtain ⟨π3,z1,z2,z3,z4,z5⟩:=made hwr htr m1 m2 hres (hpn j o ho fa hl0) (by rw [hs0]; exact cLo j (by omega)) hlone
   have hv : VR π3 lm1 (V j) c:=by
    rw [← fv]
    exact z5 G c hG (by simpa [bare] using m0)
   have hlt : C j < X.heap.length:=(List.getElem?_eq_some_iff.1 hres).1
   refine next c w2 π3 lm1 q _ hqn hv (hlr.mono z3 (fun _ _ x=>x)) (listSame (.inr (.inr fa))) (lset2 q hqa) ?_ ?_ z1 z2
   ·refine ⟨hX.loops,hX.nd,hX.lo,by simp only [setBlk,setNth_eq,List.length_set]; exact hX.len,fun i hi=>?_,fun k x hk hx hax=>?_,hX.hole⟩
    ·simp only [setBlk,setNth_eq]
     rw [List.getElem?_set_ne (hi j o hqj ho fa)]
     exact hX.out i hi
    ·simp only [setBlk,setNth_eq]
     by_cases hkj : k = j
     ·subst hkj
      rw [List.getElem?_set_self hlt,getD_set _ _ _ hjs,if_pos rfl,fb]; rfl
     ·rw [List.getElem?_set_ne (cNe j k o x ho hx fa hax (Ne.symm hkj)),hX.res k x hk hx hax,lsame k hkj]
   ·intro k x hx hax hl
    have hkj : k ≠ j:=fun h=>by rw [h,getD_set _ _ _ hjs,if_pos rfl] at hl; cases hl
    rw [z4 _ (cNe k j x o hx ho hax fa hkj)]
    exact hpn k x hx hax (by rw [← lsame k hkj]; exact hl)
  ·
   rw [f1]
   simp only [if_true]
   obtain ⟨t1,t2,t3,t4⟩:=turn f2 f3 fa
   have holes : ∀ (k : Nat) (x : Oper),j ≤ k → ops[k]? = some x → alS x.op = true → (S j).heap[C k]? = some none:=t2.hole
   have hsub : ∀ (i : Nat) (A : ABlk),(S j).heap[i]? = some (some A) → X.heap[i]? = some (some A):=fun i A hA=>by
    rw [t2.out i (fun k x hk hx hax h=>by
     rw [← h,holes k x hk hx hax] at hA; cases hA)]
    exact hA
   have hw0 : WR B π1 lm1 (S j) w1:=hwr.sub t2.len.symm t2.loops.symm hsub
   have hone : evOneV P rec o (PD ops.toList V (fun i=>listed.getD i false) ts ops.size) (S j) = some (V j,S (j + 1)):=by
    have:=evOneQ_V f4
    unfold evOneV at this ⊢
    rw [congrOp]; exact this
   refine one_sound hname hc hr hone hw0 (Nat.le_trans hB htr.size) hlr N ro _ Q ?_
   intro c w2 π2 lm2 m0 m1 m2
   have hCl : ∀ (k : Nat) (x : Oper),j ≤ k → ops[k]? = some x → alS x.op = true → C k < (S j).heap.length:=fun k x hk hx hax=>(List.getElem?_eq_some_iff.1 (holes k x hk hx hax)).1
   classical
   let pend : Nat → Prop:=fun i=>∃ (k : Nat) (x : Oper),j ≤ k ∧ ops[k]? = some x ∧ alS x.op = true ∧ C k = i
   let Z : St:={ S (j + 1) with heap:=(S (j + 1)).heap.zipIdx.map fun y=>if pend y.2 then nthD none X.heap y.2 else y.1 }
   have zAt : ∀ i,Z.heap[i]? = ((S (j + 1)).heap[i]?).map fun y=>if pend i then nthD none X.heap i else y:=fun i=>by
    show ((S (j + 1)).heap.zipIdx.map _)[i]? = _
    rw [List.getElem?_map,List.getElem?_zipIdx]
    cases (S (j + 1)).heap[i]? <;> simp
   have zl : Z.heap.length = (S (j + 1)).heap.length:=by
    show ((S (j + 1)).heap.zipIdx.map _).length = _
    simp
   have pendX : ∀ i,pend i → i < X.heap.length ∧ ∀ A' : ABlk,(S j).heap[i]? ≠ some (some A'):=fun i ⟨k,x,hk,hx,hax,hi⟩=>by
    subst hi
    refine ⟨by rw [t2.len]; exact hCl k x hk hx hax,fun A' h=>?_⟩
    rw [holes k x hk hx hax] at h; cases h
   have hlenJ : (S j).heap.length ≤ (S (j + 1)).heap.length:=m2.len
   obtain ⟨r1,r2⟩:=readd (Z:=Z) hwr m1 m2 t2.len.symm t2.nd.symm t2.lo.symm hsub rfl rfl rfl zl
    (fun i A hA=>by
     rw [zAt] at hA
     by_cases hp : pend i
     ·right
      simp only [hp,if_true,Option.map_eq_some_iff] at hA
      obtain ⟨y,hy,hA⟩:=hA
      obtain ⟨p1,p2⟩:=pendX i hp
      refine ⟨?_,p2⟩
      rw [nthD_eq,List.getElem?_eq_getElem p1] at hA
      rw [List.getElem?_eq_getElem p1]
      simpa using hA
     ·left
      simp only [hp,if_false,Option.map_id'] at hA
      exact hA)
    (fun i hi he=>by
     rw [zAt]
     by_cases hp : pend i
     ·obtain ⟨p1,p2⟩:=pendX i hp
      have : i < (S (j + 1)).heap.length:=by rw [t2.len] at hi; omega
      rw [List.getElem?_eq_getElem this]
      simp only [hp,if_true,Option.map_some]
      rw [nthD_eq,List.getElem?_eq_getElem p1]; rfl
     ·simp only [hp,if_false,Option.map_id']
      rw [he,t2.out i (fun k x hk hx hax h=>hp ⟨k,x,hk,hx,hax,h⟩)])
   refine next c w2 π2 lm2 (j + 1) Z (by omega) m0 (m2.lr hlr) t4 (fun i x hx hax hij=>?_) (fxSame fa (j + 1) Z ⟨rfl,rfl,rfl,zl,fun i hi=>?_,fun k x hk hx hax=>?_,fun k x hk hx hax=>?_⟩) (pset π2 (fun k x hx hax hl=>m2.old _ (hCl k x ?_ hx hax))) r1 (htr.trans r2)
   ·by_cases hij2 : i = j
    ·subst hij2
     rw [ho] at hx
     obtain rfl:=Option.some.inj hx
     rw [fa] at hax; cases hax
    ·exact lset i (t3 i x hx hax (by omega))
   ·have hp : ¬ pend i:=fun ⟨k,x,hk,hx,hax,h⟩=>by
     by_cases hkj : k = j
     ·subst hkj
      rw [ho] at hx
      obtain rfl:=Option.some.inj hx
      rw [fa] at hax; cases hax
     ·exact hi k x (by omega) hx hax h
    rw [zAt]
    simp only [hp,if_false,Option.map_id']
   ·have hp : pend (C k):=⟨k,x,by omega,hx,hax,rfl⟩
    have h1:=hCl k x (by omega) hx hax
    rw [zAt,List.getElem?_eq_getElem (by omega)]
    simp only [hp,if_true,Option.map_some]
    have h2:=t2.res k x (by omega) hx hax
    rw [nthD_eq,h2]; rfl
   ·have h1:=hCl k x (by omega) hx hax
    have h2:=holes k x (by omega) hx hax
    cases hy : (S (j + 1)).heap[C k]? with
    | none =>
     rw [List.getElem?_eq_none_iff] at hy
     omega
    | some y=>cases y with
     | none=>rfl
     | some A =>
      obtain ⟨A2,e1,_⟩:=m2.liv (C k) A h1 hy
      rw [h2] at e1; cases e1
   ·by_cases h : j ≤ k
    ·exact h
    ·have:=t3 k x hx hax (by omega)
     rw [hl] at this; cases this
theorem float_sound {rec : Ev} (hmix : P.follows .mixedOrders = true) (hname : ∀ (f : Nat) (fn : Func),P.funcs[f]? = some fn → fn.name ≠ "runtime.NumGoroutine") (hc : SCall P rec.call) (hr : SRound P rec.round) (id : Nat) {ops : Array Oper}
  (hok : floatOk ops = true) {h1 : Nat} (hh1 : h1 = s.heap.length + numAl ops.toList) {ts' : List AV} {s' : St} (h : evFloat P rec ops.toList (befs ops.toList []) s.heap.length h1 0 s.heap.length ops.toList ts (room s (numAl ops.toList)) [] [] = some (ts',s')) (hw : WR B π lm s w) (hB : B ≤ w.heap.size) (r : LR π lm ts a.tmps.toList) (N : Nat) (ro : Option Nat)
  (Q : Exit → Act → World → Prop) (hQ : ∀ a' w' π' lm',WR B π' lm' s' w' → LR π' lm' ts' a'.tmps.toList → Tr π π' lm lm' s s' w w' → a'.defers = a.defers → Q .normal a' w') :
  (Code.region id ops true).wpIn (Fr ro) N P Q a w:=by
 obtain ⟨T,V,S,C,Bl,Ld,Mo,e1,e2,e8,_,_,e4,e5,e6⟩:=float_data ops.toList 0 s.heap.length ts (room s (numAl ops.toList)) [] [] (by simp) (by simp) h
 refine wpIn_region_any hmix ?_
 have rl : (room s (numAl ops.toList)).heap.length = s.heap.length + numAl ops.toList:=by simp [room]
 have rlow : ∀ i,i < s.heap.length → (room s (numAl ops.toList)).heap[i]? = s.heap[i]?:=fun i hi=>by
  simp only [room]; rw [List.getElem?_append_left hi]
 have rhigh : ∀ i,s.heap.length ≤ i → i < s.heap.length + numAl ops.toList → (room s (numAl ops.toList)).heap[i]? = some none:=fun i hi hi2=>by
  simp only [room]
  rw [List.getElem?_append_right hi,List.getElem?_replicate,if_pos (by omega)]
 have rsub : ∀ (i : Nat) (A : ABlk),(room s (numAl ops.toList)).heap[i]? = some (some A) → s.heap[i]? = some (some A):=fun i A hA=>by
  by_cases hi : i < s.heap.length
  ·rw [← rlow i hi]; exact hA
  ·have hlt:=(List.getElem?_eq_some_iff.1 hA).1
   rw [rhigh i (by omega) (by omega)] at hA; cases hA
 have cLo : ∀ (d : Nat),d ≤ ops.size → s.heap.length ≤ C d:=fun d=>by
  induction d with
  | zero=>intro _; rw [e8]; exact Nat.le_refl _
  | succ d ih =>
   intro hd
   have:=ih (by omega)
   rcases (e6 d _ (Nat.zero_le _) (Array.getElem?_eq_getElem (show d < ops.size by omega))).2.1 with ⟨_,h⟩ | ⟨_,h,_⟩ <;> omega
 have cHi : ∀ (k : Nat) (x : Oper),ops[k]? = some x → alS x.op = true → C k < s.heap.length + numAl ops.toList:=fun k x hx ha=>by
  rcases (e6 k x (Nat.zero_le _) hx).2.1 with ⟨h,_⟩ | ⟨_,_,h⟩
  ·rw [ha] at h; cases h
  ·omega
 have hw0 : WR B π lm (room s (numAl ops.toList)) w:={
  dom:=fun i x hx=>by rw [rl]; have:=hw.dom i x hx; omega
  blk:=fun i A hA=>hw.blk i A (rsub i A hA)
  inj:=fun i j A A' b n m h1 h2=>hw.inj i j A A' b n m (rsub _ _ h1) (rsub _ _ h2)
  lsz:=hw.lsz
  linj:=hw.linj
  loop:=fun l r hr=>hw.loop l r hr }
 have ht0 : Tr π π lm lm s (room s (numAl ops.toList)) w w:={
  os:=rfl,tape:=rfl,output:=rfl,size:=Nat.le_refl _
  keep:=fun _ _ _ _=>rfl
  low:=fun _ _ _ _ _ _ _=>rfl
  same:=fun i hi _=>rlow i hi
  lkeep:=fun _ _ _=>rfl
  lo_le:=Nat.le_refl _
  nd_le:=Nat.le_refl _
  le:=Inj.le_refl _
  old:=fun _ _=>rfl
  len:=by rw [rl]; omega
  liv:=fun i A' hi hA=>⟨A',rsub i A' hA,rfl⟩
  new:=fun i b n hi hp=>by have:=hw.dom i _ hp; omega
  lmx:=⟨[],by simp,by simp⟩ }
 have hn : ∀ i,(Array.replicate ops.size false).getD i false = false:=fun i=>by
  rw [Array.getD_eq_getD_getElem?,Array.getElem?_replicate]; split <;> rfl
 refine float_any hname hc hr hok e1 e4 e5 e8 rfl (fun j o ho=>e6 j o (Nat.zero_le _) ho) hB N ro Q hQ ops.size _ a _ ?_ ?_
 ·simp [unlisted,List.countP_replicate]
 ·refine ⟨by simp,?_,⟨0,room s (numAl ops.toList),π,lm,Nat.zero_le _,fun i x _ _ _ _=>by rw [hn]; simp,fun i x _ _ h=>by omega,?_,?_,?_,?_,?_⟩,rfl⟩
  ·intro j o hj; rw [hn] at hj; cases hj
  ·refine ⟨by rw [e2],by rw [e2],by rw [e2],by rw [e2],fun i _=>by rw [e2],fun k x _ hx ha=>?_,fun k x _ hx ha=>?_⟩
   ·rw [hn]
    exact rhigh _ (cLo k (Nat.le_of_lt (Array.getElem?_eq_some_iff.1 hx).1)) (cHi k x hx ha)
   ·rw [e2]
    exact rhigh _ (cLo k (Nat.le_of_lt (Array.getElem?_eq_some_iff.1 hx).1)) (cHi k x hx ha)
  ·intro k x hx ha _
   cases hp : π (C k) with
   | none=>rfl
   | some y =>
    have h1:=hw.dom _ _ hp
    have h2:=cLo k (Nat.le_of_lt (Array.getElem?_eq_some_iff.1 hx).1)
    omega
  ·have : ∀ m,PD ops.toList V (fun i=>(Array.replicate ops.size false).getD i false) ts m = ts:=by
    intro m
    induction m with
    | zero=>rfl
    | succ m ih =>
     rw [PD,if_neg (by rw [hn]; simp)]
     exact ih
   rw [this]; exact r
  ·exact hw0.heapEq rfl
  ·exact ht0.trans (Tr.heapEq hw0 rfl rfl rfl rfl)
end Go.Ev
