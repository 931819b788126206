/- Closed calls, and what is known of them, for a proof of a statement. -/
import Derived.Test.YtllecfhfhcmpaaaEvN
import Derived.Test.YtllecfhfhcmpaaaEvQ
import Derived.ChangeSame
import Derived.Below
namespace Go.Ev
open Go.RowKit (Below)
set_option linter.unusedSectionVars false
variable [Rho]
open Go.ChangeShapes Go.WideShapes
def st0 : St:={ heap:=[],lo:=0,loops:=[],nd:=0 }
abbrev none0 : Inj:=fun _=>none
theorem WR.start (w : World) : WR w.heap.size none0 [] st0 w where
 dom:=fun i x h=>by cases h
 blk:=fun i A h=>by simp [st0] at h
 inj:=fun i j A A' b n m h=>by simp [st0] at h
 lsz:=rfl
 linj:=fun l l' L h=>by simp at h
 loop:=fun l r h=>by simp [st0] at h
theorem WR.kept {B : Nat} {π : Inj} {lm : List Nat} {s : St} {w w' : World} (h : WR B π lm s w) (hk : ∀ (r : Nat),r < w.heap.size → w'.heap[r]? = w.heap[r]?) : WR B π lm s w' where
 dom:=h.dom
 blk:=fun i A hA=>by
  obtain ⟨b,n,c,fz,g1,g2,g3⟩:=h.blk i A hA
  exact ⟨b,n,c,fz,g1,by rw [hk b (lt_of_some g2)]; exact g2,g3⟩
 inj:=h.inj
 lsz:=h.lsz
 linj:=h.linj
 loop:=fun l r hr=>by
  obtain ⟨L,fn,D,ts,st,pd,g1,g2,g3⟩:=h.loop l r hr
  exact ⟨L,fn,D,ts,st,pd,g1,by rw [hk L (lt_of_some g2)]; exact g2,g3⟩
variable {P : Program} {orc : Orc}
structure Fit (P : Program) : Prop where
 mix : P.follows .mixedOrders = true
 name : ∀ (f : Nat) (fn : Func),P.funcs[f]? = some fn → fn.name ≠ "runtime.NumGoroutine"
def fitB (P : Program) : Bool:=P.follows .mixedOrders && P.funcs.toList.all fun fn=>fn.name != "runtime.NumGoroutine"
theorem fit_of (h : fitB P = true) : Fit P:=by
 simp only [fitB,Bool.and_eq_true,List.all_eq_true,bne_iff_ne] at h
 refine ⟨h.1,fun f fn hf=>h.2 fn ?_⟩
 rw [← Array.getElem?_toList] at hf
 exact List.mem_of_getElem? hf
theorem run_sound [Know] [KnowOk] (hP : Fit P) (ho : OrcOk P orc) {n : Nat} {f : FuncId} {args : List AV} {v : AV} {s1 : St} {q : Bool} (h : (evF P orc n).call f args st0 = some (v,s1,q)) (hv : v.flat = true) (w : World) {vs : Array Value}
  (hargs : LR none0 [] args vs.toList) (N : Nat) :
  (∃ fn body,P.funcs[f]? = some fn ∧ fn.body = some body) ∧
  CallsIn (Fr none) N P f vs w fun e w'=>∃ c,e = .returned c ∧ (∀ π lm,VR π lm v c) ∧ w'.os = w.os ∧ w'.tape = w.tape ∧ w'.output = w.output ∧ w.heap.size ≤ w'.heap.size ∧ ∀ (r : Nat),r < w.heap.size → w'.heap[r]? = w.heap[r]?:=by
 have h1:=(evF_sim P orc n).call _ _ _ _ h
 obtain ⟨k1,_,_,_⟩:=ev_sound ho hP.mix hP.name n
 obtain ⟨g1,_,g2⟩:=k1 _ _ _ _ _ _ h1
 refine ⟨g1,(g2 w.heap.size none0 [] w vs N none (WR.start w) (Nat.le_refl _) hargs).mono ?_⟩
 rintro e w' ⟨c,π',lm',rfl,m1,m2,m3⟩
 refine ⟨c,rfl,fun π lm=>flat_rel hv m1 π lm,m3.os,m3.tape,m3.output,m3.size,fun r hr=>m3.keep r hr ?_ ?_⟩
 ·intro i A n hA; simp [st0] at hA
 ·simp
theorem run_calls [Know] [KnowOk] (hP : Fit P) (ho : OrcOk P orc) {n : Nat} {f : FuncId} {args : List AV} {v : AV} {s1 : St} {q : Bool} (h : (evF P orc n).call f args st0 = some (v,s1,q)) (hv : v.flat = true) (w : World) {vs : Array Value}
  (hargs : LR none0 [] args vs.toList) : Calls P f vs w fun e w'=>∃ c,e = .returned c ∧ (∀ π lm,VR π lm v c) ∧ Below w.heap.size w w':=by
 have:=(run_sound hP ho h hv w hargs 0).2
 have : CallsIn Fence.wide 0 P f vs w _:=this
 refine (callsIn_wide.1 this).mono ?_
 rintro e w' ⟨c,h1,h2,h3,h4,h5,h6,h7⟩
 exact ⟨c,h1,h2,h3,h4,h5,h6,fun k hk=>h7 k hk⟩
def all0 (p : Nat → Bool) : AV → Bool
 | .ptr b _=>p b
 | .slice b _ _ _ _ _=>p b
 | .sls b _ _ _ _=>p b
 | .sptr b _=>p b
 | v=>v.lone
def all1 (p : Nat → Bool) : AV → Bool
 | .agg l=>l.all (all0 p)
 | v=>all0 p v
def all2 (p : Nat → Bool) : AV → Bool
 | .tup l=>l.all (all1 p)
 | v=>all1 p v
def ren0 (ρ : Nat → Nat) : AV → AV
 | .ptr b off=>.ptr (ρ b) off
 | .slice b off len cap ex es=>.slice (ρ b) off len cap ex es
 | .sls b off len cap ex=>.sls (ρ b) off len cap ex
 | .sptr b e=>.sptr (ρ b) e
 | v=>v
def ren1 (ρ : Nat → Nat) : AV → AV
 | .agg l=>.agg (l.map (ren0 ρ))
 | v=>ren0 ρ v
def ren2 (ρ : Nat → Nat) : AV → AV
 | .tup l=>.tup (l.map (ren1 ρ))
 | v=>ren1 ρ v
section
variable {p : Nat → Bool} {ρ : Nat → Nat} {π π' : Inj} {lm lm' : List Nat}
theorem ren0_rel (hp : ∀ b y,p b = true → π b = some y → π' (ρ b) = some y) {x : AV} {c : Value} (h : all0 p x = true) (hv : VR π lm x c) : VR π' lm' (ren0 ρ x) c:=by
 cases x with
 | ptr b off=>cases hv with
  | ptr e=>exact .ptr (hp b _ h e)
 | slice b off len cap ex es=>cases hv with
  | sliceEx e=>exact .sliceEx (hp b _ h e)
  | sliceIn e hc hn=>exact .sliceIn (hp b _ h e) hc hn
 | sls b off len cap ex=>cases hv with
  | slsEx o e=>exact .slsEx o (hp b _ h e)
  | slsIn o e hc hn=>exact .slsIn o (hp b _ h e) hc hn
 | sptr b e=>cases hv with
  | sptr o n1 e=>exact .sptr o n1 (hp b _ h e)
 | _=>simp only [all0] at h; exact lone_rel h hv _ _
theorem ren1_rel (hp : ∀ b y,p b = true → π b = some y → π' (ρ b) = some y) {x : AV} {c : Value} (h : all1 p x = true) (hv : VR π lm x c) : VR π' lm' (ren1 ρ x) c:=by
 cases x with
 | agg l=>cases hv with
  | agg hs hl =>
   simp only [all1,List.all_eq_true] at h
   exact .agg (by simpa using hs) (fun i a b=>by
    rw [List.getElem_map]
    exact ren0_rel hp (h _ (List.getElem_mem _)) (hl i (by simpa using a) b))
 | _=>simp only [all1] at h; exact ren0_rel hp h hv
theorem ren2_rel (hp : ∀ b y,p b = true → π b = some y → π' (ρ b) = some y) {x : AV} {c : Value} (h : all2 p x = true) (hv : VR π lm x c) : VR π' lm' (ren2 ρ x) c:=by
 cases x with
 | tup l=>cases hv with
  | tup hs hl =>
   simp only [all2,List.all_eq_true] at h
   exact .tup (by simpa using hs) (fun i a b=>by
    rw [List.getElem_map]
    exact ren1_rel hp (h _ (List.getElem_mem _)) (hl i (by simpa using a) b))
 | _=>simp only [all2] at h; exact ren1_rel hp h hv
theorem ren0_back (hp : ∀ b y,p b = true → π (ρ b) = some y → π' b = some y) {x : AV} {c : Value} (h : all0 p x = true) (hv : VR π lm (ren0 ρ x) c) : VR π' lm' x c:=by
 cases x with
 | ptr b off=>cases hv with
  | ptr e=>exact .ptr (hp b _ h e)
 | slice b off len cap ex es=>cases hv with
  | sliceEx e=>exact .sliceEx (hp b _ h e)
  | sliceIn e hc hn=>exact .sliceIn (hp b _ h e) hc hn
 | sls b off len cap ex=>cases hv with
  | slsEx o e=>exact .slsEx o (hp b _ h e)
  | slsIn o e hc hn=>exact .slsIn o (hp b _ h e) hc hn
 | sptr b e=>cases hv with
  | sptr o n1 e=>exact .sptr o n1 (hp b _ h e)
 | _=>simp only [all0] at h; exact lone_rel h hv _ _
theorem ren1_back (hp : ∀ b y,p b = true → π (ρ b) = some y → π' b = some y) {x : AV} {c : Value} (h : all1 p x = true) (hv : VR π lm (ren1 ρ x) c) : VR π' lm' x c:=by
 cases x with
 | agg l=>cases hv with
  | agg hs hl =>
   simp only [all1,List.all_eq_true] at h
   simp only [List.length_map] at hs
   exact .agg hs (fun i a b=>ren0_back hp (h _ (List.getElem_mem _)) (by
    have:=hl i (by simpa using a) b
    rw [List.getElem_map] at this
    exact this))
 | _=>simp only [all1] at h; exact ren0_back hp h hv
end
structure Fct where
 args : List AV
 old : List ABlk
 v : AV
 sel : List Nat
 new : List ABlk
def Fct.st (F : Fct) : St:={ heap:=F.old.map some,lo:=0,loops:=[],nd:=0 }
def inS (m : Nat) (sel : List Nat) (b : Nat) : Bool:=Nat.blt b m || sel.contains b
def chkNew (h : List (Option ABlk)) : List Nat → List ABlk → Bool
 | [],[]=>true
 | i :: l,B :: m=>(match nthD none h i with | some A=>beqB A B | none=>false) && chkNew h l m
 | _,_=>false
def nodupB : List Nat → Bool
 | []=>true
 | a :: l=>!(l.contains a) && nodupB l
def Fct.good (F : Fct) : Bool:=
 F.old.all (fun A=>A.ro && A.cells.all AV.lone) && (F.args.all (all1 (Nat.blt · F.old.length)) && (all2 (inS F.old.length F.sel) F.v &&
  (F.new.all (fun A=>!A.ro && A.cells.all (all0 (inS F.old.length F.sel))) && (nodupB F.sel && F.sel.all (fun b=>Nat.ble F.old.length b)))))
def Fct.got (F : Fct) : Option (AV × St × Bool) → Bool
 | some (v,s1,_)=>beq2 v F.v && chkNew s1.heap F.sel F.new
 | none=>false
def Fct.Holds (P : Program) (f : FuncId) (F : Fct) : Prop:=
 (∃ fn body,P.funcs[f]? = some fn ∧ fn.body = some body) ∧ F.good = true ∧ ∃ s1 : St,chkNew s1.heap F.sel F.new = true ∧
  ∀ w (vs : Array Value) N π,WR w.heap.size π [] F.st w → LR π [] F.args vs.toList → CallsIn (Fr none) N P f vs w (CallPost w.heap.size π [] F.st w F.v s1)
theorem Fct.holds [Know] [KnowOk] (hP : Fit P) (ho : OrcOk P orc) {n : Nat} {f : FuncId} {F : Fct} (hg : F.good = true) (h : F.got ((evF P orc n).call f F.args F.st) = true) : F.Holds P f:=by
 unfold Fct.got at h
 split at h
 ·rename_i v s1 q e
  simp only [Bool.and_eq_true] at h
  obtain rfl:=beq2_ok h.1
  have h1:=(evF_sim P orc n).call _ _ _ _ e
  obtain ⟨k1,_,_,_⟩:=ev_sound ho hP.mix hP.name n
  obtain ⟨g1,_,g2⟩:=k1 _ _ _ _ _ _ h1
  exact ⟨g1,hg,s1,h.2,fun w vs N π hw hl=>g2 _ π [] w vs N none hw (Nat.le_refl _) hl⟩
 ·cases h
def blocks0 : AV → List Nat
 | .ptr b _=>[b]
 | .slice b _ _ _ _ _=>[b]
 | .sls b _ _ _ _=>[b]
 | .sptr b _=>[b]
 | _=>[]
def blocks1 : AV → List Nat
 | .agg l=>l.flatMap blocks0
 | v=>blocks0 v
def posOf (b : Nat) : List Nat → Nat
 | []=>0
 | a :: l=>if Nat.beq a b then 0 else posOf b l + 1
def rho (rs : List Nat) (m L : Nat) (sel : List Nat) (b : Nat) : Nat:=if Nat.blt b m then nthD 0 rs b else L + posOf b sel
def heapIn (s : St) : List Nat → List ABlk → Bool
 | [],[]=>true
 | r :: rs,B :: l=>(match blockAt s r with | some A=>Nat.beq A.elem B.elem && (tlSame A.tl B.tl && beqL beq0 A.cells B.cells) | none=>false) && heapIn s rs l
 | _,_=>false
def renB (ρ : Nat → Nat) (A : ABlk) : Option ABlk:=some { A with cells:=A.cells.map (ren0 ρ) }
def Fct.res (F : Fct) (ρ : Nat → Nat) (s : St) : AV × St × Bool:=
 match F.new with
 | []=>(ren2 ρ F.v,s,true)
 | _=>(ren2 ρ F.v,{ s with heap:=s.heap ++ F.new.map (renB ρ) },false)
def Fct.use (F : Fct) (args : List AV) (s : St) : Option (AV × St × Bool):=
 if beqL beq1 (F.args.map (ren1 (rho (args.flatMap blocks1) F.old.length s.heap.length F.sel))) args && heapIn s (args.flatMap blocks1) F.old then
  some (F.res (rho (args.flatMap blocks1) F.old.length s.heap.length F.sel) s)
 else none
def useFirst (args : List AV) (s : St) : List Fct → Option (AV × St × Bool)
 | []=>none
 | F :: l=>match F.use args s with
  | some r=>some r
  | none=>useFirst args s l
def factsOf (f : FuncId) : List (FuncId × List Fct) → List Fct
 | []=>[]
 | (g,l) :: r=>if Nat.beq f g then l else factsOf f r
def orcOf (L : List (FuncId × List Fct)) : Orc:=fun f args s=>useFirst args s (factsOf f L)
theorem heapIn_ok {s : St} : ∀ {rs : List Nat} {l : List ABlk},heapIn s rs l = true → rs.length = l.length ∧ ∀ (i : Nat) (B : ABlk),l[i]? = some B → ∃ A,s.heap[nthD 0 rs i]? = some (some A) ∧ A.elem = B.elem ∧ A.cells = B.cells ∧ A.tl = B.tl
 | [],[],_=>⟨rfl,fun i B h=>by simp at h⟩
 | r :: rs,C :: l,h=>by
  simp only [heapIn,Bool.and_eq_true] at h
  obtain ⟨h1,h2⟩:=h
  obtain ⟨k1,k2⟩:=heapIn_ok h2
  refine ⟨by simp [k1],fun i B hB=>?_⟩
  cases i with
  | zero =>
   simp only [List.getElem?_cons_zero,Option.some.injEq] at hB
   subst hB
   split at h1
   ·rename_i A hA
    simp only [Bool.and_eq_true,Nat.beq_eq] at h1
    exact ⟨A,blockAt_some.1 hA,h1.1,beqL_ok beq0_ok h1.2.2,tlSame_ok h1.2.1⟩
   ·cases h1
  | succ i=>exact k2 i B (by simpa using hB)
 | [],_ :: _,h=>by simp [heapIn] at h
 | _ :: _,[],h=>by simp [heapIn] at h
theorem chkNew_ok {h : List (Option ABlk)} : ∀ {sel : List Nat} {l : List ABlk},chkNew h sel l = true → sel.length = l.length ∧ ∀ (i : Nat) (B : ABlk),l[i]? = some B → ∃ b,sel[i]? = some b ∧ h[b]? = some (some B)
 | [],[],_=>⟨rfl,fun i B h=>by simp at h⟩
 | r :: rs,C :: l,hh=>by
  simp only [chkNew,Bool.and_eq_true] at hh
  obtain ⟨h1,h2⟩:=hh
  obtain ⟨k1,k2⟩:=chkNew_ok h2
  refine ⟨by simp [k1],fun i B hB=>?_⟩
  cases i with
  | zero =>
   simp only [List.getElem?_cons_zero,Option.some.injEq] at hB
   subst hB
   split at h1
   ·rename_i A hA
    rw [beqB_ok h1] at hA
    refine ⟨r,by simp,?_⟩
    rw [nthD_eq] at hA
    cases hx : h[r]? with
    | none=>rw [hx] at hA; cases hA
    | some o=>rw [hx] at hA; simp only [Option.getD_some] at hA; rw [hA]
   ·cases h1
  | succ i=>simpa using k2 i B (by simpa using hB)
 | [],_ :: _,h=>by simp [chkNew] at h
 | _ :: _,[],h=>by simp [chkNew] at h
theorem posOf_ok {b : Nat} : ∀ {l : List Nat},b ∈ l → l[posOf b l]? = some b
 | a :: l,h=>by
  simp only [posOf]
  split
  ·rename_i e; rw [Nat.beq_eq] at e; simp [e]
  ·rename_i e
   rw [Nat.beq_eq] at e
   have : b ∈ l:=by rcases List.mem_cons.1 h with rfl | h; exact absurd rfl e; exact h
   simpa using posOf_ok this
theorem nodupB_ok : ∀ {l : List Nat},nodupB l = true → ∀ (i j b : Nat),l[i]? = some b → l[j]? = some b → i = j
 | [],_,i,j,b,h,_=>by simp at h
 | a :: l,h,i,j,b,hi,hj=>by
  simp only [nodupB,Bool.and_eq_true,Bool.not_eq_true',List.contains_eq_mem,decide_eq_false_iff_not] at h
  cases i with
  | zero=>cases j with
   | zero=>rfl
   | succ j =>
    simp only [List.getElem?_cons_zero,Option.some.injEq] at hi
    subst hi
    exact absurd (List.mem_of_getElem? (by simpa using hj)) h.1
  | succ i=>cases j with
   | zero =>
    simp only [List.getElem?_cons_zero,Option.some.injEq] at hj
    subst hj
    exact absurd (List.mem_of_getElem? (by simpa using hi)) h.1
   | succ j=>rw [nodupB_ok h.2 i j b (by simpa using hi) (by simpa using hj)]
def Fct.after (F : Fct) (ρ : Nat → Nat) (s : St) : St:={ s with heap:=s.heap ++ F.new.map (renB ρ) }
theorem Fct.res_eq (F : Fct) (ρ : Nat → Nat) (s : St) : ∃ q,F.res ρ s = (ren2 ρ F.v,F.after ρ s,q) ∧ (q = true → F.after ρ s = s):=by
 unfold Fct.res Fct.after
 cases F.new with
 | nil=>exact ⟨true,by simp,fun _=>by simp⟩
 | cons a l=>exact ⟨false,rfl,fun h=>by cases h⟩
theorem use_sound {f : FuncId} {F : Fct} (hF : F.Holds P f) {args : List AV} {s : St} {v : AV} {s' : St} {q : Bool} (h : F.use args s = some (v,s',q)) :
  (∃ fn body,P.funcs[f]? = some fn ∧ fn.body = some body) ∧ (q = true → s' = s) ∧
  ∀ B π lm w (vs : Array Value) N ro,WR B π lm s w → B ≤ w.heap.size → LR π lm args vs.toList → CallsIn (Fr ro) N P f vs w (CallPost B π lm s w v s'):=by
 obtain ⟨hfn,hgood,s1,hnew,hrun⟩:=hF
 refine ⟨hfn,?_⟩
 unfold Fct.use at h
 split at h
 case isFalse=>cases h
 rename_i hc
 simp only [Bool.and_eq_true] at hc
 obtain ⟨hargs,hheap⟩:=hc
 have hargs:=beqL_ok beq1_ok hargs
 generalize hrs : args.flatMap blocks1 = rs at *
 generalize hρ : rho rs F.old.length s.heap.length F.sel = ρ at *
 obtain ⟨q',hres,hq⟩:=F.res_eq ρ s
 rw [hres] at h
 simp only [Option.some.injEq,Prod.mk.injEq] at h
 obtain ⟨rfl,rfl,rfl⟩:=h
 refine ⟨hq,fun B π lm w vs N ro hw hB hl=>?_⟩
 simp only [Fct.good,Bool.and_eq_true,List.all_eq_true,Nat.ble_eq] at hgood
 obtain ⟨g1,g2,g3,g4,g5,g6⟩:=hgood
 obtain ⟨k1,k2⟩:=heapIn_ok hheap
 obtain ⟨c1,c2⟩:=chkNew_ok hnew
 have ρlow : ∀ b,b < F.old.length → ρ b = nthD 0 rs b:=fun b hb=>by rw [← hρ]; unfold rho; rw [if_pos (by simpa using hb)]
 have ρhigh : ∀ b,¬ b < F.old.length → ρ b = s.heap.length + posOf b F.sel:=fun b hb=>by rw [← hρ]; unfold rho; rw [if_neg (by simpa using hb)]
 let π0 : Inj:=fun b=>if b < F.old.length then π (ρ b) else none
 have hw0 : WR w.heap.size π0 [] F.st w:={
  dom:=fun i x hx=>by
   simp only [π0] at hx
   split at hx
   ·simpa [Fct.st] using ‹_›
   ·cases hx
  blk:=fun i A hA=>by
   simp only [Fct.st,List.getElem?_map,Option.map_eq_some_iff,Option.some.injEq] at hA
   obtain ⟨A',hA,rfl⟩:=hA
   have hi : i < F.old.length:=(List.getElem?_eq_some_iff.1 hA).1
   obtain ⟨C,e1,e2,e3,e4⟩:=k2 i A' hA
   obtain ⟨b,n,c,fz,m1,m2,m3,_,m5⟩:=hw.blk _ _ e1
   have hg:=g1 A' (List.mem_of_getElem? hA)
   refine ⟨b,n,c,fz,by simp only [π0]; rw [if_pos hi,ρlow i hi]; exact m1,m2,m3,(fun hro=>by rw [hg.1] at hro; cases hro),?_⟩
   rw [e3] at m5
   exact ⟨⟨m5.1.1,fun j a b=>lone_rel (hg.2 _ (List.getElem_mem a)) (m5.1.2 j a b) _ _⟩,fun k d hk=>m5.2 k d (by rw [e4]; exact hk)⟩
  inj:=fun i j A A' b n m h1 _ h3=>by
   simp only [Fct.st,List.getElem?_map,Option.map_eq_some_iff,Option.some.injEq] at h1
   obtain ⟨A'',hA,rfl⟩:=h1
   rw [(g1 _ (List.mem_of_getElem? hA)).1] at h3; cases h3
  lsz:=rfl
  linj:=fun l l' L h=>by simp at h
  loop:=fun l r h=>by simp [Fct.st] at h }
 have hl0 : LR π0 [] F.args vs.toList:=by
  rw [← hargs] at hl
  refine ⟨by simpa using hl.1,fun i a b=>?_⟩
  have:=hl.2 i (by simpa using a) b
  rw [List.getElem_map] at this
  refine ren1_back (p:=(Nat.blt · F.old.length)) (fun b y hb hy=>?_) (g2 _ (List.getElem_mem a)) this
  simp only [Nat.blt_eq] at hb
  simp only [π0]; rw [if_pos hb]; exact hy
 have all : CallsIn (Fr none) N P f vs w (CallPost B π lm s w (ren2 ρ F.v) (F.after ρ s)):=by
  refine (hrun w vs N π0 hw0 hl0).mono ?_
  rintro e w' ⟨c,π',lm',rfl,m1,m2,m3⟩
  have keep : ∀ (r : Nat),r < w.heap.size → w'.heap[r]? = w.heap[r]?:=fun r hr=>m3.keep r hr (fun i A n h1 h3=>by
   simp only [Fct.st,List.getElem?_map,Option.map_eq_some_iff,Option.some.injEq] at h1
   obtain ⟨A'',hA,rfl⟩:=h1
   rw [(g1 _ (List.mem_of_getElem? hA)).1] at h3; cases h3) (by simp)
  let π2 : Inj:=fun i=>if i < s.heap.length then π i else (F.sel[i - s.heap.length]?).bind π'
  have hle : π.le π2:=fun i x hx=>by simp only [π2]; rw [if_pos (hw.dom i x hx)]; exact hx
  have hp : ∀ b y,inS F.old.length F.sel b = true → π' b = some y → π2 (ρ b) = some y:=fun b y hb hy=>by
   by_cases hlt : b < F.old.length
   ·have h0 : π0 b = some y:=by
     rw [← hy]; exact (m3.old b (by simpa [Fct.st] using hlt)).symm
    simp only [π0] at h0
    rw [if_pos hlt] at h0
    exact hle _ _ h0
   ·simp only [inS,Bool.or_eq_true,Nat.blt_eq,List.contains_eq_mem,decide_eq_true_eq] at hb
    have hm : b ∈ F.sel:=hb.resolve_left hlt
    rw [ρhigh b hlt]
    simp only [π2]
    rw [if_neg (by omega),show s.heap.length + posOf b F.sel - s.heap.length = posOf b F.sel by omega,posOf_ok hm]
    exact hy
  have newBlk : ∀ i A,s.heap.length ≤ i → (F.after ρ s).heap[i]? = some (some A) → ∃ b C,F.sel[i - s.heap.length]? = some b ∧ s1.heap[b]? = some (some C) ∧ C.ro = false ∧ A = { C with cells:=C.cells.map (ren0 ρ) } ∧
    C.cells.all (all0 (inS F.old.length F.sel)) = true:=fun i A hi hA=>by
   simp only [Fct.after] at hA
   rw [List.getElem?_append_right hi,List.getElem?_map,Option.map_eq_some_iff] at hA
   obtain ⟨C,hC,hA⟩:=hA
   simp only [renB,Option.some.injEq] at hA
   obtain ⟨b,d1,d2⟩:=c2 _ C hC
   have hg:=g4 C (List.mem_of_getElem? hC)
   simp only [Bool.not_eq_true'] at hg
   exact ⟨b,C,d1,d2,hg.1,hA.symm,by rw [List.all_eq_true]; exact hg.2⟩
  have oldBlk : ∀ i A,i < s.heap.length → (F.after ρ s).heap[i]? = some (some A) → s.heap[i]? = some (some A):=fun i A hi hA=>by
   simp only [Fct.after] at hA
   rw [List.getElem?_append_left hi] at hA; exact hA
  have highB : ∀ i A b n,s.heap.length ≤ i → (F.after ρ s).heap[i]? = some (some A) → π2 i = some (b,n) → w.heap.size ≤ b:=fun i A b n hi hA hpi=>by
   obtain ⟨b1,C,d1,d2,d3,_⟩:=newBlk i A hi hA
   simp only [π2] at hpi
   rw [if_neg (by omega),d1] at hpi
   obtain ⟨b2,n2,c',fz,f1,f2,f3,f4,f5⟩:=m2.blk b1 C d2
   simp only [Option.bind_some] at hpi
   rw [f1] at hpi
   simp only [Option.some.injEq,Prod.mk.injEq] at hpi
   rw [← hpi.1]; exact (f4 d3).2
  have lowB : ∀ i A b n,i < s.heap.length → s.heap[i]? = some (some A) → π2 i = some (b,n) → b < w.heap.size:=fun i A b n hi hA hpi=>by
   simp only [π2] at hpi
   rw [if_pos hi] at hpi
   obtain ⟨c',fz,f2,_⟩:=hw.at hA hpi
   exact lt_of_some f2
  refine ⟨c,π2,lm,rfl,ren2_rel hp g3 m1,?_,?_⟩
  ·exact {
    dom:=fun i x hx=>by
     simp only [Fct.after,List.length_append,List.length_map]
     simp only [π2] at hx
     split at hx
     ·omega
     ·cases hs : F.sel[i - s.heap.length]? with
      | none=>rw [hs] at hx; cases hx
      | some b =>
       have:=(List.getElem?_eq_some_iff.1 hs).1
       omega
    blk:=fun i A hA=>by
     by_cases hi : i < s.heap.length
     ·obtain ⟨b,n,c',fz,f1,f2,f3,f4,f5⟩:=hw.blk i A (oldBlk i A hi hA)
      exact ⟨b,n,c',fz,hle _ _ f1,by rw [keep b (lt_of_some f2)]; exact f2,f3,f4,f5.1.mono hle (fun _ _ x=>x),f5.2⟩
     ·obtain ⟨b1,C,d1,d2,d3,rfl,d5⟩:=newBlk i A (by omega) hA
      obtain ⟨b2,n2,c',fz,f1,f2,f3,f4,f5⟩:=m2.blk b1 C d2
      refine ⟨b2,n2,c',fz,by simp only [π2]; rw [if_neg hi,d1]; exact f1,f2,f3,fun _=>⟨(f4 d3).1,Nat.le_trans hB (f4 d3).2⟩,?_⟩
      simp only [List.length_map]
      refine ⟨⟨by simpa using f5.1.1,fun j a b=>?_⟩,f5.2⟩
      rw [List.getElem_map]
      simp only [List.all_eq_true] at d5
      exact ren0_rel hp (d5 _ (List.getElem_mem _)) (f5.1.2 j (by simpa using a) b)
    inj:=fun i j A A' b n m h1 h2 h3 h4 h5=>by
     by_cases hi : i < s.heap.length <;> by_cases hj : j < s.heap.length
     ·have e1:=oldBlk i A hi h1
      have e2:=oldBlk j A' hj h2
      simp only [π2] at h4 h5
      rw [if_pos hi] at h4; rw [if_pos hj] at h5
      exact hw.inj i j A A' b n m e1 e2 h3 h4 h5
     ·have:=lowB i A b n hi (oldBlk i A hi h1) h4
      have:=highB j A' b m (by omega) h2 h5
      omega
     ·have:=lowB j A' b m hj (oldBlk j A' hj h2) h5
      have:=highB i A b n (by omega) h1 h4
      omega
     ·obtain ⟨b1,C,d1,d2,d3,_⟩:=newBlk i A (by omega) h1
      obtain ⟨b2,C2,x1,x2,x3,_⟩:=newBlk j A' (by omega) h2
      simp only [π2] at h4 h5
      rw [if_neg hi,d1] at h4; rw [if_neg hj,x1] at h5
      obtain rfl:=m2.inj b1 b2 C C2 b n m d2 x2 d3 h4 h5
      have:=nodupB_ok g5 _ _ _ d1 x1
      omega
    lsz:=hw.lsz
    linj:=hw.linj
    loop:=fun l r hr=>by
     obtain ⟨L,fn,D,ts,st,pd,f1,f2,f3,f4⟩:=hw.loop l r hr
     exact ⟨L,fn,D,ts,st,pd,f1,by rw [keep L (lt_of_some f2)]; exact f2,f3,f4.mono hle (fun _ _ x=>x)⟩ }
  ·exact {
    os:=m3.os,tape:=m3.tape,output:=m3.output,size:=m3.size
    keep:=fun r hr _ _=>keep r hr
    low:=fun i A b n hA _ hpi=>by
     obtain ⟨c',fz,f2,_⟩:=hw.at hA hpi
     exact keep b (lt_of_some f2)
    same:=fun i hi _=>by simp only [Fct.after]; rw [List.getElem?_append_left hi]
    lkeep:=fun _ L hL=>by
     obtain ⟨l,hl,rfl⟩:=List.getElem_of_mem hL
     obtain ⟨r,hr⟩ : ∃ r,s.loops[l]? = some r:=⟨_,List.getElem?_eq_getElem (hw.lsz ▸ hl)⟩
     obtain ⟨L',fn,D',ts,st,pd,f1,f2,f3⟩:=hw.loop l r hr
     rw [List.getElem?_eq_getElem hl] at f1
     obtain rfl:=Option.some.inj f1
     exact keep _ (lt_of_some f2)
    lo_le:=Nat.le_refl _
    nd_le:=Nat.le_refl _
    le:=hle
    old:=fun i hi=>by simp only [π2]; rw [if_pos hi]
    len:=by simp [Fct.after]
    liv:=fun i A' hi hA'=>⟨A',oldBlk i A' hi hA',rfl⟩
    new:=fun i b n hi hpi=>by
     left
     simp only [π2] at hpi
     rw [if_neg (by omega)] at hpi
     cases hs : F.sel[i - s.heap.length]? with
     | none=>rw [hs] at hpi; cases hpi
     | some b1 =>
      rw [hs] at hpi
      have hb1:=g6 b1 (List.mem_of_getElem? hs)
      rcases m3.new b1 b n (by simpa [Fct.st] using hb1) hpi with h | ⟨j,A,m,h1,h3,_⟩
      ·exact h
      ·simp only [Fct.st,List.getElem?_map,Option.map_eq_some_iff,Option.some.injEq] at h1
       obtain ⟨A'',hA,rfl⟩:=h1
       rw [(g1 _ (List.mem_of_getElem? hA)).1] at h3; cases h3
    lmx:=⟨[],by simp,by simp⟩ }
 cases ro with
 | none=>exact all
 | some l=>exact CallsIn.inRound l all
theorem useFirst_sound {f : FuncId} {args : List AV} {s : St} {v : AV} {s' : St} {q : Bool} : ∀ {l : List Fct},(∀ F ∈ l,F.Holds P f) → useFirst args s l = some (v,s',q) → ∃ F : Fct,F.Holds P f ∧ F.use args s = some (v,s',q)
 | [],_,h=>by cases h
 | F :: l,hl,h=>by
  simp only [useFirst] at h
  split at h
  ·rename_i r hr
   simp only [Option.some.injEq] at h
   exact ⟨F,hl F (by simp),by rw [hr,h]⟩
  ·exact useFirst_sound (fun F hF=>hl F (by simp [hF])) h
def FactsOk (P : Program) : List (FuncId × List Fct) → Prop
 | []=>True
 | (f,l) :: r=>(∀ F ∈ l,F.Holds P f) ∧ FactsOk P r
theorem factsOf_ok {f : FuncId} : ∀ {L : List (FuncId × List Fct)},FactsOk P L → ∀ F ∈ factsOf f L,F.Holds P f
 | [],_,F,h=>by simp [factsOf] at h
 | (g,l) :: r,hL,F,h=>by
  simp only [factsOf] at h
  split at h
  ·rename_i e; rw [Nat.beq_eq] at e; subst e; exact hL.1 F h
  ·exact factsOf_ok hL.2 F h
theorem orcOf_ok {L : List (FuncId × List Fct)} (h : FactsOk P L) : OrcOk P (orcOf L):=by
 intro f args s v s' q hv
 obtain ⟨F,h1,h2⟩:=useFirst_sound (factsOf_ok h) hv
 exact use_sound h1 h2
theorem post_low {H : Type} {enc : TypeId × Value → H} {f : Func} {s : ChangeSpec} {apart fresh handsOn again : Bool} {W W' : World} {args : Array Value} {v : Value} {ds gs : List (DataW H)} {before pa pv : List MemPlace}
  (hW : DataW.Whole enc P f.params.toList s.vars apart W args.toList ds gs before)
  (hres : ∀ (b : Nat) (sp : Nat → Bool) (hd : Bool),DataW.TrodAll enc P W' b sp hd f.resultTypes.toList (v.resultList f.resultTypes.size) (s.fn H (ds ++ gs)).results [])
  (hargs : ∀ sp : Nat → Bool,(∀ p ∈ before,sp p.block = true) → DataW.TrodAll enc P W' 0 sp true f.params.toList args.toList (s.fn H (ds ++ gs)).args pa)
  (hvars : ∀ sp : Nat → Bool,(∀ p ∈ before,sp p.block = true) → DataW.TrodVars enc P W' sp s.vars (s.fn H (ds ++ gs)).vars pv)
  (hps : before = pa ++ pv) (hg : Below W.heap.size W W')
  (hok : ∀ (j : Nat) (t : TypeId) (r : Value),f.resultTypes[j]? = some t → (v.resultList f.resultTypes.size)[j]? = some r → Value.okWide P W' .any 0 t r) :
  s.post enc P f apart fresh handsOn again W args v W':=by
 have hold : ∀ p ∈ before,(fun b=>decide (b < W.heap.size)) p.block = true:=fun p hp=>by simpa using hW.lt p hp
 have hlt:=hW.lt
 refine ⟨ds,gs,before,[],pa,pv,hW,hres _ _ _,hargs _ hold,hvars _ hold,World.keptBut_mono (fun p hp=>⟨hp,?_⟩) (hg.frame (· ∈ before)),fun _=>?_⟩
 ·rw [hps,List.mem_append] at hp
  exact Or.inr hp
 ·obtain ⟨_,_,_,_,_,hz,hn⟩:=hW
  refine ⟨hok,_,_,([] ++ pa) ++ pv,⟨[] ++ pa,pv,trodAll_append (hargs _ (fun _ _=>rfl)) (hres _ _ _),hvars _ (fun _ _=>rfl),rfl,?_,?_⟩,?_⟩
  ·intro b off hp
   have hp' : MemPlace.cell b off ∈ before:=by rw [hps]; simpa using hp
   rw [hg.frozen (p:=_) (hlt _ hp')]
   exact hz b off hp'
  ·intro ha
   have:=hn ha
   rw [hps] at this
   simpa using this
  ·intro p hp _
   rw [hps]
   simpa using hp
end Go.Ev
/- What a proof uses: calls with letters, contracts as facts. -/
namespace Go.Ev
open Go.RowKit (Below)
set_option linter.unusedSectionVars false
variable [Rho]
def AV.vl1 : AV → Value
 | .agg l=>.agg (l.map AV.vl0).toArray
 | v=>v.vl0
def AV.vl : AV → Value
 | .tup l=>.tuple (l.map AV.vl1).toArray
 | v=>v.vl1
def fineL (f : AV → Prop) : List AV → Prop
 | []=>True
 | v :: l=>f v ∧ fineL f l
def AV.fine1 : AV → Prop
 | .agg l=>fineL AV.fine0 l
 | v=>v.fine0
def AV.fine : AV → Prop
 | .tup l=>fineL AV.fine1 l
 | v=>v.fine1
theorem fineL_get {f : AV → Prop} : ∀ {l : List AV},fineL f l → ∀ (i : Nat) (p : i < l.length),f l[i]
 | [],_,i,p=>by simp at p
 | v :: l,h,i,p=>by
  cases i with
  | zero=>exact h.1
  | succ i=>exact fineL_get h.2 i (by simpa using p)
variable {P : Program} {orc : Orc} {π : Inj} {lm : List Nat}
theorem vl1_eq {v : AV} {c : Value} (h : v.flat1 = true) (r : VR π lm v c) : c = v.vl1:=by
 cases r with
 | agg s hl =>
  rename_i l a
  simp only [AV.flat1,List.all_eq_true] at h
  simp only [AV.vl1]
  congr 1
  apply Array.ext'
  simp only []
  apply List.ext_getElem
  ·simpa using s.symm
  ·intro i p q
   rw [List.getElem_map]
   exact vl0_eq (h _ (List.getElem_mem _)) (hl i (by simpa using q) p)
 | _=>first | rfl | (simp only [AV.flat1] at h; exact vl0_eq h (by constructor <;> assumption)) | (simp [AV.flat1,AV.lone,AV.sc] at h)
theorem vl1_rel {v : AV} (h : v.flat1 = true) (hf : v.fine1) : VR π lm v v.vl1:=by
 cases v with
 | agg l =>
  simp only [AV.flat1,List.all_eq_true] at h
  refine .agg (by simp) (fun i p q=>?_)
  simp only [List.getElem_map]
  exact vl0_rel (h _ (List.getElem_mem _)) (fineL_get hf i p)
 | _=>exact vl0_rel h hf
theorem vl_eq {v : AV} {c : Value} (h : v.flat = true) (r : VR π lm v c) : c = v.vl:=by
 cases r with
 | tup s hl =>
  rename_i l a
  simp only [AV.flat,List.all_eq_true] at h
  simp only [AV.vl]
  congr 1
  apply Array.ext'
  simp only []
  apply List.ext_getElem
  ·simpa using s.symm
  ·intro i p q
   rw [List.getElem_map]
   exact vl1_eq (h _ (List.getElem_mem _)) (hl i (by simpa using q) p)
 | agg s hl=>rename_i l a; exact vl1_eq (v:=.agg l) h (.agg s hl)
 | _=>first | rfl | (simp [AV.flat,AV.flat1,AV.lone,AV.sc] at h)
theorem vl_rel {v : AV} (h : v.flat = true) (hf : v.fine) : VR π lm v v.vl:=by
 cases v with
 | tup l =>
  simp only [AV.flat,List.all_eq_true] at h
  refine .tup (by simp) (fun i p q=>?_)
  simp only [List.getElem_map]
  exact vl1_rel (h _ (List.getElem_mem _)) (fineL_get hf i p)
 | _=>exact vl1_rel h hf
theorem vlL_eq {l : List AV} {vs : Array Value} (h : l.all AV.flat1 = true) (r : LR π lm l vs.toList) : vs = (l.map AV.vl1).toArray:=by
 simp only [List.all_eq_true] at h
 apply Array.ext'
 simp only []
 apply List.ext_getElem
 ·simpa using r.1.symm
 ·intro i p q
  rw [List.getElem_map]
  exact vl1_eq (h _ (List.getElem_mem _)) (r.2 i (by simpa using q) p)
def hasBody (P : Program) (f : FuncId) : Bool:=match P.funcs[f]? with | some fn=>fn.body.isSome | none=>false
theorem hasBody_ok {f : FuncId} (h : hasBody P f = true) : ∃ fn body,P.funcs[f]? = some fn ∧ fn.body = some body:=by
 unfold hasBody at h
 split at h
 ·rename_i fn hf
  obtain ⟨b,hb⟩:=Option.isSome_iff_exists.1 h
  exact ⟨fn,b,hf,hb⟩
 ·cases h
theorem fct_of {f : FuncId} {F : Fct} (hs : F.sel = []) (hn : F.new = []) (hg : F.good = true) (hv : F.v.flat = true) (hf : F.v.fine) (hb : hasBody P f = true)
  (hc : ∀ (π : Inj) (w : World) (vs : Array Value),WR w.heap.size π [] F.st w → LR π [] F.args vs.toList → Calls P f vs w fun e w'=>e = .returned F.v.vl ∧ Below w.heap.size w w') : F.Holds P f:=by
 refine ⟨hasBody_ok hb,hg,F.st,by rw [hs,hn]; rfl,fun w vs N π hw hl=>?_⟩
 have h1 : CallsIn Fence.wide N P f vs w _:=callsIn_wide.2 (hc π w vs hw hl)
 refine CallsIn.mono (F:=Fr none) h1 ?_
 rintro e w' ⟨rfl,hbel⟩
 have hk : ∀ (r : Nat),r < w.heap.size → w'.heap[r]? = w.heap[r]?:=fun r hr=>hbel.block r hr
 refine ⟨F.v.vl,π,[],rfl,vl_rel hv hf,hw.kept hk,?_⟩
 exact {
  os:=hbel.os,tape:=hbel.tape,output:=hbel.output,size:=hbel.size
  keep:=fun r hr _ _=>hk r hr
  low:=fun i A b n hA _ hp=>by
   obtain ⟨c,fz,f2,_⟩:=hw.at hA hp
   exact hk b (lt_of_some f2)
  same:=fun _ _ _=>rfl
  lkeep:=fun _ L hL=>by simp at hL
  lo_le:=Nat.le_refl _
  nd_le:=Nat.le_refl _
  le:=Inj.le_refl _
  old:=fun _ _=>rfl
  len:=Nat.le_refl _
  liv:=fun i A' _ h=>⟨A',h,rfl⟩
  new:=fun i b n hi h=>absurd (hw.dom _ _ h) (by omega)
  lmx:=⟨[],by simp,by simp⟩ }
theorem fct_flat {f : FuncId} {args : List AV} {v : AV} (hg : (Fct.mk args [] v [] []).good = true) (ha : args.all AV.flat1 = true) (hv : v.flat = true) (hf : v.fine) (hb : hasBody P f = true)
  (hc : ∀ w : World,Calls P f (args.map AV.vl1).toArray w fun e w'=>e = .returned v.vl ∧ Below w.heap.size w w') : (Fct.mk args [] v [] []).Holds P f:=
 fct_of rfl rfl hg hv hf hb (fun π w vs _ hl=>by rw [vlL_eq ha hl]; exact hc w)
end Go.Ev
