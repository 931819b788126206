/- subtract: a multiple of a row taken off another, in its place. -/
import Derived.Test.YteeofijcndgbfaaEvTk
import Derived.Test.YteeofijcndgbfaaSc
import Derived.Test.YteeofijcndgbfaaNj
namespace Go.Proofs.Yteeofijcndgbfaa
open Go.RowKit Go.Fl
set_option maxRecDepth 100000
set_option linter.unusedVariables false
set_option linter.unusedSimpArgs false
set_option linter.unusedSectionVars false
structure Bx (S : Nat → Prop) (w w' : World) : Prop where
 os : w'.os = w.os
 tape : w'.tape = w.tape
 output : w'.output = w.output
 size : w.heap.size ≤ w'.heap.size
 block : ∀ k,k < w.heap.size → ¬ S k → w'.heap[k]? = w.heap[k]?
theorem Bx.refl (S : Nat → Prop) (w : World) : Bx S w w:=⟨rfl,rfl,rfl,Nat.le_refl _,fun _ _ _=>rfl⟩
theorem Bx.trans {S : Nat → Prop} {a b c : World} (h : Bx S a b) (k : Bx S b c) : Bx S a c:=
 ⟨k.os.trans h.os,k.tape.trans h.tape,k.output.trans h.output,Nat.le_trans h.size k.size,fun i hi hs=>(k.block i (Nat.lt_of_lt_of_le hi h.size) hs).trans (h.block i hi hs)⟩
theorem Bx.of {S : Nat → Prop} {a b : World} (h : Below a.heap.size a b) : Bx S a b:=⟨h.os,h.tape,h.output,h.size,fun k hk _=>h.block k hk⟩
theorem Bx.mono {S T : Nat → Prop} {a b : World} (h : Bx S a b) (hs : ∀ k,S k → T k) : Bx T a b:=⟨h.os,h.tape,h.output,h.size,fun k hk ht=>h.block k hk fun e=>ht (hs k e)⟩
theorem Bx.drew {S : Nat → Prop} {a b : World} (h : Bx S a b) : Bx S a b.drew:=⟨h.os,h.tape,h.output,h.size,h.block⟩
theorem Bx.set {S : Nat → Prop} {w : World} {r t : Nat} (h : S r) (x : Value) : Bx S w (w.setCell ⟨r,t,none⟩ x):=
 ⟨rfl,rfl,rfl,by simp [World.setCell],fun k _ hs=>Below.heap_setCell _ _ _ _ fun e=>hs (by rw [show k = r from e]; exact h)⟩
theorem Bx.below {S : Nat → Prop} {a b : World} (h : Bx S a b) {B : Nat} (hB : B ≤ a.heap.size) (hs : ∀ k,S k → B ≤ k) : Below B a b:=
 ⟨h.os,h.tape,h.output,h.size,fun k hk=>h.block k (by omega) fun e=>by have:=hs k e; omega⟩
theorem Bx.cell {S : Nat → Prop} {a b : World} (h : Bx S a b) {p : Addr} (hp : p.block < a.heap.size) (hs : ¬ S p.block) : b.cell? p = a.cell? p:=World.cell?_of_block (w:=a) (h.block p.block hp hs)
theorem FldAt.bx {F : Gf} {b cap : Nat} {W w : World} (h : FldAt F b cap W) {S : Nat → Prop} (hb : Bx S W w) (hs : ¬ S b) : FldAt F b cap w:=by
 have hl:=h.lt
 obtain ⟨c,e,fz,h1,h2,h3⟩:=h.blk
 exact ⟨h.mem,h.le,c,e,fz,(hb.block b hl hs).trans h1,h2,h3⟩
theorem NN.bx {L : List Nat} {w w' : World} {v : Value} (h : NN L w v) {S : Nat → Prop} (hb : Bx S w w') (hs : ∀ r o n c,v = .slice (some ⟨r,o,none⟩) n c → ¬ S r) : NN L w' v:=by
 rcases h with h | ⟨b,off,cap,h1,h2,h3,h4⟩
 ·exact .inl h
 ·exact .inr ⟨b,off,cap,h1,h2,Nat.lt_of_lt_of_le h3 hb.size,fun t ht=>(hb.cell h3 (hs _ _ _ _ h1)).trans (h4 t ht)⟩
structure Rw (A : List Nat) (r : Nat) (w : World) : Prop where
 lt : r < w.heap.size
 cell : ∀ t,t < A.length → w.cell? ⟨r,t,none⟩ = some (.int .i64 (A.getD t 0 : Nat))
 fz : ∀ t,w.frozen? ⟨r,t,none⟩ = false
theorem Rw.cell' {A : List Nat} {r : Nat} {w : World} (h : Rw A r w) {t : Nat} (ht : t < A.length) : w.cell? ⟨r,t,none⟩ = some (.int .i64 (A.getD t 0 : Nat)):=h.cell t ht
theorem Rw.bx {A : List Nat} {r : Nat} {w w' : World} (h : Rw A r w) {S : Nat → Prop} (hb : Bx S w w') (hs : ¬ S r) : Rw A r w':=
 ⟨Nat.lt_of_lt_of_le h.lt hb.size,fun t ht=>(hb.cell h.lt hs).trans (h.cell t ht),fun t=>(World.frozen?_of_block (w:=w) (hb.block r h.lt hs)).trans (h.fz t)⟩
theorem Rw.below {A : List Nat} {r : Nat} {w w' : World} (h : Rw A r w) (hb : Below w.heap.size w w') : Rw A r w':=h.bx (S:=fun _=>False) (Bx.of hb) id
theorem Rw.drew {A : List Nat} {r : Nat} {w : World} (h : Rw A r w) : Rw A r w.drew:=⟨h.lt,h.cell,h.fz⟩
theorem Rw.set {A : List Nat} {r : Nat} {w : World} (h : Rw A r w) (t x : Nat) (hl : True) : Rw (A.set t x) r (w.setCell ⟨r,t,none⟩ (.int .i64 x)):=
 ⟨by simpa [World.setCell] using h.lt,fun s hs=>by
  rw [List.length_set] at hs
  by_cases e : s = t
  ·subst e
   rw [World.cell?_setCell_same _ _ _ (h.cell s hs)]
   simp [List.getD_eq_getElem?_getD,hs]
  ·rw [World.cell?_setCell_other _ _ _ _ (fun e'=>e (by injection e' with _ e' _; exact e'.symm)),h.cell s hs]
   simp [List.getD_eq_getElem?_getD,List.getElem?_set,Ne.symm e],fun s=>by rw [World.frozen?_setCell]; exact h.fz s⟩
abbrev MV (F : Gf) (b cap : Nat) (n : Nat) (mv : Value) : Value:=.agg #[.int .i64 F.p,.int .i64 F.e,FM F b cap,.int .i64 (n : Nat),mv]
abbrev MB (B : Nat) (F : Gf) (b cap : Nat) (n : Nat) (mv : Value) (w : World) : Prop:=w.cell? ⟨B,0,none⟩ = some (.int .i64 F.p) ∧ w.cell? ⟨B,1,none⟩ = some (.int .i64 F.e) ∧ w.cell? ⟨B,2,none⟩ = some (FM F b cap) ∧ w.cell? ⟨B,3,none⟩ = some (.int .i64 (n : Nat)) ∧ w.cell? ⟨B,4,none⟩ = some mv
theorem MB.bx {B b cap n : Nat} {F : Gf} {mv : Value} {w w' : World} (h : MB B F b cap n mv w) {S : Nat → Prop} (hb : Bx S w w') (hB : B < w.heap.size) (hs : ¬ S B) : MB B F b cap n mv w':=
 ⟨(hb.cell hB hs).trans h.1,(hb.cell hB hs).trans h.2.1,(hb.cell hB hs).trans h.2.2.1,(hb.cell hB hs).trans h.2.2.2.1,(hb.cell hB hs).trans h.2.2.2.2⟩
abbrev SD (F : Gf) (b cap n : Nat) (mv : Value) (B r1 r2 o yy : Nat) (wr : World) (w : World) : Prop:=
 MB B F b cap n mv w ∧ Hid (FldAt F b cap w) ∧ Hid (Bx (fun k=>k = r1) wr w) ∧ w.cell? ⟨r2,o,none⟩ = some (.int .i64 (yy : Nat)) ∧ Hid (B < w.heap.size ∧ r2 < w.heap.size ∧ True)
theorem SD.bx {F : Gf} {b cap n : Nat} {mv : Value} {B r1 r2 o yy : Nat} {wr w w' : World} (h : SD F b cap n mv B r1 r2 o yy wr w) (hb : Bx (fun k=>k = r1) w w') (hn : B ≠ r1 ∧ r2 ≠ r1 ∧ b ≠ r1) : SD F b cap n mv B r1 r2 o yy wr w':=
 ⟨MB.bx h.1 hb h.2.2.2.2.out.1 hn.1,Lib.hid (h.2.1.out.bx hb hn.2.2),Lib.hid (h.2.2.1.out.trans hb),(hb.cell h.2.2.2.2.out.2.1 hn.2.1).trans h.2.2.2.1,Lib.hid ⟨Nat.lt_of_lt_of_le h.2.2.2.2.out.1 hb.size,Nat.lt_of_lt_of_le h.2.2.2.2.out.2.1 hb.size,trivial⟩⟩
theorem SD.keep {F : Gf} {b cap n : Nat} {mv : Value} {B r1 r2 o yy : Nat} {wr w w' : World} (h : SD F b cap n mv B r1 r2 o yy wr w) (hb : Below w.heap.size w w') : SD F b cap n mv B r1 r2 o yy wr w':=by
 have hb' : Bx (fun _=>False) w w':=Bx.of hb
 exact ⟨MB.bx h.1 hb' h.2.2.2.2.out.1 id,Lib.hid (h.2.1.out.bx hb' id),Lib.hid (h.2.2.1.out.trans (hb'.mono fun _ e=>e.elim)),(hb'.cell h.2.2.2.2.out.2.1 id).trans h.2.2.2.1,Lib.hid ⟨Nat.lt_of_lt_of_le h.2.2.2.2.out.1 hb.size,Nat.lt_of_lt_of_le h.2.2.2.2.out.2.1 hb.size,trivial⟩⟩
theorem SD.set {F : Gf} {b cap n : Nat} {mv : Value} {B r1 r2 o yy : Nat} {wr w : World} (h : SD F b cap n mv B r1 r2 o yy wr w) (hn : B ≠ r1 ∧ r2 ≠ r1 ∧ b ≠ r1) {t : Nat} (x : Value) : SD F b cap n mv B r1 r2 o yy wr (w.setCell ⟨r1,t,none⟩ x):=
 SD.bx h (Bx.set (S:=fun k=>k = r1) rfl x) hn
theorem getDx {a b : List Nat} (hl : a.length = b.length) (h : ∀ j,j < a.length → a.getD j 0 = b.getD j 0) : a = b:=by
 apply List.ext_getElem hl
 intro i h1 h2
 have:=h i h1
 rwa [List.getD_eq_getElem?_getD,List.getD_eq_getElem?_getD,List.getElem?_eq_getElem h1,List.getElem?_eq_getElem h2] at this
def subK (F : Gf) (c : Nat) (A Y : List Nat) (k : Nat) : List Nat:=(List.range A.length).map fun j=>if j < k then F.sub (A.getD j 0) (F.mul c (Y.getD j 0)) else A.getD j 0
theorem subK_len (F : Gf) (c : Nat) (A Y : List Nat) (k : Nat) : (subK F c A Y k).length = A.length:=by simp [subK]
theorem subK_get {F : Gf} {c : Nat} {A Y : List Nat} {k j : Nat} (hj : j < A.length) : (subK F c A Y k).getD j 0 = if j < k then F.sub (A.getD j 0) (F.mul c (Y.getD j 0)) else A.getD j 0:=by
 unfold subK
 rw [List.getD_eq_getElem?_getD,List.getElem?_map,List.getElem?_range hj]; rfl
theorem subK_zero (F : Gf) (c : Nat) (A Y : List Nat) : subK F c A Y 0 = A:=getDx (subK_len _ _ _ _ _) fun j hj=>by
 rw [subK_len] at hj
 rw [subK_get hj,if_neg (by omega)]
theorem subK_succ {F : Gf} {c : Nat} {A Y : List Nat} {k : Nat} (hk : k < (subK F c A Y k).length) : (subK F c A Y k).set k (F.sub ((subK F c A Y k).getD k 0) (F.mul c (Y.getD k 0))) = subK F c A Y (k + 1):=by
 rw [subK_len] at hk
 refine getDx (by rw [List.length_set,subK_len,subK_len]) fun j hj=>?_
 rw [List.length_set,subK_len] at hj
 rw [subK_get hk,if_neg (by omega),List.getD_eq_getElem?_getD,List.getElem?_set]
 by_cases e : k = j
 ·subst e
  rw [if_pos rfl,if_pos (by rw [subK_len]; exact hk),subK_get hk,if_pos (by omega)]; rfl
 ·rw [if_neg e,← List.getD_eq_getElem?_getD,subK_get hj,subK_get hj]
  by_cases h : j < k
  ·rw [if_pos h,if_pos (by omega)]
  ·rw [if_neg h,if_neg (by omega)]
theorem subK_skip {F : Gf} (hF : Ok F) {c : Nat} {A Y : List Nat} (hA : In F A) {k : Nat} (h : Y.getD k 0 = 0) : subK F c A Y (k + 1) = subK F c A Y k:=getDx (by rw [subK_len,subK_len]) fun j hj=>by
 rw [subK_len] at hj
 rw [subK_get hj,subK_get hj]
 by_cases e : j = k
 ·subst e
  rw [if_pos (by omega),if_neg (by omega),h,Ok.mul_z,hF.sub_zero (hA.get hF _)]
 ·by_cases h : j < k
  ·rw [if_pos h,if_pos (by omega)]
  ·rw [if_neg h,if_neg (by omega)]
theorem subK_in {F : Gf} (hF : Ok F) {c : Nat} {A Y : List Nat} (hA : In F A) (k : Nat) : In F (subK F c A Y k):=fun x hx=>by
 obtain ⟨j,_,rfl⟩:=List.mem_map.1 hx
 split
 ·exact hF.sub_lt _ _
 ·exact hA.get hF j
set_option maxHeartbeats 6400000 in
theorem subtract_nz {F : Gf} {b cap n : Nat} {mv : Value} {A Y : List Nat} {r1 r2 o2 c1 c2 cc : Nat} {W : World} (hA : FldAt F b cap W) (hi : In F A) (hy : In F Y) (hc : cc < F.q) (h0 : cc ≠ 0) (hm : mv.oneCell' = true) (ha : A.length = n) (hl : Y.length = n) (hn : n ≤ 1000)
  (h1 : Rw A r1 W) (h2 : NN Y W (.slice (some ⟨r2,o2,none⟩) n c2)) (hb : b ≠ r1) (hr : r2 ≠ r1) :
  Calls Try.prog 60 #[MV F b cap n mv,.slice (some ⟨r1,0,none⟩) n c1,.int .i64 (cc : Nat),.slice (some ⟨r2,o2,none⟩) n c2] W fun e w'=>e = .returned (.tuple #[]) ∧ Rw (subK F cc A Y n) r1 w' ∧ Bx (fun k=>k = r1) W w':=by
 have HFF : Hid (Ok F):=Lib.hid (ok_mem hA.mem)
 have HAA:=Lib.hid ha
 have HYL:=Lib.hid hl
 have HNY:=Lib.hid h2
 have HIA:=Lib.hid hi
 have HIY:=Lib.hid hy
 have HC:=Lib.hid hc
 have hlt:=h1.lt
 have HN12 : Hid (W.heap.size ≠ r1 ∧ r2 ≠ r1 ∧ b ≠ r1):=Lib.hid ⟨by omega,hr,hb⟩
 have HY2 : Hid (Y = [] ∨ r2 < W.heap.size):=Lib.hid (by
  rcases h2 with ⟨e,_⟩ | ⟨b',off',cap',h,g1,g2,g3⟩
  ·exact .inl e
  ·injection h with e1 e2 e3; injection e1 with e1; injection e1 with e1 _ _; rw [e1]; exact .inr g2)
 have ha0 : Below W.heap.size W (W.alloc (.cells #[.int .i64 F.p,.int .i64 F.e,FM F b cap,.int .i64 (n : Nat),mv] 79)):=(Below.refl _ _).alloc (Nat.le_refl _) _
 have HX0 : Hid (Bx (fun k=>k = r1) W (W.alloc (.cells #[.int .i64 F.p,.int .i64 F.e,FM F b cap,.int .i64 (n : Nat),mv] 79))):=Lib.hid (Bx.of ha0)
 have HF0:=Lib.hid (hA.below ha0)
 have HR0:=Lib.hid (h1.below ha0)
 have HM0 : Hid (MB W.heap.size F b cap n mv (W.alloc (.cells #[.int .i64 F.p,.int .i64 F.e,FM F b cap,.int .i64 (n : Nat),mv] 79))):=Lib.hid ⟨World.cell?_alloc_at _ _ _ _ rfl,World.cell?_alloc_at _ _ _ _ rfl,World.cell?_alloc_at _ _ _ _ rfl,World.cell?_alloc_at _ _ _ _ rfl,World.cell?_alloc_at _ _ _ _ rfl⟩
 have HS0 : Hid (W.heap.size < (W.alloc (.cells #[.int .i64 F.p,.int .i64 F.e,FM F b cap,.int .i64 (n : Nat),mv] 79)).heap.size):=Lib.hid (by simp)
 have hc0 : ((cc : Int) == 0) = false:=by simpa using h0
 clear hA hi hy hc ha hl h1 h2 ha0 hlt hb hr
 go_enter Try.func60,Try.ntmps60
 go_wp2
 go_loopw [14] (fun i wr=>∃ k : Nat,k ≤ n ∧ i = .int .i64 k ∧ Hid (Rw (subK F cc A Y k) r1 wr) ∧ Hid (Bx (fun k=>k = r1) (W.alloc (.cells #[.int .i64 F.p,.int .i64 F.e,FM F b cap,.int .i64 (n : Nat),mv] 79)) wr) ∧ Hid (FldAt F b cap wr)) (fun i _=>n - (intOf i).toNat)
 case atStart=>exact ⟨0,Nat.zero_le _,rfl,by rw [subK_zero]; exact HR0,Bx.refl _ _,HF0⟩
 case round =>
  obtain ⟨k,hk,rfl,KR,KB,KF⟩:=hrel
  by_cases hlt : k < n
  ·have hkA : k < (subK F cc A Y k).length:=by rw [subK_len,HAA.out]; exact hlt
   have hkY : k < Y.length:=by rw [HYL.out]; exact hlt
   have HNYw:=Lib.hid (HNY.out.bx (HX0.out.trans KB.out) (fun r o m c h=>by injection h with e1 e2 e3; injection e1 with e1; injection e1 with e1 _ _; rw [← e1]; exact HN12.out.2.1))
   obtain ⟨xx,hxx⟩ : ∃ x,Hid ((subK F cc A Y k).getD k 0 = x):=⟨_,rfl⟩
   obtain ⟨yy,hyy⟩ : ∃ x,Hid (Y.getD k 0 = x):=⟨_,rfl⟩
   have HX : Hid (xx < F.q):=Lib.hid (by rw [← hxx.out]; exact (subK_in HFF.out HIA.out k).get HFF.out k)
   have HY : Hid (yy < F.q):=Lib.hid (by rw [← hyy.out]; exact HIY.out.get HFF.out k)
   have hcY : wr.cell? ⟨r2,o2 + k,none⟩ = some (.int .i64 (yy : Nat)):=by
    rw [← hyy.out]
    rcases HNYw.out with ⟨e,h⟩ | ⟨b',off',cap',h,g1,g2,g3⟩
    ·rw [e] at hkY; simp at hkY
    ·injection h with e1 e2 e3; injection e1 with e1; injection e1 with e1 e2 _; rw [e1,e2]; exact g3 k hkY
   by_cases hy0 : yy = 0
   ·subst hy0
    clear hkA hkY
    go_wp2
    go_roundw
    case rel=>exact ⟨k + 1,by omega,by go_num,by rw [subK_skip HFF.out HIA.out hyy.out]; exact KR,KB,KF⟩
    case measure=>simp [intOf]; omega
   ·have hy1 : ((yy : Int) != 0) = true:=by simpa using hy0
    have hcR : wr.cell? ⟨r1,k,none⟩ = some (.int .i64 (xx : Nat)):=by rw [← hxx.out]; exact KR.out.cell' hkA
    have hrs : r2 < W.heap.size:=HY2.out.resolve_left (fun e=>by rw [e] at hkY; simp at hkY)
    have HRd:=Lib.hid KR.out.drew
    have hS0 : SD F b cap n mv W.heap.size r1 r2 (o2 + k) yy wr wr.drew:=⟨MB.bx HM0.out (KB.out.drew) HS0.out HN12.out.1,Lib.hid (KF.out.bx (Bx.refl (fun _=>False) wr).drew id),Lib.hid (Bx.refl _ _).drew,hcY,
     Lib.hid ⟨Nat.lt_of_lt_of_le HS0.out KB.out.size,Nat.lt_of_lt_of_le (Nat.lt_trans hrs HS0.out) KB.out.size,trivial⟩⟩
    clear hy0 hkY hrs
    go_wp2_with fail
    refine wp_region_held_drew (S:=fun w'=>SD F b cap n mv W.heap.size r1 r2 (o2 + k) yy wr w') (by kernel_rfl) (by with_reducible exact hS0) (fun hHeld=>?_)
    refine Rg.tk 0 ⟨some 21,.move (.tmp 1),27,"matrix.go:92",#[],none⟩ ?_
    try simp only [Rg.gp]
    refine Rg.tk 1 ⟨some 22,.move (.tmp 8),3,"matrix.go:92",#[],none⟩ ?_
    try simp only [Rg.gp]
    refine Rg.tk 2 ⟨some 23,.fieldAddr 79 (.tmp 4) 0,0,"matrix.go:92",#[],none⟩ ?_
    try simp only [Rg.gp]
    refine Rg.tk 3 ⟨some 24,.load 29 (.tmp 23),29,"matrix.go:92",#[⟨2,.data⟩],none⟩ ?_
    try simp only [Rg.gp]
    refine Rg.tk 4 ⟨some 25,.move (.tmp 1),27,"matrix.go:92",#[],none⟩ ?_
    try simp only [Rg.gp]
    refine Rg.tk 5 ⟨some 26,.move (.tmp 8),3,"matrix.go:92",#[],none⟩ ?_
    try simp only [Rg.gp]
    refine Rg.tk 6 ⟨some 27,.indexAddr 27 (.tmp 25) (.tmp 26),0,"matrix.go:92",#[⟨4,.data⟩,⟨5,.data⟩],none⟩ ?_
    try simp only [Rg.gp]
    refine Rg.tk 8 ⟨some 29,.fieldAddr 79 (.tmp 4) 0,0,"matrix.go:92",#[],none⟩ ?_
    try simp only [Rg.gp]
    refine Rg.tk 9 ⟨some 30,.load 29 (.tmp 29),29,"matrix.go:92",#[⟨8,.data⟩],none⟩ ?_
    try simp only [Rg.gp]
    refine Rg.tk 10 ⟨some 31,.move (.tmp 2),3,"matrix.go:92",#[],none⟩ ?_
    try simp only [Rg.gp]
    refine Rg.tk 11 ⟨some 32,.move (.tmp 9),3,"matrix.go:92",#[],none⟩ ?_
    try simp only [Rg.gp]
    refine wpAnyH_ready (rs:=[7,12]) (by kernel_rfl) (by simp) ?_
    refine (AllReadyH.cons (o:=⟨some 28,.load 3 (.tmp 27),3,"matrix.go:92",#[⟨6,.data⟩],none⟩) rfl (fun K hK=>?_) (AllReadyH.cons (o:=⟨some 33,.call ⟨.value (.func 57),#[.tmp 30,.tmp 31,.tmp 32],#[29,3,3]⟩,3,"matrix.go:92",#[⟨9,.data⟩,⟨10,.data⟩,⟨11,.data⟩],none⟩) rfl (fun K hK=>?_) AllReadyH.nil))
    ·go_simp
     refine hK.out _ _ ?_ (fun hHeld=>?_)
     ·(try dsimp only)
      exact hHeld
     clear hK K
     try simp only [Rg.gp]
     refine Rg.rd1 12 ⟨some 33,.call ⟨.value (.func 57),#[.tmp 30,.tmp 31,.tmp 32],#[29,3,3]⟩,3,"matrix.go:92",#[⟨9,.data⟩,⟨10,.data⟩,⟨11,.data⟩],none⟩ fun K hK=>?_
     go_simp
     go_at_call 57
     with_reducible refine (fmul_c HC.out HY.out hHeld.2.1.out).mono ?_
     rintro z v1 ⟨rfl,hb3⟩
     have HR1:=Lib.hid (HRd.out.below hb3)
     have hc1 : v1.cell? ⟨r1,k,none⟩ = some (.int .i64 (xx : Nat)):=by rw [← hxx.out]; exact HR1.out.cell' hkA
     refine hK.out _ _ ?_ (fun hHeld=>?_)
     ·(try dsimp only)
      exact SD.keep hHeld hb3
     clear hK K
     try simp only [Rg.gp]
     refine Rg.rd1 13 ⟨some 34,.call ⟨.value (.func 83),#[.tmp 24,.tmp 28,.tmp 33],#[29,3,3]⟩,3,"matrix.go:92",#[⟨3,.data⟩,⟨7,.data⟩,⟨12,.data⟩,⟨12,.chain⟩],none⟩ fun K hK=>?_
     go_simp
     go_at_call 83
     with_reducible refine (fsub_c HX.out (HFF.out.mul_lt _ _) hHeld.2.1.out).mono ?_
     rintro z v2 ⟨rfl,hb4⟩
     have HR2:=Lib.hid (HR1.out.below hb4)
     have hc2 : v2.cell? ⟨r1,k,none⟩ = some (.int .i64 (xx : Nat)):=by rw [← hxx.out]; exact HR2.out.cell' hkA
     have hf2 : v2.frozen? ⟨r1,k,none⟩ = false:=HR2.out.fz k
     refine hK.out _ _ ?_ (fun hHeld=>?_)
     ·(try dsimp only)
      exact SD.keep hHeld hb4
     clear hK K
     try simp only [Rg.gp]
     refine Rg.tk 14 ⟨some 35,.indexAddr 27 (.tmp 21) (.tmp 22),0,"matrix.go:92",#[⟨0,.data⟩,⟨1,.data⟩,⟨0,.phase⟩,⟨1,.phase⟩,⟨2,.phase⟩,⟨3,.phase⟩,⟨4,.phase⟩,⟨5,.phase⟩,⟨6,.phase⟩,⟨7,.phase⟩,⟨8,.phase⟩,⟨9,.phase⟩,⟨10,.phase⟩,⟨11,.phase⟩,⟨12,.phase⟩,⟨13,.phase⟩],none⟩ ?_
     try simp only [Rg.gp]
     refine Rg.rd1 15 ⟨none,.store 3 (.tmp 35) (.tmp 34),0,"matrix.go:92",#[⟨14,.data⟩,⟨13,.data⟩,⟨13,.chain⟩,⟨0,.phase⟩,⟨1,.phase⟩,⟨2,.phase⟩,⟨3,.phase⟩,⟨4,.phase⟩,⟨5,.phase⟩,⟨6,.phase⟩,⟨7,.phase⟩,⟨8,.phase⟩,⟨9,.phase⟩,⟨10,.phase⟩,⟨11,.phase⟩,⟨12,.phase⟩,⟨13,.phase⟩],none⟩ fun K hK=>?_
     go_simp
     refine hK.out _ _ ?_ (fun hHeld=>?_)
     ·(try dsimp only)
      exact SD.set hHeld HN12.out _
     clear hK K
     try simp only [Rg.gp]
     refine wpAnyH_done (by kernel_rfl) ?_ _
     have HR3:=Lib.hid (HR2.out.set k (F.sub xx (F.mul cc yy)) trivial)
     have HB3:=Lib.hid (KB.out.trans hHeld.2.2.1.out)
     have HF3:=Lib.hid hHeld.2.1.out
     have HM3:=Lib.hid hHeld.1
     clear hHeld hS0
     go_wp2
     go_roundw
     case rel=>exact ⟨k + 1,by omega,by go_num,by rw [← subK_succ hkA,hxx.out,hyy.out]; exact HR3,HB3,HF3⟩
     case measure=>simp [intOf]; omega
    ·go_simp
     go_at_call 57
     with_reducible refine (fmul_c HC.out HY.out hHeld.2.1.out).mono ?_
     rintro z v1 ⟨rfl,hb3⟩
     have HR1:=Lib.hid (HRd.out.below hb3)
     have hc1 : v1.cell? ⟨r1,k,none⟩ = some (.int .i64 (xx : Nat)):=by rw [← hxx.out]; exact HR1.out.cell' hkA
     refine hK.out _ _ ?_ (fun hHeld=>?_)
     ·(try dsimp only)
      exact SD.keep hHeld hb3
     clear hK K
     try simp only [Rg.gp]
     refine Rg.rd1 7 ⟨some 28,.load 3 (.tmp 27),3,"matrix.go:92",#[⟨6,.data⟩],none⟩ fun K hK=>?_
     go_simp
     refine hK.out _ _ ?_ (fun hHeld=>?_)
     ·(try dsimp only)
      exact hHeld
     clear hK K
     try simp only [Rg.gp]
     refine Rg.rd1 13 ⟨some 34,.call ⟨.value (.func 83),#[.tmp 24,.tmp 28,.tmp 33],#[29,3,3]⟩,3,"matrix.go:92",#[⟨3,.data⟩,⟨7,.data⟩,⟨12,.data⟩,⟨12,.chain⟩],none⟩ fun K hK=>?_
     go_simp
     go_at_call 83
     with_reducible refine (fsub_c HX.out (HFF.out.mul_lt _ _) hHeld.2.1.out).mono ?_
     rintro z v2 ⟨rfl,hb4⟩
     have HR2:=Lib.hid (HR1.out.below hb4)
     have hc2 : v2.cell? ⟨r1,k,none⟩ = some (.int .i64 (xx : Nat)):=by rw [← hxx.out]; exact HR2.out.cell' hkA
     have hf2 : v2.frozen? ⟨r1,k,none⟩ = false:=HR2.out.fz k
     refine hK.out _ _ ?_ (fun hHeld=>?_)
     ·(try dsimp only)
      exact SD.keep hHeld hb4
     clear hK K
     try simp only [Rg.gp]
     refine Rg.tk 14 ⟨some 35,.indexAddr 27 (.tmp 21) (.tmp 22),0,"matrix.go:92",#[⟨0,.data⟩,⟨1,.data⟩,⟨0,.phase⟩,⟨1,.phase⟩,⟨2,.phase⟩,⟨3,.phase⟩,⟨4,.phase⟩,⟨5,.phase⟩,⟨6,.phase⟩,⟨7,.phase⟩,⟨8,.phase⟩,⟨9,.phase⟩,⟨10,.phase⟩,⟨11,.phase⟩,⟨12,.phase⟩,⟨13,.phase⟩],none⟩ ?_
     try simp only [Rg.gp]
     refine Rg.rd1 15 ⟨none,.store 3 (.tmp 35) (.tmp 34),0,"matrix.go:92",#[⟨14,.data⟩,⟨13,.data⟩,⟨13,.chain⟩,⟨0,.phase⟩,⟨1,.phase⟩,⟨2,.phase⟩,⟨3,.phase⟩,⟨4,.phase⟩,⟨5,.phase⟩,⟨6,.phase⟩,⟨7,.phase⟩,⟨8,.phase⟩,⟨9,.phase⟩,⟨10,.phase⟩,⟨11,.phase⟩,⟨12,.phase⟩,⟨13,.phase⟩],none⟩ fun K hK=>?_
     go_simp
     refine hK.out _ _ ?_ (fun hHeld=>?_)
     ·(try dsimp only)
      exact SD.set hHeld HN12.out _
     clear hK K
     try simp only [Rg.gp]
     refine wpAnyH_done (by kernel_rfl) ?_ _
     have HR3:=Lib.hid (HR2.out.set k (F.sub xx (F.mul cc yy)) trivial)
     have HB3:=Lib.hid (KB.out.trans hHeld.2.2.1.out)
     have HF3:=Lib.hid hHeld.2.1.out
     have HM3:=Lib.hid hHeld.1
     clear hHeld hS0
     go_wp2
     go_roundw
     case rel=>exact ⟨k + 1,by omega,by go_num,by rw [← subK_succ hkA,hxx.out,hyy.out]; exact HR3,HB3,HF3⟩
     case measure=>simp [intOf]; omega
  ·have HE : Hid (k = n):=Lib.hid (by omega)
   have hlt1 : ¬ (k : Int) < (n : Int):=by omega
   have HRF : Hid (Rw (subK F cc A Y n) r1 wr):=Lib.hid (by rw [← HE.out]; exact KR.out)
   have HBF:=Lib.hid (HX0.out.trans KB.out)
   clear HE
   go_wp2
   go_end0
   exact ⟨rfl,HRF.out,HBF.out⟩
theorem subK_c0 {F : Gf} (hF : Ok F) {A Y : List Nat} (hA : In F A) (k : Nat) : subK F 0 A Y k = A:=getDx (subK_len _ _ _ _ _) fun j hj=>by
 rw [subK_len] at hj
 rw [subK_get hj]
 split
 ·rw [Ok.z_mul,hF.sub_zero (hA.get hF _)]
 ·rfl
set_option maxHeartbeats 1600000 in
theorem subtract_c {F : Gf} {b cap n : Nat} {mv : Value} {A Y : List Nat} {r1 r2 o2 c1 c2 cc : Nat} {W : World} (hA : FldAt F b cap W) (hi : In F A) (hy : In F Y) (hc : cc < F.q) (hm : mv.oneCell' = true) (ha : A.length = n) (hl : Y.length = n) (hn : n ≤ 1000)
  (h1 : Rw A r1 W) (h2 : NN Y W (.slice (some ⟨r2,o2,none⟩) n c2)) (hb : b ≠ r1) (hr : r2 ≠ r1) :
  Calls Try.prog 60 #[MV F b cap n mv,.slice (some ⟨r1,0,none⟩) n c1,.int .i64 (cc : Nat),.slice (some ⟨r2,o2,none⟩) n c2] W fun e w'=>e = .returned (.tuple #[]) ∧ Rw (subK F cc A Y n) r1 w' ∧ Bx (fun k=>k = r1) W w':=by
 by_cases h0 : cc = 0
 ·subst h0
  have HR : Hid (Rw (subK F 0 A Y n) r1 (W.alloc (.cells #[.int .i64 F.p,.int .i64 F.e,FM F b cap,.int .i64 (n : Nat),mv] 79))):=Lib.hid (by rw [subK_c0 (ok_mem hA.mem) hi]; exact h1.below ((Below.refl _ _).alloc (Nat.le_refl _) _))
  have HX0 : Hid (Bx (fun k=>k = r1) W (W.alloc (.cells #[.int .i64 F.p,.int .i64 F.e,FM F b cap,.int .i64 (n : Nat),mv] 79))):=Lib.hid (Bx.of ((Below.refl _ _).alloc (Nat.le_refl _) _))
  clear h1 h2 hA hi hy hc
  go_enter Try.func60,Try.ntmps60
  go_wp2
  refine bodyPost_ret (results_none rfl _ _ _) rfl ?_
  exact ⟨rfl,HR.out,HX0.out⟩
 ·exact subtract_nz hA hi hy hc h0 hm ha hl hn h1 h2 hb hr
structure OM (M : List (List Nat)) (g : Nat) (rs : List Nat) (n : Nat) (w : World) : Prop where
 glt : g < w.heap.size
 len : rs.length = M.length
 row : ∀ i,i < M.length → w.cell? ⟨g,i,none⟩ = some (.slice (some ⟨rs.getD i 0,0,none⟩) n n)
 gfz : ∀ t,w.frozen? ⟨g,t,none⟩ = false
 rw' : ∀ i,i < M.length → Rw (M.getD i []) (rs.getD i 0) w
 wid : ∀ i,i < M.length → (M.getD i []).length = n
 nd : ∀ i,i < M.length → ∀ k,k < M.length → i ≠ k → rs.getD i 0 ≠ rs.getD k 0
 ng : ∀ i,i < M.length → rs.getD i 0 ≠ g
def swg {α : Type} (d : α) (M : List α) (a i : Nat) : List α:=(M.set a (M.getD i d)).set i (M.getD a d)
theorem swg_len {α : Type} (d : α) (M : List α) (a i : Nat) : (swg d M a i).length = M.length:=by simp [swg]
theorem swg_at {α : Type} {d : α} {M : List α} {a i k : Nat} (ha : a < M.length) (hi : i < M.length) : (swg d M a i).getD k d = if k = i then M.getD a d else if k = a then M.getD i d else M.getD k d:=by
 unfold swg
 simp only [List.getD_eq_getElem?_getD,List.getElem?_set,List.length_set]
 by_cases h1 : i = k
 ·subst h1; simp [hi]
 ·by_cases h2 : a = k
  ·subst h2; simp [h1,ha,Ne.symm h1]
  ·simp [h1,h2,Ne.symm h1,Ne.symm h2]
def sw (a i k : Nat) : Nat:=if k = i then a else if k = a then i else k
theorem swg_sw {α : Type} {d : α} {M : List α} {a i k : Nat} (ha : a < M.length) (hi : i < M.length) : (swg d M a i).getD k d = M.getD (sw a i k) d:=by
 rw [swg_at ha hi]; unfold sw
 split
 ·rfl
 ·split <;> rfl
theorem sw_lt {a i k m : Nat} (ha : a < m) (hi : i < m) (hk : k < m) : sw a i k < m:=by
 unfold sw; split
 ·exact ha
 ·split
  ·exact hi
  ·exact hk
theorem sw_inj {a i k l : Nat} (h : sw a i k = sw a i l) : k = l:=by
 unfold sw at h
 (repeat' split at h) <;> omega
theorem OM.bx {M : List (List Nat)} {g n : Nat} {rs : List Nat} {w w' : World} (h : OM M g rs n w) {S : Nat → Prop} (hb : Bx S w w') (hg : ¬ S g) (hr : ∀ i,i < M.length → ¬ S (rs.getD i 0)) : OM M g rs n w':=
 ⟨Nat.lt_of_lt_of_le h.glt hb.size,h.len,fun i hi=>(hb.cell h.glt hg).trans (h.row i hi),fun t=>(World.frozen?_of_block (w:=w) (hb.block g h.glt hg)).trans (h.gfz t),fun i hi=>(h.rw' i hi).bx hb (hr i hi),h.wid,h.nd,h.ng⟩
theorem OM.swap {M : List (List Nat)} {g n : Nat} {rs : List Nat} {w w' : World} (h : OM M g rs n w) {a i : Nat} (ha : a < M.length) (hi : i < M.length) (hb : Bx (fun k=>k = g) w w')
  (hw : w' = (w.setCell ⟨g,a,none⟩ (.slice (some ⟨rs.getD i 0,0,none⟩) n n)).setCell ⟨g,i,none⟩ (.slice (some ⟨rs.getD a 0,0,none⟩) n n)) : OM (swg [] M a i) g (swg 0 rs a i) n w':=by
 have ha' : a < rs.length:=by rw [h.len]; exact ha
 have hi' : i < rs.length:=by rw [h.len]; exact hi
 refine ⟨Nat.lt_of_lt_of_le h.glt hb.size,by rw [swg_len,swg_len]; exact h.len,fun k hk=>?_,fun t=>?_,fun k hk=>?_,fun k hk=>?_,fun k hk l hl e=>?_,fun k hk=>?_⟩
 ·rw [swg_len] at hk
  rw [hw,swg_at ha' hi']
  obtain ⟨u,hu⟩:=cell?_setCell_some (p:=⟨g,a,none⟩) (x:=.slice (some ⟨rs.getD i 0,0,none⟩) n n) (h.row i hi)
  by_cases e : k = i
  ·subst e
   rw [World.cell?_setCell_same _ _ _ hu,if_pos rfl]
  ·rw [World.cell?_setCell_other _ _ _ _ (fun e'=>e (by injection e' with _ e' _; exact e'.symm)),if_neg e]
   by_cases e2 : k = a
   ·subst e2
    rw [World.cell?_setCell_same _ _ _ (h.row k hk),if_pos rfl]
   ·rw [World.cell?_setCell_other _ _ _ _ (fun e'=>e2 (by injection e' with _ e' _; exact e'.symm)),if_neg e2]
    exact h.row k hk
 ·rw [hw,World.frozen?_setCell,World.frozen?_setCell]; exact h.gfz t
 ·rw [swg_len] at hk
  rw [swg_sw ha hi,swg_sw ha' hi']
  exact (h.rw' _ (sw_lt ha hi hk)).bx hb (h.ng _ (sw_lt ha hi hk))
 ·rw [swg_len] at hk
  rw [swg_sw ha hi]; exact h.wid _ (sw_lt ha hi hk)
 ·rw [swg_len] at hk hl
  rw [swg_sw ha' hi',swg_sw ha' hi']
  exact h.nd _ (sw_lt ha hi hk) _ (sw_lt ha hi hl) fun e'=>e (sw_inj e')
 ·rw [swg_len] at hk
  rw [swg_sw ha' hi']; exact h.ng _ (sw_lt ha hi hk)
abbrev SE (F : Gf) (b cap n : Nat) (mv : Value) (B g : Nat) (wr : World) (w : World) : Prop:=MB B F b cap n mv w ∧ Hid (B < w.heap.size ∧ B ≠ g) ∧ Hid (Bx (fun k=>k = g) wr w)
theorem SE.set {F : Gf} {b cap n : Nat} {mv : Value} {B g t : Nat} {wr w : World} (h : SE F b cap n mv B g wr w) (x : Value) : SE F b cap n mv B g wr (w.setCell ⟨g,t,none⟩ x):=
 ⟨MB.bx h.1 (Bx.set (S:=fun k=>k = g) rfl x) h.2.1.out.1 h.2.1.out.2,Lib.hid ⟨by simpa [World.setCell] using h.2.1.out.1,h.2.1.out.2⟩,Lib.hid (h.2.2.out.trans (Bx.set (S:=fun k=>k = g) rfl x))⟩
def RaiseP (M : List (List Nat)) (g : Nat) (rs : List Nat) (n at' col : Nat) (W : World) (e : Ending) (w' : World) : Prop:=
 (e = .returned (.bool false) ∧ (∀ j,j < M.length → at' ≤ j → (M.getD j []).getD col 0 = 0) ∧ Bx (fun _=>False) W w') ∨
 ∃ i,e = .returned (.bool true) ∧ at' ≤ i ∧ i < M.length ∧ (M.getD i []).getD col 0 ≠ 0 ∧ OM (swg [] M at' i) g (swg 0 rs at' i) n w' ∧ Bx (fun k=>k = g) W w'
set_option maxHeartbeats 6400000 in
theorem raise_c {F : Gf} {b cap n at' col c : Nat} {M : List (List Nat)} {g : Nat} {rs : List Nat} {W : World} (hn : n ≤ 1000) (hl : M.length ≤ 1000) (hc : col < n) (ha : at' ≤ M.length) (h : OM M g rs n W) :
  Calls Try.prog 96 #[MV F b cap n (.slice (some ⟨g,0,none⟩) M.length c),.int .i64 (at' : Nat),.int .i64 (col : Nat)] W (RaiseP M g rs n at' col W):=by
 obtain ⟨mv,hmv⟩ : ∃ mv,mv = Value.slice (some ⟨g,0,none⟩) M.length c:=⟨_,rfl⟩
 have HM:=Lib.hid h
 have hglt:=h.glt
 have ha0 : Below W.heap.size W (W.alloc (.cells #[.int .i64 F.p,.int .i64 F.e,FM F b cap,.int .i64 (n : Nat),.slice (some ⟨g,0,none⟩) M.length c] 79)):=(Below.refl _ _).alloc (Nat.le_refl _) _
 have HX0 : Hid (Bx (fun k=>k = g) W (W.alloc (.cells #[.int .i64 F.p,.int .i64 F.e,FM F b cap,.int .i64 (n : Nat),.slice (some ⟨g,0,none⟩) M.length c] 79))):=Lib.hid (Bx.of ha0)
 have HXN : Hid (Bx (fun _=>False) W (W.alloc (.cells #[.int .i64 F.p,.int .i64 F.e,FM F b cap,.int .i64 (n : Nat),.slice (some ⟨g,0,none⟩) M.length c] 79))):=Lib.hid (Bx.of ha0)
 have HB0 : Hid (MB W.heap.size F b cap n (.slice (some ⟨g,0,none⟩) M.length c) (W.alloc (.cells #[.int .i64 F.p,.int .i64 F.e,FM F b cap,.int .i64 (n : Nat),.slice (some ⟨g,0,none⟩) M.length c] 79))):=Lib.hid ⟨World.cell?_alloc_at _ _ _ _ rfl,World.cell?_alloc_at _ _ _ _ rfl,World.cell?_alloc_at _ _ _ _ rfl,World.cell?_alloc_at _ _ _ _ rfl,World.cell?_alloc_at _ _ _ _ rfl⟩
 have HS0 : Hid (W.heap.size < (W.alloc (.cells #[.int .i64 F.p,.int .i64 F.e,FM F b cap,.int .i64 (n : Nat),.slice (some ⟨g,0,none⟩) M.length c] 79)).heap.size ∧ W.heap.size ≠ g):=Lib.hid ⟨by simp,by omega⟩
 clear h ha0 hglt hmv
 go_enter Try.func96,Try.ntmps96
 go_wp2
 go_loopw [7] (fun i wr=>∃ k : Nat,at' ≤ k ∧ k ≤ M.length ∧ i = .int .i64 k ∧ Hid (∀ j,j < k → at' ≤ j → (M.getD j []).getD col 0 = 0) ∧ Hid (Bx (fun _=>False) (W.alloc (.cells #[.int .i64 F.p,.int .i64 F.e,FM F b cap,.int .i64 (n : Nat),.slice (some ⟨g,0,none⟩) M.length c] 79)) wr)) (fun i _=>M.length - (intOf i).toNat)
 case atStart=>exact ⟨at',Nat.le_refl _,ha,rfl,Lib.hid (fun j h1 h2=>by omega),Bx.refl _ _⟩
 case round =>
  obtain ⟨k,hak,hk,rfl,KZ,KB⟩:=hrel
  have HMw:=Lib.hid (HM.out.bx (HXN.out.trans KB.out) id fun _ _=>id)
  obtain ⟨x0,x1,x2,x3,x4⟩:=MB.bx HB0.out KB.out HS0.out.1 id
  by_cases hlt : k < M.length
  ·obtain ⟨xx,hxx⟩ : ∃ x,Hid ((M.getD k []).getD col 0 = x):=⟨_,rfl⟩
   obtain ⟨rk,hrk⟩ : ∃ r,Hid (rs.getD k 0 = r):=⟨_,rfl⟩
   have hck : wr.cell? ⟨g,k,none⟩ = some (.slice (some ⟨rk,0,none⟩) n n):=by rw [← hrk.out]; exact HMw.out.row k hlt
   have hcx : wr.cell? ⟨rk,col,none⟩ = some (.int .i64 (xx : Nat)):=by rw [← hrk.out,← hxx.out]; exact (HMw.out.rw' k hlt).cell col (by rw [HMw.out.wid k hlt]; exact hc)
   by_cases hy0 : xx = 0
   ·subst hy0
    have hk5 : k < 1000:=by omega
    go_wp2
    go_roundw
    case rel=>exact ⟨k + 1,by omega,by omega,by go_num,Lib.hid (fun j h1 h2=>by
     by_cases e : j = k
     ·rw [e]; exact hxx.out
     ·exact KZ.out j (by omega) h2),KB⟩
    case measure=>simp [intOf]; omega
   ·have hy1 : ((xx : Int) != 0) = true:=by simpa using hy0
    have hatl : at' < M.length:=by omega
    obtain ⟨ra,hra⟩ : ∃ r,Hid (rs.getD at' 0 = r):=⟨_,rfl⟩
    have hca : wr.cell? ⟨g,at',none⟩ = some (.slice (some ⟨ra,0,none⟩) n n):=by rw [← hra.out]; exact HMw.out.row at' hatl
    have hfa : wr.frozen? ⟨g,at',none⟩ = false:=HMw.out.gfz _
    have hfk : wr.frozen? ⟨g,k,none⟩ = false:=HMw.out.gfz _
    have KX : Hid (Bx (fun k=>k = g) (W.alloc (.cells #[.int .i64 F.p,.int .i64 F.e,FM F b cap,.int .i64 (n : Nat),.slice (some ⟨g,0,none⟩) M.length c] 79)) wr):=Lib.hid (KB.out.mono fun _ e=>e.elim)
    have HNZ : Hid ((M.getD k []).getD col 0 ≠ 0):=Lib.hid (by rw [hxx.out]; exact hy0)
    have hS0 : SE F b cap n (.slice (some ⟨g,0,none⟩) M.length c) W.heap.size g wr wr.drew:=⟨⟨x0,x1,x2,x3,x4⟩,Lib.hid ⟨Nat.lt_of_lt_of_le HS0.out.1 KB.out.size,HS0.out.2⟩,Lib.hid (Bx.refl _ _).drew⟩
    have HMd : Hid (OM M g rs n wr.drew):=Lib.hid (HMw.out.bx (Bx.refl (fun _=>False) wr).drew id fun _ _=>id)
    have HOM : Hid (OM (swg [] M at' k) g (swg 0 rs at' k) n ((wr.drew.setCell ⟨g,at',none⟩ (.slice (some ⟨rk,0,none⟩) n n)).setCell ⟨g,k,none⟩ (.slice (some ⟨ra,0,none⟩) n n))):=Lib.hid (HMd.out.swap hatl hlt ((Bx.set (S:=fun k=>k = g) rfl _).trans (Bx.set (S:=fun k=>k = g) rfl _)) (by rw [hrk.out,hra.out]))
    clear hy0
    go_wp2_with fail
    refine wp_region_held_drew (S:=fun w'=>SE F b cap n (.slice (some ⟨g,0,none⟩) M.length c) W.heap.size g wr w') (by kernel_rfl) (by with_reducible exact hS0) (fun hHeld=>?_)
    refine Rg.tk 0 ⟨some 25,.fieldAddr 79 (.tmp 3) 2,0,"matrix.go:62",#[],none⟩ ?_
    try simp only [Rg.gp]
    refine Rg.tk 1 ⟨some 26,.load 30 (.tmp 25),30,"matrix.go:62",#[⟨0,.data⟩],none⟩ ?_
    try simp only [Rg.gp]
    refine Rg.tk 2 ⟨some 27,.move (.tmp 1),3,"matrix.go:62",#[],none⟩ ?_
    try simp only [Rg.gp]
    refine Rg.tk 3 ⟨some 28,.fieldAddr 79 (.tmp 3) 2,0,"matrix.go:62",#[⟨17,.gcOnly Go.Departure.lateStores⟩],none⟩ ?_
    try simp only [Rg.gp]
    refine Rg.tk 4 ⟨some 29,.load 30 (.tmp 28),30,"matrix.go:62",#[⟨3,.data⟩,⟨17,.gcOnly Go.Departure.lateStores⟩],none⟩ ?_
    try simp only [Rg.gp]
    refine Rg.tk 5 ⟨some 30,.move (.tmp 7),3,"matrix.go:62",#[⟨17,.gcOnly Go.Departure.lateStores⟩],none⟩ ?_
    try simp only [Rg.gp]
    refine Rg.tk 6 ⟨some 31,.fieldAddr 79 (.tmp 3) 2,0,"matrix.go:62",#[],none⟩ ?_
    try simp only [Rg.gp]
    refine Rg.tk 7 ⟨some 32,.load 30 (.tmp 31),30,"matrix.go:62",#[⟨6,.data⟩],none⟩ ?_
    try simp only [Rg.gp]
    refine Rg.tk 8 ⟨some 33,.move (.tmp 7),3,"matrix.go:62",#[],none⟩ ?_
    try simp only [Rg.gp]
    refine Rg.tk 9 ⟨some 34,.indexAddr 30 (.tmp 32) (.tmp 33),0,"matrix.go:62",#[⟨7,.data⟩,⟨8,.data⟩],none⟩ ?_
    try simp only [Rg.gp]
    refine Rg.tk 11 ⟨some 36,.fieldAddr 79 (.tmp 3) 2,0,"matrix.go:62",#[],none⟩ ?_
    try simp only [Rg.gp]
    refine Rg.tk 12 ⟨some 37,.load 30 (.tmp 36),30,"matrix.go:62",#[⟨11,.data⟩],none⟩ ?_
    try simp only [Rg.gp]
    refine Rg.tk 13 ⟨some 38,.move (.tmp 1),3,"matrix.go:62",#[],none⟩ ?_
    try simp only [Rg.gp]
    refine Rg.tk 14 ⟨some 39,.indexAddr 30 (.tmp 37) (.tmp 38),0,"matrix.go:62",#[⟨12,.data⟩,⟨13,.data⟩],none⟩ ?_
    try simp only [Rg.gp]
    refine wpAnyH_ready (rs:=[10,15]) (by kernel_rfl) (by simp) ?_
    refine (AllReadyH.cons (o:=⟨some 35,.load 27 (.tmp 34),27,"matrix.go:62",#[⟨9,.data⟩],none⟩) rfl (fun K hK=>?_) (AllReadyH.cons (o:=⟨some 40,.load 27 (.tmp 39),27,"matrix.go:62",#[⟨14,.data⟩],none⟩) rfl (fun K hK=>?_) AllReadyH.nil))
    ·go_simp
     refine hK.out _ _ ?_ (fun hHeld=>?_)
     ·(try dsimp only)
      exact hHeld
     clear hK K
     try simp only [Rg.gp]
     refine Rg.rd1 15 ⟨some 40,.load 27 (.tmp 39),27,"matrix.go:62",#[⟨14,.data⟩],none⟩ fun K hK=>?_
     go_simp
     refine hK.out _ _ ?_ (fun hHeld=>?_)
     ·(try dsimp only)
      exact hHeld
     clear hK K
     try simp only [Rg.gp]
     refine Rg.tk 16 ⟨some 41,.indexAddr 30 (.tmp 26) (.tmp 27),0,"matrix.go:62",#[⟨1,.data⟩,⟨2,.data⟩,⟨0,.phase⟩,⟨1,.phase⟩,⟨2,.phase⟩,⟨3,.textOnly Go.Departure.lateStores⟩,⟨4,.textOnly Go.Departure.lateStores⟩,⟨5,.textOnly Go.Departure.lateStores⟩,⟨6,.phase⟩,⟨7,.phase⟩,⟨8,.phase⟩,⟨9,.phase⟩,⟨10,.phase⟩,⟨11,.textOnly Go.Departure.lateStores⟩,⟨12,.textOnly Go.Departure.lateStores⟩,⟨13,.textOnly Go.Departure.lateStores⟩,⟨14,.textOnly Go.Departure.lateStoresUnsure⟩,⟨15,.phase⟩],none⟩ ?_
     try simp only [Rg.gp]
     refine Rg.rd1 17 ⟨none,.store 27 (.tmp 41) (.tmp 35),0,"matrix.go:62",#[⟨16,.data⟩,⟨10,.data⟩,⟨0,.phase⟩,⟨1,.phase⟩,⟨2,.phase⟩,⟨3,.textOnly Go.Departure.lateStores⟩,⟨4,.textOnly Go.Departure.lateStores⟩,⟨5,.textOnly Go.Departure.lateStores⟩,⟨6,.phase⟩,⟨7,.phase⟩,⟨8,.phase⟩,⟨9,.phase⟩,⟨10,.phase⟩,⟨11,.textOnly Go.Departure.lateStores⟩,⟨12,.textOnly Go.Departure.lateStores⟩,⟨13,.textOnly Go.Departure.lateStores⟩,⟨14,.textOnly Go.Departure.lateStoresUnsure⟩,⟨15,.phase⟩],none⟩ fun K hK=>?_
     go_simp
     refine hK.out _ _ ?_ (fun hHeld=>?_)
     ·(try dsimp only)
      exact SE.set hHeld _
     clear hK K
     try simp only [Rg.gp]
     obtain ⟨u9,hck2⟩:=cell?_setCell_some (p:=⟨g,at',none⟩) (x:=.slice (some ⟨rk,0,none⟩) n n) hck
     refine Rg.tk 18 ⟨some 42,.indexAddr 30 (.tmp 29) (.tmp 30),0,"matrix.go:62",#[⟨4,.data⟩,⟨5,.data⟩,⟨0,.phase⟩,⟨1,.phase⟩,⟨2,.phase⟩,⟨3,.phase⟩,⟨4,.phase⟩,⟨5,.phase⟩,⟨6,.phase⟩,⟨7,.phase⟩,⟨8,.phase⟩,⟨9,.phase⟩,⟨10,.phase⟩,⟨11,.phase⟩,⟨12,.phase⟩,⟨13,.phase⟩,⟨14,.phase⟩,⟨15,.phase⟩,⟨16,.phase⟩,⟨17,.phase⟩],none⟩ ?_
     try simp only [Rg.gp]
     refine Rg.rd1 19 ⟨none,.store 27 (.tmp 42) (.tmp 40),0,"matrix.go:62",#[⟨18,.data⟩,⟨15,.data⟩,⟨17,.chain⟩,⟨0,.phase⟩,⟨1,.phase⟩,⟨2,.phase⟩,⟨3,.phase⟩,⟨4,.phase⟩,⟨5,.phase⟩,⟨6,.phase⟩,⟨7,.phase⟩,⟨8,.phase⟩,⟨9,.phase⟩,⟨10,.phase⟩,⟨11,.phase⟩,⟨12,.phase⟩,⟨13,.phase⟩,⟨14,.phase⟩,⟨15,.phase⟩,⟨16,.phase⟩,⟨17,.phase⟩],none⟩ fun K hK=>?_
     go_simp
     refine hK.out _ _ ?_ (fun hHeld=>?_)
     ·(try dsimp only)
      exact SE.set hHeld _
     clear hK K
     try simp only [Rg.gp]
     refine wpAnyH_done (by kernel_rfl) ?_ _
     have HB3:=Lib.hid hHeld.2.2.out
     clear hHeld hS0
     go_wp2
     go_ret
     exact .inr ⟨k,rfl,hak,hlt,HNZ.out,HOM.out,HX0.out.trans (KX.out.trans HB3.out)⟩
    ·go_simp
     refine hK.out _ _ ?_ (fun hHeld=>?_)
     ·(try dsimp only)
      exact hHeld
     clear hK K
     try simp only [Rg.gp]
     refine Rg.rd1 10 ⟨some 35,.load 27 (.tmp 34),27,"matrix.go:62",#[⟨9,.data⟩],none⟩ fun K hK=>?_
     go_simp
     refine hK.out _ _ ?_ (fun hHeld=>?_)
     ·(try dsimp only)
      exact hHeld
     clear hK K
     try simp only [Rg.gp]
     refine Rg.tk 16 ⟨some 41,.indexAddr 30 (.tmp 26) (.tmp 27),0,"matrix.go:62",#[⟨1,.data⟩,⟨2,.data⟩,⟨0,.phase⟩,⟨1,.phase⟩,⟨2,.phase⟩,⟨3,.textOnly Go.Departure.lateStores⟩,⟨4,.textOnly Go.Departure.lateStores⟩,⟨5,.textOnly Go.Departure.lateStores⟩,⟨6,.phase⟩,⟨7,.phase⟩,⟨8,.phase⟩,⟨9,.phase⟩,⟨10,.phase⟩,⟨11,.textOnly Go.Departure.lateStores⟩,⟨12,.textOnly Go.Departure.lateStores⟩,⟨13,.textOnly Go.Departure.lateStores⟩,⟨14,.textOnly Go.Departure.lateStoresUnsure⟩,⟨15,.phase⟩],none⟩ ?_
     try simp only [Rg.gp]
     refine Rg.rd1 17 ⟨none,.store 27 (.tmp 41) (.tmp 35),0,"matrix.go:62",#[⟨16,.data⟩,⟨10,.data⟩,⟨0,.phase⟩,⟨1,.phase⟩,⟨2,.phase⟩,⟨3,.textOnly Go.Departure.lateStores⟩,⟨4,.textOnly Go.Departure.lateStores⟩,⟨5,.textOnly Go.Departure.lateStores⟩,⟨6,.phase⟩,⟨7,.phase⟩,⟨8,.phase⟩,⟨9,.phase⟩,⟨10,.phase⟩,⟨11,.textOnly Go.Departure.lateStores⟩,⟨12,.textOnly Go.Departure.lateStores⟩,⟨13,.textOnly Go.Departure.lateStores⟩,⟨14,.textOnly Go.Departure.lateStoresUnsure⟩,⟨15,.phase⟩],none⟩ fun K hK=>?_
     go_simp
     refine hK.out _ _ ?_ (fun hHeld=>?_)
     ·(try dsimp only)
      exact SE.set hHeld _
     clear hK K
     try simp only [Rg.gp]
     obtain ⟨u9,hck2⟩:=cell?_setCell_some (p:=⟨g,at',none⟩) (x:=.slice (some ⟨rk,0,none⟩) n n) hck
     refine Rg.tk 18 ⟨some 42,.indexAddr 30 (.tmp 29) (.tmp 30),0,"matrix.go:62",#[⟨4,.data⟩,⟨5,.data⟩,⟨0,.phase⟩,⟨1,.phase⟩,⟨2,.phase⟩,⟨3,.phase⟩,⟨4,.phase⟩,⟨5,.phase⟩,⟨6,.phase⟩,⟨7,.phase⟩,⟨8,.phase⟩,⟨9,.phase⟩,⟨10,.phase⟩,⟨11,.phase⟩,⟨12,.phase⟩,⟨13,.phase⟩,⟨14,.phase⟩,⟨15,.phase⟩,⟨16,.phase⟩,⟨17,.phase⟩],none⟩ ?_
     try simp only [Rg.gp]
     refine Rg.rd1 19 ⟨none,.store 27 (.tmp 42) (.tmp 40),0,"matrix.go:62",#[⟨18,.data⟩,⟨15,.data⟩,⟨17,.chain⟩,⟨0,.phase⟩,⟨1,.phase⟩,⟨2,.phase⟩,⟨3,.phase⟩,⟨4,.phase⟩,⟨5,.phase⟩,⟨6,.phase⟩,⟨7,.phase⟩,⟨8,.phase⟩,⟨9,.phase⟩,⟨10,.phase⟩,⟨11,.phase⟩,⟨12,.phase⟩,⟨13,.phase⟩,⟨14,.phase⟩,⟨15,.phase⟩,⟨16,.phase⟩,⟨17,.phase⟩],none⟩ fun K hK=>?_
     go_simp
     refine hK.out _ _ ?_ (fun hHeld=>?_)
     ·(try dsimp only)
      exact SE.set hHeld _
     clear hK K
     try simp only [Rg.gp]
     refine wpAnyH_done (by kernel_rfl) ?_ _
     have HB3:=Lib.hid hHeld.2.2.out
     clear hHeld hS0
     go_wp2
     go_ret
     exact .inr ⟨k,rfl,hak,hlt,HNZ.out,HOM.out,HX0.out.trans (KX.out.trans HB3.out)⟩
  ·have HZ : Hid (∀ j,j < M.length → at' ≤ j → (M.getD j []).getD col 0 = 0):=Lib.hid (fun j h1 h2=>KZ.out j (by omega) h2)
   have hlt1 : ¬ (k : Int) < (M.length : Int):=by omega
   have HBF:=Lib.hid (HXN.out.trans KB.out)
   go_wp2
   go_ret
   exact .inl ⟨rfl,HZ.out,HBF.out⟩
end Go.Proofs.Yteeofijcndgbfaa
