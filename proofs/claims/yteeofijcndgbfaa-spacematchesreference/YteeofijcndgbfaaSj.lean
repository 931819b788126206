/- sweep: the first columns made those of a reduced matrix. -/
import Derived.Test.YteeofijcndgbfaaSg
import Derived.Laws.AppendOwn
namespace Go.Proofs.Yteeofijcndgbfaa
open Go.RowKit Go.Fl
set_option maxRecDepth 100000
set_option linter.unusedVariables false
set_option linter.unusedSimpArgs false
set_option linter.unusedSectionVars false
theorem nil_own (w : World) (base : Nat) : w.ownsRow base 3 1 (.slice none 0 0) 0 []:=⟨rfl,.inl ⟨rfl,rfl⟩⟩
structure SwP (F : Gf) (M0 : List (List Nat)) (rs0 : List Nat) (g n col : Nat) (P : List Nat) (M : List (List Nat)) (rs : List Nat) (w : World) : Prop where
 om : OM M g rs n w
 mn : Mn F n M
 len : M.length = M0.length
 sw : Sw F n col P (M.map fn)
 sp : ∀ v,Sp F (M.map fn) v ↔ Sp F (M0.map fn) v
 blk : ∀ i,i < M.length → ∃ j,j < M0.length ∧ rs.getD i 0 = rs0.getD j 0
abbrev Mb (M0 : List (List Nat)) (rs0 : List Nat) (g : Nat) : Nat → Prop:=fun k=>k = g ∨ ∃ i,i < M0.length ∧ k = rs0.getD i 0
theorem SwP.get {F : Gf} {M0 : List (List Nat)} {rs0 : List Nat} {g n col : Nat} {P : List Nat} {M : List (List Nat)} {rs : List Nat} {w : World} (h : SwP F M0 rs0 g n col P M rs w) {i : Nat} (hi : i < M.length) : Vn F n (M.getD i []):=h.mn _ (by rw [List.getD_eq_getElem?_getD,List.getElem?_eq_getElem hi]; exact List.getElem_mem hi)
theorem SwP.bx {F : Gf} {M0 : List (List Nat)} {rs0 : List Nat} {g n col : Nat} {P : List Nat} {M : List (List Nat)} {rs : List Nat} {w w' : World} (h : SwP F M0 rs0 g n col P M rs w) (hb : Bx (fun _=>False) w w') : SwP F M0 rs0 g n col P M rs w':=
 ⟨h.om.bx hb id fun _ _=>id,h.mn,h.len,h.sw,h.sp,h.blk⟩
theorem SwP.none {F : Gf} (hF : Ok F) {M0 : List (List Nat)} {rs0 : List Nat} {g n col : Nat} {P : List Nat} {M : List (List Nat)} {rs : List Nat} {w w' : World} (h : SwP F M0 rs0 g n col P M rs w) (hz : ∀ j,j < M.length → P.length ≤ j → (M.getD j []).getD col 0 = 0) (hb : Bx (fun _=>False) w w') : SwP F M0 rs0 g n (col + 1) P M rs w':=
 ⟨h.om.bx hb id fun _ _=>id,h.mn,h.len,h.sw.none hF fun k hk hk'=>by rw [List.length_map] at hk; rw [map_fn_get]; exact hz k hk hk',h.sp,h.blk⟩
theorem SwP.swap {F : Gf} (hF : Ok F) {M0 : List (List Nat)} {rs0 : List Nat} {g n col : Nat} {P : List Nat} {M : List (List Nat)} {rs : List Nat} {w w' : World} (h : SwP F M0 rs0 g n col P M rs w) {i : Nat} (hi : i < M.length) (hp : P.length ≤ i)
  (ho : OM (swg [] M P.length i) g (swg 0 rs P.length i) n w') : SwP F M0 rs0 g n col P (swg [] M P.length i) (swg 0 rs P.length i) w':=by
 have ha : P.length < M.length:=by omega
 refine ⟨ho,swg_mn h.mn ha hi,by rw [swg_len]; exact h.len,?_,fun v=>?_,fun k hk=>?_⟩
 ·rw [swg_fn]; exact h.sw.swap hF (by rw [List.length_map]; exact hi) hp
 ·rw [swg_fn]; exact (swp_sp hF h.sw.vs (by rw [List.length_map]; exact ha) (by rw [List.length_map]; exact hi) v).trans (h.sp v)
 ·rw [swg_len] at hk
  rw [swg_sw (by rw [h.om.len]; exact ha) (by rw [h.om.len]; exact hi)]
  exact h.blk _ (sw_lt ha hi hk)
theorem SwP.iso {F : Gf} (hF : Ok F) {M0 : List (List Nat)} {rs0 : List Nat} {g n col : Nat} {P : List Nat} {M : List (List Nat)} {rs : List Nat} {w w' : World} (h : SwP F M0 rs0 g n col P M rs w) (ha : P.length < M.length) (hc : (M.getD P.length []).getD col 0 ≠ 0)
  (ho : OM (isoK F M P.length col M.length) g rs n w') : SwP F M0 rs0 g n (col + 1) (P ++ [col]) (isoK F M P.length col M.length) rs w':=by
 have hc' : (M.map fn).getD P.length pz col ≠ 0:=by rw [map_fn_get]; exact hc
 refine ⟨ho,isoK_mn hF h.mn ha _,by rw [isoK_len]; exact h.len,?_,fun v=>?_,fun k hk=>?_⟩
 ·rw [isoK_fn hF h.mn ha]; exact h.sw.piv hF (by rw [List.length_map]; exact ha) hc'
 ·rw [isoK_fn hF h.mn ha]; exact (iso_sp hF h.sw.vs (by rw [List.length_map]; exact ha) hc' v).trans (h.sp v)
 ·rw [isoK_len] at hk; exact h.blk k hk
theorem SwP.mb {F : Gf} {M0 : List (List Nat)} {rs0 : List Nat} {g n col : Nat} {P : List Nat} {M : List (List Nat)} {rs : List Nat} {w a b : World} (h : SwP F M0 rs0 g n col P M rs w) (hb : Bx (fun j=>∃ i,i < M.length ∧ j = rs.getD i 0) a b) : Bx (Mb M0 rs0 g) a b:=
 hb.mono fun j ⟨i,hi,e⟩=>by
  obtain ⟨k,hk,e2⟩:=h.blk i hi
  exact .inr ⟨k,hk,by rw [e,e2]⟩
theorem own_bx {w w' : World} {S : Nat → Prop} {base : Nat} {e : TypeId} {size : Nat} {v : Value} {n : Nat} {xs : List Value} (h : w.ownsRow base e size v n xs) (hb : Bx S w w') (hs : ∀ k,base ≤ k → ¬ S k) : w'.ownsRow base e size v n xs:=by
 obtain ⟨h1,h2⟩:=h
 refine ⟨h1,h2.imp_right ?_⟩
 rintro ⟨g,cap,cur,a1,a2,a3,a4⟩
 have hg : g < w.heap.size:=by
  rcases Nat.lt_or_ge g w.heap.size with h | h
  ·exact h
  ·rw [Array.getElem?_eq_none h] at a3; cases a3
 exact ⟨g,cap,cur,a1,a2,(hb.block g hg (hs g a2)).trans a3,a4⟩
theorem Bx.grown {w w' : World} {row : Option Nat} {base : Nat} (hg : w.grownBy w' row) (hr : ∀ k,row = some k → base ≤ k) : Bx (fun j=>base ≤ j) w w':=
 ⟨hg.os,hg.tape,hg.output,hg.size,fun k hk hs=>hg.block k hk fun e=>hs (hr k e.symm)⟩
theorem Bx.comp {S : Nat → Prop} {a b c : World} {base : Nat} (h : Bx S a b) (k : Bx (fun j=>base ≤ j) b c) (hb : a.heap.size ≤ base) : Bx S a c:=
 ⟨k.os.trans h.os,k.tape.trans h.tape,k.output.trans h.output,Nat.le_trans h.size k.size,fun i hi hs=>(k.block i (Nat.lt_of_lt_of_le hi h.size) (by omega)).trans (h.block i hi hs)⟩
theorem SwP.past {F : Gf} {M0 : List (List Nat)} {rs0 : List Nat} {g n col : Nat} {P : List Nat} {M : List (List Nat)} {rs : List Nat} {w w' : World} {base : Nat} (h : SwP F M0 rs0 g n col P M rs w) (hb : Bx (fun j=>base ≤ j) w w') (hs : ∀ k,base ≤ k → ¬ Mb M0 rs0 g k) : SwP F M0 rs0 g n col P M rs w':=
 ⟨h.om.bx hb (fun e=>hs g e (.inl rfl)) (fun i hi e=>by obtain ⟨j,hj,e2⟩:=h.blk i hi; exact hs _ e (.inr ⟨j,hj,e2⟩)),h.mn,h.len,h.sw,h.sp,h.blk⟩
set_option maxHeartbeats 6400000 in
theorem sweep_c {F : Gf} {b cap n cols c : Nat} {M0 : List (List Nat)} {g : Nat} {rs0 : List Nat} {W : World} (hA : FldAt F b cap W) (hn : n ≤ 1000) (hl : M0.length ≤ 1000) (hcn : cols ≤ n) (h : OM M0 g rs0 n W) (hm : Mn F n M0) (hbg : b ≠ g) (hb : ∀ i,i < M0.length → b ≠ rs0.getD i 0) :
  Calls Try.prog 82 #[MV F b cap n (.slice (some ⟨g,0,none⟩) M0.length c),.int .i64 (cols : Nat)] W fun e w'=>∃ P M rs a ca,e = .returned (.slice a P.length ca) ∧ NN P w' (.slice a P.length ca) ∧ SwP F M0 rs0 g n cols P M rs w' ∧ Bx (Mb M0 rs0 g) W w' ∧ (∀ r o,a = some ⟨r,o,none⟩ → W.heap.size < r):=by
 obtain ⟨i0,hi,hz0,hz1,hz2⟩:=info_parts info3
 have HFF : Hid (Ok F):=Lib.hid (ok_mem hA.mem)
 have ha0 : Below W.heap.size W (W.alloc (.cells #[.int .i64 F.p,.int .i64 F.e,FM F b cap,.int .i64 (n : Nat),.slice (some ⟨g,0,none⟩) M0.length c] 79)):=(Below.refl _ _).alloc (Nat.le_refl _) _
 have HX0 : Hid (Bx (Mb M0 rs0 g) W (W.alloc (.cells #[.int .i64 F.p,.int .i64 F.e,FM F b cap,.int .i64 (n : Nat),.slice (some ⟨g,0,none⟩) M0.length c] 79))):=Lib.hid (Bx.of ha0)
 have HXN : Hid (Bx (fun _=>False) W (W.alloc (.cells #[.int .i64 F.p,.int .i64 F.e,FM F b cap,.int .i64 (n : Nat),.slice (some ⟨g,0,none⟩) M0.length c] 79))):=Lib.hid (Bx.of ha0)
 have HB0 : Hid (MB W.heap.size F b cap n (.slice (some ⟨g,0,none⟩) M0.length c) (W.alloc (.cells #[.int .i64 F.p,.int .i64 F.e,FM F b cap,.int .i64 (n : Nat),.slice (some ⟨g,0,none⟩) M0.length c] 79))):=Lib.hid ⟨World.cell?_alloc_at _ _ _ _ rfl,World.cell?_alloc_at _ _ _ _ rfl,World.cell?_alloc_at _ _ _ _ rfl,World.cell?_alloc_at _ _ _ _ rfl,World.cell?_alloc_at _ _ _ _ rfl⟩
 have HS0 : Hid (W.heap.size < (W.alloc (.cells #[.int .i64 F.p,.int .i64 F.e,FM F b cap,.int .i64 (n : Nat),.slice (some ⟨g,0,none⟩) M0.length c] 79)).heap.size):=Lib.hid (by simp)
 have HF0:=Lib.hid (hA.below ha0)
 have HLT : Hid (∀ k,W.heap.size ≤ k → ¬ Mb M0 rs0 g k):=Lib.hid (by
  rintro k hk (e | ⟨i,hi,e⟩)
  ·have:=h.glt; omega
  ·have:=(h.rw' i hi).lt; omega)
 have HBM : Hid (¬ Mb M0 rs0 g b):=Lib.hid (by
  rintro (e | ⟨i,hi,e⟩)
  ·exact hbg e
  ·exact hb i hi e)
 have HSW0 : Hid (SwP F M0 rs0 g n 0 [] M0 rs0 (W.alloc (.cells #[.int .i64 F.p,.int .i64 F.e,FM F b cap,.int .i64 (n : Nat),.slice (some ⟨g,0,none⟩) M0.length c] 79))):=
  Lib.hid ⟨h.bx HXN.out id fun _ _=>id,hm,rfl,Sw.start HFF.out (Mn.vs HFF.out hm),fun v=>Iff.rfl,fun i hi=>⟨i,hi,rfl⟩⟩
 clear hA h hm hbg hb ha0
 go_enter Try.func82,Try.ntmps82
 go_wp2
 go_loopw [5,9] (fun v i wr=>∃ (k : Nat) (P : List Nat) (M : List (List Nat)) (rs : List Nat),k ≤ cols ∧ i = .int .i64 k ∧ Hid (wr.ownsRow (W.heap.size + 1) 3 1 v P.length (P.map N64)) ∧ Hid (P.length ≤ k) ∧ Hid (SwP F M0 rs0 g n k P M rs wr) ∧ Hid (Bx (Mb M0 rs0 g) (W.alloc (.cells #[.int .i64 F.p,.int .i64 F.e,FM F b cap,.int .i64 (n : Nat),.slice (some ⟨g,0,none⟩) M0.length c] 79)) wr) ∧ Hid (FldAt F b cap wr)) (fun _ i _=>cols - (intOf i).toNat)
 case atStart=>exact ⟨0,[],M0,rs0,Nat.zero_le _,rfl,nil_own _ _,Lib.hid (by simp),HSW0,Bx.refl _ _,HF0⟩
 case round =>
  obtain ⟨k,P,M,rs,hk,rfl,HO,HPK,HSW,KB,KF⟩:=hrel
  obtain ⟨a,ca,rfl⟩:=(NN.of_owns HO.out).shape
  obtain ⟨x0,x1,x2,x3,x4⟩:=MB.bx HB0.out KB.out HS0.out (HLT.out _ (Nat.le_refl _))
  by_cases hlt : k < cols
  ·have HLM:=Lib.hid HSW.out.len
   have hpl : P.length ≤ M.length:=by have:=HSW.out.sw.le; rwa [List.length_map] at this
   have HR : Hid (Calls Try.prog 96 #[MV F b cap n (.slice (some ⟨g,0,none⟩) M0.length c),.int .i64 (P.length : Nat),.int .i64 (k : Nat)] wr (RaiseP M g rs n P.length k wr)):=Lib.hid (by
    have t:=raise_c (F:=F) (b:=b) (cap:=cap) (c:=c) hn (by rw [HLM.out]; exact hl) (show k < n by omega) hpl HSW.out.om
    rwa [HLM.out] at t)
   clear hpl
   have hk5 : k < 1000:=by omega
   go_wp2_with fail
   with_reducible refine HR.out.mono ?_
   rintro z w1 (⟨rfl,hz,hb1⟩ | ⟨i,rfl,hpi,hil,hnz,hom,hb1⟩)
   ·have HSW1:=Lib.hid (HSW.out.none HFF.out hz hb1)
    have HB1:=Lib.hid (KB.out.trans (hb1.mono fun _ e=>e.elim))
    have HF1:=Lib.hid (KF.out.bx hb1 id)
    have HO1:=Lib.hid (own_bx HO.out hb1 fun _ _=>id)
    have HPK1 : Hid (P.length ≤ k + 1):=Lib.hid (Nat.le_succ_of_le HPK.out)
    clear hz hb1 x0 x1 x2 x3 x4
    go_wp2
    go_roundw
    case rel=>exact ⟨k + 1,P,M,rs,by omega,by go_num,HO1,HPK1,HSW1,HB1,HF1⟩
    case measure=>simp [intOf]; omega
   ·have hbM : Bx (Mb M0 rs0 g) wr w1:=hb1.mono fun j e=>.inl e
    have HSW1:=Lib.hid (HSW.out.swap HFF.out hil hpi hom)
    have HNZ1 : Hid ((((swg [] M P.length i)).getD P.length []).getD k 0 ≠ 0):=Lib.hid (by
     rw [swg_at (by omega) hil]
     split
     ·rename_i e; rw [e]; exact hnz
     ·rw [if_pos rfl]; exact hnz)
    have HB1:=Lib.hid (KB.out.trans hbM)
    have HF1:=Lib.hid (KF.out.bx hbM HBM.out)
    have HO1:=Lib.hid (own_bx HO.out hbM fun k hk=>HLT.out k (by omega))
    have HPL : Hid (P.length < M.length):=Lib.hid (by omega)
    clear hnz hom hb1 hbM x0 x1 x2 x3 x4 hpi hil
    have HLS : Hid ((swg [] M P.length i).length = M.length):=Lib.hid (swg_len _ _ _ _)
    generalize swg [] M P.length i = M1 at *
    generalize swg 0 rs P.length i = rs1 at *
    obtain ⟨y0,y1,y2,y3,y4⟩:=MB.bx HB0.out HB1.out HS0.out (HLT.out _ (Nat.le_refl _))
    have HI : Hid (Calls Try.prog 97 #[MV F b cap n (.slice (some ⟨g,0,none⟩) M0.length c),.int .i64 (P.length : Nat),.int .i64 (k : Nat)] w1 fun e w'=>e = .returned (.tuple #[]) ∧ OM (isoK F M1 P.length k M1.length) g rs1 n w' ∧ Bx (fun j=>∃ i,i < M1.length ∧ j = rs1.getD i 0) w1 w'):=Lib.hid (by
     have t:=isolate_c (c:=c) HF1.out (fun i hi=>(HSW1.out.get hi).el) hn (by rw [HLS.out,HLM.out]; exact hl) (show k < n by omega) (by rw [HLS.out]; exact HPL.out) HNZ1.out HSW1.out.om (fun i hi e=>HBM.out (by obtain ⟨j,hj,e2⟩:=HSW1.out.blk i hi; exact .inr ⟨j,hj,by rw [e,e2]⟩))
     have e : M1.length = M0.length:=HLS.out.trans HLM.out
     generalize isoK F M1 P.length k M1.length = Z at *
     rw [e] at t ⊢
     exact t)
    go_wp2_with fail
    with_reducible refine HI.out.mono ?_
    rintro z w2 ⟨rfl,hom,hbx⟩
    have HSW2:=Lib.hid (HSW1.out.iso HFF.out (by rw [HLS.out]; exact HPL.out) HNZ1.out hom)
    have hbM:=HSW1.out.mb hbx
    have HB2:=Lib.hid (HB1.out.trans hbM)
    have HO2:=Lib.hid (own_bx HO1.out hbM fun k hk=>HLT.out k (by omega))
    have HZ2 : Hid (W.heap.size + 1 ≤ w2.heap.size):=Lib.hid (Nat.le_trans HS0.out HB2.out.size)
    have hpl2 : P.length ≤ 1000:=by have:=HPK.out; omega
    clear hom hbx hbM y0 y1 y2 y3 y4
    generalize isoK F M1 P.length k M1.length = M2 at *
    go_wp2_with (at_builtin; refine wpList_append_own _ rfl _ _ 27 rfl (W.heap.size + 1) 3 i0 (.int .i64 0) 1 8 Try.underlying27 hi hz0 hz1 hz2 rfl (by decide) _ _ _ rfl (HO2.out.alloc _) ⟨w2.heap.size,0,none⟩ 1 1 [.int .i64 (k : Nat)] rfl rfl ?c1 ?c2 ?c3 ?c4 ?c5 ?_)
    case c1 =>
     intro j u hj
     match j,hj with
     | 0,hj=>simp at hj; subst hj; simp [Addr.add]
    case c2=>intro u hu; simp at hu; subst hu; rfl
    case c3=>unfold maxLen; omega
    case c4=>omega
    case c5=>have:=HZ2.out; simp; omega
    intro v' w3 hown' hgrow hnil
    have hb4 : Bx (fun j=>W.heap.size + 1 ≤ j) w2 w3:=(Bx.of ((Below.refl _ _).alloc (Nat.le_refl _) _)).trans (Bx.grown hgrow fun k hk=>(HO2.out.lt k hk).1)
    have HO3 : Hid (w3.ownsRow (W.heap.size + 1) 3 1 v' (P ++ [k]).length ((P ++ [k]).map N64)):=Lib.hid (by rw [List.length_append,List.length_singleton,List.map_append]; exact hown')
    have HB3:=Lib.hid (HB2.out.comp hb4 (by simp))
    have HF3:=Lib.hid (HF0.out.bx HB3.out HBM.out)
    have HSW3:=Lib.hid (HSW2.out.past hb4 fun k hk=>HLT.out k (by omega))
    have HPK3 : Hid ((P ++ [k]).length ≤ k + 1):=Lib.hid (by rw [List.length_append,List.length_singleton]; exact Nat.succ_le_succ HPK.out)
    clear hown' hgrow hnil hb4
    go_wp2
    go_roundw
    case rel=>exact ⟨k + 1,P ++ [k],M2,rs1,by omega,by go_num,HO3,HPK3,HSW3,HB3,HF3⟩
    case measure=>simp [intOf]; omega
  ·obtain rfl : k = cols:=by omega
   have HN:=Lib.hid (NN.of_owns HO.out)
   have HBF:=Lib.hid (HX0.out.trans KB.out)
   have HFR : Hid (∀ r o,a = some ⟨r,o,none⟩ → W.heap.size < r):=Lib.hid (fun r o e=>by subst e; exact (HO.out.lt r rfl).1)
   clear x0 x1 x2 x3 x4
   go_wp2
   go_ret
   exact ⟨P,M,rs,a,ca,rfl,HN.out,HSW.out,HBF.out,HFR.out⟩
theorem take_getD {α : Type} {d : α} {l : List α} {m i : Nat} (h : i < m) : (l.take m).getD i d = l.getD i d:=by
 rw [List.getD_eq_getElem?_getD,List.getD_eq_getElem?_getD,List.getElem?_take_of_lt h]
theorem OM.take {M : List (List Nat)} {g n : Nat} {rs : List Nat} {w : World} (h : OM M g rs n w) {m : Nat} (hm : m ≤ M.length) : OM (M.take m) g (rs.take m) n w:=by
 have hl : (M.take m).length = m:=by rw [List.length_take]; omega
 have hl2 : rs.length = M.length:=h.len
 refine ⟨h.glt,by rw [List.length_take,List.length_take,hl2],fun i hi=>?_,h.gfz,fun i hi=>?_,fun i hi=>?_,fun i hi k hk e=>?_,fun i hi=>?_⟩
 all_goals rw [hl] at hi
 ·rw [take_getD hi]; exact h.row i (by omega)
 ·rw [take_getD hi,take_getD hi]; exact h.rw' i (by omega)
 ·rw [take_getD hi]; exact h.wid i (by omega)
 ·rw [hl] at hk; rw [take_getD hi,take_getD hk]; exact h.nd i (by omega) k (by omega) e
 ·rw [take_getD hi]; exact h.ng i (by omega)
end Go.Proofs.Yteeofijcndgbfaa
