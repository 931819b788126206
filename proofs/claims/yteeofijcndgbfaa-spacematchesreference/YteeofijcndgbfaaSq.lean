/- Join. -/
import Derived.Test.YteeofijcndgbfaaSo
namespace Go.Proofs.Yteeofijcndgbfaa
open Go.RowKit Go.Fl
set_option maxRecDepth 100000
set_option linter.unusedVariables false
set_option linter.unusedSimpArgs false
set_option linter.unusedSectionVars false
def MPost (R : List (List Nat)) (W : World) (e : Ending) (w' : World) : Prop:=∃ a c,e = .returned (.slice a R.length c) ∧ MM R w' (.slice a R.length c) ∧ Below W.heap.size W w'
theorem OM.mm {D : List (List Nat)} {g n c : Nat} {rs : List Nat} {w : World} (h : OM D g rs n w) (hc : D.length ≤ c) : MM D w (.slice (some ⟨g,0,none⟩) D.length c):=
 .inr ⟨g,0,c,rfl,hc,h.glt,fun t ht=>⟨some ⟨rs.getD t 0,0,none⟩,n,by rw [Nat.zero_add,h.wid t ht]; exact h.row t ht,.inr ⟨rs.getD t 0,0,n,rfl,by rw [h.wid t ht]; exact Nat.le_refl _,(h.rw' t ht).lt,fun s hs=>by rw [Nat.zero_add]; exact (h.rw' t ht).cell s hs⟩⟩⟩
theorem OV.mm {D : List (List Nat)} {g : Nat} {rs : List Nat} {n : Nat} {w : World} {v : Value} (h : OV D g rs n w v) : MM D w v:=by
 rcases h with h | ⟨c,rfl,hc,h⟩
 ·exact .inl h
 ·exact h.mm hc
theorem LM.one {A : List (List Nat)} {w : World} {a : Option Addr} {c : Nat} (h : MM A w (.slice a A.length c)) : LM [A] (w.alloc (.cells #[.slice a A.length c] 30)) (.slice (some ⟨w.heap.size,0,none⟩) 1 1):=by
 refine .inr ⟨w.heap.size,0,1,rfl,Nat.le_refl _,by simp,fun t ht=>?_⟩
 have hb : Below w.heap.size w (w.alloc (.cells #[.slice a A.length c] 30)):=(Below.refl _ _).alloc (Nat.le_refl _) _
 match t,ht with
 | 0,_=>exact ⟨a,c,World.cell?_alloc_at _ _ _ _ rfl,h.below hb⟩
theorem LM.two {A B : List (List Nat)} {w : World} {a a' : Option Addr} {c c' : Nat} (h : MM A w (.slice a A.length c)) (h' : MM B w (.slice a' B.length c')) : LM [A,B] (w.alloc (.cells #[.slice a A.length c,.slice a' B.length c'] 30)) (.slice (some ⟨w.heap.size,0,none⟩) 2 2):=by
 refine .inr ⟨w.heap.size,0,2,rfl,Nat.le_refl _,by simp,fun t ht=>?_⟩
 have hb : Below w.heap.size w (w.alloc (.cells #[.slice a A.length c,.slice a' B.length c'] 30)):=(Below.refl _ _).alloc (Nat.le_refl _) _
 match t,ht with
 | 0,_=>exact ⟨a,c,World.cell?_alloc_at _ _ _ _ rfl,h.below hb⟩
 | 1,_=>exact ⟨a',c',World.cell?_alloc_at _ _ _ _ rfl,h'.below hb⟩
theorem mrow {F : Gf} {n : Nat} {A : List (List Nat)} (h : Mn F n A) {k : Nat} (hk : k < A.length) : Vn F n (A.getD k []):=h _ (by rw [List.getD_eq_getElem?_getD,List.getElem?_eq_getElem hk]; exact List.getElem_mem hk)
theorem mapp {F : Gf} {n : Nat} {A B : List (List Nat)} (h : Mn F n A) (h' : Mn F n B) : Mn F n (A ++ B):=fun r hr=>by
 rcases List.mem_append.1 hr with hr | hr
 ·exact h r hr
 ·exact h' r hr
theorem wd2 {F : Gf} {n : Nat} {A B : List (List Nat)} (h : Mn F n A) (h' : Mn F n B) : ∀ t,t < [A,B].length → ∀ k,k < ([A,B].getD t []).length → (([A,B].getD t []).getD k []).length = n:=fun t ht k hk=>by
 match t,ht with
 | 0,_=>exact (mrow h hk).len
 | 1,_=>exact (mrow h' hk).len
theorem wd1 {F : Gf} {n : Nat} {A : List (List Nat)} (h : Mn F n A) : ∀ t,t < [A].length → ∀ k,k < ([A].getD t []).length → (([A].getD t []).getD k []).length = n:=fun t ht k hk=>by
 match t,ht with
 | 0,_=>exact (mrow h hk).len
theorem over2 {F : Gf} {b cap n c c' : Nat} {a a' : Option Addr} {A B : List (List Nat)} {w : World} (hA : FldAt F b cap w) (hn : n ≤ 24) (la : A.length ≤ 500) (lb : B.length ≤ 500) (ma : Mn F n A) (mb : Mn F n B) (h : MM A w (.slice a A.length c)) (h' : MM B w (.slice a' B.length c')) :
  Calls Try.prog 54 #[FV F b cap,.int .i64 (n : Nat),.slice (some ⟨w.heap.size,0,none⟩) 2 2] (w.alloc (.cells #[.slice a A.length c,.slice a' B.length c'] 30)) (OverP F b cap n (A ++ B) (w.alloc (.cells #[.slice a A.length c,.slice a' B.length c'] 30))):=by
 have t:=over_c (F:=F) (b:=b) (cap:=cap) (n:=n) (Ms:=[A,B]) (hA.below ((Below.refl _ _).alloc (Nat.le_refl _) (.cells #[.slice a A.length c,.slice a' B.length c'] 30))) (by omega) (by simp) (by simp; omega) (wd2 ma mb) (LM.two h h')
 rw [show [A,B].flatten = A ++ B from by simp] at t
 exact t
theorem have2 {F : Gf} {b cap n c c' : Nat} {a a' : Option Addr} {A B : List (List Nat)} {w : World} (hn : n ≤ 24) (la : A.length ≤ 500) (lb : B.length ≤ 500) (ma : Mn F n A) (mb : Mn F n B) (h : MM A w (.slice a A.length c)) (h' : MM B w (.slice a' B.length c')) :
  Calls Try.prog 49 #[.int .i64 (n : Nat),.slice (some ⟨w.heap.size,0,none⟩) 2 2] (w.alloc (.cells #[.slice a A.length c,.slice a' B.length c'] 30)) fun e w'=>e = .returned (.bool (decide (1 ≤ n))) ∧ Below (w.alloc (.cells #[.slice a A.length c,.slice a' B.length c'] 30)).heap.size (w.alloc (.cells #[.slice a A.length c,.slice a' B.length c'] 30)) w':=by
 have hw:=wd2 ma mb
 have t:=haveWd_c (n:=n) (Ms:=[A,B]) (by omega) (by simp) (fun t ht=>by
  match t,ht with
  | 0,_=>show A.length ≤ _; omega
  | 1,_=>show B.length ≤ _; omega) (fun t ht k hk=>by rw [hw t ht k hk]; omega) (LM.two h h')
 rw [wdM_yes hw,Bool.and_true,show decide (1 ≤ n ∧ n ≤ 24) = decide (1 ≤ n) from by simp [hn]] at t
 exact t
theorem wM_two {F : Gf} {n : Nat} {A B : List (List Nat)} (ma : Mn F n A) (mb : Mn F n B) : wM [A,B] = if A ++ B = [] then 0 else n:=by
 cases A with
 | cons r A=>simp only [wM,List.cons_append,reduceCtorEq,if_false]; exact (ma r (by simp)).len
 | nil=>cases B with
  | cons r B=>simp only [wM,List.nil_append,reduceCtorEq,if_false]; exact (mb r (by simp)).len
  | nil=>rfl
set_option maxHeartbeats 6400000 in
theorem join_c {F : Gf} {b cap n ca cb : Nat} {A B : List (List Nat)} {aa ab : Option Addr} {W : World} (hA : FldAt F b cap W) (h1 : 1 ≤ n) (hn : n ≤ 24) (la : A.length ≤ 500) (lb : B.length ≤ 500) (ma : Mn F n A) (mb : Mn F n B) (na : MM A W (.slice aa A.length ca)) (nb : MM B W (.slice ab B.length cb)) :
  Calls Try.prog 28 #[FV F b cap,.slice aa A.length ca,.slice ab B.length cb] W (MPost (redM F n (A ++ B)) W):=by
 obtain ⟨lA,eA⟩ : ∃ l,A.length = l:=⟨_,rfl⟩
 obtain ⟨lB,eB⟩ : ∃ l,B.length = l:=⟨_,rfl⟩
 obtain ⟨w1,hw1⟩ : ∃ w1,w1 = W.alloc (.cells #[.int .i64 F.p,.int .i64 F.e,FM F b cap] 29):=⟨_,rfl⟩
 obtain ⟨k,hk⟩ : ∃ k,wM [A,B] = k:=⟨_,rfl⟩
 have HK : Hid (k = if A ++ B = [] then 0 else n):=Lib.hid (by rw [← hk,wM_two ma mb])
 have HAL : Hid (Below W.heap.size W w1):=Lib.hid (by rw [hw1]; exact (Below.refl _ _).alloc (Nat.le_refl _) _)
 have HS1 : Hid (w1.heap.size = W.heap.size + 1):=Lib.hid (by rw [hw1]; simp)
 have HFB : Hid (w1.cell? ⟨W.heap.size,0,none⟩ = some (.int .i64 F.p) ∧ w1.cell? ⟨W.heap.size,1,none⟩ = some (.int .i64 F.e) ∧ w1.cell? ⟨W.heap.size,2,none⟩ = some (FM F b cap)):=Lib.hid (by rw [hw1]; exact ⟨World.cell?_alloc_at _ _ _ _ rfl,World.cell?_alloc_at _ _ _ _ rfl,World.cell?_alloc_at _ _ _ _ rfl⟩)
 have HF1:=Lib.hid (hA.below HAL.out)
 have HNA:=Lib.hid (na.below HAL.out)
 have HNB:=Lib.hid (nb.below HAL.out)
 have HW : Hid (Calls Try.prog 63 #[.slice (some ⟨W.heap.size + 1,0,none⟩) 2 2] (w1.alloc (.cells #[.slice aa lA ca,.slice ab lB cb] 30)) fun e w'=>e = .returned (.int .i64 (k : Nat)) ∧ Below (w1.alloc (.cells #[.slice aa lA ca,.slice ab lB cb] 30)).heap.size (w1.alloc (.cells #[.slice aa lA ca,.slice ab lB cb] 30)) w'):=Lib.hid (by
  have t:=width_c (Ms:=[A,B]) (by simp) (LM.two HNA.out HNB.out)
  rw [hk,eA,eB,HS1.out] at t; exact t)
 have HMA:=Lib.hid ma
 have HMB:=Lib.hid mb
 have EA:=Lib.hid eA
 have EB:=Lib.hid eB
 have HW1:=Lib.hid hw1
 rw [eA] at la ⊢
 rw [eB] at lb ⊢
 clear hA ma mb na nb hk hw1 eA eB
 go_enter Try.func28,Try.ntmps28
 go_wp2_with fail
 rw [← HW1.out]
 clear HW1
 with_reducible refine HW.out.mono ?_
 rintro z w2 ⟨rfl,hb⟩
 have HB2 : Hid (Below w1.heap.size w1 w2):=Lib.hid ((((Below.refl _ _).alloc (Nat.le_refl _) _)).trans (hb.mono (by simp)))
 have HBW : Hid (Below W.heap.size W w2):=Lib.hid (HAL.out.trans (HB2.out.mono HAL.out.size))
 have HF2:=Lib.hid (HF1.out.below HB2.out)
 have HNA2:=Lib.hid (HNA.out.below HB2.out)
 have HNB2:=Lib.hid (HNB.out.below HB2.out)
 have hs1 : W.heap.size < w1.heap.size:=by have:=HS1.out; omega
 obtain ⟨f0,f1,f2⟩:=HFB.out
 have f0:=(HB2.out.cell hs1).trans f0
 have f1:=(HB2.out.cell hs1).trans f1
 have f2:=(HB2.out.cell hs1).trans f2
 have HSZ : Hid (W.heap.size < w2.heap.size):=Lib.hid (Nat.lt_of_lt_of_le hs1 HB2.out.size)
 clear hb HW HF1 HNA HNB hs1
 by_cases he : A ++ B = []
 ·have hk0 : k = 0:=by rw [HK.out,if_pos he]
  subst hk0
  obtain ⟨hA0,hB0⟩:=List.append_eq_nil_iff.1 he
  have HW : Hid (Calls Try.prog 49 #[.int .i64 0,.slice (some ⟨w2.heap.size,0,none⟩) 2 2] (w2.alloc (.cells #[.slice aa lA ca,.slice ab lB cb] 30)) fun e w'=>e = .returned (.bool false) ∧ Below (w2.alloc (.cells #[.slice aa lA ca,.slice ab lB cb] 30)).heap.size (w2.alloc (.cells #[.slice aa lA ca,.slice ab lB cb] 30)) w'):=Lib.hid (by
   have t:=haveWd_c (n:=0) (Ms:=[A,B]) (by omega) (by simp) (fun t ht=>by
    match t,ht with
    | 0,_=>show A.length ≤ _; have:=EA.out; omega
    | 1,_=>show B.length ≤ _; have:=EB.out; omega) (fun t ht k hk=>by
    rw [wd2 (F:=F) HMA.out HMB.out t ht k hk]; omega) (LM.two HNA2.out HNB2.out)
   rw [EA.out,EB.out] at t; exact t)
  have HE : Hid (redM F n (A ++ B) = []):=Lib.hid (by rw [he]; rfl)
  clear he hA0 hB0
  go_wp2_with fail
  with_reducible refine HW.out.mono ?_
  rintro z w3 ⟨rfl,hb⟩
  have HBF : Hid (Below W.heap.size W w3):=Lib.hid ((HBW.out.alloc HBW.out.size _).trans (hb.mono (by have:=HBW.out.size; simp; omega)))
  clear hb
  go_wp2
  go_ret
  exact ⟨none,0,by rw [HE.out]; rfl,.inl ⟨HE.out,by rw [HE.out]; rfl⟩,HBF.out⟩
 ·have hk0 : k = n:=by rw [HK.out,if_neg he]
  subst hk0
  have HW : Hid (Calls Try.prog 49 #[.int .i64 (k : Nat),.slice (some ⟨w2.heap.size,0,none⟩) 2 2] (w2.alloc (.cells #[.slice aa lA ca,.slice ab lB cb] 30)) fun e w'=>e = .returned (.bool true) ∧ Below (w2.alloc (.cells #[.slice aa lA ca,.slice ab lB cb] 30)).heap.size (w2.alloc (.cells #[.slice aa lA ca,.slice ab lB cb] 30)) w'):=Lib.hid (by
   have t:=have2 (F:=F) (b:=b) (cap:=cap) (n:=k) hn (by rw [EA.out]; exact la) (by rw [EB.out]; exact lb) HMA.out HMB.out HNA2.out HNB2.out
   rw [EA.out,EB.out,show decide (1 ≤ k) = true from by simpa using h1] at t; exact t)
  clear he
  go_wp2_with fail
  with_reducible refine HW.out.mono ?_
  rintro z w3 ⟨rfl,hb⟩
  have HB3 : Hid (Below w2.heap.size w2 w3):=Lib.hid ((((Below.refl _ _).alloc (Nat.le_refl _) _)).trans (hb.mono (by simp)))
  have HBW3 : Hid (Below W.heap.size W w3):=Lib.hid (HBW.out.trans (HB3.out.mono HBW.out.size))
  have HF3:=Lib.hid (HF2.out.below HB3.out)
  have HNA3:=Lib.hid (HNA2.out.below HB3.out)
  have HNB3:=Lib.hid (HNB2.out.below HB3.out)
  have f0:=(HB3.out.cell HSZ.out).trans f0
  have f1:=(HB3.out.cell HSZ.out).trans f1
  have f2:=(HB3.out.cell HSZ.out).trans f2
  have HO : Hid (Calls Try.prog 54 #[FV F b cap,.int .i64 (k : Nat),.slice (some ⟨w3.heap.size,0,none⟩) 2 2] (w3.alloc (.cells #[.slice aa lA ca,.slice ab lB cb] 30)) (OverP F b cap k (A ++ B) (w3.alloc (.cells #[.slice aa lA ca,.slice ab lB cb] 30)))):=Lib.hid (by
   have t:=over2 HF3.out hn (by rw [EA.out]; exact la) (by rw [EB.out]; exact lb) HMA.out HMB.out HNA3.out HNB3.out
   rw [EA.out,EB.out] at t; exact t)
  clear hb HW HF2 HNA2 HNB2
  go_wp2_with fail
  with_reducible refine HO.out.mono ?_
  rintro z w4 ⟨rs,v,rfl,hor,-,-,hb⟩
  have HB4 : Hid (Below w3.heap.size w3 w4):=Lib.hid ((((Below.refl _ _).alloc (Nat.le_refl _) _)).trans (hb.mono (by simp)))
  have HBW4 : Hid (Below W.heap.size W w4):=Lib.hid (HBW3.out.trans (HB4.out.mono HBW3.out.size))
  have HF4:=Lib.hid (HF3.out.below HB4.out)
  have HLO : Hid (b < w3.heap.size ∧ W.heap.size ≤ w3.heap.size):=Lib.hid ⟨HF3.out.lt,HBW3.out.size⟩
  obtain ⟨g,hov,hg⟩:=hor.ov
  have HG : Hid (w3.heap.size < g):=Lib.hid (by simp at hg; omega)
  have HRS : Hid (∀ i,i < (A ++ B).length → w3.heap.size < rs.getD i 0):=Lib.hid (fun i hi=>by have:=hor.lo i hi; simp at this ⊢; omega)
  have HR : Hid (Calls Try.prog 59 #[MV F b cap k v] w4 (RedP F b cap k (A ++ B) rs g w4)):=Lib.hid (reduced_v HF4.out (by omega) (by rw [List.length_append,EA.out,EB.out]; omega) hov (mapp HMA.out HMB.out) (by have:=HG.out; have:=HLO.out; omega) fun i hi=>by have:=HRS.out i hi; have:=HLO.out; omega)
  obtain ⟨aV,nV,cV,hvs⟩ : ∃ a m c,v = .slice a m c:=by obtain ⟨a,c,e⟩:=hor.shape; exact ⟨a,_,c,e⟩
  subst hvs
  clear hb hor hov hg HO f0 f1 f2
  go_wp2_with fail
  with_reducible refine HR.out.mono ?_
  rintro z w5 ⟨rs2,v2,a2,c2,rfl,-,hov,-,hbx⟩
  have HB5 : Hid (Below W.heap.size W w5):=Lib.hid (HBW4.out.trans (hbx.below HBW4.out.size (by
   rintro j (e | ⟨i,hi,e⟩)
   ·have:=HG.out; have:=HLO.out; omega
   ·have:=HRS.out i hi; have:=HLO.out; omega)))
  obtain ⟨aW,cW,hvs⟩:=hov.shape
  have HM:=Lib.hid hov.mm
  subst hvs
  clear hov hbx HR
  go_wp2
  go_ret
  exact ⟨aW,cW,rfl,HM.out.below ((Below.refl _ _).alloc (Nat.le_refl _) _),HB5.out.alloc HB5.out.size _⟩
theorem MPost.back {R : List (List Nat)} {W W1 : World} {e : Ending} {w' : World} (h : MPost R W1 e w') (hb : Below W.heap.size W W1) : MPost R W e w':=by
 obtain ⟨a,c,h1,h2,h3⟩:=h
 exact ⟨a,c,h1,h2,hb.trans (h3.mono hb.size)⟩
abbrev FBx (B : Nat) (F : Gf) (b cap : Nat) (w : World) : Prop:=w.cell? ⟨B,0,none⟩ = some (.int .i64 F.p) ∧ w.cell? ⟨B,1,none⟩ = some (.int .i64 F.e) ∧ w.cell? ⟨B,2,none⟩ = some (FM F b cap)
theorem FBx.below {B b cap : Nat} {F : Gf} {w w' : World} (h : FBx B F b cap w) (hb : Below w.heap.size w w') (hB : B < w.heap.size) : FBx B F b cap w':=⟨(hb.cell hB).trans h.1,(hb.cell hB).trans h.2.1,(hb.cell hB).trans h.2.2⟩
theorem FBx.new (W : World) (F : Gf) (b cap : Nat) : FBx W.heap.size F b cap (W.alloc (.cells #[.int .i64 F.p,.int .i64 F.e,FM F b cap] 29)):=⟨World.cell?_alloc_at _ _ _ _ rfl,World.cell?_alloc_at _ _ _ _ rfl,World.cell?_alloc_at _ _ _ _ rfl⟩
set_option maxHeartbeats 1600000 in
theorem reduce_c {F : Gf} {b cap n ca : Nat} {A : List (List Nat)} {aa : Option Addr} {W : World} (hA : FldAt F b cap W) (h1 : 1 ≤ n) (hn : n ≤ 24) (la : A.length ≤ 500) (ma : Mn F n A) (na : MM A W (.slice aa A.length ca)) :
  Calls Try.prog 15 #[FV F b cap,.slice aa A.length ca] W (MPost (redM F n A) W):=by
 obtain ⟨lA,eA⟩ : ∃ l,A.length = l:=⟨_,rfl⟩
 have HAL : Hid (Below W.heap.size W (W.alloc (.cells #[.int .i64 F.p,.int .i64 F.e,FM F b cap] 29))):=Lib.hid ((Below.refl _ _).alloc (Nat.le_refl _) _)
 have HJ : Hid (Calls Try.prog 28 #[FV F b cap,.slice aa lA ca,.slice none 0 0] (W.alloc (.cells #[.int .i64 F.p,.int .i64 F.e,FM F b cap] 29)) (MPost (redM F n A) (W.alloc (.cells #[.int .i64 F.p,.int .i64 F.e,FM F b cap] 29)))):=Lib.hid (by
  have t:=join_c (B:=[]) (ab:=none) (cb:=0) (hA.below HAL.out) h1 hn la (by simp) ma (fun r hr=>by cases hr) (na.below HAL.out) (.inl ⟨rfl,rfl⟩)
  rw [List.append_nil,eA] at t; exact t)
 rw [eA] at la ⊢
 clear hA ma na eA
 go_enter Try.func15,Try.ntmps15
 go_wp2_with fail
 with_reducible refine HJ.out.mono ?_
 rintro z w1 hm
 obtain ⟨a,c,rfl,hm2,hb⟩:=hm.back HAL.out
 have HM : Hid (MPost (redM F n A) W (.returned (.slice a (redM F n A).length c)) w1):=Lib.hid ⟨a,c,rfl,hm2,hb⟩
 clear hm hm2 hb
 go_wp2
 go_ret
 exact HM.out
set_option maxHeartbeats 1600000 in
theorem rank_c {F : Gf} {b cap n ca : Nat} {A : List (List Nat)} {aa : Option Addr} {W : World} (hA : FldAt F b cap W) (h1 : 1 ≤ n) (hn : n ≤ 24) (la : A.length ≤ 500) (ma : Mn F n A) (na : MM A W (.slice aa A.length ca)) :
  Calls Try.prog 17 #[FV F b cap,.slice aa A.length ca] W fun e w'=>e = .returned (.int .i64 ((redM F n A).length : Nat)) ∧ Below W.heap.size W w':=by
 obtain ⟨lA,eA⟩ : ∃ l,A.length = l:=⟨_,rfl⟩
 have HAL : Hid (Below W.heap.size W (W.alloc (.cells #[.int .i64 F.p,.int .i64 F.e,FM F b cap] 29))):=Lib.hid ((Below.refl _ _).alloc (Nat.le_refl _) _)
 obtain ⟨R,hR⟩ : ∃ R,redM F n A = R:=⟨_,rfl⟩
 have HJ : Hid (Calls Try.prog 15 #[FV F b cap,.slice aa lA ca] (W.alloc (.cells #[.int .i64 F.p,.int .i64 F.e,FM F b cap] 29)) (MPost R (W.alloc (.cells #[.int .i64 F.p,.int .i64 F.e,FM F b cap] 29)))):=Lib.hid (by
  have t:=reduce_c (hA.below HAL.out) h1 hn la ma (na.below HAL.out)
  rw [hR,eA] at t; exact t)
 obtain ⟨lR,hlR⟩ : ∃ l,R.length = l:=⟨_,rfl⟩
 rw [hR,hlR]
 rw [eA] at la ⊢
 have HLR:=Lib.hid hlR
 clear hA ma na eA hR hlR
 go_enter Try.func17,Try.ntmps17
 go_wp2_with fail
 with_reducible refine HJ.out.mono ?_
 rintro z w1 hm
 obtain ⟨a,c,rfl,hm2,hb⟩:=hm.back HAL.out
 have HB:=Lib.hid hb
 rw [HLR.out]
 clear hm hm2 hb
 go_wp2
 go_ret
 exact ⟨rfl,HB.out⟩
theorem over1 {F : Gf} {b cap n c : Nat} {a : Option Addr} {A : List (List Nat)} {w : World} (hA : FldAt F b cap w) (hn : n ≤ 24) (la : A.length ≤ 500) (ma : Mn F n A) (h : MM A w (.slice a A.length c)) :
  Calls Try.prog 54 #[FV F b cap,.int .i64 (n : Nat),.slice (some ⟨w.heap.size,0,none⟩) 1 1] (w.alloc (.cells #[.slice a A.length c] 30)) (OverP F b cap n A (w.alloc (.cells #[.slice a A.length c] 30))):=by
 have t:=over_c (F:=F) (b:=b) (cap:=cap) (n:=n) (Ms:=[A]) (hA.below ((Below.refl _ _).alloc (Nat.le_refl _) (.cells #[.slice a A.length c] 30))) (by omega) (by simp) (by simp; omega) (wd1 ma) (LM.one h)
 rw [show [A].flatten = A from by simp] at t
 exact t
theorem have1 {F : Gf} {n c : Nat} {a : Option Addr} {A : List (List Nat)} {w : World} (hn : n ≤ 24) (la : A.length ≤ 500) (ma : Mn F n A) (h : MM A w (.slice a A.length c)) :
  Calls Try.prog 49 #[.int .i64 (n : Nat),.slice (some ⟨w.heap.size,0,none⟩) 1 1] (w.alloc (.cells #[.slice a A.length c] 30)) fun e w'=>e = .returned (.bool (decide (1 ≤ n))) ∧ Below (w.alloc (.cells #[.slice a A.length c] 30)).heap.size (w.alloc (.cells #[.slice a A.length c] 30)) w':=by
 have hw:=wd1 ma
 have t:=haveWd_c (n:=n) (Ms:=[A]) (by omega) (by simp) (fun t ht=>by
  match t,ht with
  | 0,_=>show A.length ≤ _; omega) (fun t ht k hk=>by rw [hw t ht k hk]; omega) (LM.one h)
 rw [wdM_yes hw,Bool.and_true,show decide (1 ≤ n ∧ n ≤ 24) = decide (1 ≤ n) from by simp [hn]] at t
 exact t
theorem field79 (x y : Int) (m : Value) (n : Int) (a : Option Addr) (l c : Nat) (w : World) : (Instr.field 79 (.agg #[.int .i64 x,.int .i64 y,m,.int .i64 n,.slice a l c]) 2).run Try.prog w = .ok (.slice a l c) w:=by kernel_rfl
theorem over_kernel {F : Gf} {b cap n : Nat} {A : List (List Nat)} {W w : World} {rs : List Nat} {v : Value} (hA : FldAt F b cap w) (hn : n ≤ 24) (la : A.length ≤ 1000) (ma : Mn F n A) (hb : b < W.heap.size) (hs : W.heap.size < w.heap.size) (h : OR A rs n (W.heap.size + 1) w v) :
  Calls Try.prog 55 #[MV F b cap n v] w fun e w'=>∃ g' rs' v',e = .returned (MV F b cap n v') ∧ OV (kerM F n A) g' rs' n w' v' ∧ Bx (fun k=>W.heap.size ≤ k) w w':=by
 obtain ⟨g,hov,hg⟩:=h.ov
 by_cases he : g < w.heap.size
 ·refine (kernel_c hA (by omega) la hov ma (by omega) (fun i hi=>by have:=h.lo i hi; omega) he).mono ?_
  rintro e w' ⟨g',rs',v',h1,h2,h3⟩
  refine ⟨g',rs',v',h1,h2,h3.mono ?_⟩
  rintro k (e | ⟨i,hi,e⟩)
  ·omega
  ·have:=h.lo i hi; omega
 ·rcases hov with ⟨e1,e2⟩ | ⟨_,_,_,ho⟩
  ·refine (kernel_c (g:=W.heap.size) (rs0:=[]) hA (by omega) la (.inl ⟨e1,e2⟩) ma hb (fun i hi=>by rw [e1] at hi; simp at hi) hs).mono ?_
   rintro e w' ⟨g',rs',v',h1,h2,h3⟩
   refine ⟨g',rs',v',h1,h2,h3.mono ?_⟩
   rintro k (e | ⟨i,hi,e⟩)
   ·omega
   ·rw [e1] at hi; simp at hi
  ·exact absurd ho.glt he
set_option maxHeartbeats 6400000 in
theorem kern_c {F : Gf} {b cap n ca : Nat} {A : List (List Nat)} {aa : Option Addr} {W : World} (hA : FldAt F b cap W) (h1 : 1 ≤ n) (hn : n ≤ 24) (la : A.length ≤ 500) (ma : Mn F n A) (na : MM A W (.slice aa A.length ca)) :
  Calls Try.prog 18 #[FV F b cap,.int .i64 (n : Nat),.slice aa A.length ca] W (MPost (kerM F n A) W):=by
 obtain ⟨lA,eA⟩ : ∃ l,A.length = l:=⟨_,rfl⟩
 obtain ⟨w1,hw1⟩ : ∃ w1,w1 = W.alloc (.cells #[.int .i64 F.p,.int .i64 F.e,FM F b cap] 29):=⟨_,rfl⟩
 have HAL : Hid (Below W.heap.size W w1):=Lib.hid (by rw [hw1]; exact (Below.refl _ _).alloc (Nat.le_refl _) _)
 have HS1 : Hid (w1.heap.size = W.heap.size + 1):=Lib.hid (by rw [hw1]; simp)
 have HFB : Hid (FBx W.heap.size F b cap w1):=Lib.hid (by rw [hw1]; exact FBx.new W F b cap)
 have HF1:=Lib.hid (hA.below HAL.out)
 have HNA:=Lib.hid (na.below HAL.out)
 have HW : Hid (Calls Try.prog 49 #[.int .i64 (n : Nat),.slice (some ⟨W.heap.size + 1,0,none⟩) 1 1] (w1.alloc (.cells #[.slice aa lA ca] 30)) fun e w'=>e = .returned (.bool true) ∧ Below (w1.alloc (.cells #[.slice aa lA ca] 30)).heap.size (w1.alloc (.cells #[.slice aa lA ca] 30)) w'):=Lib.hid (by
  have t:=have1 hn la ma HNA.out
  rw [eA,HS1.out,show decide (1 ≤ n) = true from by simpa using h1] at t; exact t)
 have HMA:=Lib.hid ma
 have EA:=Lib.hid eA
 have HW1:=Lib.hid hw1
 rw [eA] at la ⊢
 clear hA ma na hw1 eA
 go_enter Try.func18,Try.ntmps18
 go_wp2_with fail
 rw [← HW1.out]
 clear HW1
 with_reducible refine HW.out.mono ?_
 rintro z w3 ⟨rfl,hb⟩
 have HB3 : Hid (Below w1.heap.size w1 w3):=Lib.hid ((((Below.refl _ _).alloc (Nat.le_refl _) _)).trans (hb.mono (by simp)))
 have HBW3 : Hid (Below W.heap.size W w3):=Lib.hid (HAL.out.trans (HB3.out.mono HAL.out.size))
 have HF3:=Lib.hid (HF1.out.below HB3.out)
 have HNA3:=Lib.hid (HNA.out.below HB3.out)
 obtain ⟨f0,f1,f2⟩:=HFB.out.below HB3.out (by have:=HS1.out; omega)
 have HO : Hid (Calls Try.prog 54 #[FV F b cap,.int .i64 (n : Nat),.slice (some ⟨w3.heap.size,0,none⟩) 1 1] (w3.alloc (.cells #[.slice aa lA ca] 30)) (OverP F b cap n A (w3.alloc (.cells #[.slice aa lA ca] 30)))):=Lib.hid (by
  have t:=over1 HF3.out hn (by rw [EA.out]; exact la) HMA.out HNA3.out
  rw [EA.out] at t; exact t)
 clear hb HW HF1 HNA
 go_wp2_with fail
 with_reducible refine HO.out.mono ?_
 rintro z w4 ⟨rs,v,rfl,hor,-,-,hb⟩
 have HB4 : Hid (Below w3.heap.size w3 w4):=Lib.hid ((((Below.refl _ _).alloc (Nat.le_refl _) _)).trans (hb.mono (by simp)))
 have HBW4 : Hid (Below W.heap.size W w4):=Lib.hid (HBW3.out.trans (HB4.out.mono HBW3.out.size))
 have HK : Hid (Calls Try.prog 55 #[MV F b cap n v] w4 fun e w'=>∃ g' rs' v',e = .returned (MV F b cap n v') ∧ OV (kerM F n A) g' rs' n w' v' ∧ Bx (fun k=>w3.heap.size ≤ k) w4 w'):=Lib.hid (over_kernel (HF3.out.below HB4.out) hn (by rw [EA.out]; omega) HMA.out HF3.out.lt (by have:=hb.size; simp at this; omega) (hor.weak (by simp)))
 obtain ⟨aV,nV,cV,hvs⟩ : ∃ a m c,v = .slice a m c:=by obtain ⟨a,c,e⟩:=hor.shape; exact ⟨a,_,c,e⟩
 subst hvs
 clear hb hor HO f0 f1 f2
 go_wp2_with fail
 with_reducible refine HK.out.mono ?_
 rintro z w5 ⟨g',rs2,v2,rfl,hov,hbx⟩
 have HB5 : Hid (Below W.heap.size W w5):=Lib.hid (HBW4.out.trans (hbx.below HBW4.out.size fun k hk=>Nat.le_trans HBW3.out.size hk))
 obtain ⟨aW,cW,hvs⟩:=hov.shape
 have HM:=Lib.hid hov.mm
 subst hvs
 clear hov hbx HK
 have hfd:=fun w=>field79 F.p F.e (FM F b cap) (n : Nat) aW (kerM F n A).length cW w
 go_wp2
 go_ret
 exact ⟨aW,cW,rfl,HM.out,HB5.out⟩
end Go.Proofs.Yteeofijcndgbfaa
