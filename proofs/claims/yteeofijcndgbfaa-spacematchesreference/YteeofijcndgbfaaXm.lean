/- Matrices with any integers: their widths, elements, Valid, Vector. -/
import Derived.Test.YteeofijcndgbfaaEvTk
import Derived.Test.YteeofijcndgbfaaXg
import Derived.Test.YteeofijcndgbfaaTn
namespace Go.Proofs.Yteeofijcndgbfaa
open Go.RowKit Go.Fl
set_option maxRecDepth 100000
set_option linter.unusedVariables false
set_option linter.unusedSimpArgs false
set_option linter.unusedSectionVars false
namespace Iv
def NN (L : List Int) (w : World) (v : Value) : Prop:=(L = [] ∧ v = .slice none 0 0) ∨ ∃ b off cap,v = .slice (some ⟨b,off,none⟩) L.length cap ∧ L.length ≤ cap ∧ b < w.heap.size ∧ ∀ t,t < L.length → w.cell? ⟨b,off + t,none⟩ = some (.int .i64 (L.getD t 0))
theorem NN.below {L : List Int} {w w' : World} {v : Value} (h : NN L w v) (hb : Below w.heap.size w w') : NN L w' v:=by
 rcases h with h | ⟨b,off,cap,h4,h2,h5,h6⟩
 ·exact .inl h
 ·exact .inr ⟨b,off,cap,h4,h2,Nat.lt_of_lt_of_le h5 hb.size,fun t ht=>(hb.cell h5).trans (h6 t ht)⟩
theorem NN.shape {L : List Int} {w : World} {v : Value} (h : NN L w v) : ∃ a c,v = .slice a L.length c:=by
 rcases h with ⟨rfl,rfl⟩ | ⟨b,off,cap,rfl,_⟩
 ·exact ⟨none,0,rfl⟩
 ·exact ⟨_,_,rfl⟩
theorem NN.at {L : List Int} {w : World} {a : Option Addr} {c : Nat} (h : NN L w (.slice a L.length c)) {k : Nat} (hk : k < L.length) : ∃ b o,a = some ⟨b,o,none⟩ ∧ w.cell? ⟨b,o + k,none⟩ = some (.int .i64 (L.getD k 0)):=by
 rcases h with ⟨e,h⟩ | ⟨b',off',cap',h,g1,g2,g3⟩
 ·rw [e] at hk; simp at hk
 ·injection h with h1 h2 h3; exact ⟨b',off',h1,g3 k hk⟩
def MM (R : List (List Int)) (w : World) (v : Value) : Prop:=(R = [] ∧ v = .slice none 0 0) ∨ ∃ b off cap,v = .slice (some ⟨b,off,none⟩) R.length cap ∧ R.length ≤ cap ∧ b < w.heap.size ∧
 ∀ t,t < R.length → ∃ a c,w.cell? ⟨b,off + t,none⟩ = some (.slice a (R.getD t []).length c) ∧ NN (R.getD t []) w (.slice a (R.getD t []).length c)
theorem MM.below {R : List (List Int)} {w w' : World} {v : Value} (h : MM R w v) (hb : Below w.heap.size w w') : MM R w' v:=by
 rcases h with h | ⟨b,off,cap,h1,h2,h3,h4⟩
 ·exact .inl h
 ·refine .inr ⟨b,off,cap,h1,h2,Nat.lt_of_lt_of_le h3 hb.size,fun t ht=>?_⟩
  obtain ⟨a,c,g1,g2⟩:=h4 t ht
  exact ⟨a,c,(hb.cell h3).trans g1,g2.below hb⟩
theorem MM.at {R : List (List Int)} {w : World} {a : Option Addr} {c : Nat} (h : MM R w (.slice a R.length c)) {k : Nat} (hk : k < R.length) : ∃ b o,a = some ⟨b,o,none⟩ ∧ ∃ a' c',w.cell? ⟨b,o + k,none⟩ = some (.slice a' (R.getD k []).length c') ∧ NN (R.getD k []) w (.slice a' (R.getD k []).length c'):=by
 rcases h with ⟨e,h⟩ | ⟨b',off',cap',h,g1,g2,g3⟩
 ·rw [e] at hk; simp at hk
 ·injection h with h1 h2 h3; exact ⟨b',off',h1,g3 k hk⟩
theorem MM.shape {R : List (List Int)} {w : World} {v : Value} (h : MM R w v) : ∃ a c,v = .slice a R.length c:=by
 rcases h with ⟨rfl,h⟩ | ⟨b,off,cap,h,_⟩
 ·exact ⟨none,0,h⟩
 ·exact ⟨_,_,h⟩
def elV (q : Nat) (V : List Int) : Bool:=V.all fun x=>decide (0 ≤ x ∧ x < (q : Int))
def elM (q : Nat) (R : List (List Int)) : Bool:=R.all (elV q)
theorem elV_no {q : Nat} {V : List Int} {k : Nat} (hk : k < V.length) (h : ¬ (0 ≤ V.getD k 0 ∧ V.getD k 0 < (q : Int))) : elV q V = false:=by
 unfold elV
 rw [List.all_eq_false]
 refine ⟨V[k],List.getElem_mem hk,?_⟩
 rw [List.getD_eq_getElem?_getD,List.getElem?_eq_getElem hk] at h
 simpa using h
theorem elV_yes {q : Nat} {V : List Int} (h : ∀ k,k < V.length → 0 ≤ V.getD k 0 ∧ V.getD k 0 < (q : Int)) : elV q V = true:=by
 unfold elV
 rw [List.all_eq_true]
 intro x hx
 obtain ⟨k,hk,rfl⟩:=List.getElem_of_mem hx
 have:=h k hk
 rw [List.getD_eq_getElem?_getD,List.getElem?_eq_getElem hk] at this
 simpa using this
theorem elM_no {q : Nat} {R : List (List Int)} {t k : Nat} (ht : t < R.length) (hk : k < (R.getD t []).length) (h : ¬ (0 ≤ (R.getD t []).getD k 0 ∧ (R.getD t []).getD k 0 < (q : Int))) : elM q R = false:=by
 unfold elM
 rw [List.all_eq_false]
 refine ⟨R[t],List.getElem_mem ht,?_⟩
 have e : R.getD t [] = R[t]:=by rw [List.getD_eq_getElem?_getD,List.getElem?_eq_getElem ht]; rfl
 rw [e] at hk h
 rw [elV_no hk h]; decide
theorem elM_yes {q : Nat} {R : List (List Int)} (h : ∀ t,t < R.length → ∀ k,k < (R.getD t []).length → 0 ≤ (R.getD t []).getD k 0 ∧ (R.getD t []).getD k 0 < (q : Int)) : elM q R = true:=by
 unfold elM
 rw [List.all_eq_true]
 intro r hr
 obtain ⟨t,ht,rfl⟩:=List.getElem_of_mem hr
 have e : R.getD t [] = R[t]:=by rw [List.getD_eq_getElem?_getD,List.getElem?_eq_getElem ht]; rfl
 exact elV_yes (by have:=h t ht; rwa [e] at this)
set_option maxHeartbeats 1600000 in
theorem haveEl_c {q : Nat} {R : List (List Int)} {a : Option Addr} {c : Nat} {W : World} (hq : q ≤ 100) (hl : R.length ≤ 100000) (hr : ∀ t,t < R.length → (R.getD t []).length ≤ 100000) (h : MM R W (.slice a R.length c)) :
  Calls Try.prog 51 #[.int .i64 (q : Nat),.slice a R.length c] W fun e w'=>e = .returned (.bool (elM q R)) ∧ Below W.heap.size W w':=by
 have HN:=Lib.hid h
 have HL:=Lib.hid hr
 clear h hr
 go_enter Try.func51,Try.ntmps51
 go_wp2
 go_loopw [11] (fun i wr=>∃ k : Nat,k ≤ R.length ∧ i = .int .i64 k ∧ Hid (∀ t,t < k → ∀ j,j < (R.getD t []).length → 0 ≤ (R.getD t []).getD j 0 ∧ (R.getD t []).getD j 0 < (q : Int)) ∧ Hid (Below W.heap.size W wr)) (fun i _=>R.length - (intOf i).toNat)
 case atStart=>exact ⟨0,Nat.zero_le _,rfl,Lib.hid (fun j hj=>by omega),Below.refl _ _⟩
 case round =>
  obtain ⟨t,ht,rfl,KZ,KB⟩:=hrel
  by_cases hlt : t < R.length
  ·obtain ⟨L,hL⟩ : ∃ L,R.getD t [] = L:=⟨_,rfl⟩
   obtain ⟨b1,o1,rfl,a1,c1,hc,hn⟩:=(HN.out.below KB.out).at hlt
   have hll:=HL.out t hlt
   rw [hL] at hc hn hll
   have ht5 : t < 100000:=by omega
   have HX:=Lib.hid hL
   have HN1:=Lib.hid hn
   have HLT:=Lib.hid hlt
   clear hL hn
   go_wp2
   go_loopw [17] (fun i wi=>∃ k : Nat,k ≤ L.length ∧ i = .int .i64 k ∧ Hid (∀ j,j < k → 0 ≤ L.getD j 0 ∧ L.getD j 0 < (q : Int)) ∧ Hid (Below wr.heap.size wr wi)) (fun i _=>L.length - (intOf i).toNat)
   case atStart=>exact ⟨0,Nat.zero_le _,rfl,Lib.hid (fun j hj=>by omega),Below.refl _ _⟩
   case round =>
    obtain ⟨k,hk,rfl,KZ1,KB1⟩:=hrel
    by_cases hlt1 : k < L.length
    ·obtain ⟨x,hx⟩ : ∃ x,L.getD k 0 = x:=⟨_,rfl⟩
     obtain ⟨b2,o2,rfl,hc2⟩:=(HN1.out.below KB1.out).at hlt1
     rw [hx] at hc2
     have hk5 : k < 100000:=by omega
     have HX1:=Lib.hid hx
     clear hx
     by_cases hx0 : x < 0
     ·have HR : Hid (elM q R = false):=Lib.hid (elM_no HLT.out (by rw [HX.out]; exact hlt1) (by rw [HX.out,HX1.out]; omega))
      have HBF:=Lib.hid (KB.out.trans (KB1.out.mono KB.out.size))
      go_wp2
      go_ret
      exact ⟨by rw [HR.out]; rfl,HBF.out⟩
     by_cases hxq : x < (q : Int)
     ·have hxq1 : ¬ (q : Int) ≤ (x : Int):=by omega
      go_wp2
      go_roundw
      case rel=>exact ⟨k + 1,by omega,by go_num,Lib.hid (fun j hj=>by
       by_cases e : j = k
       ·rw [e,HX1.out]; omega
       ·exact KZ1.out j (by omega)),KB1⟩
      case measure=>simp [intOf]; omega
     ·have hxq1 : (q : Int) ≤ (x : Int):=by omega
      have HR : Hid (elM q R = false):=Lib.hid (elM_no HLT.out (by rw [HX.out]; exact hlt1) (by rw [HX.out,HX1.out]; omega))
      have HBF:=Lib.hid (KB.out.trans (KB1.out.mono KB.out.size))
      go_wp2
      go_ret
      exact ⟨by rw [HR.out]; rfl,HBF.out⟩
    ·have hlt2 : ¬ (k : Int) < (L.length : Int):=by omega
     have HBF:=Lib.hid (KB.out.trans (KB1.out.mono KB.out.size))
     have HE : Hid (k = L.length):=Lib.hid (by omega)
     go_wp2
     go_roundw
     case rel=>exact ⟨t + 1,by omega,by go_num,Lib.hid (fun s hs j hj=>by
      by_cases e : s = t
      ·rw [e,HX.out] at hj ⊢; exact KZ1.out j (by have:=HE.out; omega)
      ·exact KZ.out s (by omega) j hj),HBF⟩
     case measure=>simp [intOf]; omega
  ·have HR : Hid (elM q R = true):=Lib.hid (elM_yes fun s hs j hj=>KZ.out s (by omega) j hj)
   have hlt1 : ¬ (t : Int) < (R.length : Int):=by omega
   have HBF:=Lib.hid KB.out
   go_wp2
   go_ret
   exact ⟨by rw [HR.out]; rfl,HBF.out⟩
def LM (Ms : List (List (List Int))) (w : World) (v : Value) : Prop:=(Ms = [] ∧ v = .slice none 0 0) ∨ ∃ b off cap,v = .slice (some ⟨b,off,none⟩) Ms.length cap ∧ Ms.length ≤ cap ∧ b < w.heap.size ∧
 ∀ t,t < Ms.length → ∃ a c,w.cell? ⟨b,off + t,none⟩ = some (.slice a (Ms.getD t []).length c) ∧ MM (Ms.getD t []) w (.slice a (Ms.getD t []).length c)
theorem LM.below {Ms : List (List (List Int))} {w w' : World} {v : Value} (h : LM Ms w v) (hb : Below w.heap.size w w') : LM Ms w' v:=by
 rcases h with h | ⟨b,off,cap,h1,h2,h3,h4⟩
 ·exact .inl h
 ·refine .inr ⟨b,off,cap,h1,h2,Nat.lt_of_lt_of_le h3 hb.size,fun t ht=>?_⟩
  obtain ⟨a,c,g1,g2⟩:=h4 t ht
  exact ⟨a,c,(hb.cell h3).trans g1,g2.below hb⟩
theorem LM.at {Ms : List (List (List Int))} {w : World} {a : Option Addr} {c : Nat} (h : LM Ms w (.slice a Ms.length c)) {k : Nat} (hk : k < Ms.length) : ∃ b o,a = some ⟨b,o,none⟩ ∧ ∃ a' c',w.cell? ⟨b,o + k,none⟩ = some (.slice a' (Ms.getD k []).length c') ∧ MM (Ms.getD k []) w (.slice a' (Ms.getD k []).length c'):=by
 rcases h with ⟨e,h⟩ | ⟨b',off',cap',h,g1,g2,g3⟩
 ·rw [e] at hk; simp at hk
 ·injection h with h1 h2 h3; exact ⟨b',off',h1,g3 k hk⟩
def wdM (n : Nat) (Ms : List (List (List Int))) : Bool:=Ms.all fun R=>R.all fun r=>r.length == n
theorem wdM_no {n : Nat} {Ms : List (List (List Int))} {t k : Nat} (ht : t < Ms.length) (hk : k < (Ms.getD t []).length) (h : ¬ ((Ms.getD t []).getD k []).length = n) : wdM n Ms = false:=by
 unfold wdM
 rw [List.all_eq_false]
 refine ⟨Ms[t],List.getElem_mem ht,?_⟩
 have e : Ms.getD t [] = Ms[t]:=by rw [List.getD_eq_getElem?_getD,List.getElem?_eq_getElem ht]; rfl
 rw [e] at hk h
 rw [Bool.not_eq_true,List.all_eq_false]
 refine ⟨Ms[t][k],List.getElem_mem hk,?_⟩
 rw [List.getD_eq_getElem?_getD,List.getElem?_eq_getElem hk] at h
 simpa using h
theorem wdM_yes {n : Nat} {Ms : List (List (List Int))} (h : ∀ t,t < Ms.length → ∀ k,k < (Ms.getD t []).length → ((Ms.getD t []).getD k []).length = n) : wdM n Ms = true:=by
 unfold wdM
 rw [List.all_eq_true]
 intro r hr
 obtain ⟨t,ht,rfl⟩:=List.getElem_of_mem hr
 rw [List.all_eq_true]
 intro x hx
 obtain ⟨k,hk,rfl⟩:=List.getElem_of_mem hx
 have e : Ms.getD t [] = Ms[t]:=by rw [List.getD_eq_getElem?_getD,List.getElem?_eq_getElem ht]; rfl
 have:=h t ht k (by rw [e]; exact hk)
 rw [e,List.getD_eq_getElem?_getD,List.getElem?_eq_getElem hk] at this
 simpa using this
set_option maxHeartbeats 1600000 in
theorem haveWd_c {n : Nat} {Ms : List (List (List Int))} {a : Option Addr} {c : Nat} {W : World} (hn : n ≤ 100000) (hl : Ms.length ≤ 100000) (hr : ∀ t,t < Ms.length → (Ms.getD t []).length ≤ 100000)
  (hr2 : ∀ t,t < Ms.length → ∀ k,k < (Ms.getD t []).length → ((Ms.getD t []).getD k []).length ≤ 100000) (h : LM Ms W (.slice a Ms.length c)) :
  Calls Try.prog 49 #[.int .i64 (n : Nat),.slice a Ms.length c] W fun e w'=>e = .returned (.bool (decide (1 ≤ n ∧ n ≤ 24) && wdM n Ms)) ∧ Below W.heap.size W w':=by
 have HN:=Lib.hid h
 have HL:=Lib.hid hr
 have HL2:=Lib.hid hr2
 clear h hr hr2
 obtain ⟨B,hB⟩ : ∃ B,(decide (1 ≤ n ∧ n ≤ 24) && wdM n Ms) = B:=⟨_,rfl⟩
 rw [hB]
 have HB:=Lib.hid hB
 clear hB
 go_enter Try.func49,Try.ntmps49
 by_cases h1 : n < 1
 ·have h1i : (n : Int) < 1:=by omega
  have HR : Hid (B = false):=Lib.hid (by rw [← HB.out,show decide (1 ≤ n ∧ n ≤ 24) = false from by simp; omega]; rfl)
  go_wp2
  go_ret
  exact ⟨by rw [HR.out]; rfl,Below.refl _ _⟩
 have h1i : ¬ (n : Int) < 1:=by omega
 by_cases h2 : 24 < n
 ·have h2i : (24 : Int) < (n : Int):=by omega
  have HR : Hid (B = false):=Lib.hid (by rw [← HB.out,show decide (1 ≤ n ∧ n ≤ 24) = false from by simp; omega]; rfl)
  go_wp2
  go_ret
  exact ⟨by rw [HR.out]; rfl,Below.refl _ _⟩
 have h2i : ¬ (24 : Int) < (n : Int):=by omega
 have HD : Hid (decide (1 ≤ n ∧ n ≤ 24) = true):=Lib.hid (by simp; omega)
 go_wp2
 go_loopw [17] (fun i wr=>∃ k : Nat,k ≤ Ms.length ∧ i = .int .i64 k ∧ Hid (∀ t,t < k → ∀ j,j < (Ms.getD t []).length → ((Ms.getD t []).getD j []).length = n) ∧ Hid (Below W.heap.size W wr)) (fun i _=>Ms.length - (intOf i).toNat)
 case atStart=>exact ⟨0,Nat.zero_le _,rfl,Lib.hid (fun j hj=>by omega),Below.refl _ _⟩
 case round =>
  obtain ⟨t,ht,rfl,KZ,KB⟩:=hrel
  by_cases hlt : t < Ms.length
  ·obtain ⟨L,hL⟩ : ∃ L,Ms.getD t [] = L:=⟨_,rfl⟩
   obtain ⟨b1,o1,rfl,a1,c1,hc,hn'⟩:=(HN.out.below KB.out).at hlt
   have hll:=HL.out t hlt
   have HLL:=Lib.hid (HL2.out t hlt)
   rw [hL] at hc hn' hll
   rw [hL] at HLL
   have ht5 : t < 100000:=by omega
   have HX:=Lib.hid hL
   have HN1:=Lib.hid hn'
   have HLT:=Lib.hid hlt
   clear hL hn'
   go_wp2
   go_loopw [23] (fun i wi=>∃ k : Nat,k ≤ L.length ∧ i = .int .i64 k ∧ Hid (∀ j,j < k → (L.getD j []).length = n) ∧ Hid (Below wr.heap.size wr wi)) (fun i _=>L.length - (intOf i).toNat)
   case atStart=>exact ⟨0,Nat.zero_le _,rfl,Lib.hid (fun j hj=>by omega),Below.refl _ _⟩
   case round =>
    obtain ⟨k,hk,rfl,KZ1,KB1⟩:=hrel
    by_cases hlt1 : k < L.length
    ·obtain ⟨x,hx⟩ : ∃ x,L.getD k [] = x:=⟨_,rfl⟩
     obtain ⟨b2,o2,rfl,a2,c2,hc2,-⟩:=(HN1.out.below KB1.out).at hlt1
     have hxl:=HLL.out k hlt1
     rw [hx] at hc2 hxl
     have hk5 : k < 100000:=by omega
     have HX1:=Lib.hid hx
     clear hx
     by_cases hxq : x.length = n
     ·have hxq1 : ((x.length : Int) != (n : Int)) = false:=by simp [hxq]
      go_wp2
      go_roundw
      case rel=>exact ⟨k + 1,by omega,by go_num,Lib.hid (fun j hj=>by
       by_cases e : j = k
       ·rw [e,HX1.out]; exact hxq
       ·exact KZ1.out j (by omega)),KB1⟩
      case measure=>simp [intOf]; omega
     ·have hxq1 : ((x.length : Int) != (n : Int)) = true:=by simp; omega
      have HR : Hid (B = false):=Lib.hid (by rw [← HB.out,wdM_no HLT.out (by rw [HX.out]; exact hlt1) (by rw [HX.out,HX1.out]; exact hxq),Bool.and_false])
      have HBF:=Lib.hid (KB.out.trans (KB1.out.mono KB.out.size))
      go_wp2
      go_ret
      exact ⟨by rw [HR.out]; rfl,HBF.out⟩
    ·have hlt2 : ¬ (k : Int) < (L.length : Int):=by omega
     have HBF:=Lib.hid (KB.out.trans (KB1.out.mono KB.out.size))
     have HE : Hid (k = L.length):=Lib.hid (by omega)
     go_wp2
     go_roundw
     case rel=>exact ⟨t + 1,by omega,by go_num,Lib.hid (fun s hs j hj=>by
      by_cases e : s = t
      ·rw [e,HX.out] at hj ⊢; exact KZ1.out j (by have:=HE.out; omega)
      ·exact KZ.out s (by omega) j hj),HBF⟩
     case measure=>simp [intOf]; omega
  ·have HR : Hid (B = true):=Lib.hid (by rw [← HB.out,HD.out,wdM_yes fun s hs j hj=>KZ.out s (by omega) j hj]; rfl)
   have hlt1 : ¬ (t : Int) < (Ms.length : Int):=by omega
   have HBF:=Lib.hid KB.out
   go_wp2
   go_ret
   exact ⟨by rw [HR.out]; rfl,HBF.out⟩
theorem LM.one {A : List (List Int)} {w : World} {a : Option Addr} {c : Nat} (h : MM A w (.slice a A.length c)) : LM [A] (w.alloc (.cells #[.slice a A.length c] 30)) (.slice (some ⟨w.heap.size,0,none⟩) 1 1):=by
 refine .inr ⟨w.heap.size,0,1,rfl,Nat.le_refl _,by simp,fun t ht=>?_⟩
 have hb : Below w.heap.size w (w.alloc (.cells #[.slice a A.length c] 30)):=(Below.refl _ _).alloc (Nat.le_refl _) _
 match t,ht with
 | 0,_=>exact ⟨a,c,World.cell?_alloc_at _ _ _ _ rfl,h.below hb⟩
set_option maxHeartbeats 3200000 in
theorem svalid_c {F : Gf} {b cap n m ca : Nat} {A : List (List Int)} {aa : Option Addr} {W : World} (hF : F ∈ fds.take 10) (hA : FldAt F b cap W) (hn : n ≤ 1000) (hm : m ≤ 1000) (la : A.length = m) (hr : ∀ t,t < A.length → (A.getD t []).length ≤ 1000) (na : MM A W (.slice aa m ca)) :
  Calls Try.prog 13 #[FV F b cap,.int .i64 (n : Nat),.slice aa m ca] W fun e w'=>e = .returned (.bool (decide (m ≤ 64) && ((decide (1 ≤ n ∧ n ≤ 24) && wdM n [A]) && elM F.q A))) ∧ Below W.heap.size W w':=by
 obtain ⟨w1,hw1⟩ : ∃ w1,w1 = W.alloc (.cells #[.int .i64 F.p,.int .i64 F.e,FM F b cap] 29):=⟨_,rfl⟩
 obtain ⟨w2,hw2⟩ : ∃ w2,w2 = w1.alloc (.cells #[.slice aa m ca] 30):=⟨_,rfl⟩
 have hal1 : Below W.heap.size W w1:=by rw [hw1]; exact (Below.refl _ _).alloc (Nat.le_refl _) _
 have hal2 : Below w1.heap.size w1 w2:=by rw [hw2]; exact (Below.refl _ _).alloc (Nat.le_refl _) _
 have HAL1:=Lib.hid hal1
 have HAL : Hid (Below W.heap.size W w2):=Lib.hid (hal1.trans (hal2.mono hal1.size))
 have HS1 : Hid (w1.heap.size = W.heap.size + 1):=Lib.hid (by rw [hw1]; simp)
 have HFB : Hid (FBx W.heap.size F b cap w2):=Lib.hid (FBx.below (by rw [hw1]; exact FBx.new W F b cap) hal2 (by rw [HS1.out]; exact Nat.lt_succ_self _))
 have HF2:=Lib.hid (hA.below HAL.out)
 have HM2:=Lib.hid (na.below HAL.out)
 have HLM : Hid (LM [A] w2 (.slice (some ⟨W.heap.size + 1,0,none⟩) 1 1)):=Lib.hid (by
  have t:=LM.one (A:=A) (w:=w1) (a:=aa) (c:=ca) (by rw [la]; exact na.below hal1)
  rw [la,← hw2,HS1.out] at t; exact t)
 obtain ⟨bw,hbw⟩ : ∃ x,(decide (1 ≤ n ∧ n ≤ 24) && wdM n [A]) = x:=⟨_,rfl⟩
 obtain ⟨be,hbe⟩ : ∃ x,elM F.q A = x:=⟨_,rfl⟩
 have HWD : Hid (Calls Try.prog 49 #[.int .i64 (n : Nat),.slice (some ⟨W.heap.size + 1,0,none⟩) 1 1] w2 fun e w'=>e = .returned (.bool bw) ∧ Below w2.heap.size w2 w'):=Lib.hid (by
  have t:=haveWd_c (n:=n) (Ms:=[A]) (a:=some ⟨W.heap.size + 1,0,none⟩) (c:=1) (W:=w2) (by omega) (by simp) (fun t ht=>by simp at ht; subst ht; show A.length ≤ _; omega) (fun t ht k hk=>by simp at ht; subst ht; exact Nat.le_trans (hr k hk) (by omega)) HLM.out
  rw [hbw] at t; exact t)
 have HEL : Hid (∀ w,MM A w (.slice aa m ca) → Calls Try.prog 51 #[.int .i64 (F.q : Nat),.slice aa m ca] w fun e w'=>e = .returned (.bool be) ∧ Below w.heap.size w w'):=Lib.hid fun w h=>by
  have t:=haveEl_c (q:=F.q) (R:=A) (a:=aa) (c:=ca) (W:=w) (q100 (List.mem_of_mem_take hF)) (by omega) (fun t ht=>Nat.le_trans (hr t ht) (by omega)) (by rw [la]; exact h)
  rw [la,hbe] at t; exact t
 rw [hbw,hbe]
 have HW1:=Lib.hid hw1
 have HW2:=Lib.hid hw2
 clear hw1 hw2 hal1 hal2 hA na hbw hbe
 by_cases h64 : m ≤ 64
 ·have h64i : (m : Int) ≤ 64:=by omega
  rw [show decide (m ≤ 64) = true from by simpa using h64,Bool.true_and]
  obtain ⟨rr,hrr⟩ : ∃ r,(bw && be) = r:=⟨_,rfl⟩
  have HRR:=Lib.hid hrr
  rw [hrr]
  clear hrr
  go_enter Try.func13,Try.ntmps13
  go_wp2_with fail
  rw [← HW1.out,← HW2.out]
  clear HW1 HW2
  with_reducible refine HWD.out.mono ?_
  rintro e w3 ⟨rfl,hb3⟩
  have HB3 : Hid (Below W.heap.size W w3):=Lib.hid (HAL.out.trans (hb3.mono HAL.out.size))
  have HK : Hid (W.heap.size < w2.heap.size):=Lib.hid (by have:=HAL.out.size; have:=HS1.out; have:=World.block_lt_of_cell? w2 _ HFB.out.1; omega)
  obtain ⟨f0,f1,f2⟩:=FBx.below HFB.out hb3 HK.out
  have HFV : Hid (Calls Try.prog 50 #[FV F b cap] w3 fun e w'=>e = .returned (.bool true) ∧ Below w3.heap.size w3 w'):=Lib.hid (fvalid_c hF (HF2.out.below hb3))
  have HF3:=Lib.hid (HF2.out.below hb3)
  have HM3:=Lib.hid (HM2.out.below hb3)
  have HK3 : Hid (W.heap.size < w3.heap.size):=Lib.hid (Nat.lt_of_lt_of_le HK.out hb3.size)
  have HFB3 : Hid (FBx W.heap.size F b cap w3):=Lib.hid ⟨f0,f1,f2⟩
  clear hb3
  cases bw with
  | false =>
   go_wp2_with fail
   go_ret
   exact ⟨by rw [← HRR.out]; rfl,HB3.out⟩
  | true =>
   go_wp2_with fail
   with_reducible refine HFV.out.mono ?_
   rintro e w4 ⟨rfl,hb4⟩
   clear f0 f1 f2
   obtain ⟨f0,f1,f2⟩:=FBx.below HFB3.out hb4 HK3.out
   have HB4 : Hid (Below W.heap.size W w4):=Lib.hid (HB3.out.trans (hb4.mono HB3.out.size))
   have HSZ : Hid (Calls Try.prog 52 #[FV F b cap] w4 fun e w'=>e = .returned (.int .i64 (F.q : Nat)) ∧ Below w4.heap.size w4 w'):=Lib.hid (fsize_c (HF3.out.below hb4))
   have HM4:=Lib.hid (HM3.out.below hb4)
   clear hb4
   go_wp2_with fail
   with_reducible refine HSZ.out.mono ?_
   rintro e w5 ⟨rfl,hb5⟩
   have HB5 : Hid (Below W.heap.size W w5):=Lib.hid (HB4.out.trans (hb5.mono HB4.out.size))
   have HE5:=Lib.hid (HEL.out w5 (HM4.out.below hb5))
   clear hb5
   go_wp2_with fail
   with_reducible refine HE5.out.mono ?_
   rintro e w6 ⟨rfl,hb6⟩
   have HB6 : Hid (Below W.heap.size W w6):=Lib.hid (HB5.out.trans (hb6.mono HB5.out.size))
   clear hb6
   go_wp2_with fail
   go_ret
   exact ⟨by rw [← HRR.out]; rfl,HB6.out⟩
 ·have h64i : ¬ (m : Int) ≤ 64:=by omega
  rw [show decide (m ≤ 64) = false from by simpa using h64,Bool.false_and]
  go_enter Try.func13,Try.ntmps13
  go_wp2_with fail
  go_ret
  rw [← HW1.out]
  exact ⟨rfl,HAL1.out⟩
set_option maxHeartbeats 3200000 in
theorem vec_c {F : Gf} {b cap n l ca : Nat} {V : List Int} {aa : Option Addr} {W : World} (hA : FldAt F b cap W) (hn : n ≤ 1000) (hl5 : l ≤ 1000) (hl : V.length = l) (nv : NN V W (.slice aa l ca)) :
  Calls Try.prog 39 #[FV F b cap,.int .i64 (n : Nat),.slice aa l ca] W fun e w'=>e = .returned (.bool (decide (l = n) && elV F.q V)) ∧ Below W.heap.size W w':=by
 have HFF : Hid (Ok F):=Lib.hid (ok_mem hA.mem)
 obtain ⟨w1,hw1⟩ : ∃ w1,w1 = (W.alloc (.cells #[.int .i64 F.p,.int .i64 F.e,FM F b cap] 29)):=⟨_,rfl⟩
 have HAL : Hid (Below W.heap.size W w1):=Lib.hid (by rw [hw1]; exact (Below.refl _ _).alloc (Nat.le_refl _) _)
 have HS1 : Hid (W.heap.size < w1.heap.size):=Lib.hid (by rw [hw1]; simp)
 have HFB : Hid (FBx W.heap.size F b cap w1):=Lib.hid (by rw [hw1]; exact FBx.new W F b cap)
 have HF1:=Lib.hid (hA.below HAL.out)
 have HNV:=Lib.hid (nv.below HAL.out)
 have HVL:=Lib.hid hl
 have HW1:=Lib.hid hw1
 obtain ⟨B,hB⟩ : ∃ B,Hid ((decide (l = n) && elV F.q V) = B):=⟨_,Lib.hid rfl⟩
 rw [hB.out]
 clear hA nv hw1 hl
 go_enter Try.func39,Try.ntmps39
 by_cases hln : l = n
 ·have hlni : ((l : Int) != (n : Int)) = false:=by simp; omega
  subst hln
  go_wp2
  rw [← HW1.out]
  clear HW1
  go_loopw [7] (fun i wr=>∃ k : Nat,k ≤ l ∧ i = .int .i64 k ∧ Hid (∀ j,j < k → 0 ≤ V.getD j 0 ∧ V.getD j 0 < (F.q : Int)) ∧ Hid (Below w1.heap.size w1 wr)) (fun i _=>l - (intOf i).toNat)
  case atStart=>exact ⟨0,Nat.zero_le _,rfl,Lib.hid (fun j hj=>absurd hj (by omega)),Below.refl _ _⟩
  case round =>
   obtain ⟨k,hk,rfl,KE,KB⟩:=hrel
   have HBF : Hid (Below W.heap.size W wr):=Lib.hid (HAL.out.trans (KB.out.mono HAL.out.size))
   by_cases hlt : k < l
   ·have hk5 : k < 1000:=by omega
    have hkV : k < V.length:=by rw [HVL.out]; exact hlt
    obtain ⟨x,hx⟩ : ∃ x,Hid (V.getD k 0 = x):=⟨_,Lib.hid rfl⟩
    have HKV:=Lib.hid hkV
    obtain ⟨b1,o1,rfl,hc1⟩:=(show NN V wr (.slice aa V.length ca) from by rw [HVL.out]; exact HNV.out.below KB.out).at hkV
    rw [hx.out] at hc1
    have hfb:=HFB.out.below KB.out HS1.out
    have hbl:=World.block_lt_of_cell? wr _ hc1
    have hS0 : SZ F b cap W.heap.size b1 (o1 + k) b1 (o1 + k) (.int .i64 x) (.int .i64 x) wr.heap.size wr wr.drew:=
     ⟨hfb,hc1,hc1,Lib.hid ⟨(HF1.out.below KB.out).bx (Bx.refl (fun _=>False) wr).drew id,(Below.refl _ _).drew,Nat.le_refl _,Nat.lt_of_lt_of_le HS1.out KB.out.size,hbl,hbl,Nat.lt_of_lt_of_le HF1.out.lt KB.out.size⟩⟩
    clear hc1 hfb hbl hkV
    by_cases hx0 : x < 0
    ·have HR : Hid (B = false):=Lib.hid (by rw [← hB.out,elV_no HKV.out (by rw [hx.out]; omega),Bool.and_false])
     go_wp2_with fail
     refine wp_region_held_drew (S:=fun w'=>SZ F b cap W.heap.size b1 (o1 + k) b1 (o1 + k) (.int .i64 x) (.int .i64 x) wr.heap.size wr w') (by kernel_rfl) (by with_reducible exact hS0) (fun hHeld=>?_)
     refine Rg.tk 0 ⟨some 17,.move (.tmp 2),27,"ref.go:54",#[],none⟩ ?_
     try simp only [Rg.gp]
     refine Rg.tk 1 ⟨some 18,.move (.tmp 7),3,"ref.go:54",#[],none⟩ ?_
     try simp only [Rg.gp]
     refine Rg.tk 2 ⟨some 19,.indexAddr 27 (.tmp 17) (.tmp 18),0,"ref.go:54",#[⟨0,.data⟩,⟨1,.data⟩],none⟩ ?_
     try simp only [Rg.gp]
     refine Rg.tk 3 ⟨some 20,.load 3 (.tmp 19),3,"ref.go:54",#[⟨2,.data⟩],none⟩ ?_
     try simp only [Rg.gp]
     refine Rg.tk 4 ⟨some 21,.binOp BinOp.lss 3 (.tmp 20) (.const (Value.int IntKind.i64 0)) 3,4,"ref.go:54",#[⟨3,.data⟩],none⟩ ?_
     try simp only [Rg.gp]
     refine Rg.tk 5 ⟨some 22,.move (.tmp 21),4,"ref.go:54",#[⟨4,.data⟩],none⟩ ?_
     try simp only [Rg.gp]
     refine wpAnyH_take (i:=6) (oi:=⟨some 23,.move (.tmp 2),27,"ref.go:54",#[⟨5,.guard⟩],some (5,false)⟩) (v:=undef) rfl (by kernel_rfl) (by kernel_rfl) (by kernel_rfl) (fun _ _ _ h=>h) (Or.inr ⟨by go_simp,rfl⟩) (by assumption) ?_
     try simp only [Rg.gp]
     refine wpAnyH_take (i:=7) (oi:=⟨some 24,.move (.tmp 7),3,"ref.go:54",#[⟨5,.guard⟩],some (5,false)⟩) (v:=undef) rfl (by kernel_rfl) (by kernel_rfl) (by kernel_rfl) (fun _ _ _ h=>h) (Or.inr ⟨by go_simp,rfl⟩) (by assumption) ?_
     try simp only [Rg.gp]
     refine wpAnyH_take (i:=8) (oi:=⟨some 25,.indexAddr 27 (.tmp 23) (.tmp 24),0,"ref.go:54",#[⟨6,.data⟩,⟨7,.data⟩,⟨5,.guard⟩],some (5,false)⟩) (v:=undef) rfl (by kernel_rfl) (by kernel_rfl) (by kernel_rfl) (fun _ _ _ h=>h) (Or.inr ⟨by go_simp,rfl⟩) (by assumption) ?_
     try simp only [Rg.gp]
     refine wpAnyH_take (i:=9) (oi:=⟨some 26,.load 3 (.tmp 25),3,"ref.go:54",#[⟨8,.data⟩,⟨5,.guard⟩],some (5,false)⟩) (v:=undef) rfl (by kernel_rfl) (by kernel_rfl) (by kernel_rfl) (fun _ _ _ h=>h) (Or.inr ⟨by go_simp,rfl⟩) (by assumption) ?_
     try simp only [Rg.gp]
     refine wpAnyH_take (i:=10) (oi:=⟨some 27,.load 29 (.tmp 3),29,"ref.go:54",#[⟨5,.guard⟩],some (5,false)⟩) (v:=undef) rfl (by kernel_rfl) (by kernel_rfl) (by kernel_rfl) (fun _ _ _ h=>h) (Or.inr ⟨by go_simp,rfl⟩) (by assumption) ?_
     try simp only [Rg.gp]
     refine wpAnyH_take (i:=11) (oi:=⟨some 28,.call ⟨.value (.func 42),#[.tmp 27],#[29]⟩,3,"ref.go:54",#[⟨10,.data⟩,⟨5,.chain⟩,⟨5,.guard⟩],some (5,false)⟩) (v:=undef) rfl (by kernel_rfl) (by kernel_rfl) (by kernel_rfl) (fun _ _ _ h=>h) (Or.inr ⟨by go_simp,rfl⟩) (by assumption) ?_
     try simp only [Rg.gp]
     refine wpAnyH_take (i:=12) (oi:=⟨some 29,.binOp BinOp.geq 3 (.tmp 26) (.tmp 28) 3,4,"ref.go:54",#[⟨9,.data⟩,⟨11,.data⟩,⟨5,.guard⟩],some (5,false)⟩) (v:=undef) rfl (by kernel_rfl) (by kernel_rfl) (by kernel_rfl) (fun _ _ _ h=>h) (Or.inr ⟨by go_simp,rfl⟩) (by assumption) ?_
     try simp only [Rg.gp]
     refine Rg.tk 13 ⟨some 30,.pick (.tmp 22) (.const (Value.bool true)) (.tmp 29),4,"ref.go:54",#[⟨5,.data⟩,⟨12,.data⟩],none⟩ ?_
     try simp only [Rg.gp]
     refine wpAnyH_done (by kernel_rfl) ?_ _
     have HB5 : Hid (Below W.heap.size W wr.drew):=Lib.hid (HBF.out.trans (hHeld.2.2.2.out.2.1.mono HBF.out.size))
     clear hHeld hS0
     go_wp2
     go_ret
     exact ⟨by rw [HR.out]; rfl,HB5.out⟩
    ·obtain ⟨q,hq⟩ : ∃ q,Hid (F.q = q):=⟨_,Lib.hid rfl⟩
     by_cases hxq : x < (q : Int)
     ·have hxq2 : ¬ (q : Int) ≤ x:=by omega
      have HKE : Hid (∀ j,j < k + 1 → 0 ≤ V.getD j 0 ∧ V.getD j 0 < (F.q : Int)):=Lib.hid (fun j hj=>by
       by_cases e : j < k
       ·exact KE.out j e
       ·obtain rfl : j = k:=by omega
        rw [hx.out,hq.out]; omega)
      go_wp2_with fail
      refine wp_region_held_drew (S:=fun w'=>SZ F b cap W.heap.size b1 (o1 + k) b1 (o1 + k) (.int .i64 x) (.int .i64 x) wr.heap.size wr w') (by kernel_rfl) (by with_reducible exact hS0) (fun hHeld=>?_)
      refine Rg.tk 0 ⟨some 17,.move (.tmp 2),27,"ref.go:54",#[],none⟩ ?_
      try simp only [Rg.gp]
      refine Rg.tk 1 ⟨some 18,.move (.tmp 7),3,"ref.go:54",#[],none⟩ ?_
      try simp only [Rg.gp]
      refine Rg.tk 2 ⟨some 19,.indexAddr 27 (.tmp 17) (.tmp 18),0,"ref.go:54",#[⟨0,.data⟩,⟨1,.data⟩],none⟩ ?_
      try simp only [Rg.gp]
      refine Rg.tk 3 ⟨some 20,.load 3 (.tmp 19),3,"ref.go:54",#[⟨2,.data⟩],none⟩ ?_
      try simp only [Rg.gp]
      refine Rg.tk 4 ⟨some 21,.binOp BinOp.lss 3 (.tmp 20) (.const (Value.int IntKind.i64 0)) 3,4,"ref.go:54",#[⟨3,.data⟩],none⟩ ?_
      try simp only [Rg.gp]
      refine Rg.tk 5 ⟨some 22,.move (.tmp 21),4,"ref.go:54",#[⟨4,.data⟩],none⟩ ?_
      try simp only [Rg.gp]
      refine Rg.tk 6 ⟨some 23,.move (.tmp 2),27,"ref.go:54",#[⟨5,.guard⟩],some (5,false)⟩ ?_
      try simp only [Rg.gp]
      refine Rg.tk 7 ⟨some 24,.move (.tmp 7),3,"ref.go:54",#[⟨5,.guard⟩],some (5,false)⟩ ?_
      try simp only [Rg.gp]
      refine Rg.tk 8 ⟨some 25,.indexAddr 27 (.tmp 23) (.tmp 24),0,"ref.go:54",#[⟨6,.data⟩,⟨7,.data⟩,⟨5,.guard⟩],some (5,false)⟩ ?_
      try simp only [Rg.gp]
      refine Rg.tk 9 ⟨some 26,.load 3 (.tmp 25),3,"ref.go:54",#[⟨8,.data⟩,⟨5,.guard⟩],some (5,false)⟩ ?_
      try simp only [Rg.gp]
      refine Rg.tk 10 ⟨some 27,.load 29 (.tmp 3),29,"ref.go:54",#[⟨5,.guard⟩],some (5,false)⟩ ?_
      try simp only [Rg.gp]
      refine Rg.rd1 11 ⟨some 28,.call ⟨.value (.func 42),#[.tmp 27],#[29]⟩,3,"ref.go:54",#[⟨10,.data⟩,⟨5,.chain⟩,⟨5,.guard⟩],some (5,false)⟩ fun K hK=>?_
      go_simp
      go_at_call 42
      with_reducible refine (show Calls Try.prog 42 #[FV F b cap] _ (fun e w'=>e = .returned (.int .i64 (q : Nat)) ∧ Below _ _ w') from by have t:=rsize_c hHeld.2.2.2.out.1; rw [hq.out] at t; exact t).mono ?_
      rintro z v1 ⟨rfl,hb3⟩
      refine hK.out _ _ ?_ (fun hHeld=>?_)
      ·(try dsimp only)
       exact SZ.keep hHeld hb3
      clear hK K
      try simp only [Rg.gp]
      refine Rg.tk 12 ⟨some 29,.binOp BinOp.geq 3 (.tmp 26) (.tmp 28) 3,4,"ref.go:54",#[⟨9,.data⟩,⟨11,.data⟩,⟨5,.guard⟩],some (5,false)⟩ ?_
      try simp only [Rg.gp]
      refine Rg.tk 13 ⟨some 30,.pick (.tmp 22) (.const (Value.bool true)) (.tmp 29),4,"ref.go:54",#[⟨5,.data⟩,⟨12,.data⟩],none⟩ ?_
      try simp only [Rg.gp]
      refine wpAnyH_done (by kernel_rfl) ?_ _
      have HB5:=Lib.hid (KB.out.trans (hHeld.2.2.2.out.2.1.mono KB.out.size))
      clear hHeld hS0
      go_wp2
      go_roundw
      case rel=>exact ⟨k + 1,by omega,by go_num,HKE,HB5⟩
      case measure=>simp [intOf]; omega
     ·have hxq2 : (q : Int) ≤ x:=by omega
      have HR : Hid (B = false):=Lib.hid (by rw [← hB.out,elV_no HKV.out (by rw [hx.out,hq.out]; omega),Bool.and_false])
      go_wp2_with fail
      refine wp_region_held_drew (S:=fun w'=>SZ F b cap W.heap.size b1 (o1 + k) b1 (o1 + k) (.int .i64 x) (.int .i64 x) wr.heap.size wr w') (by kernel_rfl) (by with_reducible exact hS0) (fun hHeld=>?_)
      refine Rg.tk 0 ⟨some 17,.move (.tmp 2),27,"ref.go:54",#[],none⟩ ?_
      try simp only [Rg.gp]
      refine Rg.tk 1 ⟨some 18,.move (.tmp 7),3,"ref.go:54",#[],none⟩ ?_
      try simp only [Rg.gp]
      refine Rg.tk 2 ⟨some 19,.indexAddr 27 (.tmp 17) (.tmp 18),0,"ref.go:54",#[⟨0,.data⟩,⟨1,.data⟩],none⟩ ?_
      try simp only [Rg.gp]
      refine Rg.tk 3 ⟨some 20,.load 3 (.tmp 19),3,"ref.go:54",#[⟨2,.data⟩],none⟩ ?_
      try simp only [Rg.gp]
      refine Rg.tk 4 ⟨some 21,.binOp BinOp.lss 3 (.tmp 20) (.const (Value.int IntKind.i64 0)) 3,4,"ref.go:54",#[⟨3,.data⟩],none⟩ ?_
      try simp only [Rg.gp]
      refine Rg.tk 5 ⟨some 22,.move (.tmp 21),4,"ref.go:54",#[⟨4,.data⟩],none⟩ ?_
      try simp only [Rg.gp]
      refine Rg.tk 6 ⟨some 23,.move (.tmp 2),27,"ref.go:54",#[⟨5,.guard⟩],some (5,false)⟩ ?_
      try simp only [Rg.gp]
      refine Rg.tk 7 ⟨some 24,.move (.tmp 7),3,"ref.go:54",#[⟨5,.guard⟩],some (5,false)⟩ ?_
      try simp only [Rg.gp]
      refine Rg.tk 8 ⟨some 25,.indexAddr 27 (.tmp 23) (.tmp 24),0,"ref.go:54",#[⟨6,.data⟩,⟨7,.data⟩,⟨5,.guard⟩],some (5,false)⟩ ?_
      try simp only [Rg.gp]
      refine Rg.tk 9 ⟨some 26,.load 3 (.tmp 25),3,"ref.go:54",#[⟨8,.data⟩,⟨5,.guard⟩],some (5,false)⟩ ?_
      try simp only [Rg.gp]
      refine Rg.tk 10 ⟨some 27,.load 29 (.tmp 3),29,"ref.go:54",#[⟨5,.guard⟩],some (5,false)⟩ ?_
      try simp only [Rg.gp]
      refine Rg.rd1 11 ⟨some 28,.call ⟨.value (.func 42),#[.tmp 27],#[29]⟩,3,"ref.go:54",#[⟨10,.data⟩,⟨5,.chain⟩,⟨5,.guard⟩],some (5,false)⟩ fun K hK=>?_
      go_simp
      go_at_call 42
      with_reducible refine (show Calls Try.prog 42 #[FV F b cap] _ (fun e w'=>e = .returned (.int .i64 (q : Nat)) ∧ Below _ _ w') from by have t:=rsize_c hHeld.2.2.2.out.1; rw [hq.out] at t; exact t).mono ?_
      rintro z v1 ⟨rfl,hb3⟩
      refine hK.out _ _ ?_ (fun hHeld=>?_)
      ·(try dsimp only)
       exact SZ.keep hHeld hb3
      clear hK K
      try simp only [Rg.gp]
      refine Rg.tk 12 ⟨some 29,.binOp BinOp.geq 3 (.tmp 26) (.tmp 28) 3,4,"ref.go:54",#[⟨9,.data⟩,⟨11,.data⟩,⟨5,.guard⟩],some (5,false)⟩ ?_
      try simp only [Rg.gp]
      refine Rg.tk 13 ⟨some 30,.pick (.tmp 22) (.const (Value.bool true)) (.tmp 29),4,"ref.go:54",#[⟨5,.data⟩,⟨12,.data⟩],none⟩ ?_
      try simp only [Rg.gp]
      refine wpAnyH_done (by kernel_rfl) ?_ _
      have HB5 : Hid (Below W.heap.size W v1):=Lib.hid (HBF.out.trans (hHeld.2.2.2.out.2.1.mono HBF.out.size))
      clear hHeld hS0
      go_wp2
      go_ret
      exact ⟨by rw [HR.out]; rfl,HB5.out⟩
   ·obtain rfl : k = l:=by omega
    have hlt1 : ¬ (k : Int) < (k : Int):=by omega
    have HR : Hid (B = true):=Lib.hid (by rw [← hB.out,elV_yes (fun j hj=>KE.out j (by have:=HVL.out; omega))]; simp)
    go_wp2
    go_ret
    exact ⟨by rw [HR.out]; rfl,HBF.out⟩
 ·have hlni : ((l : Int) != (n : Int)) = true:=by simp; omega
  have HR : Hid (B = false):=Lib.hid (by rw [← hB.out,show decide (l = n) = false from by simp [hln]]; rfl)
  go_wp2
  rw [← HW1.out]
  go_ret
  exact ⟨by rw [HR.out]; rfl,HAL.out⟩
def vdM (q n : Nat) (A : List (List Int)) : Bool:=A.all fun r=>decide (r.length = n) && elV q r
theorem vdM_no {q n k : Nat} {A : List (List Int)} (hk : k < A.length) (h : (decide ((A.getD k []).length = n) && elV q (A.getD k [])) = false) : vdM q n A = false:=by
 unfold vdM
 rw [List.all_eq_false]
 refine ⟨A[k],List.getElem_mem hk,?_⟩
 rw [List.getD_eq_getElem?_getD,List.getElem?_eq_getElem hk] at h
 rw [show (decide (A[k].length = n) && elV q A[k]) = false from h]; decide
theorem vdM_yes {q n : Nat} {A : List (List Int)} (h : ∀ k,k < A.length → (decide ((A.getD k []).length = n) && elV q (A.getD k [])) = true) : vdM q n A = true:=by
 unfold vdM
 rw [List.all_eq_true]
 intro r hr
 obtain ⟨k,hk,rfl⟩:=List.getElem_of_mem hr
 have:=h k hk
 rw [List.getD_eq_getElem?_getD,List.getElem?_eq_getElem hk] at this
 exact this
set_option maxHeartbeats 3200000 in
theorem rvalid35_c {F : Gf} {b cap n m ca : Nat} {A : List (List Int)} {aa : Option Addr} {W : World} (hF : F ∈ fds.take 10) (hA : FldAt F b cap W) (hn : n ≤ 1000) (hm : m ≤ 64) (la : A.length = m) (hr : ∀ t,t < A.length → (A.getD t []).length ≤ 1000) (na : MM A W (.slice aa m ca)) :
  Calls Try.prog 35 #[FV F b cap,.int .i64 (n : Nat),.slice aa m ca] W fun e w'=>e = .returned (.bool (decide (1 ≤ n ∧ n ≤ 24) && vdM F.q n A)) ∧ Below W.heap.size W w':=by
 obtain ⟨w1,hw1⟩ : ∃ w1,w1 = (W.alloc (.cells #[.int .i64 F.p,.int .i64 F.e,FM F b cap] 29)):=⟨_,rfl⟩
 have HAL : Hid (Below W.heap.size W w1):=Lib.hid (by rw [hw1]; exact (Below.refl _ _).alloc (Nat.le_refl _) _)
 have HS1 : Hid (W.heap.size < w1.heap.size):=Lib.hid (by rw [hw1]; simp)
 have HFB : Hid (FBx W.heap.size F b cap w1):=Lib.hid (by rw [hw1]; exact FBx.new W F b cap)
 have HF1:=Lib.hid (hA.below HAL.out)
 have HNA:=Lib.hid (na.below HAL.out)
 have HLA:=Lib.hid la
 have HRL:=Lib.hid hr
 have HW1:=Lib.hid hw1
 obtain ⟨B,hB⟩ : ∃ B,Hid ((decide (1 ≤ n ∧ n ≤ 24) && vdM F.q n A) = B):=⟨_,Lib.hid rfl⟩
 rw [hB.out]
 have HVC : Hid (Calls Try.prog 65 #[FV F b cap] w1 fun e w'=>e = .returned (.bool true) ∧ Below w1.heap.size w1 w'):=Lib.hid (rvalid_c hF HF1.out)
 clear hA na hw1 la hr
 go_enter Try.func35,Try.ntmps35
 have hm1 : ¬ (64 : Int) < (m : Int):=by omega
 by_cases h1 : n < 1
 ·have h1i : (n : Int) < 1:=by omega
  have HR : Hid (B = false):=Lib.hid (by rw [← hB.out,show decide (1 ≤ n ∧ n ≤ 24) = false from by simp; omega]; rfl)
  go_wp2
  rw [← HW1.out]
  go_ret
  exact ⟨by rw [HR.out]; rfl,HAL.out⟩
 have h1i : ¬ (n : Int) < 1:=by omega
 by_cases h2 : 24 < n
 ·have h2i : (24 : Int) < (n : Int):=by omega
  have HR : Hid (B = false):=Lib.hid (by rw [← hB.out,show decide (1 ≤ n ∧ n ≤ 24) = false from by simp; omega]; rfl)
  go_wp2
  rw [← HW1.out]
  go_ret
  exact ⟨by rw [HR.out]; rfl,HAL.out⟩
 have h2i : ¬ (24 : Int) < (n : Int):=by omega
 have HD : Hid (decide (1 ≤ n ∧ n ≤ 24) = true):=Lib.hid (by simp; omega)
 obtain ⟨x0,x1,x2⟩:=HFB.out
 go_wp2_with fail
 rw [← HW1.out]
 clear HW1
 with_reducible refine HVC.out.mono ?_
 rintro e w2 ⟨rfl,hb2⟩
 have HB2:=Lib.hid hb2
 clear hb2 HVC x0 x1 x2
 go_wp2
 go_loopw [7] (fun i wr=>∃ k : Nat,k ≤ m ∧ i = .int .i64 k ∧ Hid (∀ j,j < k → (decide ((A.getD j []).length = n) && elV F.q (A.getD j [])) = true) ∧ Hid (Below w1.heap.size w1 wr)) (fun i _=>m - (intOf i).toNat)
 case atStart=>exact ⟨0,Nat.zero_le _,rfl,Lib.hid (fun j hj=>absurd hj (by omega)),HB2⟩
 case round =>
  obtain ⟨k,hk,rfl,KE,KB⟩:=hrel
  by_cases hlt : k < m
  ·have hkA : k < A.length:=by rw [HLA.out]; exact hlt
   have HKA:=Lib.hid hkA
   obtain ⟨Y,hY⟩ : ∃ L,Hid (A.getD k [] = L):=⟨_,Lib.hid rfl⟩
   obtain ⟨ly,hly⟩ : ∃ l,Hid (Y.length = l):=⟨_,Lib.hid rfl⟩
   obtain ⟨bv,hbv⟩ : ∃ x,Hid ((decide (ly = n) && elV F.q Y) = x):=⟨_,Lib.hid rfl⟩
   have hly5 : ly ≤ 1000:=by have:=HRL.out k hkA; rw [hY.out,hly.out] at this; exact this
   obtain ⟨b1,o1,rfl,a1,c1,hc1,hny⟩:=(show MM A wr (.slice aa A.length ca) from by rw [HLA.out]; exact HNA.out.below KB.out).at hkA
   rw [hY.out,hly.out] at hc1 hny
   have HNY:=Lib.hid hny
   have hfb:=HFB.out.below KB.out HS1.out
   have hbl:=World.block_lt_of_cell? wr _ hc1
   have hS0 : SZ F b cap W.heap.size b1 (o1 + k) b1 (o1 + k) (.slice a1 ly c1) (.slice a1 ly c1) wr.heap.size wr wr.drew:=
    ⟨hfb,hc1,hc1,Lib.hid ⟨(HF1.out.below KB.out).bx (Bx.refl (fun _=>False) wr).drew id,(Below.refl _ _).drew,Nat.le_refl _,Nat.lt_of_lt_of_le HS1.out KB.out.size,hbl,hbl,Nat.lt_of_lt_of_le HF1.out.lt KB.out.size⟩⟩
   clear hny hc1 hfb hbl hkA
   go_wp2_with fail
   refine wp_region_held_drew (S:=fun w'=>SZ F b cap W.heap.size b1 (o1 + k) b1 (o1 + k) (.slice a1 ly c1) (.slice a1 ly c1) wr.heap.size wr w') (by kernel_rfl) (by with_reducible exact hS0) (fun hHeld=>?_)
   refine Rg.tk 0 ⟨some 30,.load 29 (.tmp 3),29,"ref.go:67",#[],none⟩ ?_
   try simp only [Rg.gp]
   refine Rg.tk 1 ⟨some 31,.move (.tmp 1),3,"ref.go:67",#[],none⟩ ?_
   try simp only [Rg.gp]
   refine Rg.tk 2 ⟨some 32,.move (.tmp 2),30,"ref.go:67",#[],none⟩ ?_
   try simp only [Rg.gp]
   refine Rg.tk 3 ⟨some 33,.move (.tmp 7),3,"ref.go:67",#[],none⟩ ?_
   try simp only [Rg.gp]
   refine Rg.tk 4 ⟨some 34,.indexAddr 30 (.tmp 32) (.tmp 33),0,"ref.go:67",#[⟨2,.data⟩,⟨3,.data⟩],none⟩ ?_
   try simp only [Rg.gp]
   refine Rg.tk 5 ⟨some 35,.load 27 (.tmp 34),27,"ref.go:67",#[⟨4,.data⟩],none⟩ ?_
   try simp only [Rg.gp]
   refine Rg.rd1 6 ⟨some 36,.call ⟨.value (.func 39),#[.tmp 30,.tmp 31,.tmp 35],#[29,3,27]⟩,4,"ref.go:67",#[⟨0,.data⟩,⟨1,.data⟩,⟨5,.data⟩],none⟩ fun K hK=>?_
   go_simp
   go_at_call 39
   with_reducible refine (show Calls Try.prog 39 #[FV F b cap,.int .i64 (n : Nat),.slice a1 ly c1] _ (fun e w'=>e = .returned (.bool bv) ∧ Below _ _ w') from by have t:=vec_c hHeld.2.2.2.out.1 hn hly5 hly.out (HNY.out.below hHeld.2.2.2.out.2.1); rw [hbv.out] at t; exact t).mono ?_
   rintro z v1 ⟨rfl,hb3⟩
   refine hK.out _ _ ?_ (fun hHeld=>?_)
   ·(try dsimp only)
    exact SZ.keep hHeld hb3
   clear hK K
   try simp only [Rg.gp]
   refine Rg.tk 7 ⟨some 37,.unOp UnOp.not 4 (.tmp 36),4,"ref.go:67",#[⟨6,.data⟩],none⟩ ?_
   try simp only [Rg.gp]
   refine wpAnyH_done (by kernel_rfl) ?_ _
   have HB5 : Hid (Below w1.heap.size w1 v1):=Lib.hid (KB.out.trans (hHeld.2.2.2.out.2.1.mono KB.out.size))
   clear hHeld hS0
   cases bv
   ·have HBF : Hid (Below W.heap.size W v1):=Lib.hid (HAL.out.trans (HB5.out.mono HAL.out.size))
    have HR : Hid (B = false):=Lib.hid (by rw [← hB.out,vdM_no HKA.out (by rw [hY.out,hly.out]; exact hbv.out),Bool.and_false])
    go_wp2
    go_ret
    exact ⟨by rw [HR.out]; rfl,HBF.out⟩
   ·have HKE : Hid (∀ j,j < k + 1 → (decide ((A.getD j []).length = n) && elV F.q (A.getD j [])) = true):=Lib.hid (fun j hj=>by
     by_cases e : j < k
     ·exact KE.out j e
     ·obtain rfl : j = k:=by omega
      rw [hY.out,hly.out]; exact hbv.out)
    go_wp2
    go_roundw
    case rel=>exact ⟨k + 1,by omega,by go_num,HKE,HB5⟩
    case measure=>simp [intOf]; omega
  ·obtain rfl : k = m:=by omega
   have hlt1 : ¬ (k : Int) < (k : Int):=by omega
   have HBF : Hid (Below W.heap.size W wr):=Lib.hid (HAL.out.trans (KB.out.mono HAL.out.size))
   have HR : Hid (B = true):=Lib.hid (by rw [← hB.out,HD.out,vdM_yes (fun j hj=>KE.out j (by have:=HLA.out; omega))]; rfl)
   go_wp2
   go_ret
   exact ⟨by rw [HR.out]; rfl,HBF.out⟩
end Iv
abbrev GV (p e l b cap : Nat) : Value:=.agg #[.int .i64 (p : Nat),.int .i64 (e : Nat),.slice (some ⟨b,0,none⟩) l cap]
abbrev GB (B p e l b cap : Nat) (w : World) : Prop:=w.cell? ⟨B,0,none⟩ = some (.int .i64 (p : Nat)) ∧ w.cell? ⟨B,1,none⟩ = some (.int .i64 (e : Nat)) ∧ w.cell? ⟨B,2,none⟩ = some (.slice (some ⟨b,0,none⟩) l cap)
theorem GB.new (W : World) (p e l b cap : Nat) : GB W.heap.size p e l b cap (W.alloc (.cells #[.int .i64 (p : Nat),.int .i64 (e : Nat),.slice (some ⟨b,0,none⟩) l cap] 29)):=⟨World.cell?_alloc_at _ _ _ _ rfl,World.cell?_alloc_at _ _ _ _ rfl,World.cell?_alloc_at _ _ _ _ rfl⟩
theorem GB.below {B p e l b cap : Nat} {w w' : World} (h : GB B p e l b cap w) (hb : Below w.heap.size w w') (hB : B < w.heap.size) : GB B p e l b cap w':=⟨(hb.cell hB).trans h.1,(hb.cell hB).trans h.2.1,(hb.cell hB).trans h.2.2⟩
abbrev ZF : Value:=.agg #[.int .i64 0,.int .i64 0,.slice none 0 0]
set_option maxHeartbeats 3200000 in
theorem gsize_c {p e l b cap : Nat} {W : World} (hp : 2 ≤ p) (hp6 : p ≤ 64) (he : e ≤ 6) (hne : e ≠ l) : Calls Try.prog 52 #[GV p e l b cap] W fun r w'=>r = .returned (.int .i64 0) ∧ Below W.heap.size W w':=by
 obtain ⟨W0,hW0⟩ : ∃ W0,W.alloc (.cells #[.int .i64 (p : Nat),.int .i64 (e : Nat),.slice (some ⟨b,0,none⟩) l cap] 29) = W0:=⟨_,rfl⟩
 have HB0 : Hid (Below W.heap.size W W0):=Lib.hid (by rw [← hW0]; exact (Below.refl _ _).alloc (Nat.le_refl _) _)
 obtain ⟨c0,c1,c2⟩ : GB W.heap.size p e l b cap W0:=by rw [← hW0]; exact GB.new W p e l b cap
 have p2 : ¬ (p : Int) < 2:=by omega
 have p3 : ¬ (64 : Int) < (p : Int):=by omega
 have n3 : ¬ (6 : Int) < (e : Int):=by omega
 have hle : ((l : Int) != (e : Int)) = true:=by simp; omega
 go_enter Try.func52,Try.ntmps52
 by_cases h0 : e < 1
 ·have n2 : (e : Int) < 1:=by omega
  go_wp2
  go_ret
  exact ⟨rfl,HB0.out⟩
 ·have n2 : ¬ (e : Int) < 1:=by omega
  go_wp2
  go_ret
  exact ⟨rfl,HB0.out⟩
set_option maxHeartbeats 3200000 in
theorem fmake0_c {W : World} : Calls Try.prog 71 #[.int .i64 0] W fun r w'=>r = .returned (.tuple #[ZF,.int .i64 1]) ∧ Below W.heap.size W w':=by
 obtain ⟨W0,hW0⟩ : ∃ W0,W.alloc (.cells #[.int .i64 0,.int .i64 0,.slice none 0 0] 29) = W0:=⟨_,rfl⟩
 have HB0 : Hid (Below W.heap.size W W0):=Lib.hid (by rw [← hW0]; exact (Below.refl _ _).alloc (Nat.le_refl _) _)
 have c0 : W0.cell? ⟨W.heap.size,0,none⟩ = some (.int .i64 0):=by rw [← hW0]; exact World.cell?_alloc_at _ _ _ _ rfl
 have c1 : W0.cell? ⟨W.heap.size,1,none⟩ = some (.int .i64 0):=by rw [← hW0]; exact World.cell?_alloc_at _ _ _ _ rfl
 have c2 : W0.cell? ⟨W.heap.size,2,none⟩ = some (.slice none 0 0):=by rw [← hW0]; exact World.cell?_alloc_at _ _ _ _ rfl
 have f0 : W0.frozen? ⟨W.heap.size,0,none⟩ = false:=by rw [← hW0]; exact World.frozen?_alloc_at _ _ _ _ rfl
 have f1 : W0.frozen? ⟨W.heap.size,1,none⟩ = false:=by rw [← hW0]; exact World.frozen?_alloc_at _ _ _ _ rfl
 have f2 : W0.frozen? ⟨W.heap.size,2,none⟩ = false:=by rw [← hW0]; exact World.frozen?_alloc_at _ _ _ _ rfl
 have HBF : Hid (Below W.heap.size W (((W0.setCell ⟨W.heap.size,0,none⟩ (.int .i64 0)).setCell ⟨W.heap.size,1,none⟩ (.int .i64 0)).setCell ⟨W.heap.size,2,none⟩ (.slice none 0 0))):=Lib.hid (((HB0.out.setCell (p:=⟨W.heap.size,0,none⟩) (Nat.le_refl _) _).setCell (p:=⟨W.heap.size,1,none⟩) (Nat.le_refl _) _).setCell (p:=⟨W.heap.size,2,none⟩) (Nat.le_refl _) _)
 go_enter Try.func71,Try.ntmps71
 go_wp2
 refine bodyPost_ret (v:=.tuple #[ZF,.int .i64 1]) (by simp [results,Try.results71,go_sem,c0,c1,c2]) rfl ?_
 exact ⟨rfl,HBF.out⟩
set_option maxHeartbeats 3200000 in
theorem gfvalid_c {p e l b cap : Nat} {W : World} (hp : 2 ≤ p) (hp6 : p ≤ 64) (he : e ≤ 6) (hne : e ≠ l) : Calls Try.prog 50 #[GV p e l b cap] W fun r w'=>r = .returned (.bool false) ∧ Below W.heap.size W w':=by
 obtain ⟨W0,hW0⟩ : ∃ W0,W.alloc (.cells #[.int .i64 (p : Nat),.int .i64 (e : Nat),.slice (some ⟨b,0,none⟩) l cap] 29) = W0:=⟨_,rfl⟩
 have HB0 : Hid (Below W.heap.size W W0):=Lib.hid (by rw [← hW0]; exact (Below.refl _ _).alloc (Nat.le_refl _) _)
 have HG0 : Hid (GB W.heap.size p e l b cap W0 ∧ W.heap.size < W0.heap.size):=Lib.hid (by rw [← hW0]; exact ⟨GB.new W p e l b cap,by simp⟩)
 have HSZ : Hid (Calls Try.prog 52 #[GV p e l b cap] W0 fun r w'=>r = .returned (.int .i64 0) ∧ Below W0.heap.size W0 w'):=Lib.hid (gsize_c hp hp6 he hne)
 have HMK : Hid (∀ w,Calls Try.prog 71 #[.int .i64 0] w fun r w'=>r = .returned (.tuple #[ZF,.int .i64 1]) ∧ Below w.heap.size w w'):=Lib.hid (fun w=>fmake0_c)
 obtain ⟨c0,c1,c2⟩:=HG0.out.1
 go_enter Try.func50,Try.ntmps50
 go_wp2_with fail
 clear hW0
 refine HSZ.out.mono ?_
 rintro z w1 ⟨rfl,hb1⟩
 have HB1 : Hid (Below W.heap.size W w1):=Lib.hid (HB0.out.trans (hb1.mono HB0.out.size))
 have HG1 : Hid (GB W.heap.size p e l b cap w1 ∧ W.heap.size < w1.heap.size):=Lib.hid ⟨HG0.out.1.below hb1 HG0.out.2,Nat.lt_of_lt_of_le HG0.out.2 hb1.size⟩
 clear hb1 c0 c1 c2
 go_wp2_with fail
 refine (HMK.out _).mono ?_
 rintro z w2 ⟨rfl,hb2⟩
 have HB3 : Hid (Below W.heap.size W (w2.alloc (.cells #[.int .i64 0,.int .i64 0,.slice none 0 0] 29))):=Lib.hid ((HB1.out.trans (hb2.mono HB1.out.size)).alloc (Nat.le_trans HB1.out.size hb2.size) _)
 have HBX : Hid (∀ u0 u1 u2,Below W.heap.size W ((((w2.alloc (.cells #[.int .i64 0,.int .i64 0,.slice none 0 0] 29)).setCell ⟨w2.heap.size,0,none⟩ u0).setCell ⟨w2.heap.size,1,none⟩ u1).setCell ⟨w2.heap.size,2,none⟩ u2)):=Lib.hid (fun u0 u1 u2=>((HB3.out.setCell (p:=⟨w2.heap.size,0,none⟩) (Nat.le_trans HB1.out.size hb2.size) _).setCell (p:=⟨w2.heap.size,1,none⟩) (Nat.le_trans HB1.out.size hb2.size) _).setCell (p:=⟨w2.heap.size,2,none⟩) (Nat.le_trans HB1.out.size hb2.size) _)
 clear hb2
 go_wp2
 go_ret
 first | exact ⟨rfl,HB3.out⟩ | exact ⟨rfl,HBX.out _ _ _⟩
set_option maxHeartbeats 3200000 in
theorem rparts_big {q : Nat} {W : World} (hq : 64 < q) (hq2 : q ≤ 1000000) : Calls Try.prog 89 #[.int .i64 (q : Nat)] W fun r w'=>r = .returned (.agg #[.int .i64 0,.int .i64 0]) ∧ Below W.heap.size W w':=by
 obtain ⟨W0,hW0⟩ : ∃ W0,W.alloc (.cells #[.int .i64 0,.int .i64 0] 116) = W0:=⟨_,rfl⟩
 have HB0 : Hid (Below W.heap.size W W0):=Lib.hid (by rw [← hW0]; exact (Below.refl _ _).alloc (Nat.le_refl _) _)
 have c0 : W0.cell? ⟨W.heap.size,0,none⟩ = some (.int .i64 0):=by rw [← hW0]; exact World.cell?_alloc_at _ _ _ _ rfl
 have c1 : W0.cell? ⟨W.heap.size,1,none⟩ = some (.int .i64 0):=by rw [← hW0]; exact World.cell?_alloc_at _ _ _ _ rfl
 have f0 : W0.frozen? ⟨W.heap.size,0,none⟩ = false:=by rw [← hW0]; exact World.frozen?_alloc_at _ _ _ _ rfl
 have f1 : W0.frozen? ⟨W.heap.size,1,none⟩ = false:=by rw [← hW0]; exact World.frozen?_alloc_at _ _ _ _ rfl
 have HBF : Hid (Below W.heap.size W ((W0.setCell ⟨W.heap.size,0,none⟩ (.int .i64 0)).setCell ⟨W.heap.size,1,none⟩ (.int .i64 0))):=Lib.hid ((HB0.out.setCell (p:=⟨W.heap.size,0,none⟩) (Nat.le_refl _) _).setCell (p:=⟨W.heap.size,1,none⟩) (Nat.le_refl _) _)
 have h1 : ¬ (q : Int) < 2:=by omega
 have h2 : (64 : Int) < (q : Int):=by omega
 go_enter Try.func89,Try.ntmps89
 go_wp2
 refine bodyPost_ret (v:=.agg #[.int .i64 0,.int .i64 0]) (by simp [results,Try.results89,go_sem,c0,c1]) rfl ?_
 exact ⟨rfl,HBF.out⟩
set_option maxHeartbeats 3200000 in
theorem rmake_big {q : Nat} {W : World} (hq : 64 < q) (hq2 : q ≤ 1000000) : Calls Try.prog 70 #[.int .i64 (q : Nat)] W fun r w'=>r = .returned (.tuple #[ZF,.int .i64 1]) ∧ Below W.heap.size W w':=by
 obtain ⟨W0,hW0⟩ : ∃ W0,W.alloc (.cells #[.int .i64 0,.int .i64 0,.slice none 0 0] 29) = W0:=⟨_,rfl⟩
 have HB0 : Hid (Below W.heap.size W W0):=Lib.hid (by rw [← hW0]; exact (Below.refl _ _).alloc (Nat.le_refl _) _)
 have HZ : Hid ((W0.cell? ⟨W.heap.size,0,none⟩ = some (.int .i64 0) ∧ W0.cell? ⟨W.heap.size,1,none⟩ = some (.int .i64 0) ∧ W0.cell? ⟨W.heap.size,2,none⟩ = some (.slice none 0 0)) ∧ (∀ t,W0.frozen? ⟨W.heap.size,t,none⟩ = false) ∧ W.heap.size < W0.heap.size):=Lib.hid (by
  rw [← hW0]; exact ⟨⟨World.cell?_alloc_at _ _ _ _ rfl,World.cell?_alloc_at _ _ _ _ rfl,World.cell?_alloc_at _ _ _ _ rfl⟩,fun t=>World.frozen?_alloc_at _ _ _ _ rfl,by simp⟩)
 have HPT : Hid (Calls Try.prog 89 #[.int .i64 (q : Nat)] W0 fun r w'=>r = .returned (.agg #[.int .i64 0,.int .i64 0]) ∧ Below W0.heap.size W0 w'):=Lib.hid (rparts_big hq hq2)
 go_enter Try.func70,Try.ntmps70
 go_wp2_with fail
 clear hW0
 refine HPT.out.mono ?_
 rintro z w1 ⟨rfl,hb1⟩
 obtain ⟨w2,hw2⟩ : ∃ w,w = w1.alloc (.cells #[.int .i64 0,.int .i64 0] 116):=⟨_,rfl⟩
 have hb12 : Below w1.heap.size w1 w2:=by rw [hw2]; exact (Below.refl _ _).alloc (Nat.le_refl _) _
 have e0 : w2.cell? ⟨w1.heap.size,0,none⟩ = some (.int .i64 0):=by rw [hw2]; exact World.cell?_alloc_at _ _ _ _ rfl
 have hb2 : Below W0.heap.size W0 w2:=hb1.trans (hb12.mono hb1.size)
 obtain ⟨z0,z1,z2⟩:=HZ.out.1
 have c0 : w2.cell? ⟨W.heap.size,0,none⟩ = some (.int .i64 0):=(hb2.cell (p:=⟨W.heap.size,0,none⟩) HZ.out.2.2).trans z0
 have c1 : w2.cell? ⟨W.heap.size,1,none⟩ = some (.int .i64 0):=(hb2.cell (p:=⟨W.heap.size,1,none⟩) HZ.out.2.2).trans z1
 have c2 : w2.cell? ⟨W.heap.size,2,none⟩ = some (.slice none 0 0):=(hb2.cell (p:=⟨W.heap.size,2,none⟩) HZ.out.2.2).trans z2
 have hfz : ∀ t,w2.frozen? ⟨W.heap.size,t,none⟩ = false:=fun t=>(World.frozen?_of_block (w:=W0) (hb2.block _ HZ.out.2.2)).trans (HZ.out.2.1 t)
 have f0:=hfz 0
 have f1:=hfz 1
 have f2:=hfz 2
 have HB2 : Hid (Below W.heap.size W w2):=Lib.hid (HB0.out.trans (hb2.mono HB0.out.size))
 have HBF : Hid (Below W.heap.size W (((w2.setCell ⟨W.heap.size,0,none⟩ (.int .i64 0)).setCell ⟨W.heap.size,1,none⟩ (.int .i64 0)).setCell ⟨W.heap.size,2,none⟩ (.slice none 0 0))):=Lib.hid (((HB2.out.setCell (p:=⟨W.heap.size,0,none⟩) (Nat.le_refl _) _).setCell (p:=⟨W.heap.size,1,none⟩) (Nat.le_refl _) _).setCell (p:=⟨W.heap.size,2,none⟩) (Nat.le_refl _) _)
 have HWW:=Lib.hid hw2
 clear hb1 hb12 hb2 hfz z0 z1 z2 hw2
 go_upto_region 2 with fail
 rw [← HWW.out]
 clear HWW
 go_wp2
 refine bodyPost_ret (v:=.tuple #[ZF,.int .i64 1]) (by simp [results,Try.results70,go_sem,c0,c1,c2]) rfl ?_
 exact ⟨rfl,HBF.out⟩
theorem gints_c {l l2 b b2 cap cap2 : Nat} {W : World} (hne : l ≠ l2) : Calls Try.prog 98 #[.slice (some ⟨b,0,none⟩) l cap,.slice (some ⟨b2,0,none⟩) l2 cap2] W fun e w'=>e = .returned (.bool false) ∧ Below W.heap.size W w':=by
 have h : ((l : Int) != (l2 : Int)) = true:=by simp; omega
 go_enter Try.func98,Try.ntmps98
 go_wp2
 go_ret
 exact ⟨rfl,Below.refl _ _⟩
set_option maxHeartbeats 3200000 in
theorem gsame_c {p e l b cap b2 cap2 l2 : Nat} {W : World} (hne : l ≠ l2) : Calls Try.prog 85 #[GV p e l b cap,GV p e l2 b2 cap2] W fun r w'=>r = .returned (.bool false) ∧ Below W.heap.size W w':=by
 obtain ⟨W0,hW0⟩ : ∃ W0,(W.alloc (.cells #[.int .i64 (p : Nat),.int .i64 (e : Nat),.slice (some ⟨b,0,none⟩) l cap] 29)).alloc (.cells #[.int .i64 (p : Nat),.int .i64 (e : Nat),.slice (some ⟨b2,0,none⟩) l2 cap2] 29) = W0:=⟨_,rfl⟩
 have hal : Below W.heap.size W W0:=by rw [← hW0]; exact ((Below.refl _ _).alloc (Nat.le_refl _) _).alloc (by simp) _
 obtain ⟨f0,f1,f2⟩ : GB W.heap.size p e l b cap W0:=by rw [← hW0]; exact (GB.new W p e l b cap).below ((Below.refl _ _).alloc (Nat.le_refl _) _) (by simp)
 obtain ⟨k0,k1,k2⟩ : GB (W.heap.size + 1) p e l2 b2 cap2 W0:=by
  rw [← hW0]
  have t:=GB.new (W.alloc (.cells #[.int .i64 (p : Nat),.int .i64 (e : Nat),.slice (some ⟨b,0,none⟩) l cap] 29)) p e l2 b2 cap2
  rwa [show (W.alloc (.cells #[.int .i64 (p : Nat),.int .i64 (e : Nat),.slice (some ⟨b,0,none⟩) l cap] 29)).heap.size = W.heap.size + 1 from by simp] at t
 have HC : Hid (Calls Try.prog 98 #[.slice (some ⟨b,0,none⟩) l cap,.slice (some ⟨b2,0,none⟩) l2 cap2] W0 fun e w'=>e = .returned (.bool false) ∧ Below W0.heap.size W0 w'):=Lib.hid (gints_c hne)
 have HB:=Lib.hid hal
 clear hal
 go_enter Try.func85,Try.ntmps85
 go_wp2_with fail
 refine HC.out.mono ?_
 rintro z w1 ⟨rfl,hb⟩
 have HB1:=Lib.hid (HB.out.trans (hb.mono HB.out.size))
 clear hb f0 f1 f2 k0 k1 k2
 go_wp2
 go_ret
 exact ⟨rfl,HB1.out⟩
theorem g_flds : ∀ F ∈ fds.take 10,∀ e ∈ [1,2,3],F.p ^ e ≤ 2197 ∧ (F.p ^ e ≤ 64 → (fds.any fun G=>G.p == F.p && G.e == e) = true):=by decide +kernel
theorem g_fld {F : Gf} (hF : F ∈ fds.take 10) {e : Nat} (h1 : 1 ≤ e) (h3 : e ≤ 3) : F.p ^ e ≤ 2197 ∧ (F.p ^ e ≤ 64 → ∃ G ∈ fds,G.p = F.p ∧ G.e = e ∧ G.q = F.p ^ e):=by
 obtain ⟨h,k⟩:=g_flds F hF e (by
  have : e = 1 ∨ e = 2 ∨ e = 3:=by omega
  rcases this with rfl | rfl | rfl <;> simp)
 refine ⟨h,fun hq=>?_⟩
 obtain ⟨G,hG,h2⟩:=List.any_eq_true.1 (k hq)
 have h3 : G.p = F.p ∧ G.e = e:=by simpa using h2
 have h5:=(fd_small G hG).2.2.2.2.1
 exact ⟨G,hG,h3.1,h3.2,by rw [← h5,h3.1,h3.2]⟩
set_option maxHeartbeats 6400000 in
theorem grvalid_c {F : Gf} {e b cap : Nat} {W : World} (hF : F ∈ fds.take 10) (he : e ≤ 3) (hne : e ≠ F.e) : Calls Try.prog 65 #[GV F.p e F.e b cap] W fun r w'=>r = .returned (.bool false) ∧ Below W.heap.size W w':=by
 obtain ⟨hp2,hp6,-⟩:=fd_small F (List.mem_of_mem_take hF)
 have HG:=Lib.hid (fun h=>g_fld hF (e:=e) h he)
 obtain ⟨p,hp⟩ : ∃ p,F.p = p:=⟨_,rfl⟩
 obtain ⟨l,hl⟩ : ∃ l,F.e = l:=⟨_,rfl⟩
 rw [hp] at HG hp2 hp6 ⊢
 rw [hl] at hne ⊢
 have p2 : ¬ (p : Int) < 2:=by omega
 have p6 : ¬ (64 : Int) < (p : Int):=by omega
 have e6 : ¬ (6 : Int) < (e : Int):=by omega
 obtain ⟨W0,hW0⟩ : ∃ W0,W.alloc (.cells #[.int .i64 (p : Nat),.int .i64 (e : Nat),.slice (some ⟨b,0,none⟩) l cap] 29) = W0:=⟨_,rfl⟩
 have HB0 : Hid (Below W.heap.size W W0):=Lib.hid (by rw [← hW0]; exact (Below.refl _ _).alloc (Nat.le_refl _) _)
 have HG0 : Hid (GB W.heap.size p e l b cap W0 ∧ W.heap.size < W0.heap.size):=Lib.hid (by rw [← hW0]; exact ⟨GB.new W p e l b cap,by simp⟩)
 obtain ⟨f0,f1,f2⟩:=HG0.out.1
 clear hp hl
 by_cases h1 : e < 1
 ·have e1 : (e : Int) < 1:=by omega
  go_enter Try.func65,Try.ntmps65
  go_wp2
  go_ret
  exact ⟨rfl,HB0.out⟩
 ·have e1 : ¬ (e : Int) < 1:=by omega
  obtain ⟨q,hq⟩ : ∃ q,Hid (p ^ e = q):=⟨_,Lib.hid rfl⟩
  have hqb : q ≤ 2197:=by have:=(HG.out (by omega)).1; rwa [hq.out] at this
  have HPW : Hid (∀ w,Calls Try.prog 68 #[.int .i64 (p : Nat),.int .i64 (e : Nat)] w fun r w'=>r = .returned (.int .i64 (q : Nat)) ∧ w' = w):=Lib.hid fun w=>rpower_c hq.out hp6 (by omega) (by omega) (by omega)
  go_enter Try.func65,Try.ntmps65
  go_wp2_with fail
  clear hW0
  refine (HPW.out _).mono ?_
  rintro z w1 ⟨rfl,rfl⟩
  by_cases h64 : q ≤ 64
  ·obtain ⟨G,hG,g1,g2,g3⟩:=(HG.out (by omega)).2 (by rw [hq.out]; exact h64)
   have HMK : Hid (∀ w,Calls Try.prog 70 #[.int .i64 (q : Nat)] w fun r w'=>∃ b2 cap2,r = .returned (.tuple #[GV p e e b2 cap2,.int .i64 0]) ∧ Below w.heap.size w w'):=Lib.hid fun w=>by
    have t:=rmake_c hG (mkOk hG) (W:=w)
    rw [g3,hq.out] at t
    refine t.mono fun r w' h=>?_
    obtain ⟨b2,cap2,k1,k2,k3,k4⟩:=h
    refine ⟨b2,cap2,?_,k3⟩
    rw [k1]
    show Ending.returned (.tuple #[.agg #[.int .i64 (G.p : Nat),.int .i64 (G.e : Nat),.slice (some ⟨b2,0,none⟩) G.e cap2],.int .i64 0]) = _
    rw [g1,g2]
   clear g1 g2 g3 hG
   go_wp2_with fail
   refine (HMK.out _).mono ?_
   rintro z w2 ⟨b2,cap2,rfl,hb2⟩
   obtain ⟨w3,hw3⟩ : ∃ w3,w2.alloc (.cells #[.int .i64 (p : Nat),.int .i64 (e : Nat),.slice (some ⟨b2,0,none⟩) e cap2] 29) = w3:=⟨_,rfl⟩
   have hal : Below w2.heap.size w2 w3:=by rw [← hw3]; exact (Below.refl _ _).alloc (Nat.le_refl _) _
   obtain ⟨g4,hg4⟩ : ∃ g,w2.heap.size = g:=⟨_,rfl⟩
   have HG3 : Hid (GB g4 p e e b2 cap2 w3):=Lib.hid (by rw [← hw3,← hg4]; exact GB.new w2 p e e b2 cap2)
   have hb13:=hb2.trans (hal.mono hb2.size)
   have HF3:=Lib.hid (HG0.out.1.below hb13 HG0.out.2)
   have HB3:=Lib.hid (HB0.out.trans (hb13.mono HB0.out.size))
   have HSM : Hid (Calls Try.prog 85 #[GV p e l b cap,GV p e e b2 cap2] w3 fun r w'=>r = .returned (.bool false) ∧ Below w3.heap.size w3 w'):=Lib.hid (gsame_c (fun h=>hne h.symm))
   clear hb2 hal hb13 f0 f1 f2
   obtain ⟨f0,f1,f2⟩:=HF3.out
   obtain ⟨k0,k1,k2⟩:=HG3.out
   go_wp2_with fail
   clear hw3
   refine HSM.out.mono ?_
   rintro z w4 ⟨rfl,hb4⟩
   have HB4:=Lib.hid (HB3.out.trans (hb4.mono HB3.out.size))
   clear hb4 f0 f1 f2 k0 k1 k2
   go_wp2
   go_ret
   exact ⟨rfl,HB4.out⟩
  ·have HMK : Hid (∀ w,Calls Try.prog 70 #[.int .i64 (q : Nat)] w fun r w'=>r = .returned (.tuple #[ZF,.int .i64 1]) ∧ Below w.heap.size w w'):=Lib.hid fun w=>rmake_big (by omega) (by omega)
   go_wp2_with fail
   refine (HMK.out _).mono ?_
   rintro z w2 ⟨rfl,hb2⟩
   have HB3 : Hid (Below W.heap.size W (w2.alloc (.cells #[.int .i64 0,.int .i64 0,.slice none 0 0] 29))):=Lib.hid ((HB0.out.trans (hb2.mono HB0.out.size)).alloc (Nat.le_trans HB0.out.size hb2.size) _)
   clear hb2 f0 f1 f2
   go_wp2
   go_ret
   exact ⟨rfl,HB3.out⟩
set_option maxHeartbeats 6400000 in
theorem grvalid35_c {F : Gf} {e b cap n m ca : Nat} {aa : Option Addr} {W : World} (hF : F ∈ fds.take 10) (he : e ≤ 3) (hne : e ≠ F.e) (h1 : 1 ≤ n) (hn : n ≤ 24) (hm : m ≤ 64) :
  Calls Try.prog 35 #[GV F.p e F.e b cap,.int .i64 (n : Nat),.slice aa m ca] W fun r w'=>r = .returned (.bool false) ∧ Below W.heap.size W w':=by
 have HV : Hid (∀ w,Calls Try.prog 65 #[GV F.p e F.e b cap] w fun r w'=>r = .returned (.bool false) ∧ Below w.heap.size w w'):=Lib.hid fun w=>grvalid_c hF he hne
 obtain ⟨p,hp⟩ : ∃ p,F.p = p:=⟨_,rfl⟩
 obtain ⟨l,hl⟩ : ∃ l,F.e = l:=⟨_,rfl⟩
 rw [hp,hl] at HV ⊢
 obtain ⟨W0,hW0⟩ : ∃ W0,W.alloc (.cells #[.int .i64 (p : Nat),.int .i64 (e : Nat),.slice (some ⟨b,0,none⟩) l cap] 29) = W0:=⟨_,rfl⟩
 have HB0 : Hid (Below W.heap.size W W0):=Lib.hid (by rw [← hW0]; exact (Below.refl _ _).alloc (Nat.le_refl _) _)
 obtain ⟨f0,f1,f2⟩ : GB W.heap.size p e l b cap W0:=by rw [← hW0]; exact GB.new W p e l b cap
 have h1i : ¬ (n : Int) < 1:=by omega
 have h2i : ¬ (24 : Int) < (n : Int):=by omega
 have hm1 : ¬ (64 : Int) < (m : Int):=by omega
 clear hp hl
 go_enter Try.func35,Try.ntmps35
 go_wp2_with fail
 clear hW0
 refine (HV.out _).mono ?_
 rintro z w2 ⟨rfl,hb2⟩
 have HB2:=Lib.hid (HB0.out.trans (hb2.mono HB0.out.size))
 clear hb2 f0 f1 f2
 go_wp2
 go_ret
 exact ⟨rfl,HB2.out⟩
set_option maxHeartbeats 6400000 in
theorem gsvalid_c {F : Gf} {e b cap n m ca : Nat} {A : List (List Nat)} {aa : Option Addr} {W : World} (hF : F ∈ fds.take 10) (he : e ≤ 3) (hne : e ≠ F.e) (hn : n ≤ 1000) (hm : m ≤ 64) (la : A.length = m) (hr : ∀ t,t < A.length → (A.getD t []).length ≤ 1000) (na : MM A W (.slice aa m ca)) :
  Calls Try.prog 13 #[GV F.p e F.e b cap,.int .i64 (n : Nat),.slice aa m ca] W fun r w'=>r = .returned (.bool false) ∧ Below W.heap.size W w':=by
 obtain ⟨hp2,hp6,-⟩:=fd_small F (List.mem_of_mem_take hF)
 have HV : Hid (∀ w,Calls Try.prog 50 #[GV F.p e F.e b cap] w fun r w'=>r = .returned (.bool false) ∧ Below w.heap.size w w'):=Lib.hid fun w=>gfvalid_c hp2 hp6 (by omega) hne
 obtain ⟨p,hp⟩ : ∃ p,F.p = p:=⟨_,rfl⟩
 obtain ⟨l,hl⟩ : ∃ l,F.e = l:=⟨_,rfl⟩
 rw [hp,hl] at HV ⊢
 obtain ⟨w1,hw1⟩ : ∃ w1,w1 = W.alloc (.cells #[.int .i64 (p : Nat),.int .i64 (e : Nat),.slice (some ⟨b,0,none⟩) l cap] 29):=⟨_,rfl⟩
 obtain ⟨w2,hw2⟩ : ∃ w2,w2 = w1.alloc (.cells #[.slice aa m ca] 30):=⟨_,rfl⟩
 have hal1 : Below W.heap.size W w1:=by rw [hw1]; exact (Below.refl _ _).alloc (Nat.le_refl _) _
 have hal2 : Below w1.heap.size w1 w2:=by rw [hw2]; exact (Below.refl _ _).alloc (Nat.le_refl _) _
 have HAL : Hid (Below W.heap.size W w2):=Lib.hid (hal1.trans (hal2.mono hal1.size))
 have HS1 : Hid (w1.heap.size = W.heap.size + 1):=Lib.hid (by rw [hw1]; simp)
 have HFB : Hid (GB W.heap.size p e l b cap w2 ∧ W.heap.size < w2.heap.size):=Lib.hid ⟨GB.below (by rw [hw1]; exact GB.new W p e l b cap) hal2 (by rw [HS1.out]; exact Nat.lt_succ_self _),Nat.lt_of_lt_of_le (by rw [HS1.out]; exact Nat.lt_succ_self _) hal2.size⟩
 have HLM : Hid (LM [A] w2 (.slice (some ⟨W.heap.size + 1,0,none⟩) 1 1)):=Lib.hid (by
  have t:=LM.one (A:=A) (w:=w1) (a:=aa) (c:=ca) (by rw [la]; exact na.below hal1)
  rw [la,← hw2,HS1.out] at t; exact t)
 obtain ⟨bw,hbw⟩ : ∃ x,(decide (1 ≤ n ∧ n ≤ 24) && wdM n [A]) = x:=⟨_,rfl⟩
 have HWD : Hid (Calls Try.prog 49 #[.int .i64 (n : Nat),.slice (some ⟨W.heap.size + 1,0,none⟩) 1 1] w2 fun e w'=>e = .returned (.bool bw) ∧ Below w2.heap.size w2 w'):=Lib.hid (by
  have t:=haveWd_c (n:=n) (Ms:=[A]) (a:=some ⟨W.heap.size + 1,0,none⟩) (c:=1) (W:=w2) (by omega) (by simp) (fun t ht=>by simp at ht; subst ht; show A.length ≤ _; omega) (fun t ht k hk=>by simp at ht; subst ht; exact Nat.le_trans (hr k hk) (by omega)) HLM.out
  rw [hbw] at t; exact t)
 have HW1:=Lib.hid hw1
 have HW2:=Lib.hid hw2
 have h64i : (m : Int) ≤ 64:=by omega
 clear hw1 hw2 hal1 hal2 na hbw hp hl
 go_enter Try.func13,Try.ntmps13
 go_wp2_with fail
 rw [← HW1.out,← HW2.out]
 clear HW1 HW2
 with_reducible refine HWD.out.mono ?_
 rintro e w3 ⟨rfl,hb3⟩
 have HB3 : Hid (Below W.heap.size W w3):=Lib.hid (HAL.out.trans (hb3.mono HAL.out.size))
 obtain ⟨f0,f1,f2⟩:=GB.below HFB.out.1 hb3 HFB.out.2
 clear hb3
 cases bw with
 | false =>
  go_wp2_with fail
  go_ret
  exact ⟨rfl,HB3.out⟩
 | true =>
  go_wp2_with fail
  refine (HV.out _).mono ?_
  rintro z w4 ⟨rfl,hb4⟩
  have HB4 : Hid (Below W.heap.size W w4):=Lib.hid (HB3.out.trans (hb4.mono HB3.out.size))
  clear f0 f1 f2 hb4
  go_wp2_with fail
  go_ret
  exact ⟨rfl,HB4.out⟩
end Go.Proofs.Yteeofijcndgbfaa
