/- Matrices as they lie; the small functions that only read. -/
import Derived.Test.YteeofijcndgbfaaBa
import Derived.Test.YteeofijcndgbfaaEvWi
namespace Go.Proofs.Yteeofijcndgbfaa
open Go.RowKit Go.Fl
set_option maxRecDepth 100000
set_option linter.unusedVariables false
set_option linter.unusedSimpArgs false
set_option linter.unusedSectionVars false
theorem NN.at {L : List Nat} {w : World} {a : Option Addr} {c : Nat} (h : NN L w (.slice a L.length c)) {k : Nat} (hk : k < L.length) : ∃ b o,a = some ⟨b,o,none⟩ ∧ w.cell? ⟨b,o + k,none⟩ = some (.int .i64 (L.getD k 0 : Nat)):=by
 rcases h with ⟨e,h⟩ | ⟨b',off',cap',h,g1,g2,g3⟩
 ·rw [e] at hk; simp at hk
 ·injection h with h1 h2 h3; exact ⟨b',off',h1,g3 k hk⟩
def MM (R : List (List Nat)) (w : World) (v : Value) : Prop:=(R = [] ∧ v = .slice none 0 0) ∨ ∃ b off cap,v = .slice (some ⟨b,off,none⟩) R.length cap ∧ R.length ≤ cap ∧ b < w.heap.size ∧
 ∀ t,t < R.length → ∃ a c,w.cell? ⟨b,off + t,none⟩ = some (.slice a (R.getD t []).length c) ∧ NN (R.getD t []) w (.slice a (R.getD t []).length c)
theorem MM.below {R : List (List Nat)} {w w' : World} {v : Value} (h : MM R w v) (hb : Below w.heap.size w w') : MM R w' v:=by
 rcases h with h | ⟨b,off,cap,h1,h2,h3,h4⟩
 ·exact .inl h
 ·refine .inr ⟨b,off,cap,h1,h2,Nat.lt_of_lt_of_le h3 hb.size,fun t ht=>?_⟩
  obtain ⟨a,c,g1,g2⟩:=h4 t ht
  exact ⟨a,c,(hb.cell h3).trans g1,g2.below hb⟩
theorem MM.at {R : List (List Nat)} {w : World} {a : Option Addr} {c : Nat} (h : MM R w (.slice a R.length c)) {k : Nat} (hk : k < R.length) : ∃ b o,a = some ⟨b,o,none⟩ ∧ ∃ a' c',w.cell? ⟨b,o + k,none⟩ = some (.slice a' (R.getD k []).length c') ∧ NN (R.getD k []) w (.slice a' (R.getD k []).length c'):=by
 rcases h with ⟨e,h⟩ | ⟨b',off',cap',h,g1,g2,g3⟩
 ·rw [e] at hk; simp at hk
 ·injection h with h1 h2 h3; exact ⟨b',off',h1,g3 k hk⟩
theorem MM.shape {R : List (List Nat)} {w : World} {v : Value} (h : MM R w v) : ∃ a c,v = .slice a R.length c:=by
 rcases h with ⟨rfl,h⟩ | ⟨b,off,cap,h,_⟩
 ·exact ⟨none,0,h⟩
 ·exact ⟨_,_,h⟩
def zV (L : List Nat) : Bool:=L.all (· == 0)
theorem zV_no {L : List Nat} {k : Nat} (hk : k < L.length) (h : L.getD k 0 ≠ 0) : zV L = false:=by
 unfold zV
 rw [List.all_eq_false]
 refine ⟨L[k],List.getElem_mem hk,?_⟩
 rw [List.getD_eq_getElem?_getD,List.getElem?_eq_getElem hk] at h
 simpa using h
theorem zV_yes {L : List Nat} (h : ∀ j,j < L.length → L.getD j 0 = 0) : zV L = true:=by
 unfold zV
 rw [List.all_eq_true]
 intro x hx
 obtain ⟨i,hi,rfl⟩:=List.getElem_of_mem hx
 have:=h i hi
 rw [List.getD_eq_getElem?_getD,List.getElem?_eq_getElem hi] at this
 simpa using this
theorem isZero_c {L : List Nat} {a : Option Addr} {c : Nat} {W : World} (hl : L.length ≤ 100000) (h : NN L W (.slice a L.length c)) :
  Calls Try.prog 61 #[.slice a L.length c] W fun e w'=>e = .returned (.bool (zV L)) ∧ Below W.heap.size W w':=by
 have HN:=Lib.hid h
 clear h
 go_enter Try.func61,Try.ntmps61
 go_wp2
 go_loopw [7] (fun i wr=>∃ k : Nat,k ≤ L.length ∧ i = .int .i64 k ∧ Hid (∀ j,j < k → L.getD j 0 = 0) ∧ Hid (Below W.heap.size W wr)) (fun i _=>L.length - (intOf i).toNat)
 case atStart=>exact ⟨0,Nat.zero_le _,rfl,Lib.hid (fun j hj=>by omega),Below.refl _ _⟩
 case round =>
  obtain ⟨k,hk,rfl,KZ,KB⟩:=hrel
  by_cases hlt : k < L.length
  ·obtain ⟨x,hx⟩ : ∃ x,L.getD k 0 = x:=⟨_,rfl⟩
   obtain ⟨b1,o1,rfl,hc⟩:=(HN.out.below KB.out).at hlt
   rw [hx] at hc
   have hk5 : k < 100000:=by omega
   have HX:=Lib.hid hx
   clear hx
   by_cases h0 : x = 0
   ·subst h0
    go_wp2
    go_roundw
    case rel=>exact ⟨k + 1,by omega,by go_num,Lib.hid (fun j hj=>by
     by_cases e : j = k
     ·rw [e]; exact HX.out
     ·exact KZ.out j (by omega)),KB⟩
    case measure=>simp [intOf]; omega
   ·have HR : Hid (zV L = false):=Lib.hid (zV_no hlt (by rw [HX.out]; exact h0))
    have hx0 : ((x : Int) != 0) = true:=by simpa using h0
    have HBF:=Lib.hid KB.out
    go_wp2
    go_ret
    exact ⟨by rw [HR.out]; rfl,HBF.out⟩
  ·have HR : Hid (zV L = true):=Lib.hid (zV_yes fun j hj=>KZ.out j (by omega))
   have hlt1 : ¬ (k : Int) < (L.length : Int):=by omega
   have HBF:=Lib.hid KB.out
   go_wp2
   go_ret
   exact ⟨by rw [HR.out]; rfl,HBF.out⟩
theorem pivot_c {L : List Nat} {a : Option Addr} {c : Nat} {W : World} (hl : L.length ≤ 100000) (h : NN L W (.slice a L.length c)) :
  Calls Try.prog 45 #[.slice a L.length c] W fun e w'=>e = .returned (.int .i64 (pvt (fn L) L.length : Nat)) ∧ Below W.heap.size W w':=by
 have HN:=Lib.hid h
 clear h
 go_enter Try.func45,Try.ntmps45
 go_wp2
 go_loopw [3] (fun i wr=>∃ k : Nat,k ≤ L.length ∧ i = .int .i64 k ∧ Hid (∀ j,j < k → L.getD j 0 = 0) ∧ Hid (Below W.heap.size W wr)) (fun i _=>L.length - (intOf i).toNat)
 case atStart=>exact ⟨0,Nat.zero_le _,rfl,Lib.hid (fun j hj=>by omega),Below.refl _ _⟩
 case round =>
  obtain ⟨k,hk,rfl,KZ,KB⟩:=hrel
  by_cases hlt : k < L.length
  ·obtain ⟨x,hx⟩ : ∃ x,L.getD k 0 = x:=⟨_,rfl⟩
   obtain ⟨b1,o1,rfl,hc⟩:=(HN.out.below KB.out).at hlt
   rw [hx] at hc
   have hk5 : k < 100000:=by omega
   have HX:=Lib.hid hx
   clear hx
   by_cases h0 : x = 0
   ·subst h0
    go_wp2
    go_roundw
    case rel=>exact ⟨k + 1,by omega,by go_num,Lib.hid (fun j hj=>by
     by_cases e : j = k
     ·rw [e]; exact HX.out
     ·exact KZ.out j (by omega)),KB⟩
    case measure=>simp [intOf]; omega
   ·have HR : Hid (pvt (fn L) L.length = k):=Lib.hid (pvt_uniq hk (fun j hj=>KZ.out j hj) fun _=>by show L.getD k 0 ≠ 0; rw [HX.out]; exact h0)
    have hx0 : ((x : Int) == 0) = false:=by simpa using h0
    have HBF:=Lib.hid KB.out
    go_wp2
    go_ret
    exact ⟨by rw [HR.out]; rfl,HBF.out⟩
  ·obtain rfl : k = L.length:=by omega
   have HR : Hid (pvt (fn L) L.length = L.length):=Lib.hid (pvt_uniq hk (fun j hj=>KZ.out j hj) fun h=>absurd h (by omega))
   have hlt1 : ¬ (L.length : Int) < (L.length : Int):=by omega
   have HBF:=Lib.hid KB.out
   go_wp2
   go_ret
   exact ⟨by rw [HR.out]; rfl,HBF.out⟩
def elM (q : Nat) (R : List (List Nat)) : Bool:=R.all fun r=>r.all fun x=>decide (x < q)
theorem elM_no {q : Nat} {R : List (List Nat)} {t k : Nat} (ht : t < R.length) (hk : k < (R.getD t []).length) (h : ¬ (R.getD t []).getD k 0 < q) : elM q R = false:=by
 unfold elM
 rw [List.all_eq_false]
 refine ⟨R[t],List.getElem_mem ht,?_⟩
 have e : R.getD t [] = R[t]:=by rw [List.getD_eq_getElem?_getD,List.getElem?_eq_getElem ht]; rfl
 rw [e] at hk h
 rw [Bool.not_eq_true,List.all_eq_false]
 refine ⟨R[t][k],List.getElem_mem hk,?_⟩
 rw [List.getD_eq_getElem?_getD,List.getElem?_eq_getElem hk] at h
 simpa using h
theorem elM_yes {q : Nat} {R : List (List Nat)} (h : ∀ t,t < R.length → ∀ k,k < (R.getD t []).length → (R.getD t []).getD k 0 < q) : elM q R = true:=by
 unfold elM
 rw [List.all_eq_true]
 intro r hr
 obtain ⟨t,ht,rfl⟩:=List.getElem_of_mem hr
 rw [List.all_eq_true]
 intro x hx
 obtain ⟨k,hk,rfl⟩:=List.getElem_of_mem hx
 have e : R.getD t [] = R[t]:=by rw [List.getD_eq_getElem?_getD,List.getElem?_eq_getElem ht]; rfl
 have:=h t ht k (by rw [e]; exact hk)
 rw [e,List.getD_eq_getElem?_getD,List.getElem?_eq_getElem hk] at this
 simpa using this
set_option maxHeartbeats 1600000 in
theorem haveEl_c {q : Nat} {R : List (List Nat)} {a : Option Addr} {c : Nat} {W : World} (hq : q ≤ 100) (hl : R.length ≤ 100000) (hr : ∀ t,t < R.length → (R.getD t []).length ≤ 100000) (h : MM R W (.slice a R.length c)) :
  Calls Try.prog 51 #[.int .i64 (q : Nat),.slice a R.length c] W fun e w'=>e = .returned (.bool (elM q R)) ∧ Below W.heap.size W w':=by
 have HN:=Lib.hid h
 have HL:=Lib.hid hr
 clear h hr
 go_enter Try.func51,Try.ntmps51
 go_wp2
 go_loopw [11] (fun i wr=>∃ k : Nat,k ≤ R.length ∧ i = .int .i64 k ∧ Hid (∀ t,t < k → ∀ j,j < (R.getD t []).length → (R.getD t []).getD j 0 < q) ∧ Hid (Below W.heap.size W wr)) (fun i _=>R.length - (intOf i).toNat)
 case atStart=>exact ⟨0,Nat.zero_le _,rfl,Lib.hid (fun j hj=>by omega),Below.refl _ _⟩
 case round =>
  obtain ⟨t,ht,rfl,KZ,KB⟩:=hrel
  by_cases hlt : t < R.length
  ·obtain ⟨L,hL⟩ : ∃ L,R.getD t [] = L:=⟨_,rfl⟩
   obtain ⟨b1,o1,rfl,a1,c1,hc,hn⟩:=(HN.out.below KB.out).at hlt
   have hll:=HL.out t hlt
   rw [hL] at hc hn hll
   have ht5 : t < 100000:=by omega
   have HX:=Lib.hid hL
   have HN1:=Lib.hid hn
   have HLT:=Lib.hid hlt
   clear hL hn
   go_wp2
   go_loopw [17] (fun i wi=>∃ k : Nat,k ≤ L.length ∧ i = .int .i64 k ∧ Hid (∀ j,j < k → L.getD j 0 < q) ∧ Hid (Below wr.heap.size wr wi)) (fun i _=>L.length - (intOf i).toNat)
   case atStart=>exact ⟨0,Nat.zero_le _,rfl,Lib.hid (fun j hj=>by omega),Below.refl _ _⟩
   case round =>
    obtain ⟨k,hk,rfl,KZ1,KB1⟩:=hrel
    by_cases hlt1 : k < L.length
    ·obtain ⟨x,hx⟩ : ∃ x,L.getD k 0 = x:=⟨_,rfl⟩
     obtain ⟨b2,o2,rfl,hc2⟩:=(HN1.out.below KB1.out).at hlt1
     rw [hx] at hc2
     have hk5 : k < 100000:=by omega
     have HX1:=Lib.hid hx
     clear hx
     have hx0 : ¬ (x : Int) < 0:=by omega
     by_cases hxq : x < q
     ·have hxq1 : ¬ (q : Int) ≤ (x : Int):=by omega
      go_wp2
      go_roundw
      case rel=>exact ⟨k + 1,by omega,by go_num,Lib.hid (fun j hj=>by
       by_cases e : j = k
       ·rw [e,HX1.out]; exact hxq
       ·exact KZ1.out j (by omega)),KB1⟩
      case measure=>simp [intOf]; omega
     ·have hxq1 : (q : Int) ≤ (x : Int):=by omega
      have HR : Hid (elM q R = false):=Lib.hid (elM_no HLT.out (by rw [HX.out]; exact hlt1) (by rw [HX.out,HX1.out]; exact hxq))
      have HBF:=Lib.hid (KB.out.trans (KB1.out.mono KB.out.size))
      go_wp2
      go_ret
      exact ⟨by rw [HR.out]; rfl,HBF.out⟩
    ·have hlt2 : ¬ (k : Int) < (L.length : Int):=by omega
     have HBF:=Lib.hid (KB.out.trans (KB1.out.mono KB.out.size))
     have HE : Hid (k = L.length):=Lib.hid (by omega)
     go_wp2
     go_roundw
     case rel=>exact ⟨t + 1,by omega,by go_num,Lib.hid (fun s hs j hj=>by
      by_cases e : s = t
      ·rw [e,HX.out] at hj ⊢; exact KZ1.out j (by have:=HE.out; omega)
      ·exact KZ.out s (by omega) j hj),HBF⟩
     case measure=>simp [intOf]; omega
  ·have HR : Hid (elM q R = true):=Lib.hid (elM_yes fun s hs j hj=>KZ.out s (by omega) j hj)
   have hlt1 : ¬ (t : Int) < (R.length : Int):=by omega
   have HBF:=Lib.hid KB.out
   go_wp2
   go_ret
   exact ⟨by rw [HR.out]; rfl,HBF.out⟩
def LM (Ms : List (List (List Nat))) (w : World) (v : Value) : Prop:=(Ms = [] ∧ v = .slice none 0 0) ∨ ∃ b off cap,v = .slice (some ⟨b,off,none⟩) Ms.length cap ∧ Ms.length ≤ cap ∧ b < w.heap.size ∧
 ∀ t,t < Ms.length → ∃ a c,w.cell? ⟨b,off + t,none⟩ = some (.slice a (Ms.getD t []).length c) ∧ MM (Ms.getD t []) w (.slice a (Ms.getD t []).length c)
theorem LM.below {Ms : List (List (List Nat))} {w w' : World} {v : Value} (h : LM Ms w v) (hb : Below w.heap.size w w') : LM Ms w' v:=by
 rcases h with h | ⟨b,off,cap,h1,h2,h3,h4⟩
 ·exact .inl h
 ·refine .inr ⟨b,off,cap,h1,h2,Nat.lt_of_lt_of_le h3 hb.size,fun t ht=>?_⟩
  obtain ⟨a,c,g1,g2⟩:=h4 t ht
  exact ⟨a,c,(hb.cell h3).trans g1,g2.below hb⟩
theorem LM.at {Ms : List (List (List Nat))} {w : World} {a : Option Addr} {c : Nat} (h : LM Ms w (.slice a Ms.length c)) {k : Nat} (hk : k < Ms.length) : ∃ b o,a = some ⟨b,o,none⟩ ∧ ∃ a' c',w.cell? ⟨b,o + k,none⟩ = some (.slice a' (Ms.getD k []).length c') ∧ MM (Ms.getD k []) w (.slice a' (Ms.getD k []).length c'):=by
 rcases h with ⟨e,h⟩ | ⟨b',off',cap',h,g1,g2,g3⟩
 ·rw [e] at hk; simp at hk
 ·injection h with h1 h2 h3; exact ⟨b',off',h1,g3 k hk⟩
def wdM (n : Nat) (Ms : List (List (List Nat))) : Bool:=Ms.all fun R=>R.all fun r=>r.length == n
theorem wdM_no {n : Nat} {Ms : List (List (List Nat))} {t k : Nat} (ht : t < Ms.length) (hk : k < (Ms.getD t []).length) (h : ¬ ((Ms.getD t []).getD k []).length = n) : wdM n Ms = false:=by
 unfold wdM
 rw [List.all_eq_false]
 refine ⟨Ms[t],List.getElem_mem ht,?_⟩
 have e : Ms.getD t [] = Ms[t]:=by rw [List.getD_eq_getElem?_getD,List.getElem?_eq_getElem ht]; rfl
 rw [e] at hk h
 rw [Bool.not_eq_true,List.all_eq_false]
 refine ⟨Ms[t][k],List.getElem_mem hk,?_⟩
 rw [List.getD_eq_getElem?_getD,List.getElem?_eq_getElem hk] at h
 simpa using h
theorem wdM_yes {n : Nat} {Ms : List (List (List Nat))} (h : ∀ t,t < Ms.length → ∀ k,k < (Ms.getD t []).length → ((Ms.getD t []).getD k []).length = n) : wdM n Ms = true:=by
 unfold wdM
 rw [List.all_eq_true]
 intro r hr
 obtain ⟨t,ht,rfl⟩:=List.getElem_of_mem hr
 rw [List.all_eq_true]
 intro x hx
 obtain ⟨k,hk,rfl⟩:=List.getElem_of_mem hx
 have e : Ms.getD t [] = Ms[t]:=by rw [List.getD_eq_getElem?_getD,List.getElem?_eq_getElem ht]; rfl
 have:=h t ht k (by rw [e]; exact hk)
 rw [e,List.getD_eq_getElem?_getD,List.getElem?_eq_getElem hk] at this
 simpa using this
set_option maxHeartbeats 1600000 in
theorem haveWd_c {n : Nat} {Ms : List (List (List Nat))} {a : Option Addr} {c : Nat} {W : World} (hn : n ≤ 100000) (hl : Ms.length ≤ 100000) (hr : ∀ t,t < Ms.length → (Ms.getD t []).length ≤ 100000)
  (hr2 : ∀ t,t < Ms.length → ∀ k,k < (Ms.getD t []).length → ((Ms.getD t []).getD k []).length ≤ 100000) (h : LM Ms W (.slice a Ms.length c)) :
  Calls Try.prog 49 #[.int .i64 (n : Nat),.slice a Ms.length c] W fun e w'=>e = .returned (.bool (decide (1 ≤ n ∧ n ≤ 24) && wdM n Ms)) ∧ Below W.heap.size W w':=by
 have HN:=Lib.hid h
 have HL:=Lib.hid hr
 have HL2:=Lib.hid hr2
 clear h hr hr2
 obtain ⟨B,hB⟩ : ∃ B,(decide (1 ≤ n ∧ n ≤ 24) && wdM n Ms) = B:=⟨_,rfl⟩
 rw [hB]
 have HB:=Lib.hid hB
 clear hB
 go_enter Try.func49,Try.ntmps49
 by_cases h1 : n < 1
 ·have h1i : (n : Int) < 1:=by omega
  have HR : Hid (B = false):=Lib.hid (by rw [← HB.out,show decide (1 ≤ n ∧ n ≤ 24) = false from by simp; omega]; rfl)
  go_wp2
  go_ret
  exact ⟨by rw [HR.out]; rfl,Below.refl _ _⟩
 have h1i : ¬ (n : Int) < 1:=by omega
 by_cases h2 : 24 < n
 ·have h2i : (24 : Int) < (n : Int):=by omega
  have HR : Hid (B = false):=Lib.hid (by rw [← HB.out,show decide (1 ≤ n ∧ n ≤ 24) = false from by simp; omega]; rfl)
  go_wp2
  go_ret
  exact ⟨by rw [HR.out]; rfl,Below.refl _ _⟩
 have h2i : ¬ (24 : Int) < (n : Int):=by omega
 have HD : Hid (decide (1 ≤ n ∧ n ≤ 24) = true):=Lib.hid (by simp; omega)
 go_wp2
 go_loopw [17] (fun i wr=>∃ k : Nat,k ≤ Ms.length ∧ i = .int .i64 k ∧ Hid (∀ t,t < k → ∀ j,j < (Ms.getD t []).length → ((Ms.getD t []).getD j []).length = n) ∧ Hid (Below W.heap.size W wr)) (fun i _=>Ms.length - (intOf i).toNat)
 case atStart=>exact ⟨0,Nat.zero_le _,rfl,Lib.hid (fun j hj=>by omega),Below.refl _ _⟩
 case round =>
  obtain ⟨t,ht,rfl,KZ,KB⟩:=hrel
  by_cases hlt : t < Ms.length
  ·obtain ⟨L,hL⟩ : ∃ L,Ms.getD t [] = L:=⟨_,rfl⟩
   obtain ⟨b1,o1,rfl,a1,c1,hc,hn'⟩:=(HN.out.below KB.out).at hlt
   have hll:=HL.out t hlt
   have HLL:=Lib.hid (HL2.out t hlt)
   rw [hL] at hc hn' hll
   rw [hL] at HLL
   have ht5 : t < 100000:=by omega
   have HX:=Lib.hid hL
   have HN1:=Lib.hid hn'
   have HLT:=Lib.hid hlt
   clear hL hn'
   go_wp2
   go_loopw [23] (fun i wi=>∃ k : Nat,k ≤ L.length ∧ i = .int .i64 k ∧ Hid (∀ j,j < k → (L.getD j []).length = n) ∧ Hid (Below wr.heap.size wr wi)) (fun i _=>L.length - (intOf i).toNat)
   case atStart=>exact ⟨0,Nat.zero_le _,rfl,Lib.hid (fun j hj=>by omega),Below.refl _ _⟩
   case round =>
    obtain ⟨k,hk,rfl,KZ1,KB1⟩:=hrel
    by_cases hlt1 : k < L.length
    ·obtain ⟨x,hx⟩ : ∃ x,L.getD k [] = x:=⟨_,rfl⟩
     obtain ⟨b2,o2,rfl,a2,c2,hc2,-⟩:=(HN1.out.below KB1.out).at hlt1
     have hxl:=HLL.out k hlt1
     rw [hx] at hc2 hxl
     have hk5 : k < 100000:=by omega
     have HX1:=Lib.hid hx
     clear hx
     by_cases hxq : x.length = n
     ·have hxq1 : ((x.length : Int) != (n : Int)) = false:=by simp [hxq]
      go_wp2
      go_roundw
      case rel=>exact ⟨k + 1,by omega,by go_num,Lib.hid (fun j hj=>by
       by_cases e : j = k
       ·rw [e,HX1.out]; exact hxq
       ·exact KZ1.out j (by omega)),KB1⟩
      case measure=>simp [intOf]; omega
     ·have hxq1 : ((x.length : Int) != (n : Int)) = true:=by simp; omega
      have HR : Hid (B = false):=Lib.hid (by rw [← HB.out,wdM_no HLT.out (by rw [HX.out]; exact hlt1) (by rw [HX.out,HX1.out]; exact hxq),Bool.and_false])
      have HBF:=Lib.hid (KB.out.trans (KB1.out.mono KB.out.size))
      go_wp2
      go_ret
      exact ⟨by rw [HR.out]; rfl,HBF.out⟩
    ·have hlt2 : ¬ (k : Int) < (L.length : Int):=by omega
     have HBF:=Lib.hid (KB.out.trans (KB1.out.mono KB.out.size))
     have HE : Hid (k = L.length):=Lib.hid (by omega)
     go_wp2
     go_roundw
     case rel=>exact ⟨t + 1,by omega,by go_num,Lib.hid (fun s hs j hj=>by
      by_cases e : s = t
      ·rw [e,HX.out] at hj ⊢; exact KZ1.out j (by have:=HE.out; omega)
      ·exact KZ.out s (by omega) j hj),HBF⟩
     case measure=>simp [intOf]; omega
  ·have HR : Hid (B = true):=Lib.hid (by rw [← HB.out,HD.out,wdM_yes fun s hs j hj=>KZ.out s (by omega) j hj]; rfl)
   have hlt1 : ¬ (t : Int) < (Ms.length : Int):=by omega
   have HBF:=Lib.hid KB.out
   go_wp2
   go_ret
   exact ⟨by rw [HR.out]; rfl,HBF.out⟩
def wM : List (List (List Nat)) → Nat
 | []=>0
 | [] :: Ms=>wM Ms
 | (r :: _) :: _=>r.length
theorem wM_at : ∀ {Ms : List (List (List Nat))} {t : Nat},(∀ j,j < t → Ms.getD j [] = []) → t < Ms.length → 0 < (Ms.getD t []).length → wM Ms = ((Ms.getD t []).getD 0 []).length
 | [],_,_,h,_=>by simp at h
 | [] :: Ms,0,_,_,h=>by simp at h
 | [] :: Ms,t + 1,h,ht,hp=>by
  show wM Ms = _
  exact wM_at (Ms:=Ms) (t:=t) (fun j hj=>h (j + 1) (by omega)) (by simpa using ht) hp
 | (r :: R) :: Ms,0,_,_,_=>rfl
 | (r :: R) :: Ms,t + 1,h,_,_=>by have:=h 0 (by omega); simp at this
theorem wM_none : ∀ {Ms : List (List (List Nat))},(∀ j,j < Ms.length → Ms.getD j [] = []) → wM Ms = 0
 | [],_=>rfl
 | [] :: Ms,h=>by show wM Ms = 0; exact wM_none fun j hj=>h (j + 1) (by simpa using hj)
 | (r :: R) :: Ms,h=>by have:=h 0 (by simp); simp at this
set_option maxHeartbeats 1600000 in
theorem width_c {Ms : List (List (List Nat))} {a : Option Addr} {c : Nat} {W : World} (hl : Ms.length ≤ 100000) (h : LM Ms W (.slice a Ms.length c)) :
  Calls Try.prog 63 #[.slice a Ms.length c] W fun e w'=>e = .returned (.int .i64 (wM Ms : Nat)) ∧ Below W.heap.size W w':=by
 have HN:=Lib.hid h
 clear h
 obtain ⟨B,hB⟩ : ∃ B,wM Ms = B:=⟨_,rfl⟩
 rw [hB]
 have HB:=Lib.hid hB
 clear hB
 go_enter Try.func63,Try.ntmps63
 go_wp2
 go_loopw [7] (fun i wr=>∃ k : Nat,k ≤ Ms.length ∧ i = .int .i64 k ∧ Hid (∀ t,t < k → Ms.getD t [] = []) ∧ Hid (Below W.heap.size W wr)) (fun i _=>Ms.length - (intOf i).toNat)
 case atStart=>exact ⟨0,Nat.zero_le _,rfl,Lib.hid (fun j hj=>by omega),Below.refl _ _⟩
 case round =>
  obtain ⟨t,ht,rfl,KZ,KB⟩:=hrel
  by_cases hlt : t < Ms.length
  ·obtain ⟨L,hL⟩ : ∃ L,Ms.getD t [] = L:=⟨_,rfl⟩
   obtain ⟨b1,o1,rfl,a1,c1,hc,hn'⟩:=(HN.out.below KB.out).at hlt
   rw [hL] at hc hn'
   have ht5 : t < 100000:=by omega
   have HX:=Lib.hid hL
   have HLT:=Lib.hid hlt
   by_cases h0 : 0 < L.length
   ·obtain ⟨x,hx⟩ : ∃ x,L.getD 0 [] = x:=⟨_,rfl⟩
    obtain ⟨b2,o2,rfl,a2,c2,hc2,-⟩:=hn'.at h0
    rw [hx] at hc2
    have hR : B = x.length:=by rw [← HB.out,wM_at KZ.out hlt (by rw [hL]; exact h0),hL,hx]
    have HR:=Lib.hid hR
    have HBF:=Lib.hid KB.out
    have h0i : (0 : Int) < (L.length : Int):=by omega
    clear hL hx hR hn'
    rw [Nat.add_zero] at hc2
    go_wp2
    go_ret
    exact ⟨by rw [HR.out]; rfl,HBF.out⟩
   ·have h0i : ¬ (0 : Int) < (L.length : Int):=by omega
    have HE : Hid (L = []):=Lib.hid (List.eq_nil_of_length_eq_zero (by omega))
    clear hL hn'
    go_wp2
    go_roundw
    case rel=>exact ⟨t + 1,by omega,by go_num,Lib.hid (fun s hs=>by
     by_cases e : s = t
     ·rw [e,HX.out]; exact HE.out
     ·exact KZ.out s (by omega)),KB⟩
    case measure=>simp [intOf]; omega
  ·have HR : Hid (B = 0):=Lib.hid (by rw [← HB.out]; exact wM_none fun s hs=>KZ.out s (by omega))
   have hlt1 : ¬ (t : Int) < (Ms.length : Int):=by omega
   have HBF:=Lib.hid KB.out
   go_wp2
   go_ret
   exact ⟨by rw [HR.out]; rfl,HBF.out⟩
end Go.Proofs.Yteeofijcndgbfaa
