/- The reference's small functions: a coefficient, inverses, differences. -/
import Derived.Test.YtllecfhfhcmpaaaEvTk
import Derived.Test.YtllecfhfhcmpaaaLp
namespace Go.Proofs.Ytllecfhfhcmpaaa
open Go.RowKit Go.Fl
set_option maxRecDepth 100000
set_option linter.unusedVariables false
set_option linter.unusedSimpArgs false
set_option linter.unusedSectionVars false
set_option maxHeartbeats 1600000 in
theorem at_c {A : List Nat} {aa : Option Addr} {ca i : Nat} {W : World} (na : NN A W (.slice aa A.length ca)) : Calls Try.prog 55 #[.slice aa A.length ca,.int .i64 (i : Nat)] W fun e w'=>e = .returned (.int .i64 (A.getD i 0 : Nat)) ∧ w' = W:=by
 by_cases hi : i < A.length
 ·obtain ⟨b',o',rfl,-⟩:=na.adr (by omega)
  obtain ⟨x,hx⟩ : ∃ x,A.getD i 0 = x:=⟨_,rfl⟩
  have hc:=na.at hi
  rw [hx] at hc ⊢
  have hl1 : ¬ (A.length : Int) ≤ (i : Int):=by omega
  have hl2 : ¬ A.length ≤ i:=by omega
  have hl3 : (i : Int) < (A.length : Int):=by omega
  clear na hx
  go_enter Try.func55,Try.ntmps55
  go_wp2
  go_ret
  exact ⟨rfl,rfl⟩
 ·have hx : A.getD i 0 = 0:=by rw [List.getD_eq_getElem?_getD,List.getElem?_eq_none (by omega)]; rfl
  rw [hx]
  have hl1 : (A.length : Int) ≤ (i : Int):=by omega
  have hl2 : A.length ≤ i:=by omega
  clear na hx hi
  go_enter Try.func55,Try.ntmps55
  go_wp2
  go_ret
  exact ⟨rfl,rfl⟩
set_option maxHeartbeats 3200000 in
theorem rsub_c {F : Gf} {b cap x y : Nat} {W : World} (hx : x < F.q) (hy : y < F.q) (h : FldAt F b cap W) : Calls Try.prog 54 #[FV F b cap,.int .i64 (x : Nat),.int .i64 (y : Nat)] W fun e w'=>e = .returned (.int .i64 (F.sub x y : Nat)) ∧ Below W.heap.size W w':=by
 have HFA:=Lib.hid h
 have HFF:=Lib.hid (ok_mem h.mem)
 have HB0 : Hid (Below W.heap.size W (W.alloc (.cells #[.int .i64 F.p,.int .i64 F.e,FM F b cap] 28))):=Lib.hid ((Below.refl _ _).alloc (Nat.le_refl _) _)
 have HFB : Hid (FB W.heap.size F.p F.e (FM F b cap) (W.alloc (.cells #[.int .i64 F.p,.int .i64 F.e,FM F b cap] 28))):=Lib.hid (by simp [FB])
 have hS0 : SF W F.p F.e (FM F b cap) (W.alloc (.cells #[.int .i64 F.p,.int .i64 F.e,FM F b cap] 28)).drew:=⟨HFB.out,Lib.hid HB0.out.drew,Lib.hid (by simp)⟩
 obtain ⟨ny,HNY⟩ : ∃ n,Hid (F.neg y = n):=⟨_,Lib.hid rfl⟩
 have HNQ : Hid (ny < F.q):=Lib.hid (by rw [← HNY.out]; exact HFF.out.neg_lt y)
 obtain ⟨r,HR⟩ : ∃ n,Hid (F.add x ny = n):=⟨_,Lib.hid rfl⟩
 have HE : Hid (F.sub x y = r):=Lib.hid (by rw [← HR.out,← HNY.out]; rfl)
 rw [HE.out]
 clear h HFB HB0
 go_enter Try.func54,Try.ntmps54
 go_wp2_with fail
 refine wp_region_held_drew (S:=fun w'=>SF W F.p F.e (FM F b cap) w') (by kernel_rfl) (by with_reducible exact hS0) (fun hHeld=>?_)
 refine Rg.tk 0 ⟨some 7,.load 28 (.tmp 3),28,"ref.go:189",#[],none⟩ ?_
 try simp only [Rg.gp]
 refine Rg.tk 1 ⟨some 8,.move (.tmp 1),3,"ref.go:189",#[],none⟩ ?_
 try simp only [Rg.gp]
 refine Rg.tk 2 ⟨some 9,.load 28 (.tmp 3),28,"ref.go:189",#[],none⟩ ?_
 try simp only [Rg.gp]
 refine Rg.tk 3 ⟨some 10,.move (.tmp 2),3,"ref.go:189",#[],none⟩ ?_
 try simp only [Rg.gp]
 refine Rg.rd1 4 ⟨some 11,.call ⟨.value (.func 35),#[.tmp 9,.tmp 10],#[28,3]⟩,3,"ref.go:189",#[⟨2,.data⟩,⟨3,.data⟩],none⟩ fun K hK=>?_
 go_simp
 go_at_call 35
 with_reducible refine (rneg_c hy (HFA.out.below hHeld.2.1.out)).mono ?_
 rw [HNY.out]
 rintro z v' ⟨rfl,hb3⟩
 refine hK.out _ _ ?_ (fun hHeld=>?_)
 ·(try dsimp only)
  exact SF.keep hHeld hb3 hHeld.2.2.out
 clear hK K
 try simp only [Rg.gp]
 refine Rg.rd1 5 ⟨some 12,.call ⟨.value (.func 33),#[.tmp 7,.tmp 8,.tmp 11],#[28,3,3]⟩,3,"ref.go:189",#[⟨0,.data⟩,⟨1,.data⟩,⟨4,.data⟩,⟨4,.chain⟩],none⟩ fun K hK=>?_
 go_simp
 go_at_call 33
 with_reducible refine (radd_c hx HNQ.out (HFA.out.below hHeld.2.1.out)).mono ?_
 rw [HR.out]
 rintro z v' ⟨rfl,hb3⟩
 refine hK.out _ _ ?_ (fun hHeld=>?_)
 ·(try dsimp only)
  exact SF.keep hHeld hb3 hHeld.2.2.out
 clear hK K
 try simp only [Rg.gp]
 refine Rg.tk 6 ⟨some 6,.assign (.tmp 12),3,"ref.go:189",#[⟨5,.data⟩,⟨5,.chain⟩,⟨0,.phase⟩,⟨1,.phase⟩,⟨2,.phase⟩,⟨3,.phase⟩,⟨4,.phase⟩,⟨5,.phase⟩],none⟩ ?_
 try simp only [Rg.gp]
 refine wpAnyH_done (by kernel_rfl) ?_ _
 have HBF:=Lib.hid hHeld.2.1.out
 clear hHeld hS0
 go_wp2
 go_ret
 exact ⟨rfl,HBF.out⟩
set_option maxHeartbeats 3200000 in
theorem rinv_c {F : Gf} {b cap x : Nat} {W : World} (hx : x < F.q) (h0 : x ≠ 0) (h : FldAt F b cap W) : Calls Try.prog 46 #[FV F b cap,.int .i64 (x : Nat)] W fun e w'=>e = .returned (.tuple #[.int .i64 (F.inv x : Nat),.int .i64 0]) ∧ Below W.heap.size W w':=by
 have HFA:=Lib.hid h
 have HFF:=Lib.hid (ok_mem h.mem)
 have HB0 : Hid (Below W.heap.size W (W.alloc (.cells #[.int .i64 F.p,.int .i64 F.e,FM F b cap] 28))):=Lib.hid ((Below.refl _ _).alloc (Nat.le_refl _) _)
 have HFB : Hid (FB W.heap.size F.p F.e (FM F b cap) (W.alloc (.cells #[.int .i64 F.p,.int .i64 F.e,FM F b cap] 28))):=Lib.hid (by simp [FB])
 have hx0 : ((x : Int) == 0) = false:=by simp; exact h0
 have hq64:=HFF.out.q64
 have HIV : Hid (F.mul x (F.inv x) = 1):=Lib.hid (HFF.out.mul_inv hx h0)
 have HIQ : Hid (F.inv x < F.q):=Lib.hid (HFF.out.inv_lt x)
 have HUN : Hid (∀ k,k < F.q → F.mul x k = 1 → k = F.inv x):=Lib.hid (fun k hk e=>HFF.out.mul_cancel hk HIQ.out hx h0 (by rw [e,HIV.out]))
 obtain ⟨v,HV⟩ : ∃ v,Hid (F.inv x = v):=⟨_,Lib.hid rfl⟩
 rw [HV.out] at HIV HIQ HUN ⊢
 have hvq : v < F.q:=HIQ.out
 have hv1 : 1 ≤ v:=by
  rcases Nat.eq_zero_or_pos v with e | e
  ·have:=HIV.out
   rw [e,Ok.mul_z] at this
   cases this
  ·exact e
 have HXQ:=Lib.hid hx
 clear h h0 hx
 obtain ⟨f0,f1,f2⟩:=HFB.out
 go_enter Try.func46,Try.ntmps46
 go_wp2
 go_loopw [6] (fun i wr=>∃ k : Nat,1 ≤ k ∧ k ≤ v ∧ i = .int .i64 k ∧ Hid (Below W.heap.size W wr ∧ FB W.heap.size F.p F.e (FM F b cap) wr ∧ W.heap.size < wr.heap.size)) (fun i _=>v - (intOf i).toNat)
 case atStart=>exact ⟨1,Nat.le_refl _,hv1,rfl,Lib.hid ⟨HB0.out,HFB.out,by simp⟩⟩
 case round =>
  obtain ⟨k,h1,h2,rfl,HR⟩:=hrel
  have hkq : (k : Int) < (F.q : Int):=by omega
  have HKQ : Hid (k < F.q):=Lib.hid (by omega)
  clear f0 f1 f2
  obtain ⟨f0,f1,f2⟩:=HR.out.2.1
  go_wp2_with fail
  with_reducible refine (size_c HFF.out b cap _).mono ?_
  rintro z w1 ⟨rfl,hb⟩
  have HR1 : Hid (Below W.heap.size W w1 ∧ FB W.heap.size F.p F.e (FM F b cap) w1 ∧ W.heap.size < w1.heap.size):=Lib.hid ⟨HR.out.1.trans (hb.mono HR.out.1.size),FB.keep HR.out.2.1 hb HR.out.2.2,Nat.lt_of_lt_of_le HR.out.2.2 hb.size⟩
  clear hb f0 f1 f2 HR
  obtain ⟨f0,f1,f2⟩:=HR1.out.2.1
  go_wp2_with fail
  with_reducible refine (rmul_c HXQ.out HKQ.out (HFA.out.below HR1.out.1)).mono ?_
  rintro z w2 ⟨rfl,hb⟩
  have HR2 : Hid (Below W.heap.size W w2 ∧ FB W.heap.size F.p F.e (FM F b cap) w2 ∧ W.heap.size < w2.heap.size):=Lib.hid ⟨HR1.out.1.trans (hb.mono HR1.out.1.size),FB.keep HR1.out.2.1 hb HR1.out.2.2,Nat.lt_of_lt_of_le HR1.out.2.2 hb.size⟩
  clear hb f0 f1 f2 HR1
  by_cases hkv : k = v
  ·have he : (((F.mul x k : Nat) : Int) == 1) = true:=by rw [hkv,HIV.out]; rfl
   have HBF:=Lib.hid HR2.out.1
   subst hkv
   go_wp2
   exact bodyPost_ret (v:=.tuple #[.int .i64 (k : Nat),.int .i64 0]) (by simp [results,Try.results46,go_sem]) rfl ⟨rfl,HBF.out⟩
  ·have he : (((F.mul x k : Nat) : Int) == 1) = false:=beq_eq_false_iff_ne.2 (fun e=>hkv (HUN.out k HKQ.out (Int.ofNat_inj.1 e)))
   go_wp2
   go_roundw
   case rel=>exact ⟨k + 1,by omega,by omega,by go_num,HR2⟩
   case measure=>simp [intOf]; omega
abbrev NZ (n : Int) : Value:=.int .i64 n
def NI (L : List Int) (w : World) (v : Value) : Prop:=(L = [] ∧ v = .slice none 0 0) ∨ ∃ b off cap,v = .slice (some ⟨b,off,none⟩) L.length cap ∧ L.length ≤ cap ∧ b < w.heap.size ∧ ∀ t,t < L.length → w.cell? ⟨b,off + t,none⟩ = some (.int .i64 (L.getD t 0))
theorem NI.below {L : List Int} {w w' : World} {v : Value} (h : NI L w v) (hb : Below w.heap.size w w') : NI L w' v:=by
 rcases h with h | ⟨b,off,cap,h4,h2,h5,h6⟩
 ·exact .inl h
 ·exact .inr ⟨b,off,cap,h4,h2,Nat.lt_of_lt_of_le h5 hb.size,fun t ht=>(hb.cell h5).trans (h6 t ht)⟩
theorem NI.shape {L : List Int} {w : World} {v : Value} (h : NI L w v) : ∃ a c,v = .slice a L.length c:=by
 rcases h with ⟨rfl,rfl⟩ | ⟨b,off,cap,rfl,_⟩
 ·exact ⟨none,0,rfl⟩
 ·exact ⟨_,_,rfl⟩
theorem NI.take {L : List Int} {w : World} {b off cap : Nat} (h : NI L w (.slice (some ⟨b,off,none⟩) L.length cap)) {k : Nat} (hk : k ≤ L.length) : NI (L.take k) w (.slice (some ⟨b,off,none⟩) k cap):=by
 rcases h with ⟨_,h⟩ | ⟨b',off',cap',h,h1,h2,h3⟩
 ·cases h
 ·cases h
  have e : (L.take k).length = k:=by rw [List.length_take]; omega
  refine .inr ⟨b,off,cap,by rw [e],by omega,h2,fun t ht=>?_⟩
  rw [e] at ht
  rw [h3 t (by omega)]
  simp [List.getD,List.getElem?_take_of_lt ht]
theorem NI.of_owns {L : List Int} {w : World} {v : Value} {base : Nat} (h : w.ownsRow base 3 1 v L.length (L.map NZ)) : NI L w v:=by
 obtain ⟨h1,h2⟩:=h
 rcases h2 with ⟨rfl,h2⟩ | ⟨g,cap,cur,rfl,h3,h4,h5,h6,h7,h8⟩
 ·exact .inl ⟨List.length_eq_zero_iff.1 h2,rfl⟩
 ·refine .inr ⟨g,0,cap,rfl,h5,?_,fun t ht=>?_⟩
  ·rcases Nat.lt_or_ge g w.heap.size with h | h
   ·exact h
   ·rw [Array.getElem?_eq_none h] at h4; cases h4
  ·have e : (L.map NZ)[t]? = some (.int .i64 (L.getD t 0)):=by rw [List.getElem?_map,List.getElem?_eq_getElem ht]; simp [List.getD,ht]
   rw [← h8] at e
   rw [Nat.mul_one,List.getElem?_take_of_lt ht] at e
   rw [Array.getElem?_toList] at e
   simp only [World.cell?,h4]
   simpa using e
theorem NN.int {L : List Nat} {w : World} {v : Value} (h : NN L w v) : NI (L.map Int.ofNat) w v:=by
 rcases h with ⟨rfl,h⟩ | ⟨b,off,cap,h4,h2,h5,h6⟩
 ·exact .inl ⟨rfl,h⟩
 ·refine .inr ⟨b,off,cap,by rw [List.length_map]; exact h4,by rw [List.length_map]; exact h2,h5,fun t ht=>?_⟩
  rw [List.length_map] at ht
  rw [h6 t ht]
  simp [List.getD,ht]
theorem NI.nat {L : List Nat} {w : World} {v : Value} (h : NI (L.map Int.ofNat) w v) : NN L w v:=by
 rcases h with ⟨e,h⟩ | ⟨b,off,cap,h4,h2,h5,h6⟩
 ·exact .inl ⟨List.map_eq_nil_iff.1 e,h⟩
 ·rw [List.length_map] at h4 h2 h6
  refine .inr ⟨b,off,cap,h4,h2,h5,fun t ht=>?_⟩
  rw [h6 t ht]
  simp [List.getD,ht]
theorem ni_cells {L : List Int} {w : World} {b off : Nat} (h : ∀ t,t < L.length → w.cell? ⟨b,off + t,none⟩ = some (.int .i64 (L.getD t 0))) : ∀ j u,(L.map NZ)[j]? = some u → w.cell? ((⟨b,off,none⟩ : Addr).add j) = some u:=fun j u hj=>by
 rw [List.getElem?_map,Option.map_eq_some_iff] at hj
 obtain ⟨x,hx,rfl⟩:=hj
 have hl : j < L.length:=(List.getElem?_eq_some_iff.1 hx).1
 have:=h j hl
 rw [List.getD_eq_getElem?_getD,hx] at this
 rw [show ((⟨b,off,none⟩ : Addr).add j) = ⟨b,off + j,none⟩ by cases j <;> rfl]
 exact this
theorem ni_one (L : List Int) : ∀ u ∈ L.map NZ,u.oneCell' = true:=fun u hu=>by
 obtain ⟨x,_,rfl⟩:=List.mem_map.1 hu
 rfl
structure TrK (A : List Int) (k : Nat) : Prop where
 le : k ≤ A.length
 zero : ∀ j,k ≤ j → j < A.length → A.getD j 0 = 0
 top : k = 0 ∨ A.getD (k - 1) 0 ≠ 0
theorem TrK.uniq {A : List Int} {k m : Nat} (h : TrK A k) (g : TrK A m) : k = m:=by
 rcases Nat.lt_trichotomy k m with hl | hl | hl
 ·exact absurd (h.zero (m - 1) (by omega) (by have:=g.le; omega)) (g.top.resolve_left (by omega))
 ·exact hl
 ·exact absurd (g.zero (k - 1) (by omega) (by have:=h.le; omega)) (h.top.resolve_left (by omega))
theorem TrK.nat {L : List Nat} {k : Nat} (h : TrK (L.map Int.ofNat) k) : (L.map Int.ofNat).take k = (trL L).map Int.ofNat:=by
 have hk : k ≤ L.length:=by have:=h.le; rwa [List.length_map] at this
 have hz : ∀ j,k ≤ j → j < L.length → L.getD j 0 = 0:=fun j h1 h2=>by
  have:=h.zero j h1 (by rwa [List.length_map])
  simpa [List.getD,h2] using this
 have e : L.take k = trL L:=by
  refine take_trL hk ?_ ?_
  ·funext i
   show (L.take k).getD i 0 = L.getD i 0
   rw [List.getD_eq_getElem?_getD]
   by_cases hi : i < k
   ·rw [List.getElem?_take_of_lt hi]; rfl
   ·rw [List.getElem?_eq_none (by rw [List.length_take]; omega)]
    by_cases hl : i < L.length
    ·rw [hz i (by omega) hl]; rfl
    ·rw [List.getD_eq_getElem?_getD,List.getElem?_eq_none (by omega)]
  ·rcases h.top with e | e
   ·exact .inl e
   ·by_cases h0 : k = 0
    ·exact .inl h0
    ·refine .inr ⟨by omega,fun e2=>e ?_⟩
     have hl : k - 1 < L.length:=by omega
     rw [List.getD_eq_getElem?_getD,List.getElem?_map,List.getElem?_eq_getElem hl]
     rw [List.getD_eq_getElem?_getD,List.getElem?_eq_getElem hl] at e2
     simp at e2 ⊢
     exact e2
 rw [← List.map_take,e]
def SlI (L : List Int) (w : World) (e : Ending) (w' : World) : Prop:=∃ a c,e = .returned (.slice a L.length c) ∧ NI L w' (.slice a L.length c) ∧ Below w.heap.size w w'
set_option maxHeartbeats 1600000 in
theorem rtrim_i {A : List Int} {aa : Option Addr} {la ca : Nat} {W : World} (ha : A.length ≤ 3000) (ea : la = A.length) (na : NI A W (.slice aa la ca)) : Calls Try.prog 16 #[.slice aa la ca] W fun e w'=>∃ k,TrK A k ∧ SlI (A.take k) W e w':=by
 obtain ⟨i0,hi,hz0,hz1,hz2⟩:=info_parts info3
 have HO : Hid ((W.alloc (.cells #[] 3)).ownsRow W.heap.size 3 1 (.slice (some ⟨W.heap.size,0,none⟩) 0 0) 0 []):=Lib.hid (World.ownsRow_made (base:=W.heap.size) (e:=3) (size:=1) W #[] 0 (by simp) (Nat.zero_le _) rfl)
 have HBA : Hid (Below W.heap.size W (W.alloc (.cells #[] 3))):=Lib.hid ((Below.refl _ _).alloc (Nat.le_refl _) _)
 subst ea
 rcases na with ⟨rfl,h⟩ | ⟨b,off,cap,h,h1,h2,h3⟩
 ·cases h
  go_enter Try.func16,Try.ntmps16
  go_wp2
  go_loopw [3] (fun i wr=>i = .int .i64 0 ∧ wr = W) (fun i _=>0)
  case atStart=>exact ⟨rfl,rfl⟩
  case round =>
   obtain ⟨rfl,rfl⟩:=hrel
   go_wp2_with (at_builtin; refine wpList_append_own_none rfl _ _ 25 rfl wr.heap.size 3 i0 1 Try.underlying25 hi _ _ _ rfl HO.out rfl ?_)
   go_wp2
   go_ret
   exact ⟨0,⟨Nat.le_refl _,fun j _ h=>by simp at h,.inl rfl⟩,_,_,rfl,.inr ⟨_,_,_,rfl,Nat.le_refl _,by simp,fun t ht=>by simp at ht⟩,HBA.out⟩
 ·cases h
  have HC:=Lib.hid h3
  have HB2:=Lib.hid h2
  clear h3
  go_enter Try.func16,Try.ntmps16
  go_wp2
  go_loopw [3] (fun i wr=>∃ k : Nat,k ≤ A.length ∧ i = .int .i64 k ∧ Hid (∀ j,k ≤ j → j < A.length → A.getD j 0 = 0) ∧ wr = W) (fun i _=>(intOf i).toNat)
  case atStart=>exact ⟨A.length,Nat.le_refl _,rfl,Lib.hid (fun j h1 h2=>by omega),rfl⟩
  case round =>
   obtain ⟨k,hk,rfl,HV,rfl⟩:=hrel
   by_cases h0 : 0 < k ∧ A.getD (k - 1) 0 = 0
   ·obtain ⟨m,rfl⟩ : ∃ m,k = m + 1:=⟨k - 1,by omega⟩
    have hc:=HC.out m (by omega)
    have h3 : (((m + 1 : Nat) : Int) - 1) = (m : Int):=by omega
    have h0' : A.getD m 0 = 0:=h0.2
    rw [h0'] at hc
    have HV2 : Hid (∀ j,m ≤ j → j < A.length → A.getD j 0 = 0):=Lib.hid (fun j h1 h2=>by
     by_cases e : j = m
     ·rw [e]; exact h0'
     ·exact HV.out j (by omega) h2)
    clear h0 h0'
    go_wp2
    go_roundw
    case rel=>exact ⟨m,by omega,rfl,HV2,trivial⟩
    case measure=>simp [intOf]
   ·have HT : Hid (TrK A k):=Lib.hid ⟨hk,HV.out,by
     rcases Nat.eq_zero_or_pos k with e | e
     ·exact .inl e
     ·exact .inr (fun e2=>h0 ⟨e,e2⟩)⟩
    have HCT : Hid (∀ j u,((A.take k).map NZ)[j]? = some u → (wr.alloc (.cells #[] 3)).cell? ((⟨b,off,none⟩ : Addr).add j) = some u):=Lib.hid (fun j u hj=>by
     have hj2 : ((A.map NZ))[j]? = some u:=by
      have hjk : j < k:=by
       rcases Nat.lt_or_ge j k with h | h
       ·exact h
       ·rw [List.getElem?_eq_none (by rw [List.length_map,List.length_take]; omega)] at hj; cases hj
      rwa [List.map_take,List.getElem?_take_of_lt hjk] at hj
     have:=ni_cells HC.out j u hj2
     exact (HBA.out.cell (p:=(⟨b,off,none⟩ : Addr).add j) (by rw [show ((⟨b,off,none⟩ : Addr).add j).block = b by cases j <;> rfl]; exact HB2.out)).trans this)
    have HLT : Hid (((A.take k).map NZ).length = k):=Lib.hid (by rw [List.length_map,List.length_take]; omega)
    have hkc : k ≤ ca:=by omega
    have HLT2 : Hid ((A.take k).length = k):=Lib.hid (by rw [List.length_take]; omega)
    rcases k with _ | m
    ·clear h0 hk
     go_wp2_with (at_builtin; refine wpList_append_own _ rfl _ _ 25 rfl wr.heap.size 3 i0 (.int .i64 0) 1 8 Try.underlying25 hi hz0 hz1 hz2 rfl (by decide) _ _ _ rfl HO.out ⟨b,off,none⟩ 0 ca ((A.take 0).map NZ) rfl (by rw [HLT.out,Nat.mul_one]) HCT.out (ni_one _) (by unfold maxLen; omega) (by omega) (by simp) ?_)
     intro v' w2 hown hgrow hnil
     have HBS : Hid (Below wr.heap.size wr w2):=Lib.hid (HBA.out.grown hgrow (by simp) (fun g hg=>by cases hg; exact Nat.le_refl _))
     have HN2 : Hid (NI (A.take 0) w2 v'):=Lib.hid (NI.of_owns (base:=wr.heap.size) (by rw [HLT2.out]; simpa using hown))
     clear hown hgrow hnil
     obtain ⟨a2,c2,rfl⟩:=HN2.out.shape
     go_wp2
     go_ret
     exact ⟨_,HT.out,a2,c2,rfl,HN2.out,HBS.out⟩
    ·have hc:=HC.out m (by omega)
     have h3 : (((m + 1 : Nat) : Int) - 1) = (m : Int):=by omega
     obtain ⟨x,hx⟩ : ∃ x,A.getD m 0 = x:=⟨_,rfl⟩
     have hx0 : (x == 0) = false:=beq_eq_false_iff_ne.2 (fun e=>h0 ⟨by omega,by show A.getD m 0 = 0; rw [hx]; exact e⟩)
     have hk0 : decide ((0 : Int) < ((m + 1 : Nat) : Int)) = true:=by simp
     rw [hx] at hc
     have hm1 : m < 3000:=by omega
     have hml : m < A.length:=by omega
     clear h0 hk hx
     go_wp2_with (at_builtin; refine wpList_append_own _ rfl _ _ 25 rfl wr.heap.size 3 i0 (.int .i64 0) 1 8 Try.underlying25 hi hz0 hz1 hz2 rfl (by decide) _ _ _ rfl HO.out ⟨b,off,none⟩ (m + 1) ca ((A.take (m + 1)).map NZ) rfl (by rw [HLT.out,Nat.mul_one]) HCT.out (ni_one _) (by unfold maxLen; omega) (by omega) (by simp) ?_)
     intro v' w2 hown hgrow hnil
     have HBS : Hid (Below wr.heap.size wr w2):=Lib.hid (HBA.out.grown hgrow (by simp) (fun g hg=>by cases hg; exact Nat.le_refl _))
     have HN2 : Hid (NI (A.take (m + 1)) w2 v'):=Lib.hid (NI.of_owns (base:=wr.heap.size) (by rw [HLT2.out]; simpa using hown))
     clear hown hgrow hnil
     obtain ⟨a2,c2,rfl⟩:=HN2.out.shape
     go_wp2
     go_ret
     exact ⟨_,HT.out,a2,c2,rfl,HN2.out,HBS.out⟩
theorem rtrim_c {A : List Nat} {aa : Option Addr} {la ca : Nat} {W : World} (ha : A.length ≤ 3000) (ea : la = A.length) (na : NN A W (.slice aa la ca)) : Calls Try.prog 16 #[.slice aa la ca] W (SlPost (trL A) W):=
 (rtrim_i (A:=A.map Int.ofNat) (by rw [List.length_map]; exact ha) (by rw [List.length_map]; exact ea) na.int).mono fun e w' ⟨k,hk,a,c,h1,h2,h3⟩=>by
  rw [hk.nat] at h1 h2
  rw [List.length_map] at h1 h2
  exact ⟨a,c,h1,h2.nat,h3⟩
set_option maxHeartbeats 1600000 in
theorem trimmed_i {A : List Int} {aa : Option Addr} {la ca : Nat} {W : World} (ha : A.length ≤ 3000) (ea : la = A.length) (na : NI A W (.slice aa la ca)) : Calls Try.prog 42 #[.slice aa la ca] W fun e w'=>∃ k,TrK A k ∧ e = .returned (.slice aa k ca) ∧ w' = W:=by
 subst ea
 rcases na with ⟨rfl,h⟩ | ⟨b,off,cap,h,h1,h2,h3⟩
 ·cases h
  exact (trimmed_none W).mono fun e w' ⟨h1,h2⟩=>⟨0,⟨Nat.le_refl _,fun j _ h=>by simp at h,.inl rfl⟩,h1,h2⟩
 ·cases h
  have HC:=Lib.hid h3
  clear h3
  go_enter Try.func42,Try.ntmps42
  go_wp2
  go_loopw [3] (fun i wr=>∃ k : Nat,k ≤ A.length ∧ i = .int .i64 k ∧ Hid (∀ j,k ≤ j → j < A.length → A.getD j 0 = 0) ∧ wr = W) (fun i _=>(intOf i).toNat)
  case atStart=>exact ⟨A.length,Nat.le_refl _,rfl,Lib.hid (fun j h1 h2=>by omega),rfl⟩
  case round =>
   obtain ⟨k,hk,rfl,HV,rfl⟩:=hrel
   by_cases h0 : 0 < k ∧ A.getD (k - 1) 0 = 0
   ·obtain ⟨m,rfl⟩ : ∃ m,k = m + 1:=⟨k - 1,by omega⟩
    have hc:=HC.out m (by omega)
    have h3 : (((m + 1 : Nat) : Int) - 1) = (m : Int):=by omega
    have h0' : A.getD m 0 = 0:=h0.2
    rw [h0'] at hc
    have HV2 : Hid (∀ j,m ≤ j → j < A.length → A.getD j 0 = 0):=Lib.hid (fun j h1 h2=>by
     by_cases e : j = m
     ·rw [e]; exact h0'
     ·exact HV.out j (by omega) h2)
    clear h0 h0'
    go_wp2
    go_roundw
    case rel=>exact ⟨m,by omega,rfl,HV2,trivial⟩
    case measure=>simp [intOf]
   ·have HT : Hid (TrK A k):=Lib.hid ⟨hk,HV.out,by
     rcases Nat.eq_zero_or_pos k with e | e
     ·exact .inl e
     ·exact .inr (fun e2=>h0 ⟨e,e2⟩)⟩
    have hkc : k ≤ ca:=by omega
    rcases k with _ | m
    ·clear h0 hk
     go_wp2
     go_ret
     exact ⟨0,HT.out,rfl,rfl⟩
    ·have hc:=HC.out m (by omega)
     have h3 : (((m + 1 : Nat) : Int) - 1) = (m : Int):=by omega
     obtain ⟨x,hx⟩ : ∃ x,A.getD m 0 = x:=⟨_,rfl⟩
     have hx0 : (x == 0) = false:=beq_eq_false_iff_ne.2 (fun e=>h0 ⟨by omega,by show A.getD m 0 = 0; rw [hx]; exact e⟩)
     have hk0 : decide ((0 : Int) < ((m + 1 : Nat) : Int)) = true:=by simp
     rw [hx] at hc
     have hm1 : m < 3000:=by omega
     have hml : m < A.length:=by omega
     clear h0 hk hx
     go_wp2
     go_ret
     exact ⟨m + 1,HT.out,rfl,rfl⟩
set_option maxHeartbeats 1600000 in
theorem ptrim_i {A : List Int} {aa : Option Addr} {la ca : Nat} {W : World} (ha : A.length ≤ 3000) (ea : la = A.length) (na : NI A W (.slice aa la ca)) : Calls Try.prog 15 #[.slice aa la ca] W fun e w'=>∃ k,TrK A k ∧ SlI (A.take k) W e w':=by
 have HT : Hid (Calls Try.prog 42 #[.slice aa la ca] W fun e w'=>∃ k,TrK A k ∧ e = .returned (.slice aa k ca) ∧ w' = W):=Lib.hid (trimmed_i ha ea na)
 obtain ⟨i0,hi,hz0,hz1,hz2⟩:=info_parts info3
 have HO : Hid (W.ownsRow W.heap.size 3 1 (.slice none 0 0) 0 []):=Lib.hid ⟨rfl,.inl ⟨rfl,rfl⟩⟩
 subst ea
 have NA:=Lib.hid na
 rcases na with ⟨rfl,h⟩ | ⟨b,off,cap,h,h1,h2,h3⟩
 ·cases h
  clear ha
  replace HT : Hid (Calls Try.prog 42 #[.slice none 0 0] W fun e w'=>∃ k,TrK [] k ∧ e = .returned (.slice none k 0) ∧ w' = W):=HT
  go_enter Try.func15,Try.ntmps15
  go_wp2_with fail
  with_reducible refine HT.out.mono ?_
  rintro z w1 ⟨k,hk,rfl,rfl⟩
  obtain rfl : k = 0:=Nat.le_zero.1 hk.le
  have HK:=Lib.hid hk
  clear hk
  go_wp2_with (at_builtin; refine wpList_append_own_none rfl _ _ 25 rfl w1.heap.size 3 i0 1 Try.underlying25 hi _ _ _ rfl HO.out rfl ?_)
  go_wp2
  go_ret
  exact ⟨0,HK.out,none,0,rfl,.inl ⟨rfl,rfl⟩,Below.refl _ _⟩
 ·cases h
  have HCC:=Lib.hid h3
  clear h3 h1
  go_enter Try.func15,Try.ntmps15
  go_wp2_with fail
  with_reducible refine HT.out.mono ?_
  rintro z w1 ⟨k,hk,rfl,rfl⟩
  have HK:=Lib.hid hk
  have hk2 : k ≤ 3000:=Nat.le_trans hk.le ha
  have HCT : Hid (∀ j u,((A.take k).map NZ)[j]? = some u → w1.cell? ((⟨b,off,none⟩ : Addr).add j) = some u):=Lib.hid (fun j u hj=>ni_cells HCC.out j u (by
   have hjk : j < k:=by
    rcases Nat.lt_or_ge j k with h | h
    ·exact h
    ·rw [List.getElem?_eq_none (by rw [List.length_map,List.length_take]; omega)] at hj; cases hj
   rwa [List.map_take,List.getElem?_take_of_lt hjk] at hj))
  have HLT2 : Hid ((A.take k).length = k):=Lib.hid (by rw [List.length_take]; have:=hk.le; omega)
  have HLT : Hid (((A.take k).map NZ).length = k):=Lib.hid (by rw [List.length_map]; exact HLT2.out)
  clear hk
  go_wp2_with (at_builtin; refine wpList_append_own _ rfl _ _ 25 rfl w1.heap.size 3 i0 (.int .i64 0) 1 8 Try.underlying25 hi hz0 hz1 hz2 rfl (by decide) _ _ _ rfl HO.out ⟨b,off,none⟩ k ca ((A.take k).map NZ) rfl (by rw [HLT.out,Nat.mul_one]) HCT.out (ni_one _) (by unfold maxLen; omega) (by omega) (by omega) ?_)
  intro v' w2 hown hgrow hnil
  have HBS : Hid (Below w1.heap.size w1 w2):=Lib.hid ((Below.refl _ _).grown hgrow (Nat.le_refl _) fun k hk=>by cases hk)
  have HN2 : Hid (NI (A.take k) w2 v'):=Lib.hid (NI.of_owns (base:=w1.heap.size) (by rw [HLT2.out]; simpa using hown))
  clear hown hgrow hnil
  obtain ⟨a2,c2,rfl⟩:=HN2.out.shape
  go_wp2
  go_ret
  exact ⟨_,HK.out,a2,c2,rfl,HN2.out,HBS.out⟩
set_option maxHeartbeats 1600000 in
theorem ints_i {A : List Int} {aa ab : Option Addr} {ca cb : Nat} {W : World} (ha : A.length ≤ 100000) (na : NI A W (.slice aa A.length ca)) (nb : NI A W (.slice ab A.length cb)) :
  Calls Try.prog 14 #[.slice aa A.length ca,.slice ab A.length cb] W fun e w'=>e = .returned (.bool true) ∧ Below W.heap.size W w':=by
 have NA:=Lib.hid na
 have NB:=Lib.hid nb
 clear na nb
 go_enter Try.func14,Try.ntmps14
 go_wp2
 go_loopw [5] (fun i wr=>∃ k : Nat,k ≤ A.length ∧ i = .int .i64 k ∧ Hid (Below W.heap.size W wr)) (fun i _=>A.length - (intOf i).toNat)
 case atStart=>exact ⟨0,Nat.zero_le _,rfl,Below.refl _ _⟩
 case round =>
  obtain ⟨k,hk,rfl,KB⟩:=hrel
  by_cases hlt : k < A.length
  ·obtain ⟨x,hx⟩ : ∃ x,A.getD k 0 = x:=⟨_,rfl⟩
   obtain ⟨b1,o1,rfl,hcA⟩ : ∃ b1 o1,aa = some ⟨b1,o1,none⟩ ∧ wr.cell? ⟨b1,o1 + k,none⟩ = some (.int .i64 x):=by
    rw [← hx]
    rcases NA.out.below KB.out with ⟨e,h⟩ | ⟨b',off',cap',h,g1,g2,g3⟩
    ·rw [e] at hlt; simp at hlt
    ·injection h with h1 h2 h3; exact ⟨b',off',h1,g3 k hlt⟩
   obtain ⟨b2,o2,rfl,hcB⟩ : ∃ b1 o1,ab = some ⟨b1,o1,none⟩ ∧ wr.cell? ⟨b1,o1 + k,none⟩ = some (.int .i64 x):=by
    rw [← hx]
    rcases NB.out.below KB.out with ⟨e,h⟩ | ⟨b',off',cap',h,g1,g2,g3⟩
    ·rw [e] at hlt; simp at hlt
    ·injection h with h1 h2 h3; exact ⟨b',off',h1,g3 k hlt⟩
   clear hx
   have hk5 : k < 100000:=by omega
   go_wp2
   go_quiet (fail)
   go_wp2
   go_roundw
   case rel=>exact ⟨k + 1,by omega,by go_num,below_drewnK KB.out _⟩
   case measure=>simp [intOf]; omega
  ·have hlt1 : ¬ (k : Int) < (A.length : Int):=by omega
   have HBF:=Lib.hid KB.out
   go_wp2
   go_ret
   exact ⟨rfl,HBF.out⟩
theorem oneC {w : World} {x : Value} : ∀ j u,[x][j]? = some u → (w.alloc (.cells #[x] 3)).cell? ((⟨w.heap.size,0,none⟩ : Addr).add j) = some u:=cell_one_new w x 3
theorem oneO {x : Nat} : ∀ u ∈ [Value.int .i64 (x : Nat)],u.oneCell' = true:=fun u hu=>by simp at hu; subst hu; rfl
theorem own_shp {w : World} {B n : Nat} {v : Value} {xs : List Value} (h : w.ownsRow B 3 1 v n xs) : ∃ a c,v = .slice a n c:=by
 rcases h.2 with ⟨rfl,rfl⟩ | ⟨g',cap,cur,rfl,_⟩
 ·exact ⟨_,_,rfl⟩
 ·exact ⟨_,_,rfl⟩
def sumTo (F : Gf) (A B : List Nat) (k : Nat) : List Nat:=(List.range k).map fun i=>F.add (A.getD i 0) (B.getD i 0)
theorem sumTo_succ (F : Gf) (A B : List Nat) (k : Nat) : sumTo F A B (k + 1) = sumTo F A B k ++ [F.add (A.getD k 0) (B.getD k 0)]:=by unfold sumTo; rw [List.range_succ,List.map_append]; rfl
theorem sumTo_len (F : Gf) (A B : List Nat) (k : Nat) : (sumTo F A B k).length = k:=by unfold sumTo; simp
theorem sumTo_end {F : Gf} (hF : Ok F) {A B : List Nat} (hA : In F A) (hB : In F B) {n : Nat} (h1 : A.length ≤ n) (h2 : B.length ≤ n) : trL (sumTo F A B n) = addP F A B:=by
 refine cn_inj (cn_trL _) (addP_po hF hA hB).cn ?_
 rw [fn_trL,fn_addP hF hA hB]
 funext i
 show (sumTo F A B n).getD i 0 = F.add (A.getD i 0) (B.getD i 0)
 rw [List.getD_eq_getElem?_getD]
 by_cases h : i < n
 ·unfold sumTo; simp [h]
 ·rw [List.getElem?_eq_none (by rw [sumTo_len]; omega),List.getD_eq_getElem?_getD,List.getElem?_eq_none (by omega),List.getD_eq_getElem?_getD,List.getElem?_eq_none (by omega)]
  exact (hF.add_zero hF.zero_lt).symm
set_option maxHeartbeats 6400000 in
theorem radd_lt {F : Gf} {b cap : Nat} {A B : List Nat} {aa ab : Option Addr} {ca cb : Nat} {W : World} (h : FldAt F b cap W) (hA : In F A) (hB : In F B) (ha : A.length ≤ 1000) (hb : B.length ≤ 1000) (na : NN A W (.slice aa A.length ca)) (nb : NN B W (.slice ab B.length cb)) (hab : A.length < B.length) :
  Calls Try.prog 22 #[FV F b cap,.slice aa A.length ca,.slice ab B.length cb] W (SlPost (addP F A B) W):=by
 have HFA:=Lib.hid h
 have HFF:=Lib.hid (ok_mem h.mem)
 have HA:=Lib.hid hA
 have HB:=Lib.hid hB
 have NA:=Lib.hid na
 have NB:=Lib.hid nb
 obtain ⟨i0,hi,hz0,hz1,hz2⟩:=info_parts info3
 have HO0 : Hid (((W.alloc (.cells #[.int .i64 F.p,.int .i64 F.e,FM F b cap] 28)).alloc (.cells #[] 3)).ownsRow (W.heap.size + 1) 3 1 (.slice (some ⟨W.heap.size + 1,0,none⟩) 0 0) 0 []):=Lib.hid (by
  have e : (W.alloc (.cells #[.int .i64 F.p,.int .i64 F.e,FM F b cap] 28)).heap.size = W.heap.size + 1:=by simp
  have h:=World.ownsRow_made (base:=W.heap.size + 1) (e:=3) (size:=1) (W.alloc (.cells #[.int .i64 F.p,.int .i64 F.e,FM F b cap] 28)) #[] 0 (by simp) (Nat.zero_le _) rfl
  rw [e] at h
  exact h)
 have HSF : Hid (SF W F.p F.e (FM F b cap) ((W.alloc (.cells #[.int .i64 F.p,.int .i64 F.e,FM F b cap] 28)).alloc (.cells #[] 3))):=Lib.hid ⟨FB.keep (k:=W.heap.size + 1) (w:=(W.alloc (.cells #[.int .i64 F.p,.int .i64 F.e,FM F b cap] 28))) (by simp [FB]) ((Below.refl _ _).alloc (by simp) _) (by omega),Lib.hid (((Below.refl _ _).alloc (Nat.le_refl _) _).alloc (by simp) _),Lib.hid (by simp)⟩
 have habi : (A.length : Int) < (B.length : Int):=by omega
 clear h hA hB na nb
 go_enter Try.func22,Try.ntmps22
 go_wp2
 go_loopw [7,8] (fun o i wr=>∃ k : Nat,k ≤ B.length ∧ i = .int .i64 k ∧ Hid (wr.ownsRow (W.heap.size + 1) 3 1 o k ((sumTo F A B k).map N64)) ∧ Hid (SF W F.p F.e (FM F b cap) wr)) (fun _ i _=>B.length - (intOf i).toNat)
 case atStart=>exact ⟨0,Nat.zero_le _,rfl,Lib.hid HO0.out,HSF⟩
 case round =>
  obtain ⟨k,hk,rfl,HO,HS⟩:=hrel
  by_cases hlt : k < B.length
  ·have hlti : (k : Int) < (B.length : Int):=by omega
   obtain ⟨x,HX⟩ : ∃ x,Hid (A.getD k 0 = x):=⟨_,Lib.hid rfl⟩
   obtain ⟨y,HY⟩ : ∃ x,Hid (B.getD k 0 = x):=⟨_,Lib.hid rfl⟩
   have hxq : x < F.q:=by rw [← HX.out]; exact HA.out.get HFF.out k
   have hyq : y < F.q:=by rw [← HY.out]; exact HB.out.get HFF.out k
   obtain ⟨r,HR⟩ : ∃ n,Hid (F.add x y = n):=⟨_,Lib.hid rfl⟩
   have HNX : Hid ((sumTo F A B (k + 1)).map N64 = (sumTo F A B k).map N64 ++ [.int .i64 (r : Nat)]):=Lib.hid (by rw [sumTo_succ,HX.out,HY.out,HR.out,List.map_append]; rfl)
   have hS0 : SF W F.p F.e (FM F b cap) wr.drew:=⟨HS.out.1,Lib.hid HS.out.2.1.out.drew,Lib.hid HS.out.2.2.out⟩
   clear hk
   go_wp2_with fail
   refine wp_region_held_drew (S:=fun w'=>SF W F.p F.e (FM F b cap) w') (by kernel_rfl) (by with_reducible exact hS0) (fun hHeld=>?_)
   refine Rg.tk 0 ⟨some 19,.move (.tmp 7),25,"ref.go:30",#[],none⟩ ?_
   try simp only [Rg.gp]
   refine Rg.tk 1 ⟨some 20,.load 28 (.tmp 3),28,"ref.go:30",#[],none⟩ ?_
   try simp only [Rg.gp]
   refine Rg.tk 2 ⟨some 21,.move (.tmp 1),25,"ref.go:30",#[],none⟩ ?_
   try simp only [Rg.gp]
   refine Rg.tk 3 ⟨some 22,.move (.tmp 8),3,"ref.go:30",#[],none⟩ ?_
   try simp only [Rg.gp]
   refine Rg.tk 5 ⟨some 24,.move (.tmp 2),25,"ref.go:30",#[],none⟩ ?_
   try simp only [Rg.gp]
   refine Rg.tk 6 ⟨some 25,.move (.tmp 8),3,"ref.go:30",#[],none⟩ ?_
   try simp only [Rg.gp]
   refine Rg.rd1 4 ⟨some 23,.call ⟨.value (.func 55),#[.tmp 21,.tmp 22],#[25,3]⟩,3,"ref.go:30",#[⟨2,.data⟩,⟨3,.data⟩],none⟩ fun K hK=>?_
   go_simp
   go_at_call 55
   with_reducible refine (at_c (NA.out.below hHeld.2.1.out)).mono ?_
   rw [HX.out]
   rintro z v' ⟨rfl,rfl⟩
   refine hK.out _ _ ?_ (fun hHeld=>?_)
   ·(try dsimp only)
    exact hHeld
   clear hK K
   try simp only [Rg.gp]
   refine Rg.rd1 7 ⟨some 26,.call ⟨.value (.func 55),#[.tmp 24,.tmp 25],#[25,3]⟩,3,"ref.go:30",#[⟨5,.data⟩,⟨6,.data⟩,⟨4,.chain⟩],none⟩ fun K hK=>?_
   go_simp
   go_at_call 55
   with_reducible refine (at_c (NB.out.below hHeld.2.1.out)).mono ?_
   rw [HY.out]
   rintro z v' ⟨rfl,rfl⟩
   refine hK.out _ _ ?_ (fun hHeld=>?_)
   ·(try dsimp only)
    exact hHeld
   clear hK K
   try simp only [Rg.gp]
   refine Rg.rd1 8 ⟨some 27,.call ⟨.value (.func 33),#[.tmp 20,.tmp 23,.tmp 26],#[28,3,3]⟩,3,"ref.go:30",#[⟨1,.data⟩,⟨4,.data⟩,⟨7,.data⟩,⟨7,.chain⟩],none⟩ fun K hK=>?_
   go_simp
   go_at_call 33
   with_reducible refine (radd_c hxq hyq (HFA.out.below hHeld.2.1.out)).mono ?_
   rw [HR.out]
   rintro z v3 ⟨rfl,hb3⟩
   have HO3 : Hid (v3.ownsRow (W.heap.size + 1) 3 1 _ k _):=Lib.hid (own_belowK (w:=wr.drew) HO.out hb3)
   have HZ3:=Lib.hid (Nat.le_trans hHeld.2.2.out hb3.size)
   refine hK.out _ _ ?_ (fun hHeld=>?_)
   ·(try dsimp only)
    exact SF.keep hHeld hb3 hHeld.2.2.out
   clear hK K
   try simp only [Rg.gp]
   refine Rg.rd1 9 ⟨some 28,.buildSlice 25 1 #[(0,.tmp 27)],25,"ref.go:30",#[⟨8,.data⟩],none⟩ fun K hK=>?_
   go_simp
   refine hK.out _ _ ?_ (fun hHeld=>?_)
   ·(try dsimp only)
    exact SF.keep hHeld ((Below.refl _ _).alloc (Nat.le_refl _) _) hHeld.2.2.out
   clear hK K
   try simp only [Rg.gp]
   refine Rg.rd1 10 ⟨some 29,.call ⟨.builtin Builtin.append,#[.tmp 19,.tmp 28],#[25,25]⟩,25,"ref.go:30",#[⟨0,.data⟩,⟨9,.data⟩,⟨8,.chain⟩],none⟩ fun K hK=>?_
   refine step_append_own rfl _ _ 25 rfl (W.heap.size + 1) 3 i0 (.int .i64 0) 1 8 Try.underlying25 hi hz0 hz1 hz2 rfl (by decide) _ _ _ rfl (HO3.out.alloc _) ⟨v3.heap.size,0,none⟩ 1 1 [.int .i64 (r : Nat)] rfl rfl oneC oneO ?c1 ?c2 ?c3 ?_
   case c1=>unfold maxLen; omega
   case c2=>omega
   case c3=>have:=HZ3.out; simp; omega
   intro v4 w4 hown4 hgrow4
   have HO4:=Lib.hid hown4
   refine hK.out _ _ ?_ (fun hHeld=>?_)
   ·(try dsimp only)
    exact SF.keep hHeld ((Below.refl _ _).grown hgrow4 hHeld.2.2.out (fun g hg=>(World.ownsRow.lt HO3.out g hg).1)) (Nat.le_refl _)
   clear hK K
   try simp only [Rg.gp]
   refine Rg.tk 11 ⟨some 7,.assign (.tmp 29),25,"ref.go:30",#[⟨10,.data⟩,⟨10,.chain⟩,⟨0,.phase⟩,⟨1,.phase⟩,⟨2,.phase⟩,⟨3,.phase⟩,⟨4,.phase⟩,⟨5,.phase⟩,⟨6,.phase⟩,⟨7,.phase⟩,⟨8,.phase⟩,⟨9,.phase⟩,⟨10,.phase⟩],none⟩ ?_
   try simp only [Rg.gp]
   refine wpAnyH_done (by kernel_rfl) ?_ _
   rw [← HNX.out] at HO4
   have HS4:=Lib.hid hHeld
   clear hHeld hS0 hown4 hgrow4
   go_wp2
   go_roundw
   case rel=>exact ⟨k + 1,by omega,by go_num,HO4,HS4⟩
   case measure=>simp [intOf]; omega
  ·have hlt1 : ¬ (k : Int) < (B.length : Int):=by omega
   obtain ⟨ao,co,rfl⟩:=own_shp HO.out
   have HKL : Hid (k = (sumTo F A B k).length):=Lib.hid (sumTo_len F A B k).symm
   have HNO : Hid (NN (sumTo F A B k) wr (.slice ao k co)):=Lib.hid (by
    have h:=HO.out
    have e:=HKL.out
    have h2 : wr.ownsRow (W.heap.size + 1) 3 1 (.slice ao (sumTo F A B k).length co) (sumTo F A B k).length ((sumTo F A B k).map N64):=by rw [← e]; exact h
    have h3:=NN.of_owns h2
    rwa [← e] at h3)
   have HEQ : Hid (trL (sumTo F A B k) = addP F A B):=Lib.hid (sumTo_end HFF.out HA.out HB.out (by omega) (by omega))
   have HK1 : Hid (k ≤ 1000):=Lib.hid (by omega)
   have HBW:=Lib.hid HS.out.2.1.out
   clear hk hlt HO HS
   go_wp2_with fail
   with_reducible refine (rtrim_c (A:=sumTo F A B k) (by rw [← HKL.out]; have:=HK1.out; omega) HKL.out HNO.out).mono ?_
   rw [HEQ.out]
   rintro z w2 ⟨a2,c2,rfl,hn2,hb2⟩
   have HN2:=Lib.hid hn2
   have HBF:=Lib.hid (HBW.out.trans (hb2.mono HBW.out.size))
   clear hn2 hb2
   go_wp2
   go_ret
   exact ⟨a2,c2,rfl,HN2.out,HBF.out⟩
set_option maxHeartbeats 6400000 in
theorem radd_ge {F : Gf} {b cap : Nat} {A B : List Nat} {aa ab : Option Addr} {ca cb : Nat} {W : World} (h : FldAt F b cap W) (hA : In F A) (hB : In F B) (ha : A.length ≤ 1000) (hb : B.length ≤ 1000) (na : NN A W (.slice aa A.length ca)) (nb : NN B W (.slice ab B.length cb)) (hab : ¬ A.length < B.length) :
  Calls Try.prog 22 #[FV F b cap,.slice aa A.length ca,.slice ab B.length cb] W (SlPost (addP F A B) W):=by
 have HFA:=Lib.hid h
 have HFF:=Lib.hid (ok_mem h.mem)
 have HA:=Lib.hid hA
 have HB:=Lib.hid hB
 have NA:=Lib.hid na
 have NB:=Lib.hid nb
 obtain ⟨i0,hi,hz0,hz1,hz2⟩:=info_parts info3
 have HO0 : Hid (((W.alloc (.cells #[.int .i64 F.p,.int .i64 F.e,FM F b cap] 28)).alloc (.cells #[] 3)).ownsRow (W.heap.size + 1) 3 1 (.slice (some ⟨W.heap.size + 1,0,none⟩) 0 0) 0 []):=Lib.hid (by
  have e : (W.alloc (.cells #[.int .i64 F.p,.int .i64 F.e,FM F b cap] 28)).heap.size = W.heap.size + 1:=by simp
  have h:=World.ownsRow_made (base:=W.heap.size + 1) (e:=3) (size:=1) (W.alloc (.cells #[.int .i64 F.p,.int .i64 F.e,FM F b cap] 28)) #[] 0 (by simp) (Nat.zero_le _) rfl
  rw [e] at h
  exact h)
 have HSF : Hid (SF W F.p F.e (FM F b cap) ((W.alloc (.cells #[.int .i64 F.p,.int .i64 F.e,FM F b cap] 28)).alloc (.cells #[] 3))):=Lib.hid ⟨FB.keep (k:=W.heap.size + 1) (w:=(W.alloc (.cells #[.int .i64 F.p,.int .i64 F.e,FM F b cap] 28))) (by simp [FB]) ((Below.refl _ _).alloc (by simp) _) (by omega),Lib.hid (((Below.refl _ _).alloc (Nat.le_refl _) _).alloc (by simp) _),Lib.hid (by simp)⟩
 have habi : ¬ (A.length : Int) < (B.length : Int):=by omega
 clear h hA hB na nb
 go_enter Try.func22,Try.ntmps22
 go_wp2
 go_loopw [7,8] (fun o i wr=>∃ k : Nat,k ≤ A.length ∧ i = .int .i64 k ∧ Hid (wr.ownsRow (W.heap.size + 1) 3 1 o k ((sumTo F A B k).map N64)) ∧ Hid (SF W F.p F.e (FM F b cap) wr)) (fun _ i _=>A.length - (intOf i).toNat)
 case atStart=>exact ⟨0,Nat.zero_le _,rfl,Lib.hid HO0.out,HSF⟩
 case round =>
  obtain ⟨k,hk,rfl,HO,HS⟩:=hrel
  by_cases hlt : k < A.length
  ·have hlti : (k : Int) < (A.length : Int):=by omega
   obtain ⟨x,HX⟩ : ∃ x,Hid (A.getD k 0 = x):=⟨_,Lib.hid rfl⟩
   obtain ⟨y,HY⟩ : ∃ x,Hid (B.getD k 0 = x):=⟨_,Lib.hid rfl⟩
   have hxq : x < F.q:=by rw [← HX.out]; exact HA.out.get HFF.out k
   have hyq : y < F.q:=by rw [← HY.out]; exact HB.out.get HFF.out k
   obtain ⟨r,HR⟩ : ∃ n,Hid (F.add x y = n):=⟨_,Lib.hid rfl⟩
   have HNX : Hid ((sumTo F A B (k + 1)).map N64 = (sumTo F A B k).map N64 ++ [.int .i64 (r : Nat)]):=Lib.hid (by rw [sumTo_succ,HX.out,HY.out,HR.out,List.map_append]; rfl)
   have hS0 : SF W F.p F.e (FM F b cap) wr.drew:=⟨HS.out.1,Lib.hid HS.out.2.1.out.drew,Lib.hid HS.out.2.2.out⟩
   clear hk
   go_wp2_with fail
   refine wp_region_held_drew (S:=fun w'=>SF W F.p F.e (FM F b cap) w') (by kernel_rfl) (by with_reducible exact hS0) (fun hHeld=>?_)
   refine Rg.tk 0 ⟨some 19,.move (.tmp 7),25,"ref.go:30",#[],none⟩ ?_
   try simp only [Rg.gp]
   refine Rg.tk 1 ⟨some 20,.load 28 (.tmp 3),28,"ref.go:30",#[],none⟩ ?_
   try simp only [Rg.gp]
   refine Rg.tk 2 ⟨some 21,.move (.tmp 1),25,"ref.go:30",#[],none⟩ ?_
   try simp only [Rg.gp]
   refine Rg.tk 3 ⟨some 22,.move (.tmp 8),3,"ref.go:30",#[],none⟩ ?_
   try simp only [Rg.gp]
   refine Rg.tk 5 ⟨some 24,.move (.tmp 2),25,"ref.go:30",#[],none⟩ ?_
   try simp only [Rg.gp]
   refine Rg.tk 6 ⟨some 25,.move (.tmp 8),3,"ref.go:30",#[],none⟩ ?_
   try simp only [Rg.gp]
   refine Rg.rd1 4 ⟨some 23,.call ⟨.value (.func 55),#[.tmp 21,.tmp 22],#[25,3]⟩,3,"ref.go:30",#[⟨2,.data⟩,⟨3,.data⟩],none⟩ fun K hK=>?_
   go_simp
   go_at_call 55
   with_reducible refine (at_c (NA.out.below hHeld.2.1.out)).mono ?_
   rw [HX.out]
   rintro z v' ⟨rfl,rfl⟩
   refine hK.out _ _ ?_ (fun hHeld=>?_)
   ·(try dsimp only)
    exact hHeld
   clear hK K
   try simp only [Rg.gp]
   refine Rg.rd1 7 ⟨some 26,.call ⟨.value (.func 55),#[.tmp 24,.tmp 25],#[25,3]⟩,3,"ref.go:30",#[⟨5,.data⟩,⟨6,.data⟩,⟨4,.chain⟩],none⟩ fun K hK=>?_
   go_simp
   go_at_call 55
   with_reducible refine (at_c (NB.out.below hHeld.2.1.out)).mono ?_
   rw [HY.out]
   rintro z v' ⟨rfl,rfl⟩
   refine hK.out _ _ ?_ (fun hHeld=>?_)
   ·(try dsimp only)
    exact hHeld
   clear hK K
   try simp only [Rg.gp]
   refine Rg.rd1 8 ⟨some 27,.call ⟨.value (.func 33),#[.tmp 20,.tmp 23,.tmp 26],#[28,3,3]⟩,3,"ref.go:30",#[⟨1,.data⟩,⟨4,.data⟩,⟨7,.data⟩,⟨7,.chain⟩],none⟩ fun K hK=>?_
   go_simp
   go_at_call 33
   with_reducible refine (radd_c hxq hyq (HFA.out.below hHeld.2.1.out)).mono ?_
   rw [HR.out]
   rintro z v3 ⟨rfl,hb3⟩
   have HO3 : Hid (v3.ownsRow (W.heap.size + 1) 3 1 _ k _):=Lib.hid (own_belowK (w:=wr.drew) HO.out hb3)
   have HZ3:=Lib.hid (Nat.le_trans hHeld.2.2.out hb3.size)
   refine hK.out _ _ ?_ (fun hHeld=>?_)
   ·(try dsimp only)
    exact SF.keep hHeld hb3 hHeld.2.2.out
   clear hK K
   try simp only [Rg.gp]
   refine Rg.rd1 9 ⟨some 28,.buildSlice 25 1 #[(0,.tmp 27)],25,"ref.go:30",#[⟨8,.data⟩],none⟩ fun K hK=>?_
   go_simp
   refine hK.out _ _ ?_ (fun hHeld=>?_)
   ·(try dsimp only)
    exact SF.keep hHeld ((Below.refl _ _).alloc (Nat.le_refl _) _) hHeld.2.2.out
   clear hK K
   try simp only [Rg.gp]
   refine Rg.rd1 10 ⟨some 29,.call ⟨.builtin Builtin.append,#[.tmp 19,.tmp 28],#[25,25]⟩,25,"ref.go:30",#[⟨0,.data⟩,⟨9,.data⟩,⟨8,.chain⟩],none⟩ fun K hK=>?_
   refine step_append_own rfl _ _ 25 rfl (W.heap.size + 1) 3 i0 (.int .i64 0) 1 8 Try.underlying25 hi hz0 hz1 hz2 rfl (by decide) _ _ _ rfl (HO3.out.alloc _) ⟨v3.heap.size,0,none⟩ 1 1 [.int .i64 (r : Nat)] rfl rfl oneC oneO ?c1 ?c2 ?c3 ?_
   case c1=>unfold maxLen; omega
   case c2=>omega
   case c3=>have:=HZ3.out; simp; omega
   intro v4 w4 hown4 hgrow4
   have HO4:=Lib.hid hown4
   refine hK.out _ _ ?_ (fun hHeld=>?_)
   ·(try dsimp only)
    exact SF.keep hHeld ((Below.refl _ _).grown hgrow4 hHeld.2.2.out (fun g hg=>(World.ownsRow.lt HO3.out g hg).1)) (Nat.le_refl _)
   clear hK K
   try simp only [Rg.gp]
   refine Rg.tk 11 ⟨some 7,.assign (.tmp 29),25,"ref.go:30",#[⟨10,.data⟩,⟨10,.chain⟩,⟨0,.phase⟩,⟨1,.phase⟩,⟨2,.phase⟩,⟨3,.phase⟩,⟨4,.phase⟩,⟨5,.phase⟩,⟨6,.phase⟩,⟨7,.phase⟩,⟨8,.phase⟩,⟨9,.phase⟩,⟨10,.phase⟩],none⟩ ?_
   try simp only [Rg.gp]
   refine wpAnyH_done (by kernel_rfl) ?_ _
   rw [← HNX.out] at HO4
   have HS4:=Lib.hid hHeld
   clear hHeld hS0 hown4 hgrow4
   go_wp2
   go_roundw
   case rel=>exact ⟨k + 1,by omega,by go_num,HO4,HS4⟩
   case measure=>simp [intOf]; omega
  ·have hlt1 : ¬ (k : Int) < (A.length : Int):=by omega
   obtain ⟨ao,co,rfl⟩:=own_shp HO.out
   have HKL : Hid (k = (sumTo F A B k).length):=Lib.hid (sumTo_len F A B k).symm
   have HNO : Hid (NN (sumTo F A B k) wr (.slice ao k co)):=Lib.hid (by
    have h:=HO.out
    have e:=HKL.out
    have h2 : wr.ownsRow (W.heap.size + 1) 3 1 (.slice ao (sumTo F A B k).length co) (sumTo F A B k).length ((sumTo F A B k).map N64):=by rw [← e]; exact h
    have h3:=NN.of_owns h2
    rwa [← e] at h3)
   have HEQ : Hid (trL (sumTo F A B k) = addP F A B):=Lib.hid (sumTo_end HFF.out HA.out HB.out (by omega) (by omega))
   have HK1 : Hid (k ≤ 1000):=Lib.hid (by omega)
   have HBW:=Lib.hid HS.out.2.1.out
   clear hk hlt HO HS
   go_wp2_with fail
   with_reducible refine (rtrim_c (A:=sumTo F A B k) (by rw [← HKL.out]; have:=HK1.out; omega) HKL.out HNO.out).mono ?_
   rw [HEQ.out]
   rintro z w2 ⟨a2,c2,rfl,hn2,hb2⟩
   have HN2:=Lib.hid hn2
   have HBF:=Lib.hid (HBW.out.trans (hb2.mono HBW.out.size))
   clear hn2 hb2
   go_wp2
   go_ret
   exact ⟨a2,c2,rfl,HN2.out,HBF.out⟩
theorem radd_p {F : Gf} {b cap : Nat} {A B : List Nat} {aa ab : Option Addr} {ca cb : Nat} {W : World} (h : FldAt F b cap W) (hA : In F A) (hB : In F B) (ha : A.length ≤ 1000) (hb : B.length ≤ 1000) (na : NN A W (.slice aa A.length ca)) (nb : NN B W (.slice ab B.length cb)) :
  Calls Try.prog 22 #[FV F b cap,.slice aa A.length ca,.slice ab B.length cb] W (SlPost (addP F A B) W):=by
 by_cases hab : A.length < B.length
 ·exact radd_lt h hA hB ha hb na nb hab
 ·exact radd_ge h hA hB ha hb na nb hab
set_option maxHeartbeats 6400000 in
theorem rneg_p {F : Gf} {b cap : Nat} {A : List Nat} {aa : Option Addr} {ca : Nat} {W : World} (h : FldAt F b cap W) (hA : In F A) (ha : A.length ≤ 1000) (na : NN A W (.slice aa A.length ca)) :
  Calls Try.prog 48 #[FV F b cap,.slice aa A.length ca] W (SlPost (trL (A.map F.neg)) W):=by
 have HFA:=Lib.hid h
 have HFF:=Lib.hid (ok_mem h.mem)
 have HA:=Lib.hid hA
 have NA:=Lib.hid na
 obtain ⟨i0,hi,hz0,hz1,hz2⟩:=info_parts info3
 have HO0 : Hid (((W.alloc (.cells #[.int .i64 F.p,.int .i64 F.e,FM F b cap] 28)).alloc (.cells #[] 3)).ownsRow (W.heap.size + 1) 3 1 (.slice (some ⟨W.heap.size + 1,0,none⟩) 0 0) 0 []):=Lib.hid (by
  have e : (W.alloc (.cells #[.int .i64 F.p,.int .i64 F.e,FM F b cap] 28)).heap.size = W.heap.size + 1:=by simp
  have h:=World.ownsRow_made (base:=W.heap.size + 1) (e:=3) (size:=1) (W.alloc (.cells #[.int .i64 F.p,.int .i64 F.e,FM F b cap] 28)) #[] 0 (by simp) (Nat.zero_le _) rfl
  rw [e] at h
  exact h)
 have HSF : Hid (SF W F.p F.e (FM F b cap) ((W.alloc (.cells #[.int .i64 F.p,.int .i64 F.e,FM F b cap] 28)).alloc (.cells #[] 3))):=Lib.hid ⟨FB.keep (k:=W.heap.size + 1) (w:=(W.alloc (.cells #[.int .i64 F.p,.int .i64 F.e,FM F b cap] 28))) (by simp [FB]) ((Below.refl _ _).alloc (by simp) _) (by omega),Lib.hid (((Below.refl _ _).alloc (Nat.le_refl _) _).alloc (by simp) _),Lib.hid (by simp)⟩
 clear h hA na
 go_enter Try.func48,Try.ntmps48
 go_wp2
 go_loopw [5,6] (fun o i wr=>∃ k : Nat,k ≤ A.length ∧ i = .int .i64 k ∧ Hid (wr.ownsRow (W.heap.size + 1) 3 1 o k (((A.take k).map F.neg).map N64)) ∧ Hid (SF W F.p F.e (FM F b cap) wr)) (fun _ i _=>A.length - (intOf i).toNat)
 case atStart=>exact ⟨0,Nat.zero_le _,rfl,Lib.hid (by rw [List.take_zero]; exact HO0.out),HSF⟩
 case round =>
  obtain ⟨k,hk,rfl,HO,HS⟩:=hrel
  by_cases hlt : k < A.length
  ·have hlti : (k : Int) < (A.length : Int):=by omega
   obtain ⟨b',o',rfl,-⟩:=(NA.out.below HS.out.2.1.out).adr (by omega)
   obtain ⟨x,HX⟩ : ∃ x,Hid (A.getD k 0 = x):=⟨_,Lib.hid rfl⟩
   have hcx : wr.cell? ⟨b',o' + k,none⟩ = some (.int .i64 (x : Nat)):=by rw [← HX.out]; exact (NA.out.below HS.out.2.1.out).at hlt
   have hxq : x < F.q:=by rw [← HX.out]; exact HA.out.get HFF.out k
   obtain ⟨r,HR⟩ : ∃ n,Hid (F.neg x = n):=⟨_,Lib.hid rfl⟩
   have HNX : Hid (((A.take (k + 1)).map F.neg).map N64 = ((A.take k).map F.neg).map N64 ++ [.int .i64 (r : Nat)]):=Lib.hid (by
    rw [List.take_add_one,List.getElem?_eq_getElem hlt,← HR.out,← HX.out,show A.getD k 0 = A[k] by simp [List.getD,hlt]]
    simp only [Option.toList_some,List.map_append,List.map_cons,List.map_nil])
   have hS0 : SF W F.p F.e (FM F b cap) wr.drew:=⟨HS.out.1,Lib.hid HS.out.2.1.out.drew,Lib.hid HS.out.2.2.out⟩
   clear hk
   go_wp2_with fail
   refine wp_region_held_drew (S:=fun w'=>SF W F.p F.e (FM F b cap) w') (by kernel_rfl) (by with_reducible exact hS0) (fun hHeld=>?_)
   refine Rg.tk 0 ⟨some 14,.move (.tmp 5),25,"ref.go:39",#[],none⟩ ?_
   try simp only [Rg.gp]
   refine Rg.tk 1 ⟨some 15,.load 28 (.tmp 2),28,"ref.go:39",#[],none⟩ ?_
   try simp only [Rg.gp]
   refine Rg.tk 2 ⟨some 16,.move (.tmp 1),25,"ref.go:39",#[],none⟩ ?_
   try simp only [Rg.gp]
   refine Rg.tk 3 ⟨some 17,.move (.tmp 6),3,"ref.go:39",#[],none⟩ ?_
   try simp only [Rg.gp]
   refine Rg.tk 4 ⟨some 18,.indexAddr 25 (.tmp 16) (.tmp 17),0,"ref.go:39",#[⟨2,.data⟩,⟨3,.data⟩],none⟩ ?_
   try simp only [Rg.gp]
   refine Rg.rd1 5 ⟨some 19,.load 3 (.tmp 18),3,"ref.go:39",#[⟨4,.data⟩],none⟩ fun K hK=>?_
   go_simp
   refine hK.out _ _ ?_ (fun hHeld=>?_)
   ·(try dsimp only)
    exact hHeld
   clear hK K
   try simp only [Rg.gp]
   refine Rg.rd1 6 ⟨some 20,.call ⟨.value (.func 35),#[.tmp 15,.tmp 19],#[28,3]⟩,3,"ref.go:39",#[⟨1,.data⟩,⟨5,.data⟩],none⟩ fun K hK=>?_
   go_simp
   go_at_call 35
   with_reducible refine (rneg_c hxq (HFA.out.below hHeld.2.1.out)).mono ?_
   rw [HR.out]
   rintro z v3 ⟨rfl,hb3⟩
   have HO3 : Hid (v3.ownsRow (W.heap.size + 1) 3 1 _ k _):=Lib.hid (own_belowK (w:=wr.drew) HO.out hb3)
   have HZ3:=Lib.hid (Nat.le_trans hHeld.2.2.out hb3.size)
   refine hK.out _ _ ?_ (fun hHeld=>?_)
   ·(try dsimp only)
    exact SF.keep hHeld hb3 hHeld.2.2.out
   clear hK K
   try simp only [Rg.gp]
   refine Rg.rd1 7 ⟨some 21,.buildSlice 25 1 #[(0,.tmp 20)],25,"ref.go:39",#[⟨6,.data⟩],none⟩ fun K hK=>?_
   go_simp
   refine hK.out _ _ ?_ (fun hHeld=>?_)
   ·(try dsimp only)
    exact SF.keep hHeld ((Below.refl _ _).alloc (Nat.le_refl _) _) hHeld.2.2.out
   clear hK K
   try simp only [Rg.gp]
   refine Rg.rd1 8 ⟨some 22,.call ⟨.builtin Builtin.append,#[.tmp 14,.tmp 21],#[25,25]⟩,25,"ref.go:39",#[⟨0,.data⟩,⟨7,.data⟩,⟨6,.chain⟩],none⟩ fun K hK=>?_
   refine step_append_own rfl _ _ 25 rfl (W.heap.size + 1) 3 i0 (.int .i64 0) 1 8 Try.underlying25 hi hz0 hz1 hz2 rfl (by decide) _ _ _ rfl (HO3.out.alloc _) ⟨v3.heap.size,0,none⟩ 1 1 [.int .i64 (r : Nat)] rfl rfl oneC oneO ?c1 ?c2 ?c3 ?_
   case c1=>unfold maxLen; omega
   case c2=>omega
   case c3=>have:=HZ3.out; simp; omega
   intro v4 w4 hown4 hgrow4
   have HO4:=Lib.hid hown4
   refine hK.out _ _ ?_ (fun hHeld=>?_)
   ·(try dsimp only)
    exact SF.keep hHeld ((Below.refl _ _).grown hgrow4 hHeld.2.2.out (fun g hg=>(World.ownsRow.lt HO3.out g hg).1)) (Nat.le_refl _)
   clear hK K
   try simp only [Rg.gp]
   refine Rg.tk 9 ⟨some 5,.assign (.tmp 22),25,"ref.go:39",#[⟨8,.data⟩,⟨8,.chain⟩,⟨0,.phase⟩,⟨1,.phase⟩,⟨2,.phase⟩,⟨3,.phase⟩,⟨4,.phase⟩,⟨5,.phase⟩,⟨6,.phase⟩,⟨7,.phase⟩,⟨8,.phase⟩],none⟩ ?_
   try simp only [Rg.gp]
   refine wpAnyH_done (by kernel_rfl) ?_ _
   rw [← HNX.out] at HO4
   have HS4:=Lib.hid hHeld
   clear hHeld hS0 hown4 hgrow4
   go_wp2
   go_roundw
   case rel=>exact ⟨k + 1,by omega,by go_num,HO4,HS4⟩
   case measure=>simp [intOf]; omega
  ·have hlt1 : ¬ (k : Int) < (A.length : Int):=by omega
   obtain ⟨ao,co,rfl⟩:=own_shp HO.out
   have HNO : Hid (NN (A.map F.neg) wr (.slice ao k co)):=Lib.hid (by
    have h:=HO.out
    rw [List.take_of_length_le (by omega)] at h
    have e : (A.map F.neg).length = k:=by rw [List.length_map]; omega
    rw [← e] at h ⊢
    exact NN.of_owns h)
   have HKL : Hid (k = (A.map F.neg).length):=Lib.hid (by rw [List.length_map]; omega)
   have HK1 : Hid (k ≤ 1000):=Lib.hid (by omega)
   have HBW:=Lib.hid HS.out.2.1.out
   clear hk hlt HO HS
   go_wp2_with fail
   with_reducible refine (rtrim_c (A:=A.map F.neg) (by rw [← HKL.out]; have:=HK1.out; omega) HKL.out HNO.out).mono ?_
   rintro z w2 ⟨a2,c2,rfl,hn2,hb2⟩
   have HN2:=Lib.hid hn2
   have HBF:=Lib.hid (HBW.out.trans (hb2.mono HBW.out.size))
   clear hn2 hb2
   go_wp2
   go_ret
   exact ⟨a2,c2,rfl,HN2.out,HBF.out⟩
end Go.Proofs.Ytllecfhfhcmpaaa
