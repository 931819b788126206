/- The lists that the laws take: the reference's Of. -/
import Derived.Test.YtllecfhfhcmpaaaEvTk
import Derived.Test.YtllecfhfhcmpaaaKv
import Derived.Test.YtllecfhfhcmpaaaEvYv
import Derived.Test.YtllecfhfhcmpaaaLb
import Derived.Test.YtllecfhfhcmpaaaKz
import Derived.Test.YtllecfhfhcmpaaaKt
namespace Go.Proofs.Ytllecfhfhcmpaaa
open Go.RowKit Go.Fl
set_option maxRecDepth 100000
set_option linter.unusedVariables false
set_option linter.unusedSimpArgs false
set_option linter.unusedSectionVars false
theorem step_append_own {P : Program} {ops : Array Oper} {o : Oper} {a : Act} {w : World} {K : Act → World → Prop} {Q : Exit → Act → World → Prop} {E : Prop}
  (hg : o.guard = none) (s x : Operand) (t : TypeId) (hop : o.op = Op.call { callee:=Callee.builtin Builtin.append,args:=#[s,x],argTypes:=#[t,t] })
  (base : Nat) (e : TypeId) (i : TypeInfo) (z : Value) (size bytes : Nat) (ht : P.underlying t = some (.slice e)) (hi : P.info? e = some i) (hz : i.zero = some z)
  (hsize : i.size = size) (hby : i.bytes = bytes) (hzs : z.cells.size = size) (hsz : 0 < size)
  (v : Value) (n : Nat) (xs : List Value) (hv : a.eval s = v) (hown : w.ownsRow base e size v n xs)
  (ad : Addr) (m c : Nat) (news : List Value) (hx : a.eval x = .slice (some ad) m c) (hl : news.length = m * size) (hnews : ∀ j u,news[j]? = some u → w.cell? (ad.add j) = some u) (h1 : ∀ u ∈ news,u.oneCell' = true)
  (h63 : n + m ≤ maxLen) (hbytes : (n + m) * bytes ≤ 140737488355328) (hbase : base ≤ w.heap.size)
  (hK : ∀ v' w',w'.ownsRow base e size v' (n + m) (xs ++ news) → w.grownBy w' v.ownBlock → K (a.put o.dst v') w') :
  if Region.wanted o (yielded ops a.tmps) = true then Oper.wp P o a w K Q else E:=by
 have hw : Region.wanted o (yielded ops a.tmps) = true:=by simp [Region.wanted,hg]
 rw [if_pos hw]
 obtain ⟨v',w',hrun,r1,r2,r3⟩:=run_append_own (P:=P) w base t o.type e i z size bytes ht hi hz hsize hby hzs hsz v n xs hown ad m c news hl hnews h1 h63 hbytes hbase
 unfold Oper.wp
 simp [execOp,hop,resolve,invoke,builtin,hv,hx,hrun,Result.andThen]
 exact hK v' w' r1 r2
def N8 (L : List Nat) (w : World) (v : Value) : Prop:=(L = [] ∧ ∃ a c,v = .slice a 0 c) ∨ ∃ b off cap,v = .slice (some ⟨b,off,none⟩) L.length cap ∧ b < w.heap.size ∧ ∀ t,t < L.length → w.cell? ⟨b,off + t,none⟩ = some (.int .u8 (L.getD t 0 : Nat))
theorem N8.below {L : List Nat} {w w' : World} {v : Value} (h : N8 L w v) (hb : Below w.heap.size w w') : N8 L w' v:=by
 rcases h with h | ⟨b,off,cap,h4,h5,h6⟩
 ·exact .inl h
 ·exact .inr ⟨b,off,cap,h4,Nat.lt_of_lt_of_le h5 hb.size,fun t ht=>(hb.cell h5).trans (h6 t ht)⟩
abbrev SG (W : World) (p q : Int) (m : Value) (b' o : Nat) (cv : Value) (w : World) : Prop:=FB W.heap.size p q m w ∧ w.cell? ⟨b',o,none⟩ = some cv ∧ Hid (Below W.heap.size W w) ∧ Hid (W.heap.size + 1 ≤ w.heap.size)
theorem SG.keep {W w w' : World} {p q : Int} {m cv : Value} {b' o k : Nat} (h : SG W p q m b' o cv w) (hb : Below k w w') (hk : W.heap.size + 1 ≤ k) (hb' : b' < W.heap.size) : SG W p q m b' o cv w':=
 ⟨FB.keep h.1 hb (by omega),(hb.cell (p:=⟨b',o,none⟩) (by show b' < k; omega)).trans h.2.1,Lib.hid (h.2.2.1.out.trans (hb.mono (by omega))),Lib.hid (Nat.le_trans h.2.2.2.out hb.size)⟩
def ofL (F : Gf) (A : List Nat) (n : Nat) : List Nat:=(A.take n).map (· % F.q)
theorem ofL_in {F : Gf} (hF : Ok F) (A : List Nat) (n : Nat) : In F (ofL F A n):=fun x hx=>by
 obtain ⟨y,_,rfl⟩:=List.mem_map.1 hx
 exact Nat.mod_lt _ hF.zero_lt
theorem take_map_succ {F : Gf} {A : List Nat} {k : Nat} (hk : k < A.length) : (A.take (k + 1)).map (· % F.q) = (A.take k).map (· % F.q) ++ [A.getD k 0 % F.q]:=by
 have e : A.take (k + 1) = A.take k ++ [A.getD k 0]:=by
  rw [List.take_add_one,List.getElem?_eq_getElem hk]
  simp [List.getD,hk]
 rw [e,List.map_append]
 rfl
def OwnPost (L : List Nat) (w : World) (e : Ending) (w' : World) : Prop:=∃ a c k,e = .returned (.slice a L.length c) ∧ w.heap.size ≤ k ∧ k ≤ w'.heap.size ∧ w'.ownsRow k 3 1 (.slice a L.length c) L.length (L.map N64) ∧ Below w.heap.size w w'
set_option maxHeartbeats 6400000 in
theorem of04_own {F : Gf} {b cap : Nat} {A : List Nat} {aa : Option Addr} {la ca n : Nat} {W : World} (hF : Ok F) (hA : ∀ x ∈ A,x < 256) (ea : la = A.length) (hla : la ≤ maxLen) (hn : n ≤ 100) (na : N8 A W (.slice aa la ca)) :
  Calls Try.prog 13 #[FV F b cap,.slice aa la ca,.int .i64 (n : Nat)] W (OwnPost (ofL F A n) W):=by
 have EA:=Lib.hid ea
 have HA:=Lib.hid hA
 have NA:=Lib.hid na
 have HFF:=Lib.hid hF
 have HSZ:=Lib.hid (fun w=>size_c hF b cap w)
 have hla' : la ≤ 9223372036854775807:=by unfold maxLen at hla; omega
 obtain ⟨i0,hi,hz0,hz1,hz2⟩:=info_parts info3
 clear hA ea na hF hla
 go_enter Try.func13,Try.ntmps13
 go_wp2
 go_loopw [7,8] (fun v i wr=>∃ k : Nat,k ≤ n ∧ k ≤ la ∧ i = .int .i64 k ∧ Hid (FB W.heap.size F.p F.e (FM F b cap) wr) ∧ Hid (wr.ownsRow (W.heap.size + 1) 3 1 v ((A.take k).map (· % F.q)).length (((A.take k).map (· % F.q)).map N64)) ∧ Hid (Below W.heap.size W wr) ∧ Hid (W.heap.size + 1 ≤ wr.heap.size)) (fun _ i _=>n - (intOf i).toNat)
 case atStart=>exact ⟨0,Nat.zero_le _,Nat.zero_le _,rfl,Lib.hid (by simp [FB]),Lib.hid (by
   have:=World.ownsRow_made (base:=W.heap.size + 1) (e:=3) (size:=1) (W.alloc (.cells #[.int .i64 F.p,.int .i64 F.e,FM F b cap] 28)) #[] 0 (by simp) (Nat.zero_le _) rfl
   simpa using this),Lib.hid (((Below.refl _ _).alloc (Nat.le_refl _) _).alloc (by simp) _),Lib.hid (by simp)⟩
 case round =>
  obtain ⟨k,hk,hkl,rfl,HBX,HOW,HBL,HZ⟩:=hrel
  have FIN : Hid ((k = n ∨ k = la) → ∃ a c,u7 = .slice a (ofL F A n).length c ∧ wr.ownsRow (W.heap.size + 1) 3 1 (.slice a (ofL F A n).length c) (ofL F A n).length ((ofL F A n).map N64)):=Lib.hid (fun h=>by
   have e : (A.take k).map (· % F.q) = ofL F A n:=by
    unfold ofL
    rcases h with h | h
    ·rw [h]
    ·rw [List.take_of_length_le (by have:=EA.out; omega),List.take_of_length_le (by have:=EA.out; omega)]
   have:=HOW.out
   rw [e] at this
   obtain ⟨a,c,rfl⟩:=(NN.of_owns this).shape
   exact ⟨a,c,rfl,this⟩)
  by_cases h1 : k < la
  ·by_cases h2 : k < n
   ·have hkA : k < A.length:=by have:=EA.out; omega
    obtain ⟨xx,hxx⟩ : ∃ x,Hid (A.getD k 0 = x):=⟨_,rfl⟩
    have hx255 : xx < 256:=by
     rw [← hxx.out,List.getD_eq_getElem?_getD,List.getElem?_eq_getElem hkA]
     exact HA.out _ (List.getElem_mem _)
    obtain ⟨rr,hrr⟩ : ∃ r,Hid (xx % F.q = r):=⟨_,rfl⟩
    have hq0 : 0 < F.q:=HFF.out.zero_lt
    have hq64 : F.q ≤ 64:=HFF.out.q64
    have hmod : ((xx : Int)).tmod (F.q : Int) = (rr : Int):=by rw [← hrr.out,Int.tmod_eq_emod_of_nonneg (by omega)]; rfl
    have hmod2 : (xx : Int) % (F.q : Int) = (rr : Int):=by rw [← hrr.out]; rfl
    have hqz : ¬ F.q = 0:=by omega
    have hwx : IntKind.i64.wrap (xx : Int) = (xx : Int):=IntWalk.i64_in _ (by omega)
    have HST : Hid ((A.take k).map (· % F.q) ++ [rr] = (A.take (k + 1)).map (· % F.q)):=Lib.hid (by rw [take_map_succ hkA,hxx.out,hrr.out])
    have HLN : Hid (((A.take k).map (· % F.q)).length = k):=Lib.hid (by rw [List.length_map,List.length_take]; omega)
    have hlk : ((A.take k).map (· % F.q)).length ≤ 100:=by rw [HLN.out]; omega
    obtain ⟨b',off',rfl,hcA,hbW⟩ : ∃ b' off',aa = some ⟨b',off',none⟩ ∧ wr.cell? ⟨b',off' + k,none⟩ = some (.int .u8 (xx : Nat)) ∧ Hid (b' < W.heap.size):=by
     rw [← hxx.out]
     rcases NA.out with ⟨e,a,c,h⟩ | ⟨b',off',cap',h,g2,g3⟩
     ·rw [e] at hkA; simp at hkA
     ·cases h; exact ⟨b',off',rfl,(HBL.out.cell (p:=⟨b',off' + k,none⟩) g2).trans (g3 k hkA),Lib.hid g2⟩
    have hS0 : SG W F.p F.e (FM F b cap) b' (off' + k) (.int .u8 (xx : Nat)) wr.drew:=⟨HBX.out,hcA,Lib.hid HBL.out.drew,HZ⟩
    clear hkA hcA
    go_wp2_with fail
    refine wp_region_held_drew (S:=fun w'=>SG W F.p F.e (FM F b cap) b' (off' + k) (.int .u8 (xx : Nat)) w') (by kernel_rfl) (by with_reducible exact hS0) (fun hHeld=>?_)
    refine Rg.tk 0 ⟨some 21,.move (.tmp 7),25,"ref.go:168",#[],none⟩ ?_
    try simp only [Rg.gp]
    refine Rg.tk 1 ⟨some 22,.move (.tmp 1),22,"ref.go:168",#[],none⟩ ?_
    try simp only [Rg.gp]
    refine Rg.tk 2 ⟨some 23,.move (.tmp 8),3,"ref.go:168",#[],none⟩ ?_
    try simp only [Rg.gp]
    refine Rg.tk 3 ⟨some 24,.indexAddr 22 (.tmp 22) (.tmp 23),0,"ref.go:168",#[⟨1,.data⟩,⟨2,.data⟩],none⟩ ?_
    try simp only [Rg.gp]
    refine Rg.tk 4 ⟨some 25,.load 5 (.tmp 24),5,"ref.go:168",#[⟨3,.data⟩],none⟩ ?_
    try simp only [Rg.gp]
    refine Rg.tk 5 ⟨some 26,.convert 5 3 (.tmp 25),3,"ref.go:168",#[⟨4,.data⟩],none⟩ ?_
    try simp only [Rg.gp]
    refine Rg.tk 6 ⟨some 27,.load 28 (.tmp 3),28,"ref.go:168",#[],none⟩ ?_
    try simp only [Rg.gp]
    refine Rg.rd1 7 ⟨some 28,.call ⟨.value (.func 12),#[.tmp 27],#[28]⟩,3,"ref.go:168",#[⟨6,.data⟩],none⟩ fun K hK=>?_
    go_simp
    go_at_call 12
    with_reducible refine (HSZ.out _).mono ?_
    rintro z v1 ⟨rfl,hb3⟩
    have HO1:=Lib.hid (own_belowK (w:=wr.drew) HOW.out hb3)
    refine hK.out _ _ ?_ (fun hHeld=>?_)
    ·(try dsimp only)
     exact SG.keep hHeld hb3 hHeld.2.2.2.out hbW.out
    clear hK K
    try simp only [Rg.gp]
    refine Rg.tk 8 ⟨some 29,.binOp BinOp.rem 3 (.tmp 26) (.tmp 28) 3,3,"ref.go:168",#[⟨5,.data⟩,⟨7,.data⟩],none⟩ ?_
    try simp only [Rg.gp]
    refine Rg.rd1 9 ⟨some 30,.buildSlice 25 1 #[(0,.tmp 29)],25,"ref.go:168",#[⟨8,.data⟩],none⟩ fun K hK=>?_
    go_simp
    refine hK.out _ _ ?_ (fun hHeld=>?_)
    ·(try dsimp only)
     exact SG.keep (k:=v1.heap.size) hHeld ((Below.refl _ _).alloc (Nat.le_refl _) _) hHeld.2.2.2.out hbW.out
    clear hK K
    try simp only [Rg.gp]
    refine Rg.rd1 10 ⟨some 31,.call ⟨.builtin Builtin.append,#[.tmp 21,.tmp 30],#[25,25]⟩,25,"ref.go:168",#[⟨0,.data⟩,⟨9,.data⟩,⟨7,.chain⟩],none⟩ fun K hK=>?_
    refine step_append_own rfl _ _ 25 rfl (W.heap.size + 1) 3 i0 (.int .i64 0) 1 8 Try.underlying25 hi hz0 hz1 hz2 rfl (by decide) _ _ _ rfl (HO1.out.alloc _) ⟨v1.heap.size,0,none⟩ 1 1 [.int .i64 (rr : Nat)] rfl rfl ?c1 ?c2 ?c3 ?c4 ?c5 ?_
    case c1 =>
     intro j u hj
     match j,hj with
     | 0,hj=>simp at hj; subst hj; simp [Addr.add]
    case c2=>intro u hu; simp at hu; subst hu; rfl
    case c3=>unfold maxLen; omega
    case c4=>omega
    case c5=>have:=hHeld.2.2.2.out; simpa using this
    intro v' w2 hown' hgrow
    have hb4 : Below (W.heap.size + 1) (v1.alloc (.cells #[.int .i64 (rr : Nat)] 3)) w2:=(Below.refl _ _).grown hgrow (by have:=hHeld.2.2.2.out; simpa using this) fun k hk=>(HO1.out.lt k hk).1
    have HO2 : Hid (w2.ownsRow (W.heap.size + 1) 3 1 v' ((A.take k).map (· % F.q) ++ [rr]).length (((A.take k).map (· % F.q) ++ [rr]).map N64)):=Lib.hid (by rw [List.length_append,List.length_singleton,List.map_append]; exact hown')
    clear hown' hgrow
    refine hK.out _ _ ?_ (fun hHeld=>?_)
    ·(try dsimp only)
     exact SG.keep (k:=W.heap.size + 1) hHeld hb4 (Nat.le_refl _) hbW.out
    clear hK K
    try simp only [Rg.gp]
    refine Rg.tk 11 ⟨some 7,.assign (.tmp 31),25,"ref.go:168",#[⟨10,.data⟩,⟨10,.chain⟩,⟨0,.phase⟩,⟨1,.phase⟩,⟨2,.phase⟩,⟨3,.phase⟩,⟨4,.phase⟩,⟨5,.phase⟩,⟨6,.phase⟩,⟨7,.phase⟩,⟨8,.phase⟩,⟨9,.phase⟩,⟨10,.phase⟩],none⟩ ?_
    try simp only [Rg.gp]
    refine wpAnyH_done (by kernel_rfl) ?_ _
    have HB3:=hHeld.2.2.1
    have HZ3:=hHeld.2.2.2
    have HX3:=Lib.hid hHeld.1
    rw [HST.out] at HO2
    clear hHeld hS0 hb3 hb4
    go_wp2
    go_roundw
    case rel=>exact ⟨k + 1,by omega,by omega,by go_num,HX3,HO2,HB3,HZ3⟩
    case measure=>simp [intOf]; omega
   ·have HE:=Lib.hid (FIN.out (.inl (by omega)))
    obtain ⟨a2,c2,rfl,HN2⟩:=HE.out
    have HN3:=Lib.hid HN2
    clear HN2 FIN
    go_wp2
    go_ret
    exact ⟨a2,c2,W.heap.size + 1,rfl,by omega,HZ.out,HN3.out,HBL.out⟩
  ·have HE:=Lib.hid (FIN.out (.inr (by omega)))
   obtain ⟨a2,c2,rfl,HN2⟩:=HE.out
   have HN3:=Lib.hid HN2
   clear HN2 FIN
   go_wp2
   go_ret
   exact ⟨a2,c2,W.heap.size + 1,rfl,by omega,HZ.out,HN3.out,HBL.out⟩
theorem of04_c {F : Gf} {b cap : Nat} {A : List Nat} {aa : Option Addr} {la ca n : Nat} {W : World} (hF : Ok F) (hA : ∀ x ∈ A,x < 256) (ea : la = A.length) (hla : la ≤ maxLen) (hn : n ≤ 100) (na : N8 A W (.slice aa la ca)) :
  Calls Try.prog 13 #[FV F b cap,.slice aa la ca,.int .i64 (n : Nat)] W (SlPost (ofL F A n) W):=
 (of04_own hF hA ea hla hn na).mono fun e w' ⟨a,c,k,h1,_,_,h4,h5⟩=>⟨a,c,h1,NN.of_owns h4,h5⟩
theorem ok_small {F : Gf} (hF : Ok F) : F.p ≤ 64 ∧ F.e ≤ 6:=by
 have h1:=hF.qe
 have h2:=hF.q64
 have h3:=hF.p2
 have h4:=hF.e1
 constructor
 ·have : F.p ^ 1 ≤ F.p ^ F.e:=Nat.pow_le_pow_right (by omega) h4
  rw [Nat.pow_one] at this
  omega
 ·rcases Nat.lt_or_ge 6 F.e with h | h
  ·exfalso
   have e1 : 2 ^ 7 ≤ 2 ^ F.e:=Nat.pow_le_pow_right (by decide) h
   have e2 : 2 ^ F.e ≤ F.p ^ F.e:=Nat.pow_le_pow_left h3 _
   omega
  ·exact h
set_option maxHeartbeats 3200000 in
theorem size60_c {F : Gf} (hF : Ok F) (b cap : Nat) (W : World) : Calls Try.prog 60 #[FV F b cap] W fun e w'=>e = .returned (.int .i64 (F.q : Nat)) ∧ Below W.heap.size W w':=by
 obtain ⟨hp64,he6⟩:=ok_small hF
 have hp2:=hF.p2
 have he1:=hF.e1
 have mono : ∀ k,k ≤ F.e → F.p ^ k ≤ 64:=fun k hk=>Nat.le_trans (Nat.pow_le_pow_right (by omega) hk) (by rw [← hF.qe]; exact hF.q64)
 have HM:=Lib.hid mono
 have HQ:=Lib.hid hF.qe
 have hq64:=hF.q64
 have k1 : ¬ (F.p : Int) < 2:=by omega
 have k2 : ¬ (64 : Int) < (F.p : Int):=by omega
 have k3 : ¬ (F.e : Int) < 1:=by omega
 have k4 : ¬ (6 : Int) < (F.e : Int):=by omega
 have k5 : ¬ (64 : Int) < (F.q : Int):=by omega
 have k6 : ((F.e : Int) != (F.e : Int)) = false:=by simp
 have hb0 : Below W.heap.size W (W.alloc (.cells #[.int .i64 F.p,.int .i64 F.e,FM F b cap] 28)):=(Below.refl _ _).alloc (Nat.le_refl _) _
 have HB0:=Lib.hid hb0
 clear hF mono hb0
 go_enter Try.func60,Try.ntmps60
 go_wp2
 go_loopw [3,32] (fun v i wr=>∃ k : Nat,k ≤ F.e ∧ i = .int .i64 k ∧ v = .int .i64 (F.p ^ k : Nat) ∧ wr = W.alloc (.cells #[.int .i64 F.p,.int .i64 F.e,FM F b cap] 28)) (fun _ i _=>F.e - (intOf i).toNat)
 case atStart=>exact ⟨0,Nat.zero_le _,rfl,rfl,rfl⟩
 case round =>
  obtain ⟨k,hk,rfl,rfl,rfl⟩:=hrel
  by_cases hlt : k < F.e
  ·have h1:=HM.out (k + 1) hlt
   have h2:=HM.out k hk
   have HS : Hid (F.p ^ k * F.p = F.p ^ (k + 1)):=Lib.hid (Nat.pow_succ F.p k).symm
   have hm : ((F.p ^ k : Nat) : Int) * (F.p : Int) = ((F.p ^ (k + 1) : Nat) : Int):=by rw [← HS.out]; push_cast; rfl
   generalize hu1 : F.p ^ (k + 1) = u1 at *
   generalize hu : F.p ^ k = u at *
   have HU:=Lib.hid hu1
   clear hu1 hu
   have hw : IntKind.i64.wrap (u1 : Int) = (u1 : Int):=IntWalk.i64_in _ (by omega)
   go_wp2
   go_roundw
   case rel=>exact ⟨k + 1,by omega,by go_num,by rw [HU.out],trivial⟩
   case measure=>simp [intOf]; omega
  ·obtain rfl : F.e = k:=by omega
   rw [← HQ.out]
   go_wp2
   go_ret
   exact ⟨rfl,HB0.out⟩
def rootsTo (F : Gf) (A : List Nat) (n : Nat) : List Nat:=(List.range n).filter fun x=>ev F x A == 0
theorem rootsTo_succ (F : Gf) (A : List Nat) (n : Nat) : rootsTo F A (n + 1) = rootsTo F A n ++ (if ev F n A = 0 then [n] else []):=by
 unfold rootsTo
 rw [List.range_succ,List.filter_append]
 congr 1
 by_cases h : ev F n A = 0 <;> simp [h]
theorem rootsTo_len (F : Gf) (A : List Nat) (n : Nat) : (rootsTo F A n).length ≤ n:=by
 unfold rootsTo
 exact Nat.le_trans (List.length_filter_le _ _) (by simp)
theorem nil_own (w : World) (base : Nat) : w.ownsRow base 3 1 (.slice none 0 0) 0 []:=⟨rfl,.inl ⟨rfl,rfl⟩⟩
set_option maxHeartbeats 3200000 in
theorem zeros_c {F : Gf} {b cap : Nat} {A : List Nat} {aa : Option Addr} {n c : Nat} {W : World} (hq : F.q ≤ 64)
  (HV : Hid (∀ w,Below W.heap.size W w → ∀ x,x < F.q → Calls Try.prog 58 #[PF F b cap aa n c,.int .i64 (x : Nat)] w fun e w'=>e = .returned (.int .i64 (ev F x A : Nat)) ∧ Below w.heap.size w w')) :
  Calls Try.prog 59 #[.int .i64 (F.q : Nat),.func (.func 58) #[PF F b cap aa n c] #[]] W (SlPost (rootsTo F A F.q) W):=by
 obtain ⟨i0,hi,hz0,hz1,hz2⟩:=info_parts info3
 go_enter Try.func59,Try.ntmps59
 go_wp2
 go_loopw [5,8] (fun v i wr=>∃ k : Nat,k ≤ F.q ∧ i = .int .i64 k ∧ Hid (wr.ownsRow W.heap.size 3 1 v (rootsTo F A k).length ((rootsTo F A k).map N64)) ∧ Hid (Below W.heap.size W wr)) (fun _ i _=>F.q - (intOf i).toNat)
 case atStart=>exact ⟨0,Nat.zero_le _,rfl,nil_own _ _,Below.refl _ _⟩
 case round =>
  obtain ⟨k,hk,rfl,HO,HB⟩:=hrel
  by_cases hlt : k < F.q
  ·obtain ⟨vv,hvv⟩ : ∃ v,Hid (ev F k A = v):=⟨_,rfl⟩
   have HC : Hid (Calls Try.prog 58 #[PF F b cap aa n c,.int .i64 (k : Nat)] wr fun e w'=>e = .returned (.int .i64 (vv : Nat)) ∧ Below wr.heap.size wr w'):=Lib.hid (by rw [← hvv.out]; exact HV.out wr HB.out k hlt)
   have HLN : Hid ((rootsTo F A k).length ≤ k):=Lib.hid (rootsTo_len F A k)
   by_cases h0 : vv = 0
   ·have HST : Hid (rootsTo F A (k + 1) = rootsTo F A k ++ [k]):=Lib.hid (by rw [rootsTo_succ,hvv.out,if_pos h0])
    subst h0
    generalize rootsTo F A k = L at *
    have hL : L.length ≤ 64:=by have:=HLN.out; omega
    go_wp2_with fail
    with_reducible refine HC.out.mono ?_
    rintro z w1 ⟨rfl,hb1⟩
    have HO1:=Lib.hid (own_belowK HO.out hb1)
    have HB1:=Lib.hid (HB.out.trans (hb1.mono HB.out.size))
    clear hb1
    go_wp2_with (at_builtin; refine wpList_append_own _ rfl _ _ 25 rfl W.heap.size 3 i0 (.int .i64 0) 1 8 Try.underlying25 hi hz0 hz1 hz2 rfl (by decide) _ _ _ rfl (HO1.out.alloc _) ⟨w1.heap.size,0,none⟩ 1 1 [.int .i64 (k : Nat)] rfl rfl ?c1 ?c2 ?c3 ?c4 ?c5 ?_)
    case c1 =>
     intro j u hj
     match j,hj with
     | 0,hj=>simp at hj; subst hj; simp [Addr.add]
    case c2=>intro u hu; simp at hu; subst hu; rfl
    case c3=>unfold maxLen; omega
    case c4=>omega
    case c5=>have:=HB1.out.size; simp; omega
    intro v' w2 hown' hgrow hnil
    have hb4 : Below W.heap.size (w1.alloc (.cells #[.int .i64 (k : Nat)] 3)) w2:=(Below.refl _ _).grown hgrow (by have:=HB1.out.size; simp; omega) fun k hk=>(HO1.out.lt k hk).1
    have HO2 : Hid (w2.ownsRow W.heap.size 3 1 v' (L ++ [k]).length ((L ++ [k]).map N64)):=Lib.hid (by rw [List.length_append,List.length_singleton,List.map_append]; exact hown')
    have HB2:=Lib.hid ((HB1.out.alloc HB1.out.size _).trans hb4)
    rw [← HST.out] at HO2
    clear hown' hgrow hnil hb4
    go_wp2
    go_roundw
    case rel=>exact ⟨k + 1,by omega,by go_num,HO2,HB2⟩
    case measure=>simp [intOf]; omega
   ·have HST : Hid (rootsTo F A (k + 1) = rootsTo F A k):=Lib.hid (by rw [rootsTo_succ,hvv.out,if_neg h0,List.append_nil])
    have hd : ((vv : Int) == 0) = false:=by simp; omega
    clear h0
    go_wp2_with fail
    with_reducible refine HC.out.mono ?_
    rintro z w1 ⟨rfl,hb1⟩
    have HO1:=Lib.hid (own_belowK HO.out hb1)
    have HB1:=Lib.hid (HB.out.trans (hb1.mono HB.out.size))
    clear hb1
    rw [← HST.out] at HO1
    go_wp2
    go_roundw
    case rel=>exact ⟨k + 1,by omega,by go_num,HO1,HB1⟩
    case measure=>simp [intOf]; omega
  ·obtain rfl : F.q = k:=by omega
   have HN:=Lib.hid (NN.of_owns HO.out)
   obtain ⟨a2,c2,rfl⟩:=HN.out.shape
   go_wp2
   go_ret
   exact ⟨a2,c2,rfl,HN.out,HB.out⟩
theorem rootsTo_trL {F : Gf} (hF : Ok F) (A : List Nat) (n : Nat) : rootsTo F (trL A) n = rootsTo F A n:=by
 unfold rootsTo
 congr 1
 funext x
 rw [ev_trL hF]
set_option maxHeartbeats 6400000 in
theorem roots_c {F : Gf} {b cap : Nat} {A : List Nat} {aa : Option Addr} {la ca : Nat} {W : World} (hO : Ops F b cap W) (hA : In F A) (ha : A.length ≤ 1000) (ea : la = A.length)
  (na : NN A W (.slice aa la ca)) : Calls Try.prog 29 #[FV F b cap,.slice aa la ca] W (SlPost (rootsTo F A F.q) W):=by
 have HSZ:=Lib.hid (fun w=>size60_c hO.ok b cap w)
 have HOA:=Lib.hid (fun w (h : Below W.heap.size W w)=>over_c (p:=F.p) (q:=F.e) (ma:=some ⟨b,0,none⟩) (ml:=F.e) (mc:=cap) (L:=A) (by omega) ea (na.below h))
 have HZR : Hid (∀ w,Below W.heap.size W w → Calls Try.prog 59 #[.int .i64 (F.q : Nat),.func (.func 58) #[PF F b cap aa (trL A).length ca] #[]] w (SlPost (rootsTo F A F.q) w)):=Lib.hid (fun w hw=>by
  have:=zeros_c (F:=F) (b:=b) (cap:=cap) (A:=trL A) (aa:=aa) (n:=(trL A).length) (c:=ca) (W:=w) hO.ok.q64 (Lib.hid (fun w' hw' x hx=>value_c (hO.below (hw.trans (hw'.mono hw.size))) (in_trL hA) (Nat.le_trans (trL_len A) ha) rfl hx ((na.tr2 ea).below (hw.trans (hw'.mono hw.size)))))
  rwa [rootsTo_trL hO.ok] at this)
 have hmf : ∀ (fn : Fn) (first cap : Array Value) (w : World),(Instr.makeFunc fn first cap).run Try.prog w = .ok (.func fn first cap) w:=fun _ _ _ _=>rfl
 have hS0 : SF W F.p F.e (FM F b cap) (W.alloc (.cells #[.int .i64 F.p,.int .i64 F.e,FM F b cap] 28)).drew:=⟨by simp [FB],Lib.hid (((Below.refl _ _).alloc (Nat.le_refl _) _).drew),Lib.hid (by simp)⟩
 generalize rootsTo F A F.q = L at *
 generalize trL A = TA at *
 clear hO hA ha ea na
 go_enter Try.func29,Try.ntmps29
 go_wp2_with fail
 refine Go.Rg.region_by (S:=fun w'=>SF W F.p F.e (FM F b cap) w') (R:=fun w w'=>Below w.heap.size w w') (φ:=phi F b cap [.eq (FV F b cap),.eq (.int .i64 (F.q : Nat)),.eq (FV F b cap),.eq (.slice aa la ca),.eq (PF F b cap aa TA.length ca),.eq (.func (.func 58) #[PF F b cap aa TA.length ca] #[]),.sl (L),.sl (L)]) (by kernel_rfl) (phi_mono _) (by kernel_rfl) (by kernel_rfl) (by rfl) (hS0) (Go.Rg.steps_ok ?steps) ?fin
 case steps =>
  refine ⟨fun a w hat K hK=>?_,?_⟩
  ·have e2 : a.tmps[2]?.getD undef = .pointer (some ⟨W.heap.size,0,none⟩):=hat.b 2 (by kernel_rfl) rfl
   have hSt:=hat.st
   rw [if_pos (by rfl)]
   go_simp
   exact hK.out _ _ hSt (Below.refl _ _) rfl
  refine ⟨fun a w hat K hK=>?_,?_⟩
  ·have e5 : a.tmps[5]?.getD undef = FV F b cap:=hat.d 0 5 (by kernel_rfl) (by kernel_rfl)
   have hSt:=hat.st
   rw [if_pos (by rfl)]
   go_simp
   go_at_call 60
   with_reducible refine (HSZ.out w).mono ?_
   rintro z' v' ⟨rfl,hb⟩
   exact hK.out _ _ (SF.keep hSt hb hSt.2.2.out) hb rfl
  refine ⟨fun a w hat K hK=>?_,?_⟩
  ·have e2 : a.tmps[2]?.getD undef = .pointer (some ⟨W.heap.size,0,none⟩):=hat.b 2 (by kernel_rfl) rfl
   have hSt:=hat.st
   rw [if_pos (by rfl)]
   go_simp
   exact hK.out _ _ hSt (Below.refl _ _) rfl
  refine ⟨Go.Rg.step_mv rfl (.inl rfl) (fun _=>Below.refl _ _) (fun a w hat=>hat.b 1 (by kernel_rfl) rfl),?_⟩
  refine ⟨fun a w hat K hK=>?_,?_⟩
  ·have e7 : a.tmps[7]?.getD undef = FV F b cap:=hat.d 2 7 (by kernel_rfl) (by kernel_rfl)
   have e8 : a.tmps[8]?.getD undef = .slice aa la ca:=hat.d 3 8 (by kernel_rfl) (by kernel_rfl)
   have hSt:=hat.st
   rw [if_pos (by rfl)]
   go_simp
   go_at_call 43
   with_reducible refine (HOA.out _ hSt.2.1.out).mono ?_
   rintro z' v' ⟨rfl,hb⟩
   exact hK.out _ _ (SF.keep hSt hb hSt.2.2.out) hb rfl
  refine ⟨fun a w hat K hK=>?_,?_⟩
  ·have e9 : a.tmps[9]?.getD undef = PF F b cap aa TA.length ca:=hat.d 4 9 (by kernel_rfl) (by kernel_rfl)
   have hSt:=hat.st
   rw [if_pos (by rfl)]
   go_simp
   exact hK.out _ _ hSt (Below.refl _ _) rfl
  refine ⟨fun a w hat K hK=>?_,?_⟩
  ·have e6 : a.tmps[6]?.getD undef = .int .i64 (F.q : Nat):=hat.d 1 6 (by kernel_rfl) (by kernel_rfl)
   have e10 : a.tmps[10]?.getD undef = .func (.func 58) #[PF F b cap aa TA.length ca] #[]:=hat.d 5 10 (by kernel_rfl) (by kernel_rfl)
   have hSt:=hat.st
   rw [if_pos (by rfl)]
   go_simp
   go_at_call 59
   with_reducible refine (HZR.out _ hSt.2.1.out).mono ?_
   rintro z' v' ⟨a',c',rfl,hn',hb⟩
   exact hK.out _ _ (SF.keep hSt hb hSt.2.2.out) hb ⟨a',c',rfl,hn'⟩
  refine ⟨Go.Rg.step_mv rfl (.inr rfl) (fun _=>Below.refl _ _) (fun a w hat=>hat.d 6 11 (by kernel_rfl) (by kernel_rfl)),?_⟩
  exact trivial
 case fin =>
  intro a w hsz hdf hbase hSt hval
  obtain ⟨t,df⟩:=a
  have et:=Go.Rg.tmps_of hsz [5,6,7,8,9,10,11,4] (fun k hk=>hbase k (Go.Rg.base_of (by kernel_rfl) hk))
  have x5 : t.getD 5 undef = FV F b cap:=hval 0 5 (by kernel_rfl)
  have x6 : t.getD 6 undef = .int .i64 (F.q : Nat):=hval 1 6 (by kernel_rfl)
  have x7 : t.getD 7 undef = FV F b cap:=hval 2 7 (by kernel_rfl)
  have x8 : t.getD 8 undef = .slice aa la ca:=hval 3 8 (by kernel_rfl)
  have x9 : t.getD 9 undef = PF F b cap aa TA.length ca:=hval 4 9 (by kernel_rfl)
  have x10 : t.getD 10 undef = .func (.func 58) #[PF F b cap aa TA.length ca] #[]:=hval 5 10 (by kernel_rfl)
  obtain ⟨p11,q11,x11,m11⟩:=(show (Kd.sl (L)).ok F b cap (t.getD 11 undef) w from hval 6 11 (by kernel_rfl))
  obtain ⟨p4,q4,x4,m4⟩:=(show (Kd.sl (L)).ok F b cap (t.getD 4 undef) w from hval 7 4 (by kernel_rfl))
  clear hval hbase hsz
  simp only [List.foldl_cons,List.foldl_nil,x5,x6,x7,x8,x9,x10,x11,x4] at et
  rw [et]
  have hdf' : df = _:=hdf
  rw [hdf']
  simp only [List.setIfInBounds_toArray,List.set_cons_zero,List.set_cons_succ]
  have HBF:=hSt.2.1
  clear hSt hS0
  go_wp2
  go_ret
  exact ⟨_,_,rfl,m4,HBF.out⟩
theorem ok2 : Ok f2':=ok_mem f2_mem
theorem ok5 : Ok f5':=ok_mem f5_mem
theorem po_dec {F : Gf} {l : List Nat} (h : (l.all fun x=>decide (x < F.q)) = true) (hc : l.getLast? ≠ some 0) : Po F l:=⟨fun x hx=>of_decide_eq_true (List.all_eq_true.1 h x hx),hc⟩
theorem ex_div : dq f2' [1,0,0,1] [1,1] = [1,1,1] ∧ dr f2' [1,0,0,1] [1,1] = []:=by
 have h:=DM.of ok2 (a:=[1,1,1]) (b:=[1,1]) (R:=[]) (po_dec (by decide +kernel) (by decide)) (po_dec (by decide +kernel) (by decide)) Po.nil (by decide)
 have e : addP f2' (mulP f2' [1,1,1] [1,1]) [] = [1,0,0,1]:=by decide +kernel
 rw [e] at h
 obtain ⟨h1,h2⟩:=dqr_of ok2 (po_dec (by decide +kernel) (by decide)) h
 exact ⟨h1.symm,h2.symm⟩
theorem ex_gcd : IsGcd f5' [1,0,1] [2,4] [3,1]:=by
 have p1 : Po f5' [3,1]:=po_dec (by decide +kernel) (by decide)
 refine ⟨p1,.inr rfl,fun d hd=>⟨fun h=>⟨?_,?_⟩,fun h=>?_⟩⟩
 ·have e : ([1,0,1] : List Nat) = mulP f5' [2,1] [3,1]:=by decide +kernel
  rw [e]; exact dv_mul ok5 hd (po_dec (by decide +kernel) (by decide)) h
 ·have e : ([2,4] : List Nat) = mulP f5' [4] [3,1]:=by decide +kernel
  rw [e]; exact dv_mul ok5 hd (po_dec (by decide +kernel) (by decide)) h
 ·have e : ([3,1] : List Nat) = mulP f5' [4] [2,4]:=by decide +kernel
  rw [e]; exact dv_mul ok5 hd (po_dec (by decide +kernel) (by decide)) h.2
theorem ex_roots : rootsTo f5' [1,0,1] f5'.q = [2,3]:=by decide +kernel
theorem ex_int {P : List Nat} (hP : Po f5' P) (hl : P.length ≤ 3) (h : ∀ k,k < 3 → ev f5' (([0,1,2] : List Nat).getD k 0) P = ([1,2,0] : List Nat).getD k 0) : P = [1,0,1]:=by
 refine val_uniq ok5 (X:=[0,1,2]) hP (po_dec (by decide +kernel) (by decide)) (by decide) (fun x hx=>by simp at hx; rcases hx with rfl | rfl | rfl <;> decide +kernel) hl (by decide) (fun x hx=>?_)
 simp at hx
 rcases hx with rfl | rfl | rfl
 ·exact (h 0 (by omega)).trans (by decide +kernel)
 ·exact (h 1 (by omega)).trans (by decide +kernel)
 ·exact (h 2 (by omega)).trans (by decide +kernel)
set_option maxHeartbeats 3200000 in
theorem values_ok {F : Gf} {b cap : Nat} {X Y : List Nat} {vx vy : Value} {n : Nat} {W : World} (h : ∀ w,Below W.heap.size W w → Calls Try.prog 19 #[FV F b cap,vx,vy] w (InPost F X Y n w)) :
  Calls Try.prog 36 #[FV F b cap,vx,vy] W fun e w'=>∃ P a c,e = .returned (.tuple #[.slice a P.length c,.bool true]) ∧ NN P w' (.slice a P.length c) ∧ Po F P ∧ P.length ≤ n ∧ (∀ k,k < n → ev F (X.getD k 0) P = Y.getD k 0) ∧ Below W.heap.size W w':=by
 have HH:=Lib.hid h
 have HB0 : Hid (Below W.heap.size W (W.alloc (.cells #[.int .i64 F.p,.int .i64 F.e,FM F b cap] 28))):=Lib.hid ((Below.refl _ _).alloc (Nat.le_refl _) _)
 clear h
 go_enter Try.func36,Try.ntmps36
 go_wp2_with fail
 with_reducible refine (HH.out _ HB0.out).mono ?_
 rintro z w1 ⟨P,a,c,rfl,hn,hp,hl,hv,hb⟩
 have HN:=Lib.hid hn
 have HP:=Lib.hid hp
 have HL:=Lib.hid hl
 have HV:=Lib.hid hv
 have HB1:=Lib.hid (HB0.out.trans (hb.mono HB0.out.size))
 clear hn hp hl hv hb
 go_wp2
 exact bodyPost_ret (v:=.tuple #[.slice a P.length c,.bool true]) (by simp [results,Try.results36,go_sem]) rfl ⟨P,a,c,rfl,HN.out,HP.out,HL.out,HV.out,HB1.out⟩
end Go.Proofs.Ytllecfhfhcmpaaa
