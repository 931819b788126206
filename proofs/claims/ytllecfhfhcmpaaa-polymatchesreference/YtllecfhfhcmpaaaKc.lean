/- Slices that read as lists of numbers; trimmed, over, isZero. -/
import Derived.Test.YtllecfhfhcmpaaaEvTk
import Derived.Test.YtllecfhfhcmpaaaProg
import Derived.Test.YtllecfhfhcmpaaaEvYq
import Derived.WalkKit
import Derived.Deep.QuietTactic
import Derived.BigQuiet
import Derived.Lib.Hide
import Derived.OwnWalk
import Derived.IntWalk
import Derived.Deep.RegionHeld3
import Derived.Deep.DeepCutAuto
import Derived.Laws.CopyOwn
namespace Go.Proofs.Ytllecfhfhcmpaaa
open Go.RowKit Go.Fl
set_option maxRecDepth 100000
set_option linter.unusedVariables false
abbrev N64 (n : Nat) : Value:=.int .i64 (n : Int)
def NN (L : List Nat) (w : World) (v : Value) : Prop:=(L = [] ∧ v = .slice none 0 0) ∨ ∃ b off cap,v = .slice (some ⟨b,off,none⟩) L.length cap ∧ L.length ≤ cap ∧ b < w.heap.size ∧ ∀ t,t < L.length → w.cell? ⟨b,off + t,none⟩ = some (.int .i64 (L.getD t 0 : Nat))
theorem NN.below {L : List Nat} {w w' : World} {v : Value} (h : NN L w v) (hb : Below w.heap.size w w') : NN L w' v:=by
 rcases h with h | ⟨b,off,cap,h4,h2,h5,h6⟩
 ·exact .inl h
 ·exact .inr ⟨b,off,cap,h4,h2,Nat.lt_of_lt_of_le h5 hb.size,fun t ht=>(hb.cell h5).trans (h6 t ht)⟩
theorem NN.shape {L : List Nat} {w : World} {v : Value} (h : NN L w v) : ∃ a c,v = .slice a L.length c:=by
 rcases h with ⟨rfl,rfl⟩ | ⟨b,off,cap,rfl,_⟩
 ·exact ⟨none,0,rfl⟩
 ·exact ⟨_,_,rfl⟩
theorem NN.take {L : List Nat} {w : World} {b off cap : Nat} (h : NN L w (.slice (some ⟨b,off,none⟩) L.length cap)) {k : Nat} (hk : k ≤ L.length) : NN (L.take k) w (.slice (some ⟨b,off,none⟩) k cap):=by
 rcases h with ⟨_,h⟩ | ⟨b',off',cap',h,h1,h2,h3⟩
 ·cases h
 ·cases h
  have e : (L.take k).length = k:=by rw [List.length_take]; omega
  refine .inr ⟨b,off,cap,by rw [e],by omega,h2,fun t ht=>?_⟩
  rw [e] at ht
  rw [h3 t (by omega)]
  simp [List.getD,List.getElem?_take_of_lt ht]
theorem NN.of_owns {L : List Nat} {w : World} {v : Value} {base : Nat} (h : w.ownsRow base 3 1 v L.length (L.map N64)) : NN L w v:=by
 obtain ⟨h1,h2⟩:=h
 rcases h2 with ⟨rfl,h2⟩ | ⟨g,cap,cur,rfl,h3,h4,h5,h6,h7,h8⟩
 ·exact .inl ⟨List.length_eq_zero_iff.1 h2,rfl⟩
 ·refine .inr ⟨g,0,cap,rfl,h5,?_,fun t ht=>?_⟩
  ·rcases Nat.lt_or_ge g w.heap.size with h | h
   ·exact h
   ·rw [Array.getElem?_eq_none h] at h4; cases h4
  ·have e : (L.map N64)[t]? = some (.int .i64 (L.getD t 0 : Nat)):=by rw [List.getElem?_map,List.getElem?_eq_getElem ht]; simp [List.getD,ht]
   rw [← h8] at e
   rw [Nat.mul_one,List.getElem?_take_of_lt ht] at e
   rw [Array.getElem?_toList] at e
   simp only [World.cell?,h4]
   simpa using e
theorem take_trL {L : List Nat} {k : Nat} (hk : k ≤ L.length) (hv : fn (L.take k) = fn L) (hc : k = 0 ∨ 0 < k ∧ L.getD (k - 1) 0 ≠ 0) : L.take k = trL L:=by
 refine cn_inj ?_ (cn_trL L) (by rw [hv,fn_trL])
 unfold Cn
 rcases hc with rfl | ⟨h0,hc⟩
 ·simp
 ·rw [List.getLast?_eq_getElem?,List.length_take,Nat.min_eq_left hk]
  rw [List.getElem?_take_of_lt (by omega)]
  intro e
  apply hc
  rw [List.getD_eq_getElem?_getD,e]; rfl
theorem take_zero {L : List Nat} {k : Nat} (hk : k + 1 ≤ L.length) (h0 : L.getD k 0 = 0) (hv : fn (L.take (k + 1)) = fn L) : fn (L.take k) = fn L:=by
 rw [← hv]
 funext i
 show (L.take k).getD i 0 = (L.take (k + 1)).getD i 0
 simp only [List.getD_eq_getElem?_getD] at h0 ⊢
 by_cases h : i < k
 ·rw [List.getElem?_take_of_lt h,List.getElem?_take_of_lt (by omega)]
 ·rw [List.getElem?_eq_none (by rw [List.length_take]; omega)]
  by_cases e : i = k
  ·subst e; rw [List.getElem?_take_of_lt (by omega),h0]; rfl
  ·rw [List.getElem?_eq_none (by rw [List.length_take]; omega)]
theorem trL_take (L : List Nat) : L.take (trL L).length = trL L:=by
 induction L with
 | nil=>rfl
 | cons x L ih =>
  unfold trL
  split
  ·rfl
  ·rw [List.length_cons,List.take_succ_cons,ih]
theorem NN.tr {L : List Nat} {w : World} {a : Option Addr} {c : Nat} (h : NN L w (.slice a L.length c)) : NN (trL L) w (.slice a (trL L).length c):=by
 rcases h with ⟨rfl,h⟩ | ⟨b,off,cap,h,h1,h2,h3⟩
 ·exact .inl ⟨rfl,h⟩
 ·cases h
  have hl:=trL_len L
  have e : trL L = L.take (trL L).length:=(trL_take L).symm
  have:=NN.take (L:=L) (w:=w) (b:=b) (off:=off) (cap:=c) (.inr ⟨b,off,c,rfl,h1,h2,h3⟩) hl
  rwa [← e] at this
set_option maxHeartbeats 1600000 in
theorem trimmed_none (W : World) : Calls Try.prog 42 #[.slice none 0 0] W fun e w'=>e = .returned (.slice none 0 0) ∧ w' = W:=by
 go_enter Try.func42,Try.ntmps42
 go_wp2
 go_loopw [3] (fun i wr=>i = .int .i64 0 ∧ wr = W) (fun i _=>0)
 case atStart=>exact ⟨rfl,rfl⟩
 case round =>
  obtain ⟨rfl,rfl⟩:=hrel
  go_wp2
  go_ret
  exact ⟨rfl,rfl⟩
theorem ret_sl {a : Option Addr} {n m c : Nat} (h : n = m) : Ending.returned (.slice a n c) = .returned (.slice a m c):=by rw [h]
set_option maxHeartbeats 1600000 in
theorem trimmed_some {L : List Nat} (b off cap : Nat) (W : World) (hl : L.length ≤ 1000000) (hcap : L.length ≤ cap) (hbb : b < W.heap.size) (hc : ∀ t,t < L.length → W.cell? ⟨b,off + t,none⟩ = some (.int .i64 (L.getD t 0 : Nat))) :
  Calls Try.prog 42 #[.slice (some ⟨b,off,none⟩) L.length cap] W fun e w'=>e = .returned (.slice (some ⟨b,off,none⟩) (trL L).length cap) ∧ w' = W:=by
 have HC:=Lib.hid hc
 clear hc
 go_enter Try.func42,Try.ntmps42
 go_wp2
 go_loopw [3] (fun i wr=>∃ k : Nat,k ≤ L.length ∧ i = .int .i64 k ∧ Hid (fn (L.take k) = fn L) ∧ wr = W) (fun i _=>(intOf i).toNat)
 case atStart=>exact ⟨L.length,Nat.le_refl _,rfl,by rw [List.take_length]; rfl,rfl⟩
 case round =>
  obtain ⟨k,hk,rfl,HV,rfl⟩:=hrel
  rcases k with _ | k
  ·have HT:=Lib.hid (congrArg List.length (take_trL hk HV.out (.inl rfl)))
   go_wp2
   go_ret
   exact ⟨ret_sl (by rw [← HT.out]; simp),rfl⟩
  ·have hc:=HC.out k (by omega)
   have h3 : (((k + 1 : Nat) : Int) - 1) = (k : Int):=by omega
   by_cases h0 : L.getD k 0 = 0
   ·have HV2:=Lib.hid (take_zero hk h0 HV.out)
    rw [h0] at hc
    clear h0
    go_wp2
    go_roundw
    case rel=>exact ⟨k,by omega,rfl,HV2,trivial⟩
    case measure=>simp [intOf]
   ·have HT:=Lib.hid (congrArg List.length (take_trL hk HV.out (.inr ⟨by omega,h0⟩)))
    generalize L.getD k 0 = x at *
    have hn : ((x : Int) == 0) = false:=by simpa using h0
    have hk0 : decide ((0 : Int) < ((k + 1 : Nat) : Int)) = true:=by simp
    go_wp2
    go_ret
    exact ⟨ret_sl (by rw [← HT.out,List.length_take]; omega),rfl⟩
theorem trimmed_c {L : List Nat} {a : Option Addr} {c : Nat} {W : World} (hl : L.length ≤ 1000000) (h : NN L W (.slice a L.length c)) : Calls Try.prog 42 #[.slice a L.length c] W fun e w'=>e = .returned (.slice a (trL L).length c) ∧ w' = W:=by
 rcases h with ⟨rfl,h⟩ | ⟨b,off,cap,h,h1,h2,h3⟩
 ·cases h
  exact trimmed_none W
 ·cases h
  exact trimmed_some b off c W hl h1 h2 h3
abbrev PV (p q : Int) (m : Value) (a : Option Addr) (n c : Nat) : Value:=.agg #[.int .i64 p,.int .i64 q,m,.slice a n c]
abbrev FB (B : Nat) (p q : Int) (m : Value) (w : World) : Prop:=w.cell? ⟨B,0,none⟩ = some (.int .i64 p) ∧ w.cell? ⟨B,1,none⟩ = some (.int .i64 q) ∧ w.cell? ⟨B,2,none⟩ = some m
theorem FB.keep {B k : Nat} {p q : Int} {m : Value} {w w' : World} (h : FB B p q m w) (hb : Below k w w') (hk : B < k) : FB B p q m w':=
 ⟨(hb.cell hk).trans h.1,(hb.cell hk).trans h.2.1,(hb.cell hk).trans h.2.2⟩
abbrev SO (W : World) (p q : Int) (m : Value) (w : World) : Prop:=Below W.heap.size W w ∧ FB W.heap.size p q m w ∧ W.heap.size + 1 < w.heap.size
theorem SO.keep {W w w' : World} {p q : Int} {m : Value} {k : Nat} (h : SO W p q m w) (hb : Below k w w') (hk : W.heap.size < k) : SO W p q m w':=
 ⟨h.1.trans (hb.mono (by omega)),FB.keep h.2.1 hb hk,Nat.lt_of_lt_of_le h.2.2 hb.size⟩
set_option maxHeartbeats 3200000 in
theorem over_c {L : List Nat} {p q : Int} {ma : Option Addr} {ml mc : Nat} {a : Option Addr} {n c : Nat} {W : World} (hl : L.length ≤ 1000000) (hn : n = L.length) (h : NN L W (.slice a n c)) :
  Calls Try.prog 43 #[.agg #[.int .i64 p,.int .i64 q,.slice ma ml mc],.slice a n c] W fun e w'=>e = .returned (PV p q (.slice ma ml mc) a (trL L).length c) ∧ Below W.heap.size W w':=by
 have hb : Below W.heap.size W (((W.alloc (.cells #[.int .i64 p,.int .i64 q,.slice ma ml mc] 28)).alloc (.cells #[.int .i64 0,.int .i64 0,.slice none 0 0,.slice none 0 0] 61)).drew):=(((Below.refl _ _).alloc (Nat.le_refl _) _).alloc (by simp) _).drew
 have HT:=Lib.hid (trimmed_c hl (hn ▸ (h.below hb)))
 have HN:=Lib.hid hn
 rw [← hn] at HT
 have hS0 : SO W p q (.slice ma ml mc) (((W.alloc (.cells #[.int .i64 p,.int .i64 q,.slice ma ml mc] 28)).alloc (.cells #[.int .i64 0,.int .i64 0,.slice none 0 0,.slice none 0 0] 61)).drew):=⟨hb,by simp [FB],by simp⟩
 clear hb h hn
 generalize (trL L).length = t at *
 go_enter Try.func43,Try.ntmps43
 go_wp2
 refine wp_region_held_drew (S:=fun w'=>SO W p q (.slice ma ml mc) w') (by kernel_rfl) (by with_reducible exact hS0) (fun hHeld=>?_)
 refine Rg.tk 0 ⟨some 5,.load 28 (.tmp 2),28,"polynomial.go:17",#[],none⟩ ?_
 try simp only [Rg.gp]
 refine Rg.tk 1 ⟨some 6,.move (.tmp 1),25,"polynomial.go:17",#[],none⟩ ?_
 try simp only [Rg.gp]
 refine Rg.rd1 2 ⟨some 7,.call ⟨.value (.func 42),#[.tmp 6],#[25]⟩,25,"polynomial.go:17",#[⟨1,.data⟩],none⟩ fun K hK=>?_
 go_simp
 go_at_call 42
 with_reducible refine HT.out.mono ?_
 rintro z v' ⟨rfl,rfl⟩
 refine hK.out _ _ ?_ (fun hHeld=>?_)
 ·(try dsimp only)
  exact hHeld
 clear hK K
 try simp only [Rg.gp]
 refine Rg.tk 3 ⟨some 8,.build 61 #[(0,.tmp 5),(1,.tmp 7)],61,"polynomial.go:17",#[⟨0,.data⟩,⟨2,.data⟩],none⟩ ?_
 try simp only [Rg.gp]
 refine Rg.rd1 4 ⟨none,.store 61 (.tmp 4) (.tmp 8),0,"polynomial.go:17",#[⟨3,.data⟩,⟨2,.chain⟩,⟨0,.phase⟩,⟨1,.phase⟩,⟨2,.phase⟩,⟨3,.phase⟩],none⟩ fun K hK=>?_
 go_simp
 refine hK.out _ _ ?_ (fun hHeld=>?_)
 ·(try dsimp only)
  exact ⟨(((Below.refl _ _).alloc (Nat.le_refl _) _).alloc (by simp) _).drew,by simp [FB],by simp⟩
 clear hK K
 try simp only [Rg.gp]
 refine wpAnyH_done (by kernel_rfl) ?_ _
 have HBF:=Lib.hid hHeld.1
 clear hHeld hS0
 go_wp2
 exact bodyPost_ret (v:=PV p q (.slice ma ml mc) a t c) (by simp [results,Try.results43,go_sem]) rfl ⟨rfl,HBF.out⟩
set_option maxHeartbeats 800000 in
theorem isZero_c {p q : Int} {m : Value} {a : Option Addr} {n c : Nat} (hm : m.oneCell' = true) (W : World) : Calls Try.prog 44 #[PV p q m a n c] W fun e w'=>e = .returned (.bool (decide (n = 0))) ∧ Below W.heap.size W w':=by
 have e : ((n : Int) == 0) = decide (n = 0):=by rw [Bool.eq_iff_iff]; simp
 go_enter Try.func44,Try.ntmps44
 go_wp2
 go_ret
 exact ⟨rfl,(Below.refl _ _).alloc (Nat.le_refl _) _⟩
set_option linter.unusedSimpArgs false
set_option linter.unusedSectionVars false
def Row (R : List Nat) (g : Nat) (w : World) : Prop:=w.ownsRow 0 3 1 (.slice (some ⟨g,0,none⟩) R.length R.length) R.length (R.map N64)
theorem own_belowK {w w' : World} {base : Nat} {e : TypeId} {size : Nat} {v : Value} {n : Nat} {xs : List Value} (h : w.ownsRow base e size v n xs) (hb : Below w.heap.size w w') : w'.ownsRow base e size v n xs:=by
 obtain ⟨h1,h2⟩:=h
 refine ⟨h1,h2.imp_right ?_⟩
 rintro ⟨g,cap,cur,a1,a2,a3,a4⟩
 have hg : g < w.heap.size:=by
  rcases Nat.lt_or_ge g w.heap.size with h | h
  ·exact h
  ·rw [Array.getElem?_eq_none h] at a3; cases a3
 exact ⟨g,cap,cur,a1,a2,(hb.block g hg).trans a3,a4⟩
section
variable {R : List Nat} {g : Nat} {w : World}
theorem Row.lt (h : Row R g w) : g < w.heap.size:=(World.ownsRow.lt h g rfl).2
theorem Row.below (h : Row R g w) {w' : World} (hb : Below w.heap.size w w') : Row R g w':=own_belowK h hb
theorem Row.drew (h : Row R g w) : Row R g w.drew:=h
theorem Row.nn (h : Row R g w) : NN R w (.slice (some ⟨g,0,none⟩) R.length R.length):=NN.of_owns h
theorem Row.cell (h : Row R g w) {t : Nat} (ht : t < R.length) : w.cell? ⟨g,t,none⟩ = some (.int .i64 (R.getD t 0 : Nat)):=by
 rw [World.ownsRow.cellAt h t (by omega),List.getElem?_map,List.getElem?_eq_getElem ht]
 simp [List.getD,ht]
theorem Row.frozen (h : Row R g w) (t : Nat) : w.frozen? ⟨g,t,none⟩ = false:=World.ownsRow.frozenAt h t
theorem Row.set (h : Row R g w) (t x : Nat) : Row (R.set t x) g (w.setCell ⟨g,t,none⟩ (.int .i64 x)):=by
 unfold Row
 rw [List.length_set,List.map_set]
 exact (World.ownsRow.stored h t (.int .i64 x)).1
theorem Row.of_own {base n : Nat} (h : w.ownsRow base 3 1 (.slice (some ⟨g,0,none⟩) n n) n (R.map N64)) (hn : R.length = n) : Row R g w:=by
 subst hn
 refine ⟨h.1,?_⟩
 rcases h.2 with h | ⟨g',cap,cur,h1,h2,h3⟩
 ·exact .inl h
 ·exact .inr ⟨g',cap,cur,h1,Nat.zero_le _,h3⟩
theorem Row.heap (h : Row R g w) : w.heap[g]? = some (.cells (R.map N64).toArray 3 (0,0)):=by
 rcases h.2 with ⟨h,_⟩ | ⟨g',cap,cur,h1,h2,h3,h4,h5,h6,h7⟩
 ·cases h
 ·simp only [Value.slice.injEq,Option.some.injEq,Addr.mk.injEq] at h1
  obtain ⟨⟨rfl,_⟩,_,rfl⟩:=h1
  rw [h3,← h7]
  rw [List.take_of_length_le (by simp [h6])]
theorem Row.of_heap {base : Nat} (hm : R.length ≤ maxLen) (h : w.heap[g]? = some (.cells (R.map N64).toArray 3 (0,0))) : Row R g w:=
 ⟨by simp,.inr ⟨g,R.length,(R.map N64).toArray,rfl,Nat.zero_le _,h,Nat.le_refl _,hm,by simp,by rw [List.take_of_length_le (by simp)]⟩⟩
end
theorem fn_set {R : List Nat} {k x : Nat} (hk : k < R.length) : fn (R.set k x) = fun i=>if i = k then x else fn R i:=by
 funext i
 show (R.set k x).getD i 0 = _
 simp only [List.getD_eq_getElem?_getD]
 by_cases h : i = k
 ·subst h; rw [if_pos rfl]; simp [hk]
 ·rw [if_neg h,List.getElem?_set_ne (by omega)]; simp [fn]
theorem in_set {F : Gf} {R : List Nat} {k x : Nat} (h : In F R) (hx : x < F.q) : In F (R.set k x):=fun y hy=>by
 rcases List.mem_or_eq_of_mem_set hy with hy | rfl
 ·exact h y hy
 ·exact hx
abbrev FV (F : Gf) (b cap : Nat) : Value:=.agg #[.int .i64 F.p,.int .i64 F.e,.slice (some ⟨b,0,none⟩) F.e cap]
abbrev FM (F : Gf) (b cap : Nat) : Value:=.slice (some ⟨b,0,none⟩) F.e cap
abbrev PF (F : Gf) (b cap : Nat) (a : Option Addr) (n c : Nat) : Value:=PV F.p F.e (FM F b cap) a n c
structure Ops (F : Gf) (b cap : Nat) (W : World) : Prop where
 ok : Ok F
 add : ∀ w,Below W.heap.size W w → ∀ x y,x < F.q → y < F.q → Calls Try.prog 73 #[FV F b cap,.int .i64 (x : Nat),.int .i64 (y : Nat)] w fun e w'=>e = .returned (.int .i64 (F.add x y : Nat)) ∧ Below w.heap.size w w'
 sub : ∀ w,Below W.heap.size W w → ∀ x y,x < F.q → y < F.q → Calls Try.prog 69 #[FV F b cap,.int .i64 (x : Nat),.int .i64 (y : Nat)] w fun e w'=>e = .returned (.int .i64 (F.sub x y : Nat)) ∧ Below w.heap.size w w'
 mul : ∀ w,Below W.heap.size W w → ∀ x y,x < F.q → y < F.q → Calls Try.prog 68 #[FV F b cap,.int .i64 (x : Nat),.int .i64 (y : Nat)] w fun e w'=>e = .returned (.int .i64 (F.mul x y : Nat)) ∧ Below w.heap.size w w'
 neg : ∀ w,Below W.heap.size W w → ∀ x,x < F.q → Calls Try.prog 72 #[FV F b cap,.int .i64 (x : Nat)] w fun e w'=>e = .returned (.int .i64 (F.neg x : Nat)) ∧ Below w.heap.size w w'
 inv : ∀ w,Below W.heap.size W w → ∀ x,x < F.q → x ≠ 0 → Calls Try.prog 71 #[FV F b cap,.int .i64 (x : Nat)] w fun e w'=>e = .returned (.tuple #[.int .i64 (F.inv x : Nat),.int .i64 0]) ∧ Below w.heap.size w w'
theorem Ops.below {F : Gf} {b cap : Nat} {W w : World} (h : Ops F b cap W) (hb : Below W.heap.size W w) : Ops F b cap w:=
 ⟨h.ok,fun v hv=>h.add v (hb.trans (hv.mono hb.size)),fun v hv=>h.sub v (hb.trans (hv.mono hb.size)),fun v hv=>h.mul v (hb.trans (hv.mono hb.size)),fun v hv=>h.neg v (hb.trans (hv.mono hb.size)),fun v hv=>h.inv v (hb.trans (hv.mono hb.size))⟩
def Fr (w : World) (a : Option Addr) : Prop:=∀ h o,a = some ⟨h,o,none⟩ → w.heap.size ≤ h
def PPost (F : Gf) (b cap : Nat) (L : List Nat) (w : World) (e : Ending) (w' : World) : Prop:=∃ a c,e = .returned (PF F b cap a L.length c) ∧ NN L w' (.slice a L.length c) ∧ Below w.heap.size w w' ∧ Fr w a
abbrev PB (B : Nat) (p q : Int) (m v : Value) (w : World) : Prop:=w.cell? ⟨B,0,none⟩ = some (.int .i64 p) ∧ w.cell? ⟨B,1,none⟩ = some (.int .i64 q) ∧ w.cell? ⟨B,2,none⟩ = some m ∧ w.cell? ⟨B,3,none⟩ = some v
theorem PB.keep {B k : Nat} {p q : Int} {m v : Value} {w w' : World} (h : PB B p q m v w) (hb : Below k w w') (hk : B < k) : PB B p q m v w':=
 ⟨(hb.cell hk).trans h.1,(hb.cell hk).trans h.2.1,(hb.cell hk).trans h.2.2.1,(hb.cell hk).trans h.2.2.2⟩
theorem pb_at (w : World) (p q : Int) (m v : Value) : PB w.heap.size p q m v (w.alloc (.cells #[.int .i64 p,.int .i64 q,m,v] 61)):=
 ⟨World.cell?_alloc_at _ _ _ _ rfl,World.cell?_alloc_at _ _ _ _ rfl,World.cell?_alloc_at _ _ _ _ rfl,World.cell?_alloc_at _ _ _ _ rfl⟩
abbrev w3 (W : World) (p q : Int) (m u v : Value) : World:=((W.alloc (.cells #[.int .i64 p,.int .i64 q,m,u] 61)).alloc (.cells #[.int .i64 p,.int .i64 q,m,v] 61)).alloc (.cells #[.int .i64 0,.int .i64 0,.slice none 0 0,.slice none 0 0] 61)
structure P3 (W : World) (p q : Int) (m u v : Value) (w : World) : Prop where
 b0 : PB W.heap.size p q m u w
 b1 : PB (W.heap.size + 1) p q m v w
 b2 : PB (W.heap.size + 1 + 1) 0 0 (.slice none 0 0) (.slice none 0 0) w
 fz : ∀ j,w.frozen? ⟨W.heap.size + 1 + 1,j,none⟩ = false
 sz : W.heap.size + 3 ≤ w.heap.size
 bl : Below W.heap.size W w
theorem P3.keep {W w w' : World} {p q : Int} {m u v : Value} (h : P3 W p q m u v w) (hb : Below (W.heap.size + 3) w w') : P3 W p q m u v w':=
 ⟨h.b0.keep hb (by omega),h.b1.keep hb (by omega),h.b2.keep hb (by omega),fun j=>(hb.frozen (by show W.heap.size + 2 < _; omega)).trans (h.fz j),Nat.le_trans h.sz hb.size,h.bl.trans (hb.mono (by omega))⟩
theorem P3.of (W : World) (p q : Int) (m u v : Value) : P3 W p q m u v (w3 W p q m u v):=by
 have a0:=pb_at W p q m u
 have a1:=pb_at (W.alloc (.cells #[.int .i64 p,.int .i64 q,m,u] 61)) p q m v
 have a2:=pb_at ((W.alloc (.cells #[.int .i64 p,.int .i64 q,m,u] 61)).alloc (.cells #[.int .i64 p,.int .i64 q,m,v] 61)) 0 0 (.slice none 0 0) (.slice none 0 0)
 have e1 : (W.alloc (.cells #[.int .i64 p,.int .i64 q,m,u] 61)).heap.size = W.heap.size + 1:=by simp
 have e2 : ((W.alloc (.cells #[.int .i64 p,.int .i64 q,m,u] 61)).alloc (.cells #[.int .i64 p,.int .i64 q,m,v] 61)).heap.size = W.heap.size + 2:=by simp
 rw [e1] at a1
 rw [e2] at a2
 have k1 : Below (W.heap.size + 1) (W.alloc (.cells #[.int .i64 p,.int .i64 q,m,u] 61)) (w3 W p q m u v):=((Below.refl _ _).alloc (by simp) _).alloc (by simp) _
 have k2 : Below (W.heap.size + 2) ((W.alloc (.cells #[.int .i64 p,.int .i64 q,m,u] 61)).alloc (.cells #[.int .i64 p,.int .i64 q,m,v] 61)) (w3 W p q m u v):=(Below.refl _ _).alloc (by simp) _
 exact ⟨a0.keep k1 (by omega),a1.keep k2 (by omega),a2,fun j=>World.frozen?_alloc_at _ _ _ _ (by simp),by simp,(((Below.refl _ _).alloc (Nat.le_refl _) _).alloc (by simp) _).alloc (by simp; omega) _⟩
theorem NN.setc {L : List Nat} {w : World} {g B j n c : Nat} {x : Value} (h : NN L w (.slice (some ⟨g,0,none⟩) n c)) (hg : g ≠ B) : NN L (w.setCell ⟨B,j,none⟩ x) (.slice (some ⟨g,0,none⟩) n c):=by
 rcases h with ⟨_,h⟩ | ⟨b,off,cap,h,h1,h2,h3⟩
 ·cases h
 ·cases h
  refine .inr ⟨g,0,c,rfl,h1,by simpa using h2,fun t ht=>?_⟩
  rw [World.cell?_of_block (w:=w) (by rw [Below.heap_setCell _ _ _ _ (by exact hg)])]
  exact h3 t ht
abbrev SP (W wr : World) (p q : Int) (m u v : Value) (w : World) : Prop:=PB W.heap.size p q m u w ∧ Hid (P3 W p q m u v w) ∧ Hid (Below (W.heap.size + 3) wr w)
theorem SP.keep {W wr w w' : World} {p q : Int} {m u v : Value} {k : Nat} (h : SP W wr p q m u v w) (hb : Below k w w') (hk : W.heap.size + 3 ≤ k) : SP W wr p q m u v w':=
 ⟨PB.keep h.1 hb (by omega),Lib.hid (h.2.1.out.keep (hb.mono hk)),Lib.hid (h.2.2.out.trans (hb.mono hk))⟩
theorem num_cellsK {L : List Nat} {w : World} {b off : Nat} (hc : ∀ t,t < L.length → w.cell? ⟨b,off + t,none⟩ = some (.int .i64 (L.getD t 0 : Nat))) : ∀ (j : Nat) (u : Value),(L.map N64)[j]? = some u → w.cell? ((⟨b,off,none⟩ : Addr).add j) = some u:=by
 intro j u hj
 rw [List.getElem?_map,Option.map_eq_some_iff] at hj
 obtain ⟨x,hx,rfl⟩:=hj
 have hl : j < L.length:=by
  rcases Nat.lt_or_ge j L.length with h | h
  ·exact h
  ·rw [List.getElem?_eq_none h] at hx; cases hx
 have:=hc j hl
 rw [List.getD_eq_getElem?_getD,hx] at this
 simp only [Option.getD_some] at this
 unfold Addr.add
 split
 ·rename_i h0; have h0 : j = 0:=by simpa using h0
  subst h0; simpa using this
 ·exact this
theorem info3 : (Try.prog.info? 3).map (fun i=>(i.zero,i.size,i.bytes)) = some (some (.int .i64 0),1,8):=by kernel_rfl
theorem size3 : (Try.prog.info? 3).map (·.size) = some 1:=by kernel_rfl
theorem plus_start {F : Gf} (hF : Ok F) {A : List Nat} (hA : In F A) (n : Nat) : fn (A ++ List.replicate n 0) = pa F (fn A) (fn ([] : List Nat)):=by
 rw [fn_nil,pa_zero hF (hA.el hF)]
 funext i
 show (A ++ List.replicate n 0).getD i 0 = A.getD i 0
 simp only [List.getD_eq_getElem?_getD]
 by_cases h : i < A.length
 ·rw [List.getElem?_append_left h]
 ·rw [List.getElem?_append_right (by omega),List.getElem?_eq_none (l:=A) (by omega)]
  by_cases h2 : i - A.length < n
  ·simp [h2]
  ·rw [List.getElem?_eq_none (by simp; omega)]
theorem plus_step {F : Gf} (hF : Ok F) {A B R : List Nat} {k : Nat} (hk : k < B.length) (hR : k < R.length) (h : fn R = pa F (fn A) (fn (B.take k))) (hB : In F B) (hA : In F A) :
  fn (R.set k (F.add (R.getD k 0) (B.getD k 0))) = pa F (fn A) (fn (B.take (k + 1))):=by
 rw [fn_set hR]
 funext i
 have hi:=congrFun h i
 have e : ∀ j m,fn (B.take m) j = if j < m then fn B j else 0:=fun j m=>by
  show (B.take m).getD j 0 = _
  simp only [List.getD_eq_getElem?_getD]
  by_cases hj : j < m
  ·rw [if_pos hj,List.getElem?_take_of_lt hj]; simp [fn]
  ·rw [if_neg hj,List.getElem?_eq_none (by rw [List.length_take]; omega)]; rfl
 show (if i = k then _ else fn R i) = F.add (fn A i) (fn (B.take (k + 1)) i)
 have hi' : fn R i = F.add (fn A i) (fn (B.take k) i):=hi
 rw [e] at hi' ⊢
 by_cases h1 : i = k
 ·subst h1
  rw [if_pos rfl,if_pos (by omega)]
  rw [if_neg (by omega),hF.add_zero (hA.el hF i)] at hi'
  show F.add (fn R i) (fn B i) = _
  rw [hi']
 ·rw [if_neg h1,hi']
  by_cases h2 : i < k
  ·rw [if_pos h2,if_pos (by omega)]
  ·rw [if_neg h2,if_neg (by omega)]
set_option maxHeartbeats 6400000 in
theorem plus_lt {F : Gf} {b cap : Nat} {A B : List Nat} {aa ab : Option Addr} {la lb ca cb : Nat} {W : World} (hO : Ops F b cap W) (hA : In F A) (hB : In F B) (ha : A.length ≤ 1000) (hb : B.length ≤ 1000) (ea : la = A.length) (eb : lb = B.length)
  (na : NN A W (.slice aa la ca)) (nb : NN B W (.slice ab lb cb)) (hcmp : la < lb) : Calls Try.prog 53 #[PF F b cap aa la ca,PF F b cap ab lb cb] W (PPost F b cap (addP F A B) W):=by
 have hF:=hO.ok
 have hla : la ≤ 1000:=by omega
 have hlb : lb ≤ 1000:=by omega
 have hcmp2 : (la : Int) < (lb : Int):=by omega
 have EA:=Lib.hid ea
 have EB:=Lib.hid eb
 have HA:=Lib.hid hA
 have HB:=Lib.hid hB
 have NA:=Lib.hid na
 have NB:=Lib.hid nb
 have HO:=Lib.hid hO
 have HFF:=Lib.hid hF
 clear hA hB na nb ea eb ha hb hO hF
 obtain ⟨i0,hi,hz0,hz1,hz2⟩:=info_parts info3
 have HP0:=Lib.hid (P3.of W F.p F.e (FM F b cap) (.slice aa la ca) (.slice ab lb cb))
 go_enter Try.func53,Try.ntmps53
 go_wp2_with (refine wpList_make_full _ rfl _ _ 25 rfl (W.heap.size + 3) 3 i0 (.int .i64 0) 1 Try.underlying25 hi hz0 hz1 .i64 .i64 (lb : Int) (lb : Int) lb rfl rfl rfl rfl (by rw [hz2]; omega) (by unfold maxLen; omega) (by simp) ?_)
 intro w1 hown hgrow
 have hgs : (w3 W F.p F.e (FM F b cap) (.slice aa la ca) (.slice ab lb cb)).heap.size = W.heap.size + 3:=by simp
 have hb1 : Below (W.heap.size + 3) (w3 W F.p F.e (FM F b cap) (.slice aa la ca) (.slice ab lb cb)) w1:=(Below.refl _ _).grown hgrow (by simp) (fun k hk=>by cases hk)
 have HP1:=Lib.hid (HP0.out.keep hb1)
 have HROW : Hid (Row (List.replicate lb 0) (W.heap.size + 3) w1):=Lib.hid (Row.of_own (n:=lb) (base:=W.heap.size + 3) (by
  have e:=toList_madeCells_one (Value.int .i64 0) lb
  rw [List.map_replicate,show N64 0 = Value.int .i64 0 from rfl,← e]
  simpa using hown) (by simp))
 clear hown hgrow hb1 HP0 hgs
 obtain ⟨⟨x0,x1,x2,x3⟩,⟨y0,y1,y2,y3⟩,⟨r0,r1,r2,r3⟩,rf,hsz,hbl⟩:=HP1.out
 clear r0 r1 r2 r3 rf hsz hbl
 go_wp2_with (refine wpList_copy_splice rfl (.tmp 16) (.tmp 18) 25 25 rfl 3 Try.underlying25 size3 (some ⟨W.heap.size + 1 + 1 + 1,0,none⟩) aa lb lb la ca rfl rfl (W.heap.size + 1 + 1 + 1) 0 ((List.replicate lb 0).map N64) 3 HROW.out.heap (A.map N64) ?c1 ?c2 ?c3 ?c4 (W.heap.size + 3) w1 (Below.refl _ _) (Nat.le_refl _) ?_)
 case c1 =>
  have:=EA.out
  rw [List.length_map]
  show _ = min la lb
  omega
 case c2 =>
  intro hp
  rcases NA.out.below HP1.out.bl with ⟨e,h⟩ | ⟨b',off',cap',h,g1,g2,g3⟩
  ·rw [e] at hp; simp at hp
  ·cases h
   exact ⟨_,rfl,fun j a h=>num_cellsK g3 j _ (by rw [List.getElem?_map,h]; rfl)⟩
 case c3 =>
  have:=EA.out
  simp
  omega
 case c4 =>
  intro v hv
  obtain ⟨x,_,rfl⟩:=List.mem_map.1 hv
  rfl
 intro w2 hg2 hb2
 have HROW2 : Hid (Row (A ++ List.replicate (lb - la) 0) (W.heap.size + 3) w2):=Lib.hid (by
  have:=EA.out
  refine Row.of_heap (base:=0) (by simp; unfold maxLen; omega) ?_
  have e : (A ++ List.replicate (lb - la) 0).map N64 = splice ((List.replicate lb 0).map N64) 0 (A.map N64):=by
   simp [splice,← this]
  rw [e]
  have h2:=hg2.out
  rw [show (List.map N64 (List.replicate lb 0)) = List.replicate lb (N64 0) from List.map_replicate]
  exact h2)
 have HP2:=Lib.hid (HP1.out.keep hb2)
 clear hg2 hb2 HROW HP1 x0 x1 x2 x3 y0 y1 y2 y3
 obtain ⟨⟨x0,x1,x2,x3⟩,⟨y0,y1,y2,y3⟩,⟨r0,r1,r2,r3⟩,rf,hsz,hbl⟩:=HP2.out
 clear r0 r1 r2 r3 rf hsz hbl
 go_wp2
 go_loopw [23] (fun i wr=>∃ (k : Nat) (R : List Nat),k ≤ lb ∧ i = .int .i64 k ∧ Hid (R.length = lb ∧ In F R ∧ fn R = pa F (fn A) (fn (B.take k))) ∧ Hid (Row R (W.heap.size + 3) wr) ∧ Hid (Below (W.heap.size + 3) w2 wr)) (fun i _=>lb - (intOf i).toNat)
 case atStart=>exact ⟨0,A ++ List.replicate (lb - la) 0,Nat.zero_le _,rfl,⟨by have:=EA.out; simp; omega,fun x hx=>by
   rcases List.mem_append.1 hx with hx | hx
   ·exact HA.out x hx
   ·rw [List.eq_of_mem_replicate hx]; exact HFF.out.zero_lt,plus_start HFF.out HA.out _⟩,HROW2,Below.refl _ _⟩
 case round =>
  obtain ⟨k,R,hk,rfl,HI,HR,KB⟩:=hrel
  have HP:=Lib.hid (HP2.out.keep KB.out)
  clear x0 x1 x2 x3 y0 y1 y2 y3
  obtain ⟨⟨x0,x1,x2,x3⟩,⟨y0,y1,y2,y3⟩,⟨r0,r1,r2,r3⟩,rf,hsz,hbl⟩:=HP.out
  clear rf hsz hbl
  by_cases hlt : k < lb
  ·clear r0 r1 r2 r3
   have hkR : k < R.length:=by have:=HI.out.1; omega
   have hkB : k < B.length:=by have:=EB.out; omega
   obtain ⟨xx,hxx⟩ : ∃ x,Hid (R.getD k 0 = x):=⟨_,rfl⟩
   obtain ⟨yy,hyy⟩ : ∃ x,Hid (B.getD k 0 = x):=⟨_,rfl⟩
   have HX : Hid (xx < F.q):=Lib.hid (by rw [← hxx.out]; exact HI.out.2.1.get HFF.out k)
   have HY : Hid (yy < F.q):=Lib.hid (by rw [← hyy.out]; exact HB.out.get HFF.out k)
   have hcR : wr.cell? ⟨W.heap.size + 1 + 1 + 1,k,none⟩ = some (.int .i64 (xx : Nat)):=by rw [← hxx.out]; exact HR.out.cell hkR
   obtain ⟨b',off',rfl,hcB⟩ : ∃ b' off',ab = some ⟨b',off',none⟩ ∧ wr.cell? ⟨b',off' + k,none⟩ = some (.int .i64 (yy : Nat)):=by
    rw [← hyy.out]
    rcases NB.out.below HP.out.bl with ⟨e,h⟩ | ⟨b',off',cap',h,g1,g2,g3⟩
    ·rw [e] at hkB; simp at hkB
    ·cases h; exact ⟨b',off',rfl,g3 k hkB⟩
   have HST : Hid (fn (R.set k (F.add xx yy)) = pa F (fn A) (fn (B.take (k + 1)))):=Lib.hid (by rw [← hxx.out,← hyy.out]; exact plus_step HFF.out hkB hkR HI.out.2.2 HB.out HA.out)
   have HIN:=Lib.hid (in_set (k:=k) HI.out.2.1 (HFF.out.add_lt xx yy))
   have hS0 : SP W wr F.p F.e (FM F b cap) (.slice aa la ca) (.slice (some ⟨b',off',none⟩) lb cb) wr.drew:=⟨⟨x0,x1,x2,x3⟩,Lib.hid (HP.out.keep (Below.refl _ _).drew),Lib.hid ((Below.refl _ _).drew)⟩
   clear hkB
   have hkN : k < lb:=by omega
   go_wp2_with fail
   refine wp_region_held_drew (S:=fun w'=>SP W wr F.p F.e (FM F b cap) (.slice aa la ca) (.slice (some ⟨b',off',none⟩) lb cb) w') (by kernel_rfl) (by with_reducible exact hS0) (fun hHeld=>?_)
   refine Rg.tk 0 ⟨some 28,.move (.tmp 5),25,"polynomial.go:37",#[],none⟩ ?_
   try simp only [Rg.gp]
   refine Rg.tk 1 ⟨some 29,.move (.tmp 6),3,"polynomial.go:37",#[],none⟩ ?_
   try simp only [Rg.gp]
   refine Rg.tk 2 ⟨some 30,.fieldAddr 61 (.tmp 2) 0,0,"polynomial.go:37",#[],none⟩ ?_
   try simp only [Rg.gp]
   refine Rg.tk 3 ⟨some 31,.load 28 (.tmp 30),28,"polynomial.go:37",#[⟨2,.data⟩],none⟩ ?_
   try simp only [Rg.gp]
   refine Rg.tk 4 ⟨some 32,.move (.tmp 5),25,"polynomial.go:37",#[],none⟩ ?_
   try simp only [Rg.gp]
   refine Rg.tk 5 ⟨some 33,.move (.tmp 6),3,"polynomial.go:37",#[],none⟩ ?_
   try simp only [Rg.gp]
   refine Rg.tk 6 ⟨some 34,.indexAddr 25 (.tmp 32) (.tmp 33),0,"polynomial.go:37",#[⟨4,.data⟩,⟨5,.data⟩],none⟩ ?_
   try simp only [Rg.gp]
   refine Rg.tk 8 ⟨some 36,.move (.tmp 7),3,"polynomial.go:37",#[],none⟩ ?_
   try simp only [Rg.gp]
   refine Rg.rd1 7 ⟨some 35,.load 3 (.tmp 34),3,"polynomial.go:37",#[⟨6,.data⟩],none⟩ fun K hK=>?_
   go_simp
   refine hK.out _ _ ?_ (fun hHeld=>?_)
   ·(try dsimp only)
    exact hHeld
   clear hK K
   try simp only [Rg.gp]
   refine Rg.rd1 9 ⟨some 37,.call ⟨.value (.func 73),#[.tmp 31,.tmp 35,.tmp 36],#[28,3,3]⟩,3,"polynomial.go:37",#[⟨3,.data⟩,⟨7,.data⟩,⟨8,.data⟩],none⟩ fun K hK=>?_
   go_simp
   go_at_call 73
   with_reducible refine (HO.out.add _ hHeld.2.1.out.bl xx yy HX.out HY.out).mono ?_
   rintro z v' ⟨rfl,hb3⟩
   have HR2:=Lib.hid ((Row.drew HR.out).below hb3)
   have hc2 : v'.cell? ⟨W.heap.size + 1 + 1 + 1,k,none⟩ = some (.int .i64 (xx : Nat)):=by rw [← hxx.out]; exact HR2.out.cell hkR
   have hf2:=HR2.out.frozen k
   refine hK.out _ _ ?_ (fun hHeld=>?_)
   ·(try dsimp only)
    exact SP.keep hHeld hb3 hHeld.2.1.out.sz
   clear hK K
   try simp only [Rg.gp]
   refine Rg.tk 10 ⟨some 38,.indexAddr 25 (.tmp 28) (.tmp 29),0,"polynomial.go:37",#[⟨0,.data⟩,⟨1,.data⟩,⟨0,.phase⟩,⟨1,.phase⟩,⟨2,.phase⟩,⟨3,.phase⟩,⟨4,.phase⟩,⟨5,.phase⟩,⟨6,.phase⟩,⟨7,.phase⟩,⟨8,.phase⟩,⟨9,.phase⟩],none⟩ ?_
   try simp only [Rg.gp]
   refine Rg.rd1 11 ⟨none,.store 3 (.tmp 38) (.tmp 37),0,"polynomial.go:37",#[⟨10,.data⟩,⟨9,.data⟩,⟨9,.chain⟩,⟨0,.phase⟩,⟨1,.phase⟩,⟨2,.phase⟩,⟨3,.phase⟩,⟨4,.phase⟩,⟨5,.phase⟩,⟨6,.phase⟩,⟨7,.phase⟩,⟨8,.phase⟩,⟨9,.phase⟩],none⟩ fun K hK=>?_
   go_simp
   refine hK.out _ _ ?_ (fun hHeld=>?_)
   ·(try dsimp only)
    exact SP.keep (k:=W.heap.size + 3) hHeld ((Below.refl _ _).setCell (by simp) _) (Nat.le_refl _)
   clear hK K
   try simp only [Rg.gp]
   refine wpAnyH_done (by kernel_rfl) ?_ _
   have HR3:=Lib.hid (HR2.out.set k (F.add xx yy))
   have HB3:=Lib.hid (KB.out.trans hHeld.2.2.out)
   have HLR : Hid ((R.set k (F.add xx yy)).length = lb):=Lib.hid (by rw [List.length_set]; exact HI.out.1)
   clear hHeld hS0 hb3 hc2 hf2 hcR hcB
   go_wp2
   go_roundw
   case rel=>exact ⟨k + 1,R.set k (F.add xx yy),by omega,by go_num,⟨HLR.out,HIN.out,HST.out⟩,HR3,HB3⟩
   case measure=>simp [intOf]; omega
  ·obtain rfl : lb = k:=by omega
   clear hlt
   have HFIN : Hid (trL R = addP F A B):=Lib.hid ((Po.tr HI.out.2.1).ext (addP_po HFF.out HA.out HB.out) (by
    rw [fn_trL,HI.out.2.2,fn_addP HFF.out HA.out HB.out,EB.out,List.take_length]))
   have HOV:=Lib.hid (over_c (p:=F.p) (q:=F.e) (ma:=some ⟨b,0,none⟩) (ml:=F.e) (mc:=cap) (L:=R) (n:=lb) (W:=wr) (by have:=HI.out.1; omega) HI.out.1.symm (by have:=HR.out.nn; rw [HI.out.1] at this; exact this))
   clear y0 y1 y2 y3 r0 r1 r2 r3
   go_wp2_with fail
   with_reducible refine HOV.out.mono ?_
   rintro z w5 ⟨rfl,hb5⟩
   have HP5:=Lib.hid (HP.out.keep (hb5.mono HP.out.sz))
   have HN5:=Lib.hid (HR.out.nn.tr.below hb5)
   clear hb5 HOV x0 x1 x2 x3
   obtain ⟨_,_,⟨r0,r1,r2,r3⟩,rf,hsz,hbl⟩:=HP5.out
   have rf0:=rf 0
   have rf1:=rf 1
   have rf2:=rf 2
   have rf3:=rf 3
   have HBL:=Lib.hid hbl
   clear rf hsz hbl
   have HRL:=Lib.hid HI.out.1
   go_wp2
   exact bodyPost_ret (v:=PF F b cap (some ⟨W.heap.size + 3,0,none⟩) (trL R).length lb) (by simp [results,Try.results53,go_sem,r0,r1,r2,r3]) rfl ⟨some ⟨W.heap.size + 3,0,none⟩,lb,by rw [← HFIN.out],by
    rw [← HFIN.out]
    have:=HN5.out
    rw [HRL.out] at this
    exact (((this.setc (by omega)).setc (by omega)).setc (by omega)).setc (by omega),(((HBL.out.setCell (by show W.heap.size ≤ W.heap.size + 1 + 1; omega) _).setCell (by show W.heap.size ≤ W.heap.size + 1 + 1; omega) _).setCell (by show W.heap.size ≤ W.heap.size + 1 + 1; omega) _).setCell (by show W.heap.size ≤ W.heap.size + 1 + 1; omega) _,fun h o e=>by cases e; omega⟩
set_option maxHeartbeats 6400000 in
theorem plus_ge {F : Gf} {b cap : Nat} {A B : List Nat} {aa ab : Option Addr} {la lb ca cb : Nat} {W : World} (hO : Ops F b cap W) (hA : In F A) (hB : In F B) (ha : A.length ≤ 1000) (hb : B.length ≤ 1000) (ea : la = A.length) (eb : lb = B.length)
  (na : NN A W (.slice aa la ca)) (nb : NN B W (.slice ab lb cb)) (hcmp : lb ≤ la) : Calls Try.prog 53 #[PF F b cap aa la ca,PF F b cap ab lb cb] W (PPost F b cap (addP F A B) W):=by
 have hF:=hO.ok
 have hla : la ≤ 1000:=by omega
 have hlb : lb ≤ 1000:=by omega
 have hcmp2 : (lb : Int) ≤ (la : Int):=by omega
 have EA:=Lib.hid ea
 have EB:=Lib.hid eb
 have HA:=Lib.hid hA
 have HB:=Lib.hid hB
 have NA:=Lib.hid na
 have NB:=Lib.hid nb
 have HO:=Lib.hid hO
 have HFF:=Lib.hid hF
 clear hA hB na nb ea eb ha hb hO hF
 obtain ⟨i0,hi,hz0,hz1,hz2⟩:=info_parts info3
 have HP0:=Lib.hid (P3.of W F.p F.e (FM F b cap) (.slice aa la ca) (.slice ab lb cb))
 go_enter Try.func53,Try.ntmps53
 go_wp2_with (refine wpList_make_full _ rfl _ _ 25 rfl (W.heap.size + 3) 3 i0 (.int .i64 0) 1 Try.underlying25 hi hz0 hz1 .i64 .i64 (la : Int) (la : Int) la rfl rfl rfl rfl (by rw [hz2]; omega) (by unfold maxLen; omega) (by simp) ?_)
 intro w1 hown hgrow
 have hgs : (w3 W F.p F.e (FM F b cap) (.slice aa la ca) (.slice ab lb cb)).heap.size = W.heap.size + 3:=by simp
 have hb1 : Below (W.heap.size + 3) (w3 W F.p F.e (FM F b cap) (.slice aa la ca) (.slice ab lb cb)) w1:=(Below.refl _ _).grown hgrow (by simp) (fun k hk=>by cases hk)
 have HP1:=Lib.hid (HP0.out.keep hb1)
 have HROW : Hid (Row (List.replicate la 0) (W.heap.size + 3) w1):=Lib.hid (Row.of_own (n:=la) (base:=W.heap.size + 3) (by
  have e:=toList_madeCells_one (Value.int .i64 0) la
  rw [List.map_replicate,show N64 0 = Value.int .i64 0 from rfl,← e]
  simpa using hown) (by simp))
 clear hown hgrow hb1 HP0 hgs
 obtain ⟨⟨x0,x1,x2,x3⟩,⟨y0,y1,y2,y3⟩,⟨r0,r1,r2,r3⟩,rf,hsz,hbl⟩:=HP1.out
 clear r0 r1 r2 r3 rf hsz hbl
 go_wp2_with (refine wpList_copy_splice rfl (.tmp 16) (.tmp 18) 25 25 rfl 3 Try.underlying25 size3 (some ⟨W.heap.size + 1 + 1 + 1,0,none⟩) aa la la la ca rfl rfl (W.heap.size + 1 + 1 + 1) 0 ((List.replicate la 0).map N64) 3 HROW.out.heap (A.map N64) ?c1 ?c2 ?c3 ?c4 (W.heap.size + 3) w1 (Below.refl _ _) (Nat.le_refl _) ?_)
 case c1 =>
  have:=EA.out
  rw [List.length_map]
  show _ = min la la
  omega
 case c2 =>
  intro hp
  rcases NA.out.below HP1.out.bl with ⟨e,h⟩ | ⟨b',off',cap',h,g1,g2,g3⟩
  ·rw [e] at hp; simp at hp
  ·cases h
   exact ⟨_,rfl,fun j a h=>num_cellsK g3 j _ (by rw [List.getElem?_map,h]; rfl)⟩
 case c3 =>
  have:=EA.out
  simp
  omega
 case c4 =>
  intro v hv
  obtain ⟨x,_,rfl⟩:=List.mem_map.1 hv
  rfl
 intro w2 hg2 hb2
 have HROW2 : Hid (Row (A ++ List.replicate (la - la) 0) (W.heap.size + 3) w2):=Lib.hid (by
  have:=EA.out
  refine Row.of_heap (base:=0) (by simp; unfold maxLen; omega) ?_
  have e : (A ++ List.replicate (la - la) 0).map N64 = splice ((List.replicate la 0).map N64) 0 (A.map N64):=by
   simp [splice,← this]
  rw [e]
  have h2:=hg2.out
  rw [show (List.map N64 (List.replicate la 0)) = List.replicate la (N64 0) from List.map_replicate]
  exact h2)
 have HP2:=Lib.hid (HP1.out.keep hb2)
 clear hg2 hb2 HROW HP1 x0 x1 x2 x3 y0 y1 y2 y3
 obtain ⟨⟨x0,x1,x2,x3⟩,⟨y0,y1,y2,y3⟩,⟨r0,r1,r2,r3⟩,rf,hsz,hbl⟩:=HP2.out
 clear r0 r1 r2 r3 rf hsz hbl
 go_wp2
 go_loopw [23] (fun i wr=>∃ (k : Nat) (R : List Nat),k ≤ lb ∧ i = .int .i64 k ∧ Hid (R.length = la ∧ In F R ∧ fn R = pa F (fn A) (fn (B.take k))) ∧ Hid (Row R (W.heap.size + 3) wr) ∧ Hid (Below (W.heap.size + 3) w2 wr)) (fun i _=>lb - (intOf i).toNat)
 case atStart=>exact ⟨0,A ++ List.replicate (la - la) 0,Nat.zero_le _,rfl,⟨by have:=EA.out; simp; omega,fun x hx=>by
   rcases List.mem_append.1 hx with hx | hx
   ·exact HA.out x hx
   ·rw [List.eq_of_mem_replicate hx]; exact HFF.out.zero_lt,plus_start HFF.out HA.out _⟩,HROW2,Below.refl _ _⟩
 case round =>
  obtain ⟨k,R,hk,rfl,HI,HR,KB⟩:=hrel
  have HP:=Lib.hid (HP2.out.keep KB.out)
  clear x0 x1 x2 x3 y0 y1 y2 y3
  obtain ⟨⟨x0,x1,x2,x3⟩,⟨y0,y1,y2,y3⟩,⟨r0,r1,r2,r3⟩,rf,hsz,hbl⟩:=HP.out
  clear rf hsz hbl
  by_cases hlt : k < lb
  ·clear r0 r1 r2 r3
   have hkR : k < R.length:=by have:=HI.out.1; omega
   have hkB : k < B.length:=by have:=EB.out; omega
   obtain ⟨xx,hxx⟩ : ∃ x,Hid (R.getD k 0 = x):=⟨_,rfl⟩
   obtain ⟨yy,hyy⟩ : ∃ x,Hid (B.getD k 0 = x):=⟨_,rfl⟩
   have HX : Hid (xx < F.q):=Lib.hid (by rw [← hxx.out]; exact HI.out.2.1.get HFF.out k)
   have HY : Hid (yy < F.q):=Lib.hid (by rw [← hyy.out]; exact HB.out.get HFF.out k)
   have hcR : wr.cell? ⟨W.heap.size + 1 + 1 + 1,k,none⟩ = some (.int .i64 (xx : Nat)):=by rw [← hxx.out]; exact HR.out.cell hkR
   obtain ⟨b',off',rfl,hcB⟩ : ∃ b' off',ab = some ⟨b',off',none⟩ ∧ wr.cell? ⟨b',off' + k,none⟩ = some (.int .i64 (yy : Nat)):=by
    rw [← hyy.out]
    rcases NB.out.below HP.out.bl with ⟨e,h⟩ | ⟨b',off',cap',h,g1,g2,g3⟩
    ·rw [e] at hkB; simp at hkB
    ·cases h; exact ⟨b',off',rfl,g3 k hkB⟩
   have HST : Hid (fn (R.set k (F.add xx yy)) = pa F (fn A) (fn (B.take (k + 1)))):=Lib.hid (by rw [← hxx.out,← hyy.out]; exact plus_step HFF.out hkB hkR HI.out.2.2 HB.out HA.out)
   have HIN:=Lib.hid (in_set (k:=k) HI.out.2.1 (HFF.out.add_lt xx yy))
   have hS0 : SP W wr F.p F.e (FM F b cap) (.slice aa la ca) (.slice (some ⟨b',off',none⟩) lb cb) wr.drew:=⟨⟨x0,x1,x2,x3⟩,Lib.hid (HP.out.keep (Below.refl _ _).drew),Lib.hid ((Below.refl _ _).drew)⟩
   clear hkB
   have hkN : k < la:=by omega
   go_wp2_with fail
   refine wp_region_held_drew (S:=fun w'=>SP W wr F.p F.e (FM F b cap) (.slice aa la ca) (.slice (some ⟨b',off',none⟩) lb cb) w') (by kernel_rfl) (by with_reducible exact hS0) (fun hHeld=>?_)
   refine Rg.tk 0 ⟨some 28,.move (.tmp 5),25,"polynomial.go:37",#[],none⟩ ?_
   try simp only [Rg.gp]
   refine Rg.tk 1 ⟨some 29,.move (.tmp 6),3,"polynomial.go:37",#[],none⟩ ?_
   try simp only [Rg.gp]
   refine Rg.tk 2 ⟨some 30,.fieldAddr 61 (.tmp 2) 0,0,"polynomial.go:37",#[],none⟩ ?_
   try simp only [Rg.gp]
   refine Rg.tk 3 ⟨some 31,.load 28 (.tmp 30),28,"polynomial.go:37",#[⟨2,.data⟩],none⟩ ?_
   try simp only [Rg.gp]
   refine Rg.tk 4 ⟨some 32,.move (.tmp 5),25,"polynomial.go:37",#[],none⟩ ?_
   try simp only [Rg.gp]
   refine Rg.tk 5 ⟨some 33,.move (.tmp 6),3,"polynomial.go:37",#[],none⟩ ?_
   try simp only [Rg.gp]
   refine Rg.tk 6 ⟨some 34,.indexAddr 25 (.tmp 32) (.tmp 33),0,"polynomial.go:37",#[⟨4,.data⟩,⟨5,.data⟩],none⟩ ?_
   try simp only [Rg.gp]
   refine Rg.tk 8 ⟨some 36,.move (.tmp 7),3,"polynomial.go:37",#[],none⟩ ?_
   try simp only [Rg.gp]
   refine Rg.rd1 7 ⟨some 35,.load 3 (.tmp 34),3,"polynomial.go:37",#[⟨6,.data⟩],none⟩ fun K hK=>?_
   go_simp
   refine hK.out _ _ ?_ (fun hHeld=>?_)
   ·(try dsimp only)
    exact hHeld
   clear hK K
   try simp only [Rg.gp]
   refine Rg.rd1 9 ⟨some 37,.call ⟨.value (.func 73),#[.tmp 31,.tmp 35,.tmp 36],#[28,3,3]⟩,3,"polynomial.go:37",#[⟨3,.data⟩,⟨7,.data⟩,⟨8,.data⟩],none⟩ fun K hK=>?_
   go_simp
   go_at_call 73
   with_reducible refine (HO.out.add _ hHeld.2.1.out.bl xx yy HX.out HY.out).mono ?_
   rintro z v' ⟨rfl,hb3⟩
   have HR2:=Lib.hid ((Row.drew HR.out).below hb3)
   have hc2 : v'.cell? ⟨W.heap.size + 1 + 1 + 1,k,none⟩ = some (.int .i64 (xx : Nat)):=by rw [← hxx.out]; exact HR2.out.cell hkR
   have hf2:=HR2.out.frozen k
   refine hK.out _ _ ?_ (fun hHeld=>?_)
   ·(try dsimp only)
    exact SP.keep hHeld hb3 hHeld.2.1.out.sz
   clear hK K
   try simp only [Rg.gp]
   refine Rg.tk 10 ⟨some 38,.indexAddr 25 (.tmp 28) (.tmp 29),0,"polynomial.go:37",#[⟨0,.data⟩,⟨1,.data⟩,⟨0,.phase⟩,⟨1,.phase⟩,⟨2,.phase⟩,⟨3,.phase⟩,⟨4,.phase⟩,⟨5,.phase⟩,⟨6,.phase⟩,⟨7,.phase⟩,⟨8,.phase⟩,⟨9,.phase⟩],none⟩ ?_
   try simp only [Rg.gp]
   refine Rg.rd1 11 ⟨none,.store 3 (.tmp 38) (.tmp 37),0,"polynomial.go:37",#[⟨10,.data⟩,⟨9,.data⟩,⟨9,.chain⟩,⟨0,.phase⟩,⟨1,.phase⟩,⟨2,.phase⟩,⟨3,.phase⟩,⟨4,.phase⟩,⟨5,.phase⟩,⟨6,.phase⟩,⟨7,.phase⟩,⟨8,.phase⟩,⟨9,.phase⟩],none⟩ fun K hK=>?_
   go_simp
   refine hK.out _ _ ?_ (fun hHeld=>?_)
   ·(try dsimp only)
    exact SP.keep (k:=W.heap.size + 3) hHeld ((Below.refl _ _).setCell (by simp) _) (Nat.le_refl _)
   clear hK K
   try simp only [Rg.gp]
   refine wpAnyH_done (by kernel_rfl) ?_ _
   have HR3:=Lib.hid (HR2.out.set k (F.add xx yy))
   have HB3:=Lib.hid (KB.out.trans hHeld.2.2.out)
   have HLR : Hid ((R.set k (F.add xx yy)).length = la):=Lib.hid (by rw [List.length_set]; exact HI.out.1)
   clear hHeld hS0 hb3 hc2 hf2 hcR hcB
   go_wp2
   go_roundw
   case rel=>exact ⟨k + 1,R.set k (F.add xx yy),by omega,by go_num,⟨HLR.out,HIN.out,HST.out⟩,HR3,HB3⟩
   case measure=>simp [intOf]; omega
  ·obtain rfl : lb = k:=by omega
   clear hlt
   have HFIN : Hid (trL R = addP F A B):=Lib.hid ((Po.tr HI.out.2.1).ext (addP_po HFF.out HA.out HB.out) (by
    rw [fn_trL,HI.out.2.2,fn_addP HFF.out HA.out HB.out,EB.out,List.take_length]))
   have HOV:=Lib.hid (over_c (p:=F.p) (q:=F.e) (ma:=some ⟨b,0,none⟩) (ml:=F.e) (mc:=cap) (L:=R) (n:=la) (W:=wr) (by have:=HI.out.1; omega) HI.out.1.symm (by have:=HR.out.nn; rw [HI.out.1] at this; exact this))
   clear y0 y1 y2 y3 r0 r1 r2 r3
   go_wp2_with fail
   with_reducible refine HOV.out.mono ?_
   rintro z w5 ⟨rfl,hb5⟩
   have HP5:=Lib.hid (HP.out.keep (hb5.mono HP.out.sz))
   have HN5:=Lib.hid (HR.out.nn.tr.below hb5)
   clear hb5 HOV x0 x1 x2 x3
   obtain ⟨_,_,⟨r0,r1,r2,r3⟩,rf,hsz,hbl⟩:=HP5.out
   have rf0:=rf 0
   have rf1:=rf 1
   have rf2:=rf 2
   have rf3:=rf 3
   have HBL:=Lib.hid hbl
   clear rf hsz hbl
   have HRL:=Lib.hid HI.out.1
   go_wp2
   exact bodyPost_ret (v:=PF F b cap (some ⟨W.heap.size + 3,0,none⟩) (trL R).length la) (by simp [results,Try.results53,go_sem,r0,r1,r2,r3]) rfl ⟨some ⟨W.heap.size + 3,0,none⟩,la,by rw [← HFIN.out],by
    rw [← HFIN.out]
    have:=HN5.out
    rw [HRL.out] at this
    exact (((this.setc (by omega)).setc (by omega)).setc (by omega)).setc (by omega),(((HBL.out.setCell (by show W.heap.size ≤ W.heap.size + 1 + 1; omega) _).setCell (by show W.heap.size ≤ W.heap.size + 1 + 1; omega) _).setCell (by show W.heap.size ≤ W.heap.size + 1 + 1; omega) _).setCell (by show W.heap.size ≤ W.heap.size + 1 + 1; omega) _,fun h o e=>by cases e; omega⟩
end Go.Proofs.Ytllecfhfhcmpaaa
