/- The examples: the walk. -/
import Derived.Test.YtllecfhfhcmpaaaLc
import Derived.Test.YtllecfhfhcmpaaaEvRl
import Derived.Test.YtllecfhfhcmpaaaEvSl
import Derived.ChangeSame
import Derived.WalkKit
import Derived.ProofKit
import Derived.OpenShut
import Derived.Test.YtllecfhfhcmpaaaEvYy
import Derived.Maps.AppendAt
import Derived.RangeFuncNested
import Derived.RangeFuncBound
import Derived.RangeFuncCalls
import Derived.RangeFuncLeaves
import Derived.RangeFuncFrom
import Derived.Shelf.Abstract
import Derived.Shelf.RegionOpen
import Derived.OwnWalkIn
import Derived.TacticsInMore
import Derived.LoopNIn
import Derived.LoopIn
import Derived.Test.YtllecfhfhcmpaaaEvTk
namespace Go.Proofs.Ytllecfhfhcmpaaa
open Go.RowKit Go.Fl
set_option maxRecDepth 100000
set_option linter.unusedVariables false
set_option linter.unusedSimpArgs false
set_option linter.unusedSectionVars false
theorem nn_new {w : World} {L : List Nat} {cs : Array Value} (hc : cs = (L.map N64).toArray) {n : Nat} (hn : n = L.length) : NN L (w.alloc (.cells cs 3)) (.slice (some ⟨w.heap.size,0,none⟩) n n):=by
 subst hn
 refine .inr ⟨w.heap.size,0,L.length,rfl,Nat.le_refl _,by simp,fun t ht=>?_⟩
 rw [Nat.zero_add,World.cell?_alloc_at _ _ _ _ rfl,hc]
 simp [List.getD,ht]
theorem two_new {w : World} {A B : List Nat} {cs ds : Array Value} {n m : Nat} (hA : cs = (A.map N64).toArray) (hn : n = A.length) (hB : ds = (B.map N64).toArray) (hm : m = B.length) :
  NN A ((w.alloc (.cells cs 3)).alloc (.cells ds 3)) (.slice (some ⟨w.heap.size,0,none⟩) n n) ∧ NN B ((w.alloc (.cells cs 3)).alloc (.cells ds 3)) (.slice (some ⟨w.heap.size + 1,0,none⟩) m m) ∧ Below w.heap.size w ((w.alloc (.cells cs 3)).alloc (.cells ds 3)):=by
 have e1 : (w.alloc (.cells cs 3)).heap.size = w.heap.size + 1:=by simp
 refine ⟨(nn_new hA hn).below ((Below.refl _ _).alloc (Nat.le_refl _) _),?_,((Below.refl _ _).alloc (Nat.le_refl _) _).alloc (by simp) _⟩
 have:=nn_new (w:=w.alloc (.cells cs 3)) hB hm
 rwa [e1] at this
structure EX (W0 : World) (g b2 c2 b4 c4 b5 c5 : Nat) (w : World) : Prop where
 x2 : FB g f2'.p f2'.e (FM f2' b2 c2) w
 x4 : FB (g + 1) f4'.p f4'.e (FM f4' b4 c4) w
 x5 : FB (g + 1 + 1) f5'.p f5'.e (FM f5' b5 c5) w
 f2 : FldAt f2' b2 c2 w
 f4 : FldAt f4' b4 c4 w
 f5 : FldAt f5' b5 c5 w
 bl : Below W0.heap.size W0 w
 sz : g + 3 ≤ w.heap.size
theorem EX.keep {W0 w w' : World} {g b2 c2 b4 c4 b5 c5 : Nat} (h : EX W0 g b2 c2 b4 c4 b5 c5 w) (hb : Below w.heap.size w w') : EX W0 g b2 c2 b4 c4 b5 c5 w':=by
 have hs:=h.sz
 have h0:=h.bl.size
 exact ⟨FB.keep h.x2 hb (by omega),FB.keep h.x4 hb (by omega),FB.keep h.x5 hb (by omega),h.f2.below hb,h.f4.below hb,h.f5.below hb,h.bl.trans (hb.mono h0),Nat.le_trans hs hb.size⟩
section
variable {W0 : World} {g b2 c2 b4 c4 b5 c5 : Nat} {w : World} (h : EX W0 g b2 c2 b4 c4 b5 c5 w)
include h
theorem ex1 {g' : Nat} (hg : g' = w.heap.size) : Calls Try.prog 17 #[FV f2' b2 c2,.slice (some ⟨g',0,none⟩) 4 4,.slice (some ⟨g' + 1,0,none⟩) 3 3] ((w.alloc (.cells #[.int .i64 1,.int .i64 0,.int .i64 0,.int .i64 1] 3)).alloc (.cells #[.int .i64 1,.int .i64 1,.int .i64 0] 3))
  fun e w'=>(∃ a c a' c',e = .returned (.tuple #[.slice a 3 c,.slice a' 0 c',.int .i64 0]) ∧ NN [1,1,1] w' (.slice a 3 c)) ∧ EX W0 g b2 c2 b4 c4 b5 c5 w':=by
 subst hg
 obtain ⟨n1,n2,hb⟩:=two_new (w:=w) (A:=[1,0,0,1]) (B:=[1,1,0]) (n:=4) (m:=3) rfl rfl rfl rfl
 refine (divmod_hi (h.f2.below hb).ops (A:=[1,0,0,1]) (B:=[1,1,0]) (po_dec (by decide +kernel) (by decide)).el (fun x hx=>of_decide_eq_true (List.all_eq_true.1 (by decide +kernel : (([1,1,0] : List Nat).all fun x=>decide (x < f2'.q)) = true) x hx)) (by decide) (by decide) rfl rfl n1 n2 (by decide)).mono ?_
 rintro e w' ⟨a1,c1,a2,c2',rfl,k1,k2,hb2⟩
 have e1 : trL [1,0,0,1] = [1,0,0,1]:=by decide
 have e2 : trL [1,1,0] = [1,1]:=by decide
 rw [e1,e2,ex_div.1] at k1
 rw [e1,e2,ex_div.1,ex_div.2]
 exact ⟨⟨a1,c1,a2,c2',rfl,k1⟩,h.keep (hb.trans (hb2.mono hb.size))⟩
theorem ex2 {g' : Nat} (hg : g' = w.heap.size) : Calls Try.prog 17 #[FV f2' b2 c2,.slice (some ⟨g',0,none⟩) 1 1,.slice (some ⟨g' + 1,0,none⟩) 2 2] ((w.alloc (.cells #[.int .i64 1] 3)).alloc (.cells #[.int .i64 0,.int .i64 0] 3))
  fun e w'=>e = .returned (.tuple #[.slice none 0 0,.slice none 0 0,.int .i64 3]) ∧ Below w.heap.size w w':=by
 subst hg
 obtain ⟨n1,n2,hb⟩:=two_new (w:=w) (A:=[1]) (B:=[0,0]) (n:=1) (m:=2) rfl rfl rfl rfl
 refine (divmod_lo (B:=[0,0]) (by decide) rfl n2 (by decide)).mono ?_
 rintro e w' ⟨rfl,hb2⟩
 exact ⟨rfl,hb.trans (hb2.mono hb.size)⟩
theorem ex3 {g' : Nat} (hg : g' = w.heap.size) : Calls Try.prog 36 #[FV f5' b5 c5,.slice (some ⟨g',0,none⟩) 3 3,.slice (some ⟨g' + 1,0,none⟩) 3 3] ((w.alloc (.cells #[.int .i64 0,.int .i64 1,.int .i64 2] 3)).alloc (.cells #[.int .i64 1,.int .i64 2,.int .i64 0] 3))
  fun e w'=>(∃ a c,e = .returned (.tuple #[.slice a 3 c,.bool true]) ∧ NN [1,0,1] w' (.slice a 3 c)) ∧ Below w.heap.size w w':=by
 subst hg
 obtain ⟨n1,n2,hb⟩:=two_new (w:=w) (A:=[0,1,2]) (B:=[1,2,0]) (n:=3) (m:=3) rfl rfl rfl rfl
 letI : OkC f5':=⟨ok5⟩
 have i1 : In f5' [0,1,2]:=(po_dec (by decide +kernel) (by decide)).el
 have i2 : In f5' [1,2,0]:=fun x hx=>of_decide_eq_true (List.all_eq_true.1 (by decide +kernel : (([1,2,0] : List Nat).all fun x=>decide (x < f5'.q)) = true) x hx)
 refine (values_ok (X:=[0,1,2]) (Y:=[1,2,0]) (n:=3) fun v hv=>interp_c ((h.f5.below hb).below hv).ops i1 i2 rfl rfl (by decide) (by decide) (n1.below hv) (n2.below hv)).mono ?_
 rintro e w' ⟨P,a,c,rfl,k1,k2,k3,k4,hb2⟩
 obtain rfl:=ex_int k2 k3 k4
 exact ⟨⟨a,c,rfl,k1⟩,hb.trans (hb2.mono hb.size)⟩
theorem ex4 {g' : Nat} (hg : g' = w.heap.size) : Calls Try.prog 19 #[FV f5' b5 c5,.slice (some ⟨g',0,none⟩) 2 2,.slice (some ⟨g' + 1,0,none⟩) 2 2] ((w.alloc (.cells #[.int .i64 1,.int .i64 1] 3)).alloc (.cells #[.int .i64 1,.int .i64 2] 3))
  fun e w'=>e = .returned (.tuple #[.slice none 0 0,.int .i64 1]) ∧ Below w.heap.size w w':=by
 subst hg
 obtain ⟨n1,n2,hb⟩:=two_new (w:=w) (A:=[1,1]) (B:=[1,2]) (n:=2) (m:=2) rfl rfl rfl rfl
 refine (interp_no (X:=[1,1]) (Y:=[1,2]) rfl (by decide) (by decide) n1 (.inr (by decide))).mono ?_
 rintro e w' ⟨rfl,hb2⟩
 exact ⟨rfl,hb.trans (hb2.mono hb.size)⟩
theorem ex7 {g' : Nat} (hg : g' = w.heap.size) : Calls Try.prog 29 #[FV f5' b5 c5,.slice (some ⟨g',0,none⟩) 3 3] (w.alloc (.cells #[.int .i64 1,.int .i64 0,.int .i64 1] 3))
  fun e w'=>(∃ a c,e = .returned (.slice a 2 c) ∧ NN [2,3] w' (.slice a 2 c)) ∧ Below w.heap.size w w':=by
 subst hg
 have n1 : NN [1,0,1] (w.alloc (.cells #[.int .i64 1,.int .i64 0,.int .i64 1] 3)) (.slice (some ⟨w.heap.size,0,none⟩) 3 3):=nn_new rfl rfl
 have hb : Below w.heap.size w (w.alloc (.cells #[.int .i64 1,.int .i64 0,.int .i64 1] 3)):=(Below.refl _ _).alloc (Nat.le_refl _) _
 refine (roots_c (h.f5.below hb).ops (A:=[1,0,1]) (po_dec (by decide +kernel) (by decide)).el (by decide) rfl n1).mono ?_
 rintro e w' ⟨a,c,rfl,k1,hb2⟩
 rw [ex_roots] at k1 ⊢
 exact ⟨⟨a,c,rfl,k1⟩,hb.trans (hb2.mono hb.size)⟩
theorem ex8 {g' : Nat} (hg : g' = w.heap.size) : Calls Try.prog 25 #[FV f5' b5 c5,.slice (some ⟨g',0,none⟩) 3 3,.slice (some ⟨g' + 1,0,none⟩) 2 2] ((w.alloc (.cells #[.int .i64 1,.int .i64 0,.int .i64 1] 3)).alloc (.cells #[.int .i64 2,.int .i64 4] 3))
  fun e w'=>(∃ a c,e = .returned (.slice a 2 c) ∧ NN [3,1] w' (.slice a 2 c)) ∧ Below w.heap.size w w':=by
 subst hg
 obtain ⟨n1,n2,hb⟩:=two_new (w:=w) (A:=[1,0,1]) (B:=[2,4]) (n:=3) (m:=2) rfl rfl rfl rfl
 refine (gcd_c (h.f5.below hb).ops (A:=[1,0,1]) (B:=[2,4]) (po_dec (by decide +kernel) (by decide)).el (po_dec (by decide +kernel) (by decide)).el (by decide) (by decide) rfl rfl n1 n2).mono ?_
 rintro e w' ⟨G,a,c,rfl,k1,k2,-,hb2⟩
 have e1 : trL [1,0,1] = [1,0,1]:=by decide
 have e2 : trL [2,4] = [2,4]:=by decide
 rw [e1,e2] at k2
 obtain rfl:=k2.uniq ok5 ex_gcd
 exact ⟨⟨a,c,rfl,k1⟩,hb.trans (hb2.mono hb.size)⟩
end
theorem ints_new {w : World} {A : List Nat} {a : Option Addr} {n c : Nat} {cs : Array Value} (hn : NN A w (.slice a n c)) (hl : n = A.length) (ha : A.length ≤ 1000) (hc : cs = (A.map N64).toArray) {g : Nat} (hg : g = w.heap.size) :
  Calls Try.prog 14 #[.slice a n c,.slice (some ⟨g,0,none⟩) n n] (w.alloc (.cells cs 3)) fun e w'=>e = .returned (.bool true) ∧ Below w.heap.size w w':=by
 subst hg
 have n1 : NN A (w.alloc (.cells cs 3)) (.slice (some ⟨w.heap.size,0,none⟩) n n):=nn_new hc hl
 have hb : Below w.heap.size w (w.alloc (.cells cs 3)):=(Below.refl _ _).alloc (Nat.le_refl _) _
 refine (ints_c (A:=A) (B:=A) (by omega) (by omega) hl hl (hn.below hb) n1).mono ?_
 rintro e w' ⟨rfl,hb2⟩
 exact ⟨by rw [decide_eq_true rfl],hb.trans (hb2.mono hb.size)⟩
theorem ints111 {w : World} {a : Option Addr} {c g : Nat} (hn : NN [1,1,1] w (.slice a 3 c)) (hg : g = w.heap.size) : Calls Try.prog 14 #[.slice a 3 c,.slice (some ⟨g,0,none⟩) 3 3] (w.alloc (.cells #[.int .i64 1,.int .i64 1,.int .i64 1] 3)) fun e w'=>e = .returned (.bool true) ∧ Below w.heap.size w w':=ints_new hn rfl (by decide) rfl hg
theorem ints101 {w : World} {a : Option Addr} {c g : Nat} (hn : NN [1,0,1] w (.slice a 3 c)) (hg : g = w.heap.size) : Calls Try.prog 14 #[.slice a 3 c,.slice (some ⟨g,0,none⟩) 3 3] (w.alloc (.cells #[.int .i64 1,.int .i64 0,.int .i64 1] 3)) fun e w'=>e = .returned (.bool true) ∧ Below w.heap.size w w':=ints_new hn rfl (by decide) rfl hg
theorem ints11 {w : World} {a : Option Addr} {c g : Nat} (hn : NN [1,1] w (.slice a 2 c)) (hg : g = w.heap.size) : Calls Try.prog 14 #[.slice a 2 c,.slice (some ⟨g,0,none⟩) 2 2] (w.alloc (.cells #[.int .i64 1,.int .i64 1] 3)) fun e w'=>e = .returned (.bool true) ∧ Below w.heap.size w w':=ints_new hn rfl (by decide) rfl hg
theorem ints23 {w : World} {a : Option Addr} {c g : Nat} (hn : NN [2,3] w (.slice a 2 c)) (hg : g = w.heap.size) : Calls Try.prog 14 #[.slice a 2 c,.slice (some ⟨g,0,none⟩) 2 2] (w.alloc (.cells #[.int .i64 2,.int .i64 3] 3)) fun e w'=>e = .returned (.bool true) ∧ Below w.heap.size w w':=ints_new hn rfl (by decide) rfl hg
theorem ints31 {w : World} {a : Option Addr} {c g : Nat} (hn : NN [3,1] w (.slice a 2 c)) (hg : g = w.heap.size) : Calls Try.prog 14 #[.slice a 2 c,.slice (some ⟨g,0,none⟩) 2 2] (w.alloc (.cells #[.int .i64 3,.int .i64 1] 3)) fun e w'=>e = .returned (.bool true) ∧ Below w.heap.size w w':=ints_new hn rfl (by decide) rfl hg
set_option maxHeartbeats 12800000 in
theorem examples_c (W : World) : Calls Try.prog 10 #[] W fun e w'=>e = .returned (.bool true) ∧ Below W.heap.size W w':=by
 have HM2:=Lib.hid made2_c
 have HM4:=Lib.hid made4_c
 have HM5:=Lib.hid made5_c
 go_enter Try.func10,Try.ntmps10
 go_wp2_with fail
 with_reducible refine (HM2.out _).mono ?_
 rintro z w1 ⟨b2,c2,rfl,hf2,hb1⟩
 have HF2:=Lib.hid hf2
 have HB1:=Lib.hid hb1
 clear hf2 hb1
 go_wp2_with fail
 with_reducible refine (HM4.out _).mono ?_
 rintro z w2 ⟨b4,c4,rfl,hf4,hb2⟩
 have HF2':=Lib.hid (HF2.out.below hb2)
 have HF4:=Lib.hid hf4
 have HB2:=Lib.hid (HB1.out.trans (hb2.mono HB1.out.size))
 clear hf4 hb2 HF2 HB1
 go_wp2_with fail
 with_reducible refine (HM5.out _).mono ?_
 rintro z w3 ⟨b5,c5,rfl,hf5,hb3⟩
 have HE0 : Hid (EX W w3.heap.size b2 c2 b4 c4 b5 c5 (((w3.alloc (.cells #[.int .i64 f2'.p,.int .i64 f2'.e,FM f2' b2 c2] 28)).alloc (.cells #[.int .i64 f4'.p,.int .i64 f4'.e,FM f4' b4 c4] 28)).alloc (.cells #[.int .i64 f5'.p,.int .i64 f5'.e,FM f5' b5 c5] 28))):=Lib.hid (by
  have k1 : Below w3.heap.size w3 (w3.alloc (.cells #[.int .i64 f2'.p,.int .i64 f2'.e,FM f2' b2 c2] 28)):=(Below.refl _ _).alloc (Nat.le_refl _) _
  have k2 : Below (w3.heap.size + 1) (w3.alloc (.cells #[.int .i64 f2'.p,.int .i64 f2'.e,FM f2' b2 c2] 28)) ((w3.alloc (.cells #[.int .i64 f2'.p,.int .i64 f2'.e,FM f2' b2 c2] 28)).alloc (.cells #[.int .i64 f4'.p,.int .i64 f4'.e,FM f4' b4 c4] 28)):=(Below.refl _ _).alloc (by simp) _
  have k3 : Below (w3.heap.size + 1 + 1) ((w3.alloc (.cells #[.int .i64 f2'.p,.int .i64 f2'.e,FM f2' b2 c2] 28)).alloc (.cells #[.int .i64 f4'.p,.int .i64 f4'.e,FM f4' b4 c4] 28)) (((w3.alloc (.cells #[.int .i64 f2'.p,.int .i64 f2'.e,FM f2' b2 c2] 28)).alloc (.cells #[.int .i64 f4'.p,.int .i64 f4'.e,FM f4' b4 c4] 28)).alloc (.cells #[.int .i64 f5'.p,.int .i64 f5'.e,FM f5' b5 c5] 28)):=(Below.refl _ _).alloc (by simp) _
  have kk:=(k1.trans (k2.mono (by omega))).trans (k3.mono (by omega : w3.heap.size ≤ w3.heap.size + 1 + 1))
  exact ⟨FB.keep (FB.keep (by simp [FB]) k2 (by omega)) k3 (by omega),FB.keep ⟨World.cell?_alloc_at _ _ _ _ (by simp),World.cell?_alloc_at _ _ _ _ (by simp),World.cell?_alloc_at _ _ _ _ (by simp)⟩ k3 (by omega),
   ⟨World.cell?_alloc_at _ _ _ _ (by simp),World.cell?_alloc_at _ _ _ _ (by simp),World.cell?_alloc_at _ _ _ _ (by simp)⟩,(HF2'.out.below hb3).below kk,(HF4.out.below hb3).below kk,hf5.below kk,
   (HB2.out.trans (hb3.mono HB2.out.size)).trans (kk.mono (Nat.le_trans HB2.out.size hb3.size)),by simp⟩)
 clear hf5 hb3 HF2' HF4 HB2 HM2 HM4 HM5
 obtain ⟨⟨p0,p1,p2⟩,-,-⟩:=(⟨HE0.out.x2,trivial,trivial⟩ : _ ∧ True ∧ True)
 have HS0 : Hid ((((w3.alloc (.cells #[.int .i64 f2'.p,.int .i64 f2'.e,FM f2' b2 c2] 28)).alloc (.cells #[.int .i64 f4'.p,.int .i64 f4'.e,FM f4' b4 c4] 28)).alloc (.cells #[.int .i64 f5'.p,.int .i64 f5'.e,FM f5' b5 c5] 28)).heap.size = w3.heap.size + 1 + 1 + 1):=Lib.hid (by simp)
 go_wp2_with fail
 with_reducible refine (ex1 HE0.out HS0.out.symm).mono ?_
 rintro z w4 ⟨⟨q1,k1,q2,k2,rfl,hn1⟩,he⟩
 have HE:=Lib.hid he
 have HQ:=Lib.hid hn1
 clear he hn1 HE0 HS0 p0 p1 p2
 obtain ⟨g,hg⟩ : ∃ g,g = w3.heap.size:=⟨_,rfl⟩
 rw [← hg] at HE
 rw [← hg]
 clear hg
 obtain ⟨p0,p1,p2⟩:=HE.out.x2
 go_wp2_with fail
 with_reducible refine (ex2 HE.out rfl).mono ?_
 rintro z w5 ⟨rfl,hb⟩
 have HE2:=Lib.hid (HE.out.keep hb)
 have HQ2:=Lib.hid (HQ.out.below hb)
 clear HE HQ hb p0 p1 p2
 obtain ⟨p0,p1,p2⟩:=HE2.out.x5
 go_wp2_with fail
 with_reducible refine (ex3 HE2.out rfl).mono ?_
 rintro z w6 ⟨⟨q3,k3,rfl,hn1⟩,hb⟩
 have HE:=Lib.hid (HE2.out.keep hb)
 have HQ:=Lib.hid (HQ2.out.below hb)
 have HP:=Lib.hid hn1
 clear HE2 HQ2 hb p0 p1 p2 hn1
 obtain ⟨p0,p1,p2⟩:=HE.out.x5
 go_wp2_with fail
 with_reducible refine (ex4 HE.out rfl).mono ?_
 rintro z w7 ⟨rfl,hb⟩
 have HE2:=Lib.hid (HE.out.keep hb)
 have HQ2:=Lib.hid (HQ.out.below hb)
 have HP2:=Lib.hid (HP.out.below hb)
 clear HE HQ HP hb p0 p1 p2
 go_wp2_with fail
 with_reducible refine (ints111 HQ2.out rfl).mono ?_
 rintro z w8 ⟨rfl,hb⟩
 have HE:=Lib.hid (HE2.out.keep hb)
 have HP:=Lib.hid (HP2.out.below hb)
 clear HE2 HQ2 HP2 hb
 go_wp2_with fail
 with_reducible refine (ints101 HP.out rfl).mono ?_
 rintro z w9 ⟨rfl,hb⟩
 have HE2:=Lib.hid (HE.out.keep hb)
 clear HE HP hb
 obtain ⟨p0,p1,p2⟩:=HE2.out.x4
 go_wp2_with fail
 with_reducible refine (min2_c HE2.out.f4).mono ?_
 rintro z w10 ⟨a1,d1,rfl,hn1,hb⟩
 have HE:=Lib.hid (HE2.out.keep hb)
 have HN:=Lib.hid hn1
 clear HE2 hb hn1 p0 p1 p2
 go_wp2_with fail
 with_reducible refine (ints111 HN.out rfl).mono ?_
 rintro z w11 ⟨rfl,hb⟩
 have HE2:=Lib.hid (HE.out.keep hb)
 clear HE hb HN
 obtain ⟨p0,p1,p2⟩:=HE2.out.x4
 go_wp2_with fail
 with_reducible refine (min1_c HE2.out.f4).mono ?_
 rintro z w12 ⟨a2,d2,rfl,hn1,hb⟩
 have HE:=Lib.hid (HE2.out.keep hb)
 have HN:=Lib.hid hn1
 clear HE2 hb hn1 p0 p1 p2
 go_wp2_with fail
 with_reducible refine (ints11 HN.out rfl).mono ?_
 rintro z w13 ⟨rfl,hb⟩
 have HE2:=Lib.hid (HE.out.keep hb)
 clear HE hb HN
 obtain ⟨p0,p1,p2⟩:=HE2.out.x5
 go_wp2_with fail
 with_reducible refine (ex7 HE2.out rfl).mono ?_
 rintro z w14 ⟨⟨a3,d3,rfl,hn1⟩,hb⟩
 have HE:=Lib.hid (HE2.out.keep hb)
 have HN:=Lib.hid hn1
 clear HE2 hb hn1 p0 p1 p2
 go_wp2_with fail
 with_reducible refine (ints23 HN.out rfl).mono ?_
 rintro z w15 ⟨rfl,hb⟩
 have HE2:=Lib.hid (HE.out.keep hb)
 clear HE hb HN
 obtain ⟨p0,p1,p2⟩:=HE2.out.x5
 go_wp2_with fail
 with_reducible refine (ex8 HE2.out rfl).mono ?_
 rintro z w16 ⟨⟨a4,d4,rfl,hn1⟩,hb⟩
 have HE:=Lib.hid (HE2.out.keep hb)
 have HN:=Lib.hid hn1
 clear HE2 hb hn1 p0 p1 p2
 go_wp2_with fail
 with_reducible refine (ints31 HN.out rfl).mono ?_
 rintro z w17 ⟨rfl,hb⟩
 have HBF:=Lib.hid (HE.out.keep hb).bl
 clear HE hb HN
 go_wp2
 go_ret
 exact ⟨rfl,HBF.out⟩
def PL (F : Gf) (n : Nat) (l : List Nat) : Prop:=Po F l ∧ l.length ≤ n
section
variable {F : Gf} (hF : Ok F)
include hF
end
section
variable {F : Gf} {b cap n m : Nat} {A B : List Nat} {aa ab : Option Addr} {ca cb : Nat} {W : World}
end
theorem dm_len {F : Gf} (hF : Ok F) {A B Q R : List Nat} (hA : Po F A) (hB : Po F B) (hne : B ≠ []) (h : DM F A B Q R) : Q.length ≤ A.length:=by
 by_cases hq : Q = []
 ·rw [hq]; exact Nat.zero_le _
 ·have l1:=mulP_len hF h.q hB hq hne
  have p1:=List.length_pos_iff.2 hq
  have p2:=List.length_pos_iff.2 hne
  have hl:=h.len
  have hPn : mulP F Q B ≠ []:=mulP_ne hF h.q hB hq hne
  have htop:=cn_last (mulP_po hF Q B).cn hPn
  have e1 : fn A ((mulP F Q B).length - 1) ≠ 0:=by
   rw [h.eq]
   show F.add (pm F Q (fn B) ((mulP F Q B).length - 1)) (fn R ((mulP F Q B).length - 1)) ≠ 0
   rw [← fn_mulP hF,fn_ge (l:=R) (by omega),hF.add_zero (show fn (mulP F Q B) ((mulP F Q B).length - 1) < F.q from (mulP_po hF Q B).el.get hF _)]
   exact htop
  have:=lt_len e1
  omega
theorem ofL_len (F : Gf) (A : List Nat) (n : Nat) : (ofL F A n).length ≤ n:=by
 unfold ofL; rw [List.length_map,List.length_take]; omega
def By (l : List Nat) : Prop:=∀ x ∈ l,x < 256
abbrev LB (B : Nat) (v0 v1 v2 v3 : Value) (w : World) : Prop:=w.cell? ⟨B,0,none⟩ = some v0 ∧ w.cell? ⟨B,1,none⟩ = some v1 ∧ w.cell? ⟨B,2,none⟩ = some v2 ∧ w.cell? ⟨B,3,none⟩ = some v3
theorem LB.keep {B k : Nat} {v0 v1 v2 v3 : Value} {w w' : World} (h : LB B v0 v1 v2 v3 w) (hb : Below k w w') (hk : B < k) : LB B v0 v1 v2 v3 w':=
 ⟨(hb.cell hk).trans h.1,(hb.cell hk).trans h.2.1,(hb.cell hk).trans h.2.2.1,(hb.cell hk).trans h.2.2.2⟩
abbrev SL (W wS : World) (gF : Nat) (F : Gf) (b cap : Nat) (v0 v1 v2 v3 : Value) (w : World) : Prop:=
 FB gF F.p F.e (FM F b cap) w ∧ LB W.heap.size v0 v1 v2 v3 w ∧ Hid (Below W.heap.size W w) ∧ Hid (Below wS.heap.size wS w) ∧ Hid (FldAt F b cap w) ∧ Hid (W.heap.size < w.heap.size ∧ gF < w.heap.size)
theorem SL.keep {W wS : World} {gF : Nat} {F : Gf} {b cap : Nat} {v0 v1 v2 v3 : Value} {w w' : World} (h : SL W wS gF F b cap v0 v1 v2 v3 w) (hb : Below w.heap.size w w') : SL W wS gF F b cap v0 v1 v2 v3 w':=by
 have h1:=h.2.2.2.2.2.out
 have h2:=h.2.2.2.1.out.size
 have h3:=h.2.2.1.out.size
 exact ⟨FB.keep h.1 hb h1.2,LB.keep h.2.1 hb h1.1,Lib.hid (h.2.2.1.out.trans (hb.mono h3)),Lib.hid (h.2.2.2.1.out.trans (hb.mono h2)),Lib.hid (h.2.2.2.2.1.out.below hb),Lib.hid ⟨Nat.lt_of_lt_of_le h1.1 hb.size,Nat.lt_of_lt_of_le h1.2 hb.size⟩⟩
theorem SL.start {W wS : World} {gF : Nat} {F : Gf} {b cap : Nat} {v0 v1 v2 v3 : Value} {w : World} (h : SL W wS gF F b cap v0 v1 v2 v3 w) : SL W w gF F b cap v0 v1 v2 v3 w:=
 ⟨h.1,h.2.1,h.2.2.1,Lib.hid (Below.refl _ _),h.2.2.2.2.1,h.2.2.2.2.2⟩
theorem SL.drew {W wS : World} {gF : Nat} {F : Gf} {b cap : Nat} {v0 v1 v2 v3 : Value} {w : World} (h : SL W wS gF F b cap v0 v1 v2 v3 w) : SL W wS gF F b cap v0 v1 v2 v3 w.drew:=h.keep (Below.refl _ _).drew
end Go.Proofs.Ytllecfhfhcmpaaa
/- The laws' lists as an argument. -/
namespace Go.Proofs.Ytllecfhfhcmpaaa
open Go.ChangeShapes Go.WideShapes Go.ChangeAt Go.RowKit
set_option linter.unusedVariables false
set_option linter.unusedSimpArgs false
theorem own : ownKnob Try.prog.godebug = none:=by kernel_rfl
theorem u24 : Try.prog.underlying 24 = some (.struct #[{ name:="Q",type:=5,offset:=0,embedded:=false,tag:="",pkgPath:="",byteOffset:=0 },{ name:="A",type:=22,offset:=1,embedded:=false,tag:="",pkgPath:="",byteOffset:=8 },{ name:="B",type:=22,offset:=2,embedded:=false,tag:="",pkgPath:="",byteOffset:=32 },{ name:="C",type:=22,offset:=3,embedded:=false,tag:="",pkgPath:="",byteOffset:=56 }]):=by kernel_rfl
theorem u22 : Try.prog.underlying 22 = some (.slice 5):=by kernel_rfl
theorem u5 : Try.prog.underlying 5 = some (.int .u8):=by kernel_rfl
theorem cl24 : Try.prog.cellsOf 24 = 4:=by kernel_rfl
theorem cl22 : Try.prog.cellsOf 22 = 1:=by kernel_rfl
theorem cl5 : Try.prog.cellsOf 5 = 1:=by kernel_rfl
theorem t24 : Try.prog.cellTypes Try.prog.depth 24 = some [5,22,22,22]:=by kernel_rfl
theorem bd8 {a : Int} (h : (Lit.int .u8 a).wf = true) : ∃ n : Nat,a = (n : Int) ∧ n ≤ 255:=by
 simp only [Lit.wf,Bool.and_eq_true,decide_eq_true_eq] at h
 simp [IntKind.min,IntKind.max,IntKind.bits,IntKind.signed] at h
 exact ⟨a.toNat,by omega,by omega⟩
structure ArgB {H : Type} (enc : TypeId × Value → H) (W : World) (v : Value) (d : DataW H) (p : List MemPlace) (A : List Nat) (a : Option Addr) (c : Nat) : Prop where
 is : v = .slice a A.length c
 by' : By A
 len : A.length ≤ maxLen
 given : N8 A W (.slice a A.length c)
 shut : ∀ W',Below W.heap.size W W' → ∀ sp : Nat → Bool,(∀ q ∈ p,sp q.block = true) → DataW.Trod enc Try.prog W' 0 sp true 22 v d p
theorem argB {H : Type} {enc : TypeId × Value → H} {W : World} {b0 : Nat} {v : Value} {d : DataW H} {p : List MemPlace}
  (hv : Value.okWide Try.prog W .any b0 22 v) (h : DataW.Trod enc Try.prog W 0 (fun _=>true) true 22 v d p) : ∃ A a c,ArgB enc W v d p A a c:=by
 rcases Go.Ev.open_sl u22 u5 cl5 hv h with ⟨rfl,rfl,rfl⟩ | ⟨b,off,len,cap,zs,rfl,hb,hl,hm,hz,rfl,rfl,hcell,hw,c,e',fz,hh,hcs⟩
 ·exact ⟨[],none,0,rfl,fun x hx=>by simp at hx,by simp,.inl ⟨rfl,none,0,rfl⟩,fun W' _ sp _=>Go.Ev.shut_nil u22⟩
 ·have hlen : ((zs.take len).map Int.toNat).length = len:=by rw [List.length_map,List.length_take]; omega
  refine ⟨(zs.take len).map Int.toNat,some ⟨b,off,none⟩,cap,by rw [hlen],fun x hx=>?_,by rw [hlen]; omega,.inr ⟨b,off,cap,rfl,hb,fun t ht=>?_⟩,fun W' hg sp hsp=>Go.Ev.shut_sl u22 u5 cl5 hb hl hm hz hcell hw hg hsp⟩
  ·obtain ⟨y,hy,rfl⟩:=List.mem_map.1 hx
   obtain ⟨n,rfl,hn⟩:=bd8 (hw y (List.mem_of_mem_take hy))
   show ((n : Int)).toNat < 256
   omega
  ·rw [hlen] at ht
   rw [hcell t (by omega)]
   have e1 : zs.getD t 0 = ((((zs.take len).map Int.toNat).getD t 0 : Nat) : Int):=by
    have ht2 : t < zs.length:=by omega
    obtain ⟨n,hn,_⟩:=bd8 (hw zs[t] (List.getElem_mem _))
    simp [List.getD,ht,ht2,List.getElem?_take_of_lt ht,hn]
   rw [e1]
section
variable {H : Type} {enc : TypeId × Value → H} {W : World}
theorem open_lists {b0 : Nat} {v : Value} {d : DataW H} {p : List MemPlace} (hv : Value.okWide Try.prog W .any b0 24 v) (h : DataW.Trod enc Try.prog W 0 (fun _=>true) true 24 v d p) :
  ∃ (q : Int) (va vb vc : Value) (da db dc : DataW H) (pa pb pc : List MemPlace),v = .agg #[.int .u8 q,va,vb,vc] ∧ d = .agg [.lit (.int .u8 q),da,db,dc] ∧ p = pa ++ (pb ++ pc) ∧ (Lit.int .u8 q).wf = true ∧
   (Value.okWide Try.prog W .any b0 22 va ∧ DataW.Trod enc Try.prog W 0 (fun _=>true) true 22 va da pa) ∧ (Value.okWide Try.prog W .any b0 22 vb ∧ DataW.Trod enc Try.prog W 0 (fun _=>true) true 22 vb db pb) ∧ (Value.okWide Try.prog W .any b0 22 vc ∧ DataW.Trod enc Try.prog W 0 (fun _=>true) true 22 vc dc pc):=by
 simp only [Value.okWide,u24] at hv
 obtain ⟨cs,rfl,hsz,ts,hts,_,hrow⟩:=hv
 rw [t24] at hts
 obtain rfl:=(Option.some.inj hts).symm
 have hcs : ∃ e0 e1 e2 e3,cs = #[e0,e1,e2,e3]:=by
  have h4:=hsz.trans cl24
  obtain ⟨l⟩:=cs
  match l,h4 with
  | [a,b,c,d],_=>exact ⟨a,b,c,d,rfl⟩
 obtain ⟨e0,e1,e2,e3,rfl⟩:=hcs
 have hok : ∀ (j : Nat) (e : Value),(#[e0,e1,e2,e3] : Array Value)[j]? = some e → ([5,22,22,22] : List TypeId)[j % ([5,22,22,22] : List TypeId).length]? = some 22 → Value.okWide Try.prog W .any b0 22 e:=fun j e he ht=>by
  obtain ⟨u,hu,hk⟩:=hrow j e he
  obtain rfl : (22 : TypeId) = u:=by rw [ht] at hu; exact Option.some.inj hu
  simp only [Value.okWide,u22]
  exact hk
 have hv1:=hok 1 e1 rfl rfl
 have hv2:=hok 2 e2 rfl rfl
 have hv3:=hok 3 e3 rfl rfl
 obtain ⟨fuel,hf⟩:=h
 obtain ⟨xs,n,rfl,hx,hl,hxs,hg⟩:=DataW.trod_struct u24 hf
 match xs,hxs with
 | [x0,x1,x2,x3],_ =>
  have g0 : DataW.trod enc Try.prog W 0 (fun _=>true) true n 5 (([e0,e1,e2,e3].drop 0).take (Try.prog.cellsOf 5)) = some x0:=hg 0 _ rfl
  have g1 : DataW.trod enc Try.prog W 0 (fun _=>true) true n 22 (([e0,e1,e2,e3].drop 1).take (Try.prog.cellsOf 22)) = some x1:=hg 1 _ rfl
  have g2 : DataW.trod enc Try.prog W 0 (fun _=>true) true n 22 (([e0,e1,e2,e3].drop 2).take (Try.prog.cellsOf 22)) = some x2:=hg 2 _ rfl
  have g3 : DataW.trod enc Try.prog W 0 (fun _=>true) true n 22 (([e0,e1,e2,e3].drop 3).take (Try.prog.cellsOf 22)) = some x3:=hg 3 _ rfl
  rw [cl5] at g0
  rw [cl22] at g1 g2 g3
  obtain ⟨q,q0,rfl,w0⟩:=DataW.trod_int u5 g0
  simp at q0 g1 g2 g3
  subst q0
  simp at hx
  obtain ⟨rfl,rfl⟩:=hx
  have one : ∀ e,Value.okWide Try.prog W .any b0 22 e → e.cells.toList = [e]:=fun e he=>by
   obtain ⟨q1,q2,q3,h⟩:=okWide_slice u22 he
   rw [h]; rfl
  exact ⟨q,e1,e2,e3,x1.1,x2.1,x3.1,x1.2,x2.2,x3.2,rfl,rfl,rfl,w0,⟨hv1,n,by rw [one e1 hv1]; exact g1⟩,⟨hv2,n,by rw [one e2 hv2]; exact g2⟩,⟨hv3,n,by rw [one e3 hv3]; exact g3⟩⟩
theorem shut_lists {W' : World} {sp : Nat → Bool} {q : Int} {va vb vc : Value} {da db dc : DataW H} {pa pb pc : List MemPlace} (w0 : (Lit.int .u8 q).wf = true) (sa : va.cells.toList = [va]) (sb : vb.cells.toList = [vb]) (sc : vc.cells.toList = [vc])
  (ha : DataW.Trod enc Try.prog W' 0 sp true 22 va da pa) (hb : DataW.Trod enc Try.prog W' 0 sp true 22 vb db pb) (hc : DataW.Trod enc Try.prog W' 0 sp true 22 vc dc pc) :
  DataW.Trod enc Try.prog W' 0 sp true 24 (.agg #[.int .u8 q,va,vb,vc]) (.agg [.lit (.int .u8 q),da,db,dc]) (pa ++ (pb ++ pc)):=by
 obtain ⟨n1,h1⟩:=ha
 obtain ⟨n2,h2⟩:=hb
 obtain ⟨n3,h3⟩:=hc
 rw [sa] at h1
 rw [sb] at h2
 rw [sc] at h3
 have k1:=DataW.trod_le (show n1 ≤ n1 + n2 + n3 + 1 by omega) h1
 have k2:=DataW.trod_le (show n2 ≤ n1 + n2 + n3 + 1 by omega) h2
 have k3:=DataW.trod_le (show n3 ≤ n1 + n2 + n3 + 1 by omega) h3
 have f0:=trod_int_mk (enc:=enc) (w:=W') (base:=0) (spare:=sp) (held:=true) (n1 + n2 + n3) u5 w0
 have t:=trod_struct_mk (enc:=enc) (w:=W') (base:=0) (spare:=sp) (held:=true) (n:=n1 + n2 + n3 + 1) (cs:=[.int .u8 q,va,vb,vc]) (xs:=[(.lit (.int .u8 q),[]),(da,pa),(db,pb),(dc,pc)]) u24 (by rw [cl24]; rfl)
  (by simp [cl5,cl22,f0,k1,k2,k3])
 exact ⟨n1 + n2 + n3 + 1 + 1,by simpa [Value.cells] using t⟩
end
end Go.Proofs.Ytllecfhfhcmpaaa
/- Powers P of elements: the program's Pow and the reference's. -/
namespace Go.Proofs.Ytllecfhfhcmpaaa
open Go.RowKit Go.Fl Go.Ev
set_option maxRecDepth 100000
set_option linter.unusedVariables false
set_option linter.unusedSimpArgs false
set_option linter.unusedSectionVars false
theorem pow_k : (fds.all fun F=>chkPow F.p F) = true:=by kernel_rfl
section
variable {F : Gf} {b cap : Nat} {W : World}
theorem fpow_c {a : Nat} (ha : a < F.q) (h : FldAt F b cap W) : Calls Try.prog 75 #[FV F b cap,.int .i64 (a : Nat),.int .i64 (F.p : Nat)] W fun e w'=>e = .returned (.tuple #[.int .i64 (F.pow a F.p : Nat),.int .i64 0]) ∧ Below W.heap.size W w':=
 letI : Rho:=rhoN (r2 0 0)
 have o:=ops_ok h.mem
 call_of (pow_fact (v:=I (F.pow a F.p)) (ok_mem h.mem) o.ex o.mul (n:=F.p) (Nat.le_trans (by decide) (ok_mem h.mem).p2) (List.all_eq_true.1 pow_k F h.mem) ha (I_nu a) (I_nu F.p) (I_nu _)) rfl rfl (lr2 a F.p) h
end
open Go.RowKit
theorem conjugates_c {F : Gf} {b cap a : Nat} {W : World} : Calls Try.prog 61 #[FV F b cap,.int .i64 (a : Nat)] W fun e w'=>e = .returned (.func (.func 74) #[] #[.pointer (some ⟨W.heap.size + 1,0,none⟩),.pointer (some ⟨W.heap.size,0,none⟩)]) ∧ FB W.heap.size F.p F.e (FM F b cap) w' ∧ w'.cell? ⟨W.heap.size + 1,0,none⟩ = some (.int .i64 (a : Nat)) ∧ W.heap.size + 1 < w'.heap.size ∧ Below W.heap.size W w':=by
 go_enter Try.func61,Try.ntmps61
 go_wp2
 refine bodyPost_ret (v:=.func (.func 74) #[] #[.pointer (some ⟨W.heap.size + 1,0,none⟩),.pointer (some ⟨W.heap.size,0,none⟩)]) (by simp [results,Try.results61,go_sem]) rfl ⟨rfl,?_,?_,?_,?_⟩
 ·exact FB.keep (k:=W.heap.size + 1) ⟨World.cell?_alloc_at _ _ _ _ rfl,World.cell?_alloc_at _ _ _ _ rfl,World.cell?_alloc_at _ _ _ _ rfl⟩ ((Below.refl _ _).alloc (by simp) _) (by omega)
 ·exact World.cell?_alloc_at _ _ _ _ (by simp)
 ·simp
 ·exact ((Below.refl _ _).alloc (Nat.le_refl _) _).alloc (by simp) _
end Go.Proofs.Ytllecfhfhcmpaaa
/- What the law of interpolation takes: its places, two rows of the call's own, append as a step that says where the row lies. -/
namespace Go.Proofs.Ytllecfhfhcmpaaa
open Go.RowKit Go.Fl
set_option maxRecDepth 100000
set_option linter.unusedVariables false
set_option linter.unusedSimpArgs false
set_option linter.unusedSectionVars false
structure TR (B : Nat) (vx vy : Value) (X Y : List Nat) (w : World) : Prop where
 x : w.ownsRow B 3 1 vx X.length (X.map N64)
 y : w.ownsRow B 3 1 vy Y.length (Y.map N64)
 bx : ∃ g,vx.ownBlock = some g
 b2 : ∃ g,vy.ownBlock = some g
 ne : vx.ownBlock ≠ vy.ownBlock
section
variable {B : Nat} {vx vy : Value} {X Y : List Nat} {w w' : World}
theorem TR.below (h : TR B vx vy X Y w) (hb : Below w.heap.size w w') : TR B vx vy X Y w':=⟨own_belowK h.x hb,own_belowK h.y hb,h.bx,h.b2,h.ne⟩
end
theorem TR.new (w : World) : TR w.heap.size (.slice (some ⟨w.heap.size,0,none⟩) 0 0) (.slice (some ⟨w.heap.size + 1,0,none⟩) 0 0) [] [] ((w.alloc (.cells #[] 3)).alloc (.cells #[] 3)):=by
 have h1 : (w.alloc (.cells #[] 3)).ownsRow w.heap.size 3 1 (.slice (some ⟨w.heap.size,0,none⟩) 0 0) 0 []:=World.ownsRow_made (base:=w.heap.size) (e:=3) (size:=1) w #[] 0 (by simp) (Nat.zero_le _) rfl
 have h2 : ((w.alloc (.cells #[] 3)).alloc (.cells #[] 3)).ownsRow w.heap.size 3 1 (.slice (some ⟨(w.alloc (.cells #[] 3)).heap.size,0,none⟩) 0 0) 0 []:=World.ownsRow_made (base:=w.heap.size) (e:=3) (size:=1) (w.alloc (.cells #[] 3)) #[] 0 (by simp) (Nat.zero_le _) rfl
 have e : (w.alloc (.cells #[] 3)).heap.size = w.heap.size + 1:=by simp
 rw [e] at h2
 exact ⟨h1.alloc _,h2,⟨_,rfl⟩,⟨_,rfl⟩,by simp [Value.ownBlock]⟩
abbrev SJ (W : World) (gF : Nat) (p q : Int) (m : Value) (gX gY x0 y0 : Nat) (w : World) : Prop:=
 FB gF p q m w ∧ w.cell? ⟨gX,0,none⟩ = some (.int .i64 (x0 : Nat)) ∧ w.cell? ⟨gY,0,none⟩ = some (.int .i64 (y0 : Nat)) ∧ Hid (Below W.heap.size W w) ∧ Hid (W.heap.size ≤ gX ∧ W.heap.size ≤ gY ∧ gF < w.heap.size ∧ gX < w.heap.size ∧ gY < w.heap.size ∧ gF ≠ gX ∧ gF ≠ gY ∧ gX ≠ gY)
section
variable {W w w' : World} {gF gX gY x0 y0 : Nat} {p q : Int} {m : Value}
theorem SJ.keep (h : SJ W gF p q m gX gY x0 y0 w) (hb : Below w.heap.size w w') : SJ W gF p q m gX gY x0 y0 w':=by
 obtain ⟨h1,h2,h3,h4,h5⟩:=h
 have:=h5.out
 have:=h4.out.size
 have hs:=hb.size
 exact ⟨FB.keep h1 hb (by omega),(hb.cell (p:=⟨gX,0,none⟩) (by show gX < _; omega)).trans h2,(hb.cell (p:=⟨gY,0,none⟩) (by show gY < _; omega)).trans h3,Lib.hid (h4.out.trans (hb.mono (by omega))),Lib.hid (by omega)⟩
theorem grown_cell {g b o : Nat} (hg : w.grownBy w' (some g)) (hb : b < w.heap.size) (hne : b ≠ g) : w'.cell? ⟨b,o,none⟩ = w.cell? ⟨b,o,none⟩:=World.cell?_of_block (w:=w) (hg.block b hb (by simpa using hne))
theorem SJ.grow {g n : Nat} (h : SJ W gF p q m gX gY x0 y0 w) (hg : w.grownBy w' (some g)) (hgg : g = gX ∨ g = gY) (hc : ∀ j,j < n → w'.cell? ⟨g,j,none⟩ = w.cell? ⟨g,j,none⟩) (hn : 0 < n) : SJ W gF p q m gX gY x0 y0 w':=by
 obtain ⟨⟨a1,a2,a3⟩,h2,h3,h4,h5⟩:=h
 obtain ⟨b1,b2,b3,b4,b5,b6,b7,b8⟩:=h5.out
 have hs:=hg.size
 have hF : gF ≠ g:=by rcases hgg with rfl | rfl <;> omega
 have c1 : w'.cell? ⟨gX,0,none⟩ = some (.int .i64 (x0 : Nat)):=by
  by_cases e : gX = g
  ·subst e; exact (hc 0 hn).trans h2
  ·exact (grown_cell hg b4 e).trans h2
 have c2 : w'.cell? ⟨gY,0,none⟩ = some (.int .i64 (y0 : Nat)):=by
  by_cases e : gY = g
  ·subst e; exact (hc 0 hn).trans h3
  ·exact (grown_cell hg b5 e).trans h3
 exact ⟨⟨(grown_cell hg b3 hF).trans a1,(grown_cell hg b3 hF).trans a2,(grown_cell hg b3 hF).trans a3⟩,c1,c2,Lib.hid (h4.out.grown hg h4.out.size (fun k hk=>by cases hk; rcases hgg with rfl | rfl <;> omega)),Lib.hid ⟨b1,b2,by omega,by omega,by omega,b6,b7,b8⟩⟩
end
abbrev KB (B : Nat) (c0 c1 : Nat) (w : World) : Prop:=w.cell? ⟨B,0,none⟩ = some (.int .u8 (c0 : Nat)) ∧ w.cell? ⟨B,1,none⟩ = some (.int .u8 (c1 : Nat))
theorem KB.keep {B k c0 c1 : Nat} {w w' : World} (h : KB B c0 c1 w) (hb : Below k w w') (hk : B < k) : KB B c0 c1 w':=⟨(hb.cell hk).trans h.1,(hb.cell hk).trans h.2⟩
end Go.Proofs.Ytllecfhfhcmpaaa
/- The iterator of conjugates: its contract. -/
namespace Go.Proofs.Ytllecfhfhcmpaaa
open Go.RowKit Go.Fl Go.Shelf
attribute [local go_sem] Oper.semAt_some
set_option maxRecDepth 100000
set_option linter.unusedVariables false
set_option linter.unusedSimpArgs false
set_option linter.unusedSectionVars false
abbrev El (F : Gf) : Type:={v : Nat // v < F.q}
section
variable {F : Gf} [H : OkC F]
def frF (c : El F) : El F:=⟨F.pow c.1 F.p,H.ok.pow_lt _ _⟩
def conjF (a : El F) : Nat → El F → List (El F)
 | 0,_=>[]
 | k + 1,c=>c :: (bif Nat.beq (F.pow c.1 F.p) a.1 then [] else conjF a k (frF c))
theorem conjF_succ (a : El F) (k : Nat) (c : El F) : conjF a (k + 1) c = c :: (bif Nat.beq (F.pow c.1 F.p) a.1 then [] else conjF a k (frF c)):=rfl
theorem conjF_map (a : El F) : ∀ k c,(conjF a k c).map (·.1) = conjTo F a.1 k c.1
 | 0,_=>rfl
 | k + 1,c=>by
  unfold conjF conjTo
  cases Nat.beq (F.pow c.1 F.p) a.1 with
  | true=>rfl
  | false =>
   show c.1 :: (conjF a k (frF c)).map (·.1) = c.1 :: conjTo F a.1 k (F.pow c.1 F.p)
   rw [conjF_map a k (frF c)]; rfl
end
structure It (F : Gf) (b cap gf ga a : Nat) (w : World) : Prop where
 fb : FB gf F.p F.e (FM F b cap) w
 ca : w.cell? ⟨ga,0,none⟩ = some (.int .i64 (a : Nat))
 fl : FldAt F b cap w
 lf : gf < w.heap.size
 la : ga < w.heap.size
theorem It.keep {F : Gf} {b cap gf ga a : Nat} {w w' : World} (h : It F b cap gf ga a w) (hb : Below w.heap.size w w') : It F b cap gf ga a w':=
 ⟨FB.keep h.fb hb h.lf,(hb.cell (p:=⟨ga,0,none⟩) h.la).trans h.ca,h.fl.below hb,Nat.lt_of_lt_of_le h.lf hb.size,Nat.lt_of_lt_of_le h.la hb.size⟩
theorem It.blocks {F : Gf} {b cap gf ga a : Nat} {w w' : World} (h : It F b cap gf ga a w) (hs : w.heap.size ≤ w'.heap.size) (h1 : w'.heap[gf]? = w.heap[gf]?) (h2 : w'.heap[ga]? = w.heap[ga]?) (h3 : w'.heap[b]? = w.heap[b]?) : It F b cap gf ga a w':=by
 obtain ⟨c,e,fz,k1,k2,k3⟩:=h.fl.blk
 obtain ⟨f0,f1,f2⟩:=h.fb
 exact ⟨⟨(World.cell?_of_block (w:=w) h1).trans f0,(World.cell?_of_block (w:=w) h1).trans f1,(World.cell?_of_block (w:=w) h1).trans f2⟩,(World.cell?_of_block (w:=w) h2).trans h.ca,⟨h.fl.mem,h.fl.le,c,e,fz,h3.trans k1,k2,k3⟩,Nat.lt_of_lt_of_le h.lf hs,Nat.lt_of_lt_of_le h.la hs⟩
theorem below_grown {w w' : World} (h : Below w.heap.size w w') : w.grownBy w' none:=⟨h.os,h.tape,h.output,h.size,fun k hk _=>h.block k hk⟩
set_option maxHeartbeats 6400000 in
theorem iter_in {F : Gf} [H : OkC F] {b cap gf ga B0 : Nat} (n l : Nat) (hn : 1 ≤ n) (a : El F) (J Jx : List (El F) → World → Prop) (hJ : AbidesFrom B0 J)
  (hY : ∀ pre x W1,J pre W1 → pre.length < (conjF a F.e a).length → YieldAt Fence.wide (n - 1) Try.prog l #[.int .i64 (x.1 : Nat)] W1 fun e W' =>
   (e = .returned (.bool true) ∧ J (pre ++ [x]) W' ∧ (It F b cap gf ga a.1 W1 → It F b cap gf ga a.1 W')) ∨ (e = .returned (.bool false) ∧ Jx (pre ++ [x]) W'))
  (W : World) (hI : It F b cap gf ga a.1 W) (h0 : J [] W) :
  CallsIn Fence.wide n Try.prog 74 #[.func (.yield l) #[] #[],.pointer (some ⟨ga,0,none⟩),.pointer (some ⟨gf,0,none⟩)] W fun e W'=>(∃ v,e = .returned v) ∧
   ((∃ ys,ys = conjF a F.e a ∧ J ys W') ∨ (∃ pre,pre <+: conjF a F.e a ∧ Jx pre W')):=by
 have hca:=hI.ca
 obtain ⟨f0,f1,f2⟩:=hI.fb
 have hp64:=(ok_small H.ok).1
 have he6:=(ok_small H.ok).2
 refine callsIn_of_wp Try.func74 rfl trivial ?_ rfl
 simp only [Try.ntmps74,List.size_toArray,List.length_cons,List.length_nil,Nat.reduceAdd,Nat.reduceSub,Array.replicate_succ,Array.replicate_zero,List.push_toArray,List.append_toArray,List.nil_append,List.cons_append]
 gi_wp2
 gi_loopw [4,5,9] (fun c e i wr=>∃ (pre : List (El F)) (k : Nat) (x : El F),k ≤ F.e ∧ c = .int .i64 (x.1 : Nat) ∧ i = .int .i64 (k : Nat) ∧ conjF a F.e a = pre ++ conjF a (F.e - k) x ∧ J pre wr ∧ Hid (It F b cap gf ga a.1 wr)) (fun _ _ i _=>F.e - (intOf i).toNat)
 case atStart=>exact ⟨[],0,a,Nat.zero_le _,rfl,rfl,rfl,h0,Lib.hid hI⟩
 case round =>
  obtain ⟨pre,k,x,hk,rfl,rfl,hx,hJs,HI⟩:=hrel
  by_cases hlt : k < F.e
  ·have hlti : (k : Int) < (F.e : Int):=by omega
   obtain ⟨m,hm⟩ : ∃ m,F.e - k = m + 1:=⟨F.e - k - 1,by omega⟩
   rw [hm] at hx
   obtain ⟨xv,hxv⟩ : ∃ v,x.1 = v:=⟨_,rfl⟩
   obtain ⟨fn,tmps,assign,body,hy,hR⟩:=hY pre x wr hJs (by rw [hx,conjF_succ]; simp)
   rw [hxv] at hy
   have hca2:=HI.out.ca
   obtain ⟨f0,f1,f2⟩:=HI.out.fb
   have HX:=Lib.hid hx
   have HXV:=Lib.hid hxv
   have HM:=Lib.hid hm
   have HYY:=Lib.hid hY
   have HJ:=Lib.hid hJ
   rw [hxv]
   clear hx hxv hm hY hk
   gi_wp2
   refine hR.mono ?_
   rintro e W3 (⟨rfl,hJ3,hk3⟩ | ⟨rfl,hJx3⟩)
   ·have HI3:=Lib.hid (hk3 HI.out)
    have HJ3:=Lib.hid hJ3
    have hca3:=HI3.out.ca
    obtain ⟨g0,g1,g2⟩:=HI3.out.fb
    have hxq : xv < F.q:=by rw [← HXV.out]; exact x.2
    clear hca2 f0 f1 f2 hJs hJ3 hk3 hR hy
    obtain ⟨y,HYV⟩ : ∃ y,Hid (F.pow xv F.p = y):=⟨_,Lib.hid rfl⟩
    have HPW : Hid (Calls Try.prog 75 #[FV F b cap,.int .i64 (xv : Nat),.int .i64 (F.p : Nat)] W3 fun e w'=>e = .returned (.tuple #[.int .i64 (y : Nat),.int .i64 0]) ∧ Below W3.heap.size W3 w'):=Lib.hid (by rw [← HYV.out]; exact fpow_c hxq HI3.out.fl)
    by_cases hya : y = a.1
    ·have hyb : ((y : Int) == (a.1 : Int)) = true:=beq_iff_eq.2 (by rw [hya])
     have HE : Hid (conjF a F.e a = pre ++ [x]):=Lib.hid (by
      rw [HX.out,conjF_succ,HXV.out,HYV.out,hya]
      have : Nat.beq a.1 a.1 = true:=Nat.beq_refl _
      rw [this]; rfl)
     clear hya
     gi_wp2_with (refine ⟨trivial,?_⟩; gi_at_call 75; refine (callsIn_wide.2 HPW.out).mono ?_; rintro e w4 ⟨rfl,hb⟩; have hca4:=(HI3.out.keep hb).ca; have HJ4:=Lib.hid (HJ.out _ _ _ none HJ3.out (below_grown hb) (fun r e=>by cases e)); have HI4:=Lib.hid (HI3.out.keep hb); clear hb)
     refine bodyPost_ret (results_none rfl _ _ _) rfl ?_
     exact ⟨⟨_,rfl⟩,.inl (by rw [HE.out]; exact ⟨_,rfl,HJ4.out⟩)⟩
    ·have hyb : ((y : Int) == (a.1 : Int)) = false:=beq_eq_false_iff_ne.2 (fun e=>hya (Int.ofNat_inj.1 e))
     have HE : Hid (conjF a F.e a = (pre ++ [x]) ++ conjF a (F.e - (k + 1)) (frF x)):=Lib.hid (by
      rw [HX.out,conjF_succ,HXV.out,HYV.out]
      have : Nat.beq y a.1 = false:=by
       cases hb : Nat.beq y a.1 with
       | true=>exact (hya (Nat.eq_of_beq_eq_true hb)).elim
       | false=>rfl
      rw [this,show F.e - (k + 1) = m by have:=HM.out; omega,List.append_assoc]; rfl)
     have HFR : Hid ((frF x).1 = y):=Lib.hid (by rw [← HYV.out,← HXV.out]; rfl)
     clear hya
     gi_wp2_with (refine ⟨trivial,?_⟩; gi_at_call 75; refine (callsIn_wide.2 HPW.out).mono ?_; rintro e w4 ⟨rfl,hb⟩; have hca4:=(HI3.out.keep hb).ca; have HJ4:=Lib.hid (HJ.out _ _ _ none HJ3.out (below_grown hb) (fun r e=>by cases e)); have HI4:=Lib.hid (HI3.out.keep hb); clear hb)
     go_roundw
     case rel=>exact ⟨pre ++ [x],k + 1,frF x,by omega,by rw [HFR.out],by go_num,HE.out,HJ4.out,HI4⟩
     case measure=>simp [intOf]; omega
   ·gi_wp2
    refine bodyPost_ret (results_none rfl _ _ _) rfl ?_
    exact ⟨⟨_,rfl⟩,.inr ⟨pre ++ [x],⟨bif Nat.beq (F.pow x.1 F.p) a.1 then [] else conjF a m (frF x),by rw [HX.out,conjF_succ]; simp⟩,hJx3⟩⟩
  ·have hlt1 : ¬ (k : Int) < (F.e : Int):=by omega
   have HE : Hid (conjF a F.e a = pre):=Lib.hid (by rw [hx,show F.e - k = 0 by omega]; unfold conjF; simp)
   clear hx hY hk
   gi_wp2
   go_end0
   exact ⟨⟨_,rfl⟩,.inl (by rw [HE.out]; exact hJs)⟩
theorem conj_stops {F : Gf} [H : OkC F] {b cap gf ga : Nat} (n : Nat) (hn : 1 ≤ n) (a : El F) (w : World) (hI : It F b cap gf ga a.1 w) :
  SeqStopsK Fence.wide n Try.prog 74 #[.pointer (some ⟨ga,0,none⟩),.pointer (some ⟨gf,0,none⟩)] (fun x : El F=>#[.int .i64 (x.1 : Nat)]) (fun A B=>It F b cap gf ga a.1 A → It F b cap gf ga a.1 B) (fun ys=>ys = conjF a F.e a) (fun pre=>pre <+: conjF a F.e a) (conjF a F.e a).length w:=fun l J Jx W hW hJ _ hY h0 =>
 iter_in n l hn a J Jx hJ hY W (hI.keep hW) h0
attribute [local go_sem] Oper.semAt_some
set_option maxRecDepth 100000
set_option linter.unusedVariables false
set_option linter.unusedSimpArgs false
set_option linter.unusedSectionVars false
abbrev SMn (F : Gf) (b cap : Nat) (W : World) (gp : Nat) (P : List Nat) (ap : Option Addr) (cp : Nat) (wS : World) (w : World) : Prop:=
 FB W.heap.size F.p F.e (FM F b cap) w ∧ PB gp F.p F.e (FM F b cap) (.slice ap P.length cp) w ∧ Hid (II F b cap W gp [] [] P none none ap 0 0 cp w) ∧ Hid (Below wS.heap.size wS w)
theorem SMn.keep {F : Gf} {b cap : Nat} {W : World} {gp : Nat} {P : List Nat} {ap : Option Addr} {cp : Nat} {wS w w' : World} (h : SMn F b cap W gp P ap cp wS w) (hb : Below w.heap.size w w') : SMn F b cap W gp P ap cp wS w':=by
 have h2:=h.2.2.1.out.keep hb
 exact ⟨h2.fb,h2.pb,Lib.hid h2,Lib.hid (h.2.2.2.out.trans (hb.mono h.2.2.2.out.size))⟩
theorem NN.grown {L : List Nat} {w w' : World} {v : Value} {row : Option Nat} (h : NN L w v) (hg : w.grownBy w' row) (hr : ∀ r,row = some r → ∃ o : Obj,w.heap[r]? = some o ∧ o.isCells = false) : NN L w' v:=by
 rcases h with h | ⟨b,off,cap,h4,h5,h6,h7⟩
 ·exact .inl h
 ·exact .inr ⟨b,off,cap,h4,h5,Nat.lt_of_lt_of_le h6 hg.size,fun t ht=>cell_kept (h7 t ht) hg hr⟩
theorem II.grown {F : Gf} {b cap : Nat} {W : World} {gp : Nat} {P : List Nat} {ap : Option Addr} {cp : Nat} {w w' : World} {row : Option Nat} (h : II F b cap W gp [] [] P none none ap 0 0 cp w) (hg : w.grownBy w' row) (hr : ∀ r,row = some r → W.heap.size ≤ r ∧ ∃ o : Obj,w.heap[r]? = some o ∧ o.isCells = false) : II F b cap W gp [] [] P none none ap 0 0 cp w':=by
 have hr2 : ∀ r,row = some r → ∃ o : Obj,w.heap[r]? = some o ∧ o.isCells = false:=fun r e=>(hr r e).2
 obtain ⟨p0,p1,p2,p3⟩:=h.pb
 obtain ⟨f0,f1,f2⟩:=h.fb
 have hbk : w'.heap[gp]? = w.heap[gp]?:=by
  obtain ⟨o,ho,hc⟩:=cells_of_cell p0
  exact grownBy_keeps_cells hg hr2 ho hc
 exact ⟨⟨cell_kept f0 hg hr2,cell_kept f1 hg hr2,cell_kept f2 hg hr2⟩,⟨cell_kept p0 hg hr2,cell_kept p1 hg hr2,cell_kept p2 hg hr2,cell_kept p3 hg hr2⟩,
  fun j=>(World.frozen?_of_block (w:=w) (a:=⟨gp,j,none⟩) hbk).trans (h.fz j),h.np.grown hg hr2,h.da,.inl ⟨rfl,rfl⟩,fun x o e=>(by cases e),.inl ⟨rfl,rfl⟩,fun x o e=>(by cases e),
  h.bl.grown hg h.bl.size (fun k e=>(hr k e).1),Nat.lt_of_lt_of_le h.sp hg.size,h.wp⟩
theorem lin_ok {F : Gf} (hF : Ok F) : ∀ (l p : List Nat),Po F p → Po F (l.foldl (linP F) p) ∧ (l.foldl (linP F) p).length ≤ p.length + l.length
 | [],p,hp=>⟨hp,Nat.le_refl _⟩
 | c :: l,p,hp=>by
  have h1:=mulP_po hF p [F.neg c,1]
  have hlin : Po F [F.neg c,1]:=⟨In.cons (hF.neg_lt c) (In.cons hF.one_lt In.nil),by simp [Cn]⟩
  have h2:=mulP_le hF hp hlin
  have h3:=lin_ok hF l (linP F p c) h1
  refine ⟨h3.1,Nat.le_trans h3.2 ?_⟩
  have : (linP F p c).length ≤ p.length + 1:=by unfold linP; simp at h2; omega
  simp; omega
theorem KeepsOthers.of_below {w w' : World} (h : Below w.heap.size w w') : KeepsOthers w w':=⟨h.size,fun k o ho _=>(h.block k (Array.getElem?_eq_some_iff.1 ho).1).trans ho⟩
theorem conjF_len {F : Gf} [H : OkC F] (a : El F) : ∀ k c,(conjF a k c).length ≤ k
 | 0,_=>Nat.le_refl _
 | k + 1,c=>by
  rw [conjF_succ]
  have:=conjF_len a k (frF c)
  cases Nat.beq (F.pow c.1 F.p) a.1 <;> simp <;> exact this
abbrev ppL (F : Gf) (pre : List (El F)) : List Nat:=(pre.map (·.1)).foldl (linP F) [1]
set_option maxHeartbeats 12800000 in
theorem minimal_c {F : Gf} [H : OkC F] {b cap : Nat} {W : World} (a : El F) (h : FldAt F b cap W) : Calls Try.prog 31 #[FV F b cap,.int .i64 (a.1 : Nat)] W (SlPost (minL F a.1) W):=by
 have HFA:=Lib.hid h
 have HB0 : Hid (Below W.heap.size W ((W.alloc (.cells #[.int .i64 F.p,.int .i64 F.e,FM F b cap] 28)).alloc (.cells #[.int .i64 1] 3))):=Lib.hid (((Below.refl _ _).alloc (Nat.le_refl _) _).alloc (by simp) _)
 have HFB0 : Hid (FB W.heap.size F.p F.e (FM F b cap) ((W.alloc (.cells #[.int .i64 F.p,.int .i64 F.e,FM F b cap] 28)).alloc (.cells #[.int .i64 1] 3))):=Lib.hid (by
  have h0 : FB W.heap.size F.p F.e (FM F b cap) (W.alloc (.cells #[.int .i64 F.p,.int .i64 F.e,FM F b cap] 28)):=by simp [FB]
  exact FB.keep (k:=W.heap.size + 1) h0 ((Below.refl _ _).alloc (by simp) _) (by omega))
 have HN0 : Hid (NN [1] ((W.alloc (.cells #[.int .i64 F.p,.int .i64 F.e,FM F b cap] 28)).alloc (.cells #[.int .i64 1] 3)) (.slice (some ⟨W.heap.size + 1,0,none⟩) 1 1)):=Lib.hid (by
  have e : W.heap.size + 1 = (W.alloc (.cells #[.int .i64 F.p,.int .i64 F.e,FM F b cap] 28)).heap.size:=by simp
  rw [e]
  exact nn_new rfl rfl)
 have HZ0 : Hid (((W.alloc (.cells #[.int .i64 F.p,.int .i64 F.e,FM F b cap] 28)).alloc (.cells #[.int .i64 1] 3)).heap.size = W.heap.size + 2):=Lib.hid (by simp)
 have hp64:=(ok_small H.ok).1
 have he6:=(ok_small H.ok).2
 clear h
 refine (callsIn_wide (n:=3)).1 ?_
 refine callsIn_of_wp_marks Try.func31 rfl trivial ?_ rfl
 simp only [Try.ntmps31,List.size_toArray,List.length_cons,List.length_nil,Nat.reduceAdd,Nat.reduceSub,Array.replicate_succ,Array.replicate_zero,List.push_toArray,List.append_toArray,List.nil_append,List.cons_append]
 gi_wp2_with fail
 refine ⟨trivial,?_⟩
 refine CallsIn.mono (callsIn_wide.2 (over_c (L:=[1]) (n:=1) (by simp) rfl HN0.out)) ?_
 rintro z w1 ⟨rfl,hb1⟩
 have HB1:=Lib.hid (HB0.out.trans (hb1.mono HB0.out.size))
 have HFB1:=Lib.hid (FB.keep HFB0.out hb1 (by rw [HZ0.out]; omega))
 have HN1:=Lib.hid (HN0.out.below hb1)
 have HZ1 : Hid (W.heap.size + 2 ≤ w1.heap.size):=Lib.hid (by rw [← HZ0.out]; exact hb1.size)
 clear hb1 HB0 HFB0 HN0 HZ0
 have HI1 : Hid (II F b cap W w1.heap.size [] [] [1] none none (some ⟨W.heap.size + 1,0,none⟩) 0 0 1 (w1.alloc (.cells #[.int .i64 F.p,.int .i64 F.e,FM F b cap,.slice (some ⟨W.heap.size + 1,0,none⟩) 1 1] 61))):=Lib.hid (by
  have ha : Below w1.heap.size w1 (w1.alloc (.cells #[.int .i64 F.p,.int .i64 F.e,FM F b cap,.slice (some ⟨W.heap.size + 1,0,none⟩) 1 1] 61)):=(Below.refl _ _).alloc (Nat.le_refl _) _
  have hz:=HZ1.out
  exact ⟨FB.keep HFB1.out ha (by omega),pb_at _ _ _ _ _,fun j=>World.frozen?_alloc_at _ _ _ _ rfl,HN1.out.below ha,fun x o e=>(by cases e; omega),.inl ⟨rfl,rfl⟩,fun x o e=>(by cases e),.inl ⟨rfl,rfl⟩,fun x o e=>(by cases e),
   HB1.out.trans (ha.mono (by omega)),by simp,by omega⟩)
 obtain ⟨gp,hgp⟩ : ∃ gp,gp = w1.heap.size:=⟨_,rfl⟩
 rw [← hgp] at HI1
 have HGP:=Lib.hid hgp
 clear hgp HFB1 HN1 HB1
 have ht1 : (trL [1]).length = 1:=by decide
 obtain ⟨f0,f1,f2⟩:=HI1.out.fb
 gi_wp2_with fail
 rw [← HGP.out]
 refine ⟨trivial,?_⟩
 refine CallsIn.mono (callsIn_wide.2 conjugates_c) ?_
 rintro z w2 ⟨rfl,hfb,hca,hsz,hb2⟩
 have HI2:=Lib.hid (HI1.out.keep hb2)
 have hgs : (w1.alloc (.cells #[.int .i64 F.p,.int .i64 F.e,FM F b cap,.slice (some ⟨W.heap.size + 1,0,none⟩) 1 1] 61)).heap.size = w1.heap.size + 1:=by simp
 obtain ⟨gf,hgf⟩ : ∃ gf,gf = w1.heap.size + 1:=⟨_,rfl⟩
 rw [hgs,← hgf] at hfb hca hsz
 have HGG : Hid (gp < gf ∧ W.heap.size < gp):=Lib.hid (by have:=HI1.out.wp; have:=HGP.out; omega)
 have HIT : Hid (It F b cap gf (gf + 1) a.1 w2):=Lib.hid ⟨hfb,hca,HFA.out.below HI2.out.bl,by omega,hsz⟩
 have HGF:=Lib.hid hgf
 clear hfb hca hsz hb2 hgf hgs HI1 f0 f1 f2
 gi_wp2_with fail
 rw [← HGF.out]
 refine wpIn_rangeFunc_ownF (n:=3) rfl (by decide) (gf:=74) (lb:=#[.pointer (some ⟨gf + 1,0,none⟩),.pointer (some ⟨gf,0,none⟩)]) rfl trivial (enters_of Try.func74 (by kernel_rfl) rfl)
  (conj_stops 2 (by decide) a _ HIT.out) (fun h k x=>k (h x)) ?kb (Below.refl _ _) (fun _=>rfl)
  (fun pre W'=>∃ ap cp,II F b cap W gp [] [] (ppL F pre) none none ap 0 0 cp W')
  (fun _ _ _=>False)
  (fun s A B row hs hg hr=>hs.elim fun ap hs=>hs.elim fun cp hs=>⟨ap,cp,hs.grown hg (fun r e=>⟨by have:=(hr r e).1; have:=HI2.out.bl.size; omega,(hr r e).2⟩)⟩)
  (fun _ _ _ _ _ hs _ _=>hs)
  ⟨_,_,HI2.out⟩ ?a1 ?assign ?body ?done ?stop
 case kb =>
  intro A l o o' hl ho h1 h2 hA
  have hs:=HIT.out.la
  have hb:=HFA.out.lt
  have h3:=HI2.out.bl.size
  exact hA.blocks (by simp) (World.putObj_heap_other (by omega)) (World.putObj_heap_other (by omega)) (World.putObj_heap_other (by omega))
 case assign =>
  intro l x A K hK
  gi_wp2
  exact hK
 case stop =>
  rintro D c pre A _ _ h _
  exact h.elim
 case done =>
  rintro D ys A hD rfl ⟨ap,cp,hI⟩ hK
  have HI3:=Lib.hid hI
  have HL : Hid (ppL F (conjF a F.e a) = minL F a.1):=Lib.hid (by unfold ppL minL conjL; rw [conjF_map])
  rw [HL.out] at HI3
  obtain ⟨p0,p1,p2,p3⟩:=HI3.out.pb
  clear hI HL
  gi_wp2
  refine ⟨by simp,.inl ⟨_,_,rfl,run_takeDeferred hK,?_⟩⟩
  have hI4:=HI3.out.grown (grownBy_putObj' A D (.deferred none)) (fun r e=>by cases e; exact ⟨by have:=HI2.out.bl.size; omega,_,hK,rfl⟩)
  exact ⟨_,results_tmp rfl _ _ _,ap,cp,rfl,hI4.np,hI4.bl⟩
 case body =>
  rintro l pre x A ⟨ap,cp,hI⟩ hlen
  have HI:=Lib.hid hI
  have HPP : Hid (Po F (ppL F pre) ∧ (ppL F pre).length ≤ 100):=Lib.hid (by
   have h1:=lin_ok H.ok (pre.map (·.1)) [1] ⟨In.cons H.ok.one_lt In.nil,by simp [Cn]⟩
   have h2:=conjF_len a F.e a
   have h3:=h1.2
   rw [List.length_map] at h3
   simp at h3
   exact ⟨h1.1,Nat.le_trans h3 (by omega)⟩)
  have HNXT : Hid (mulP F (ppL F pre) [F.neg x.1,1] = ppL F (pre ++ [x])):=Lib.hid (by
   unfold ppL
   rw [List.map_append,List.foldl_append]; rfl)
  obtain ⟨xv,hxv⟩ : ∃ v,x.1 = v:=⟨_,rfl⟩
  have hxq : xv < F.q:=by rw [← hxv]; exact x.2
  rw [hxv] at HNXT
  obtain ⟨PN,HPN⟩ : ∃ l,Hid (ppL F (pre ++ [x]) = l):=⟨_,Lib.hid rfl⟩
  rw [HPN.out] at HNXT
  have hIg : ∀ (W' : World) ap' cp',II F b cap W gp [] [] PN none none ap' 0 0 cp' W' → ∃ ap cp,II F b cap W gp [] [] (ppL F (pre ++ [x])) none none ap 0 0 cp W':=fun W' ap' cp' h=>⟨ap',cp',by rw [HPN.out]; exact h⟩
  have HIG:=Lib.hid hIg
  generalize ppL F pre = P at *
  clear hI hlen hIg
  refine wpIn_block ?_
  rw [hxv]
  have hS0 : SMn F b cap W gp P ap cp A A.drew:=SMn.keep ⟨HI.out.fb,HI.out.pb,HI,Lib.hid (Below.refl _ _)⟩ (Below.refl _ _).drew
  obtain ⟨L1,hL1⟩ : ∃ L,Hid ([F.neg xv,1] = L):=⟨_,rfl⟩
  have H1 : Hid (Po F L1 ∧ L1.length = 2):=Lib.hid (by rw [← hL1.out]; exact ⟨lin_po H.ok xv,rfl⟩)
  have HL2 : Hid (mulP F P L1 = PN):=Lib.hid (by rw [← hL1.out]; exact HNXT.out)
  clear HNXT
  refine Go.Rg.region_pre_in (n0:=5) (fl:=6) (m:=1) (M:=#[true,true,true,true,true,false]) (S:=fun w'=>SMn F b cap W gp P ap cp A w') (R:=fun w w'=>Below w.heap.size w w') (φ:=ph F b cap [.eq (PF F b cap ap P.length cp),.eq (FV F b cap),.eq (.int .i64 (xv : Nat)),.pn (gp + 1) (L1),.pn (gp + 1) (PN)]) (ψ:=psi [.eq (PF F b cap ap P.length cp),.eq (FV F b cap),.eq (.int .i64 (xv : Nat)),.pn (gp + 1) (L1),.pn (gp + 1) (PN)]) (χ:=chi [.eq (PF F b cap ap P.length cp),.eq (FV F b cap),.eq (.int .i64 (xv : Nat)),.pn (gp + 1) (L1),.pn (gp + 1) (PN)]) (by kernel_rfl) (by kernel_rfl) (fun hLO=>hLO.elim fun _ h=>h.elim fun _ h=>h) (ph_mono _) (psi_sep _) (by decide) (by kernel_rfl) (by kernel_rfl) (by kernel_rfl) (by kernel_rfl) (by kernel_rfl) (fun h=>absurd h (by decide)) (by rfl) (hS0) ?steps ?fin
  case steps =>
   refine ⟨fun a w hat K hK=>?_,?_⟩
   ·have e5 : a.tmps[5]?.getD undef = .pointer (some ⟨gp,0,none⟩):=hat.b 5 (by kernel_rfl) rfl
    have hSt:=hat.st
    rw [if_pos (by rfl)]
    go_simp
    exact hK.out _ _ hSt (Below.refl _ _) rfl noB
   refine ⟨fun a w hat K hK=>?_,?_⟩
   ·have e2 : a.tmps[2]?.getD undef = .pointer (some ⟨W.heap.size,0,none⟩):=hat.b 2 (by kernel_rfl) rfl
    have hSt:=hat.st
    rw [if_pos (by rfl)]
    go_simp
    exact hK.out _ _ hSt (Below.refl _ _) rfl noB
   refine ⟨Go.Rg.step2_mv rfl (.inl rfl) (fun _=>Below.refl _ _) (fun _ _=>noB) (fun a w hat=>hat.b 6 (by kernel_rfl) rfl),?_⟩
   refine ⟨fun a w hat K hK=>?_,?_⟩
   ·have e15 : a.tmps[15]?.getD undef = FV F b cap:=hat.d 1 15 (by kernel_rfl) (by kernel_rfl)
    have e16 : a.tmps[16]?.getD undef = .int .i64 (xv : Nat):=hat.d 2 16 (by kernel_rfl) (by kernel_rfl)
    have hSt:=hat.st
    rw [if_pos (by rfl)]
    go_simp
    go_at_call 51
    with_reducible refine (minus_c ((HFA.out.below hSt.2.2.1.out.bl).ops) hxq).mono ?_
    rw [hL1.out]
    rintro z' v' ⟨a',c',rfl,hn',hb,hfr⟩
    exact hK.out _ _ (SMn.keep hSt hb) hb ⟨a',c',rfl,hn',fun h o e=>Nat.le_trans hSt.2.2.1.out.sp (hfr h o e)⟩ noB
   refine ⟨fun a w hat K hK=>?_,?_⟩
   ·have e14 : a.tmps[14]?.getD undef = PF F b cap ap P.length cp:=hat.d 0 14 (by kernel_rfl) (by kernel_rfl)
    obtain ⟨a17,c17,e17,n17,fr17⟩:=(show (Ke.pn (gp + 1) (L1)).ok F b cap (a.tmps[17]?.getD undef) w from hat.d 3 17 (by kernel_rfl) (by kernel_rfl))
    have hSt:=hat.st
    rw [if_pos (by rfl)]
    go_simp
    go_at_call 52
    with_reducible refine (times_c ((HFA.out.below hSt.2.2.1.out.bl).ops) HPP.out.1.el H1.out.1.el (Nat.le_trans HPP.out.2 (by decide)) (by have:=H1.out.2; omega) rfl rfl hSt.2.2.1.out.np n17).mono ?_
    rw [HL2.out]
    rintro z' v' ⟨a',c',rfl,hn',hb,hfr⟩
    exact hK.out _ _ (SMn.keep hSt hb) hb ⟨a',c',rfl,hn',fun h o e=>Nat.le_trans hSt.2.2.1.out.sp (hfr h o e)⟩ noB
   exact trivial
  case fin =>
   intro a w hsz hdf hbase hSt hval hpair hun
   obtain ⟨t,df⟩:=a
   have et:=Go.Rg.tmps_of hsz [14,15,16,17,18] (Go.Rg.rest_of (by kernel_rfl) hbase hun)
   have x14 : t.getD 14 undef = PF F b cap ap P.length cp:=hval 0 14 (by decide) (by kernel_rfl)
   have x15 : t.getD 15 undef = FV F b cap:=hval 1 15 (by decide) (by kernel_rfl)
   have x16 : t.getD 16 undef = .int .i64 (xv : Nat):=hval 2 16 (by decide) (by kernel_rfl)
   obtain ⟨p17,q17,x17,m17,fr17⟩:=(show (Ke.pn (gp + 1) (L1)).ok F b cap (t.getD 17 undef) w from hval 3 17 (by decide) (by kernel_rfl))
   obtain ⟨p18,q18,x18,m18,fr18⟩:=(show (Ke.pn (gp + 1) (PN)).ok F b cap (t.getD 18 undef) w from hval 4 18 (by decide) (by kernel_rfl))
   clear hval hbase hsz hpair hun
   simp only [List.foldl_cons,List.foldl_nil,x14,x15,x16,x17,x18] at et
   rw [et]
   have hdf' : df = _:=hdf
   rw [hdf']
   simp only [List.setIfInBounds_toArray,List.set_cons_zero,List.set_cons_succ]
   clear et hdf hdf'
   refine wpAny_of_held (S:=fun _=>True) _ _ _ _ ?_
   obtain ⟨-,⟨r0,r1,r2,r3⟩,HI3,HBA⟩:=hSt
   have u0:=HI3.out.fz 0
   have u1:=HI3.out.fz 1
   have u2:=HI3.out.fz 2
   have u3:=HI3.out.fz 3
   refine Rg.rd1 5 ⟨none,.store 61 (.tmp 5) (.tmp 18),0,"poly.go:66",#[⟨4,.data⟩,⟨4,.chain⟩,⟨0,.phase⟩,⟨1,.phase⟩,⟨2,.phase⟩,⟨3,.phase⟩,⟨4,.phase⟩],none⟩ fun K hK=>?_
   go_simp
   refine hK.out _ _ trivial (fun _=>?_)
   clear hK K
   try simp only [Rg.gp]
   obtain ⟨w9,hw9⟩ : ∃ w9,w9 = ((((w.setCell ⟨gp,0,none⟩ (.int .i64 F.p)).setCell ⟨gp,1,none⟩ (.int .i64 F.e)).setCell ⟨gp,2,none⟩ (FM F b cap)).setCell ⟨gp,3,none⟩ (.slice p18 (PN).length q18)):=⟨_,rfl⟩
   rw [← hw9]
   replace hw9:=Lib.hid hw9
   obtain ⟨hs9,hoth9,hz9,hsz9,hb9⟩:=box_put (k:=W.heap.size) ⟨r0,r1,r2,r3⟩ HI3.out.fz (by have:=HI3.out.wp; omega) hw9.out
   clear r0 r1 r2 r3 u0 u1 u2 u3
   refine wpAnyH_done (by kernel_rfl) ?_ _
   have HI4 : Hid (II F b cap W gp [] [] PN none none p18 0 0 q18 w9):=Lib.hid
    ⟨FB.othb HI3.out.fb hoth9 (by have:=HI3.out.wp; omega),hs9,hz9,m18.othb hoth9 hsz9 (fun x o e=>by have:=fr18 x o e; omega),fun x o e=>(by have:=fr18 x o e; omega),
     .inl ⟨rfl,rfl⟩,fun x o e=>(by cases e),.inl ⟨rfl,rfl⟩,fun x o e=>(by cases e),HI3.out.bl.trans hb9,by rw [hsz9]; exact HI3.out.sp,HI3.out.wp⟩
   refine (show KeepsOthers A w9 ∧ (It F b cap gf (gf + 1) a.1 A → It F b cap gf (gf + 1) a.1 w9) ∧ ∃ ap cp,II F b cap W gp [] [] (ppL F (pre ++ [x])) none none ap 0 0 cp w9 from ⟨(KeepsOthers.of_below HBA.out).trans ?_,fun hA=>?_,HIG.out _ _ _ HI4.out⟩)
   ·rw [hw9.out]
    exact (((KeepsOthers.setCell _ _ _).trans (KeepsOthers.setCell _ _ _)).trans (KeepsOthers.setCell _ _ _)).trans (KeepsOthers.setCell _ _ _)
   ·have h1:=HGG.out
    have h2:=HFA.out.lt
    exact (hA.keep HBA.out).blocks (by rw [hsz9]; exact Nat.le_refl _) (hoth9 gf (by omega)) (hoth9 (gf + 1) (by omega)) (hoth9 b (by omega))
end Go.Proofs.Ytllecfhfhcmpaaa
