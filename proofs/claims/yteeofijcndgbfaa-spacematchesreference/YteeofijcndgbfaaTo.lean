/- examples of the law. -/
import Derived.Test.YteeofijcndgbfaaTn
namespace Go.Proofs.Yteeofijcndgbfaa
open Go.RowKit Go.Fl
set_option maxRecDepth 100000
set_option linter.unusedVariables false
set_option linter.unusedSimpArgs false
set_option linter.unusedSectionVars false
def A3 : List (List Nat):=[[1,1,0],[0,1,1],[1,0,1]]
def P3 : List (List Nat):=[[1,0,0],[0,1,0]]
def Q3 : List (List Nat):=[[0,1,1],[0,0,1]]
structure EV (F G : Gf) : Prop where
 tF : F ∈ fds.take 10
 tG : G ∈ fds.take 10
 qF : F.q = 2
 qG : G.q = 3
 v1 : redM F 3 A3 = [[1,0,1],[0,1,1]]
 v3 : kerM F 3 A3 = [[1,1,1]]
 v4 : solM F 3 (eqM A3 [1,0,1]) = some [1,0,0]
 v5 : solM F 3 (eqM A3 [1,0,0]) = none
 v6 : apM F 3 A3 [1,0,0] = [1,0,1]
 v7 : invM G 2 [[1,1],[1,2]] = some [[2,2],[2,1]]
 v8 : invM G 2 [[1,2],[2,1]] = none
 v9 : kerM G 3 (kerM G 3 P3 ++ kerM G 3 Q3) = [[0,1,0]]
 v10 : (redM G 3 (P3 ++ Q3)).length = 3
 v11 : hasV G 3 P3 [2,1,0] = true
 v12 : hasV G 3 P3 [0,0,1] = false
 v14 : (kerM F 2 []).length = 2
theorem ev_ok : EV (fdB 0) (fdB 1):=⟨fdB_take 0,fdB_take 1,by kernel_rfl,by kernel_rfl,by kernel_rfl,by kernel_rfl,by kernel_rfl,by kernel_rfl,by kernel_rfl,by kernel_rfl,by kernel_rfl,by kernel_rfl,by kernel_rfl,by kernel_rfl,by kernel_rfl,by kernel_rfl⟩
theorem vn_of {F : Gf} {n : Nat} {L : List Nat} (h : (decide (L.length = n) && L.all fun x=>decide (x < F.q)) = true) : Vn F n L:=by
 simp only [Bool.and_eq_true,decide_eq_true_eq,List.all_eq_true] at h
 exact ⟨h.1,h.2⟩
theorem mn_of {F : Gf} {n : Nat} {A : List (List Nat)} (h : (A.all fun L=>decide (L.length = n) && L.all fun x=>decide (x < F.q)) = true) : Mn F n A:=fun r hr=>vn_of (List.all_eq_true.1 h r hr)
section
variable {w : World} {L1 L2 L3 : List Nat} {c1 c2 c3 : Array Value} {n1 n2 n3 ty : Nat}
theorem lit0 (h1 : c1 = (L1.map N64).toArray) (e1 : n1 = L1.length) : NN L1 (w.alloc (.cells c1 3)) (.slice (some ⟨w.heap.size,0,none⟩) n1 n1) ∧ Below w.heap.size w (w.alloc (.cells c1 3)):=
 ⟨nn_new h1 e1,(Below.refl _ _).alloc (Nat.le_refl _) _⟩
theorem lit1 (h1 : c1 = (L1.map N64).toArray) (e1 : n1 = L1.length) : MM [L1] ((w.alloc (.cells c1 3)).alloc (.cells #[.slice (some ⟨w.heap.size,0,none⟩) n1 n1] ty)) (.slice (some ⟨w.heap.size + 1,0,none⟩) 1 1) ∧ Below w.heap.size w ((w.alloc (.cells c1 3)).alloc (.cells #[.slice (some ⟨w.heap.size,0,none⟩) n1 n1] ty)):=by
 have es : (w.alloc (.cells c1 3)).heap.size = w.heap.size + 1:=by simp
 have n1':=nn_new (w:=w) h1 e1
 constructor
 ·have t:=mm_new (ty:=ty) (w:=w.alloc (.cells c1 3)) (A:=[L1]) (cs:=#[.slice (some ⟨w.heap.size,0,none⟩) n1 n1]) (n:=1) rfl (fun t ht=>by
   match t,ht with
   | 0,_=>subst e1; exact ⟨_,_,rfl,n1'⟩)
  rwa [es] at t
 ·exact ((Below.refl _ _).alloc (Nat.le_refl _) _).alloc (by simp) _
theorem lit2 (h1 : c1 = (L1.map N64).toArray) (e1 : n1 = L1.length) (h2 : c2 = (L2.map N64).toArray) (e2 : n2 = L2.length) : MM [L1,L2] (((w.alloc (.cells c1 3)).alloc (.cells c2 3)).alloc (.cells #[.slice (some ⟨w.heap.size,0,none⟩) n1 n1,.slice (some ⟨w.heap.size + 1,0,none⟩) n2 n2] ty)) (.slice (some ⟨w.heap.size + 1 + 1,0,none⟩) 2 2) ∧ Below w.heap.size w (((w.alloc (.cells c1 3)).alloc (.cells c2 3)).alloc (.cells #[.slice (some ⟨w.heap.size,0,none⟩) n1 n1,.slice (some ⟨w.heap.size + 1,0,none⟩) n2 n2] ty)):=by
 have es : (w.alloc (.cells c1 3)).heap.size = w.heap.size + 1:=by simp
 have es2 : ((w.alloc (.cells c1 3)).alloc (.cells c2 3)).heap.size = w.heap.size + 1 + 1:=by simp
 have n1':=(nn_new (w:=w) h1 e1).below ((Below.refl _ _).alloc (Nat.le_refl _) (.cells c2 3))
 have n2':=nn_new (w:=w.alloc (.cells c1 3)) h2 e2
 rw [es] at n2'
 constructor
 ·have t:=mm_new (ty:=ty) (w:=(w.alloc (.cells c1 3)).alloc (.cells c2 3)) (A:=[L1,L2]) (cs:=#[.slice (some ⟨w.heap.size,0,none⟩) n1 n1,.slice (some ⟨w.heap.size + 1,0,none⟩) n2 n2]) (n:=2) rfl (fun t ht=>by
   match t,ht with
   | 0,_=>subst e1; exact ⟨_,_,rfl,n1'⟩
   | 1,_=>subst e2; exact ⟨_,_,rfl,n2'⟩)
  rwa [es2] at t
 ·exact (((Below.refl _ _).alloc (Nat.le_refl _) _).alloc (by simp) _).alloc (by simp; omega) _
theorem lit3 (h1 : c1 = (L1.map N64).toArray) (e1 : n1 = L1.length) (h2 : c2 = (L2.map N64).toArray) (e2 : n2 = L2.length) (h3 : c3 = (L3.map N64).toArray) (e3 : n3 = L3.length) : MM [L1,L2,L3] ((((w.alloc (.cells c1 3)).alloc (.cells c2 3)).alloc (.cells c3 3)).alloc (.cells #[.slice (some ⟨w.heap.size,0,none⟩) n1 n1,.slice (some ⟨w.heap.size + 1,0,none⟩) n2 n2,.slice (some ⟨w.heap.size + 1 + 1,0,none⟩) n3 n3] ty)) (.slice (some ⟨w.heap.size + 1 + 1 + 1,0,none⟩) 3 3) ∧ Below w.heap.size w ((((w.alloc (.cells c1 3)).alloc (.cells c2 3)).alloc (.cells c3 3)).alloc (.cells #[.slice (some ⟨w.heap.size,0,none⟩) n1 n1,.slice (some ⟨w.heap.size + 1,0,none⟩) n2 n2,.slice (some ⟨w.heap.size + 1 + 1,0,none⟩) n3 n3] ty)):=by
 have es : (w.alloc (.cells c1 3)).heap.size = w.heap.size + 1:=by simp
 have es2 : ((w.alloc (.cells c1 3)).alloc (.cells c2 3)).heap.size = w.heap.size + 1 + 1:=by simp
 have es3 : (((w.alloc (.cells c1 3)).alloc (.cells c2 3)).alloc (.cells c3 3)).heap.size = w.heap.size + 1 + 1 + 1:=by simp
 have al:=fun (W : World) (c : Array Value)=>(Below.refl W.heap.size W).alloc (Nat.le_refl _) (.cells c 3)
 have n1':=((nn_new (w:=w) h1 e1).below (al _ c2)).below (al _ c3)
 have n2':=(nn_new (w:=w.alloc (.cells c1 3)) h2 e2).below (al _ c3)
 have n3':=nn_new (w:=(w.alloc (.cells c1 3)).alloc (.cells c2 3)) h3 e3
 rw [es] at n2'
 rw [es2] at n3'
 constructor
 ·have t:=mm_new (ty:=ty) (w:=((w.alloc (.cells c1 3)).alloc (.cells c2 3)).alloc (.cells c3 3)) (A:=[L1,L2,L3]) (cs:=#[.slice (some ⟨w.heap.size,0,none⟩) n1 n1,.slice (some ⟨w.heap.size + 1,0,none⟩) n2 n2,.slice (some ⟨w.heap.size + 1 + 1,0,none⟩) n3 n3]) (n:=3) rfl (fun t ht=>by
   match t,ht with
   | 0,_=>subst e1; exact ⟨_,_,rfl,n1'⟩
   | 1,_=>subst e2; exact ⟨_,_,rfl,n2'⟩
   | 2,_=>subst e3; exact ⟨_,_,rfl,n3'⟩)
  rwa [es3] at t
 ·exact ((((Below.refl _ _).alloc (Nat.le_refl _) _).alloc (by simp) _).alloc (by simp; omega) _).alloc (by simp; omega) _
end
structure EX (F G : Gf) (b c b' c' B1 B2 B3 : Nat) (a3 : Option Addr) (k3 : Nat) (w : World) : Prop where
 x1 : FBx B1 F b c w
 x2 : FBx B2 G b' c' w
 x3 : MB B3 F b c 3 (.slice a3 3 k3) w
 mm : MM A3 w (.slice a3 3 k3)
 fF : FldAt F b c w
 fG : FldAt G b' c' w
 l1 : B1 < w.heap.size
 l2 : B2 < w.heap.size
 l3 : B3 < w.heap.size
theorem EX.below {F G : Gf} {b c b' c' B1 B2 B3 : Nat} {a3 : Option Addr} {k3 : Nat} {w w' : World} (h : EX F G b c b' c' B1 B2 B3 a3 k3 w) (hb : Below w.heap.size w w') : EX F G b c b' c' B1 B2 B3 a3 k3 w':=
 ⟨h.x1.below hb h.l1,h.x2.below hb h.l2,⟨(hb.cell h.l3).trans h.x3.1,(hb.cell h.l3).trans h.x3.2.1,(hb.cell h.l3).trans h.x3.2.2.1,(hb.cell h.l3).trans h.x3.2.2.2.1,(hb.cell h.l3).trans h.x3.2.2.2.2⟩,h.mm.below hb,h.fF.below hb,h.fG.below hb,Nat.lt_of_lt_of_le h.l1 hb.size,Nat.lt_of_lt_of_le h.l2 hb.size,Nat.lt_of_lt_of_le h.l3 hb.size⟩
end Go.Proofs.Yteeofijcndgbfaa
