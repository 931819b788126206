/- Arrays of integers by value: opened and shut. -/
import Derived.WalkKit
import Derived.ProofKit
import Derived.OpenShut
import Derived.Lib.SmallJoins
namespace Go.Ev
open Go.ChangeShapes Go.WideShapes Go.Joins
section
variable {H : Type} {enc : TypeId × Value → H} {P : Program} {w : World} {base : Nat} {sp : Nat → Bool} {held : Bool} {t e : TypeId} {k : IntKind}
theorem arrOf5 {cs : Array Value} (h : cs.size = 5) : ∃ c0 c1 c2 c3 c4,cs = #[c0,c1,c2,c3,c4]:=by
 obtain ⟨l⟩:=cs
 simp only [List.size_toArray] at h
 match l,h with
 | [c0,c1,c2,c3,c4],_=>exact ⟨c0,c1,c2,c3,c4,rfl⟩
theorem open_arr5 {r : Reach} {b0 : Nat} {v : Value} {d : DataW H} {p : List MemPlace} (hu : P.underlying t = some (.array 5 e)) (he : P.underlying e = some (.int k)) (hC : P.cellsOf t = 5) (hc : P.cellsOf e = 1)
  (hv : Value.okWide P w r b0 t v) (h : DataW.Trod enc P w base sp held t v d p) :
  ∃ a0 a1 a2 a3 a4 : Int,v = .agg #[.int k a0,.int k a1,.int k a2,.int k a3,.int k a4] ∧ d = .agg [.lit (.int k a0),.lit (.int k a1),.lit (.int k a2),.lit (.int k a3),.lit (.int k a4)] ∧ p = [] ∧ (Lit.int k a0).wf = true ∧ (Lit.int k a1).wf = true ∧ (Lit.int k a2).wf = true ∧ (Lit.int k a3).wf = true ∧ (Lit.int k a4).wf = true:=by
 simp only [Value.okWide,hu] at hv
 obtain ⟨cs,rfl,hsz,_⟩:=hv
 obtain ⟨c0,c1,c2,c3,c4,rfl⟩:=arrOf5 (hsz.trans hC)
 obtain ⟨fuel,hf⟩:=h
 cases fuel with
 | zero=>simp [DataW.trod] at hf
 | succ m =>
  rw [DataW.trod_step] at hf
  unfold DataW.trodStep at hf
  simp only [hu,Value.cells] at hf
  rw [if_pos (by rw [hC]; rfl)] at hf
  simp only [Option.map_eq_some_iff,hc] at hf
  obtain ⟨ys,hy,e1⟩:=hf
  rw [show List.range 5 = [0,1,2,3,4] from rfl] at hy
  simp only [List.mapM_cons,List.mapM_nil,bind,Option.bind_eq_some_iff,pure,Option.some.injEq] at hy
  obtain ⟨y0,h0,z0,⟨y1,h1,z1,⟨y2,h2,z2,⟨y3,h3,z3,⟨y4,h4,z4,rfl,rfl⟩,rfl⟩,rfl⟩,rfl⟩,rfl⟩:=hy
  obtain ⟨a0,ea0,rfl,wa0⟩:=DataW.trod_int he h0
  obtain ⟨a1,ea1,rfl,wa1⟩:=DataW.trod_int he h1
  obtain ⟨a2,ea2,rfl,wa2⟩:=DataW.trod_int he h2
  obtain ⟨a3,ea3,rfl,wa3⟩:=DataW.trod_int he h3
  obtain ⟨a4,ea4,rfl,wa4⟩:=DataW.trod_int he h4
  simp at ea0 ea1 ea2 ea3 ea4
  subst ea0
  subst ea1
  subst ea2
  subst ea3
  subst ea4
  simp only [Prod.mk.injEq] at e1
  exact ⟨a0,a1,a2,a3,a4,rfl,by rw [← e1.1]; rfl,by rw [← e1.2]; rfl,wa0,wa1,wa2,wa3,wa4⟩
theorem shut_arr5 {a0 a1 a2 a3 a4 : Int} (hu : P.underlying t = some (.array 5 e)) (he : P.underlying e = some (.int k)) (hC : P.cellsOf t = 5) (hc : P.cellsOf e = 1) (wa0 : (Lit.int k a0).wf = true) (wa1 : (Lit.int k a1).wf = true) (wa2 : (Lit.int k a2).wf = true) (wa3 : (Lit.int k a3).wf = true) (wa4 : (Lit.int k a4).wf = true) :
  DataW.Trod enc P w base sp held t (.agg #[.int k a0,.int k a1,.int k a2,.int k a3,.int k a4]) (.agg [.lit (.int k a0),.lit (.int k a1),.lit (.int k a2),.lit (.int k a3),.lit (.int k a4)]) []:=by
 refine ⟨2,?_⟩
 rw [DataW.trod_step]
 unfold DataW.trodStep
 simp only [hu,Value.cells]
 rw [if_pos (by rw [hC]; rfl)]
 have h0:=trod_int_mk (enc:=enc) (w:=w) (base:=base) (spare:=sp) (held:=held) 0 he wa0
 have h1:=trod_int_mk (enc:=enc) (w:=w) (base:=base) (spare:=sp) (held:=held) 0 he wa1
 have h2:=trod_int_mk (enc:=enc) (w:=w) (base:=base) (spare:=sp) (held:=held) 0 he wa2
 have h3:=trod_int_mk (enc:=enc) (w:=w) (base:=base) (spare:=sp) (held:=held) 0 he wa3
 have h4:=trod_int_mk (enc:=enc) (w:=w) (base:=base) (spare:=sp) (held:=held) 0 he wa4
 rw [show List.range 5 = [0,1,2,3,4] from rfl]
 simp [hc,h0,h1,h2,h3,h4]
end
end Go.Ev
