/- Polynomials over the fields with at most 64 elements, as lists of numbers: sums, products, degrees. -/
import Derived.Test.YteeofijcndgbfaaEvY2
namespace Go.Fl
set_option linter.unusedVariables false
set_option linter.unusedSectionVars false
variable {F : Gf}
namespace Ok
theorem zero_add (h : Ok F) {a : Nat} (ha : a < F.q) : F.add 0 a = a:=by rw [Ok.add_comm]; exact h.add_zero ha
theorem one_mul (h : Ok F) {a : Nat} (ha : a < F.q) : F.mul 1 a = a:=by rw [Ok.mul_comm]; exact h.mul_one ha
theorem zero_lt (h : Ok F) : 0 < F.q:=by have:=h.q2; omega
theorem mul_add (h : Ok F) {a b c : Nat} (ha : a < F.q) (hb : b < F.q) (hc : c < F.q) : F.mul c (F.add a b) = F.add (F.mul c a) (F.mul c b):=by
 rw [Ok.mul_comm,h.add_mul ha hb hc,Ok.mul_comm a,Ok.mul_comm b]
theorem add_left_cancel (h : Ok F) {a b c : Nat} (hb : b < F.q) (hc : c < F.q) (e : F.add a b = F.add a c) : b = c:=by
 have k : ∀ x,x < F.q → F.add (F.neg a) (F.add a x) = x:=fun x hx=>by
  rw [← h.add_assoc,Ok.add_comm (F.neg a),h.add_neg,h.zero_add hx]
 rw [← k b hb,e,k c hc]
theorem sub_add (h : Ok F) {a : Nat} (ha : a < F.q) (b : Nat) : F.add (F.sub a b) b = a:=by
 unfold Gf.sub
 rw [h.add_assoc,Ok.add_comm (F.neg b),h.add_neg,h.add_zero ha]
theorem sub_zero (h : Ok F) {a : Nat} (ha : a < F.q) : F.sub a 0 = a:=by
 have:=h.sub_add ha 0
 rwa [h.add_zero (h.sub_lt _ _)] at this
theorem sub_self (h : Ok F) {a : Nat} (ha : a < F.q) : F.sub a a = 0:=h.add_neg a
end Ok
abbrev Cf:=Nat → Nat
def El (F : Gf) (f : Cf) : Prop:=∀ i,f i < F.q
def fn (l : List Nat) : Cf:=fun i=>l.getD i 0
def pz : Cf:=fun _=>0
def pa (F : Gf) (f g : Cf) : Cf:=fun i=>F.add (f i) (g i)
def ps (F : Gf) (c : Nat) (f : Cf) : Cf:=fun i=>F.mul c (f i)
def sh (f : Cf) : Cf
 | 0=>0
 | i + 1=>f i
def pm (F : Gf) : List Nat → Cf → Cf
 | [],_=>pz
 | x :: l,g=>pa F (ps F x g) (sh (pm F l g))
def In (F : Gf) (l : List Nat) : Prop:=∀ x ∈ l,x < F.q
theorem In.nil : In F []:=fun x h=>by cases h
theorem In.head {x : Nat} {l : List Nat} (h : In F (x :: l)) : x < F.q:=h x (by simp)
theorem In.tail {x : Nat} {l : List Nat} (h : In F (x :: l)) : In F l:=fun y hy=>h y (by simp [hy])
theorem In.cons {x : Nat} {l : List Nat} (h : x < F.q) (hl : In F l) : In F (x :: l):=fun y hy=>by
 rcases List.mem_cons.1 hy with rfl | hy
 ·exact h
 ·exact hl y hy
theorem In.take {l : List Nat} (h : In F l) (k : Nat) : In F (l.take k):=fun y hy=>h y (List.mem_of_mem_take hy)
theorem In.drop {l : List Nat} (h : In F l) (k : Nat) : In F (l.drop k):=fun y hy=>h y (List.mem_of_mem_drop hy)
theorem In.get (hF : Ok F) {l : List Nat} (h : In F l) (i : Nat) : l.getD i 0 < F.q:=by
 by_cases hi : i < l.length
 ·rw [List.getD_eq_getElem?_getD,List.getElem?_eq_getElem hi]; exact h _ (List.getElem_mem _)
 ·rw [List.getD_eq_getElem?_getD,List.getElem?_eq_none (by omega)]; exact hF.zero_lt
theorem In.el (hF : Ok F) {l : List Nat} (h : In F l) : El F (fn l):=fun i=>h.get hF i
theorem fn_ge {l : List Nat} {i : Nat} (h : l.length ≤ i) : fn l i = 0:=by unfold fn; rw [List.getD_eq_getElem?_getD,List.getElem?_eq_none h]; rfl
section ring
variable (hF : Ok F)
include hF
theorem el_z : El F pz:=fun _=>hF.zero_lt
theorem el_a (f g : Cf) : El F (pa F f g):=fun _=>hF.add_lt _ _
theorem el_s (c : Nat) (f : Cf) : El F (ps F c f):=fun _=>hF.mul_lt _ _
theorem pa_comm (f g : Cf) : pa F f g = pa F g f:=funext fun i=>Ok.add_comm _ _
theorem pa_assoc (f g k : Cf) : pa F (pa F f g) k = pa F f (pa F g k):=funext fun i=>hF.add_assoc _ _ _
theorem pa_zero {f : Cf} (h : El F f) : pa F f pz = f:=funext fun i=>hF.add_zero (h i)
theorem zero_pa {f : Cf} (h : El F f) : pa F pz f = f:=by rw [pa_comm hF]; exact pa_zero hF h
theorem pa_swap (a b c d : Cf) : pa F (pa F a b) (pa F c d) = pa F (pa F a c) (pa F b d):=by
 rw [pa_assoc hF,← pa_assoc hF b,pa_comm hF b c,pa_assoc hF c,← pa_assoc hF]
theorem ps_pa {c : Nat} {f g : Cf} (hc : c < F.q) (h1 : El F f) (h2 : El F g) : ps F c (pa F f g) = pa F (ps F c f) (ps F c g):=funext fun i=>hF.mul_add (h1 i) (h2 i) hc
theorem add_ps {c d : Nat} {f : Cf} (hc : c < F.q) (hd : d < F.q) (h : El F f) : ps F (F.add c d) f = pa F (ps F c f) (ps F d f):=funext fun i=>hF.add_mul hc hd (h i)
theorem ps_ps (c d : Nat) (f : Cf) : ps F (F.mul c d) f = ps F c (ps F d f):=funext fun i=>hF.mul_assoc _ _ _
theorem ps_z (c : Nat) : ps F c pz = pz:=funext fun i=>Ok.mul_z c
theorem z_ps (f : Cf) : ps F 0 f = pz:=funext fun i=>Ok.z_mul _
theorem one_ps {f : Cf} (h : El F f) : ps F 1 f = f:=funext fun i=>hF.one_mul (h i)
end ring
section lists
variable (hF : Ok F)
include hF
end lists
def Cn (l : List Nat) : Prop:=l.getLast? ≠ some 0
section degrees
variable (hF : Ok F)
include hF
end degrees
structure Po (F : Gf) (l : List Nat) : Prop where
 el : In F l
 cn : Cn l
theorem Po.nil : Po F []:=⟨In.nil,by simp [Cn]⟩
section polys
variable (hF : Ok F)
include hF
end polys
end Go.Fl
/- Polynomials over the fields with at most 64 elements: differences, division, common divisors. -/
namespace Go.Fl
set_option linter.unusedVariables false
set_option linter.unusedSectionVars false
variable {F : Gf}
namespace Ok
theorem neg_zero (h : Ok F) : F.neg 0 = 0:=by have:=h.add_neg 0; rwa [h.zero_add (h.neg_lt _)] at this
theorem neg_mul (h : Ok F) {a : Nat} (ha : a < F.q) : F.mul (F.neg 1) a = F.neg a:=by
 have e : F.add a (F.mul (F.neg 1) a) = 0:=by
  have:=h.add_mul h.one_lt (h.neg_lt 1) ha
  rw [h.add_neg,h.one_mul ha,Ok.z_mul] at this
  exact this.symm
 exact h.add_left_cancel (h.mul_lt _ _) (h.neg_lt _) (e.trans (h.add_neg a).symm)
theorem sub_mul (h : Ok F) {a b : Nat} (hb : b < F.q) : F.sub a b = F.add a (F.mul (F.neg 1) b):=by rw [h.neg_mul hb]; rfl
end Ok
section
variable (hF : Ok F)
include hF
end
end Go.Fl
