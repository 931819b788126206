/- Conjugates and minimal polynomials over the fields with at most 64 elements. -/
import Derived.Test.YtllecfhfhcmpaaaEvYv
import Derived.Test.YtllecfhfhcmpaaaEvZ
namespace Go.Fl
set_option linter.unusedVariables false
set_option linter.unusedSectionVars false
def conjTo (F : Gf) (a : Nat) : Nat → Nat → List Nat
 | 0,_=>[]
 | k + 1,c=>c :: (bif Nat.beq (F.pow c F.p) a then [] else conjTo F a k (F.pow c F.p))
def conjL (F : Gf) (a : Nat) : List Nat:=conjTo F a F.e a
def linP (F : Gf) (p : List Nat) (c : Nat) : List Nat:=mulP F p [F.neg c,1]
def minL (F : Gf) (a : Nat) : List Nat:=(conjL F a).foldl (linP F) [1]
def difB : List Nat → Bool
 | []=>true
 | x :: l=>l.all (fun y=>!Nat.beq x y) && difB l
theorem difB_ok : ∀ {l : List Nat},difB l = true → l.Nodup
 | [],_=>List.nodup_nil
 | x :: l,h=>by
  unfold difB at h
  rw [Bool.and_eq_true] at h
  refine List.nodup_cons.2 ⟨fun hx=>?_,difB_ok h.2⟩
  have:=List.all_eq_true.1 h.1 x hx
  simp at this
def eqB : List Nat → List Nat → Bool
 | [],[]=>true
 | x :: l,y :: m=>Nat.beq x y && eqB l m
 | _,_=>false
theorem eqB_ok : ∀ {l m : List Nat},eqB l m = true → l = m
 | [],[],_=>rfl
 | x :: l,y :: m,h=>by
  unfold eqB at h
  rw [Bool.and_eq_true] at h
  rw [Nat.eq_of_beq_eq_true h.1,eqB_ok h.2]
def minB (F : Gf) (a : Nat) : Bool:=
 (difB (conjL F a)) && (Nat.beq (minL F a).length ((conjL F a).length + 1)) && (Nat.beq ((minL F a).getD (conjL F a).length 0) 1) && (Nat.beq (F.e % (conjL F a).length) 0) && ((minL F a).all fun x=>Nat.blt x F.p) &&
  ((conjL F a).all fun c=>Nat.beq (ev F c (minL F a)) 0) && (eqB (minL F (F.pow a F.p)) (minL F a))
def minAll (F : Gf) : Bool:=(List.range F.q).all (minB F)
def frB (F : Gf) : Bool:=
 ((List.range F.q).all fun a=>(List.range F.q).all fun b=>Nat.beq (F.pow (F.add a b) F.p) (F.add (F.pow a F.p) (F.pow b F.p)) && Nat.beq (F.pow (F.mul a b) F.p) (F.mul (F.pow a F.p) (F.pow b F.p))) && ((List.range F.p).all fun x=>Nat.beq (F.pow x F.p) x && Nat.blt x F.q)
set_option maxRecDepth 100000
theorem fr_all : (fds.all frB) = true:=by decide +kernel
theorem min_all : (fds.all minAll) = true:=by decide +kernel
structure MinOk (F : Gf) (a : Nat) : Prop where
 nd : (conjL F a).Nodup
 len : (minL F a).length = (conjL F a).length + 1
 top : (minL F a).getD (conjL F a).length 0 = 1
 dvd : F.e % (conjL F a).length = 0
 low : ∀ x ∈ minL F a,x < F.p
 zero : ∀ c ∈ conjL F a,ev F c (minL F a) = 0
 next : minL F (F.pow a F.p) = minL F a
theorem min_ok {F : Gf} (h : F ∈ fds) {a : Nat} (ha : a < F.q) : MinOk F a:=by
 have h1:=List.all_eq_true.1 (List.all_eq_true.1 min_all F h) a (List.mem_range.2 ha)
 unfold minB at h1
 simp only [Bool.and_eq_true,Nat.beq_eq,List.all_eq_true,Nat.blt_eq] at h1
 obtain ⟨⟨⟨⟨⟨⟨h1,h2⟩,h3⟩,h4⟩,h5⟩,h6⟩,h7⟩:=h1
 exact ⟨difB_ok h1,h2,h3,h4,h5,h6,eqB_ok h7⟩
structure FrOk (F : Gf) : Prop where
 add : ∀ a b,a < F.q → b < F.q → F.pow (F.add a b) F.p = F.add (F.pow a F.p) (F.pow b F.p)
 mul : ∀ a b,a < F.q → b < F.q → F.pow (F.mul a b) F.p = F.mul (F.pow a F.p) (F.pow b F.p)
 fix : ∀ x,x < F.p → F.pow x F.p = x
 low : ∀ x,x < F.p → x < F.q
theorem fr_ok {F : Gf} (h : F ∈ fds) : FrOk F:=by
 have h1:=List.all_eq_true.1 fr_all F h
 unfold frB at h1
 simp only [Bool.and_eq_true,Nat.beq_eq,List.all_eq_true,Nat.blt_eq,List.mem_range] at h1
 exact ⟨fun a b ha hb=>(h1.1 a ha b hb).1,fun a b ha hb=>(h1.1 a ha b hb).2,fun x hx=>(h1.2 x hx).1,fun x hx=>(h1.2 x hx).2⟩
section
variable {F : Gf} (hF : Ok F) (hR : FrOk F)
include hF hR
theorem ev_frob {c : Nat} (hc : c < F.q) : ∀ {R : List Nat},(∀ x ∈ R,x < F.p) → ev F (F.pow c F.p) R = F.pow (ev F c R) F.p
 | [],_=>(hR.fix 0 hF.p0).symm
 | x :: R,h=>by
  have hx:=h x List.mem_cons_self
  show F.add (F.mul (ev F (F.pow c F.p) R) (F.pow c F.p)) x = F.pow (F.add (F.mul (ev F c R) c) x) F.p
  rw [ev_frob hc (fun y hy=>h y (List.mem_cons_of_mem _ hy)),hR.add _ _ (hF.mul_lt _ _) (hR.low x hx),hR.mul _ _ (ev_lt hF c R) hc,hR.fix x hx]
theorem conj_zero {a : Nat} {R : List Nat} (h : ∀ x ∈ R,x < F.p) : ∀ k c,c < F.q → ev F c R = 0 → ∀ x ∈ conjTo F a k c,x < F.q ∧ ev F x R = 0
 | 0,c,_,_,x,hx=>by cases hx
 | k + 1,c,hc,h0,x,hx=>by
  unfold conjTo at hx
  rcases List.mem_cons.1 hx with rfl | hx
  ·exact ⟨hc,h0⟩
  ·cases hb : Nat.beq (F.pow c F.p) a with
   | true=>rw [hb] at hx; cases hx
   | false =>
    rw [hb] at hx
    exact conj_zero h k _ (hF.pow_lt _ _) (by rw [ev_frob hF hR hc h,h0,hR.fix 0 hF.p0]) x hx
theorem conj_head {a : Nat} : a ∈ conjL F a:=by
 unfold conjL
 obtain ⟨k,hk⟩ : ∃ k,F.e = k + 1:=⟨F.e - 1,by have:=hF.e1; omega⟩
 rw [hk]
 unfold conjTo
 exact List.mem_cons_self
theorem min_div {a : Nat} (ha : a < F.q) (hM : MinOk F a) (hMP : Po F (minL F a)) {P Q R : List Nat} (hP : Po F P) (hp : ∀ x ∈ P,x < F.p) (hd : DM F P (minL F a) Q R) : R = [] ↔ ev F a P = 0:=by
 have e1:=fn_DM hF hP hMP.el hd
 have key : ∀ c,c < F.q → ev F c (minL F a) = 0 → ev F c P = ev F c R:=fun c hc h0=>by
  rw [e1,ev_addP hF hc (mulP_po hF _ _).el hd.r.el,ev_mulP hF hc hd.q.el hMP.el,h0,Ok.mul_z,hF.zero_add (ev_lt hF c R)]
 constructor
 ·intro h
  rw [key a ha (hM.zero a (conj_head hF hR)),h]; rfl
 ·intro h
  have hz:=conj_zero hF hR (a:=a) hp F.e a ha h
  refine Classical.byContradiction fun hne=>?_
  have h1:=roots_lt hF hM.nd (A:=R) (fun x hx=>⟨(hz x hx).1,by rw [← key x (hz x hx).1 (hM.zero x hx)]; exact (hz x hx).2⟩) hd.r hne
  have h2:=hd.len
  have h3:=hM.len
  omega
end
def digM (P k d : Nat) : List Nat:=(List.range d).map fun j=>k / P ^ j % P
theorem digM_succ (P k d : Nat) : digM P k (d + 1) = digM P k d ++ [k / P ^ d % P]:=by unfold digM; rw [List.range_succ,List.map_append]; rfl
theorem digM_len (P k d : Nat) : (digM P k d).length = d:=by unfold digM; simp
theorem digM_lt {P : Nat} (hP : 0 < P) (k d : Nat) : ∀ x ∈ digM P k d,x < P:=fun x hx=>by
 obtain ⟨j,_,rfl⟩:=List.mem_map.1 hx
 exact Nat.mod_lt _ hP
theorem digM_cons (P k d : Nat) : digM P k (d + 1) = (k % P) :: digM P (k / P) d:=by
 unfold digM
 rw [List.range_succ_eq_map,List.map_cons,List.map_map,Nat.pow_zero,Nat.div_one]
 congr 1
 refine List.map_congr_left fun j _=>?_
 show k / P ^ (j + 1) % P = k / P / P ^ j % P
 rw [Nat.div_div_eq_div_mul,Nat.pow_succ,Nat.mul_comm]
theorem digM_ex {P : Nat} (hP : 0 < P) : ∀ (L : List Nat),(∀ x ∈ L,x < P) → ∃ k,k < P ^ L.length ∧ digM P k L.length = L
 | [],_=>⟨0,by simp,rfl⟩
 | x :: L,h=>by
  obtain ⟨k,hk,e⟩:=digM_ex hP L (fun y hy=>h y (List.mem_cons_of_mem _ hy))
  have hx:=h x List.mem_cons_self
  refine ⟨x + P * k,?_,?_⟩
  ·rw [List.length_cons,Nat.pow_succ]
   have : P * (k + 1) ≤ P * P ^ L.length:=Nat.mul_le_mul_left P hk
   rw [Nat.mul_comm (P ^ L.length) P]
   rw [Nat.mul_add,Nat.mul_one] at this
   omega
  ·rw [List.length_cons,digM_cons,Nat.add_mul_mod_self_left,Nat.mod_eq_of_lt hx,Nat.add_mul_div_left _ _ hP,Nat.div_eq_of_lt hx,Nat.zero_add,e]
theorem least {p : Nat → Prop} (h : ∃ k,p k) : ∃ k,p k ∧ ∀ j,j < k → ¬ p j:=by
 obtain ⟨k,hk⟩:=h
 induction k using Nat.strongRecOn with
 | ind k ih =>
  by_cases hj : ∃ j,j < k ∧ p j
  ·obtain ⟨j,h1,h2⟩:=hj; exact ih j h1 h2
  ·exact ⟨k,hk,fun j h1 h2=>hj ⟨j,h1,h2⟩⟩
section
variable {F : Gf} (hF : Ok F) (hR : FrOk F)
include hF hR
theorem mon_po {L : List Nat} (hL : ∀ x ∈ L,x < F.p) : Po F (L ++ [1]):=⟨fun x hx=>by
 rcases List.mem_append.1 hx with h | h
 ·exact hR.low x (hL x h)
 ·rw [List.mem_singleton.1 h]; exact hF.one_lt,by simp [Cn]⟩
theorem min_no {a : Nat} (ha : a < F.q) (hM : MinOk F a) (hMP : Po F (minL F a)) {L : List Nat} (hL : ∀ x ∈ L,x < F.p) (hl : L.length ≤ (conjL F a).length) (hne : L ++ [1] ≠ minL F a) : ev F a (L ++ [1]) ≠ 0:=fun h0=>by
 have hP:=mon_po hF hR hL
 have hp : ∀ x ∈ L ++ [1],x < F.p:=fun x hx=>by
  rcases List.mem_append.1 hx with h | h
  ·exact hL x h
  ·rw [List.mem_singleton.1 h]; exact hF.p2
 have hn : minL F a ≠ []:=fun e=>by have:=hM.len; rw [e] at this; simp at this
 obtain ⟨Q,R,hd⟩:=DM.exists hF hP hMP hn
 have hr:=(min_div hF hR ha hM hMP hP hp hd).2 h0
 have e:=fn_DM hF hP hMP.el hd
 rw [hr,addP_nil hF (mulP_po hF _ _)] at e
 have hq : Q ≠ []:=fun e2=>by rw [e2,nil_mulP hF] at e; simp at e
 have h1:=mulP_len hF hd.q hMP hq hn
 rw [← e,List.length_append,List.length_singleton,hM.len] at h1
 have hq1:=List.length_pos_iff.2 hq
 have hq2 : Q.length = 1:=by omega
 obtain ⟨c,rfl⟩ : ∃ c,Q = [c]:=by
  match Q,hq2 with
  | [c],_=>exact ⟨c,rfl⟩
 have h2:=mulP_top hF hd.q hMP hq hn
 rw [← e] at h2
 simp only [List.length_singleton,Nat.sub_self,Nat.zero_add] at h2
 rw [hM.len,Nat.add_sub_cancel,hM.top] at h2
 have hl2 : L.length = (conjL F a).length:=by simp at h1; omega
 have h3 : fn (L ++ [1]) (conjL F a).length = 1:=by rw [← hl2]; show (L ++ [1]).getD L.length 0 = 1; simp [List.getD]
 rw [h3] at h2
 have h4 : F.mul c 1 = c:=hF.mul_one hd.q.el.head
 have h5 : c = 1:=by
  have : ([c] : List Nat).getD 0 0 = c:=rfl
  rw [this,h4] at h2
  exact h2.symm
 rw [h5] at e
 exact hne (by rw [e,mulP_comm hF (In.cons hF.one_lt In.nil) hMP.el,mulP_one hF hMP])
end
end Go.Fl
