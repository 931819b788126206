/- Polynomials over the fields with at most 64 elements: values, roots, common divisors. -/
import Derived.Test.YtllecfhfhcmpaaaEvYq
namespace Go.Fl
set_option linter.unusedVariables false
set_option linter.unusedSectionVars false
variable {F : Gf}
def ev (F : Gf) (x : Nat) : List Nat → Nat
 | []=>0
 | c :: l=>F.add (F.mul (ev F x l) x) c
theorem ev_lt (hF : Ok F) (x : Nat) : ∀ (l : List Nat),ev F x l < F.q
 | []=>hF.zero_lt
 | c :: l=>hF.add_lt _ _
namespace Ok
theorem add_swap (h : Ok F) (a b c d : Nat) : F.add (F.add a b) (F.add c d) = F.add (F.add a c) (F.add b d):=by
 rw [h.add_assoc,← h.add_assoc b,Ok.add_comm b c,h.add_assoc c,← h.add_assoc]
theorem mul_swap (h : Ok F) (a b c : Nat) : F.mul (F.mul a b) c = F.mul (F.mul a c) b:=by rw [h.mul_assoc,Ok.mul_comm b,← h.mul_assoc]
end Ok
section
variable (hF : Ok F)
include hF
theorem ev_addL {x : Nat} (hx : x < F.q) : ∀ {a b : List Nat},In F a → In F b → ev F x (addL F a b) = F.add (ev F x a) (ev F x b)
 | [],b,_,hb=>by unfold addL; exact (hF.zero_add (ev_lt hF x b)).symm
 | y :: a,[],ha,_=>by unfold addL; exact (hF.add_zero (ev_lt hF x _)).symm
 | y :: a,z :: b,ha,hb=>by
  unfold addL
  show F.add (F.mul (ev F x (addL F a b)) x) (F.add y z) = F.add (F.add (F.mul (ev F x a) x) y) (F.add (F.mul (ev F x b) x) z)
  rw [ev_addL hx ha.tail hb.tail,hF.add_mul (ev_lt hF x a) (ev_lt hF x b) hx,hF.add_swap]
theorem ev_map {x c : Nat} (hx : x < F.q) (hc : c < F.q) : ∀ {b : List Nat},In F b → ev F x (b.map (F.mul c)) = F.mul c (ev F x b)
 | [],_=>(Ok.mul_z c).symm
 | y :: b,hb=>by
  show F.add (F.mul (ev F x (b.map (F.mul c))) x) (F.mul c y) = F.mul c (F.add (F.mul (ev F x b) x) y)
  rw [ev_map hx hc hb.tail,hF.mul_add (hF.mul_lt _ _) hb.head hc,hF.mul_assoc]
theorem ev_shl {x : Nat} (l : List Nat) : ev F x (0 :: l) = F.mul (ev F x l) x:=hF.add_zero (hF.mul_lt _ _)
theorem ev_mulL {x : Nat} (hx : x < F.q) : ∀ {a b : List Nat},In F a → In F b → ev F x (mulL F a b) = F.mul (ev F x a) (ev F x b)
 | [],b,_,_=>(Ok.z_mul _).symm
 | y :: a,b,ha,hb=>by
  show ev F x (addL F (b.map (F.mul y)) (0 :: mulL F a b)) = F.mul (F.add (F.mul (ev F x a) x) y) (ev F x b)
  rw [ev_addL hF hx (mapL_in hF y b) (In.cons hF.zero_lt (mulL_in hF a b)),ev_map hF hx ha.head hb,ev_shl hF,ev_mulL hx ha.tail hb,hF.add_mul (hF.mul_lt _ _) ha.head (ev_lt hF x b),Ok.add_comm,hF.mul_swap]
theorem ev_trL {x : Nat} : ∀ (l : List Nat),ev F x (trL l) = ev F x l
 | []=>rfl
 | y :: l=>by
  unfold trL
  split
  ·rename_i h
   show 0 = F.add (F.mul (ev F x l) x) y
   rw [← ev_trL l,h.2,h.1]
   show 0 = F.add (F.mul 0 x) 0
   rw [Ok.z_mul,hF.add_zero hF.zero_lt]
  ·show F.add (F.mul (ev F x (trL l)) x) y = _
   rw [ev_trL l]; rfl
theorem ev_addP {x : Nat} (hx : x < F.q) {a b : List Nat} (ha : In F a) (hb : In F b) : ev F x (addP F a b) = F.add (ev F x a) (ev F x b):=by unfold addP; rw [ev_trL hF,ev_addL hF hx ha hb]
theorem ev_mulP {x : Nat} (hx : x < F.q) {a b : List Nat} (ha : In F a) (hb : In F b) : ev F x (mulP F a b) = F.mul (ev F x a) (ev F x b):=by unfold mulP; rw [ev_trL hF,ev_mulL hF hx ha hb]
theorem ev_drop {x : Nat} {l : List Nat} {k : Nat} (hk : k < l.length) : ev F x (l.drop k) = F.add (F.mul (ev F x (l.drop (k + 1))) x) (l.getD k 0):=by
 rw [List.drop_eq_getElem_cons hk]
 show F.add (F.mul (ev F x (l.drop (k + 1))) x) l[k] = _
 simp [List.getD,hk]
def Dv (F : Gf) (d a : List Nat) : Prop:=∃ c,Po F c ∧ a = mulP F c d
theorem dv_nil (d : List Nat) : Dv F d []:=⟨[],Po.nil,rfl⟩
theorem dv_mul {d a c : List Nat} (hd : Po F d) (hc : Po F c) (h : Dv F d a) : Dv F d (mulP F c a):=by
 obtain ⟨e,he,rfl⟩:=h
 exact ⟨mulP F c e,mulP_po hF _ _,(mulP_assoc hF hc.el he.el hd.el).symm⟩
theorem dv_add {d a b : List Nat} (hd : Po F d) (h1 : Dv F d a) (h2 : Dv F d b) : Dv F d (addP F a b):=by
 obtain ⟨c,hc,rfl⟩:=h1
 obtain ⟨e,he,rfl⟩:=h2
 exact ⟨addP F c e,addP_po hF hc.el he.el,(mulP_addP hF hc.el he.el hd.el).symm⟩
theorem dv_refl {d : List Nat} (hd : Po F d) : Dv F d d:=⟨[1],⟨In.cons hF.one_lt In.nil,by simp [Cn]⟩,by rw [mulP_comm hF (In.cons hF.one_lt In.nil) hd.el,mulP_one hF hd]⟩
theorem dv_trans {a b c : List Nat} (ha : Po F a) (h1 : Dv F a b) (h2 : Dv F b c) : Dv F a c:=by
 obtain ⟨e,he,rfl⟩:=h2
 exact dv_mul hF ha he h1
theorem dv_anti {a b : List Nat} (ha : Po F a) (hb : Po F b) (h1 : Dv F a b) (h2 : Dv F b a) (la : a.getLast? = some 1) (lb : b.getLast? = some 1) : a = b:=by
 have na : a ≠ []:=fun e=>by rw [e] at la; cases la
 have nb : b ≠ []:=fun e=>by rw [e] at lb; cases lb
 obtain ⟨c,hc,e1⟩:=h1
 obtain ⟨d,hd,e2⟩:=h2
 have nc : c ≠ []:=fun e=>by rw [e] at e1; exact nb e1
 have nd : d ≠ []:=fun e=>by rw [e] at e2; exact na e2
 have l1:=mulP_len hF hc ha nc na
 have l2:=mulP_len hF hd hb nd nb
 rw [← e1] at l1
 rw [← e2] at l2
 have p1:=List.length_pos_iff.2 na
 have p2:=List.length_pos_iff.2 nb
 have p3:=List.length_pos_iff.2 nc
 have p4:=List.length_pos_iff.2 nd
 have hc1 : c.length = 1:=by omega
 obtain ⟨x,rfl⟩ : ∃ x,c = [x]:=by
  match c,hc1 with
  | [x],_=>exact ⟨x,rfl⟩
 have ht:=mulP_top hF hc ha nc na
 rw [← e1] at ht
 have last : ∀ {l : List Nat},l ≠ [] → l.getLast? = some 1 → l.getD (l.length - 1) 0 = 1:=fun {l} hl h=>by
  rw [List.getLast?_eq_getElem?] at h
  rw [List.getD_eq_getElem?_getD,h]; rfl
 have hla:=last na la
 have hlb:=last nb lb
 have hx : x = 1:=by
  have e : fn b ([x].length - 1 + (a.length - 1)) = 1:=by
   rw [show [x].length - 1 + (a.length - 1) = b.length - 1 by simp at l1 ⊢; omega]
   exact hlb
  rw [e,hla] at ht
  have h0 : [x].getD ([x].length - 1) 0 = x:=rfl
  rw [h0,hF.mul_one (hc.el x (by simp))] at ht
  exact ht.symm
 subst hx
 rw [e1,mulP_comm hF (In.cons hF.one_lt In.nil) ha.el,mulP_one hF ha]
theorem fn_DM {a b Q R : List Nat} (ha : Po F a) (hb : In F b) (h : DM F a b Q R) : a = addP F (mulP F Q b) R:=
 ha.ext (addP_po hF (mulP_po hF _ _).el h.r.el) (by rw [h.eq,fn_addP hF (mulP_po hF _ _).el h.r.el,fn_mulP hF])
theorem DM.of {a b R : List Nat} (ha : Po F a) (hb : Po F b) (hR : Po F R) (hl : R.length < b.length) : DM F (addP F (mulP F a b) R) b a R:=
 ⟨ha,hR,by rw [fn_addP hF (mulP_po hF _ _).el hR.el,fn_mulP hF],hl⟩
end
end Go.Fl
/- Polynomials over the fields with at most 64 elements: common divisors. -/
namespace Go.Fl
set_option linter.unusedVariables false
set_option linter.unusedSectionVars false
variable {F : Gf}
section
variable (hF : Ok F)
include hF
theorem pm_const (x : Nat) (f : Cf) : pm F [x] f = ps F x f:=by
 show pa F (ps F x f) (sh pz) = ps F x f
 rw [sh_z hF,pa_zero hF (el_s hF x f)]
theorem neg_one_ne : F.neg 1 ≠ 0:=fun e=>by
 have h:=hF.add_neg 1
 rw [e,hF.add_zero hF.one_lt] at h
 exact absurd h (by decide)
theorem po_one (x : Nat) (hx : x < F.q) (h0 : x ≠ 0) : Po F [x]:=⟨In.cons hx In.nil,by simp [Cn,h0]⟩
theorem dv_rem {d P T Q R : List Nat} (hd : Po F d) (hP : Po F P) (hT : Po F T) (hR : Po F R) (e : fn P = pa F (pm F T (fn Q)) (fn R)) (h1 : Dv F d P) (h2 : Dv F d Q) : Dv F d R:=by
 have e2 : R = addP F P (mulP F [F.neg 1] (mulP F T Q)):=hR.ext (addP_po hF hP.el (mulP_po hF _ _).el) (by
  rw [fn_addP hF hP.el (mulP_po hF _ _).el,fn_mulP hF,fn_mulP hF,pm_const hF,e]
  have hel:=el_m hF T (fn Q)
  generalize pm F T (fn Q) = u at hel
  rw [pa_comm hF u,pa_assoc hF,pa_neg hF hel,pa_zero hF (hR.el.el hF)])
 rw [e2]
 exact dv_add hF hd h1 (dv_mul hF hd (po_one hF _ (hF.neg_lt _) (neg_one_ne hF)) (dv_mul hF hd hT h2))
theorem dv_of {d P T Q R : List Nat} (hd : Po F d) (hP : Po F P) (hT : Po F T) (hR : Po F R) (e : fn P = pa F (pm F T (fn Q)) (fn R)) (h1 : Dv F d Q) (h2 : Dv F d R) : Dv F d P:=by
 have e2 : P = addP F (mulP F T Q) R:=hP.ext (addP_po hF (mulP_po hF _ _).el hR.el) (by rw [fn_addP hF (mulP_po hF _ _).el hR.el,fn_mulP hF,e])
 rw [e2]
 exact dv_add hF hd (dv_mul hF hd hT h1) h2
end
def GR (F : Gf) (A B P Q : List Nat) : Prop:=∀ d,Po F d → (Dv F d P ∧ Dv F d Q ↔ Dv F d A ∧ Dv F d B)
theorem GR.refl (F : Gf) (A B : List Nat) : GR F A B A B:=fun _ _=>Iff.rfl
theorem GR.step (hF : Ok F) {A B P Q T R : List Nat} (hP : Po F P) (hQ : Po F Q) (h : GR F A B P Q) (hd : DM F P Q T R) : GR F A B Q R:=fun d hdp=>by
 rw [← h d hdp]
 constructor
 ·rintro ⟨h1,h2⟩
  exact ⟨dv_of hF hdp hP hd.q hd.r hd.eq h1 h2,h1⟩
 ·rintro ⟨h1,h2⟩
  exact ⟨h2,dv_rem hF hdp hP hd.q hd.r hd.eq h1 h2⟩
structure IsGcd (F : Gf) (A B G : List Nat) : Prop where
 po : Po F G
 mo : G = [] ∨ G.getLast? = some 1
 dv : ∀ d,Po F d → (Dv F d G ↔ Dv F d A ∧ Dv F d B)
theorem dv_of_nil {a : List Nat} (hF : Ok F) (h : Dv F [] a) : a = []:=by
 obtain ⟨c,_,rfl⟩:=h
 exact mulP_nil hF c
theorem IsGcd.uniq (hF : Ok F) {A B G G' : List Nat} (h : IsGcd F A B G) (h' : IsGcd F A B G') : G = G':=by
 have h1 : Dv F G G':=(h'.dv G h.po).2 ((h.dv G h.po).1 (dv_refl hF h.po))
 have h2 : Dv F G' G:=(h.dv G' h'.po).2 ((h'.dv G' h'.po).1 (dv_refl hF h'.po))
 rcases h.mo with rfl | m
 ·exact (dv_of_nil hF h1).symm
 ·rcases h'.mo with rfl | m'
  ·exact dv_of_nil hF h2
  ·exact dv_anti hF h.po h'.po h1 h2 m m'
def monP (F : Gf) (A : List Nat) : List Nat:=if A = [] then [] else mulP F A (trL [F.inv (A.getD (A.length - 1) 0)])
theorem monP_nil (F : Gf) : monP F [] = []:=rfl
theorem monP_ne {F : Gf} {A : List Nat} (h : A ≠ []) : monP F A = mulP F A (trL [F.inv (A.getD (A.length - 1) 0)]):=if_neg h
section
variable (hF : Ok F)
include hF
theorem inv_ne {x : Nat} (hx : x < F.q) (h0 : x ≠ 0) : F.inv x ≠ 0:=fun e=>by
 have h:=hF.mul_inv hx h0
 rw [e,Ok.mul_z] at h
 exact absurd h (by decide)
theorem monP_po (A : List Nat) : Po F (monP F A):=by
 unfold monP
 split
 ·exact Po.nil
 ·exact mulP_po hF _ _
theorem last_get {l : List Nat} (hl : l ≠ []) {x : Nat} (h : l.getD (l.length - 1) 0 = x) : l.getLast? = some x:=by
 have p:=List.length_pos_iff.2 hl
 rw [List.getLast?_eq_getElem?]
 rw [List.getD_eq_getElem?_getD,List.getElem?_eq_getElem (by omega)] at h
 rw [List.getElem?_eq_getElem (by omega)]
 exact congrArg some h
theorem monP_spec {A : List Nat} (hA : Po F A) (hn : A ≠ []) : (monP F A).getLast? = some 1 ∧ (monP F A).length = A.length ∧ ∃ c,c < F.q ∧ c ≠ 0 ∧ monP F A = mulP F [c] A ∧ A = mulP F [A.getD (A.length - 1) 0] (monP F A):=by
 obtain ⟨x,hx⟩ : ∃ x,x = A.getD (A.length - 1) 0:=⟨_,rfl⟩
 have hxq : x < F.q:=by rw [hx]; exact hA.el.get hF _
 have hx0 : x ≠ 0:=by rw [hx]; exact cn_last hA.cn hn
 have hi0:=inv_ne hF hxq hx0
 have hiq:=hF.inv_lt x
 have hpi:=po_one hF _ hiq hi0
 have hpx:=po_one hF _ hxq hx0
 have e1 : monP F A = mulP F A [F.inv x]:=by rw [monP_ne hn,← hx,trL_of hpi.cn]
 have l1:=mulP_len hF hA hpi hn (by simp)
 have t1:=mulP_top hF hA hpi hn (by simp)
 have p1:=List.length_pos_iff.2 hn
 have l2 : (monP F A).length = A.length:=by rw [e1,l1]; simp
 have hne : monP F A ≠ []:=fun e=>by rw [e] at l2; simp at l2; omega
 refine ⟨last_get hF hne ?_,l2,F.inv x,hiq,hi0,by rw [e1,mulP_comm hF hA.el hpi.el],?_⟩
 ·rw [l2,e1]
  have e2 : fn (mulP F A [F.inv x]) (A.length - 1) = F.mul x (F.inv x):=by
   have e3 : A.length - 1 + ([F.inv x].length - 1) = A.length - 1:=by simp
   rw [e3] at t1
   rw [t1,← hx]; rfl
  rw [hF.mul_inv hxq hx0] at e2
  exact e2
 ·rw [← hx,e1,mulP_comm hF hA.el hpi.el,← mulP_assoc hF hpx.el hpi.el hA.el]
  have e4 : mulP F [x] [F.inv x] = [1]:=(mulP_po hF _ _).ext (po_one hF 1 hF.one_lt (by decide)) (by
   rw [fn_mulP hF,pm_const hF]
   funext i
   match i with
   | 0=>show F.mul x (F.inv x) = 1; exact hF.mul_inv hxq hx0
   | i + 1=>show F.mul x 0 = 0; exact Ok.mul_z x)
  rw [e4,mulP_comm hF (po_one hF 1 hF.one_lt (by decide)).el hA.el,mulP_one hF hA]
theorem GR.fin {A B P : List Nat} (hP : Po F P) (h : GR F A B P []) : IsGcd F A B (monP F P):=by
 by_cases hn : P = []
 ·subst hn
  refine ⟨Po.nil,.inl rfl,fun d hd=>?_⟩
  rw [monP_nil,← h d hd]
  exact ⟨fun h=>⟨h,h⟩,fun h=>h.1⟩
 ·obtain ⟨h1,h2,c,hc,hc0,e1,e2⟩:=monP_spec hF hP hn
  refine ⟨monP_po hF P,.inr h1,fun d hd=>?_⟩
  rw [← h d hd]
  constructor
  ·intro hh
   refine ⟨?_,dv_nil hF d⟩
   rw [e2]
   exact dv_mul hF hd (po_one hF _ (hP.el.get hF _) (cn_last hP.cn hn)) hh
  ·rintro ⟨hh,_⟩
   rw [e1]
   exact dv_mul hF hd (po_one hF _ hc hc0) hh
end
end Go.Fl
/- The fields with at most 64 elements as rings: identities by reckoning with expressions; divided differences. -/
namespace Go.Fl
set_option linter.unusedVariables false
set_option linter.unusedSectionVars false
class OkC (F : Gf) : Prop where
 ok : Ok F
def Fe (F : Gf) : Type:={v : Nat // v < F.q}
namespace Fe
variable {F : Gf} [H : OkC F]
instance : Add (Fe F):=⟨fun a b=>⟨F.add a.1 b.1,H.ok.add_lt _ _⟩⟩
instance : Mul (Fe F):=⟨fun a b=>⟨F.mul a.1 b.1,H.ok.mul_lt _ _⟩⟩
instance : Neg (Fe F):=⟨fun a=>⟨F.neg a.1,H.ok.neg_lt _⟩⟩
instance : Sub (Fe F):=⟨fun a b=>⟨F.sub a.1 b.1,H.ok.add_lt _ _⟩⟩
instance : OfNat (Fe F) 0:=⟨⟨0,H.ok.zero_lt⟩⟩
instance : OfNat (Fe F) 1:=⟨⟨1,H.ok.one_lt⟩⟩
theorem ext' {a b : Fe F} (h : a.1 = b.1) : a = b:=Subtype.ext h
theorem add_z (a : Fe F) : a + 0 = a:=ext' (H.ok.add_zero a.2)
theorem add_c (a b : Fe F) : a + b = b + a:=ext' (Ok.add_comm _ _)
theorem add_a (a b c : Fe F) : a + b + c = a + (b + c):=ext' (H.ok.add_assoc _ _ _)
theorem z_add (a : Fe F) : 0 + a = a:=by rw [add_c,add_z]
theorem mul_c (a b : Fe F) : a * b = b * a:=ext' (Ok.mul_comm _ _)
theorem mul_a (a b c : Fe F) : a * b * c = a * (b * c):=ext' (H.ok.mul_assoc _ _ _)
theorem mul_o (a : Fe F) : a * 1 = a:=ext' (H.ok.mul_one a.2)
theorem o_mul (a : Fe F) : 1 * a = a:=by rw [mul_c,mul_o]
theorem mul_z (a : Fe F) : a * 0 = 0:=ext' (Ok.mul_z (F:=F) a.1)
theorem z_mul (a : Fe F) : 0 * a = 0:=by rw [mul_c,mul_z]
theorem mul_add (a b c : Fe F) : a * (b + c) = a * b + a * c:=ext' (H.ok.mul_add b.2 c.2 a.2)
theorem add_mul (a b c : Fe F) : (a + b) * c = a * c + b * c:=ext' (H.ok.add_mul a.2 b.2 c.2)
theorem sub_eq (a b : Fe F) : a - b = a + -b:=rfl
theorem add_neg (a : Fe F) : a + -a = 0:=ext' (H.ok.add_neg _)
theorem cancel {a b c : Fe F} (h : a + b = a + c) : b = c:=ext' (H.ok.add_left_cancel b.2 c.2 (congrArg Subtype.val h))
theorem swap4 (a b c d : Fe F) : a + b + (c + d) = a + c + (b + d):=by rw [add_a,← add_a b,add_c b,add_a c,← add_a]
theorem neg_mul (a b : Fe F) : (-a) * b = -(a * b):=cancel (a:=a * b) (by rw [← add_mul,add_neg,add_neg,z_mul])
theorem sub_same {a b c d : Fe F} (h : a + d = c + b) : a - b = c - d:=by
 refine cancel (a:=b + d) ?_
 have e1 : b + d + (a - b) = a + d:=by rw [sub_eq,add_c b,add_a,← add_a b,add_c b,add_a a,add_neg,add_z,add_c]
 have e2 : b + d + (c - d) = c + b:=by rw [sub_eq,add_a,← add_a d,add_c d c,add_a c,add_neg,add_z,add_c]
 rw [e1,e2,h]
end Fe
inductive RE where
 | v (i : Nat)
 | o
 | z
 | add (a b : RE)
 | mul (a b : RE)
 | sub (a b : RE)
namespace RE
instance : Add RE:=⟨add⟩
instance : Mul RE:=⟨mul⟩
instance : Sub RE:=⟨sub⟩
instance : OfNat RE 0:=⟨z⟩
instance : OfNat RE 1:=⟨o⟩
def ins (x : Nat) : List Nat → List Nat
 | []=>[x]
 | y :: l=>bif Nat.ble x y then x :: y :: l else y :: ins x l
def mm : List Nat → List Nat → List Nat
 | [],b=>b
 | x :: a,b=>ins x (mm a b)
def pp (a b : List (List Nat)) : List (List Nat):=a.flatMap fun m=>b.map (mm m)
def ex : RE → List (List Nat) × List (List Nat)
 | v i=>([[i]],[])
 | o=>([[]],[])
 | z=>([],[])
 | add a b=>(a.ex.1 ++ b.ex.1,a.ex.2 ++ b.ex.2)
 | sub a b=>(a.ex.1 ++ b.ex.2,a.ex.2 ++ b.ex.1)
 | mul a b=>(pp a.ex.1 b.ex.1 ++ pp a.ex.2 b.ex.2,pp a.ex.1 b.ex.2 ++ pp a.ex.2 b.ex.1)
def same (a b : RE) : Bool:=(a.ex.1 ++ b.ex.2).isPerm (b.ex.1 ++ a.ex.2)
section
variable {F : Gf} [H : OkC F]
def ev (l : List (Fe F)) : RE → Fe F
 | v i=>l.getD i 0
 | o=>1
 | z=>0
 | add a b=>ev l a + ev l b
 | mul a b=>ev l a * ev l b
 | sub a b=>ev l a - ev l b
def mo (l : List (Fe F)) : List Nat → Fe F
 | []=>1
 | x :: m=>l.getD x 0 * mo l m
def su (l : List (Fe F)) : List (List Nat) → Fe F
 | []=>0
 | m :: a=>mo l m + su l a
variable (l : List (Fe F))
theorem mo_ins (x : Nat) : ∀ m,mo l (ins x m) = l.getD x 0 * mo l m
 | []=>rfl
 | y :: m=>by
  unfold ins
  cases Nat.ble x y with
  | true=>rfl
  | false =>
   show l.getD y 0 * mo l (ins x m) = l.getD x 0 * (l.getD y 0 * mo l m)
   rw [mo_ins x m,← Fe.mul_a,Fe.mul_c (l.getD y 0),Fe.mul_a]
theorem mo_mm : ∀ a b,mo l (mm a b) = mo l a * mo l b
 | [],b=>(Fe.o_mul _).symm
 | x :: a,b=>by
  show mo l (ins x (mm a b)) = l.getD x 0 * mo l a * mo l b
  rw [mo_ins,mo_mm a b,Fe.mul_a]
theorem su_app : ∀ a b,su l (a ++ b) = su l a + su l b
 | [],b=>(Fe.z_add _).symm
 | m :: a,b=>by
  show mo l m + su l (a ++ b) = mo l m + su l a + su l b
  rw [su_app a b,Fe.add_a]
theorem su_map (m : List Nat) : ∀ b,su l (b.map (mm m)) = mo l m * su l b
 | []=>(Fe.mul_z _).symm
 | n :: b=>by
  show mo l (mm m n) + su l (b.map (mm m)) = mo l m * (mo l n + su l b)
  rw [mo_mm,su_map m b,Fe.mul_add]
theorem su_pp : ∀ a b,su l (pp a b) = su l a * su l b
 | [],b=>(Fe.z_mul _).symm
 | m :: a,b=>by
  show su l (b.map (mm m) ++ pp a b) = (mo l m + su l a) * su l b
  rw [su_app,su_map,su_pp a b,Fe.add_mul]
theorem su_perm {a b : List (List Nat)} (h : a.Perm b) : su l a = su l b:=by
 induction h with
 | nil=>rfl
 | cons x _ ih=>exact congrArg (mo l x + ·) ih
 | swap x y a =>
  show mo l y + (mo l x + su l a) = mo l x + (mo l y + su l a)
  rw [← Fe.add_a,Fe.add_c (mo l y),Fe.add_a]
 | trans _ _ h1 h2=>exact h1.trans h2
theorem ev_ex : ∀ e : RE,ev l e = su l e.ex.1 - su l e.ex.2
 | v i=>by
  show l.getD i 0 = l.getD i 0 * 1 + 0 - 0
  rw [Fe.mul_o,Fe.add_z]
  exact (Fe.cancel (a:=(0 : Fe F)) (by rw [Fe.z_add,Fe.sub_eq,Fe.add_c,Fe.add_a,Fe.add_c (-0),Fe.add_neg,Fe.add_z]))
 | o=>by
  show (1 : Fe F) = 1 + 0 - 0
  rw [Fe.add_z]
  exact (Fe.cancel (a:=(0 : Fe F)) (by rw [Fe.z_add,Fe.sub_eq,Fe.add_c,Fe.add_a,Fe.add_c (-0),Fe.add_neg,Fe.add_z]))
 | z=>(Fe.add_neg (0 : Fe F)).symm
 | add a b=>by
  show ev l a + ev l b = su l (a.ex.1 ++ b.ex.1) - su l (a.ex.2 ++ b.ex.2)
  rw [ev_ex a,ev_ex b,su_app,su_app]
  refine Fe.cancel (a:=su l a.ex.2 + su l b.ex.2) ?_
  generalize su l a.ex.1 = p
  generalize su l a.ex.2 = q
  generalize su l b.ex.1 = r
  generalize su l b.ex.2 = t
  have e1 : ∀ x y : Fe F,y + (x - y) = x:=fun x y=>by rw [Fe.sub_eq,Fe.add_c x,← Fe.add_a,Fe.add_neg,Fe.z_add]
  rw [Fe.swap4,e1,e1,e1]
 | sub a b=>by
  show ev l a - ev l b = su l (a.ex.1 ++ b.ex.2) - su l (a.ex.2 ++ b.ex.1)
  rw [ev_ex a,ev_ex b,su_app,su_app]
  generalize su l a.ex.1 = p
  generalize su l a.ex.2 = q
  generalize su l b.ex.1 = r
  generalize su l b.ex.2 = t
  have e1 : ∀ x y : Fe F,y + (x - y) = x:=fun x y=>by rw [Fe.sub_eq,Fe.add_c x,← Fe.add_a,Fe.add_neg,Fe.z_add]
  refine Fe.sub_same ?_
  refine Fe.cancel (a:=t) ?_
  have e2 : t + (p - q + (q + r)) = (q + (p - q)) + (t + r):=by rw [← Fe.add_a (p - q),Fe.add_c (p - q) q,e1,Fe.add_c t,Fe.add_a,Fe.add_c r]
  have e3 : t + (p + t + (r - t)) = p + t + (t + (r - t)):=by rw [← Fe.add_a,Fe.add_c t (p + t),Fe.add_a]
  rw [e2,e3,e1,e1,Fe.add_a]
 | mul a b=>by
  show ev l a * ev l b = su l (pp a.ex.1 b.ex.1 ++ pp a.ex.2 b.ex.2) - su l (pp a.ex.1 b.ex.2 ++ pp a.ex.2 b.ex.1)
  rw [ev_ex a,ev_ex b,su_app,su_app,su_pp,su_pp,su_pp,su_pp]
  generalize su l a.ex.1 = p
  generalize su l a.ex.2 = q
  generalize su l b.ex.1 = r
  generalize su l b.ex.2 = t
  have e1 : ∀ x y : Fe F,y + (x - y) = x:=fun x y=>by rw [Fe.sub_eq,Fe.add_c x,← Fe.add_a,Fe.add_neg,Fe.z_add]
  refine Fe.cancel (a:=p * t + q * r) ?_
  rw [e1]
  generalize hu : p - q = u
  generalize hw : r - t = w
  have h1 : p = q + u:=by rw [← hu,e1]
  have h2 : r = t + w:=by rw [← hw,e1]
  rw [h1,h2]
  simp only [Fe.add_mul,Fe.mul_add]
  generalize q * t = A
  generalize u * t = B
  generalize q * w = C
  generalize u * w = D
  rw [Fe.add_a (A + B),Fe.add_a (A + B),Fe.add_a A,Fe.add_c A]
  rw [Fe.add_c A B,Fe.add_a B A,Fe.add_a B,Fe.add_a A C D,Fe.add_a A (C + D) A]
theorem rid {a b : RE} (h : same a b = true) : ev l a = ev l b:=by
 rw [ev_ex,ev_ex]
 refine Fe.sub_same ?_
 rw [← su_app,← su_app]
 exact su_perm l (List.isPerm_iff.1 h)
theorem rid1 {a b k c d : RE} (h1 : ev l c = ev l d) (h : same (a + k * d) (b + k * c) = true) : ev l a = ev l b:=by
 have:=rid l h
 have e : ev l a + ev l k * ev l d = ev l b + ev l k * ev l c:=this
 rw [h1,Fe.add_c,Fe.add_c (ev l b)] at e
 exact Fe.cancel e
end
end RE
section
variable {F : Gf} [H : OkC F]
def finv (a : Fe F) : Fe F:=⟨F.inv a.1,H.ok.inv_lt _⟩
theorem mul_finv {a : Fe F} (h : a ≠ 0) : a * finv a = 1:=Fe.ext' (H.ok.mul_inv a.2 (fun e=>h (Fe.ext' e)))
theorem sub_ne {a b : Fe F} (h : a ≠ b) : a - b ≠ 0:=fun e=>h (RE.rid1 [a,b] (a:=RE.v 0) (b:=RE.v 1) (k:=1) (c:=RE.v 0 - RE.v 1) (d:=0) e (by decide))
variable (x y : Nat → Fe F)
def dd : Nat → Nat → Fe F
 | 0,i=>y i
 | s + 1,i=>(dd s (i + 1) - dd s i) * finv (x (i + s + 1) - x i)
def wP (v : Fe F) : Nat → Nat → Fe F
 | 0,_=>1
 | s + 1,i=>wP v s i * (v - x (i + s))
theorem wP_front (v : Fe F) : ∀ s i,wP x v (s + 1) i = (v - x i) * wP x v s (i + 1)
 | 0,i=>by
  show (1 : Fe F) * (v - x (i + 0)) = (v - x i) * 1
  rw [Nat.add_zero,Fe.mul_o,Fe.o_mul]
 | s + 1,i=>by
  have h:=wP_front v s i
  show wP x v (s + 1) i * (v - x (i + (s + 1))) = (v - x i) * (wP x v s (i + 1) * (v - x (i + 1 + s)))
  rw [h,show i + (s + 1) = i + 1 + s by omega,Fe.mul_a]
def nE (v : Fe F) : Nat → Nat → Fe F
 | 0,i=>y i
 | s + 1,i=>nE v s i + dd x y (s + 1) i * wP x v (s + 1) i
theorem nE_back {n : Nat} (hx : ∀ i j,i < n → j < n → i ≠ j → x i ≠ x j) (v : Fe F) : ∀ s i,i + s + 1 < n → nE x y v (s + 1) i = nE x y v s (i + 1) + dd x y (s + 1) i * wP x v (s + 1) (i + 1)
 | 0,i,hi=>by
  have hne:=mul_finv (sub_ne (hx (i + 1) i (by omega) (by omega) (by omega)))
  show y i + (y (i + 1) - y i) * finv (x (i + 0 + 1) - x i) * ((1 : Fe F) * (v - x (i + 0))) = y (i + 1) + (y (i + 1) - y i) * finv (x (i + 0 + 1) - x i) * ((1 : Fe F) * (v - x (i + 1 + 0)))
  simp only [Nat.add_zero] at hne ⊢
  generalize finv (x (i + 1) - x i) = t at *
  exact RE.rid1 [x (i + 1),x i,t,y (i + 1),y i,v] (a:=RE.v 4 + (RE.v 3 - RE.v 4) * RE.v 2 * (1 * (RE.v 5 - RE.v 1))) (b:=RE.v 3 + (RE.v 3 - RE.v 4) * RE.v 2 * (1 * (RE.v 5 - RE.v 0))) (k:=RE.v 3 - RE.v 4) (c:=(RE.v 0 - RE.v 1) * RE.v 2) (d:=1) hne (by decide)
 | s + 1,i,hi=>by
  have h1:=nE_back hx v s i (by omega)
  have hne:=mul_finv (sub_ne (hx (i + (s + 1) + 1) i (by omega) (by omega) (by omega)))
  have hd : dd x y (s + 1 + 1) i = (dd x y (s + 1) (i + 1) - dd x y (s + 1) i) * finv (x (i + (s + 1) + 1) - x i):=rfl
  have hw:=wP_front x v (s + 1) i
  have hw2 : wP x v (s + 1 + 1) (i + 1) = wP x v (s + 1) (i + 1) * (v - x (i + 1 + (s + 1))):=rfl
  have e1 : nE x y v (s + 1) (i + 1) = nE x y v s (i + 1) + dd x y (s + 1) (i + 1) * wP x v (s + 1) (i + 1):=rfl
  show nE x y v (s + 1) i + dd x y (s + 1 + 1) i * wP x v (s + 1 + 1) i = nE x y v (s + 1) (i + 1) + dd x y (s + 1 + 1) i * wP x v (s + 1 + 1) (i + 1)
  rw [hw,hw2,e1,h1,hd,show i + 1 + (s + 1) = i + (s + 1) + 1 by omega]
  generalize finv (x (i + (s + 1) + 1) - x i) = t at *
  generalize wP x v (s + 1) (i + 1) = w
  generalize dd x y (s + 1) (i + 1) = d1
  generalize dd x y (s + 1) i = d0
  generalize nE x y v s (i + 1) = e0
  generalize x (i + (s + 1) + 1) = xj at *
  generalize x i = xi at *
  exact RE.rid1 [xj,xi,t,d1,d0,w,e0,v] (a:=RE.v 6 + RE.v 4 * RE.v 5 + (RE.v 3 - RE.v 4) * RE.v 2 * ((RE.v 7 - RE.v 1) * RE.v 5)) (b:=RE.v 6 + RE.v 3 * RE.v 5 + (RE.v 3 - RE.v 4) * RE.v 2 * (RE.v 5 * (RE.v 7 - RE.v 0))) (k:=(RE.v 3 - RE.v 4) * RE.v 5) (c:=(RE.v 0 - RE.v 1) * RE.v 2) (d:=1) hne (by decide)
theorem wP_zero (k : Nat) : ∀ s i,i ≤ k → k < i + s → wP x (x k) s i = 0
 | 0,i,h1,h2=>by omega
 | s + 1,i,h1,h2=>by
  show wP x (x k) s i * (x k - x (i + s)) = 0
  by_cases h : k = i + s
  ·rw [← h,Fe.sub_eq,Fe.add_neg,Fe.mul_z]
  ·rw [wP_zero k s i h1 (by omega),Fe.z_mul]
theorem nE_at {n : Nat} (hx : ∀ i j,i < n → j < n → i ≠ j → x i ≠ x j) (k : Nat) : ∀ s i,i + s = k → k < n → nE x y (x k) s i = y k
 | 0,i,h,_=>by
  have : i = k:=by omega
  subst this; rfl
 | s + 1,i,h,hk=>by
  rw [nE_back x y hx (x k) s i (by omega),nE_at hx k s (i + 1) (by omega) hk,wP_zero x k (s + 1) (i + 1) (by omega) (by omega),Fe.mul_z,Fe.add_z]
theorem nE_val {n : Nat} (hx : ∀ i j,i < n → j < n → i ≠ j → x i ≠ x j) (k : Nat) : ∀ s,k ≤ s → s < n → nE x y (x k) s 0 = y k
 | 0,h,hs=>by
  have : k = 0:=by omega
  subst this; rfl
 | s + 1,h,hs=>by
  by_cases e : k = s + 1
  ·exact nE_at x y hx k (s + 1) 0 (by omega) (by omega)
  ·show nE x y (x k) s 0 + dd x y (s + 1) 0 * wP x (x k) (s + 1) 0 = y k
   rw [nE_val hx k s (by omega) (by omega),wP_zero x k (s + 1) 0 (by omega) (by omega),Fe.mul_z,Fe.add_z]
def hor (v : Fe F) (n : Nat) : Nat → Fe F
 | 0=>0
 | m + 1=>(v - x (n - (m + 1))) * hor v n m + dd x y (n - (m + 1)) 0
def sumT (v : Fe F) : Nat → Fe F
 | 0=>0
 | k + 1=>sumT v k + dd x y k 0 * wP x v k 0
theorem sumT_nE (v : Fe F) : ∀ s,sumT x y v (s + 1) = nE x y v s 0
 | 0=>by show (0 : Fe F) + y 0 * 1 = y 0; rw [Fe.mul_o,Fe.z_add]
 | s + 1=>by show sumT x y v (s + 1) + _ = _; rw [sumT_nE v s]; rfl
theorem hor_sum (v : Fe F) (n : Nat) : ∀ i m,i + m = n → hor x y v n n = sumT x y v i + wP x v i 0 * hor x y v n m
 | 0,m,h=>by
  have : m = n:=by omega
  subst this
  show _ = (0 : Fe F) + 1 * _
  rw [Fe.z_add,Fe.o_mul]
 | i + 1,m,h=>by
  rw [hor_sum v n i (m + 1) (by omega)]
  show sumT x y v i + wP x v i 0 * ((v - x (n - (m + 1))) * hor x y v n m + dd x y (n - (m + 1)) 0) = sumT x y v i + dd x y i 0 * wP x v i 0 + wP x v i 0 * (v - x (0 + i)) * hor x y v n m
  rw [show n - (m + 1) = i by omega,Nat.zero_add]
  exact RE.rid [sumT x y v i,wP x v i 0,v,x i,hor x y v n m,dd x y i 0] (a:=RE.v 0 + RE.v 1 * ((RE.v 2 - RE.v 3) * RE.v 4 + RE.v 5)) (b:=RE.v 0 + RE.v 5 * RE.v 1 + RE.v 1 * (RE.v 2 - RE.v 3) * RE.v 4) (by decide)
theorem hor_val {n : Nat} (hx : ∀ i j,i < n → j < n → i ≠ j → x i ≠ x j) (k : Nat) (hk : k < n) : hor x y (x k) n n = y k:=by
 rw [hor_sum x y (x k) n n 0 (by omega)]
 obtain ⟨s,rfl⟩ : ∃ s,n = s + 1:=⟨n - 1,by omega⟩
 rw [sumT_nE,nE_val x y hx k s (by omega) (by omega)]
 show y k + wP x (x k) (s + 1) 0 * 0 = y k
 rw [Fe.mul_z,Fe.add_z]
end
section
variable {F : Gf} (hF : Ok F)
include hF
theorem addL_len : ∀ (a b : List Nat),(addL F a b).length ≤ max a.length b.length
 | [],b=>by unfold addL; simp
 | x :: a,[]=>by unfold addL; simp
 | x :: a,y :: b=>by
  unfold addL
  have:=addL_len a b
  simp only [List.length_cons]
  omega
theorem addP_len (a b : List Nat) : (addP F a b).length ≤ max a.length b.length:=Nat.le_trans (trL_len _) (addL_len hF a b)
theorem mulP_le {a b : List Nat} (ha : Po F a) (hb : Po F b) : (mulP F a b).length ≤ a.length + b.length - 1:=by
 by_cases na : a = []
 ·subst na; exact Nat.zero_le _
 by_cases nb : b = []
 ·subst nb; rw [mulP_nil hF]; exact Nat.zero_le _
 exact Nat.le_of_eq (mulP_len hF ha hb na nb)
theorem ev_lin (x v : Nat) (hv : v < F.q) : ev F v [F.neg x,1] = F.sub v x:=by
 show F.add (F.mul (F.add (F.mul 0 v) 1) v) (F.neg x) = F.add v (F.neg x)
 rw [Ok.z_mul,hF.zero_add hF.one_lt,hF.one_mul hv]
theorem ev_const (c v : Nat) (hc : c < F.q) : ev F v (trL [c]) = c:=by
 rw [ev_trL hF]
 show F.add (F.mul 0 v) c = c
 rw [Ok.z_mul,hF.zero_add hc]
end
def nP (F : Gf) [OkC F] (x y : Nat → Fe F) (n : Nat) : Nat → List Nat
 | 0=>[]
 | m + 1=>addP F (mulP F [F.neg (x (n - (m + 1))).1,1] (nP F x y n m)) (trL [(dd x y (n - (m + 1)) 0).1])
section
variable {F : Gf} [H : OkC F] (x y : Nat → Fe F) (n : Nat)
theorem linF_po (c : Fe F) : Po F [F.neg c.1,1]:=⟨In.cons (H.ok.neg_lt _) (In.cons H.ok.one_lt In.nil),by simp [Cn]⟩
theorem con_po (c : Fe F) : Po F (trL [c.1]):=Po.tr (In.cons c.2 In.nil)
theorem nP_po : ∀ m,Po F (nP F x y n m)
 | 0=>Po.nil
 | m + 1=>addP_po H.ok (mulP_po H.ok _ _).el (con_po _).el
theorem nP_len : ∀ m,(nP F x y n m).length ≤ m
 | 0=>Nat.le_refl _
 | m + 1=>by
  have h1:=nP_len m
  have h2:=mulP_le H.ok (linF_po (x (n - (m + 1)))) (nP_po x y n m)
  have h3:=addP_len H.ok (mulP F [F.neg (x (n - (m + 1))).1,1] (nP F x y n m)) (trL [(dd x y (n - (m + 1)) 0).1])
  have h4:=trL_len [(dd x y (n - (m + 1)) 0).1]
  show (addP F _ _).length ≤ m + 1
  simp only [List.length_cons,List.length_nil] at h2 h4
  omega
theorem nP_ev (v : Fe F) : ∀ m,ev F v.1 (nP F x y n m) = (hor x y v n m).1
 | 0=>rfl
 | m + 1=>by
  show ev F v.1 (addP F _ _) = _
  rw [ev_addP H.ok v.2 (mulP_po H.ok _ _).el (con_po _).el,ev_mulP H.ok v.2 (linF_po _).el (nP_po x y n m).el,ev_lin H.ok _ _ v.2,ev_const H.ok _ _ (dd x y (n - (m + 1)) 0).2,nP_ev v m]
  rfl
theorem nP_val (hx : ∀ i j,i < n → j < n → i ≠ j → x i ≠ x j) (k : Nat) (hk : k < n) : ev F (x k).1 (nP F x y n n) = (y k).1:=by
 rw [nP_ev,hor_val x y hx k hk]
end
variable {F : Gf}
section
variable (hF : Ok F)
include hF
theorem DM.exists {A B : List Nat} (hA : Po F A) (hB : Po F B) (hb : B ≠ []) : ∃ Q R,DM F A B Q R:=by
 have key : ∀ s L Q,s ≤ Q.length → DL F A B L Q s → ∃ Q' R',DM F A B Q' R':=by
  intro s
  induction s with
  | zero=>intro L Q _ h; exact ⟨_,_,DL.fin hF hb h⟩
  | succ s ih =>
   intro L Q hs h
   have h2:=DL.step hF hB hb h (by omega)
   exact ih _ _ (by rw [List.length_set]; omega) h2
 exact key _ _ _ (by simp) (DL.start hF hA.el hb)
theorem ev_eq {A Q R : List Nat} {a : Nat} (ha : a < F.q) (hA : Po F A) (h : DM F A [F.neg a,1] Q R) : R.length ≤ 1 ∧ R = trL [ev F a A]:=by
 have hl:=h.len
 have hl1 : R.length ≤ 1:=by simp at hl; omega
 have hlin : Po F [F.neg a,1]:=⟨In.cons (hF.neg_lt a) (In.cons hF.one_lt In.nil),by simp [Cn]⟩
 have e1:=fn_DM hF hA hlin.el h
 have e2 : ev F a A = ev F a R:=by
  rw [e1,ev_addP hF ha (mulP_po hF _ _).el h.r.el,ev_mulP hF ha h.q.el hlin.el,ev_lin hF _ _ ha,hF.sub_self ha,Ok.mul_z,hF.zero_add (ev_lt hF a R)]
 refine ⟨hl1,?_⟩
 rw [e2]
 match R,hl1,h.r with
 | [],_,_=>rfl
 | [r],_,hr =>
  have h2 : ev F a [r] = r:=by
   show F.add (F.mul 0 a) r = r
   rw [Ok.z_mul,hF.zero_add hr.el.head]
  rw [h2,trL_of hr.cn]
theorem root_off {A : List Nat} {a : Nat} (ha : a < F.q) (hA : Po F A) (h : ev F a A = 0) : ∃ Q,Po F Q ∧ A = mulP F Q [F.neg a,1]:=by
 have hlin : Po F [F.neg a,1]:=⟨In.cons (hF.neg_lt a) (In.cons hF.one_lt In.nil),by simp [Cn]⟩
 obtain ⟨Q,R,hd⟩:=DM.exists hF hA hlin (by simp)
 have h2:=(ev_eq hF ha hA hd).2
 rw [h] at h2
 have h3 : R = []:=by rw [h2]; rfl
 refine ⟨Q,hd.q,?_⟩
 have e1:=fn_DM hF hA hlin.el hd
 rw [h3,addP_nil hF (mulP_po hF _ _)] at e1
 exact e1
theorem mul_zero_of {a b : Nat} (ha : a < F.q) (hb : b < F.q) (h : F.mul a b = 0) : a = 0 ∨ b = 0:=by
 by_cases h0 : a = 0
 ·exact .inl h0
 ·refine .inr (hF.mul_cancel hb hF.zero_lt ha h0 ?_)
  rw [h,Ok.mul_z]
theorem sub_zero_of {a b : Nat} (ha : a < F.q) (hb : b < F.q) (h : F.sub a b = 0) : a = b:=by
 have:=hF.sub_add ha b
 rw [h,hF.zero_add hb] at this
 exact this.symm
theorem roots_lt : ∀ {X A : List Nat},X.Nodup → (∀ x ∈ X,x < F.q ∧ ev F x A = 0) → Po F A → A ≠ [] → X.length < A.length
 | [],A,_,_,_,hn=>List.length_pos_iff.2 hn
 | a :: X,A,hd,h,hA,hn=>by
  have hlin : Po F [F.neg a,1]:=⟨In.cons (hF.neg_lt a) (In.cons hF.one_lt In.nil),by simp [Cn]⟩
  have ha:=h a (by simp)
  obtain ⟨Q,hQ,e⟩:=root_off hF ha.1 hA ha.2
  have hq : Q ≠ []:=fun e2=>hn (by rw [e,e2]; rfl)
  have hl:=mulP_len hF hQ hlin hq (by simp)
  rw [← e] at hl
  rw [List.nodup_cons] at hd
  have:=roots_lt hd.2 (A:=Q) (fun x hx=>by
   have hxx:=h x (by simp [hx])
   refine ⟨hxx.1,?_⟩
   have e3:=hxx.2
   rw [e,ev_mulP hF hxx.1 hQ.el hlin.el,ev_lin hF _ _ hxx.1] at e3
   rcases mul_zero_of hF (ev_lt hF x Q) (hF.add_lt _ _) e3 with h1 | h1
   ·exact h1
   ·have:=sub_zero_of hF hxx.1 ha.1 h1
    subst this
    exact absurd hx hd.1) hQ hq
  simp only [List.length_cons,List.length_nil] at hl ⊢
  omega
theorem val_uniq {P P' X : List Nat} (hP : Po F P) (hP' : Po F P') (hd : X.Nodup) (hX : In F X) (l1 : P.length ≤ X.length) (l2 : P'.length ≤ X.length) (h : ∀ x ∈ X,ev F x P = ev F x P') : P = P':=by
 have hneg : Po F [F.neg 1]:=po_one hF _ (hF.neg_lt 1) (neg_one_ne hF)
 obtain ⟨D,hD⟩ : ∃ D,D = addP F P (mulP F [F.neg 1] P'):=⟨_,rfl⟩
 have hDp : Po F D:=by rw [hD]; exact addP_po hF hP.el (mulP_po hF _ _).el
 have hfd : fn D = pa F (fn P) (ps F (F.neg 1) (fn P')):=by rw [hD,fn_addP hF hP.el (mulP_po hF _ _).el,fn_mulP hF,pm_const hF]
 by_cases h0 : D = []
 ·refine hP.ext hP' ?_
  rw [h0,fn_nil] at hfd
  funext i
  have h1 : F.add (fn P i) (F.mul (F.neg 1) (fn P' i)) = 0:=(congrFun hfd i).symm
  rw [hF.neg_mul (hP'.el.el hF i)] at h1
  exact sub_zero_of hF (hP.el.el hF i) (hP'.el.el hF i) h1
 ·exfalso
  have hlt:=roots_lt hF hd (A:=D) (fun x hx=>⟨hX x hx,by
   rw [hD,ev_addP hF (hX x hx) hP.el (mulP_po hF _ _).el,ev_mulP hF (hX x hx) hneg.el hP'.el,h x hx]
   have e : ev F x [F.neg 1] = F.neg 1:=by
    show F.add (F.mul 0 x) (F.neg 1) = F.neg 1
    rw [Ok.z_mul,hF.zero_add (hF.neg_lt 1)]
   rw [e,hF.neg_mul (ev_lt hF x P')]
   exact hF.add_neg _⟩) hDp h0
  have l3 : D.length ≤ X.length:=by
   rw [hD]
   have:=addP_len hF P (mulP F [F.neg 1] P')
   have h4:=mulP_le hF hneg hP'
   simp only [List.length_cons,List.length_nil] at h4
   omega
  omega
end
end Go.Fl
/- Polynomials: common divisors of multiples; exact division. -/
namespace Go.Fl
set_option linter.unusedVariables false
set_option linter.unusedSectionVars false
variable {F : Gf}
section
variable (hF : Ok F)
include hF
theorem gcd_mul {C : List Nat} (hC : Po F C) (c0 : C ≠ []) : ∀ (n : Nat) (A B : List Nat),Po F A → Po F B → B.length ≤ n → ∃ G,Po F G ∧ (∀ d,Po F d → (Dv F d G ↔ Dv F d A ∧ Dv F d B)) ∧ (∀ d,Po F d → (Dv F d (mulP F G C) ↔ Dv F d (mulP F A C) ∧ Dv F d (mulP F B C))):=by
 have hnil : ∀ A,Po F A → ∃ G,Po F G ∧ (∀ d,Po F d → (Dv F d G ↔ Dv F d A ∧ Dv F d [])) ∧ (∀ d,Po F d → (Dv F d (mulP F G C) ↔ Dv F d (mulP F A C) ∧ Dv F d (mulP F [] C))):=fun A hA =>
  ⟨A,hA,fun d _=>⟨fun h=>⟨h,dv_nil hF d⟩,fun h=>h.1⟩,fun d _=>⟨fun h=>⟨h,dv_nil hF d⟩,fun h=>h.1⟩⟩
 intro n
 induction n with
 | zero =>
  intro A B hA hB hl
  obtain rfl : B = []:=List.length_eq_zero_iff.1 (by omega)
  exact hnil A hA
 | succ n ih =>
  intro A B hA hB hl
  by_cases hb : B = []
  ·subst hb; exact hnil A hA
  ·obtain ⟨Q,R,hd⟩:=DM.exists hF hA hB hb
   have hlR:=hd.len
   obtain ⟨G,hG,h1,h2⟩:=ih B R hB hd.r (by omega)
   have hP:=mulP_po hF
   have e0 : mulP F A C = addP F (mulP F Q (mulP F B C)) (mulP F R C):=by
    rw [← mulP_assoc hF hd.q.el hB.el hC.el,← mulP_addP hF (hP _ _).el hd.r.el hC.el,← fn_DM hF hA hB.el hd]
   have pc:=List.length_pos_iff.2 c0
   have pb:=List.length_pos_iff.2 hb
   have hl2 : (mulP F R C).length < (mulP F B C).length:=by
    rw [mulP_len hF hB hC hb c0]
    by_cases hr : R = []
    ·have e : (mulP F R C).length = 0:=by rw [hr]; rfl
     omega
    ·rw [mulP_len hF hd.r hC hr c0]; have:=List.length_pos_iff.2 hr; omega
   have hd2 : DM F (mulP F A C) (mulP F B C) Q (mulP F R C):=by rw [e0]; exact DM.of hF hd.q (hP _ _) (hP _ _) hl2
   refine ⟨G,hG,fun d p=>?_,fun d p=>?_⟩
   ·rw [h1 d p]; exact GR.step hF hA hB (GR.refl F A B) hd d p
   ·rw [h2 d p]; exact GR.step hF (hP _ _) (hP _ _) (GR.refl F _ _) hd2 d p
theorem get_last {l : List Nat} {x : Nat} (h : l.getLast? = some x) : l.getD (l.length - 1) 0 = x:=by
 rw [List.getD_eq_getElem?_getD,← List.getLast?_eq_getElem?,h]; rfl
theorem IsGcd.mul {A B G C : List Nat} (hA : Po F A) (hB : Po F B) (h : IsGcd F A B G) (hC : Po F C) (c1 : C.getLast? = some 1) : IsGcd F (mulP F A C) (mulP F B C) (mulP F G C):=by
 have c0 : C ≠ []:=by rintro rfl; simp at c1
 obtain ⟨G',hG',h1,h2⟩:=gcd_mul hF hC c0 _ A B hA hB (Nat.le_refl _)
 have d1 : Dv F G G':=(h1 G h.po).2 ((h.dv G h.po).1 (dv_refl hF h.po))
 have d2 : Dv F G' G:=(h.dv G' hG').2 ((h1 G' hG').1 (dv_refl hF hG'))
 have m : ∀ {X Y : List Nat},Po F X → Dv F X Y → Dv F (mulP F X C) (mulP F Y C):=by
  rintro X Y hX ⟨c,hc,rfl⟩
  exact ⟨c,hc,mulP_assoc hF hc.el hX.el hC.el⟩
 refine ⟨mulP_po hF _ _,?_,fun d p=>?_⟩
 ·rcases h.mo with rfl | hm
  ·exact .inl rfl
  ·right
   have g0 : G ≠ []:=by rintro rfl; simp at hm
   have ht:=mulP_top hF h.po hC g0 c0
   have hl:=mulP_len hF h.po hC g0 c0
   have pc:=List.length_pos_iff.2 c0
   have pg:=List.length_pos_iff.2 g0
   refine last_get hF (mulP_ne hF h.po hC g0 c0) ?_
   have e : (mulP F G C).length - 1 = G.length - 1 + (C.length - 1):=by omega
   rw [e]
   refine ht.trans ?_
   rw [get_last hF hm,get_last hF c1]
   exact hF.mul_one hF.one_lt
 ·rw [← h2 d p]
  exact ⟨fun hh=>dv_trans hF p hh (m h.po d1),fun hh=>dv_trans hF p hh (m hG' d2)⟩
theorem IsGcd.symm {A B G : List Nat} (h : IsGcd F A B G) : IsGcd F B A G:=⟨h.po,h.mo,fun d p=>(h.dv d p).trans And.comm⟩
theorem IsGcd.zero {G : List Nat} (h : IsGcd F [] [] G) : G = []:=by
 obtain ⟨c,-,e⟩:=(h.dv [] Po.nil).2 ⟨dv_nil hF _,dv_nil hF _⟩
 rw [e,mulP_nil hF]
theorem IsGcd.ne {A B G : List Nat} (h : IsGcd F A B G) (n : ¬ (A = [] ∧ B = [])) : G ≠ []:=fun e=>n (by
 obtain ⟨⟨c,-,h1⟩,⟨c',-,h2⟩⟩:=(h.dv G h.po).1 (dv_refl hF h.po)
 rw [h1,h2,e,mulP_nil hF,mulP_nil hF]; exact ⟨rfl,rfl⟩)
theorem gcd_exists {A B : List Nat} (hA : Po F A) (hB : Po F B) : ∃ G,IsGcd F A B G:=by
 obtain ⟨G,hG,h1,-⟩:=gcd_mul hF (po_one hF 1 hF.one_lt (by decide)) (by simp) _ A B hA hB (Nat.le_refl _)
 exact ⟨_,GR.fin hF hG fun d p=>⟨fun h=>(h1 d p).1 h.1,fun h=>⟨(h1 d p).2 h,dv_nil hF d⟩⟩⟩
theorem dv_len {d a : List Nat} (hd : Po F d) (h : Dv F d a) (a0 : a ≠ []) : d.length ≤ a.length:=by
 obtain ⟨c,hc,rfl⟩:=h
 have c0 : c ≠ []:=by rintro rfl; exact a0 rfl
 have d0 : d ≠ []:=by rintro rfl; exact a0 (mulP_nil hF c)
 rw [mulP_len hF hc hd c0 d0]
 have:=List.length_pos_iff.2 c0
 omega
theorem IsGcd.len {A B G : List Nat} {n : Nat} (h : IsGcd F A B G) (hA : A.length ≤ n) (hB : B.length ≤ n) : G.length ≤ n:=by
 obtain ⟨h1,h2⟩:=(h.dv G h.po).1 (dv_refl hF h.po)
 by_cases a0 : A = []
 ·by_cases b0 : B = []
  ·subst a0 b0
   rw [h.zero hF]; exact Nat.zero_le _
  ·exact Nat.le_trans (dv_len hF h.po h2 b0) hB
 ·exact Nat.le_trans (dv_len hF h.po h1 a0) hA
end
end Go.Fl
