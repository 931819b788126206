/- Polynomials over the fields with at most 64 elements: values, roots, common divisors. -/
import Derived.Test.YtllecfhfhcmpaaaEvYq
namespace Go.Fl
set_option linter.unusedVariables false
set_option linter.unusedSectionVars false

variable {F : Gf}
/-- the value at x, as the program reckons it -/
def ev (F : Gf) (x : Nat) : List Nat → Nat
 | [] => 0
 | c :: l => F.add (F.mul (ev F x l) x) c
theorem ev_lt (hF : Ok F) (x : Nat) : ∀ (l : List Nat), ev F x l < F.q
 | [] => hF.zero_lt
 | c :: l => hF.add_lt _ _
namespace Ok
theorem add_swap (h : Ok F) (a b c d : Nat) : F.add (F.add a b) (F.add c d) = F.add (F.add a c) (F.add b d) := by
 rw [h.add_assoc, ← h.add_assoc b, Ok.add_comm b c, h.add_assoc c, ← h.add_assoc]
theorem mul_swap (h : Ok F) (a b c : Nat) : F.mul (F.mul a b) c = F.mul (F.mul a c) b := by rw [h.mul_assoc, Ok.mul_comm b, ← h.mul_assoc]
end Ok
section
variable (hF : Ok F)
include hF
theorem ev_addL {x : Nat} (hx : x < F.q) : ∀ {a b : List Nat}, In F a → In F b → ev F x (addL F a b) = F.add (ev F x a) (ev F x b)
 | [], b, _, hb => by unfold addL; exact (hF.zero_add (ev_lt hF x b)).symm
 | y :: a, [], ha, _ => by unfold addL; exact (hF.add_zero (ev_lt hF x _)).symm
 | y :: a, z :: b, ha, hb => by
  unfold addL
  show F.add (F.mul (ev F x (addL F a b)) x) (F.add y z) = F.add (F.add (F.mul (ev F x a) x) y) (F.add (F.mul (ev F x b) x) z)
  rw [ev_addL hx ha.tail hb.tail, hF.add_mul (ev_lt hF x a) (ev_lt hF x b) hx, hF.add_swap]
theorem ev_map {x c : Nat} (hx : x < F.q) (hc : c < F.q) : ∀ {b : List Nat}, In F b → ev F x (b.map (F.mul c)) = F.mul c (ev F x b)
 | [], _ => (Ok.mul_z c).symm
 | y :: b, hb => by
  show F.add (F.mul (ev F x (b.map (F.mul c))) x) (F.mul c y) = F.mul c (F.add (F.mul (ev F x b) x) y)
  rw [ev_map hx hc hb.tail, hF.mul_add (hF.mul_lt _ _) hb.head hc, hF.mul_assoc]
theorem ev_shl {x : Nat} (l : List Nat) : ev F x (0 :: l) = F.mul (ev F x l) x := hF.add_zero (hF.mul_lt _ _)
theorem ev_mulL {x : Nat} (hx : x < F.q) : ∀ {a b : List Nat}, In F a → In F b → ev F x (mulL F a b) = F.mul (ev F x a) (ev F x b)
 | [], b, _, _ => (Ok.z_mul _).symm
 | y :: a, b, ha, hb => by
  show ev F x (addL F (b.map (F.mul y)) (0 :: mulL F a b)) = F.mul (F.add (F.mul (ev F x a) x) y) (ev F x b)
  rw [ev_addL hF hx (mapL_in hF y b) (In.cons hF.zero_lt (mulL_in hF a b)), ev_map hF hx ha.head hb, ev_shl hF, ev_mulL hx ha.tail hb, hF.add_mul (hF.mul_lt _ _) ha.head (ev_lt hF x b), Ok.add_comm, hF.mul_swap]
theorem ev_trL {x : Nat} : ∀ (l : List Nat), ev F x (trL l) = ev F x l
 | [] => rfl
 | y :: l => by
  unfold trL
  split
  ·rename_i h
   show 0 = F.add (F.mul (ev F x l) x) y
   rw [← ev_trL l, h.2, h.1]
   show 0 = F.add (F.mul 0 x) 0
   rw [Ok.z_mul, hF.add_zero hF.zero_lt]
  ·show F.add (F.mul (ev F x (trL l)) x) y = _
   rw [ev_trL l]; rfl
theorem ev_addP {x : Nat} (hx : x < F.q) {a b : List Nat} (ha : In F a) (hb : In F b) : ev F x (addP F a b) = F.add (ev F x a) (ev F x b) := by unfold addP; rw [ev_trL hF, ev_addL hF hx ha hb]
theorem ev_mulP {x : Nat} (hx : x < F.q) {a b : List Nat} (ha : In F a) (hb : In F b) : ev F x (mulP F a b) = F.mul (ev F x a) (ev F x b) := by unfold mulP; rw [ev_trL hF, ev_mulL hF hx ha hb]
theorem ev_drop {x : Nat} {l : List Nat} {k : Nat} (hk : k < l.length) : ev F x (l.drop k) = F.add (F.mul (ev F x (l.drop (k + 1))) x) (l.getD k 0) := by
 rw [List.drop_eq_getElem_cons hk]
 show F.add (F.mul (ev F x (l.drop (k + 1))) x) l[k] = _
 simp [List.getD, hk]

/-! ### divisibility -/
/-- d divides a -/
def Dv (F : Gf) (d a : List Nat) : Prop := ∃ c, Po F c ∧ a = mulP F c d
theorem dv_nil (d : List Nat) : Dv F d [] := ⟨[], Po.nil, rfl⟩
theorem dv_mul {d a c : List Nat} (hd : Po F d) (hc : Po F c) (h : Dv F d a) : Dv F d (mulP F c a) := by
 obtain ⟨e, he, rfl⟩ := h
 exact ⟨mulP F c e, mulP_po hF _ _, (mulP_assoc hF hc.el he.el hd.el).symm⟩
theorem dv_add {d a b : List Nat} (hd : Po F d) (h1 : Dv F d a) (h2 : Dv F d b) : Dv F d (addP F a b) := by
 obtain ⟨c, hc, rfl⟩ := h1
 obtain ⟨e, he, rfl⟩ := h2
 exact ⟨addP F c e, addP_po hF hc.el he.el, (mulP_addP hF hc.el he.el hd.el).symm⟩
theorem dv_refl {d : List Nat} (hd : Po F d) : Dv F d d := ⟨[1], ⟨In.cons hF.one_lt In.nil, by simp [Cn]⟩, by rw [mulP_comm hF (In.cons hF.one_lt In.nil) hd.el, mulP_one hF hd]⟩
theorem dv_trans {a b c : List Nat} (ha : Po F a) (h1 : Dv F a b) (h2 : Dv F b c) : Dv F a c := by
 obtain ⟨e, he, rfl⟩ := h2
 exact dv_mul hF ha he h1
/-- one that divides and is as long is a multiple by a number; two monic ones are equal -/
theorem dv_anti {a b : List Nat} (ha : Po F a) (hb : Po F b) (h1 : Dv F a b) (h2 : Dv F b a) (la : a.getLast? = some 1) (lb : b.getLast? = some 1) : a = b := by
 have na : a ≠ [] := fun e => by rw [e] at la; cases la
 have nb : b ≠ [] := fun e => by rw [e] at lb; cases lb
 obtain ⟨c, hc, e1⟩ := h1
 obtain ⟨d, hd, e2⟩ := h2
 have nc : c ≠ [] := fun e => by rw [e] at e1; exact nb e1
 have nd : d ≠ [] := fun e => by rw [e] at e2; exact na e2
 have l1 := mulP_len hF hc ha nc na
 have l2 := mulP_len hF hd hb nd nb
 rw [← e1] at l1
 rw [← e2] at l2
 have p1 := List.length_pos_iff.2 na
 have p2 := List.length_pos_iff.2 nb
 have p3 := List.length_pos_iff.2 nc
 have p4 := List.length_pos_iff.2 nd
 have hc1 : c.length = 1 := by omega
 obtain ⟨x, rfl⟩ : ∃ x, c = [x] := by
  match c, hc1 with
  | [x], _ => exact ⟨x, rfl⟩
 have ht := mulP_top hF hc ha nc na
 rw [← e1] at ht
 have last : ∀ {l : List Nat}, l ≠ [] → l.getLast? = some 1 → l.getD (l.length - 1) 0 = 1 := fun {l} hl h => by
  rw [List.getLast?_eq_getElem?] at h
  rw [List.getD_eq_getElem?_getD, h]; rfl
 have hla := last na la
 have hlb := last nb lb
 have hx : x = 1 := by
  have e : fn b ([x].length - 1 + (a.length - 1)) = 1 := by
   rw [show [x].length - 1 + (a.length - 1) = b.length - 1 by simp at l1 ⊢; omega]
   exact hlb
  rw [e, hla] at ht
  have h0 : [x].getD ([x].length - 1) 0 = x := rfl
  rw [h0, hF.mul_one (hc.el x (by simp))] at ht
  exact ht.symm
 subst hx
 rw [e1, mulP_comm hF (In.cons hF.one_lt In.nil) ha.el, mulP_one hF ha]
theorem fn_DM {a b Q R : List Nat} (ha : Po F a) (hb : In F b) (h : DM F a b Q R) : a = addP F (mulP F Q b) R :=
 ha.ext (addP_po hF (mulP_po hF _ _).el h.r.el) (by rw [h.eq, fn_addP hF (mulP_po hF _ _).el h.r.el, fn_mulP hF])
/-- from a product with something of a lesser degree added -/
theorem DM.of {a b R : List Nat} (ha : Po F a) (hb : Po F b) (hR : Po F R) (hl : R.length < b.length) : DM F (addP F (mulP F a b) R) b a R :=
 ⟨ha, hR, by rw [fn_addP hF (mulP_po hF _ _).el hR.el, fn_mulP hF], hl⟩
end
end Go.Fl
