/- Polynomials over the fields with at most 64 elements, as lists of numbers: sums, products, degrees. -/
import Derived.Test.YtdafhhojiioifaaEvY2
namespace Go.Fl
set_option linter.unusedVariables false
set_option linter.unusedSectionVars false

variable {F : Gf}
namespace Ok
theorem zero_add (h : Ok F) {a : Nat} (ha : a < F.q) : F.add 0 a = a := by rw [Ok.add_comm]; exact h.add_zero ha
theorem one_mul (h : Ok F) {a : Nat} (ha : a < F.q) : F.mul 1 a = a := by rw [Ok.mul_comm]; exact h.mul_one ha
theorem zero_lt (h : Ok F) : 0 < F.q := by have := h.q2; omega
theorem mul_add (h : Ok F) {a b c : Nat} (ha : a < F.q) (hb : b < F.q) (hc : c < F.q) : F.mul c (F.add a b) = F.add (F.mul c a) (F.mul c b) := by
 rw [Ok.mul_comm, h.add_mul ha hb hc, Ok.mul_comm a, Ok.mul_comm b]
theorem add_left_cancel (h : Ok F) {a b c : Nat} (hb : b < F.q) (hc : c < F.q) (e : F.add a b = F.add a c) : b = c := by
 have k : ∀ x, x < F.q → F.add (F.neg a) (F.add a x) = x := fun x hx => by
  rw [← h.add_assoc, Ok.add_comm (F.neg a), h.add_neg, h.zero_add hx]
 rw [← k b hb, e, k c hc]
theorem sub_add (h : Ok F) {a : Nat} (ha : a < F.q) (b : Nat) : F.add (F.sub a b) b = a := by
 unfold Gf.sub
 rw [h.add_assoc, Ok.add_comm (F.neg b), h.add_neg, h.add_zero ha]
theorem sub_zero (h : Ok F) {a : Nat} (ha : a < F.q) : F.sub a 0 = a := by
 have := h.sub_add ha 0
 rwa [h.add_zero (h.sub_lt _ _)] at this
theorem sub_self (h : Ok F) {a : Nat} (ha : a < F.q) : F.sub a a = 0 := h.add_neg a
theorem sub_eq (h : Ok F) {a b c : Nat} (ha : a < F.q) (hc : c < F.q) (e : F.add c b = a) : F.sub a b = c := by rw [← e]; exact h.add_sub hc b
theorem mul_cancel (h : Ok F) {a b c : Nat} (hb : b < F.q) (hc : c < F.q) (ha : a < F.q) (hz : a ≠ 0) (e : F.mul a b = F.mul a c) : b = c := by
 have k : ∀ x, x < F.q → F.mul (F.inv a) (F.mul a x) = x := fun x hx => by
  rw [← h.mul_assoc, Ok.mul_comm (F.inv a), h.mul_inv ha hz, h.one_mul hx]
 rw [← k b hb, e, k c hc]
end Ok

/-- coefficients -/
abbrev Cf := Nat → Nat
def El (F : Gf) (f : Cf) : Prop := ∀ i, f i < F.q
def fn (l : List Nat) : Cf := fun i => l.getD i 0
def pz : Cf := fun _ => 0
def pa (F : Gf) (f g : Cf) : Cf := fun i => F.add (f i) (g i)
def ps (F : Gf) (c : Nat) (f : Cf) : Cf := fun i => F.mul c (f i)
def sh (f : Cf) : Cf
 | 0 => 0
 | i + 1 => f i
def pm (F : Gf) : List Nat → Cf → Cf
 | [], _ => pz
 | x :: l, g => pa F (ps F x g) (sh (pm F l g))
def In (F : Gf) (l : List Nat) : Prop := ∀ x ∈ l, x < F.q
theorem In.nil : In F [] := fun x h => by cases h
theorem In.head {x : Nat} {l : List Nat} (h : In F (x :: l)) : x < F.q := h x (by simp)
theorem In.tail {x : Nat} {l : List Nat} (h : In F (x :: l)) : In F l := fun y hy => h y (by simp [hy])
theorem In.cons {x : Nat} {l : List Nat} (h : x < F.q) (hl : In F l) : In F (x :: l) := fun y hy => by
 rcases List.mem_cons.1 hy with rfl | hy
 ·exact h
 ·exact hl y hy
theorem In.take {l : List Nat} (h : In F l) (k : Nat) : In F (l.take k) := fun y hy => h y (List.mem_of_mem_take hy)
theorem In.drop {l : List Nat} (h : In F l) (k : Nat) : In F (l.drop k) := fun y hy => h y (List.mem_of_mem_drop hy)
theorem In.get (hF : Ok F) {l : List Nat} (h : In F l) (i : Nat) : l.getD i 0 < F.q := by
 by_cases hi : i < l.length
 ·rw [List.getD_eq_getElem?_getD, List.getElem?_eq_getElem hi]; exact h _ (List.getElem_mem _)
 ·rw [List.getD_eq_getElem?_getD, List.getElem?_eq_none (by omega)]; exact hF.zero_lt
theorem In.el (hF : Ok F) {l : List Nat} (h : In F l) : El F (fn l) := fun i => h.get hF i

@[simp] theorem fn_nil : fn [] = pz := rfl
theorem fn_cons0 (x : Nat) (l : List Nat) : fn (x :: l) 0 = x := rfl
theorem fn_cons1 (x : Nat) (l : List Nat) (i : Nat) : fn (x :: l) (i + 1) = fn l i := by simp [fn]
theorem fn_ge {l : List Nat} {i : Nat} (h : l.length ≤ i) : fn l i = 0 := by unfold fn; rw [List.getD_eq_getElem?_getD, List.getElem?_eq_none h]; rfl
theorem sh_fn (l : List Nat) : sh (fn l) = fn (0 :: l) := by
 funext i
 cases i with
 | zero => rfl
 | succ i => rw [fn_cons1]; rfl

section ring
variable (hF : Ok F)
include hF
theorem el_z : El F pz := fun _ => hF.zero_lt
theorem el_a (f g : Cf) : El F (pa F f g) := fun _ => hF.add_lt _ _
theorem el_s (c : Nat) (f : Cf) : El F (ps F c f) := fun _ => hF.mul_lt _ _
theorem el_h {f : Cf} (h : El F f) : El F (sh f) := fun i => by
 cases i with
 | zero => exact hF.zero_lt
 | succ i => exact h i
theorem el_m (l : List Nat) (g : Cf) : El F (pm F l g) := by
 cases l with
 | nil => exact el_z hF
 | cons x l => exact el_a hF _ _
theorem pa_comm (f g : Cf) : pa F f g = pa F g f := funext fun i => Ok.add_comm _ _
theorem pa_assoc (f g k : Cf) : pa F (pa F f g) k = pa F f (pa F g k) := funext fun i => hF.add_assoc _ _ _
theorem pa_zero {f : Cf} (h : El F f) : pa F f pz = f := funext fun i => hF.add_zero (h i)
theorem zero_pa {f : Cf} (h : El F f) : pa F pz f = f := by rw [pa_comm hF]; exact pa_zero hF h
theorem pa_swap (a b c d : Cf) : pa F (pa F a b) (pa F c d) = pa F (pa F a c) (pa F b d) := by
 rw [pa_assoc hF, ← pa_assoc hF b, pa_comm hF b c, pa_assoc hF c, ← pa_assoc hF]
theorem ps_pa {c : Nat} {f g : Cf} (hc : c < F.q) (h1 : El F f) (h2 : El F g) : ps F c (pa F f g) = pa F (ps F c f) (ps F c g) := funext fun i => hF.mul_add (h1 i) (h2 i) hc
theorem add_ps {c d : Nat} {f : Cf} (hc : c < F.q) (hd : d < F.q) (h : El F f) : ps F (F.add c d) f = pa F (ps F c f) (ps F d f) := funext fun i => hF.add_mul hc hd (h i)
theorem ps_ps (c d : Nat) (f : Cf) : ps F (F.mul c d) f = ps F c (ps F d f) := funext fun i => hF.mul_assoc _ _ _
theorem ps_z (c : Nat) : ps F c pz = pz := funext fun i => Ok.mul_z c
theorem z_ps (f : Cf) : ps F 0 f = pz := funext fun i => Ok.z_mul _
theorem one_ps {f : Cf} (h : El F f) : ps F 1 f = f := funext fun i => hF.one_mul (h i)
theorem sh_z : sh pz = pz := funext fun i => by cases i <;> rfl
theorem sh_pa (f g : Cf) : sh (pa F f g) = pa F (sh f) (sh g) := funext fun i => by
 cases i with
 | zero => exact (hF.add_zero hF.zero_lt).symm
 | succ i => rfl
theorem sh_ps (c : Nat) (f : Cf) : sh (ps F c f) = ps F c (sh f) := funext fun i => by
 cases i with
 | zero => exact (Ok.mul_z c).symm
 | succ i => rfl
theorem pm_z (l : List Nat) : pm F l pz = pz := by
 induction l with
 | nil => rfl
 | cons x l ih => show pa F (ps F x pz) (sh (pm F l pz)) = _; rw [ih, ps_z hF, sh_z hF, pa_zero hF (el_z hF)]
theorem pm_pa {l : List Nat} {f g : Cf} (hl : In F l) (h1 : El F f) (h2 : El F g) : pm F l (pa F f g) = pa F (pm F l f) (pm F l g) := by
 induction l with
 | nil => exact (pa_zero hF (el_z hF)).symm
 | cons x l ih =>
  show pa F (ps F x (pa F f g)) (sh (pm F l (pa F f g))) = pa F (pa F (ps F x f) (sh (pm F l f))) (pa F (ps F x g) (sh (pm F l g)))
  rw [ih hl.tail, ps_pa hF hl.head h1 h2, sh_pa hF, pa_swap hF]
theorem pm_ps {l : List Nat} {c : Nat} {f : Cf} (hl : In F l) (hc : c < F.q) (h : El F f) : pm F l (ps F c f) = ps F c (pm F l f) := by
 induction l with
 | nil => exact (ps_z hF c).symm
 | cons x l ih =>
  show pa F (ps F x (ps F c f)) (sh (pm F l (ps F c f))) = ps F c (pa F (ps F x f) (sh (pm F l f)))
  rw [ih hl.tail, ps_pa hF hc (el_s hF _ _) (el_h hF (el_m hF _ _)), ← ps_ps hF, ← ps_ps hF, Ok.mul_comm x c, sh_ps hF]
theorem pm_sh {l : List Nat} {f : Cf} (hl : In F l) (h : El F f) : pm F l (sh f) = sh (pm F l f) := by
 induction l with
 | nil => exact (sh_z hF).symm
 | cons x l ih =>
  show pa F (ps F x (sh f)) (sh (pm F l (sh f))) = sh (pa F (ps F x f) (sh (pm F l f)))
  rw [ih hl.tail, sh_pa hF, sh_ps hF]
theorem pm_cons (x : Nat) (l : List Nat) (g : Cf) : pm F (x :: l) g = pa F (ps F x g) (sh (pm F l g)) := rfl
theorem fn_cons_eq {x : Nat} {l : List Nat} (hx : x < F.q) (hl : In F l) : fn (x :: l) = pa F (fn [x]) (sh (fn l)) := funext fun i => by
 cases i with
 | zero => exact (hF.add_zero hx).symm
 | succ i => rw [fn_cons1]; show _ = F.add (fn [x] (i + 1)) (fn l i); rw [fn_cons1]; exact (hF.zero_add (hl.el hF i)).symm
theorem pm_one (l : List Nat) {x : Nat} (hl : In F l) (hx : x < F.q) : pm F l (fn [x]) = ps F x (fn l) := by
 induction l with
 | nil => exact (ps_z hF x).symm
 | cons y l ih =>
  rw [pm_cons hF, ih hl.tail, fn_cons_eq hF hl.head hl.tail, ps_pa hF hx (In.el hF (In.cons hl.head In.nil)) (el_h hF (hl.tail.el hF)), sh_ps hF]
  congr 1
  funext i
  cases i with
  | zero => exact Ok.mul_comm _ _
  | succ i => show F.mul y (fn [x] (i + 1)) = F.mul x (fn [y] (i + 1)); rw [fn_cons1, fn_cons1, fn_nil]; show F.mul y 0 = F.mul x 0; rw [Ok.mul_z, Ok.mul_z]
theorem pm_comm {a b : List Nat} (ha : In F a) (hb : In F b) : pm F a (fn b) = pm F b (fn a) := by
 induction b with
 | nil => exact pm_z hF a
 | cons y b ih =>
  rw [fn_cons_eq hF hb.head hb.tail, pm_pa hF ha (In.el hF (In.cons hb.head In.nil)) (el_h hF (hb.tail.el hF)), pm_one hF a ha hb.head, pm_sh hF ha (hb.tail.el hF), ih hb.tail]
  rfl
theorem pm_unit {f : Cf} (h : El F f) : pm F [1] f = f := by
 rw [pm_cons hF, one_ps hF h]; show pa F f (sh pz) = f; rw [sh_z hF, pa_zero hF h]
end ring

/-! ### lists -/
def addL (F : Gf) : List Nat → List Nat → List Nat
 | [], b => b
 | a, [] => a
 | x :: a, y :: b => F.add x y :: addL F a b
def mulL (F : Gf) : List Nat → List Nat → List Nat
 | [], _ => []
 | x :: a, b => addL F (b.map (F.mul x)) (0 :: mulL F a b)

section lists
variable (hF : Ok F)
include hF
theorem addL_in : ∀ {a b : List Nat}, In F a → In F b → In F (addL F a b)
 | [], b, _, hb => by unfold addL; exact hb
 | x :: a, [], ha, _ => by unfold addL; exact ha
 | x :: a, y :: b, ha, hb => by unfold addL; exact In.cons (hF.add_lt _ _) (addL_in ha.tail hb.tail)
theorem mapL_in (x : Nat) (b : List Nat) : In F (b.map (F.mul x)) := fun y hy => by
 obtain ⟨z, _, rfl⟩ := List.mem_map.1 hy
 exact hF.mul_lt _ _
theorem mulL_in : ∀ (a b : List Nat), In F (mulL F a b)
 | [], b => In.nil
 | x :: a, b => addL_in hF (mapL_in hF x b) (In.cons hF.zero_lt (mulL_in a b))
theorem fn_addL : ∀ {a b : List Nat}, In F a → In F b → fn (addL F a b) = pa F (fn a) (fn b)
 | [], b, _, hb => by unfold addL; exact (zero_pa hF (hb.el hF)).symm
 | x :: a, [], ha, _ => by unfold addL; exact (pa_zero hF (ha.el hF)).symm
 | x :: a, y :: b, ha, hb => by
  unfold addL
  funext i
  cases i with
  | zero => rfl
  | succ i => rw [fn_cons1, fn_addL ha.tail hb.tail]; show _ = F.add _ _; rw [fn_cons1, fn_cons1]; rfl
theorem fn_map (x : Nat) (b : List Nat) : fn (b.map (F.mul x)) = ps F x (fn b) := by
 induction b with
 | nil => exact (ps_z hF x).symm
 | cons y b ih =>
  funext i
  cases i with
  | zero => rfl
  | succ i => rw [List.map_cons, fn_cons1, ih]; show F.mul _ _ = F.mul _ _; rw [fn_cons1]
theorem fn_mulL : ∀ (a b : List Nat), fn (mulL F a b) = pm F a (fn b)
 | [], b => rfl
 | x :: a, b => by
  show fn (addL F (b.map (F.mul x)) (0 :: mulL F a b)) = _
  rw [fn_addL hF (mapL_in hF x b) (In.cons hF.zero_lt (mulL_in hF a b)), fn_map hF, ← sh_fn, fn_mulL a b]; rfl
theorem pm_shl (a : List Nat) (g : Cf) : pm F (0 :: a) g = sh (pm F a g) := by
 rw [pm_cons hF, z_ps hF, zero_pa hF (el_h hF (el_m hF _ _))]
theorem pm_addL : ∀ {a b : List Nat} {g : Cf}, In F a → In F b → El F g → pm F (addL F a b) g = pa F (pm F a g) (pm F b g)
 | [], b, g, _, hb, hg => by unfold addL; exact (zero_pa hF (el_m hF _ _)).symm
 | x :: a, [], g, ha, _, hg => by unfold addL; exact (pa_zero hF (el_m hF _ _)).symm
 | x :: a, y :: b, g, ha, hb, hg => by
  unfold addL
  rw [pm_cons hF, pm_cons hF, pm_cons hF, pm_addL ha.tail hb.tail hg, add_ps hF ha.head hb.head hg, sh_pa hF, pa_swap hF]
theorem pm_map {x : Nat} {b : List Nat} {g : Cf} (hx : x < F.q) : pm F (b.map (F.mul x)) g = ps F x (pm F b g) := by
 induction b with
 | nil => exact (ps_z hF x).symm
 | cons y b ih => rw [List.map_cons, pm_cons hF, pm_cons hF, ih, ps_pa hF hx (el_s hF _ _) (el_h hF (el_m hF _ _)), ps_ps hF, sh_ps hF]
theorem pm_mulL : ∀ {a b : List Nat} {g : Cf}, In F a → El F g → pm F (mulL F a b) g = pm F a (pm F b g)
 | [], b, g, _, _ => rfl
 | x :: a, b, g, ha, hg => by
  show pm F (addL F (b.map (F.mul x)) (0 :: mulL F a b)) g = _
  rw [pm_addL hF (mapL_in hF x b) (In.cons hF.zero_lt (mulL_in hF a b)) hg, pm_map hF ha.head, pm_shl hF, pm_mulL ha.tail hg]; rfl
end lists

/-! ### without zeros at the end -/
def Cn (l : List Nat) : Prop := l.getLast? ≠ some 0
def trL : List Nat → List Nat
 | [] => []
 | x :: l => if x = 0 ∧ trL l = [] then [] else x :: trL l
theorem fn_trL : ∀ l, fn (trL l) = fn l
 | [] => rfl
 | x :: l => by
  unfold trL
  split
  ·rename_i h
   funext i
   cases i with
   | zero => rw [fn_cons0, h.1]; rfl
   | succ i => rw [fn_cons1, ← fn_trL l, h.2]; rfl
  ·funext i
   cases i with
   | zero => rfl
   | succ i => rw [fn_cons1, fn_cons1, fn_trL l]
theorem cn_trL : ∀ l, Cn (trL l)
 | [] => by simp [Cn, trL]
 | x :: l => by
  unfold trL
  split
  ·simp [Cn]
  ·rename_i h
   have ih := cn_trL l
   unfold Cn at *
   rcases hk : trL l with _ | ⟨y, m⟩
   ·simp; intro e; exact h ⟨e, hk⟩
   ·rw [hk] at ih; rw [List.getLast?_cons_cons]; exact ih
theorem in_trL {l : List Nat} (h : In F l) : In F (trL l) := by
 induction l with
 | nil => exact In.nil
 | cons x l ih =>
  unfold trL
  split
  ·exact In.nil
  ·exact In.cons h.head (ih h.tail)
theorem trL_len : ∀ l, (trL l).length ≤ l.length
 | [] => Nat.le_refl _
 | x :: l => by
  have := trL_len l
  unfold trL
  split <;> simp <;> omega
theorem cn_tail {x : Nat} {l : List Nat} (h : Cn (x :: l)) : Cn l := by
 unfold Cn at *
 cases l with
 | nil => simp
 | cons y m => rw [List.getLast?_cons_cons] at h; exact h
theorem cn_pz {l : List Nat} (h : Cn l) (hz : fn l = pz) : l = [] := by
 induction l with
 | nil => rfl
 | cons x l ih =>
  exfalso
  have hl := ih (cn_tail h) (funext fun i => by have := congrFun hz (i + 1); rwa [fn_cons1] at this)
  subst hl
  have h0 : x = 0 := congrFun hz 0
  subst h0
  simp [Cn] at h
theorem cn_inj : ∀ {a b : List Nat}, Cn a → Cn b → fn a = fn b → a = b
 | [], b, _, hb, e => (cn_pz hb e.symm).symm
 | x :: a, [], ha, _, e => cn_pz ha e
 | x :: a, y :: b, ha, hb, e => by
  have h0 := congrFun e 0
  rw [fn_cons0, fn_cons0] at h0
  rw [h0, cn_inj (cn_tail ha) (cn_tail hb) (funext fun i => by have := congrFun e (i + 1); rwa [fn_cons1, fn_cons1] at this)]
theorem trL_of {l : List Nat} (h : Cn l) : trL l = l := cn_inj (cn_trL l) h (fn_trL l)
theorem cn_last {l : List Nat} (h : Cn l) (hn : l ≠ []) : l.getD (l.length - 1) 0 ≠ 0 := by
 intro e
 apply h
 rw [List.getLast?_eq_getElem?]
 have hl := List.length_pos_iff.2 hn
 rw [List.getD_eq_getElem?_getD, List.getElem?_eq_getElem (by omega)] at e
 rw [List.getElem?_eq_getElem (by omega)]
 simpa using e
/-- a list whose value at n is not 0 has more than n elements -/
theorem lt_len {l : List Nat} {n : Nat} (h : fn l n ≠ 0) : n < l.length := by
 rcases Nat.lt_or_ge n l.length with h1 | h1
 ·exact h1
 ·exact absurd (fn_ge h1) h
theorem cn_len {l : List Nat} {n : Nat} (h : Cn l) (hz : ∀ i, n ≤ i → fn l i = 0) : l.length ≤ n := by
 rcases Nat.lt_or_ge n l.length with h1 | h1
 ·exfalso
  have hn : l ≠ [] := fun e => by rw [e] at h1; simp at h1
  exact cn_last h hn (hz (l.length - 1) (by omega))
 ·exact h1

section degrees
variable (hF : Ok F)
include hF
/-- a product is 0 where degrees don't reach -/
theorem pm_ge {a : List Nat} {g : Cf} {n : Nat} (hg : ∀ i, n ≤ i → g i = 0) : ∀ i, a.length + n ≤ i + 1 → (a = [] ∨ 0 < n) → pm F a g i = 0 := by
 induction a with
 | nil => intro i _ _; rfl
 | cons x a ih =>
  intro i hi hn
  have h0 : 0 < n := by rcases hn with h | h; cases h; exact h
  rw [pm_cons hF]
  show F.add (F.mul x (g i)) (sh (pm F a g) i) = 0
  rw [List.length_cons] at hi
  rw [hg i (by omega), Ok.mul_z]
  cases i with
  | zero => exact hF.add_zero hF.zero_lt
  | succ i =>
   show F.add 0 (pm F a g i) = 0
   rw [ih i (by omega) (.inr h0)]
   exact hF.add_zero hF.zero_lt
/-- the leading coefficient of a product -/
theorem pm_top {a : List Nat} {g : Cf} {n : Nat} (ha : In F a) (hg : ∀ i, n < i → g i = 0) (hgq : El F g) (hn : a ≠ []) : pm F a g (a.length - 1 + n) = F.mul (a.getD (a.length - 1) 0) (g n) := by
 induction a with
 | nil => exact absurd rfl hn
 | cons x a ih =>
  rw [pm_cons hF]
  show F.add (F.mul x (g _)) (sh (pm F a g) _) = _
  by_cases h : a = []
  ·subst h
   simp only [List.length_singleton, Nat.sub_self, Nat.zero_add]
   show F.add (F.mul x (g n)) (sh pz n) = F.mul x (g n)
   rw [sh_z hF]
   exact hF.add_zero (hF.mul_lt _ _)
  ·have hl := List.length_pos_iff.2 h
   have e : (x :: a).length - 1 + n = (a.length - 1 + n) + 1 := by rw [List.length_cons]; omega
   rw [e, hg _ (by omega), Ok.mul_z]
   show F.add 0 (pm F a g (a.length - 1 + n)) = _
   rw [ih ha.tail h, hF.zero_add (hF.mul_lt _ _)]
   congr 1
   rw [List.length_cons, show a.length + 1 - 1 = (a.length - 1) + 1 by omega]
   simp
end degrees

/-! ### polynomials in their one form -/
structure Po (F : Gf) (l : List Nat) : Prop where
 el : In F l
 cn : Cn l
theorem Po.nil : Po F [] := ⟨In.nil, by simp [Cn]⟩
theorem Po.tr {l : List Nat} (h : In F l) : Po F (trL l) := ⟨in_trL h, cn_trL l⟩
theorem Po.ext {a b : List Nat} (ha : Po F a) (hb : Po F b) (e : fn a = fn b) : a = b := cn_inj ha.cn hb.cn e
def addP (F : Gf) (a b : List Nat) : List Nat := trL (addL F a b)
def mulP (F : Gf) (a b : List Nat) : List Nat := trL (mulL F a b)
section polys
variable (hF : Ok F)
include hF
theorem addP_po {a b : List Nat} (ha : In F a) (hb : In F b) : Po F (addP F a b) := Po.tr (addL_in hF ha hb)
theorem mulP_po (a b : List Nat) : Po F (mulP F a b) := Po.tr (mulL_in hF a b)
theorem fn_addP {a b : List Nat} (ha : In F a) (hb : In F b) : fn (addP F a b) = pa F (fn a) (fn b) := by unfold addP; rw [fn_trL, fn_addL hF ha hb]
theorem fn_mulP (a b : List Nat) : fn (mulP F a b) = pm F a (fn b) := by unfold mulP; rw [fn_trL, fn_mulL hF]
theorem addP_comm {a b : List Nat} (ha : In F a) (hb : In F b) : addP F a b = addP F b a :=
 (addP_po hF ha hb).ext (addP_po hF hb ha) (by rw [fn_addP hF ha hb, fn_addP hF hb ha, pa_comm hF])
theorem addP_assoc {a b c : List Nat} (ha : In F a) (hb : In F b) (hc : In F c) : addP F (addP F a b) c = addP F a (addP F b c) :=
 (addP_po hF (addP_po hF ha hb).el hc).ext (addP_po hF ha (addP_po hF hb hc).el) (by
  rw [fn_addP hF (addP_po hF ha hb).el hc, fn_addP hF ha hb, fn_addP hF ha (addP_po hF hb hc).el, fn_addP hF hb hc, pa_assoc hF])
theorem mulP_comm {a b : List Nat} (ha : In F a) (hb : In F b) : mulP F a b = mulP F b a :=
 (mulP_po hF a b).ext (mulP_po hF b a) (by rw [fn_mulP hF, fn_mulP hF, pm_comm hF ha hb])
theorem pm_congr {a b : List Nat} (ha : In F a) (hb : In F b) (e : fn a = fn b) {c : List Nat} (hc : In F c) : pm F a (fn c) = pm F b (fn c) := by
 rw [pm_comm hF ha hc, pm_comm hF hb hc, e]
theorem mulP_assoc {a b c : List Nat} (ha : In F a) (hb : In F b) (hc : In F c) : mulP F (mulP F a b) c = mulP F a (mulP F b c) :=
 (mulP_po hF _ _).ext (mulP_po hF _ _) (by
  rw [fn_mulP hF, fn_mulP hF, fn_mulP hF, pm_congr hF (mulP_po hF a b).el (mulL_in hF a b) (by rw [fn_mulP hF, fn_mulL hF]) hc, pm_mulL hF ha (hc.el hF)])
theorem mulP_addP {a b c : List Nat} (ha : In F a) (hb : In F b) (hc : In F c) : mulP F (addP F a b) c = addP F (mulP F a c) (mulP F b c) :=
 (mulP_po hF _ _).ext (addP_po hF (mulP_po hF _ _).el (mulP_po hF _ _).el) (by
  rw [fn_mulP hF, fn_addP hF (mulP_po hF _ _).el (mulP_po hF _ _).el, fn_mulP hF, fn_mulP hF, pm_congr hF (addP_po hF ha hb).el (addL_in hF ha hb) (by rw [fn_addP hF ha hb, fn_addL hF ha hb]) hc, pm_addL hF ha hb (hc.el hF)])
theorem mulP_one {a : List Nat} (ha : Po F a) : mulP F a [1] = a :=
 (mulP_po hF _ _).ext ha (by rw [fn_mulP hF, pm_one hF a ha.el hF.one_lt, one_ps hF (ha.el.el hF)])
theorem addP_nil {a : List Nat} (ha : Po F a) : addP F a [] = a :=
 (addP_po hF ha.el In.nil).ext ha (by rw [fn_addP hF ha.el In.nil, fn_nil, pa_zero hF (ha.el.el hF)])
theorem mulP_nil (a : List Nat) : mulP F a [] = [] := cn_pz (mulP_po hF a []).cn (by rw [fn_mulP hF, fn_nil, pm_z hF])
theorem nil_mulP (a : List Nat) : mulP F [] a = [] := rfl
theorem mulP_top {a b : List Nat} (ha : Po F a) (hb : Po F b) (na : a ≠ []) (nb : b ≠ []) : fn (mulP F a b) (a.length - 1 + (b.length - 1)) = F.mul (a.getD (a.length - 1) 0) (b.getD (b.length - 1) 0) := by
 have hl := List.length_pos_iff.2 nb
 rw [fn_mulP hF]
 exact pm_top hF ha.el (n := b.length - 1) (fun i hi => fn_ge (by omega)) (hb.el.el hF) na
theorem mulP_len {a b : List Nat} (ha : Po F a) (hb : Po F b) (na : a ≠ []) (nb : b ≠ []) : (mulP F a b).length = a.length + b.length - 1 := by
 have h1 := List.length_pos_iff.2 na
 have h2 := List.length_pos_iff.2 nb
 have ht := mulP_top hF ha hb na nb
 have hne : fn (mulP F a b) (a.length - 1 + (b.length - 1)) ≠ 0 := by rw [ht]; exact hF.mul_ne (cn_last ha.cn na) (cn_last hb.cn nb)
 have h3 := lt_len hne
 have h4 := cn_len (n := a.length + b.length - 1) (mulP_po hF a b).cn fun i hi => by
  rw [fn_mulP hF]
  exact pm_ge hF (n := b.length) (fun j hj => fn_ge hj) i (by omega) (.inr h2)
 omega
theorem mulP_ne {a b : List Nat} (ha : Po F a) (hb : Po F b) (na : a ≠ []) (nb : b ≠ []) : mulP F a b ≠ [] := fun e => by
 have := mulP_len hF ha hb na nb
 have h1 := List.length_pos_iff.2 na
 have h2 := List.length_pos_iff.2 nb
 rw [e] at this
 simp at this
 omega
end polys
end Go.Fl

/- Polynomials over the fields with at most 64 elements: differences, division, common divisors. -/
namespace Go.Fl
set_option linter.unusedVariables false
set_option linter.unusedSectionVars false

variable {F : Gf}
namespace Ok
theorem neg_zero (h : Ok F) : F.neg 0 = 0 := by have := h.add_neg 0; rwa [h.zero_add (h.neg_lt _)] at this
theorem neg_mul (h : Ok F) {a : Nat} (ha : a < F.q) : F.mul (F.neg 1) a = F.neg a := by
 have e : F.add a (F.mul (F.neg 1) a) = 0 := by
  have := h.add_mul h.one_lt (h.neg_lt 1) ha
  rw [h.add_neg, h.one_mul ha, Ok.z_mul] at this
  exact this.symm
 exact h.add_left_cancel (h.mul_lt _ _) (h.neg_lt _) (e.trans (h.add_neg a).symm)
theorem sub_mul (h : Ok F) {a b : Nat} (hb : b < F.q) : F.sub a b = F.add a (F.mul (F.neg 1) b) := by rw [h.neg_mul hb]; rfl
end Ok
def subP (F : Gf) (a b : List Nat) : List Nat := addP F a (b.map (F.mul (F.neg 1)))
/-- shifted n places -/
def shN : Nat → Cf → Cf
 | 0, f => f
 | n + 1, f => sh (shN n f)
theorem shN_at (f : Cf) : ∀ (n i : Nat), shN n f i = if i < n then 0 else f (i - n)
 | 0, i => by simp [shN]
 | n + 1, 0 => by simp [shN, sh]
 | n + 1, i + 1 => by
  show shN n f i = _
  rw [shN_at f n i]
  by_cases h : i < n
  ·rw [if_pos h, if_pos (by omega)]
  ·rw [if_neg h, if_neg (by omega), show i + 1 - (n + 1) = i - n by omega]
section
variable (hF : Ok F)
include hF
theorem subP_po {a b : List Nat} (ha : In F a) : Po F (subP F a b) := addP_po hF ha (mapL_in hF _ _)
theorem fn_subP {a b : List Nat} (ha : In F a) : fn (subP F a b) = pa F (fn a) (ps F (F.neg 1) (fn b)) := by unfold subP; rw [fn_addP hF ha (mapL_in hF _ _), fn_map hF]
theorem pa_neg {f : Cf} (h : El F f) : pa F f (ps F (F.neg 1) f) = pz := funext fun i => by
 show F.add (f i) (F.mul (F.neg 1) (f i)) = 0
 rw [hF.neg_mul (h i)]; exact hF.add_neg _
theorem el_shN {f : Cf} (h : El F f) : ∀ n, El F (shN n f)
 | 0 => h
 | n + 1 => el_h hF (el_shN h n)
theorem pm_set {g : Cf} (hg : El F g) {x : Nat} (hx : x < F.q) : ∀ {l : List Nat} {s : Nat}, In F l → s < l.length → l.getD s 0 = 0 → pm F (l.set s x) g = pa F (pm F l g) (shN s (ps F x g))
 | [], s, _, h, _ => by simp at h
 | y :: l, 0, hl, _, h0 => by
  have : y = 0 := h0
  subst this
  show pa F (ps F x g) (sh (pm F l g)) = pa F (pa F (ps F 0 g) (sh (pm F l g))) (ps F x g)
  rw [z_ps hF, zero_pa hF (el_h hF (el_m hF _ _)), pa_comm hF]
 | y :: l, s + 1, hl, h, h0 => by
  show pa F (ps F y g) (sh (pm F (l.set s x) g)) = pa F (pa F (ps F y g) (sh (pm F l g))) (sh (shN s (ps F x g)))
  rw [pm_set hg hx hl.tail (by simpa using h) (by simpa using h0), sh_pa hF, pa_assoc hF]
/-- division: quotient and remainder -/
structure DM (F : Gf) (a b Q R : List Nat) : Prop where
 q : Po F Q
 r : Po F R
 eq : fn a = pa F (pm F Q (fn b)) (fn R)
 len : R.length < b.length
theorem pa_cancel {f g k : Cf} (hg : El F g) (hk : El F k) (e : pa F f g = pa F f k) : g = k := funext fun i => hF.add_left_cancel (hg i) (hk i) (congrFun e i)
theorem DM.uniq {a b Q R Q' R' : List Nat} (hb : Po F b) (h : DM F a b Q R) (h' : DM F a b Q' R') : Q = Q' ∧ R = R' := by
 have hbn : b ≠ [] := fun e => by have := h.len; rw [e] at this; simp at this
 have hD := subP_po hF (a := Q) (b := Q') h.q.el
 have key : pm F (subP F Q Q') (fn b) = pa F (fn R') (ps F (F.neg 1) (fn R)) := by
  have e1 := h.eq.symm.trans h'.eq
  rw [pm_congr hF hD.el (addL_in hF h.q.el (mapL_in hF (F.neg 1) Q')) (by rw [fn_subP hF h.q.el, fn_addL hF h.q.el (mapL_in hF _ _), fn_map hF]) hb.el, pm_addL hF h.q.el (mapL_in hF _ _) (hb.el.el hF), pm_map hF (hF.neg_lt 1)]
  funext i
  have e2 := congrFun e1 i
  have l1 : pm F Q (fn b) i < F.q := el_m hF _ _ i
  have l2 : pm F Q' (fn b) i < F.q := el_m hF _ _ i
  have l3 : fn R i < F.q := h.r.el.el hF i
  have l4 : fn R' i < F.q := h'.r.el.el hF i
  show F.add (pm F Q (fn b) i) (F.mul (F.neg 1) (pm F Q' (fn b) i)) = F.add (fn R' i) (F.mul (F.neg 1) (fn R i))
  have e3 : F.add (pm F Q (fn b) i) (fn R i) = F.add (pm F Q' (fn b) i) (fn R' i) := e2
  rw [hF.neg_mul l2, hF.neg_mul l3]
  generalize pm F Q (fn b) i = x at *
  generalize pm F Q' (fn b) i = y at *
  generalize fn R i = u at *
  generalize fn R' i = v at *
  have k1 : x = F.sub (F.add y v) u := (hF.sub_eq (hF.add_lt _ _) l1 e3).symm
  rw [k1]
  unfold Gf.sub
  rw [Ok.add_comm y v, hF.add_assoc, hF.add_assoc, Ok.add_comm y, hF.add_assoc, Ok.add_comm (F.neg y), hF.add_neg, hF.add_zero (hF.neg_lt _)]
 have hz : subP F Q Q' = [] := by
  rcases Decidable.em (subP F Q Q' = []) with hz | hz
  ·exact hz
  ·exfalso
   have h1 := mulP_top hF hD hb hz hbn
   have hne := hF.mul_ne (cn_last hD.cn hz) (cn_last hb.cn hbn)
   rw [← h1, fn_mulP hF, key] at hne
   apply hne
   have hlb := List.length_pos_iff.2 hbn
   have := h.len
   have := h'.len
   show F.add (fn R' _) (F.mul _ (fn R _)) = 0
   rw [fn_ge (l := R') (by omega), fn_ge (l := R) (by omega), Ok.mul_z]
   exact hF.add_zero hF.zero_lt
 have hQ : Q = Q' := h.q.ext h'.q (by
  have e := fn_subP hF (a := Q) (b := Q') h.q.el
  rw [hz, fn_nil] at e
  funext i
  have e1 := congrFun e i
  have l2 : fn Q' i < F.q := h'.q.el.el hF i
  have l1 : fn Q i < F.q := h.q.el.el hF i
  have e2 : F.add (fn Q i) (F.neg (fn Q' i)) = 0 := by
   have : (0 : Nat) = F.add (fn Q i) (F.mul (F.neg 1) (fn Q' i)) := e1
   rw [hF.neg_mul l2] at this
   exact this.symm
  have := hF.sub_add l1 (fn Q' i)
  unfold Gf.sub at this
  rw [e2, hF.zero_add l2] at this
  exact this.symm)
 refine ⟨hQ, h.r.ext h'.r ?_⟩
 have e1 := h.eq.symm.trans h'.eq
 rw [hQ] at e1
 exact pa_cancel hF (h.r.el.el hF) (h'.r.el.el hF) e1
/-- the loop of a division: what is left, and the factors, from place s on -/
structure DL (F : Gf) (a b L Q : List Nat) (s : Nat) : Prop where
 ll : L.length = a.length
 lq : Q.length = a.length - (b.length - 1)
 il : In F L
 iq : In F Q
 low : ∀ t, t < s → Q.getD t 0 = 0
 high : ∀ j, s + (b.length - 1) ≤ j → fn L j = 0
 eq : fn a = pa F (pm F Q (fn b)) (fn L)
theorem pm_zeros (g : Cf) : ∀ n, pm F (List.replicate n 0) g = pz
 | 0 => rfl
 | n + 1 => by
  show pa F (ps F 0 g) (sh (pm F (List.replicate n 0) g)) = pz
  rw [pm_zeros g n, z_ps hF, sh_z hF, pa_zero hF (el_z hF)]
theorem DL.start {a b : List Nat} (ha : In F a) (hb : b ≠ []) : DL F a b a (List.replicate (a.length - (b.length - 1)) 0) (a.length - (b.length - 1)) := by
 refine ⟨rfl, by simp, ha, fun x hx => by rw [List.eq_of_mem_replicate hx]; exact hF.zero_lt, fun t ht => by simp [List.getD, ht], fun j hj => fn_ge (by omega), ?_⟩
 rw [pm_zeros hF, zero_pa hF (ha.el hF)]
/-- what a step makes of what is left: k of the coefficients are done -/
def stepL (F : Gf) (L b : List Nat) (s x k : Nat) : List Nat := (List.range L.length).map fun j => if s ≤ j ∧ j < s + k then F.sub (L.getD j 0) (F.mul x (b.getD (j - s) 0)) else L.getD j 0
theorem stepL_len (L b : List Nat) (s x k : Nat) : (stepL F L b s x k).length = L.length := by simp [stepL]
theorem stepL_get {L b : List Nat} {s x k j : Nat} : (stepL F L b s x k).getD j 0 = if s ≤ j ∧ j < s + k ∧ j < L.length then F.sub (L.getD j 0) (F.mul x (b.getD (j - s) 0)) else L.getD j 0 := by
 unfold stepL
 by_cases hj : j < L.length
 ·rw [List.getD_eq_getElem?_getD, List.getElem?_map, List.getElem?_range hj]
  simp [hj]
 ·rw [List.getD_eq_getElem?_getD, List.getElem?_eq_none (by simp; omega), List.getD_eq_getElem?_getD, List.getElem?_eq_none (by omega)]
  simp
  intro _ _ h
  omega
theorem stepL_in {L b : List Nat} (hL : In F L) (s x k : Nat) : In F (stepL F L b s x k) := by
 intro y hy
 unfold stepL at hy
 obtain ⟨j, _, rfl⟩ := List.mem_map.1 hy
 split
 ·exact hF.sub_lt _ _
 ·exact hL.get hF j
theorem getD_ext {a b : List Nat} (hl : a.length = b.length) (h : ∀ j, j < a.length → a.getD j 0 = b.getD j 0) : a = b := by
 apply List.ext_getElem hl
 intro j h1 h2
 have := h j h1
 simpa [List.getD, h1, h2] using this
theorem stepL_zero (L b : List Nat) (s x : Nat) : stepL F L b s x 0 = L :=
 getD_ext hF (by rw [stepL_len hF]) fun j _ => by rw [stepL_get hF, if_neg (by omega)]
theorem stepL_succ {L b : List Nat} {s x k : Nat} (hk : s + k < L.length) : (stepL F L b s x k).set (s + k) (F.sub (L.getD (s + k) 0) (F.mul x (b.getD k 0))) = stepL F L b s x (k + 1) := by
 refine getD_ext hF (by simp [stepL_len hF]) fun j hj => ?_
 rw [List.length_set, stepL_len hF] at hj
 rw [stepL_get hF (k := k + 1)]
 by_cases e : j = s + k
 ·subst e
  rw [if_pos (by omega), show s + k - s = k by omega]
  simp [List.getD, stepL_len hF, hk]
 ·have : ((stepL F L b s x k).set (s + k) (F.sub (L.getD (s + k) 0) (F.mul x (b.getD k 0)))).getD j 0 = (stepL F L b s x k).getD j 0 := by
   simp only [List.getD_eq_getElem?_getD]
   rw [List.getElem?_set_ne (by omega)]
  rw [this, stepL_get hF]
  by_cases h1 : s ≤ j ∧ j < s + k ∧ j < L.length
  ·rw [if_pos h1, if_pos (by omega)]
  ·rw [if_neg h1, if_neg (by omega)]
theorem stepL_at {L b : List Nat} {s x k : Nat} (h : s + k < L.length) : (stepL F L b s x k).getD (s + k) 0 = L.getD (s + k) 0 := by rw [stepL_get hF, if_neg (by omega)]
theorem DL.step {a b L Q : List Nat} {s : Nat} (hb : Po F b) (hbn : b ≠ []) (h : DL F a b L Q (s + 1)) (hs : s < Q.length) :
  DL F a b (stepL F L b s (F.mul (L.getD (s + (b.length - 1)) 0) (F.inv (b.getD (b.length - 1) 0))) b.length) (Q.set s (F.mul (L.getD (s + (b.length - 1)) 0) (F.inv (b.getD (b.length - 1) 0)))) s := by
 have hlb := List.length_pos_iff.2 hbn
 have hlq := h.lq
 have hll := h.ll
 have hxq : F.mul (L.getD (s + (b.length - 1)) 0) (F.inv (b.getD (b.length - 1) 0)) < F.q := hF.mul_lt _ _
 have htop : F.mul (F.mul (L.getD (s + (b.length - 1)) 0) (F.inv (b.getD (b.length - 1) 0))) (b.getD (b.length - 1) 0) = L.getD (s + (b.length - 1)) 0 := by
  rw [hF.mul_assoc, Ok.mul_comm (F.inv _), hF.mul_inv (hb.el.get hF _) (cn_last hb.cn hbn), hF.mul_one (h.il.get hF _)]
 generalize F.mul (L.getD (s + (b.length - 1)) 0) (F.inv (b.getD (b.length - 1) 0)) = x at *
 refine ⟨by rw [stepL_len hF]; exact hll, by rw [List.length_set]; exact hlq, stepL_in hF h.il _ _ _, fun y hy => ?_, fun t ht => ?_, fun j hj => ?_, ?_⟩
 ·rcases List.mem_or_eq_of_mem_set hy with hy | rfl
  ·exact h.iq y hy
  ·exact hxq
 ·have := h.low t (by omega)
  simp only [List.getD_eq_getElem?_getD] at this ⊢
  rw [List.getElem?_set_ne (by omega)]; exact this
 ·show (stepL F L b s x b.length).getD j 0 = 0
  rw [stepL_get hF]
  by_cases hh : s ≤ j ∧ j < s + b.length ∧ j < L.length
  ·rw [if_pos hh]
   have e : j = s + (b.length - 1) := by omega
   subst e
   rw [show s + (b.length - 1) - s = b.length - 1 by omega, htop]
   exact hF.sub_self (h.il.get hF _)
  ·rw [if_neg hh]
   exact h.high j (by omega)
 ·rw [pm_set hF (hb.el.el hF) hxq h.iq hs (h.low s (by omega)), h.eq, pa_assoc hF]
  congr 1
  funext i
  show fn L i = F.add (shN s (ps F x (fn b)) i) ((stepL F L b s x b.length).getD i 0)
  rw [shN_at, stepL_get hF]
  show L.getD i 0 = _
  by_cases h1 : i < s
  ·rw [if_pos h1, if_neg (by omega), hF.zero_add (h.il.get hF _)]
  ·rw [if_neg h1]
   by_cases h2 : i < s + b.length
   ·rw [if_pos (by omega), Ok.add_comm]
    exact (hF.sub_add (h.il.get hF _) _).symm
   ·rw [if_neg (by omega)]
    show _ = F.add (F.mul x (fn b (i - s))) _
    rw [fn_ge (l := b) (by omega), Ok.mul_z, hF.zero_add (h.il.get hF _)]
theorem DL.fin {a b L Q : List Nat} (hbn : b ≠ []) (h : DL F a b L Q 0) : DM F a b (trL Q) (trL (L.take (min (b.length - 1) L.length))) := by
 have hlb := List.length_pos_iff.2 hbn
 refine ⟨Po.tr h.iq, Po.tr (h.il.take _), ?_, ?_⟩
 ·have e : fn (trL (L.take (min (b.length - 1) L.length))) = fn L := by
   rw [fn_trL]
   funext i
   by_cases hi : i < min (b.length - 1) L.length
   ·show (List.take _ L).getD i 0 = L.getD i 0
    simp only [List.getD_eq_getElem?_getD]
    rw [List.getElem?_take_of_lt hi]
   ·rw [fn_ge (l := L.take _) (by rw [List.length_take]; omega)]
    by_cases h2 : i < L.length
    ·exact (h.high i (by omega)).symm
    ·exact (fn_ge (by omega)).symm
  rw [e, h.eq]
  congr 1
  have : ∀ (l : List Nat) (g : Cf), In F l → El F g → pm F l g = pm F (trL l) g := fun l g hl hg => by
   induction l with
   | nil => rfl
   | cons x l ih =>
    unfold trL
    split
    ·rename_i hx
     rw [pm_cons hF, ih hl.tail, hx.1, hx.2, z_ps hF]
     show pa F pz (sh pz) = pz
     rw [sh_z hF, pa_zero hF (el_z hF)]
    ·rw [pm_cons hF, pm_cons hF, ih hl.tail]
  funext i
  by_cases hb : El F (fn b)
  ·rw [this Q (fn b) h.iq hb]
  ·have : ∀ (l : List Nat) (g : Cf), pm F l g = pm F (trL l) g := fun l g => by
    induction l with
    | nil => rfl
    | cons x l ih =>
     unfold trL
     split
     ·rename_i hx
      rw [pm_cons hF, ih, hx.1, hx.2, z_ps hF]
      show pa F pz (sh pz) = pz
      rw [sh_z hF, pa_zero hF (el_z hF)]
     ·rw [pm_cons hF, pm_cons hF, ih]
   rw [this]
 ·have h1 := trL_len (L.take (min (b.length - 1) L.length))
  rw [List.length_take] at h1
  omega
end
end Go.Fl
