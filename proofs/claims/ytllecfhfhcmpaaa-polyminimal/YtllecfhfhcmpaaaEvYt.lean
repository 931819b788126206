/- The fields with at most 64 elements as rings: identities by reckoning with expressions; divided differences. -/
import Derived.Test.YtllecfhfhcmpaaaEvYs
namespace Go.Fl
set_option linter.unusedVariables false
set_option linter.unusedSectionVars false

class OkC (F : Gf) : Prop where
 ok : Ok F
/-- an element -/
def Fe (F : Gf) : Type := {v : Nat // v < F.q}
namespace Fe
variable {F : Gf} [H : OkC F]
instance : Add (Fe F) := ⟨fun a b => ⟨F.add a.1 b.1, H.ok.add_lt _ _⟩⟩
instance : Mul (Fe F) := ⟨fun a b => ⟨F.mul a.1 b.1, H.ok.mul_lt _ _⟩⟩
instance : Neg (Fe F) := ⟨fun a => ⟨F.neg a.1, H.ok.neg_lt _⟩⟩
instance : Sub (Fe F) := ⟨fun a b => ⟨F.sub a.1 b.1, H.ok.add_lt _ _⟩⟩
instance : OfNat (Fe F) 0 := ⟨⟨0, H.ok.zero_lt⟩⟩
instance : OfNat (Fe F) 1 := ⟨⟨1, H.ok.one_lt⟩⟩
theorem ext' {a b : Fe F} (h : a.1 = b.1) : a = b := Subtype.ext h
theorem add_z (a : Fe F) : a + 0 = a := ext' (H.ok.add_zero a.2)
theorem add_c (a b : Fe F) : a + b = b + a := ext' (Ok.add_comm _ _)
theorem add_a (a b c : Fe F) : a + b + c = a + (b + c) := ext' (H.ok.add_assoc _ _ _)
theorem z_add (a : Fe F) : 0 + a = a := by rw [add_c, add_z]
theorem mul_c (a b : Fe F) : a * b = b * a := ext' (Ok.mul_comm _ _)
theorem mul_a (a b c : Fe F) : a * b * c = a * (b * c) := ext' (H.ok.mul_assoc _ _ _)
theorem mul_o (a : Fe F) : a * 1 = a := ext' (H.ok.mul_one a.2)
theorem o_mul (a : Fe F) : 1 * a = a := by rw [mul_c, mul_o]
theorem mul_z (a : Fe F) : a * 0 = 0 := ext' (Ok.mul_z (F := F) a.1)
theorem z_mul (a : Fe F) : 0 * a = 0 := by rw [mul_c, mul_z]
theorem mul_add (a b c : Fe F) : a * (b + c) = a * b + a * c := ext' (H.ok.mul_add b.2 c.2 a.2)
theorem add_mul (a b c : Fe F) : (a + b) * c = a * c + b * c := ext' (H.ok.add_mul a.2 b.2 c.2)
theorem sub_eq (a b : Fe F) : a - b = a + -b := rfl
theorem add_neg (a : Fe F) : a + -a = 0 := ext' (H.ok.add_neg _)
theorem cancel {a b c : Fe F} (h : a + b = a + c) : b = c := ext' (H.ok.add_left_cancel b.2 c.2 (congrArg Subtype.val h))
theorem swap4 (a b c d : Fe F) : a + b + (c + d) = a + c + (b + d) := by rw [add_a, ← add_a b, add_c b, add_a c, ← add_a]
theorem neg_mul (a b : Fe F) : (-a) * b = -(a * b) := cancel (a := a * b) (by rw [← add_mul, add_neg, add_neg, z_mul])
/-- equal sums of what is added and what is taken away -/
theorem sub_same {a b c d : Fe F} (h : a + d = c + b) : a - b = c - d := by
 refine cancel (a := b + d) ?_
 have e1 : b + d + (a - b) = a + d := by rw [sub_eq, add_c b, add_a, ← add_a b, add_c b, add_a a, add_neg, add_z, add_c]
 have e2 : b + d + (c - d) = c + b := by rw [sub_eq, add_a, ← add_a d, add_c d c, add_a c, add_neg, add_z, add_c]
 rw [e1, e2, h]
end Fe

/-! ### expressions -/
inductive RE where
 | v (i : Nat)
 | o
 | z
 | add (a b : RE)
 | mul (a b : RE)
 | sub (a b : RE)
namespace RE
instance : Add RE := ⟨add⟩
instance : Mul RE := ⟨mul⟩
instance : Sub RE := ⟨sub⟩
instance : OfNat RE 0 := ⟨z⟩
instance : OfNat RE 1 := ⟨o⟩
def ins (x : Nat) : List Nat → List Nat
 | [] => [x]
 | y :: l => bif Nat.ble x y then x :: y :: l else y :: ins x l
/-- the product of two products -/
def mm : List Nat → List Nat → List Nat
 | [], b => b
 | x :: a, b => ins x (mm a b)
def pp (a b : List (List Nat)) : List (List Nat) := a.flatMap fun m => b.map (mm m)
/-- what is added, and what is taken away -/
def ex : RE → List (List Nat) × List (List Nat)
 | v i => ([[i]], [])
 | o => ([[]], [])
 | z => ([], [])
 | add a b => (a.ex.1 ++ b.ex.1, a.ex.2 ++ b.ex.2)
 | sub a b => (a.ex.1 ++ b.ex.2, a.ex.2 ++ b.ex.1)
 | mul a b => (pp a.ex.1 b.ex.1 ++ pp a.ex.2 b.ex.2, pp a.ex.1 b.ex.2 ++ pp a.ex.2 b.ex.1)
/-- equal as expressions -/
def same (a b : RE) : Bool := (a.ex.1 ++ b.ex.2).isPerm (b.ex.1 ++ a.ex.2)
section
variable {F : Gf} [H : OkC F]
def ev (l : List (Fe F)) : RE → Fe F
 | v i => l.getD i 0
 | o => 1
 | z => 0
 | add a b => ev l a + ev l b
 | mul a b => ev l a * ev l b
 | sub a b => ev l a - ev l b
def mo (l : List (Fe F)) : List Nat → Fe F
 | [] => 1
 | x :: m => l.getD x 0 * mo l m
def su (l : List (Fe F)) : List (List Nat) → Fe F
 | [] => 0
 | m :: a => mo l m + su l a
variable (l : List (Fe F))
theorem mo_ins (x : Nat) : ∀ m, mo l (ins x m) = l.getD x 0 * mo l m
 | [] => rfl
 | y :: m => by
  unfold ins
  cases Nat.ble x y with
  | true => rfl
  | false =>
   show l.getD y 0 * mo l (ins x m) = l.getD x 0 * (l.getD y 0 * mo l m)
   rw [mo_ins x m, ← Fe.mul_a, Fe.mul_c (l.getD y 0), Fe.mul_a]
theorem mo_mm : ∀ a b, mo l (mm a b) = mo l a * mo l b
 | [], b => (Fe.o_mul _).symm
 | x :: a, b => by
  show mo l (ins x (mm a b)) = l.getD x 0 * mo l a * mo l b
  rw [mo_ins, mo_mm a b, Fe.mul_a]
theorem su_app : ∀ a b, su l (a ++ b) = su l a + su l b
 | [], b => (Fe.z_add _).symm
 | m :: a, b => by
  show mo l m + su l (a ++ b) = mo l m + su l a + su l b
  rw [su_app a b, Fe.add_a]
theorem su_map (m : List Nat) : ∀ b, su l (b.map (mm m)) = mo l m * su l b
 | [] => (Fe.mul_z _).symm
 | n :: b => by
  show mo l (mm m n) + su l (b.map (mm m)) = mo l m * (mo l n + su l b)
  rw [mo_mm, su_map m b, Fe.mul_add]
theorem su_pp : ∀ a b, su l (pp a b) = su l a * su l b
 | [], b => (Fe.z_mul _).symm
 | m :: a, b => by
  show su l (b.map (mm m) ++ pp a b) = (mo l m + su l a) * su l b
  rw [su_app, su_map, su_pp a b, Fe.add_mul]
theorem su_perm {a b : List (List Nat)} (h : a.Perm b) : su l a = su l b := by
 induction h with
 | nil => rfl
 | cons x _ ih => exact congrArg (mo l x + ·) ih
 | swap x y a =>
  show mo l y + (mo l x + su l a) = mo l x + (mo l y + su l a)
  rw [← Fe.add_a, Fe.add_c (mo l y), Fe.add_a]
 | trans _ _ h1 h2 => exact h1.trans h2
theorem ev_ex : ∀ e : RE, ev l e = su l e.ex.1 - su l e.ex.2
 | v i => by
  show l.getD i 0 = l.getD i 0 * 1 + 0 - 0
  rw [Fe.mul_o, Fe.add_z]
  exact (Fe.cancel (a := (0 : Fe F)) (by rw [Fe.z_add, Fe.sub_eq, Fe.add_c, Fe.add_a, Fe.add_c (-0), Fe.add_neg, Fe.add_z]))
 | o => by
  show (1 : Fe F) = 1 + 0 - 0
  rw [Fe.add_z]
  exact (Fe.cancel (a := (0 : Fe F)) (by rw [Fe.z_add, Fe.sub_eq, Fe.add_c, Fe.add_a, Fe.add_c (-0), Fe.add_neg, Fe.add_z]))
 | z => (Fe.add_neg (0 : Fe F)).symm
 | add a b => by
  show ev l a + ev l b = su l (a.ex.1 ++ b.ex.1) - su l (a.ex.2 ++ b.ex.2)
  rw [ev_ex a, ev_ex b, su_app, su_app]
  refine Fe.cancel (a := su l a.ex.2 + su l b.ex.2) ?_
  generalize su l a.ex.1 = p
  generalize su l a.ex.2 = q
  generalize su l b.ex.1 = r
  generalize su l b.ex.2 = t
  have e1 : ∀ x y : Fe F, y + (x - y) = x := fun x y => by rw [Fe.sub_eq, Fe.add_c x, ← Fe.add_a, Fe.add_neg, Fe.z_add]
  rw [Fe.swap4, e1, e1, e1]
 | sub a b => by
  show ev l a - ev l b = su l (a.ex.1 ++ b.ex.2) - su l (a.ex.2 ++ b.ex.1)
  rw [ev_ex a, ev_ex b, su_app, su_app]
  generalize su l a.ex.1 = p
  generalize su l a.ex.2 = q
  generalize su l b.ex.1 = r
  generalize su l b.ex.2 = t
  have e1 : ∀ x y : Fe F, y + (x - y) = x := fun x y => by rw [Fe.sub_eq, Fe.add_c x, ← Fe.add_a, Fe.add_neg, Fe.z_add]
  refine Fe.sub_same ?_
  refine Fe.cancel (a := t) ?_
  have e2 : t + (p - q + (q + r)) = (q + (p - q)) + (t + r) := by rw [← Fe.add_a (p - q), Fe.add_c (p - q) q, e1, Fe.add_c t, Fe.add_a, Fe.add_c r]
  have e3 : t + (p + t + (r - t)) = p + t + (t + (r - t)) := by rw [← Fe.add_a, Fe.add_c t (p + t), Fe.add_a]
  rw [e2, e3, e1, e1, Fe.add_a]
 | mul a b => by
  show ev l a * ev l b = su l (pp a.ex.1 b.ex.1 ++ pp a.ex.2 b.ex.2) - su l (pp a.ex.1 b.ex.2 ++ pp a.ex.2 b.ex.1)
  rw [ev_ex a, ev_ex b, su_app, su_app, su_pp, su_pp, su_pp, su_pp]
  generalize su l a.ex.1 = p
  generalize su l a.ex.2 = q
  generalize su l b.ex.1 = r
  generalize su l b.ex.2 = t
  have e1 : ∀ x y : Fe F, y + (x - y) = x := fun x y => by rw [Fe.sub_eq, Fe.add_c x, ← Fe.add_a, Fe.add_neg, Fe.z_add]
  refine Fe.cancel (a := p * t + q * r) ?_
  rw [e1]
  generalize hu : p - q = u
  generalize hw : r - t = w
  have h1 : p = q + u := by rw [← hu, e1]
  have h2 : r = t + w := by rw [← hw, e1]
  rw [h1, h2]
  simp only [Fe.add_mul, Fe.mul_add]
  generalize q * t = A
  generalize u * t = B
  generalize q * w = C
  generalize u * w = D
  rw [Fe.add_a (A + B), Fe.add_a (A + B), Fe.add_a A, Fe.add_c A]
  rw [Fe.add_c A B, Fe.add_a B A, Fe.add_a B, Fe.add_a A C D, Fe.add_a A (C + D) A]
/-- an identity -/
theorem rid {a b : RE} (h : same a b = true) : ev l a = ev l b := by
 rw [ev_ex, ev_ex]
 refine Fe.sub_same ?_
 rw [← su_app, ← su_app]
 exact su_perm l (List.isPerm_iff.1 h)
/-- an identity that rests on an equation -/
theorem rid1 {a b k c d : RE} (h1 : ev l c = ev l d) (h : same (a + k * d) (b + k * c) = true) : ev l a = ev l b := by
 have := rid l h
 have e : ev l a + ev l k * ev l d = ev l b + ev l k * ev l c := this
 rw [h1, Fe.add_c, Fe.add_c (ev l b)] at e
 exact Fe.cancel e
end
end RE
/-! ### divided differences -/
section
variable {F : Gf} [H : OkC F]
def finv (a : Fe F) : Fe F := ⟨F.inv a.1, H.ok.inv_lt _⟩
theorem mul_finv {a : Fe F} (h : a ≠ 0) : a * finv a = 1 := Fe.ext' (H.ok.mul_inv a.2 (fun e => h (Fe.ext' e)))
theorem sub_ne {a b : Fe F} (h : a ≠ b) : a - b ≠ 0 := fun e => h (RE.rid1 [a, b] (a := RE.v 0) (b := RE.v 1) (k := 1) (c := RE.v 0 - RE.v 1) (d := 0) e (by decide))
variable (x y : Nat → Fe F)
def dd : Nat → Nat → Fe F
 | 0, i => y i
 | s + 1, i => (dd s (i + 1) - dd s i) * finv (x (i + s + 1) - x i)
def wP (v : Fe F) : Nat → Nat → Fe F
 | 0, _ => 1
 | s + 1, i => wP v s i * (v - x (i + s))
theorem wP_front (v : Fe F) : ∀ s i, wP x v (s + 1) i = (v - x i) * wP x v s (i + 1)
 | 0, i => by
  show (1 : Fe F) * (v - x (i + 0)) = (v - x i) * 1
  rw [Nat.add_zero, Fe.mul_o, Fe.o_mul]
 | s + 1, i => by
  have h := wP_front v s i
  show wP x v (s + 1) i * (v - x (i + (s + 1))) = (v - x i) * (wP x v s (i + 1) * (v - x (i + 1 + s)))
  rw [h, show i + (s + 1) = i + 1 + s by omega, Fe.mul_a]
def nE (v : Fe F) : Nat → Nat → Fe F
 | 0, i => y i
 | s + 1, i => nE v s i + dd x y (s + 1) i * wP x v (s + 1) i
theorem nE_back {n : Nat} (hx : ∀ i j, i < n → j < n → i ≠ j → x i ≠ x j) (v : Fe F) : ∀ s i, i + s + 1 < n → nE x y v (s + 1) i = nE x y v s (i + 1) + dd x y (s + 1) i * wP x v (s + 1) (i + 1)
 | 0, i, hi => by
  have hne := mul_finv (sub_ne (hx (i + 1) i (by omega) (by omega) (by omega)))
  show y i + (y (i + 1) - y i) * finv (x (i + 0 + 1) - x i) * ((1 : Fe F) * (v - x (i + 0))) = y (i + 1) + (y (i + 1) - y i) * finv (x (i + 0 + 1) - x i) * ((1 : Fe F) * (v - x (i + 1 + 0)))
  simp only [Nat.add_zero] at hne ⊢
  generalize finv (x (i + 1) - x i) = t at *
  exact RE.rid1 [x (i + 1), x i, t, y (i + 1), y i, v] (a := RE.v 4 + (RE.v 3 - RE.v 4) * RE.v 2 * (1 * (RE.v 5 - RE.v 1))) (b := RE.v 3 + (RE.v 3 - RE.v 4) * RE.v 2 * (1 * (RE.v 5 - RE.v 0))) (k := RE.v 3 - RE.v 4) (c := (RE.v 0 - RE.v 1) * RE.v 2) (d := 1) hne (by decide)
 | s + 1, i, hi => by
  have h1 := nE_back hx v s i (by omega)
  have hne := mul_finv (sub_ne (hx (i + (s + 1) + 1) i (by omega) (by omega) (by omega)))
  have hd : dd x y (s + 1 + 1) i = (dd x y (s + 1) (i + 1) - dd x y (s + 1) i) * finv (x (i + (s + 1) + 1) - x i) := rfl
  have hw := wP_front x v (s + 1) i
  have hw2 : wP x v (s + 1 + 1) (i + 1) = wP x v (s + 1) (i + 1) * (v - x (i + 1 + (s + 1))) := rfl
  have e1 : nE x y v (s + 1) (i + 1) = nE x y v s (i + 1) + dd x y (s + 1) (i + 1) * wP x v (s + 1) (i + 1) := rfl
  show nE x y v (s + 1) i + dd x y (s + 1 + 1) i * wP x v (s + 1 + 1) i = nE x y v (s + 1) (i + 1) + dd x y (s + 1 + 1) i * wP x v (s + 1 + 1) (i + 1)
  rw [hw, hw2, e1, h1, hd, show i + 1 + (s + 1) = i + (s + 1) + 1 by omega]
  generalize finv (x (i + (s + 1) + 1) - x i) = t at *
  generalize wP x v (s + 1) (i + 1) = w
  generalize dd x y (s + 1) (i + 1) = d1
  generalize dd x y (s + 1) i = d0
  generalize nE x y v s (i + 1) = e0
  generalize x (i + (s + 1) + 1) = xj at *
  generalize x i = xi at *
  exact RE.rid1 [xj, xi, t, d1, d0, w, e0, v] (a := RE.v 6 + RE.v 4 * RE.v 5 + (RE.v 3 - RE.v 4) * RE.v 2 * ((RE.v 7 - RE.v 1) * RE.v 5)) (b := RE.v 6 + RE.v 3 * RE.v 5 + (RE.v 3 - RE.v 4) * RE.v 2 * (RE.v 5 * (RE.v 7 - RE.v 0))) (k := (RE.v 3 - RE.v 4) * RE.v 5) (c := (RE.v 0 - RE.v 1) * RE.v 2) (d := 1) hne (by decide)
theorem wP_zero (k : Nat) : ∀ s i, i ≤ k → k < i + s → wP x (x k) s i = 0
 | 0, i, h1, h2 => by omega
 | s + 1, i, h1, h2 => by
  show wP x (x k) s i * (x k - x (i + s)) = 0
  by_cases h : k = i + s
  ·rw [← h, Fe.sub_eq, Fe.add_neg, Fe.mul_z]
  ·rw [wP_zero k s i h1 (by omega), Fe.z_mul]
theorem nE_at {n : Nat} (hx : ∀ i j, i < n → j < n → i ≠ j → x i ≠ x j) (k : Nat) : ∀ s i, i + s = k → k < n → nE x y (x k) s i = y k
 | 0, i, h, _ => by
  have : i = k := by omega
  subst this; rfl
 | s + 1, i, h, hk => by
  rw [nE_back x y hx (x k) s i (by omega), nE_at hx k s (i + 1) (by omega) hk, wP_zero x k (s + 1) (i + 1) (by omega) (by omega), Fe.mul_z, Fe.add_z]
theorem nE_val {n : Nat} (hx : ∀ i j, i < n → j < n → i ≠ j → x i ≠ x j) (k : Nat) : ∀ s, k ≤ s → s < n → nE x y (x k) s 0 = y k
 | 0, h, hs => by
  have : k = 0 := by omega
  subst this; rfl
 | s + 1, h, hs => by
  by_cases e : k = s + 1
  ·exact nE_at x y hx k (s + 1) 0 (by omega) (by omega)
  ·show nE x y (x k) s 0 + dd x y (s + 1) 0 * wP x (x k) (s + 1) 0 = y k
   rw [nE_val hx k s (by omega) (by omega), wP_zero x k (s + 1) 0 (by omega) (by omega), Fe.mul_z, Fe.add_z]
/-- Horner's form -/
def hor (v : Fe F) (n : Nat) : Nat → Fe F
 | 0 => 0
 | m + 1 => (v - x (n - (m + 1))) * hor v n m + dd x y (n - (m + 1)) 0
def sumT (v : Fe F) : Nat → Fe F
 | 0 => 0
 | k + 1 => sumT v k + dd x y k 0 * wP x v k 0
theorem sumT_nE (v : Fe F) : ∀ s, sumT x y v (s + 1) = nE x y v s 0
 | 0 => by show (0 : Fe F) + y 0 * 1 = y 0; rw [Fe.mul_o, Fe.z_add]
 | s + 1 => by show sumT x y v (s + 1) + _ = _; rw [sumT_nE v s]; rfl
theorem hor_sum (v : Fe F) (n : Nat) : ∀ i m, i + m = n → hor x y v n n = sumT x y v i + wP x v i 0 * hor x y v n m
 | 0, m, h => by
  have : m = n := by omega
  subst this
  show _ = (0 : Fe F) + 1 * _
  rw [Fe.z_add, Fe.o_mul]
 | i + 1, m, h => by
  rw [hor_sum v n i (m + 1) (by omega)]
  show sumT x y v i + wP x v i 0 * ((v - x (n - (m + 1))) * hor x y v n m + dd x y (n - (m + 1)) 0) = sumT x y v i + dd x y i 0 * wP x v i 0 + wP x v i 0 * (v - x (0 + i)) * hor x y v n m
  rw [show n - (m + 1) = i by omega, Nat.zero_add]
  exact RE.rid [sumT x y v i, wP x v i 0, v, x i, hor x y v n m, dd x y i 0] (a := RE.v 0 + RE.v 1 * ((RE.v 2 - RE.v 3) * RE.v 4 + RE.v 5)) (b := RE.v 0 + RE.v 5 * RE.v 1 + RE.v 1 * (RE.v 2 - RE.v 3) * RE.v 4) (by decide)
theorem hor_val {n : Nat} (hx : ∀ i j, i < n → j < n → i ≠ j → x i ≠ x j) (k : Nat) (hk : k < n) : hor x y (x k) n n = y k := by
 rw [hor_sum x y (x k) n n 0 (by omega)]
 obtain ⟨s, rfl⟩ : ∃ s, n = s + 1 := ⟨n - 1, by omega⟩
 rw [sumT_nE, nE_val x y hx k s (by omega) (by omega)]
 show y k + wP x (x k) (s + 1) 0 * 0 = y k
 rw [Fe.mul_z, Fe.add_z]
end

/-! ### Newton's polynomial -/
section
variable {F : Gf} (hF : Ok F)
include hF
theorem addL_len : ∀ (a b : List Nat), (addL F a b).length ≤ max a.length b.length
 | [], b => by unfold addL; simp
 | x :: a, [] => by unfold addL; simp
 | x :: a, y :: b => by
  unfold addL
  have := addL_len a b
  simp only [List.length_cons]
  omega
theorem addP_len (a b : List Nat) : (addP F a b).length ≤ max a.length b.length := Nat.le_trans (trL_len _) (addL_len hF a b)
theorem mulP_le {a b : List Nat} (ha : Po F a) (hb : Po F b) : (mulP F a b).length ≤ a.length + b.length - 1 := by
 by_cases na : a = []
 ·subst na; exact Nat.zero_le _
 by_cases nb : b = []
 ·subst nb; rw [mulP_nil hF]; exact Nat.zero_le _
 exact Nat.le_of_eq (mulP_len hF ha hb na nb)
theorem ev_lin (x v : Nat) (hv : v < F.q) : ev F v [F.neg x, 1] = F.sub v x := by
 show F.add (F.mul (F.add (F.mul 0 v) 1) v) (F.neg x) = F.add v (F.neg x)
 rw [Ok.z_mul, hF.zero_add hF.one_lt, hF.one_mul hv]
theorem ev_const (c v : Nat) (hc : c < F.q) : ev F v (trL [c]) = c := by
 rw [ev_trL hF]
 show F.add (F.mul 0 v) c = c
 rw [Ok.z_mul, hF.zero_add hc]
end
/-- Newton's polynomial from place n - m on -/
def nP (F : Gf) [OkC F] (x y : Nat → Fe F) (n : Nat) : Nat → List Nat
 | 0 => []
 | m + 1 => addP F (mulP F [F.neg (x (n - (m + 1))).1, 1] (nP F x y n m)) (trL [(dd x y (n - (m + 1)) 0).1])
section
variable {F : Gf} [H : OkC F] (x y : Nat → Fe F) (n : Nat)
theorem linF_po (c : Fe F) : Po F [F.neg c.1, 1] := ⟨In.cons (H.ok.neg_lt _) (In.cons H.ok.one_lt In.nil), by simp [Cn]⟩
theorem con_po (c : Fe F) : Po F (trL [c.1]) := Po.tr (In.cons c.2 In.nil)
theorem nP_po : ∀ m, Po F (nP F x y n m)
 | 0 => Po.nil
 | m + 1 => addP_po H.ok (mulP_po H.ok _ _).el (con_po _).el
theorem nP_len : ∀ m, (nP F x y n m).length ≤ m
 | 0 => Nat.le_refl _
 | m + 1 => by
  have h1 := nP_len m
  have h2 := mulP_le H.ok (linF_po (x (n - (m + 1)))) (nP_po x y n m)
  have h3 := addP_len H.ok (mulP F [F.neg (x (n - (m + 1))).1, 1] (nP F x y n m)) (trL [(dd x y (n - (m + 1)) 0).1])
  have h4 := trL_len [(dd x y (n - (m + 1)) 0).1]
  show (addP F _ _).length ≤ m + 1
  simp only [List.length_cons, List.length_nil] at h2 h4
  omega
theorem nP_ev (v : Fe F) : ∀ m, ev F v.1 (nP F x y n m) = (hor x y v n m).1
 | 0 => rfl
 | m + 1 => by
  show ev F v.1 (addP F _ _) = _
  rw [ev_addP H.ok v.2 (mulP_po H.ok _ _).el (con_po _).el, ev_mulP H.ok v.2 (linF_po _).el (nP_po x y n m).el, ev_lin H.ok _ _ v.2, ev_const H.ok _ _ (dd x y (n - (m + 1)) 0).2, nP_ev v m]
  rfl
/-- it has the values -/
theorem nP_val (hx : ∀ i j, i < n → j < n → i ≠ j → x i ≠ x j) (k : Nat) (hk : k < n) : ev F (x k).1 (nP F x y n n) = (y k).1 := by
 rw [nP_ev, hor_val x y hx k hk]
end
end Go.Fl
