/- The fields with at most 64 elements, as numbers: tables of powers and of logarithms, and what follows from them. -/
import Derived.KernelRfl
namespace Go.Fl

structure Gf where
 p : Nat
 e : Nat
 q : Nat
 g : Nat
 mod : List Nat
 ex : Nat
 lg : Nat

def addD (p : Nat) : Nat → Nat → Nat → Nat
 | 0, _, _ => 0
 | e + 1, a, b => Nat.add (Nat.mod (Nat.add (Nat.mod a p) (Nat.mod b p)) p) (Nat.mul p (addD p e (Nat.div a p) (Nat.div b p)))
def negD (p : Nat) : Nat → Nat → Nat
 | 0, _ => 0
 | e + 1, a => Nat.add (Nat.mod (Nat.sub p (Nat.mod a p)) p) (Nat.mul p (negD p e (Nat.div a p)))

namespace Gf
def exp (F : Gf) (k : Nat) : Nat := Nat.mod (Nat.shiftRight F.ex (Nat.mul 6 k)) 64
def log (F : Gf) (a : Nat) : Nat := Nat.mod (Nat.shiftRight F.lg (Nat.mul 6 a)) 64
def mul (F : Gf) (a b : Nat) : Nat :=
 bif Nat.beq a 0 then 0 else bif Nat.beq b 0 then 0 else F.exp (Nat.mod (Nat.add (F.log a) (F.log b)) (Nat.sub F.q 1))
def add (F : Gf) (a b : Nat) : Nat := addD F.p F.e a b
def neg (F : Gf) (a : Nat) : Nat := negD F.p F.e a
def sub (F : Gf) (a b : Nat) : Nat := F.add a (F.neg b)
/-- a power with an exponent that is not negative -/
def pow (F : Gf) (a n : Nat) : Nat := bif Nat.beq a 0 then (bif Nat.beq n 0 then 1 else 0) else F.exp (Nat.mod (Nat.mul (F.log a) n) (Nat.sub F.q 1))
def inv (F : Gf) (a : Nat) : Nat := F.exp (Nat.mod (Nat.sub (Nat.sub F.q 1) (F.log a)) (Nat.sub F.q 1))
end Gf

noncomputable def allLt (n : Nat) (f : Nat → Bool) : Bool := Nat.rec true (fun k ih => bif f k then ih else false) n

theorem allLt_ok {n : Nat} {f : Nat → Bool} (h : allLt n f = true) : ∀ k, k < n → f k = true := by
 induction n with
 | zero => intro k hk; omega
 | succ n ih =>
  have h' : (bif f n then allLt n f else false) = true := h
  cases hf : f n with
  | false => rw [hf] at h'; cases h'
  | true =>
   rw [hf] at h'
   intro k hk
   by_cases e : k = n
   ·rw [e]; exact hf
   ·exact ih h' k (by omega)

noncomputable def chk (F : Gf) : Bool :=
 (Nat.beq F.q (F.p ^ F.e) && (Nat.ble 2 F.p && (Nat.ble 1 F.e && (Nat.ble F.q 64 && (Nat.beq (F.exp 0) 1 && (Nat.blt F.g F.q && (Nat.ble 1 F.g && Nat.beq (F.log F.g) (1 % (F.q - 1))))))))) &&
 ((allLt (F.q - 1) fun k => Nat.ble 1 (F.exp k) && (Nat.blt (F.exp k) F.q && Nat.beq (F.log (F.exp k)) k)) &&
 ((allLt F.q fun a => Nat.beq a 0 || (Nat.blt (F.log a) (F.q - 1) && Nat.beq (F.exp (F.log a)) a)) &&
 (allLt F.q fun a => allLt F.q fun b => Nat.beq (F.mul (F.add a b) F.g) (F.add (F.mul a F.g) (F.mul b F.g)))))

def fds : List Gf := [
 ⟨2, 1, 2, 1, [0], 1, 0⟩,
 ⟨3, 1, 3, 2, [0], 129, 4096⟩,
 ⟨2, 2, 4, 2, [1, 1], 12417, 528384⟩,
 ⟨5, 1, 5, 2, [0], 802945, 34344960⟩,
 ⟨7, 1, 7, 3, [0], 5437399233, 211594518528⟩,
 ⟨2, 3, 8, 2, [1, 1, 0], 351215042689, 22271587258368⟩,
 ⟨3, 2, 9, 4, [1, 0], 22205016334593, 1420713996599296⟩,
 ⟨11, 1, 11, 2, [0], 108962231611310209, 5873569748152750080⟩,
 ⟨13, 1, 13, 2, [0], 528130703586913960065, 28862381954672620474368⟩,
 ⟨2, 4, 16, 2, [1, 1, 0, 0], 178086203705216420255121537, 15072009285927600738305839104⟩,
 ⟨17, 1, 17, 3, [0], 7469972054853685843465900225, 641428296504441872472814706688⟩,
 ⟨19, 1, 19, 2, [0], 51117137118817732502590154883201, 2971703673908048670609566042689536⟩,
 ⟨23, 1, 23, 5, [0], 1207086427916563790381117712048146882881, 61002575878740797758556052345228196061184⟩,
 ⟨5, 2, 25, 6, [2, 0], 5984406668025677174495045339108190146847105, 296966228242830517215218483809306366189314048⟩,
 ⟨3, 3, 27, 3, [1, 2, 0], 27683632007463149621854882158786133120173510849, 1770301908688390524519687444532503270070340079616⟩,
 ⟨29, 1, 29, 2, [0], 89715812243899246029419422853925757204734979096705, 5327470521109204196063143671878030373354884279046144⟩,
 ⟨31, 1, 31, 3, [0], 505605221232691293432177678203438885605117352412483777, 23208944618439905287274454518441023752193352319812075520⟩,
 ⟨2, 5, 32, 2, [1, 0, 1, 0, 0], 27808724541577916742700289517998963655941875844624957569, 1508315803883406269205986702105420928032254965126544232448⟩,
 ⟨37, 1, 37, 2, [0], 31990165230988380045508509409514329167903399549472002670636056705, 1927099591673215374311082307204349858495420952548674591831439708160⟩,
 ⟨41, 1, 41, 6, [0], 196803355916697640844645143911777462269678895904315453181343275630346625, 35517896703273586666149877416896236316072493915779626231776876054160711680⟩,
 ⟨43, 1, 43, 3, [0], 3321900807795576089098097549222868942314588541243702741999572762779355746497, 152695369836916395283030424145595212849165003026280530570040278169659573121024⟩,
 ⟨47, 1, 47, 5, [0], 37014835288415908718419972056108441944857760468399085769595186018324491242840101185, 2871650009675154084637761202718277526292298413880696712693369280921573131467963310080⟩,
 ⟨7, 2, 49, 9, [1, 0], 270094015819427629894346661957415371637715981935232289925208480222168446301463675269697, 23071763929011625825571313426848976125994787379577214063957006595655518942783902591352832⟩,
 ⟨53, 1, 53, 2, [0], 3602121195588004432410006517885224262510220814523301142795360849256216185153407993945964691585, 220544676043655077866277337447867632841115249763151128083848210675118928441550703987060033982464⟩,
 ⟨59, 1, 59, 2, [0], 270951711388824705647634718687622551811723107360332763645300551177870649566628900357333032853137826791553, 16899643013032953793008289850397817256633102912925032377747267387615061072757643228449870777890379802349568⟩,
 ⟨61, 1, 61, 2, [0], 1164162530822367343872202323236078872099065783920682470882800940302953240449962669651654715119434672229073025, 71614788332382989993668620795082232958302001517929830336684845480626721184788401132204757971703161274437734400⟩,
 ⟨2, 6, 64, 2, [1, 1, 0, 0, 0, 0], 324948975432320371080866489111452917039159851672880359415289456819899054707732937472241880484391502374330200768641, 36265302912251042761276606936058182247505748789568104052998051136038197467810438868035313606317156396572587524100096⟩]

theorem fds_a : (fds.take 9).all chk = true := by kernel_rfl
theorem fds_b : ((fds.drop 9).take 9).all chk = true := by kernel_rfl
theorem fds_c : (fds.drop 18).all chk = true := by kernel_rfl
theorem fds_ok : ∀ F ∈ fds, chk F = true := by
 intro F hF
 have e : fds = fds.take 9 ++ ((fds.drop 9).take 9 ++ fds.drop 18) := by rfl
 rw [e, List.mem_append, List.mem_append] at hF
 rcases hF with h | h | h
 ·exact List.all_eq_true.1 fds_a F h
 ·exact List.all_eq_true.1 fds_b F h
 ·exact List.all_eq_true.1 fds_c F h

/-! ### digits -/
section
variable {p : Nat} (hp : 0 < p)
include hp
theorem addD_lt (e a b : Nat) : addD p e a b < p ^ e := by
 induction e generalizing a b with
 | zero => simp [addD]
 | succ e ih =>
  have h1 := ih (a / p) (b / p)
  have h2 : (a % p + b % p) % p < p := Nat.mod_lt _ hp
  show (a % p + b % p) % p + p * addD p e (a / p) (b / p) < p ^ (e + 1)
  have h3 : p * (addD p e (a / p) (b / p) + 1) ≤ p * p ^ e := Nat.mul_le_mul_left _ h1
  rw [Nat.pow_succ, Nat.mul_comm (p ^ e) p]
  rw [Nat.mul_add] at h3
  omega
omit hp in
theorem addD_lo (e a b : Nat) : addD p (e + 1) a b % p = (a + b) % p := by
 show ((a % p + b % p) % p + p * addD p e (a / p) (b / p)) % p = _
 rw [Nat.add_mul_mod_self_left, Nat.mod_mod, ← Nat.add_mod]
theorem addD_hi (e a b : Nat) : addD p (e + 1) a b / p = addD p e (a / p) (b / p) := by
 show ((a % p + b % p) % p + p * addD p e (a / p) (b / p)) / p = _
 rw [Nat.add_mul_div_left _ _ hp, Nat.div_eq_of_lt (Nat.mod_lt _ hp), Nat.zero_add]
theorem addD_assoc (e a b c : Nat) : addD p e (addD p e a b) c = addD p e a (addD p e b c) := by
 induction e generalizing a b c with
 | zero => rfl
 | succ e ih =>
  show (addD p (e + 1) a b % p + c % p) % p + p * addD p e (addD p (e + 1) a b / p) (c / p) = (a % p + addD p (e + 1) b c % p) % p + p * addD p e (a / p) (addD p (e + 1) b c / p)
  rw [addD_lo, addD_lo, addD_hi hp, addD_hi hp, ih, ← Nat.add_mod, ← Nat.add_mod, Nat.add_assoc]
omit hp in
theorem addD_comm (e a b : Nat) : addD p e a b = addD p e b a := by
 induction e generalizing a b with
 | zero => rfl
 | succ e ih =>
  show (a % p + b % p) % p + p * addD p e (a / p) (b / p) = (b % p + a % p) % p + p * addD p e (b / p) (a / p)
  rw [ih, Nat.add_comm (a % p)]
omit hp in
theorem addD_zero (e a : Nat) (h : a < p ^ e) : addD p e a 0 = a := by
 induction e generalizing a with
 | zero => simp at h; simp [addD, h]
 | succ e ih =>
  show (a % p + 0 % p) % p + p * addD p e (a / p) (0 / p) = a
  rw [Nat.zero_div, ih _ (by rw [Nat.pow_succ] at h; exact Nat.div_lt_of_lt_mul (by rw [Nat.mul_comm]; exact h)), Nat.zero_mod, Nat.add_zero, Nat.mod_mod]
  exact Nat.mod_add_div a p
theorem negD_lt (e a : Nat) : negD p e a < p ^ e := by
 induction e generalizing a with
 | zero => simp [negD]
 | succ e ih =>
  have h1 := ih (a / p)
  have h2 : (p - a % p) % p < p := Nat.mod_lt _ hp
  show (p - a % p) % p + p * negD p e (a / p) < p ^ (e + 1)
  have h3 : p * (negD p e (a / p) + 1) ≤ p * p ^ e := Nat.mul_le_mul_left _ h1
  rw [Nat.pow_succ, Nat.mul_comm (p ^ e) p]
  rw [Nat.mul_add] at h3
  omega
theorem addD_neg (e a : Nat) : addD p e a (negD p e a) = 0 := by
 induction e generalizing a with
 | zero => rfl
 | succ e ih =>
  have h1 : negD p (e + 1) a % p = (p - a % p) % p := by
   show ((p - a % p) % p + p * negD p e (a / p)) % p = _
   rw [Nat.add_mul_mod_self_left, Nat.mod_mod]
  have h2 : negD p (e + 1) a / p = negD p e (a / p) := by
   show ((p - a % p) % p + p * negD p e (a / p)) / p = _
   rw [Nat.add_mul_div_left _ _ hp, Nat.div_eq_of_lt (Nat.mod_lt _ hp), Nat.zero_add]
  show (a % p + negD p (e + 1) a % p) % p + p * addD p e (a / p) (negD p (e + 1) a / p) = 0
  rw [h1, h2, ih, Nat.mul_zero, Nat.add_zero, Nat.add_mod_mod]
  have := Nat.mod_lt a hp
  rw [show a % p + (p - a % p) = p by omega, Nat.mod_self]
end

/-! ### a field -/
structure Ok (F : Gf) : Prop where
 qe : F.q = F.p ^ F.e
 p2 : 2 ≤ F.p
 e1 : 1 ≤ F.e
 q64 : F.q ≤ 64
 exp0 : F.exp 0 = 1
 gq : F.g < F.q
 g1 : 1 ≤ F.g
 logg : F.log F.g = 1 % (F.q - 1)
 ex1 : ∀ k, k < F.q - 1 → 1 ≤ F.exp k
 exq : ∀ k, k < F.q - 1 → F.exp k < F.q
 lgex : ∀ k, k < F.q - 1 → F.log (F.exp k) = k
 lgq : ∀ a, a < F.q → a ≠ 0 → F.log a < F.q - 1
 exlg : ∀ a, a < F.q → a ≠ 0 → F.exp (F.log a) = a
 lin : ∀ a b, a < F.q → b < F.q → F.mul (F.add a b) F.g = F.add (F.mul a F.g) (F.mul b F.g)

theorem ok_of {F : Gf} (h : chk F = true) : Ok F := by
 simp only [chk, Bool.and_eq_true, Nat.beq_eq, Nat.ble_eq, Nat.blt_eq] at h
 obtain ⟨⟨h1, h2, h3, h4, h5, h6, h7, h8⟩, h9, h10, h11⟩ := h
 have h9 := fun k hk => by have := allLt_ok h9 k hk; simp only [Bool.and_eq_true, Nat.beq_eq, Nat.ble_eq, Nat.blt_eq] at this; exact this
 have h10 := fun k hk => by have := allLt_ok h10 k hk; simp only [Bool.and_eq_true, Bool.or_eq_true, Nat.beq_eq, Nat.blt_eq] at this; exact this
 exact ⟨h1, h2, h3, h4, h5, h6, h7, h8, fun k hk => (h9 k hk).1, fun k hk => (h9 k hk).2.1, fun k hk => (h9 k hk).2.2, fun a ha hn => ((h10 a ha).resolve_left hn).1, fun a ha hn => ((h10 a ha).resolve_left hn).2,
  fun a b ha hb => by simpa using allLt_ok (allLt_ok h11 a ha) b hb⟩

theorem ok_mem {F : Gf} (h : F ∈ fds) : Ok F := ok_of (fds_ok F h)

namespace Ok
variable {F : Gf} (h : Ok F)
include h
theorem p0 : 0 < F.p := by have := h.p2; omega
theorem q2 : 2 ≤ F.q := by
 rw [h.qe]
 calc 2 ≤ F.p := h.p2
  _ = F.p ^ 1 := (Nat.pow_one _).symm
  _ ≤ F.p ^ F.e := Nat.pow_le_pow_right h.p0 h.e1
omit h in
theorem mul_z (a : Nat) : F.mul a 0 = 0 := by unfold Gf.mul; cases a <;> rfl
omit h in
theorem z_mul (a : Nat) : F.mul 0 a = 0 := rfl
omit h in
theorem mul_nz {a b : Nat} (ha : a ≠ 0) (hb : b ≠ 0) : F.mul a b = F.exp ((F.log a + F.log b) % (F.q - 1)) := by
 unfold Gf.mul
 rw [show Nat.beq a 0 = false by cases a; exact absurd rfl ha; rfl, show Nat.beq b 0 = false by cases b; exact absurd rfl hb; rfl]
 rfl
theorem q1 : 0 < F.q - 1 := by have := h.q2; omega
theorem mul_lt (a b : Nat) : F.mul a b < F.q := by
 have := h.q2
 by_cases ha : a = 0
 ·rw [ha, z_mul]; omega
 ·by_cases hb : b = 0
  ·rw [hb, mul_z]; omega
  ·rw [mul_nz ha hb]; exact h.exq _ (Nat.mod_lt _ h.q1)
theorem mul_ne {a b : Nat} (ha : a ≠ 0) (hb : b ≠ 0) : F.mul a b ≠ 0 := by
 rw [mul_nz ha hb]
 have := h.ex1 _ (Nat.mod_lt (F.log a + F.log b) h.q1)
 omega
omit h in
theorem mul_comm (a b : Nat) : F.mul a b = F.mul b a := by
 by_cases ha : a = 0
 ·rw [ha, z_mul, mul_z]
 ·by_cases hb : b = 0
  ·rw [hb, z_mul, mul_z]
  ·rw [mul_nz ha hb, mul_nz hb ha, Nat.add_comm]
theorem log_mul {a b : Nat} (ha : a ≠ 0) (hb : b ≠ 0) : F.log (F.mul a b) = (F.log a + F.log b) % (F.q - 1) := by
 rw [mul_nz ha hb, h.lgex _ (Nat.mod_lt _ h.q1)]
theorem mul_assoc (a b c : Nat) : F.mul (F.mul a b) c = F.mul a (F.mul b c) := by
 by_cases ha : a = 0
 ·rw [ha, z_mul, z_mul, z_mul]
 ·by_cases hb : b = 0
  ·rw [hb, mul_z, z_mul, mul_z]
  ·by_cases hc : c = 0
   ·rw [hc, mul_z, mul_z, mul_z]
   ·rw [mul_nz (h.mul_ne ha hb) hc, mul_nz ha (h.mul_ne hb hc), h.log_mul ha hb, h.log_mul hb hc, Nat.mod_add_mod, Nat.add_mod_mod, Nat.add_assoc]
theorem one_lt : 1 < F.q := by have := h.q2; omega
theorem log1 : F.log 1 = 0 := by have := h.lgex 0 h.q1; rw [h.exp0] at this; exact this
theorem mul_one {a : Nat} (ha : a < F.q) : F.mul a 1 = a := by
 by_cases hz : a = 0
 ·rw [hz, z_mul]
 ·rw [mul_nz hz (by omega), h.log1, Nat.add_zero, Nat.mod_eq_of_lt (h.lgq a ha hz), h.exlg a ha hz]
theorem add_lt (a b : Nat) : F.add a b < F.q := by rw [h.qe]; exact addD_lt h.p0 _ _ _
theorem add_assoc (a b c : Nat) : F.add (F.add a b) c = F.add a (F.add b c) := addD_assoc h.p0 _ _ _ _
omit h in
theorem add_comm (a b : Nat) : F.add a b = F.add b a := addD_comm _ _ _
theorem add_zero {a : Nat} (ha : a < F.q) : F.add a 0 = a := addD_zero _ _ (by rw [← h.qe]; exact ha)
theorem add_neg (a : Nat) : F.add a (F.neg a) = 0 := addD_neg h.p0 _ _
theorem neg_lt (a : Nat) : F.neg a < F.q := by rw [h.qe]; exact negD_lt h.p0 _ _
theorem sub_lt (a b : Nat) : F.sub a b < F.q := h.add_lt _ _
theorem add_sub {a : Nat} (ha : a < F.q) (b : Nat) : F.sub (F.add a b) b = a := by
 unfold Gf.sub; rw [h.add_assoc, h.add_neg, h.add_zero ha]
theorem exp_succ {k : Nat} (hk : k < F.q - 1) : F.mul (F.exp k) F.g = F.exp ((k + 1) % (F.q - 1)) := by
 have h1 := h.ex1 k hk
 have h2 := h.g1
 rw [mul_nz (by omega) (by omega), h.lgex k hk, h.logg, Nat.add_mod_mod]
theorem add_exp {a b : Nat} (ha : a < F.q) (hb : b < F.q) (k : Nat) (hk : k < F.q - 1) : F.mul (F.add a b) (F.exp k) = F.add (F.mul a (F.exp k)) (F.mul b (F.exp k)) := by
 induction k with
 | zero => rw [h.exp0, h.mul_one (h.add_lt a b), h.mul_one ha, h.mul_one hb]
 | succ k ih =>
  have e := h.exp_succ (k := k) (by omega)
  rw [Nat.mod_eq_of_lt hk] at e
  rw [← e, ← h.mul_assoc, ih (by omega), h.lin _ _ (h.mul_lt _ _) (h.mul_lt _ _), h.mul_assoc, h.mul_assoc]
theorem add_mul {a b c : Nat} (ha : a < F.q) (hb : b < F.q) (hc : c < F.q) : F.mul (F.add a b) c = F.add (F.mul a c) (F.mul b c) := by
 by_cases hz : c = 0
 ·rw [hz, mul_z, mul_z, mul_z, h.add_zero (by have := h.q2; omega)]
 ·have := h.add_exp ha hb (F.log c) (h.lgq c hc hz)
  rwa [h.exlg c hc hz] at this
theorem inv_lt (a : Nat) : F.inv a < F.q := h.exq _ (Nat.mod_lt _ h.q1)
theorem inv_ne (a : Nat) : F.inv a ≠ 0 := by have := h.ex1 _ (Nat.mod_lt (F.q - 1 - F.log a) h.q1); unfold Gf.inv; exact Nat.pos_iff_ne_zero.1 this
theorem mul_inv {a : Nat} (ha : a < F.q) (hz : a ≠ 0) : F.mul a (F.inv a) = 1 := by
 have h1 := h.lgq a ha hz
 rw [mul_nz hz (h.inv_ne a)]
 have h2 : F.log (F.inv a) = (F.q - 1 - F.log a) % (F.q - 1) := h.lgex _ (Nat.mod_lt _ h.q1)
 rw [h2, Nat.add_mod_mod, show F.log a + (F.q - 1 - F.log a) = F.q - 1 by omega, Nat.mod_self, h.exp0]
end Ok
end Go.Fl

/- Powers and traces in a field with at most 64 elements. -/
namespace Go.Fl
namespace Ok
variable {F : Gf} (h : Ok F)
include h
omit h in
theorem pow_nz {a : Nat} (ha : a ≠ 0) (n : Nat) : F.pow a n = F.exp ((F.log a * n) % (F.q - 1)) := by
 unfold Gf.pow
 rw [show Nat.beq a 0 = false by cases a; exact absurd rfl ha; rfl]
 rfl
theorem pow_ne {a : Nat} (ha : a ≠ 0) (n : Nat) : F.pow a n ≠ 0 := by
 rw [pow_nz ha]
 have := h.ex1 _ (Nat.mod_lt (F.log a * n) h.q1)
 omega
theorem pow_lt (a n : Nat) : F.pow a n < F.q := by
 have := h.q2
 by_cases ha : a = 0
 ·rw [ha]
  unfold Gf.pow
  cases n
  ·show 1 < F.q; omega
  ·show 0 < F.q; omega
 ·rw [pow_nz ha]; exact h.exq _ (Nat.mod_lt _ h.q1)
theorem pow_zero {a : Nat} (ha : a ≠ 0) : F.pow a 0 = 1 := by rw [pow_nz ha, Nat.mul_zero, Nat.zero_mod, h.exp0]
theorem pow_one {a : Nat} (ha : a ≠ 0) (hq : a < F.q) : F.pow a 1 = a := by
 rw [pow_nz ha, Nat.mul_one, Nat.mod_eq_of_lt (h.lgq a hq ha), h.exlg a hq ha]
theorem log_pow {a : Nat} (ha : a ≠ 0) (n : Nat) : F.log (F.pow a n) = (F.log a * n) % (F.q - 1) := by
 rw [pow_nz ha, h.lgex _ (Nat.mod_lt _ h.q1)]
theorem pow_add {a : Nat} (ha : a ≠ 0) (m n : Nat) : F.mul (F.pow a m) (F.pow a n) = F.pow a (m + n) := by
 rw [mul_nz (h.pow_ne ha m) (h.pow_ne ha n), h.log_pow ha, h.log_pow ha, pow_nz ha, ← Nat.add_mod, ← Nat.mul_add]
omit h in
theorem pow_mod {a : Nat} (ha : a ≠ 0) (n : Nat) : F.pow a (n % (F.q - 1)) = F.pow a n := by
 rw [pow_nz ha, pow_nz ha, Nat.mul_mod, Nat.mod_mod, ← Nat.mul_mod]
theorem inv_pow {a : Nat} (ha : a ≠ 0) (hq : a < F.q) : F.pow a (F.q - 2) = F.inv a := by
 rw [pow_nz ha]
 unfold Gf.inv
 show F.exp _ = F.exp ((F.q - 1 - F.log a) % (F.q - 1))
 congr 1
 have h1 := h.lgq a hq ha
 have h2 := h.q1
 have e : F.log a * (F.q - 2) + F.log a = F.log a * (F.q - 1) := by
  rw [show F.q - 1 = F.q - 2 + 1 by omega, Nat.mul_add, Nat.mul_one]
 have e2 : (F.log a * (F.q - 2) + F.log a) % (F.q - 1) = (F.q - 1 - F.log a + F.log a) % (F.q - 1) := by
  rw [e, Nat.mul_mod_left, show F.q - 1 - F.log a + F.log a = F.q - 1 by omega, Nat.mod_self]
 -- taking the logarithm off on both sides
 have e3 : ((F.log a * (F.q - 2) + F.log a) + (F.q - 1 - F.log a)) % (F.q - 1) = ((F.q - 1 - F.log a + F.log a) + (F.q - 1 - F.log a)) % (F.q - 1) := by
  rw [Nat.add_mod, e2, ← Nat.add_mod]
 rw [show F.log a * (F.q - 2) + F.log a + (F.q - 1 - F.log a) = F.log a * (F.q - 2) + (F.q - 1) by omega, show F.q - 1 - F.log a + F.log a + (F.q - 1 - F.log a) = (F.q - 1 - F.log a) + (F.q - 1) by omega, Nat.add_mod_right, Nat.add_mod_right] at e3
 exact e3
end Ok

/-- a + a^p + .. + a^(p^(n-1)), on top of s -/
def trS (F : Gf) : Nat → Nat → Nat → Nat
 | 0, _, s => s
 | n + 1, a, s => trS F n (F.pow a F.p) (F.add s a)
def Gf.tr (F : Gf) (a : Nat) : Nat := trS F F.e a 0

noncomputable def chkTr (F : Gf) : Bool :=
 (allLt F.q fun a => Nat.blt (F.tr a) F.p && Nat.beq (F.tr (F.pow a F.p)) (F.tr a)) &&
 (allLt F.q fun a => allLt F.q fun b => Nat.beq (F.pow (F.add a b) F.p) (F.add (F.pow a F.p) (F.pow b F.p)) && Nat.beq (F.tr (F.add a b)) (Nat.mod (Nat.add (F.tr a) (F.tr b)) F.p))
theorem tr_a : (fds.take 18).all chkTr = true := by kernel_rfl
theorem tr_b : ((fds.drop 18).take 5).all chkTr = true := by kernel_rfl
theorem tr_c : (fds.drop 23).all chkTr = true := by kernel_rfl
theorem tr_ok : ∀ F ∈ fds, chkTr F = true := by
 intro F hF
 have e : fds = fds.take 18 ++ ((fds.drop 18).take 5 ++ fds.drop 23) := by rfl
 rw [e, List.mem_append, List.mem_append] at hF
 rcases hF with h | h | h
 ·exact List.all_eq_true.1 tr_a F h
 ·exact List.all_eq_true.1 tr_b F h
 ·exact List.all_eq_true.1 tr_c F h

structure TrOk (F : Gf) : Prop where
 lt : ∀ a, a < F.q → F.tr a < F.p
 frob : ∀ a, a < F.q → F.tr (F.pow a F.p) = F.tr a
 pow : ∀ a b, a < F.q → b < F.q → F.pow (F.add a b) F.p = F.add (F.pow a F.p) (F.pow b F.p)
 add : ∀ a b, a < F.q → b < F.q → F.tr (F.add a b) = (F.tr a + F.tr b) % F.p

theorem trOk_mem {F : Gf} (h : F ∈ fds) : TrOk F := by
 have := tr_ok F h
 simp only [chkTr, Bool.and_eq_true] at this
 obtain ⟨h1, h2⟩ := this
 have h1 := fun a ha => by have := allLt_ok h1 a ha; simp only [Bool.and_eq_true, Nat.beq_eq, Nat.blt_eq] at this; exact this
 have h2 := fun a ha b hb => by have := allLt_ok (allLt_ok h2 a ha) b hb; simp only [Bool.and_eq_true, Nat.beq_eq] at this; exact this
 exact ⟨fun a ha => (h1 a ha).1, fun a ha => (h1 a ha).2, fun a b ha hb => (h2 a ha b hb).1, fun a b ha hb => (h2 a ha b hb).2⟩
end Go.Fl
