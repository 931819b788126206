/- Powers: evaluated with letters for the products on the way. -/
import Derived.Test.YtjphnpbknaedcaaAc
import Derived.Test.YtjphnpbknaedcaaEvZ
namespace Go.Proofs.Ytjphnpbknaedcaa
open Go.Ev Go.Fl
open Go.RowKit (Below)
set_option linter.unusedSectionVars false
set_option linter.unusedVariables false
variable {F : Gf}

/-- the products of a power with the exponent r, from step t on, and the power; it is pw so far. Letter 2 t: the power 2^t; letter 2 t + 1: the product behind step t. -/
def chain (F : Gf) : Nat → Nat → Nat → AV → List Fct × AV
  | 0, _, _, pw => ([], pw)
  | m + 1, t, r, pw =>
    if r = 0 then ([], pw) else
    ((if r % 2 = 1 then [⟨[fA F, pw, lv (2 * t) 1 (F.q - 1)], fOld F, lv (2 * t + 1) 1 (F.q - 1), [], []⟩] else []) ++
      (⟨[fA F, lv (2 * t) 1 (F.q - 1), lv (2 * t) 1 (F.q - 1)], fOld F, lv (2 * t + 2) 1 (F.q - 1), [], []⟩ :: (chain F m (t + 1) (r / 2) (if r % 2 = 1 then lv (2 * t + 1) 1 (F.q - 1) else pw)).1),
      (chain F m (t + 1) (r / 2) (if r % 2 = 1 then lv (2 * t + 1) 1 (F.q - 1) else pw)).2)

def rp (F : Gf) (a n k : Nat) : Nat := if k % 2 = 0 then F.pow a (2 ^ (k / 2)) else F.pow a (n % 2 ^ (k / 2 + 1))

theorem chain_ok (hF : Ok F) (hx : chkEx F = true) (hm : chk2 23 Gf.mul F = true) {a n : Nat} (ha : a < F.q) (hz : a ≠ 0) : ∀ (m t r : Nat) (pw : AV), r = n / 2 ^ t → r < 2 ^ m → @Nu (rhoN (rp F a n)) pw (F.pow a (n % 2 ^ t) : Nat) →
    (∀ G ∈ (chain F m t r pw).1, @Fct.Holds (rhoN (rp F a n)) Try.prog 23 G) ∧ @Nu (rhoN (rp F a n)) (chain F m t r pw).2 (F.pow a n : Nat) := by
  letI := rhoN (rp F a n)
  have stop : ∀ (t r : Nat) (pw : AV), r = n / 2 ^ t → r = 0 → Nu pw (F.pow a (n % 2 ^ t) : Nat) → Nu pw (F.pow a n : Nat) := by
    intro t r pw hr h0 hp
    have : n < 2 ^ t := by
      rw [h0] at hr
      rcases Nat.div_eq_zero_iff.1 hr.symm with h | h
      · exact absurd h (Nat.ne_of_gt (Nat.two_pow_pos t))
      · exact h
    rwa [Nat.mod_eq_of_lt this] at hp
  intro m
  induction m with
  | zero =>
    intro t r pw hr hlt hp
    exact ⟨fun G hG => (by cases hG), stop t r pw hr (by simpa using hlt) hp⟩
  | succ m ih =>
    intro t r pw hr hlt hp
    unfold chain
    split
    · rename_i h0
      exact ⟨fun G hG => (by cases hG), stop t r pw hr h0 hp⟩
    · rename_i h0
      have p1 : ∀ k, 1 ≤ F.pow a k := fun k => Nat.pos_of_ne_zero (hF.pow_ne hz k)
      have p2 : ∀ k, F.pow a k ≤ F.q - 1 := fun k => by have := hF.pow_lt a k; omega
      have hA : Nu (lv (2 * t) 1 (F.q - 1)) (F.pow a (2 ^ t) : Nat) := by
        refine lv_nu ?_ (p1 _) (p2 _)
        show ((rp F a n (2 * t) : Nat) : Int) = _
        unfold rp
        rw [if_pos (by omega), show 2 * t / 2 = t by omega]
      have hS : Nu (lv (2 * t + 2) 1 (F.q - 1)) (F.mul (F.pow a (2 ^ t)) (F.pow a (2 ^ t)) : Nat) := by
        rw [hF.pow_add hz]
        refine lv_nu ?_ (p1 _) (p2 _)
        show ((rp F a n (2 * t + 2) : Nat) : Int) = _
        unfold rp
        rw [if_pos (by omega), show (2 * t + 2) / 2 = t + 1 by omega, show 2 ^ t + 2 ^ t = 2 ^ (t + 1) by rw [Nat.pow_succ]; omega]
      have hm2 : n % 2 ^ (t + 1) = n % 2 ^ t + 2 ^ t * (r % 2) := by rw [Nat.pow_succ, Nat.mod_mul, hr]
      have hO : r % 2 = 1 → Nu (lv (2 * t + 1) 1 (F.q - 1)) (F.pow a (n % 2 ^ (t + 1)) : Nat) := fun _ => by
        refine lv_nu ?_ (p1 _) (p2 _)
        show ((rp F a n (2 * t + 1) : Nat) : Int) = _
        unfold rp
        rw [if_neg (by omega), show (2 * t + 1) / 2 = t by omega]
      have hN : Nu (if r % 2 = 1 then lv (2 * t + 1) 1 (F.q - 1) else pw) (F.pow a (n % 2 ^ (t + 1)) : Nat) := by
        split
        · rename_i h; exact hO h
        · rename_i h
          rw [hm2, show r % 2 = 0 by omega, Nat.mul_zero, Nat.add_zero]; exact hp
      obtain ⟨k1, k2⟩ := ih (t + 1) (r / 2) _ (by rw [hr, Nat.pow_succ, Nat.div_div_eq_div_mul]) (by rw [Nat.pow_succ] at hlt; omega) hN
      refine ⟨fun G hG => ?_, k2⟩
      simp only [List.mem_append, List.mem_cons] at hG
      rcases hG with h | h | h
      · split at h
        · rename_i ho
          rw [List.mem_singleton.1 h]
          refine op2_fact hF hx hm (hF.pow_lt a _) (hF.pow_lt a _) hp hA ?_
          have := hO ho
          rwa [hm2, ho, Nat.mul_one, ← hF.pow_add hz] at this
        · cases h
      · rw [h]
        exact op2_fact hF hx hm (hF.pow_lt a _) (hF.pow_lt a _) hA hA hS
      · exact k1 G h

abbrev chA (F : Gf) (r : Nat) : AV := (chain F 7 0 r (I 1)).2
abbrev chL (F : Gf) (r : Nat) : List (FuncId × List Fct) := [(23, (chain F 7 0 r (I 1)).1)]
/-- f's call with these arguments is the power r of the letter 0 -/
noncomputable def chkP (f : FuncId) (l : List AV) (r : Nat) (F : Gf) : Bool := (Fct.mk (fA F :: l) (fOld F) (.tup [chA F r, I 0]) [] []).got ((evF Try.prog (orcOf (chL F r)) 5000).call f (fA F :: l) (fSt F))
noncomputable def chkZ (f : FuncId) (l : List AV) (v : AV) (F : Gf) : Bool := (Fct.mk (fA F :: l) (fOld F) v [] []).got ((evF Try.prog noOrc 5000).call f (fA F :: l) (fSt F))

theorem chkP_ok {f : FuncId} {l : List AV} {ns : List Int} {r : Nat} (hF : Ok F) (hx : chkEx F = true) (hm : chk2 23 Gf.mul F = true) (h : chkP f l r F = true) {a : Nat} (ha : a < F.q) (hz : a ≠ 0) (hr : r < 128) (hl : @NuL (rhoN (rp F a r)) l ns)
    [R : Rho] {l' : List AV} {v : AV} (hl' : NuL l' ns) (hv : Nu v (F.pow a r : Nat)) : Fct.Holds Try.prog f ⟨fA F :: l', fOld F, .tup [v, I 0], [], []⟩ := by
  obtain ⟨k1, k2⟩ := chain_ok (n := r) hF hx hm ha hz 7 0 r (I 1) (by rw [Nat.pow_zero, Nat.div_one]) hr (by rw [Nat.pow_zero, Nat.mod_one, hF.pow_zero hz]; exact @Nu.int (rhoN (rp F a r)) _)
  have rs := @rsN2 (rhoN (rp F a r)) _ _ k2 0
  have h0 : @Fct.Holds (rhoN (rp F a r)) Try.prog f ⟨fA F :: l, fOld F, .tup [chA F r, I 0], [], []⟩ :=
    @Fct.holds (rhoN (rp F a r)) _ _ _ (@noKnow_ok (rhoN (rp F a r))) fit (@orcOf_ok (rhoN (rp F a r)) _ (chL F r) ⟨k1, trivial⟩) _ _ _ (good_n (@NuL.lone (rhoN (rp F a r)) _ _ hl) (@Rs.good (rhoN (rp F a r)) _ _ rs _)) h
  exact turnF h0 (@Rs.flat (rhoN (rp F a r)) _ _ rs) (@Rs.vl (rhoN (rp F a r)) _ _ rs) hl hl' (rsN2 hv 0)

theorem chkZ_ok {f : FuncId} {l : List AV} {ns : List Int} {v : AV} {c : Value} (h : chkZ f l v F = true) (hl : ∀ R : Rho, @NuL R l ns) (hv : ∀ R : Rho, @Rs R v c) [R : Rho] {l' : List AV} (hl' : NuL l' ns) {v' : AV} (hv' : Rs v' c) :
    Fct.Holds Try.prog f ⟨fA F :: l', fOld F, v', [], []⟩ := by
  have h0 : Fct.Holds Try.prog f ⟨fA F :: l, fOld F, v, [], []⟩ := Fct.holds fit (noOrc_ok _) (good_n (NuL.lone (hl R)) ((hv R).good _)) h
  exact turnF h0 (hv R).flat (hv R).vl (hl R) hl' hv'

/-- Pow with the exponent n, at least 1 -/
noncomputable def chkPow (n : Nat) (F : Gf) : Bool := chkP 29 [lv 0 1 (F.q - 1), I n] (n % (F.q - 1)) F && chkZ 29 [I 0, I n] (.tup [I 0, I 0]) F
noncomputable def chkInv (F : Gf) : Bool := chkP 27 [lv 0 1 (F.q - 1)] (F.q - 2) F && chkZ 27 [I 0] (.tup [I 0, I 3]) F

theorem l0_nu (hF : Ok F) {a n : Nat} (ha : a < F.q) (hz : a ≠ 0) : @Nu (rhoN (rp F a n)) (lv 0 1 (F.q - 1)) (a : Nat) := by
  letI := rhoN (rp F a n)
  refine lv_nu ?_ (Nat.pos_of_ne_zero hz) (by omega)
  show ((rp F a n 0 : Nat) : Int) = _
  unfold rp
  rw [if_pos (by omega)]
  show ((F.pow a 1 : Nat) : Int) = _
  rw [hF.pow_one hz ha]

theorem pow_fact (hF : Ok F) (hx : chkEx F = true) (hm : chk2 23 Gf.mul F = true) {n : Nat} (hn : 1 ≤ n) (h : chkPow n F = true) [R : Rho] {x y v : AV} {a : Nat} (ha : a < F.q) (nx : Nu x a) (ny : Nu y n) (nv : Nu v (F.pow a n : Nat)) :
    Fct.Holds Try.prog 29 ⟨[fA F, x, y], fOld F, .tup [v, I 0], [], []⟩ := by
  simp only [chkPow, Bool.and_eq_true] at h
  by_cases hz : a = 0
  · subst hz
    have e : F.pow 0 n = 0 := by cases n; omega; rfl
    rw [e] at nv
    exact chkZ_ok (l' := [x, y]) (l := [I 0, I n]) (v := .tup [I 0, I 0]) h.2 (ns := [((0 : Nat) : Int), (n : Int)]) (fun R => ⟨@I_nu R 0, @I_nu R n, trivial⟩) (fun R => @rsN2 R _ _ (@I_nu R 0) 0) ⟨nx, ny, trivial⟩ (rsN2 nv 0)
  · refine chkP_ok hF hx hm h.1 ha hz (by have := Nat.mod_lt n hF.q1; have := hF.q64; omega) (ns := [(a : Int), (n : Int)]) ⟨l0_nu hF ha hz, @I_nu (rhoN (rp F a _)) n, trivial⟩ ⟨nx, ny, trivial⟩ ?_
    rwa [Ok.pow_mod hz]

theorem inv_fact (hF : Ok F) (hx : chkEx F = true) (hm : chk2 23 Gf.mul F = true) (h : chkInv F = true) [R : Rho] {x v : AV} {a : Nat} (ha : a < F.q) (hz : a ≠ 0) (nx : Nu x a) (nv : Nu v (F.inv a : Nat)) :
    Fct.Holds Try.prog 27 ⟨[fA F, x], fOld F, .tup [v, I 0], [], []⟩ := by
  simp only [chkInv, Bool.and_eq_true] at h
  refine chkP_ok hF hx hm h.1 ha hz (by have := hF.q64; omega) (ns := [(a : Int)]) ⟨l0_nu hF ha hz, trivial⟩ ⟨nx, trivial⟩ ?_
  rwa [hF.inv_pow hz ha]
theorem inv0_fact (h : chkInv F = true) [R : Rho] {x : AV} (nx : Nu x 0) : Fct.Holds Try.prog 27 ⟨[fA F, x], fOld F, .tup [I 0, I 3], [], []⟩ := by
  simp only [chkInv, Bool.and_eq_true] at h
  exact chkZ_ok (l' := [x]) (l := [I 0]) (v := .tup [I 0, I 3]) h.2 (ns := [((0 : Nat) : Int)]) (fun R => ⟨@I_nu R 0, trivial⟩) (fun R => @rsN2 R _ _ (@I_nu R 0) 3) ⟨nx, trivial⟩ (rsN2 (I_nu 0) 3)
end Go.Proofs.Ytjphnpbknaedcaa
