/- Powers with any exponent: evaluated with letters, a class of exponents at a time. -/
import Derived.Test.YtjphnpbknaedcaaAk
namespace Go.Proofs.Ytjphnpbknaedcaa
open Go.Ev Go.Fl
open Go.RowKit (Below)
set_option linter.unusedSectionVars false
set_option linter.unusedVariables false
variable {F : Gf}

theorem chain_ok' [R : Rho] (h : OpsOk F) {a n : Nat} (ha : a < F.q) (hz : a ≠ 0) (hρ : ∀ k, k < 15 → Rho.ρ k = ((rp F a n k : Nat) : Int)) : ∀ (m t r : Nat) (pw : AV), t + m ≤ 7 → r = n / 2 ^ t → r < 2 ^ m → Nu pw (F.pow a (n % 2 ^ t) : Nat) →
    (∀ G ∈ (chain F m t r pw).1, G.Holds Try.prog 23) ∧ Nu (chain F m t r pw).2 (F.pow a n : Nat) := by
  have hF := ok_mem h.mem
  have stop : ∀ (t r : Nat) (pw : AV), r = n / 2 ^ t → r = 0 → Nu pw (F.pow a (n % 2 ^ t) : Nat) → Nu pw (F.pow a n : Nat) := by
    intro t r pw hr h0 hp
    have : n < 2 ^ t := by
      rw [h0] at hr
      rcases Nat.div_eq_zero_iff.1 hr.symm with h | h
      · exact absurd h (Nat.ne_of_gt (Nat.two_pow_pos t))
      · exact h
    rwa [Nat.mod_eq_of_lt this] at hp
  intro m
  induction m with
  | zero =>
    intro t r pw _ hr hlt hp
    exact ⟨fun G hG => (by cases hG), stop t r pw hr (by simpa using hlt) hp⟩
  | succ m ih =>
    intro t r pw htm hr hlt hp
    unfold chain
    split
    · rename_i h0
      exact ⟨fun G hG => (by cases hG), stop t r pw hr h0 hp⟩
    · rename_i h0
      have p1 : ∀ k, 1 ≤ F.pow a k := fun k => Nat.pos_of_ne_zero (hF.pow_ne hz k)
      have p2 : ∀ k, F.pow a k ≤ F.q - 1 := fun k => by have := hF.pow_lt a k; omega
      have hA : Nu (lv (2 * t) 1 (F.q - 1)) (F.pow a (2 ^ t) : Nat) := by
        refine lv_nu ?_ (p1 _) (p2 _)
        rw [hρ _ (by omega)]
        unfold rp
        rw [if_pos (by omega), show 2 * t / 2 = t by omega]
      have hS : Nu (lv (2 * t + 2) 1 (F.q - 1)) (F.mul (F.pow a (2 ^ t)) (F.pow a (2 ^ t)) : Nat) := by
        rw [hF.pow_add hz]
        refine lv_nu ?_ (p1 _) (p2 _)
        rw [hρ _ (by omega)]
        unfold rp
        rw [if_pos (by omega), show (2 * t + 2) / 2 = t + 1 by omega, show 2 ^ t + 2 ^ t = 2 ^ (t + 1) by rw [Nat.pow_succ]; omega]
      have hm2 : n % 2 ^ (t + 1) = n % 2 ^ t + 2 ^ t * (r % 2) := by rw [Nat.pow_succ, Nat.mod_mul, hr]
      have hO : r % 2 = 1 → Nu (lv (2 * t + 1) 1 (F.q - 1)) (F.pow a (n % 2 ^ (t + 1)) : Nat) := fun _ => by
        refine lv_nu ?_ (p1 _) (p2 _)
        rw [hρ _ (by omega)]
        unfold rp
        rw [if_neg (by omega), show (2 * t + 1) / 2 = t by omega]
      have hN : Nu (if r % 2 = 1 then lv (2 * t + 1) 1 (F.q - 1) else pw) (F.pow a (n % 2 ^ (t + 1)) : Nat) := by
        split
        · rename_i h; exact hO h
        · rename_i h
          rw [hm2, show r % 2 = 0 by omega, Nat.mul_zero, Nat.add_zero]; exact hp
      obtain ⟨k1, k2⟩ := ih (t + 1) (r / 2) _ (by omega) (by rw [hr, Nat.pow_succ, Nat.div_div_eq_div_mul]) (by rw [Nat.pow_succ] at hlt; omega) hN
      refine ⟨fun G hG => ?_, k2⟩
      simp only [List.mem_append, List.mem_cons] at hG
      rcases hG with h' | h' | h'
      · split at h'
        · rename_i ho
          rw [List.mem_singleton.1 h']
          refine fMul h (hF.pow_lt a _) (hF.pow_lt a _) hp hA ?_
          have := hO ho
          rwa [hm2, ho, Nat.mul_one, ← hF.pow_add hz] at this
        · cases h'
      · rw [h']
        exact fMul h (hF.pow_lt a _) (hF.pow_lt a _) hA hA hS
      · exact k1 G h'

/-- the exponents (q - 1) u + r and -(q - 1) u - r -/
def eP (F : Gf) (r : Nat) : AV := .sym .i64 (.bin .add (.bin .mul (.lit (Int.ofNat (F.q - 1))) (.var 99 0 (Int.ofNat (9223372036854775807 / (F.q - 1))))) (.lit (Int.ofNat r))) (Int.ofNat r) 9223372036854775807
def eM (F : Gf) (r : Nat) : AV := .sym .i64 (.bin .sub (.lit (-Int.ofNat r)) (.bin .mul (.lit (Int.ofNat (F.q - 1))) (.var 99 0 (Int.ofNat (9223372036854775808 / (F.q - 1)))))) (-9223372036854775808) (-Int.ofNat r)
def rM (F : Gf) (r : Nat) : Nat := if r = 0 then 0 else F.q - 1 - r
noncomputable def chkPP (F : Gf) (r : Nat) : Bool := chkP 29 [lv 0 1 (F.q - 1), eP F r] r F
noncomputable def chkPM (F : Gf) (r : Nat) : Bool := chkP 29 [lv 0 1 (F.q - 1), eM F r] (rM F r) F
/-- the exponents from lo on -/
noncomputable def chkPs (F : Gf) (lo n : Nat) : Bool := allLt n fun k => chkPP F (lo + k) && chkPM F (lo + k)
abbrev zP : AV := .sym .i64 (.var 98 1 9223372036854775807) 1 9223372036854775807
abbrev zM : AV := .sym .i64 (.var 98 (-9223372036854775808) (-1)) (-9223372036854775808) (-1)
noncomputable def chkZs (F : Gf) : Bool := chkZ 29 [I 0, zP] (.tup [I 0, I 0]) F && (chkZ 29 [I 0, I 0] (.tup [I 1, I 0]) F && chkZ 29 [I 0, zM] (.tup [I 0, I 3]) F)
end Go.Proofs.Ytjphnpbknaedcaa

/- Powers with any exponent, orders: as facts. -/
namespace Go.Proofs.Ytjphnpbknaedcaa
open Go.Ev Go.Fl
open Go.RowKit (Below)
set_option linter.unusedSectionVars false
set_option linter.unusedVariables false

/-- powers of elements other than 0 -/
def powZ (F : Gf) (a : Nat) (n : Int) : Nat := F.pow a (n % ((F.q - 1 : Nat) : Int)).toNat

/-- with the classes of exponents -/
structure OpsZ (F : Gf) : Prop extends OpsOk F where
  pp : ∀ r, r < F.q - 1 → chkPP F r = true
  pm : ∀ r, r < F.q - 1 → chkPM F r = true
  pz : chkZs F = true

def rZ (F : Gf) (a r u k : Nat) : Nat := if k = 99 then u else rp F a r k

theorem chkP_any {F : Gf} {f : FuncId} {l : List AV} {ns : List Int} {r : Nat} {R1 : Rho} (h : OpsOk F) (hc : chkP f l r F = true) {a : Nat} (ha : a < F.q) (hz : a ≠ 0) (hr : r < 128) (hρ : ∀ k, k < 15 → @Rho.ρ R1 k = ((rp F a r k : Nat) : Int)) (hl : @NuL R1 l ns)
    [R : Rho] {l' : List AV} {v : AV} (hl' : NuL l' ns) (hv : Nu v (F.pow a r : Nat)) : Fct.Holds Try.prog f ⟨fA F :: l', fOld F, .tup [v, I 0], [], []⟩ := by
  have hF := ok_mem h.mem
  obtain ⟨k1, k2⟩ := @chain_ok' F R1 h a r ha hz hρ 7 0 r (I 1) (by omega) (by rw [Nat.pow_zero, Nat.div_one]) hr (by rw [Nat.pow_zero, Nat.mod_one, hF.pow_zero hz]; exact @Nu.int R1 _)
  have rs := @rsN2 R1 _ _ k2 0
  have h0 : @Fct.Holds R1 Try.prog f ⟨fA F :: l, fOld F, .tup [chA F r, I 0], [], []⟩ :=
    @Fct.holds R1 _ _ _ (@noKnow_ok R1) fit (@orcOf_ok R1 _ (chL F r) ⟨k1, trivial⟩) _ _ _ (good_n (@NuL.lone R1 _ _ hl) (@Rs.good R1 _ _ rs _)) hc
  exact turnF h0 (@Rs.flat R1 _ _ rs) (@Rs.vl R1 _ _ rs) hl hl' (rsN2 hv 0)

theorem rp_zero {F : Gf} (hF : Ok F) {a r : Nat} (ha : a < F.q) (hz : a ≠ 0) : rp F a r 0 = a := by
  unfold rp
  rw [if_pos (by omega)]
  exact hF.pow_one hz ha

theorem powZ_fact {F : Gf} (h : OpsZ F) [R : Rho] {x y v : AV} {a : Nat} {n : Int} (ha : a < F.q) (hz : a ≠ 0) (h1 : -9223372036854775808 ≤ n) (h2 : n ≤ 9223372036854775807) (nx : Nu x a) (ny : Nu y n) (nv : Nu v (powZ F a n : Nat)) :
    Fct.Holds Try.prog 29 ⟨[fA F, x, y], fOld F, .tup [v, I 0], [], []⟩ := by
  have hF := ok_mem h.mem
  have hq := hF.q1
  have hq64 := hF.q64
  have hA : ∀ (r u : Nat), @Nu (rhoN (rZ F a r u)) (lv 0 1 (F.q - 1)) (a : Nat) := fun r u => by
    letI := rhoN (rZ F a r u)
    refine lv_nu ?_ (Nat.pos_of_ne_zero hz) (by omega)
    show ((rZ F a r u 0 : Nat) : Int) = _
    unfold rZ
    rw [if_neg (by omega), rp_zero hF ha hz]
  have hρ : ∀ (r u k : Nat), k < 15 → @Rho.ρ (rhoN (rZ F a r u)) k = ((rp F a r k : Nat) : Int) := fun r u k hk => by
    show ((rZ F a r u k : Nat) : Int) = _
    unfold rZ
    rw [if_neg (by omega)]
  rcases Int.le_total 0 n with hn | hn
  · obtain ⟨m, rfl⟩ := Int.eq_ofNat_of_zero_le hn
    have hr : m % (F.q - 1) < F.q - 1 := Nat.mod_lt _ hq
    have e : powZ F a ((m : Nat) : Int) = F.pow a (m % (F.q - 1)) := by
      unfold powZ
      rw [← Int.natCast_emod]; rfl
    rw [e] at nv
    refine chkP_any (R1 := rhoN (rZ F a (m % (F.q - 1)) (m / (F.q - 1)))) h.toOpsOk (h.pp _ hr) ha hz (by omega) (hρ _ _) (ns := [(a : Int), ((m : Nat) : Int)]) ⟨hA _ _, ?_, trivial⟩ ⟨nx, ny, trivial⟩ nv
    have hd := Nat.div_add_mod m (F.q - 1)
    have hu : m / (F.q - 1) ≤ 9223372036854775807 / (F.q - 1) := Nat.div_le_div_right (by omega)
    have hv : @SX.eval (rhoN (rZ F a (m % (F.q - 1)) (m / (F.q - 1)))) (.bin .add (.bin .mul (.lit (Int.ofNat (F.q - 1))) (.var 99 0 (Int.ofNat (9223372036854775807 / (F.q - 1))))) (.lit (Int.ofNat (m % (F.q - 1))))) = ((m : Nat) : Int) := by
      show Int.ofNat (F.q - 1) * ((m / (F.q - 1) : Nat) : Int) + Int.ofNat (m % (F.q - 1)) = _
      rw [Int.ofNat_eq_natCast, Int.ofNat_eq_natCast, ← Int.natCast_mul, ← Int.natCast_add, hd]
    refine @Nu.mk (rhoN (rZ F a (m % (F.q - 1)) (m / (F.q - 1)))) _ _ rfl ?_ ⟨⟨⟨trivial, ?_⟩, trivial⟩, ?_, ?_⟩
    · show Value.int .i64 _ = _; rw [hv]
    · show (0 : Int) ≤ ((m / (F.q - 1) : Nat) : Int) ∧ ((m / (F.q - 1) : Nat) : Int) ≤ Int.ofNat _
      exact ⟨Int.natCast_nonneg _, Int.ofNat_le.2 hu⟩
    · rw [hv]; exact Int.ofNat_le.2 (Nat.mod_le _ _)
    · rw [hv]; exact h2
  · obtain ⟨m, hm⟩ := Int.eq_ofNat_of_zero_le (show 0 ≤ -n by omega)
    obtain rfl : n = -((m : Nat) : Int) := by omega
    have hr : m % (F.q - 1) < F.q - 1 := Nat.mod_lt _ hq
    have hd := Nat.div_add_mod m (F.q - 1)
    have e : powZ F a (-((m : Nat) : Int)) = F.pow a (rM F (m % (F.q - 1))) := by
      unfold powZ rM
      congr 1
      generalize F.q - 1 = M at *
      split
      · rename_i h0
        have : (-((m : Nat) : Int)) % ((M : Nat) : Int) = 0 := Int.emod_eq_zero_of_dvd (Int.dvd_neg.2 (Int.natCast_dvd_natCast.2 (Nat.dvd_of_mod_eq_zero h0)))
        rw [this]; rfl
      · rename_i h0
        have : (-((m : Nat) : Int)) % ((M : Nat) : Int) = ((M - m % M : Nat) : Int) := by
          have h3 : -((m : Nat) : Int) = ((M - m % M : Nat) : Int) + ((M : Nat) : Int) * (-((m / M : Nat) : Int) - 1) := by
            have : ((m : Nat) : Int) = ((M * (m / M) + m % M : Nat) : Int) := by rw [hd]
            rw [this, Int.natCast_add, Int.natCast_mul, Int.natCast_sub (by omega), Int.mul_sub, Int.mul_neg]
            omega
          rw [h3, Int.add_mul_emod_self_left, Int.emod_eq_of_lt (by omega) (by omega)]
        rw [this]; rfl
    rw [e] at nv
    have hrm : rM F (m % (F.q - 1)) < 128 := by unfold rM; split <;> omega
    refine chkP_any (R1 := rhoN (rZ F a (rM F (m % (F.q - 1))) (m / (F.q - 1)))) h.toOpsOk (h.pm _ hr) ha hz hrm (hρ _ _) (ns := [(a : Int), -((m : Nat) : Int)]) ⟨hA _ _, ?_, trivial⟩ ⟨nx, ny, trivial⟩ nv
    have hu : m / (F.q - 1) ≤ 9223372036854775808 / (F.q - 1) := Nat.div_le_div_right (by omega)
    have hv : @SX.eval (rhoN (rZ F a (rM F (m % (F.q - 1))) (m / (F.q - 1)))) (.bin .sub (.lit (-Int.ofNat (m % (F.q - 1)))) (.bin .mul (.lit (Int.ofNat (F.q - 1))) (.var 99 0 (Int.ofNat (9223372036854775808 / (F.q - 1)))))) = -((m : Nat) : Int) := by
      show -Int.ofNat (m % (F.q - 1)) - Int.ofNat (F.q - 1) * ((m / (F.q - 1) : Nat) : Int) = _
      rw [Int.ofNat_eq_natCast, Int.ofNat_eq_natCast, ← Int.natCast_mul]
      have : ((m : Nat) : Int) = (((F.q - 1) * (m / (F.q - 1)) + m % (F.q - 1) : Nat) : Int) := by rw [hd]
      rw [this, Int.natCast_add]; omega
    refine @Nu.mk (rhoN (rZ F a (rM F (m % (F.q - 1))) (m / (F.q - 1)))) _ _ rfl ?_ ⟨⟨trivial, trivial, ?_⟩, ?_, ?_⟩
    · show Value.int .i64 _ = _; rw [hv]
    · show (0 : Int) ≤ ((m / (F.q - 1) : Nat) : Int) ∧ ((m / (F.q - 1) : Nat) : Int) ≤ Int.ofNat _
      exact ⟨Int.natCast_nonneg _, Int.ofNat_le.2 hu⟩
    · rw [hv]; exact h1
    · rw [hv, Int.ofNat_eq_natCast]
      have := Nat.mod_le m (F.q - 1)
      omega

/-! ### facts that are found by their arguments -/
def factsOf2 (f : FuncId) : List (FuncId × (List AV → List Fct)) → List AV → List Fct
  | [], _ => []
  | (g, c) :: r, args => if Nat.beq f g then c args else factsOf2 f r args
def orcOf2 (L : List (FuncId × (List AV → List Fct))) : Orc := fun f args s => useFirst args s (factsOf2 f L args)
def FactsOk2 [Rho] (P : Program) : List (FuncId × (List AV → List Fct)) → Prop
  | [] => True
  | (f, c) :: r => (∀ args, ∀ G ∈ c args, G.Holds P f) ∧ FactsOk2 P r
theorem factsOf2_ok [Rho] {P : Program} {f : FuncId} {args : List AV} : ∀ {L : List (FuncId × (List AV → List Fct))}, FactsOk2 P L → ∀ G ∈ factsOf2 f L args, G.Holds P f
  | [], _, G, h => by simp [factsOf2] at h
  | (g, c) :: r, hL, G, h => by
    simp only [factsOf2] at h
    split at h
    · rename_i e; rw [Nat.beq_eq] at e; subst e; exact hL.1 args G h
    · exact factsOf2_ok hL.2 G h
theorem orcOf2_ok [Rho] {P : Program} {L : List (FuncId × (List AV → List Fct))} (h : FactsOk2 P L) : OrcOk P (orcOf2 L) := by
  intro f args s v s' q hv
  obtain ⟨G, h1, h2⟩ := useFirst_sound (factsOf2_ok h) hv
  exact use_sound h1 h2

/-! ### orders -/
def Gf_ord (F : Gf) (a : Nat) : Nat := if a = 0 then 0 else (F.q - 1) / Nat.gcd (F.log a) (F.q - 1)
noncomputable def chkOrdN (F : Gf) : Bool := allLt F.q fun a => Nat.beq a 0 || (Nat.ble 1 (Gf_ord F a) && (Nat.blt (Gf_ord F a) F.q && (Nat.beq ((F.q - 1) % (Gf_ord F a)) 0 && (Nat.beq (F.pow a (Gf_ord F a)) 1 && allLt (Gf_ord F a - 1) fun i => Nat.ble 2 (F.pow a (i + 1))))))

def oA (F : Gf) (k : Nat) : AV := if k = 1 then I 1 else lv 70 2 (F.q - 1)
/-- behind n steps of k -/
def oP (F : Gf) (k n : Nat) : AV := if n = 0 then I 1 else if n = k then I 1 else lv n 2 (F.q - 1)
def oF (F : Gf) (k n : Nat) : List Fct := if n < k then [⟨[fA F, oP F k n, oA F k], fOld F, oP F k (n + 1), [], []⟩] else []
def oC (F : Gf) (k : Nat) : List AV → List Fct
  | [_, .sym _ (.var n _ _) _ _, _] => oF F k n
  | _ => oF F k 0
def oL (F : Gf) (k : Nat) : List (FuncId × (List AV → List Fct)) := [(23, oC F k)]
noncomputable def chkO (F : Gf) (k : Nat) : Bool := (Fct.mk [fA F, oA F k] (fOld F) (I k) [] []).got ((evF Try.prog (orcOf2 (oL F k)) 5000).call 31 [fA F, oA F k] (fSt F))
def divs (F : Gf) : List Nat := (List.range' 1 (F.q - 1)).filter fun k => (F.q - 1) % k == 0
noncomputable def chkOs (F : Gf) : Bool := (divs F).all (chkO F)
def o0L (F : Gf) : List (FuncId × List Fct) := [(23, [⟨[fA F, I 1, I 0], fOld F, I 0, [], []⟩, ⟨[fA F, I 0, I 0], fOld F, I 0, [], []⟩])]
noncomputable def chkO0 (F : Gf) : Bool := (Fct.mk [fA F, I 0] (fOld F) (I 0) [] []).got ((evF Try.prog (orcOf (o0L F)) 5000).call 31 [fA F, I 0] (fSt F))
def prL (F : Gf) : List (FuncId × List Fct) := [(31, (List.range' 1 F.g).map fun b => ⟨[fA F, I b], fOld F, I (Gf_ord F b), [], []⟩)]
noncomputable def chkPr (F : Gf) : Bool := (Fct.mk [fA F] (fOld F) (I F.g) [] []).got ((evF Try.prog (orcOf (prL F)) 5000).call 33 [fA F] (fSt F))
end Go.Proofs.Ytjphnpbknaedcaa

/- FieldPowers, evaluated with letters. -/
namespace Go.Proofs.Ytjphnpbknaedcaa
open Go.Ev Go.Fl

section
variable (F : Gf)
abbrev q2 (x y v : AV) : Fct := ⟨[fA F, x, y], fOld F, .tup [v, I 0], [], []⟩
/-- an element of order k; k = 0: the element 0 -/
def wA (k : Nat) : AV := if k = 0 then I 0 else if k = 1 then I 1 else if F.q = 3 then I 2 else lv 0 2 (F.q - 1)
abbrev wL (i : Nat) : AV := lv i 1 (F.q - 1)
abbrev yM : AV := .sym .i64 (.var 22 (-32768) 32767) (-32768) 32767
abbrev yN : AV := .sym .i64 (.var 23 (-32768) 32767) (-32768) 32767
abbrev yS : AV := .sym .i64 (.bin .add (.var 22 (-32768) 32767) (.var 23 (-32768) 32767)) (-65536) 65534
/-- concrete elements -/
def mulC (rest : List Fct) : List AV → List Fct
  | [_, .int _ (.ofNat a), .int _ (.ofNat b)] => if Nat.blt a F.q && Nat.blt b F.q then [f2 F (I a) (I b) (I (F.mul a b))] else []
  | _ => rest
def ordC (rest : List Fct) : List AV → List Fct
  | [_, .int _ (.ofNat b)] => if Nat.blt b F.q then [f1 F (I b) (I (Gf_ord F b))] else []
  | _ => rest
/-- the power n of an element of order k, at least 1 -/
def powF (k n : Nat) : List Fct :=
  if Nat.beq n F.q then [q2 F (wA F k) (I F.q) (wA F k)] else if Nat.beq n 0 then [q2 F (wA F k) (I 0) (I 1)] else if Nat.beq n k then [q2 F (wA F k) (I k) (I 1)] else if Nat.blt n k then [q2 F (wA F k) (I n) (lv (100 + n) 2 (F.q - 1))] else []
def powC (k : Nat) (rest : List Fct) : List AV → List Fct
  | [_, _, .int _ (.ofNat n)] => powF F k n
  | _ => rest
def pwFacts (i k : Nat) : List (FuncId × (List AV → List Fct)) :=
  [(9, fun _ => [examplesF]), (14, fun _ => [ofF i F]),
   (29, if k = 0 then fun _ => [q2 F (I 0) (I F.q) (I 0), q2 F (I 0) (I 0) (I 1)] else powC F k [q2 F (wA F k) yS (wL F 4), q2 F (wA F k) yM (wL F 5), q2 F (wA F k) yN (wL F 6)]),
   (33, fun _ => [⟨[fA F], fOld F, I F.g, [], []⟩]),
   (23, mulC F [f2 F (wL F 5) (wL F 6) (wL F 4)]),
   (31, ordC F [f1 F (wA F k) (I k)])]
def wX (k : Nat) : AV := if k = 0 then byteX F.q 21 (.lit 0) 0 else if k = 1 then byteX F.q 21 (.lit 1) 1 else if F.q = 3 then byteX F.q 21 (.lit 2) 2 else byteX F.q 21 (.var 0 2 (Int.ofNat (F.q - 1))) 2
def pwArg (i k : Nat) : List AV := [.agg [byteI i, wX F k], .sym .i16 (.var 22 (-32768) 32767) (-32768) 32767, .sym .i16 (.var 23 (-32768) 32767) (-32768) 32767]
noncomputable def pwRun (i k : Nat) : Bool := okRun Try.prog (orcOf2 (pwFacts F i k)) 5 (pwArg F i k) (.bool true)
end
noncomputable def pwAll (x : Gf × Nat) : Bool := pwRun x.1 x.2 0 && (divs x.1).all (pwRun x.1 x.2)
end Go.Proofs.Ytjphnpbknaedcaa
