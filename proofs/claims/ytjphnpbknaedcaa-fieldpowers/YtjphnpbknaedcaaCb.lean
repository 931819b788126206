/- Powers with any exponent, orders: as facts. -/
import Derived.Test.YtjphnpbknaedcaaCa
namespace Go.Proofs.Ytjphnpbknaedcaa
open Go.Ev Go.Fl
open Go.RowKit (Below)
set_option linter.unusedSectionVars false
set_option linter.unusedVariables false

/-- powers of elements other than 0 -/
def powZ (F : Gf) (a : Nat) (n : Int) : Nat := F.pow a (n % ((F.q - 1 : Nat) : Int)).toNat

/-- with the classes of exponents -/
structure OpsZ (F : Gf) : Prop extends OpsOk F where
  pp : ∀ r, r < F.q - 1 → chkPP F r = true
  pm : ∀ r, r < F.q - 1 → chkPM F r = true
  pz : chkZs F = true

def rZ (F : Gf) (a r u k : Nat) : Nat := if k = 99 then u else rp F a r k

theorem chkP_any {F : Gf} {f : FuncId} {l : List AV} {ns : List Int} {r : Nat} {R1 : Rho} (h : OpsOk F) (hc : chkP f l r F = true) {a : Nat} (ha : a < F.q) (hz : a ≠ 0) (hr : r < 128) (hρ : ∀ k, k < 15 → @Rho.ρ R1 k = ((rp F a r k : Nat) : Int)) (hl : @NuL R1 l ns)
    [R : Rho] {l' : List AV} {v : AV} (hl' : NuL l' ns) (hv : Nu v (F.pow a r : Nat)) : Fct.Holds Try.prog f ⟨fA F :: l', fOld F, .tup [v, I 0], [], []⟩ := by
  have hF := ok_mem h.mem
  obtain ⟨k1, k2⟩ := @chain_ok' F R1 h a r ha hz hρ 7 0 r (I 1) (by omega) (by rw [Nat.pow_zero, Nat.div_one]) hr (by rw [Nat.pow_zero, Nat.mod_one, hF.pow_zero hz]; exact @Nu.int R1 _)
  have rs := @rsN2 R1 _ _ k2 0
  have h0 : @Fct.Holds R1 Try.prog f ⟨fA F :: l, fOld F, .tup [chA F r, I 0], [], []⟩ :=
    @Fct.holds R1 _ _ fit (@orcOf_ok R1 _ (chL F r) ⟨k1, trivial⟩) _ _ _ (good_n (@NuL.lone R1 _ _ hl) (@Rs.good R1 _ _ rs _)) hc
  exact turnF h0 (@Rs.flat R1 _ _ rs) (@Rs.vl R1 _ _ rs) hl hl' (rsN2 hv 0)

theorem rp_zero {F : Gf} (hF : Ok F) {a r : Nat} (ha : a < F.q) (hz : a ≠ 0) : rp F a r 0 = a := by
  unfold rp
  rw [if_pos (by omega)]
  exact hF.pow_one hz ha

theorem powZ_fact {F : Gf} (h : OpsZ F) [R : Rho] {x y v : AV} {a : Nat} {n : Int} (ha : a < F.q) (hz : a ≠ 0) (h1 : -9223372036854775808 ≤ n) (h2 : n ≤ 9223372036854775807) (nx : Nu x a) (ny : Nu y n) (nv : Nu v (powZ F a n : Nat)) :
    Fct.Holds Try.prog 29 ⟨[fA F, x, y], fOld F, .tup [v, I 0], [], []⟩ := by
  have hF := ok_mem h.mem
  have hq := hF.q1
  have hq64 := hF.q64
  have hA : ∀ (r u : Nat), @Nu (rhoN (rZ F a r u)) (lv 0 1 (F.q - 1)) (a : Nat) := fun r u => by
    letI := rhoN (rZ F a r u)
    refine lv_nu ?_ (Nat.pos_of_ne_zero hz) (by omega)
    show ((rZ F a r u 0 : Nat) : Int) = _
    unfold rZ
    rw [if_neg (by omega), rp_zero hF ha hz]
  have hρ : ∀ (r u k : Nat), k < 15 → @Rho.ρ (rhoN (rZ F a r u)) k = ((rp F a r k : Nat) : Int) := fun r u k hk => by
    show ((rZ F a r u k : Nat) : Int) = _
    unfold rZ
    rw [if_neg (by omega)]
  rcases Int.le_total 0 n with hn | hn
  · obtain ⟨m, rfl⟩ := Int.eq_ofNat_of_zero_le hn
    have hr : m % (F.q - 1) < F.q - 1 := Nat.mod_lt _ hq
    have e : powZ F a ((m : Nat) : Int) = F.pow a (m % (F.q - 1)) := by
      unfold powZ
      rw [← Int.natCast_emod]; rfl
    rw [e] at nv
    refine chkP_any (R1 := rhoN (rZ F a (m % (F.q - 1)) (m / (F.q - 1)))) h.toOpsOk (h.pp _ hr) ha hz (by omega) (hρ _ _) (ns := [(a : Int), ((m : Nat) : Int)]) ⟨hA _ _, ?_, trivial⟩ ⟨nx, ny, trivial⟩ nv
    have hd := Nat.div_add_mod m (F.q - 1)
    have hu : m / (F.q - 1) ≤ 9223372036854775807 / (F.q - 1) := Nat.div_le_div_right (by omega)
    have hv : @SX.eval (rhoN (rZ F a (m % (F.q - 1)) (m / (F.q - 1)))) (.bin .add (.bin .mul (.lit (Int.ofNat (F.q - 1))) (.var 99 0 (Int.ofNat (9223372036854775807 / (F.q - 1))))) (.lit (Int.ofNat (m % (F.q - 1))))) = ((m : Nat) : Int) := by
      show Int.ofNat (F.q - 1) * ((m / (F.q - 1) : Nat) : Int) + Int.ofNat (m % (F.q - 1)) = _
      rw [Int.ofNat_eq_natCast, Int.ofNat_eq_natCast, ← Int.natCast_mul, ← Int.natCast_add, hd]
    refine @Nu.mk (rhoN (rZ F a (m % (F.q - 1)) (m / (F.q - 1)))) _ _ rfl ?_ ⟨⟨⟨trivial, ?_⟩, trivial⟩, ?_, ?_⟩
    · show Value.int .i64 _ = _; rw [hv]
    · show (0 : Int) ≤ ((m / (F.q - 1) : Nat) : Int) ∧ ((m / (F.q - 1) : Nat) : Int) ≤ Int.ofNat _
      exact ⟨Int.natCast_nonneg _, Int.ofNat_le.2 hu⟩
    · rw [hv]; exact Int.ofNat_le.2 (Nat.mod_le _ _)
    · rw [hv]; exact h2
  · obtain ⟨m, hm⟩ := Int.eq_ofNat_of_zero_le (show 0 ≤ -n by omega)
    obtain rfl : n = -((m : Nat) : Int) := by omega
    have hr : m % (F.q - 1) < F.q - 1 := Nat.mod_lt _ hq
    have hd := Nat.div_add_mod m (F.q - 1)
    have e : powZ F a (-((m : Nat) : Int)) = F.pow a (rM F (m % (F.q - 1))) := by
      unfold powZ rM
      congr 1
      generalize F.q - 1 = M at *
      split
      · rename_i h0
        have : (-((m : Nat) : Int)) % ((M : Nat) : Int) = 0 := Int.emod_eq_zero_of_dvd (Int.dvd_neg.2 (Int.natCast_dvd_natCast.2 (Nat.dvd_of_mod_eq_zero h0)))
        rw [this]; rfl
      · rename_i h0
        have : (-((m : Nat) : Int)) % ((M : Nat) : Int) = ((M - m % M : Nat) : Int) := by
          have h3 : -((m : Nat) : Int) = ((M - m % M : Nat) : Int) + ((M : Nat) : Int) * (-((m / M : Nat) : Int) - 1) := by
            have : ((m : Nat) : Int) = ((M * (m / M) + m % M : Nat) : Int) := by rw [hd]
            rw [this, Int.natCast_add, Int.natCast_mul, Int.natCast_sub (by omega), Int.mul_sub, Int.mul_neg]
            omega
          rw [h3, Int.add_mul_emod_self_left, Int.emod_eq_of_lt (by omega) (by omega)]
        rw [this]; rfl
    rw [e] at nv
    have hrm : rM F (m % (F.q - 1)) < 128 := by unfold rM; split <;> omega
    refine chkP_any (R1 := rhoN (rZ F a (rM F (m % (F.q - 1))) (m / (F.q - 1)))) h.toOpsOk (h.pm _ hr) ha hz hrm (hρ _ _) (ns := [(a : Int), -((m : Nat) : Int)]) ⟨hA _ _, ?_, trivial⟩ ⟨nx, ny, trivial⟩ nv
    have hu : m / (F.q - 1) ≤ 9223372036854775808 / (F.q - 1) := Nat.div_le_div_right (by omega)
    have hv : @SX.eval (rhoN (rZ F a (rM F (m % (F.q - 1))) (m / (F.q - 1)))) (.bin .sub (.lit (-Int.ofNat (m % (F.q - 1)))) (.bin .mul (.lit (Int.ofNat (F.q - 1))) (.var 99 0 (Int.ofNat (9223372036854775808 / (F.q - 1)))))) = -((m : Nat) : Int) := by
      show -Int.ofNat (m % (F.q - 1)) - Int.ofNat (F.q - 1) * ((m / (F.q - 1) : Nat) : Int) = _
      rw [Int.ofNat_eq_natCast, Int.ofNat_eq_natCast, ← Int.natCast_mul]
      have : ((m : Nat) : Int) = (((F.q - 1) * (m / (F.q - 1)) + m % (F.q - 1) : Nat) : Int) := by rw [hd]
      rw [this, Int.natCast_add]; omega
    refine @Nu.mk (rhoN (rZ F a (rM F (m % (F.q - 1))) (m / (F.q - 1)))) _ _ rfl ?_ ⟨⟨trivial, trivial, ?_⟩, ?_, ?_⟩
    · show Value.int .i64 _ = _; rw [hv]
    · show (0 : Int) ≤ ((m / (F.q - 1) : Nat) : Int) ∧ ((m / (F.q - 1) : Nat) : Int) ≤ Int.ofNat _
      exact ⟨Int.natCast_nonneg _, Int.ofNat_le.2 hu⟩
    · rw [hv]; exact h1
    · rw [hv, Int.ofNat_eq_natCast]
      have := Nat.mod_le m (F.q - 1)
      omega

/-! ### facts that are found by their arguments -/
def factsOf2 (f : FuncId) : List (FuncId × (List AV → List Fct)) → List AV → List Fct
  | [], _ => []
  | (g, c) :: r, args => if Nat.beq f g then c args else factsOf2 f r args
def orcOf2 (L : List (FuncId × (List AV → List Fct))) : Orc := fun f args s => useFirst args s (factsOf2 f L args)
def FactsOk2 [Rho] (P : Program) : List (FuncId × (List AV → List Fct)) → Prop
  | [] => True
  | (f, c) :: r => (∀ args, ∀ G ∈ c args, G.Holds P f) ∧ FactsOk2 P r
theorem factsOf2_ok [Rho] {P : Program} {f : FuncId} {args : List AV} : ∀ {L : List (FuncId × (List AV → List Fct))}, FactsOk2 P L → ∀ G ∈ factsOf2 f L args, G.Holds P f
  | [], _, G, h => by simp [factsOf2] at h
  | (g, c) :: r, hL, G, h => by
    simp only [factsOf2] at h
    split at h
    · rename_i e; rw [Nat.beq_eq] at e; subst e; exact hL.1 args G h
    · exact factsOf2_ok hL.2 G h
theorem orcOf2_ok [Rho] {P : Program} {L : List (FuncId × (List AV → List Fct))} (h : FactsOk2 P L) : OrcOk P (orcOf2 L) := by
  intro f args s v s' q hv
  obtain ⟨G, h1, h2⟩ := useFirst_sound (factsOf2_ok h) hv
  exact use_sound h1 h2

/-! ### orders -/
def Gf_ord (F : Gf) (a : Nat) : Nat := if a = 0 then 0 else (F.q - 1) / Nat.gcd (F.log a) (F.q - 1)
noncomputable def chkOrdN (F : Gf) : Bool := allLt F.q fun a => Nat.beq a 0 || (Nat.ble 1 (Gf_ord F a) && (Nat.blt (Gf_ord F a) F.q && (Nat.beq ((F.q - 1) % (Gf_ord F a)) 0 && (Nat.beq (F.pow a (Gf_ord F a)) 1 && allLt (Gf_ord F a - 1) fun i => Nat.ble 2 (F.pow a (i + 1))))))

def oA (F : Gf) (k : Nat) : AV := if k = 1 then I 1 else lv 70 2 (F.q - 1)
/-- behind n steps of k -/
def oP (F : Gf) (k n : Nat) : AV := if n = 0 then I 1 else if n = k then I 1 else lv n 2 (F.q - 1)
def oF (F : Gf) (k n : Nat) : List Fct := if n < k then [⟨[fA F, oP F k n, oA F k], fOld F, oP F k (n + 1), [], []⟩] else []
def oC (F : Gf) (k : Nat) : List AV → List Fct
  | [_, .sym _ (.var n _ _) _ _, _] => oF F k n
  | _ => oF F k 0
def oL (F : Gf) (k : Nat) : List (FuncId × (List AV → List Fct)) := [(23, oC F k)]
noncomputable def chkO (F : Gf) (k : Nat) : Bool := (Fct.mk [fA F, oA F k] (fOld F) (I k) [] []).got ((evF Try.prog (orcOf2 (oL F k)) 5000).call 31 [fA F, oA F k] (fSt F))
def divs (F : Gf) : List Nat := (List.range' 1 (F.q - 1)).filter fun k => (F.q - 1) % k == 0
noncomputable def chkOs (F : Gf) : Bool := (divs F).all (chkO F)
def o0L (F : Gf) : List (FuncId × List Fct) := [(23, [⟨[fA F, I 1, I 0], fOld F, I 0, [], []⟩, ⟨[fA F, I 0, I 0], fOld F, I 0, [], []⟩])]
noncomputable def chkO0 (F : Gf) : Bool := (Fct.mk [fA F, I 0] (fOld F) (I 0) [] []).got ((evF Try.prog (orcOf (o0L F)) 5000).call 31 [fA F, I 0] (fSt F))
def prL (F : Gf) : List (FuncId × List Fct) := [(31, (List.range' 1 F.g).map fun b => ⟨[fA F, I b], fOld F, I (Gf_ord F b), [], []⟩)]
noncomputable def chkPr (F : Gf) : Bool := (Fct.mk [fA F] (fOld F) (I F.g) [] []).got ((evF Try.prog (orcOf (prL F)) 5000).call 33 [fA F] (fSt F))
end Go.Proofs.Ytjphnpbknaedcaa
