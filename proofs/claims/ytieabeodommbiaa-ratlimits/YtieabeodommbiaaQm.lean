/- RatLimits, evaluated: the powers of 2, and which results fit. -/
import Derived.Test.YtieabeodommbiaaQh
namespace Go.Proofs.Ytieabeodommbiaa
open Go.Ev

/-- the numerator and the denominator of a power of 2 -/
def pwN (n : Int) : Nat := if n < 0 then 1 else 2 ^ n.toNat
def pwD (n : Int) : Nat := if n < 0 then 2 ^ (-n).toNat else 1
def pw (n : Int) : Rat := mkRat (pwN n) (pwD n)
def r125 : List Int := (List.range 125).map fun i => Int.ofNat i - 62
theorem mem125 {n : Int} (h : -62 ≤ n ∧ n ≤ 62) : n ∈ r125 := by
  unfold r125
  rw [List.mem_map]
  exact ⟨(n + 62).toNat, by rw [List.mem_range]; omega, by simp only [Int.ofNat_eq_natCast]; omega⟩

/-- which results fit -/
def fitM (a b : Int) : Bool := decide (-62 ≤ a + b) && decide (a + b ≤ 62)
def fitD (a b : Int) : Bool := decide (-62 ≤ a - b) && decide (a - b ≤ 62)
def fitS (a b : Int) : Bool := if a = b then decide (a ≤ 61) else decide (max a b ≤ 61) && decide (max a b - min (min a b) 0 ≤ 61)
def okB (q : Rat) : Bool := Nat.ble q.num.natAbs 4611686018427387904 && Nat.ble q.den 4611686018427387904
theorem okB_iff (q : Rat) : okB q = true ↔ okQ q := by
  unfold okB okQ
  rw [Bool.and_eq_true, Nat.ble_eq, Nat.ble_eq]
theorem okB_eq (q : Rat) : okB q = decide (okQ q) := by
  by_cases h : okQ q
  · rw [decide_eq_true h]; exact (okB_iff q).2 h
  · rw [decide_eq_false h]
    cases hb : okB q with
    | false => rfl
    | true => exact absurd ((okB_iff q).1 hb) h
def sameQ (p q : Rat) : Bool := decide (p.num = q.num) && Nat.beq p.den q.den
theorem sameQ_ok {p q : Rat} (h : sameQ p q = true) : p = q := by
  simp only [sameQ, Bool.and_eq_true, decide_eq_true_eq, Nat.beq_eq] at h
  exact Rat.ext h.1 h.2
def pairOk (a b : Int) : Bool :=
  (okB (pw a * pw b) == fitM a b) && ((okB (pw a / pw b) == fitD a b) && ((okB (pw a + pw b) == fitS a b) && ((!fitM a b || sameQ (pw a * pw b) (pw (a + b))) && (!fitD a b || sameQ (pw a / pw b) (pw (a - b))))))
theorem pairs_ok : (r125.all fun a => r125.all fun b => pairOk a b) = true := by kernel_rfl

theorem pair_ok {a b : Int} (ha : -62 ≤ a ∧ a ≤ 62) (hb : -62 ≤ b ∧ b ≤ 62) :
    fitM a b = decide (okQ (pw a * pw b)) ∧ fitD a b = decide (okQ (pw a / pw b)) ∧ fitS a b = decide (okQ (pw a + pw b)) ∧ (fitM a b = true → pw a * pw b = pw (a + b)) ∧ (fitD a b = true → pw a / pw b = pw (a - b)) := by
  have h := List.all_eq_true.1 (List.all_eq_true.1 pairs_ok a (mem125 ha)) b (mem125 hb)
  simp only [pairOk, Bool.and_eq_true, beq_iff_eq, Bool.or_eq_true, Bool.not_eq_true', okB_eq] at h
  obtain ⟨h1, h2, h3, h4, h5⟩ := h
  exact ⟨h1.symm, h2.symm, h3.symm, fun e => sameQ_ok (h4.resolve_left (by rw [e]; simp)), fun e => sameQ_ok (h5.resolve_left (by rw [e]; simp))⟩

/-- a power of 2 as the program has it -/
def cP (n : Int) : AV := .agg [.int .i64 (pwN n : Nat), .int .i64 (pwD n : Nat)]
def pwOk (n : Int) : Bool := okB (pw n) && (decide ((pw n).num = (pwN n : Nat)) && (Nat.beq (pw n).den (pwD n) && (!decide ((pw n).num = 0))))
theorem pws_ok : r125.all pwOk = true := by kernel_rfl
theorem power_run : (r125.all fun n => okRun Try.prog (orcOf []) 36 [.int .i64 n] (cP n)) = true := by kernel_rfl
theorem body36 : hasBody Try.prog 36 = true := by kernel_rfl
end Go.Proofs.Ytieabeodommbiaa
