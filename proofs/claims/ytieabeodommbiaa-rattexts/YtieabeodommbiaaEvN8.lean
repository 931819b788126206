/- What is known beforehand, as lists. -/
import Derived.Test.YtieabeodommbiaaEvN7
namespace Go.Ev
set_option linter.unusedSectionVars false

def cmpNo : BinOp → Nat
  | .lss => 1
  | .leq => 2
  | .gtr => 3
  | .geq => 4
  | .eql => 5
  | .neq => 6
  | _ => 0

def sameDesc : Desc → Desc → Bool
  | .cells l, .cells m => sameL l m
  | .lst k o n, .lst k' o' n' => Nat.beq k k' && (o.same o' && n.same n')
  | _, _ => false
theorem sameDesc_ok [Rho] {a b : Desc} (h : sameDesc a b = true) : a = b := by
  unfold sameDesc at h
  split at h
  · rw [sameL_ok h]
  · simp only [Bool.and_eq_true, Nat.beq_eq] at h
    rw [h.1, SX.same_ok h.2.1, SX.same_ok h.2.2]
  · cases h

/-- comparisons; what stands at addresses; stores; appends; lists of zeros; copies -/
structure KTab where
  cmps : List (BinOp × SX × SX × Bool) := []
  cells : List (Nat × EK × SX × AV) := []
  puts : List (Nat × EK × SX × AV × Nat) := []
  apps : List (EK × Desc × Desc × Nat) := []
  reps : List (EK × SX × Nat) := []
  cpys : List (EK × Nat × SX × SX × Desc × SX × Nat) := []

@[reducible] def KTab.know (t : KTab) : Know where
  cmp := fun op a b => (t.cmps.find? fun x => Nat.beq (cmpNo x.1) (cmpNo op) && (a.same x.2.1 && b.same x.2.2.1)).map (·.2.2.2)
  cell := fun k d e => (t.cells.find? fun x => Nat.beq k x.1 && (Nat.beq d.no x.2.1.no && e.same x.2.2.1)).map (·.2.2.2)
  put := fun k d e v => (t.puts.find? fun x => Nat.beq k x.1 && (Nat.beq d.no x.2.1.no && (e.same x.2.2.1 && v.same x.2.2.2.1))).map (·.2.2.2.2)
  app := fun d x y => (t.apps.find? fun z => Nat.beq d.no z.1.no && (sameDesc x z.2.1 && sameDesc y z.2.2.1)).map (·.2.2.2)
  rep := fun d n => (t.reps.find? fun x => Nat.beq d.no x.1.no && n.same x.2.1).map (·.2.2)
  cpy := fun d k o n y => (t.cpys.find? fun x => Nat.beq d.no x.1.no && (Nat.beq k x.2.1 && (o.same x.2.2.1 && (n.same x.2.2.2.1 && sameDesc y x.2.2.2.2.1)))).map (fun x => (x.2.2.2.2.2.1, x.2.2.2.2.2.2))

structure KTab.Ok (t : KTab) (R : Rho) : Prop where
  cmps : ∀ x ∈ t.cmps, cmpNo x.1 ≠ 0 ∧ (@SX.ok R x.2.1 → @SX.ok R x.2.2.1 → cmpI x.1 (@SX.eval R x.2.1) (@SX.eval R x.2.2.1) = some x.2.2.2) := by intro x hx; exact absurd hx List.not_mem_nil
  cells : ∀ x ∈ t.cells, @SX.ok R x.2.2.1 → ∃ i : Nat, @SX.eval R x.2.2.1 = ((@lskip R x.1 + i : Nat) : Int) ∧ i < @llen R x.1 ∧ ∀ π lm, @VR R π lm x.2.2.2 (@lval R x.1 x.2.1 i) := by intro x hx; exact absurd hx List.not_mem_nil
  puts : ∀ x ∈ t.puts, @SX.ok R x.2.2.1 → @AV.fine0 R x.2.2.2.1 → @lskip R x.2.2.2.2 = @lskip R x.1 ∧ @llen R x.2.2.2.2 = @llen R x.1 ∧
    ∃ i : Nat, @SX.eval R x.2.2.1 = ((@lskip R x.1 + i : Nat) : Int) ∧ i < @llen R x.1 ∧ @AV.vl0 R x.2.2.2.1 = @lval R x.2.2.2.2 x.2.1 i ∧ ∀ j, j ≠ i → j < @llen R x.1 → @lval R x.2.2.2.2 x.2.1 j = @lval R x.1 x.2.1 j := by intro x hx; exact absurd hx List.not_mem_nil
  apps : ∀ x ∈ t.apps, @descFine R x.2.1 → @descFine R x.2.2.1 → @lskip R x.2.2.2 = 0 ∧ @lvals R x.2.2.2 x.1 = @descV R x.1 x.2.1 ++ @descV R x.1 x.2.2.1 ∧ @descIn R x.2.1 ∧ @descIn R x.2.2.1 := by intro x hx; exact absurd hx List.not_mem_nil
  reps : ∀ x ∈ t.reps, @SX.ok R x.2.1 → 0 ≤ @SX.eval R x.2.1 → @lskip R x.2.2 = 0 ∧ @lvals R x.2.2 x.1 = List.replicate (@SX.eval R x.2.1).toNat (x.1.val 0) := by intro x hx; exact absurd hx List.not_mem_nil
  cpys : t.cpys = [] := by rfl

theorem cmpNo_ok {a b : BinOp} (h : cmpNo a = cmpNo b) (h0 : cmpNo a ≠ 0) : a = b := by
  cases a <;> cases b <;> first | rfl | (simp [cmpNo] at h h0)

theorem KTab.ok {t : KTab} {R : Rho} (h : t.Ok R) : @KnowOk R t.know := by
  letI := R
  letI := t.know
  refine ⟨fun {op a b r} e ha hb => ?_, fun {k d e v} h1 he => ?_, fun {k k' d e v} h1 he hv => ?_, fun {d dx dy k} h1 hx hy => ?_, fun {d n k} h1 hn h0 => ?_, fun {d k k' off len n dy} h1 => ?_⟩
  · obtain ⟨x, hx, rfl⟩ := Option.map_eq_some_iff.1 e
    have h1 := List.find?_some hx
    simp only [Bool.and_eq_true, Nat.beq_eq] at h1
    obtain ⟨g0, g⟩ := h.cmps x (List.mem_of_find?_eq_some hx)
    obtain rfl := (cmpNo_ok h1.1 g0).symm
    obtain rfl := SX.same_ok h1.2.1
    obtain rfl := SX.same_ok h1.2.2
    exact g ha hb
  · obtain ⟨x, hx, rfl⟩ := Option.map_eq_some_iff.1 h1
    have h2 := List.find?_some hx
    simp only [Bool.and_eq_true] at h2
    have g := h.cells x (List.mem_of_find?_eq_some hx)
    obtain ⟨a1, a2, a3⟩ := h2
    rw [Nat.beq_eq] at a1
    obtain rfl := a1
    obtain rfl := EK.no_ok a2
    obtain rfl := SX.same_ok a3
    exact g he
  · obtain ⟨x, hx, rfl⟩ := Option.map_eq_some_iff.1 h1
    have h2 := List.find?_some hx
    simp only [Bool.and_eq_true] at h2
    have g := h.puts x (List.mem_of_find?_eq_some hx)
    obtain ⟨a1, a2, a3, a4⟩ := h2
    rw [Nat.beq_eq] at a1
    obtain rfl := a1
    obtain rfl := EK.no_ok a2
    obtain rfl := SX.same_ok a3
    obtain rfl := AV.same_ok a4
    exact g he hv
  · obtain ⟨x, hx', rfl⟩ := Option.map_eq_some_iff.1 h1
    have h2 := List.find?_some hx'
    simp only [Bool.and_eq_true] at h2
    have g := h.apps x (List.mem_of_find?_eq_some hx')
    obtain ⟨a2, a3, a4⟩ := h2
    obtain rfl := EK.no_ok a2
    obtain rfl := sameDesc_ok a3
    obtain rfl := sameDesc_ok a4
    exact g hx hy
  · obtain ⟨x, hx', rfl⟩ := Option.map_eq_some_iff.1 h1
    have h2 := List.find?_some hx'
    simp only [Bool.and_eq_true] at h2
    have g := h.reps x (List.mem_of_find?_eq_some hx')
    obtain rfl := EK.no_ok h2.1
    obtain rfl := SX.same_ok h2.2
    exact g hn h0
  · obtain ⟨x, hx', _⟩ := Option.map_eq_some_iff.1 h1
    have := List.mem_of_find?_eq_some hx'
    rw [h.cpys] at this
    simp at this

/-- an element that is a letter -/
theorem cell_i64 {R : Rho} {k i n : Nat} {e : SX} {lo hi : Int} {kd : IntKind} (he : @SX.eval R e = ((@lskip R k + i : Nat) : Int)) (hi' : i < @llen R k) (hn : @Rho.ρ R n = @lel R k i) (h1 : lo ≤ @lel R k i) (h2 : @lel R k i ≤ hi) :
    ∃ i : Nat, @SX.eval R e = ((@lskip R k + i : Nat) : Int) ∧ i < @llen R k ∧ ∀ π lm, @VR R π lm (.sym kd (.var n lo hi) lo hi) (@lval R k (.int kd) i) := by
  letI := R
  refine ⟨i, he, hi', fun π lm => ?_⟩
  have h3 : (SX.var n lo hi).eval = lel k i := hn
  have : VR π lm (.sym kd (.var n lo hi) lo hi) (.int kd (SX.var n lo hi).eval) := .sym ⟨by rw [hn]; exact h1, by rw [hn]; exact h2⟩ (by rw [h3]; exact h1) (by rw [h3]; exact h2)
  rw [h3] at this
  exact this

end Go.Ev
