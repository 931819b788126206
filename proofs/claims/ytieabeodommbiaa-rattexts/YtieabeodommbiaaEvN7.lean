/- A loop as data: its templates, what is to be proved of its rounds; one check by the kernel. -/
import Derived.Test.YtieabeodommbiaaEvN6
namespace Go.Ev
open Go.RowKit (Below)
set_option linter.unusedSectionVars false

def sameOb (a b : Ob) : Bool := a.1.same b.1 && (a.2.1.same b.2.1 && (decide (a.2.2.1 = b.2.2.1) && decide (a.2.2.2 = b.2.2.2)))
def sameLo (a b : Lo) : Bool := Nat.beq a.1 b.1 && (Nat.beq a.2.1 b.2.1 && Nat.beq a.2.2.no b.2.2.no)
def within {α : Type} (f : α → α → Bool) (a b : List α) : Bool := a.all fun x => b.any fun y => f x y

theorem within_ob {R1 R2 : Rho} {a b : List Ob} (h : within sameOb a b = true) (hb : Obs R1 R2 b) : Obs R1 R2 a := by
  letI := R1
  intro x hx
  simp only [within, List.all_eq_true, List.any_eq_true] at h
  obtain ⟨y, hy, hxy⟩ := h x hx
  simp only [sameOb, Bool.and_eq_true, decide_eq_true_eq] at hxy
  have := hb y hy
  rw [SX.same_ok hxy.1, SX.same_ok hxy.2.1, hxy.2.2.1, hxy.2.2.2]
  exact this
theorem within_lo {R1 R2 : Rho} {a b : List Lo} (h : within sameLo a b = true) (hb : LObs R1 R2 b) : LObs R1 R2 a := by
  letI := R1
  intro x hx
  simp only [within, List.all_eq_true, List.any_eq_true] at h
  obtain ⟨y, hy, hxy⟩ := h x hx
  simp only [sameLo, Bool.and_eq_true, Nat.beq_eq] at hxy
  have := hb y hy
  rw [hxy.1, hxy.2.1, EK.no_ok (a := x.2.2) (b := y.2.2) (by rw [Nat.beq_eq]; exact hxy.2.2)]
  exact this

/-- from slots and rows to others: what is to be proved is among ob and lo -/
def chkTurn (m : Nat) (ts : List AV) (s : St) (ts' : List AV) (s' : St) (ob : List Ob) (lo : List Lo) : Bool :=
  match turnL m ts ts', turnH m s.heap s'.heap with
  | some x, some (y, z) => within sameOb x ob && (within sameOb y ob && (within sameLo z lo && (loopsSt m s.loops && (Nat.beq s'.nd s.nd && Nat.beq s'.lo 0))))
  | _, _ => false

theorem chkTurn_ok {m : Nat} {R1 R2 : Rho} {ts ts' : List AV} {s s' : St} {ob : List Ob} {lo : List Lo} (hA : Agree m R1 R2) (h : chkTurn m ts s ts' s' ob lo = true) (hl : s'.loops = s.loops) (h1 : Obs R1 R2 ob) (h2 : LObs R1 R2 lo) : Turned R1 R2 ts s ts' s' := by
  unfold chkTurn at h
  split at h
  · rename_i x y z e1 e2
    simp only [Bool.and_eq_true, Nat.beq_eq] at h
    obtain ⟨k1, k2, k3, k4, k5, k6⟩ := h
    exact turned hA e1 e2 (within_ob k1 h1) (within_ob k2 h1) (within_lo k3 h2) hl k4 k5 k6
  · cases h

/-- letters for slots (gS), for rows' cells (gH), for rows' lists (gL) -/
structure Gens where
  gS : List (Nat × AV) := []
  gH : List (Nat × List AV) := []
  gL : List (Nat × Nat) := []

structure LoopD where
  P : Program
  orc : Orc
  /-- what is known in a round of a class -/
  kn : Nat → Know
  N : Nat
  c : Code
  m : Nat
  /-- letters, of each template -/
  g : Nat → Gens
  t0 : List AV
  s0 : St
  ob0 : List Ob
  lo0 : List Lo := []
  /-- of the templates behind the first one: the template and the class of the round that it comes of -/
  src : List (Nat × Nat)
  /-- which template follows a round of a class -/
  nx : Nat → Nat → Nat
  cls : List Nat
  /-- may a round of this class come where this template holds -/
  may : Nat → Nat → Bool := fun _ _ => true
  ob : Nat → List Ob
  lo : Nat → List Lo := fun _ => []
  /-- the last round's class, by template -/
  lst : Nat → Nat
  /-- letters for what comes out -/
  gF : Gens
  obF : List Ob
  loF : List Lo := []

namespace LoopD
variable (L : LoopD)
def run (q : Nat) (x : List AV × St) : Option (AExit × T3 × St) := (@evF (L.kn q) L.P L.orc 5000).code L.N L.c (ofL x.1) x.2
def gen (g : Gens) (x : List AV × St) : List AV × St := (genT L.m g.gS x.1, genSt L.m g.gH g.gL x.2)
def out (r : Option (AExit × T3 × St)) : List AV × St := (roT L.N r, roS r)
def more (l : List (List AV × St)) : List (Nat × Nat) → List (List AV × St)
  | [] => l
  | (p, q) :: r => more (l ++ [L.gen (L.g l.length) (L.out (L.run q (nthD ([], roS none) l p)))]) r
/-- the templates -/
def tms : List (List AV × St) := L.more [L.gen (L.g 0) (L.t0, L.s0)] L.src
def tm (i : Nat) : List AV × St := nthD ([], roS none) L.tms i
def isN (r : Option (AExit × T3 × St)) : Bool := match r with | some (.normal, _, _) => true | _ => false
def isX (r : Option (AExit × T3 × St)) : Bool := match r with | some (.exit _, _, _) => true | some (.ret, _, _) => true | _ => false
/-- the last round, and what comes out -/
def fin (i : Nat) : Option (AExit × T3 × St) := L.run (L.lst i) (L.tm i)
def res (i : Nat) : List AV × St := L.gen L.gF (L.out (L.fin i))
def chkT (x y : List AV × St) (ob : List Ob) (lo : List Lo) : Bool := chkTurn L.m x.1 x.2 y.1 y.2 ob lo
def idx : List Nat := List.range (L.src.length + 1)
def chk : Bool :=
  Nat.ble L.N 512 && (codeIn L.N L.c && (Nat.beq L.t0.length L.N && (L.chkT (L.t0, L.s0) (L.tm 0) L.ob0 L.lo0 &&
    (L.idx.all (fun i => L.cls.all fun q => !(L.may i q) || (Nat.ble (L.nx i q) L.src.length && (isN (L.run q (L.tm i)) && L.chkT (L.out (L.run q (L.tm i))) (L.tm (L.nx i q)) (L.ob q) (L.lo q)))) &&
      (L.idx.all (fun i => Nat.beq (L.tm i).1.length L.N && (isX (L.fin i) && L.chkT (L.out (L.fin i)) (L.res i) L.obF L.loF)))))))
/-- the template before round j, where q says the classes -/
def at' (q : Nat → Nat) : Nat → Nat
  | 0 => 0
  | j + 1 => L.nx (at' q j) (q j)
/-- the loops over functions stay as they are -/
def Loops : Prop := (∀ i ∈ L.idx, ∀ q ∈ L.cls, L.may i q = true → (L.tm (L.nx i q)).2.loops = (roS (L.run q (L.tm i))).loops) ∧ (L.tm 0).2.loops = L.s0.loops

theorem at_idx (q : Nat → Nat) {K : Nat} (hc : L.chk = true) (hq : ∀ j, j < K → q j ∈ L.cls ∧ L.may (L.at' q j) (q j) = true) : ∀ j, j ≤ K → L.at' q j ∈ L.idx := by
  simp only [chk, Bool.and_eq_true, List.all_eq_true] at hc
  obtain ⟨_, _, _, _, c5, _⟩ := hc
  intro j
  induction j with
  | zero => intro _; simp [at', idx]
  | succ j ih =>
    intro hj
    have h1 := c5 _ (ih (by omega)) _ (hq j (by omega)).1
    rw [(hq j (by omega)).2] at h1
    simp only [Bool.not_true, Bool.false_or, Bool.and_eq_true] at h1
    have h2 := h1.1
    rw [Nat.ble_eq] at h2
    simp only [at', idx, List.mem_range]; omega

theorem sound {K : Nat} {q : Nat → Nat} {R : Rho} {J : Nat → Rho} (hP : Fit L.P) (hc : L.chk = true) (hl : L.Loops) (ho : ∀ j, j ≤ K → @OrcOk (J j) L.P L.orc) (hq : ∀ j, j < K → q j ∈ L.cls ∧ L.may (L.at' q j) (q j) = true)
    (k1 : ∀ j, j < K → @KnowOk (J j) (L.kn (q j))) (k0 : @KnowOk (J K) (L.kn (L.lst (L.at' q K)))) (ag : ∀ j, j ≤ K → Agree L.m R (J j)) (o0 : Obs R (J 0) L.ob0) (l0 : LObs R (J 0) L.lo0)
    (oj : ∀ j, j < K → Obs (J j) (J (j + 1)) (L.ob (q j))) (lj : ∀ j, j < K → LObs (J j) (J (j + 1)) (L.lo (q j))) (oF : Obs (J K) R L.obF) (lF : LObs (J K) R L.loF) :
    SAtX L.P (.loop L.c) R L.t0 L.s0 (roE (L.fin (L.at' q K))) R (L.res (L.at' q K)).1 (L.res (L.at' q K)).2 := by
  have hidx := L.at_idx q hc hq
  simp only [chk, Bool.and_eq_true, List.all_eq_true] at hc
  obtain ⟨c1, c2, c3, c4, c5, c6⟩ := hc
  have len : ∀ i, i ∈ L.idx → (L.tm i).1.length = L.N := fun i hi => by have := (c6 i hi).1; rwa [Nat.beq_eq] at this
  have agj : ∀ j k, j ≤ K → k ≤ K → Agree L.m (J j) (J k) := fun j k hj hk =>
    ⟨fun i hi => by rw [← (ag j hj).num i hi, (ag k hk).num i hi], fun a i ha => by rw [← (ag j hj).lst a i ha, (ag k hk).lst a i ha]⟩
  have agR : Agree L.m (J K) R := ⟨fun i hi => ((ag K (Nat.le_refl _)).num i hi).symm, fun a i ha => ((ag K (Nat.le_refl _)).lst a i ha).symm⟩
  -- a round
  have step : ∀ j, j < K → SAtX L.P L.c (J j) (L.tm (L.at' q j)).1 (L.tm (L.at' q j)).2 .normal (J (j + 1)) (L.tm (L.at' q (j + 1))).1 (L.tm (L.at' q (j + 1))).2 := by
    intro j hj
    have hi := hidx j (by omega)
    have c5' := c5 _ hi _ (hq j hj).1
    rw [(hq j hj).2] at c5'
    simp only [Bool.not_true, Bool.false_or, Bool.and_eq_true] at c5'
    obtain ⟨_, d2, d3⟩ := c5'
    have hN : (L.run (q j) (L.tm (L.at' q j))).isSome = true ∧ roE (L.run (q j) (L.tm (L.at' q j))) = .normal := by
      unfold isN at d2
      split at d2
      · rename_i h; rw [h]; exact ⟨rfl, rfl⟩
      · cases d2
    have := (@run_at L.P L.orc (J j) (L.kn (q j)) (k1 j hj) hP (ho j (by omega)) L.N L.c _ _ _ c1 c2 (len _ hi) rfl hN.1).1
    unfold run at hN
    rw [hN.2] at this
    refine this.turn (chkTurn_ok (agj j (j + 1) (by omega) (by omega)) d3 (hl.1 _ hi _ (hq j hj).1 (hq j hj).2) (oj j hj) (lj j hj))
  have hiK := hidx K (Nat.le_refl _)
  obtain ⟨_, x2, x3⟩ := c6 _ hiK
  have hX : (L.fin (L.at' q K)).isSome = true ∧ roE (L.fin (L.at' q K)) ≠ .normal := by
    unfold isX at x2
    split at x2
    · rename_i h; rw [h]; exact ⟨rfl, by simp [roE]⟩
    · rename_i h; rw [h]; exact ⟨rfl, by simp [roE]⟩
    · cases x2
  have last := (@run_at L.P L.orc (J K) (L.kn (L.lst (L.at' q K))) k0 hP (ho K (Nat.le_refl _)) L.N L.c _ _ _ c1 c2 (len _ hiK) rfl hX.1).1
  have last2 := last.turn (R3 := R) (chkTurn_ok agR x3 rfl oF lF)
  have key : ∀ (d j : Nat), j + d = K → SRnX L.P L.c (d + 1) (J j) (L.tm (L.at' q j)).1 (L.tm (L.at' q j)).2 (roE (L.fin (L.at' q K))) R (L.res (L.at' q K)).1 (L.res (L.at' q K)).2 := by
    intro d
    induction d with
    | zero =>
      intro j h
      rw [Nat.add_zero] at h
      subst h
      exact SRnX.last last2 hX.2
    | succ d ih =>
      intro j h
      exact SRnX.more (step j (by omega)) (ih (j + 1) (by omega))
  have loop := (key K 0 (by omega)).loop
  exact SAtX.gen loop (chkTurn_ok (ag 0 (by omega)) c4 hl.2 o0 l0)
/-- where rounds come: template and class -/
def pairs : List (Nat × Nat) := L.idx.flatMap fun i => (L.cls.filter (L.may i)).map fun q => (i, q)
theorem loops_of (h : L.pairs.map (fun p => (L.tm (L.nx p.1 p.2)).2.loops) = L.pairs.map (fun p => (roS (L.run p.2 (L.tm p.1))).loops)) (h0 : (L.tm 0).2.loops = L.s0.loops) : L.Loops := by
  refine ⟨fun i hi q hq hm => ?_, h0⟩
  have := List.map_inj_left.1 h (i, q) (by
    simp only [pairs, List.mem_flatMap, List.mem_map, List.mem_filter]
    exact ⟨i, hi, q, ⟨hq, hm⟩, rfl⟩)
  exact this
/-- the same for all templates -/
theorem all_of {α : Type} {f : Nat → α} {v : α} (h : L.idx.map f = L.idx.map (fun _ => v)) {i : Nat} (hi : i ∈ L.idx) : f i = v := List.map_inj_left.1 h i hi
end LoopD

/-- evaluated code, as SAtX -/
theorem sat_run {P : Program} {orc : Orc} {R : Rho} [Know] [KnowOk] (hP : Fit P) (ho : OrcOk P orc) {N : Nat} {c : Code} {ts : List AV} {s : St} {r : Option (AExit × T3 × St)} (h : (evF P orc 5000).code N c (ofL ts) s = r)
    (hk : (Nat.ble N 512 && (codeIn N c && (Nat.beq ts.length N && r.isSome))) = true) : SAtX P c R ts s (roE r) R (roT N r) (roS r) := by
  simp only [Bool.and_eq_true, Nat.beq_eq] at hk
  exact (run_at hP ho hk.1 hk.2.1 hk.2.2.1 h hk.2.2.2).1

end Go.Ev
