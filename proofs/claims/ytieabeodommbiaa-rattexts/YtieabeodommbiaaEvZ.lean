/- Facts carried from one choice of numbers for the letters to another; expressions over numbers that are not negative. -/
import Derived.Test.YtieabeodommbiaaEvY
namespace Go.Ev
open Go.RowKit (Below)
open Go.Fl (allLt allLt_ok)
set_option linter.unusedSectionVars false

/-! ### expressions as natural numbers -/
noncomputable def SX.evN (r : Nat → Nat) (e : SX) : Nat :=
  SX.rec (fun n => n.toNat) (fun i _ _ => r i) (fun o _ _ a b => match o with | .add => Nat.add a b | .mul => Nat.mul a b | .quo => Nat.div a b | .rem => Nat.mod a b | .sub => 0) (fun _ _ _ _ _ _ => 0) (fun i => r i) e
noncomputable def SX.natOk (e : SX) : Bool :=
  SX.rec (fun n => match n with | .ofNat _ => true | _ => false) (fun _ _ _ => true) (fun o _ _ a b => match o with | .sub => false | _ => bif a then b else false) (fun _ _ _ _ _ _ => false) (fun _ => true) e

/-- letters that stand for numbers that are not negative -/
@[reducible] def rhoN (r : Nat → Nat) : Rho := ⟨fun i => (r i : Int)⟩

theorem bif_and {x y : Bool} (h : (bif x then y else false) = true) : x = true ∧ y = true := by cases x; cases h; exact ⟨rfl, h⟩

theorem SX.evN_ok (r : Nat → Nat) {e : SX} (h : e.natOk = true) : @SX.eval (rhoN r) e = (e.evN r : Int) := by
  letI := rhoN r
  induction e with
  | lit n =>
    cases n with
    | ofNat n => rfl
    | negSucc n => cases h
  | var i lo hi => rfl
  | bin o a b iha ihb =>
    cases o with
    | sub => cases h
    | add => have := bif_and (x := a.natOk) (y := b.natOk) h; show @SX.eval (rhoN r) a + @SX.eval (rhoN r) b = _; rw [iha this.1, ihb this.2]; rfl
    | mul => have := bif_and (x := a.natOk) (y := b.natOk) h; show @SX.eval (rhoN r) a * @SX.eval (rhoN r) b = _; rw [iha this.1, ihb this.2]; rfl
    | quo => have := bif_and (x := a.natOk) (y := b.natOk) h; show (@SX.eval (rhoN r) a).tdiv (@SX.eval (rhoN r) b) = _; rw [iha this.1, ihb this.2]; rfl
    | rem => have := bif_and (x := a.natOk) (y := b.natOk) h; show (@SX.eval (rhoN r) a).tmod (@SX.eval (rhoN r) b) = _; rw [iha this.1, ihb this.2]; rfl
  | wop op k a b => cases h
  | free i => rfl

/-! ### other numbers for the letters -/
theorem sc_swap {R1 R2 : Rho} {π : Inj} {lm : List Nat} {v : AV} {c : Value} (h : v.sc.isSome = true) (r : @VR R1 π lm v c) : @VR R2 π lm v c := by
  cases r <;> first | (simp [AV.sc] at h; done) | constructor

/-- without letters -/
def AV.ns0 : AV → Bool
  | .slice _ _ _ _ _ _ => true
  | .ptr _ _ => true
  | v => v.sc.isSome
def AV.ns1 : AV → Bool
  | .agg l => l.all AV.ns0
  | v => v.ns0
theorem ns0_swap {R1 R2 : Rho} {π : Inj} {lm : List Nat} {v : AV} {c : Value} (h : v.ns0 = true) (r : @VR R1 π lm v c) : @VR R2 π lm v c := by
  cases r <;> first | (simp [AV.ns0, AV.sc] at h; done) | (constructor; done) | (constructor <;> assumption)
theorem ns1_swap {R1 R2 : Rho} {π : Inj} {lm : List Nat} {v : AV} {c : Value} (h : v.ns1 = true) (r : @VR R1 π lm v c) : @VR R2 π lm v c := by
  cases r with
  | agg s hl =>
    simp only [AV.ns1, List.all_eq_true] at h
    exact @VR.agg R2 π lm _ _ s (fun i p q => ns0_swap (h _ (List.getElem_mem p)) (hl i p q))
  | _ => first | (simp [AV.ns1, AV.ns0, AV.sc] at h; done) | (constructor; done) | (constructor <;> assumption)

theorem WR.swap {R1 R2 : Rho} {B : Nat} {π : Inj} {s : St} {w : World} (hl : s.loops = []) (hc : ∀ (i : Nat) (A : ABlk), s.heap[i]? = some (some A) → (∀ v ∈ A.cells, v.sc.isSome = true) ∧ A.tl = none) (h : @WR R1 B π [] s w) : @WR R2 B π [] s w := by
  refine @WR.mk R2 B π [] s w (@WR.dom R1 B π [] s w h) (fun i A hA => ?_) (@WR.inj R1 B π [] s w h) (@WR.lsz R1 B π [] s w h) (@WR.linj R1 B π [] s w h) (fun l r hr => by rw [hl] at hr; simp at hr)
  obtain ⟨b, n, c, fz, h1, h2, h3, h4, h5⟩ := @WR.blk R1 B π [] s w h i A hA
  exact ⟨b, n, c, fz, h1, h2, h3, h4, ⟨h5.1.1, fun j p q => sc_swap ((hc i A hA).1 _ (List.getElem_mem p)) (h5.1.2 j p q)⟩, @TailOk.none R2 A c (hc i A hA).2⟩

variable {P : Program}

/-- what a fact says of calls -/
theorem Fct.calls {R : Rho} {f : FuncId} {F : Fct} (h : @Fct.Holds R P f F) (hv : F.v.flat = true) {π : Inj} {w : World} {vs : Array Value} (hw : @WR R w.heap.size π [] F.st w) (hl : @LR R π [] F.args vs.toList) :
    Calls P f vs w fun e w' => e = .returned (@AV.vl R F.v) ∧ Below w.heap.size w w' := by
  obtain ⟨_, hg, s1, _, hrun⟩ := h
  have h1 := hrun w vs 0 π hw hl
  have h2 : CallsIn Fence.wide 0 P f vs w _ := h1
  refine (callsIn_wide.1 h2).mono ?_
  rintro e w' ⟨c, π', lm', rfl, m1, _, m3⟩
  simp only [Fct.good, Bool.and_eq_true, List.all_eq_true] at hg
  refine ⟨by rw [@vl_eq R π' lm' F.v c hv m1], m3.os, m3.tape, m3.output, m3.size, fun r hr => m3.keep r hr (fun i A n h1 h3 => ?_) (by simp)⟩
  simp only [Fct.st, List.getElem?_map, Option.map_eq_some_iff, Option.some.injEq] at h1
  obtain ⟨A'', hA, rfl⟩ := h1
  rw [(hg.1 _ (List.mem_of_getElem? hA)).1] at h3; cases h3

theorem Fct.turn {R1 R2 : Rho} {f : FuncId} {F' F : Fct} (h : @Fct.Holds R1 P f F') (ho : F.old = F'.old) (hp : F.old.all (fun A => A.cells.all (fun v => v.sc.isSome) && A.tl.isNone) = true)
    (ha : ∀ π vs, @LR R2 π [] F.args vs → @LR R1 π [] F'.args vs) (hv' : F'.v.flat = true) (hg : F.good = true) (hv : F.v.flat = true) (hf : @AV.fine R2 F.v) (he : @AV.vl R2 F.v = @AV.vl R1 F'.v) (hs : F.sel = []) (hn : F.new = []) : @Fct.Holds R2 P f F := by
  obtain ⟨fn, body, hb1, hb2⟩ := h.1
  refine @fct_of R2 P f F hs hn hg hv hf (by unfold hasBody; rw [hb1]; simp [hb2]) (fun π w vs hw hl => ?_)
  have hst : F.st = F'.st := by unfold Fct.st; rw [ho]
  rw [he]
  refine Fct.calls h hv' ?_ (ha _ _ hl)
  rw [← hst]
  refine @WR.swap R2 R1 _ _ _ _ rfl (fun i A hA => ?_) hw
  simp only [Fct.st, List.getElem?_map, Option.map_eq_some_iff, Option.some.injEq] at hA
  obtain ⟨A'', hA, rfl⟩ := hA
  simp only [List.all_eq_true, Bool.and_eq_true, Option.isNone_iff_eq_none] at hp
  exact hp _ (List.mem_of_getElem? hA)

/-! ### numbers -/
/-- x stands for the int n -/
structure Nu [Rho] (x : AV) (n : Int) : Prop where
  lone : x.lone = true
  vl : x.vl0 = .int .i64 n
  fine : x.fine0

section
variable [Rho] {x : AV} {n : Int}
omit [Rho] in
theorem lone_all0 {p : Nat → Bool} (h : x.lone = true) : all0 p x = true := by cases x <;> first | exact h | (simp [AV.lone, AV.sc] at h)
omit [Rho] in
theorem lone_all1 {p : Nat → Bool} (h : x.lone = true) : all1 p x = true := by cases x <;> first | exact h | (simp [AV.lone, AV.sc] at h)
omit [Rho] in
theorem lone_all2 {p : Nat → Bool} (h : x.lone = true) : all2 p x = true := by cases x <;> first | exact h | (simp [AV.lone, AV.sc] at h)
omit [Rho] in
theorem lone_flat1 (h : x.lone = true) : x.flat1 = true := by cases x <;> first | exact h | (simp [AV.lone, AV.sc] at h)
omit [Rho] in
theorem lone_flat (h : x.lone = true) : x.flat = true := by cases x <;> first | exact h | (simp [AV.lone, AV.sc] at h)
theorem lone_vl1 (h : x.lone = true) : x.vl1 = x.vl0 := by cases x <;> first | rfl | (simp [AV.lone, AV.sc] at h)
theorem lone_vl (h : x.lone = true) : x.vl = x.vl0 := by cases x <;> first | rfl | (simp [AV.lone, AV.sc] at h)
theorem lone_fine (h : x.lone = true) (hf : x.fine0) : x.fine := by cases x <;> first | exact hf | trivial | (simp [AV.lone, AV.sc] at h)
theorem lone_fine1 (h : x.lone = true) (hf : x.fine0) : x.fine1 := by cases x <;> first | exact hf | trivial | (simp [AV.lone, AV.sc] at h)

theorem Nu.int (n : Int) : Nu (.int .i64 n) n := ⟨rfl, rfl, trivial⟩
theorem Nu.var {i : Nat} {lo hi : Int} (h : Rho.ρ i = n) (h1 : lo ≤ n) (h2 : n ≤ hi) : Nu (.sym .i64 (.var i lo hi) lo hi) n :=
  ⟨rfl, by show Value.int .i64 (Rho.ρ i) = _; rw [h], by show (lo ≤ Rho.ρ i ∧ Rho.ρ i ≤ hi) ∧ lo ≤ Rho.ρ i ∧ Rho.ρ i ≤ hi; rw [h]; exact ⟨⟨h1, h2⟩, h1, h2⟩⟩
theorem Nu.rel {π : Inj} {lm : List Nat} {c : Value} (h : Nu x n) (r : VR π lm x c) : c = .int .i64 n := by rw [vl0_eq h.lone r, h.vl]
theorem Nu.rel' {π : Inj} {lm : List Nat} (h : Nu x n) : VR π lm x (.int .i64 n) := by have := vl0_rel (π := π) (lm := lm) h.lone h.fine; rwa [h.vl] at this
end

theorem Fct.holds' {R : Rho} [Know] [KnowOk] {P : Program} {orc : Orc} (hP : Fit P) (ho : @OrcOk R P orc) {n : Nat} {f : FuncId} {args : List AV} {old : List ABlk} {v : AV} {s1 : St} {q : Bool} (hg : (Fct.mk args old v [] []).good = true)
    (h : (evF P orc n).call f args { heap := old.map some, lo := 0, loops := [], nd := 0 } = some (v, s1, q)) : @Fct.Holds R P f ⟨args, old, v, [], []⟩ := by
  have h1 := (evF_sim P orc n).call _ _ _ _ h
  obtain ⟨k1, _, _, _⟩ := ev_sound ho hP.mix hP.name n
  obtain ⟨g1, _, g2⟩ := k1 _ _ _ _ _ _ h1
  exact ⟨g1, hg, s1, rfl, fun w vs N π hw hl => g2 _ π [] w vs N none hw (Nat.le_refl _) hl⟩

/-- the numbers of two letters -/
def r2 (a b : Nat) : Nat → Nat
  | 0 => a
  | _ => b

/-- v is f's value, for the letters 0 and 1 within bounds -/
noncomputable def numOk (v : AV) (la ha lb hb : Nat) (f : Nat → Nat → Nat) : Bool :=
  match v with
  | .sym .i64 e _ _ => (bif SX.natOk e then allLt (ha + 1 - la) fun i => allLt (hb + 1 - lb) fun j => Nat.beq (SX.evN (r2 (Nat.add la i) (Nat.add lb j)) e) (f (Nat.add la i) (Nat.add lb j)) else false)
  | .int .i64 n => (match n with
    | .ofNat n => allLt (ha + 1 - la) fun i => allLt (hb + 1 - lb) fun j => Nat.beq n (f (Nat.add la i) (Nat.add lb j))
    | _ => false)
  | _ => false

theorem numOk_ok {v : AV} {la ha lb hb : Nat} {f : Nat → Nat → Nat} (h : numOk v la ha lb hb f = true) {a b : Nat} (h1 : la ≤ a) (h2 : a ≤ ha) (h3 : lb ≤ b) (h4 : b ≤ hb) :
    v.lone = true ∧ @AV.vl0 (rhoN (r2 a b)) v = .int .i64 (f a b : Nat) := by
  have ea : la + (a - la) = a := by omega
  have eb : lb + (b - lb) = b := by omega
  unfold numOk at h
  split at h
  · rename_i e lo hi
    have h' := bif_and h
    have := allLt_ok (allLt_ok h'.2 (a - la) (by omega)) (b - lb) (by omega)
    rw [Nat.beq_eq] at this
    simp only [Nat.add_eq, ea, eb] at this
    refine ⟨rfl, ?_⟩
    show Value.int .i64 (@SX.eval (rhoN (r2 a b)) e) = _
    rw [SX.evN_ok _ h'.1, this]
  · split at h
    · rename_i n
      have := allLt_ok (allLt_ok h (a - la) (by omega)) (b - lb) (by omega)
      rw [Nat.beq_eq] at this
      simp only [Nat.add_eq, ea, eb] at this
      exact ⟨rfl, by show Value.int .i64 (Int.ofNat n) = _; rw [this]; rfl⟩
    · cases h
  · cases h

end Go.Ev
