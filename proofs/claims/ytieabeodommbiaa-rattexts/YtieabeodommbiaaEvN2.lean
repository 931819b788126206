/- A call whose body is cut in two: what is left is evaluated where other numbers stand for the ones that are there. -/
import Derived.Test.YtieabeodommbiaaEvNo
import Derived.Test.YtieabeodommbiaaEvZ
namespace Go.Ev
open Go.RowKit (Below)
set_option linter.unusedSectionVars false

def splitSeq : Nat → Code → List Code × Code
  | 0, c => ([], c)
  | n + 1, .seq a b => (a :: (splitSeq n b).1, (splitSeq n b).2)
  | _ + 1, c => ([], c)

/-- pieces of code one behind the other, all of which end normally -/
def runList (code : Code → List AV → St → Option (AExit × List AV × St)) : List Code → List AV → St → Option (List AV × St)
  | [], ts, s => some (ts, s)
  | c :: l, ts, s => match code c ts s with
    | some (.normal, ts', s') => runList code l ts' s'
    | _ => none

section
variable [Rho] {P : Program}

/-- the evaluator is right about this code here -/
def SAt (P : Program) (c : Code) (ts : List AV) (s : St) (e : AExit) (ts' : List AV) (s' : St) : Prop :=
  ∀ B π lm w (a : Act) N ro, WR B π lm s w → B ≤ w.heap.size → LR π lm ts a.tmps.toList → (∀ L0, ro = some L0 → L0 ∈ lm) →
    c.wpIn (Fr ro) N P (Post B π lm s w a e ts' s') a w

theorem SAt.seq {x y : Code} {ts ts1 ts2 : List AV} {s s1 s2 : St} {e : AExit} (h1 : SAt P x ts s .normal ts1 s1) (h2 : SAt P y ts1 s1 e ts2 s2) : SAt P (.seq x y) ts s e ts2 s2 := by
  intro B π lm w a N ro hw hB r hro
  refine wpIn_seq ?_
  refine wpIn_mono (h1 B π lm w a N ro hw hB r hro) ?_
  rintro z a1 w1 ⟨hx, π1, lm1, k1, k2, k3, k4⟩
  obtain rfl := hx.normal
  refine wpIn_mono (h2 B π1 lm1 w1 a1 N ro k1 (Nat.le_trans hB k3.size) k2 (lm_sub k3 hro)) ?_
  intro x2 a2 w2 hp
  exact hp.trans k1 k3 k4

theorem SAt.gen {c : Code} {tsA tsB ts' : List AV} {s s' : St} {e : AExit} (h : SAt P c tsB s e ts' s') (hg : ∀ π lm vs, LR π lm tsA vs → LR π lm tsB vs) : SAt P c tsA s e ts' s' :=
  fun B π lm w a N ro hw hB r hro => h B π lm w a N ro hw hB (hg _ _ _ r) hro

theorem SAt.split {code : Code → List AV → St → Option (AExit × List AV × St)} (hc : SCode P code) {e : AExit} {ts2 : List AV} {s2 : St} : ∀ (n : Nat) (c : Code) (ts ts1 : List AV) (s s1 : St), runList code (splitSeq n c).1 ts s = some (ts1, s1) →
    SAt P (splitSeq n c).2 ts1 s1 e ts2 s2 → SAt P c ts s e ts2 s2
  | 0, c, ts, ts1, s, s1, h, h2 => by
    simp only [splitSeq, runList, Option.some.injEq, Prod.mk.injEq] at h
    obtain ⟨rfl, rfl⟩ := h
    exact h2
  | n + 1, c, ts, ts1, s, s1, h, h2 => by
    cases c with
    | seq a b =>
      simp only [splitSeq, runList] at h h2
      split at h
      · rename_i ts' s' e1
        exact SAt.seq (hc _ _ _ _ _ _ e1) (SAt.split hc n b ts' ts1 s' s1 h h2)
      · cases h
    | _ =>
      simp only [splitSeq, runList, Option.some.injEq, Prod.mk.injEq] at h
      obtain ⟨rfl, rfl⟩ := h
      exact h2

/-- a call of a function whose body is known here -/
theorem at_calls {f : FuncId} {fn : Func} {body : Code} {args : List AV} {e : AExit} {tsC : List AV} {sC : St} {v : AV} (hf : P.funcs[f]? = some fn) (hb : fn.body = some body)
    (hs : SAt P body (args ++ List.replicate (fn.ntmps - args.length) undefA) st0 e tsC sC) (he : e = .normal ∨ e = .ret) (hr : resultsA P fn tsC sC = some v) (hv : v.flat = true) (w : World) {vs : Array Value} (hargs : LR none0 [] args vs.toList) :
    Calls P f vs w fun e w' => e = .returned v.vl ∧ Below w.heap.size w w' := by
  classical
  let rc : Ev := { code := fun c ts s => if c = body ∧ ts = args ++ List.replicate (fn.ntmps - args.length) undefA ∧ s = st0 then some (e, tsC, sC) else none, call := fun _ _ _ => none, round := fun _ _ _ => none }
  have hc : SCode P rc.code := by
    intro c ts s e' ts' s' h
    simp only [rc] at h
    split at h
    · rename_i hh
      obtain ⟨rfl, rfl, rfl⟩ := hh
      simp only [Option.some.injEq, Prod.mk.injEq] at h
      obtain ⟨rfl, rfl, rfl⟩ := h
      exact hs
    · cases h
  have hcall : ∃ s1 q, evCall P rc f args st0 = some (v, s1, q) := by
    unfold evCall
    rw [hf]
    simp only [hb]
    have : rc.code body (args ++ List.replicate (fn.ntmps - args.length) undefA) { st0 with lo := st0.heap.length } = some (e, tsC, sC) := by
      simp only [rc]
      rw [if_pos ⟨trivial, trivial, rfl⟩]
    rw [this]
    rcases he with rfl | rfl <;> simp only [hr] <;> split <;> exact ⟨_, _, rfl⟩
  obtain ⟨s1, q, hcall⟩ := hcall
  have h2 := (call_sound hc f args st0 v s1 q hcall).2.2 w.heap.size none0 [] w vs 0 none (WR.start w) (Nat.le_refl _) hargs
  have h3 : CallsIn Fence.wide 0 P f vs w _ := h2
  refine (callsIn_wide.1 h3).mono ?_
  rintro e' w' ⟨c, π', lm', rfl, m1, m2, m3⟩
  refine ⟨by rw [vl_eq hv m1], m3.os, m3.tape, m3.output, m3.size, fun r hr => m3.keep r hr ?_ ?_⟩
  · intro i A n hA; simp [st0] at hA
  · simp
end

/-! the same with the fast twin -/
variable [Rho]
def runListF (code : Nat → Code → T3 → St → Option (AExit × T3 × St)) (N : Nat) : List Code → T3 → St → Option (T3 × St)
  | [], t, s => some (t, s)
  | c :: l, t, s => if codeIn N c then (match code N c t s with
    | some (.normal, t', s') => runListF code N l t' s'
    | _ => none) else none

theorem runListF_sim {F : EvF} {E : Ev} (hs : SimAll F E) {N : Nat} : ∀ {l : List Code} {t t' : T3} {ts : List AV} {s s' : St}, Rel N t ts → runListF F.code N l t s = some (t', s') → Rel N t' (toL t' N) ∧ runList E.code l ts s = some (toL t' N, s')
  | [], t, t', ts, s, s', h, hr => by
    simp only [runListF, Option.some.injEq, Prod.mk.injEq] at hr
    obtain ⟨rfl, rfl⟩ := hr
    have := h.toL
    exact ⟨by rw [this]; exact h, by rw [this]; rfl⟩
  | c :: l, t, t', ts, s, s', h, hr => by
    simp only [runListF] at hr
    split at hr
    · rename_i hc
      split at hr
      · rename_i t1 s1 e1
        obtain ⟨ts1, h1, e2⟩ := hs.code N c t ts s hc h _ _ _ e1
        obtain ⟨k1, k2⟩ := runListF_sim hs h1 hr
        exact ⟨k1, by simp only [runList]; rw [e2]; exact k2⟩
      · cases hr
    · cases hr
end Go.Ev
