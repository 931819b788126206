/- The evaluator is right: what it needs of itself; lists of operations. -/
import Derived.Test.YtdenpaifjpmkgaaEvK
import Derived.LoopNIn
import Derived.RangeFuncCalls
namespace Go.Ev
open Go.RowKit (Below)
set_option linter.unusedSectionVars false
variable [Rho]

def Fr (ro : Option Nat) : Fence := { Fence.wide with round := ro }

def EX : AExit → Exit → Prop
  | .normal, .normal => True
  | .exit i, .exit j => i = j
  | .goto i, .goto j => i = j
  | .ret, .ret => True
  | _, _ => False

def mark (D : Nat) : Deferred := { target := .collected D, args := #[] }

/-- the marks that loops over functions have left -/
def Mk (w : World) (a a' : Act) (w' : World) : Prop :=
  ∃ Ds : List Nat, a'.defers = Ds.map mark ++ a.defers ∧ Ds.Nodup ∧ ∀ D, D ∈ Ds → w.heap.size ≤ D ∧ w'.heap[D]? = some (.deferred (some []))

def Post (B : Nat) (π : Inj) (lm : List Nat) (s : St) (w : World) (a : Act) (e : AExit) (ts' : List AV) (s' : St) : Exit → Act → World → Prop :=
  fun x a' w' => EX e x ∧ ∃ π' lm', WR B π' lm' s' w' ∧ LR π' lm' ts' a'.tmps.toList ∧ Tr π π' lm lm' s s' w w' ∧ Mk w a a' w'

def CallPost (B : Nat) (π : Inj) (lm : List Nat) (s : St) (w : World) (v : AV) (s' : St) : Ending → World → Prop :=
  fun e w' => ∃ c π' lm', e = .returned c ∧ VR π' lm' v c ∧ WR B π' lm' s' w' ∧ Tr π π' lm lm' s s' w w'

def RoundPost (B : Nat) (π : Inj) (lm : List Nat) (s : St) (w : World) (b : Bool) (s' : St) : Ending → World → Prop :=
  fun e w' => ∃ π' lm', e = .returned (.bool b) ∧ WR B π' lm' s' w' ∧ Tr π π' lm lm' s s' w w'

def SCall (P : Program) (call : FuncId → List AV → St → Option (AV × St × Bool)) : Prop :=
  ∀ f args s v s' q, call f args s = some (v, s', q) → (∃ fn body, P.funcs[f]? = some fn ∧ fn.body = some body) ∧ (q = true → s' = s) ∧
    ∀ B π lm w (vs : Array Value) N ro, WR B π lm s w → B ≤ w.heap.size → LR π lm args vs.toList → CallsIn (Fr ro) N P f vs w (CallPost B π lm s w v s')

def SRound (P : Program) (round : Nat → List AV → St → Option (Bool × St)) : Prop :=
  ∀ l args s b s', round l args s = some (b, s') → ∃ r : ALoop, s.loops[l]? = some r ∧ r.stat = .ready ∧ args.length = r.params.length ∧
    ∀ B π lm w (vs : Array Value) N ro (L : Nat) (fn : FuncId) (D : Nat) (tv : Array Value), WR B π lm s w → B ≤ w.heap.size → LR π lm args vs.toList → lm[l]? = some L →
      w.heap[L]? = some (.loop { state := .ready, pending := none, fn, tmps := tv, params := r.params.toArray, assign := r.assign, body := r.body, defers := D }) → LR π lm r.tmps tv.toList →
      RoundIn (Fr ro) N P L fn ((r.params.toArray.zip vs).foldl (fun tmps (t, a) => tmps.setIfInBounds t a) tv) r.assign r.body w (RoundPost B π lm s w b s')

def SCode (P : Program) (code : Code → List AV → St → Option (AExit × List AV × St)) : Prop :=
  ∀ c ts s e ts' s', code c ts s = some (e, ts', s') → ∀ B π lm w (a : Act) N ro, WR B π lm s w → B ≤ w.heap.size → LR π lm ts a.tmps.toList → (∀ L0, ro = some L0 → L0 ∈ lm) →
    c.wpIn (Fr ro) N P (Post B π lm s w a e ts' s') a w

variable {P : Program} {B : Nat} {π : Inj} {lm : List Nat} {s : St} {w : World} {ts : List AV} {a : Act}

theorem bool_slot {d : Tmp} (r : LR π lm ts a.tmps.toList) (b : Bool) : (∃ v, ts[d]? = some v ∧ v = .bool b) ↔ a.tmps[d]? = some (.bool b) := by
  constructor
  · rintro ⟨v, h, rfl⟩
    obtain ⟨c, hc, hv⟩ := r.get h
    rw [Array.getElem?_toList] at hc
    rw [hc, hv.bool_inv]
  · intro h
    cases hd : ts[d]? with
    | none =>
      have := r.none hd
      rw [Array.getElem?_toList, h] at this; cases this
    | some v =>
      obtain ⟨c, hc, hv⟩ := r.get hd
      rw [Array.getElem?_toList, h] at hc
      obtain rfl := Option.some.inj hc
      refine ⟨v, rfl, ?_⟩
      cases hv; rfl

theorem wanted_rel {ops : Array Oper} {o : Oper} (r : LR π lm ts a.tmps.toList) : Region.wanted o (yielded ops a.tmps) = wantedA ops.toList o ts := by
  unfold Region.wanted wantedA
  cases hg : o.guard with
  | none => rfl
  | some g =>
    obtain ⟨j, want⟩ := g
    simp only [Array.getElem?_toList]
    unfold yielded
    cases hd : (ops[j]?).bind (·.dst) with
    | none => simp
    | some d =>
      simp only [Option.bind_some]
      cases ht : ts[d]? with
      | none =>
        have := r.none ht
        rw [Array.getElem?_toList] at this
        rw [this]; simp
      | some v =>
        obtain ⟨c, hc, hv⟩ := r.get ht
        rw [Array.getElem?_toList] at hc
        rw [hc]
        cases hv <;> simp

theorem Mk.refl (w : World) (a : Act) (w' : World) : Mk w a a w' := ⟨[], by simp, by simp, by simp⟩

theorem Mk.same {w w' : World} {a a' : Act} (h : a'.defers = a.defers) : Mk w a a' w' := ⟨[], by simp [h], by simp, by simp⟩

theorem WR.not_img (h : WR B π lm s w) {D : Nat} {x : Option (List Deferred)} (hD : w.heap[D]? = some (.deferred x)) : (∀ i A n, s.heap[i]? = some (some A) → A.ro = false → π i ≠ some (D, n)) ∧ D ∉ lm := by
  constructor
  · intro i A n hA _ hp
    obtain ⟨c, fz, hc, _⟩ := h.at hA hp
    rw [hD] at hc; cases hc
  · intro hm
    obtain ⟨l, hl, rfl⟩ := List.getElem_of_mem hm
    obtain ⟨r, hr⟩ : ∃ r, s.loops[l]? = some r := ⟨_, List.getElem?_eq_getElem (h.lsz ▸ hl)⟩
    obtain ⟨L', fn, D', ts, st, pd, h1, h2, h3⟩ := h.loop l r hr
    rw [List.getElem?_eq_getElem hl] at h1
    obtain rfl := Option.some.inj h1
    rw [hD] at h2; cases h2

theorem Mk.trans {π' : Inj} {lm' : List Nat} {s' : St} {w w1 w2 : World} {a a1 a2 : Act} (h : Mk w a a1 w1) (k : Mk w1 a1 a2 w2) (hw : WR B π lm s w1) (ht : Tr π π' lm lm' s s' w1 w2) (hsz : w.heap.size ≤ w1.heap.size) :
    Mk w a a2 w2 := by
  obtain ⟨D1, e1, n1, g1⟩ := h
  obtain ⟨D2, e2, n2, g2⟩ := k
  refine ⟨D2 ++ D1, by rw [e2, e1]; simp, ?_, ?_⟩
  · rw [List.nodup_append]
    refine ⟨n2, n1, fun x hx y hy e => ?_⟩
    subst e
    have := (g2 x hx).1
    have := lt_of_some (g1 x hy).2
    omega
  · intro D hD
    rcases List.mem_append.1 hD with hD | hD
    · exact ⟨by have := (g2 D hD).1; omega, (g2 D hD).2⟩
    · obtain ⟨k1, k2⟩ := hw.not_img (g1 D hD).2
      exact ⟨(g1 D hD).1, by rw [ht.keep D (lt_of_some (g1 D hD).2) k1 k2]; exact (g1 D hD).2⟩

theorem put_defers (a : Act) (dst : Option Tmp) (v : Value) : (a.put dst v).defers = a.defers := by cases dst <;> rfl

theorem semAt_exec {ro : Option Nat} {ρ : Operand → Value} {o : Oper} (h : ∀ c, o.op ≠ .defer c) : o.semAt ro ρ = execOp ρ o := Oper.semAt_eq ro ρ o h

/-- one operation -/
theorem one_sound {rec : Ev} (hname : ∀ (f : Nat) (fn : Func), P.funcs[f]? = some fn → fn.name ≠ "runtime.NumGoroutine") (hc : SCall P rec.call) (hr : SRound P rec.round) {o : Oper} {v : AV} {s' : St}
    (h : evOneV P rec o ts s = some (v, s')) (hw : WR B π lm s w) (hB : B ≤ w.heap.size) (r : LR π lm ts a.tmps.toList) (N : Nat) (ro : Option Nat) (K : Act → World → Prop) (Q : Exit → Act → World → Prop)
    (hK : ∀ c w' π' lm', VR π' lm' v c → WR B π' lm' s' w' → Tr π π' lm lm' s s' w w' → K (a.put o.dst c) w') :
    o.wpIn (Fr ro) N P a w K Q := by
  refine ⟨fun _ _ => trivial, ?_⟩
  unfold evOneV at h
  split at h
  · rename_i v s1 k hop
    simp only [Option.some.injEq, Prod.mk.injEq] at h
    obtain ⟨rfl, rfl⟩ := h
    obtain ⟨⟨nx, c, w', π', k1, k2, k3, k4, k5⟩, hd⟩ := evOp_val hw hB r hop
    rw [semAt_exec hd, k1]
    have hfin : K (a.put o.dst c) w' := hK _ _ π' lm k3 k4 k5
    rcases k2 with rfl | ⟨rfl, rfl⟩
    · exact hfin
    · exact hfin
  · rename_i f args hop
    split at h
    · rename_i v s1 q hcall
      simp only [Option.some.injEq, Prod.mk.injEq] at h
      obtain ⟨rfl, rfl⟩ := h
      obtain ⟨⟨fn, body, h1, h2⟩, _, h3⟩ := hc _ _ _ _ _ _ hcall
      obtain ⟨⟨vs, k1, k2⟩, hd⟩ := evOp_call r hop h1 h2 (hname f fn h1) w
      rw [semAt_exec hd, k1]
      refine ⟨fun hh => by simp [Fr, Fence.wide] at hh, (h3 B π lm w vs (N - 1) ro hw hB k2).mono ?_⟩
      rintro e w' ⟨c, π', lm', rfl, m1, m2, m3⟩
      exact hK _ _ π' lm' m1 m2 m3
    · cases h
  · rename_i l args hop
    split at h
    · rename_i b s1 hround
      simp only [Option.some.injEq, Prod.mk.injEq] at h
      obtain ⟨rfl, rfl⟩ := h
      obtain ⟨rr, h1, h2, h3, h4⟩ := hr _ _ _ _ _ hround
      obtain ⟨⟨L, fn, D, tv, st, pd, vs, k1, k2, k3, k4, k5, k6⟩, hd⟩ := evOp_round r hop hw h1 h3
      rw [semAt_exec hd, k5]
      have hst : st = .ready ∧ pd = none := by
        rw [h2] at k3
        cases st <;> cases pd <;> simp [LStat.rel] at k3 ⊢
      obtain ⟨rfl, rfl⟩ := hst
      refine ⟨fun hh => by simp [Fr, Fence.wide] at hh, (h4 B π lm w vs (N - 1) ro L fn D tv hw hB k6 k1 k2 k4).mono ?_⟩
      rintro e w' ⟨π', lm', rfl, m2, m3⟩
      exact hK _ _ π' lm' (.bool b) m2 m3
    · cases h
  · cases h

theorem ops_sound {rec : Ev} (hname : ∀ (f : Nat) (fn : Func), P.funcs[f]? = some fn → fn.name ≠ "runtime.NumGoroutine") (hc : SCall P rec.call) (hr : SRound P rec.round) (ops : Array Oper) (N : Nat) (ro : Option Nat)
    (Q : Exit → Act → World → Prop) {ts' : List AV} {s' : St} : ∀ (rest : List Oper) (k : Nat) (ts : List AV) (s : St) (π : Inj) (lm : List Nat) (w : World) (a : Act), (∀ (j : Nat), rest[j]? = ops[k + j]?) →
    evOps P rec ops.toList rest ts s = some (ts', s') → WR B π lm s w → B ≤ w.heap.size → LR π lm ts a.tmps.toList →
    (∀ a' w' π' lm', WR B π' lm' s' w' → LR π' lm' ts' a'.tmps.toList → Tr π π' lm lm' s s' w w' → a'.defers = a.defers → Q .normal a' w') →
    wpOpsIn (Fr ro) N P ops Q (List.range' k rest.length) a w := by
  intro rest
  induction rest with
  | nil =>
    intro k ts s π lm w a _ h hw _ r hQ
    simp only [evOps, Option.some.injEq, Prod.mk.injEq] at h
    obtain ⟨rfl, rfl⟩ := h
    simp only [List.length_nil, List.range'_zero, wpOpsIn]
    exact hQ a w π lm hw r (Tr.refl _ _ _ hw.dom) rfl
  | cons o rest ih =>
    intro k ts s π lm w a hops h hw hB r hQ
    have ho : ops[k]? = some o := by have := hops 0; simpa using this.symm
    have hrest : ∀ (j : Nat), rest[j]? = ops[k + 1 + j]? := fun j => by
      have := hops (j + 1)
      simp only [List.getElem?_cons_succ] at this
      rw [this]; congr 1; omega
    simp only [List.length_cons, List.range'_succ, wpOpsIn, ho]
    rw [wanted_rel r]
    simp only [evOps] at h
    split at h
    · rename_i hwant
      rw [if_pos hwant]
      split at h
      · rename_i v1 s1 hone
        refine one_sound hname hc hr hone hw hB r N ro _ Q ?_
        intro c w1 π1 lm1 k0 k1 k3
        refine ih (k + 1) _ s1 π1 lm1 w1 _ hrest h k1 (Nat.le_trans hB k3.size) (put_rel (k3.lr r) k0) ?_
        intro a2 w2 π2 lm2 m1 m2 m3 m4
        exact hQ a2 w2 π2 lm2 m1 m2 (k3.trans m3) (m4.trans (put_defers _ _ _))
      · cases h
    · rename_i hwant
      rw [if_neg hwant]
      refine ⟨fun _ _ => trivial, ih (k + 1) _ s π lm w _ hrest h hw hB (put_rel r .undef) ?_⟩
      intro a2 w2 π2 lm2 m1 m2 m3 m4
      exact hQ a2 w2 π2 lm2 m1 m2 m3 (m4.trans (put_defers _ _ _))

end Go.Ev
