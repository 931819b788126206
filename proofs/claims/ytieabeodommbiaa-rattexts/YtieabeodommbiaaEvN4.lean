/- Loops by induction: what the evaluator says of one round, with other numbers for the letters in the next one. -/
import Derived.Test.YtieabeodommbiaaEvN3
namespace Go.Ev
open Go.RowKit (Below)
set_option linter.unusedSectionVars false

variable {P : Program}

/-- the evaluator is right about this code here; behind it the letters stand for other numbers -/
def SAtX (P : Program) (c : Code) (R1 : Rho) (ts : List AV) (s : St) (e : AExit) (R2 : Rho) (ts' : List AV) (s' : St) : Prop :=
  ∀ B π lm w (a : Act) N ro, @WR R1 B π lm s w → B ≤ w.heap.size → @LR R1 π lm ts a.tmps.toList → (∀ L0, ro = some L0 → L0 ∈ lm) →
    c.wpIn (Fr ro) N P (@Post R2 B π lm s w a e ts' s') a w

/-- rounds of a loop -/
def SRnX (P : Program) (c : Code) (n : Nat) (R1 : Rho) (ts : List AV) (s : St) (e : AExit) (R2 : Rho) (ts' : List AV) (s' : St) : Prop :=
  ∀ B π lm w (a : Act) N ro, @WR R1 B π lm s w → B ≤ w.heap.size → @LR R1 π lm ts a.tmps.toList → (∀ L0, ro = some L0 → L0 ∈ lm) →
    Code.roundsIn (Fr ro) N P c (@Post R2 B π lm s w a e ts' s') n a w

theorem SAtX.of {R : Rho} {c : Code} {ts ts' : List AV} {s s' : St} {e : AExit} (h : @SAt R P c ts s e ts' s') : SAtX P c R ts s e R ts' s' := h
theorem SAtX.to {R : Rho} {c : Code} {ts ts' : List AV} {s s' : St} {e : AExit} (h : SAtX P c R ts s e R ts' s') : @SAt R P c ts s e ts' s' := h

theorem Post.transX {R1 R2 : Rho} {B : Nat} {π : Inj} {lm : List Nat} {s : St} {w : World} {a : Act} {π1 : Inj} {lm1 : List Nat} {s1 s' : St} {w1 : World} {a1 : Act} {e : AExit} {ts' : List AV} {x : Exit} {a' : Act} {w' : World} (hw : @WR R1 B π1 lm1 s1 w1) (t : Tr π π1 lm lm1 s s1 w w1) (m : Mk w a a1 w1)
    (h : @Post R2 B π1 lm1 s1 w1 a1 e ts' s' x a' w') : @Post R2 B π lm s w a e ts' s' x a' w' := by
  obtain ⟨h1, π', lm', h2, h3, h4, h5⟩ := h
  exact ⟨h1, π', lm', h2, h3, t.trans h4, (by letI := R1; exact Mk.trans m h5 hw h4 t.size)⟩

theorem SAtX.seq {R1 R2 R3 : Rho} {x y : Code} {ts ts1 ts2 : List AV} {s s1 s2 : St} {e : AExit} (h1 : SAtX P x R1 ts s .normal R2 ts1 s1) (h2 : SAtX P y R2 ts1 s1 e R3 ts2 s2) : SAtX P (.seq x y) R1 ts s e R3 ts2 s2 := by
  intro B π lm w a N ro hw hB r hro
  refine wpIn_seq ?_
  refine wpIn_mono (h1 B π lm w a N ro hw hB r hro) ?_
  rintro z a1 w1 ⟨hx, π1, lm1, k1, k2, k3, k4⟩
  obtain rfl := hx.normal
  refine wpIn_mono (h2 B π1 lm1 w1 a1 N ro k1 (Nat.le_trans hB k3.size) k2 (lm_sub k3 hro)) ?_
  intro x2 a2 w2 hp
  exact Post.transX k1 k3 k4 hp

/-- other letters, which stand for the same -/
theorem SAtX.gen {R1 R2 R3 : Rho} {c : Code} {tsA tsB ts' : List AV} {sA sB s' : St} {e : AExit} (h : SAtX P c R2 tsB sB e R3 ts' s')
    (hg : ∀ B π lm w vs, @WR R1 B π lm sA w → @LR R1 π lm tsA vs → @LR R2 π lm tsB vs ∧ @WR R2 B π lm sB w ∧ Tr π π lm lm sA sB w w) : SAtX P c R1 tsA sA e R3 ts' s' := by
  intro B π lm w a N ro hw hB r hro
  obtain ⟨g1, g2, g3⟩ := hg B π lm w _ hw r
  refine wpIn_mono (h B π lm w a N ro g2 hB g1 hro) ?_
  intro x a2 w2 hp
  exact Post.transX g2 g3 (Mk.refl w a w) hp

theorem SRnX.gen {R1 R2 R3 : Rho} {c : Code} {n : Nat} {tsA tsB ts' : List AV} {sA sB s' : St} {e : AExit} (h : SRnX P c n R2 tsB sB e R3 ts' s')
    (hg : ∀ B π lm w vs, @WR R1 B π lm sA w → @LR R1 π lm tsA vs → @LR R2 π lm tsB vs ∧ @WR R2 B π lm sB w ∧ Tr π π lm lm sA sB w w) : SRnX P c n R1 tsA sA e R3 ts' s' := by
  intro B π lm w a N ro hw hB r hro
  obtain ⟨g1, g2, g3⟩ := hg B π lm w _ hw r
  refine rounds_mono ?_ n a w (h B π lm w a N ro g2 hB g1 hro)
  intro x a2 w2 hp
  exact Post.transX g2 g3 (Mk.refl w a w) hp

/-- one round more -/
theorem SRnX.more {R1 R2 R3 : Rho} {c : Code} {n : Nat} {ts ts1 ts2 : List AV} {s s1 s2 : St} {e : AExit} (h1 : SAtX P c R1 ts s .normal R2 ts1 s1) (h2 : SRnX P c n R2 ts1 s1 e R3 ts2 s2) : SRnX P c (n + 1) R1 ts s e R3 ts2 s2 := by
  intro B π lm w a N ro hw hB r hro
  rw [roundsIn_succ]
  refine wpIn_mono (h1 B π lm w a N ro hw hB r hro) ?_
  rintro z a1 w1 ⟨hx, π1, lm1, k1, k2, k3, k4⟩
  obtain rfl := hx.normal
  refine rounds_mono ?_ n a1 w1 (h2 B π1 lm1 w1 a1 N ro k1 (Nat.le_trans hB k3.size) k2 (lm_sub k3 hro))
  intro x2 a2 w2 hp
  exact Post.transX k1 k3 k4 hp

/-- the last round -/
theorem SRnX.last {R1 R2 : Rho} {c : Code} {ts ts1 : List AV} {s s1 : St} {e : AExit} (h1 : SAtX P c R1 ts s e R2 ts1 s1) (he : e ≠ .normal) : SRnX P c 1 R1 ts s e R2 ts1 s1 := by
  intro B π lm w a N ro hw hB r hro
  rw [roundsIn_succ]
  refine wpIn_mono (h1 B π lm w a N ro hw hB r hro) ?_
  intro x a1 w1 hp
  cases x with
  | normal =>
    have : e = .normal := by
      have := hp.1
      cases e <;> first | rfl | exact this.elim
    exact absurd this he
  | _ => exact hp

theorem SRnX.loop {R1 R2 : Rho} {c : Code} {n : Nat} {ts ts1 : List AV} {s s1 : St} {e : AExit} (h : SRnX P c n R1 ts s e R2 ts1 s1) : SAtX P (.loop c) R1 ts s e R2 ts1 s1 :=
  fun B π lm w a N ro hw hB r hro => wpIn_loop_rounds n (h B π lm w a N ro hw hB r hro)

/-- a block that is left -/
theorem SAtX.block {R1 R2 : Rho} {c : Code} {id : Nat} {ts ts1 : List AV} {s s1 : St} (h : SAtX P c R1 ts s (.exit id) R2 ts1 s1) : SAtX P (.block id c) R1 ts s .normal R2 ts1 s1 := by
  intro B π lm w a N ro hw hB r hro
  refine wpIn_block ?_
  refine wpIn_mono (h B π lm w a N ro hw hB r hro) ?_
  rintro z a1 w1 ⟨hx, hp⟩
  cases z with
  | exit j =>
    have hj : id = j := hx
    subst hj
    simp only [Exit.inBlock, if_true]
    exact ⟨trivial, hp⟩
  | _ => exact hx.elim
/-- behind it other letters, which stand for the same -/
theorem SAtX.post {R1 R2 R3 : Rho} {c : Code} {ts tsA tsB : List AV} {s sA sB : St} {e : AExit} (h : SAtX P c R1 ts s e R2 tsA sA)
    (hg : ∀ B π lm w vs, @WR R2 B π lm sA w → @LR R2 π lm tsA vs → @LR R3 π lm tsB vs ∧ @WR R3 B π lm sB w ∧ Tr π π lm lm sA sB w w) : SAtX P c R1 ts s e R3 tsB sB := by
  intro B π lm w a N ro hw hB r hro
  refine wpIn_mono (h B π lm w a N ro hw hB r hro) ?_
  rintro x a1 w1 ⟨hx, π', lm', k1, k2, k3, k4⟩
  obtain ⟨g1, g2, g3⟩ := hg B π' lm' w1 _ k1 k2
  exact ⟨hx, π', lm', g2, g1, k3.trans g3, k4⟩

/-- n rounds and the last one: J j: the letters before round j -/
theorem rounds_of {c : Code} {J : Nat → Rho} {RE : Rho} {tsL : Nat → List AV} {sL s2 : St} {ts2 : List AV} {e : AExit} {K : Nat}
    (step : ∀ j, j < K → SAtX P c (J j) (tsL j) sL .normal (J (j + 1)) (tsL (j + 1)) sL) (last : SAtX P c (J K) (tsL K) sL e RE ts2 s2) (he : e ≠ .normal) : ∀ (d j : Nat), j + d = K → SRnX P c (d + 1) (J j) (tsL j) sL e RE ts2 s2
  | 0, j, h => by
    rw [Nat.add_zero] at h
    subst h
    exact SRnX.last last he
  | d + 1, j, h => SRnX.more (step j (by omega)) (rounds_of step last he d (j + 1) (by omega))

/-- a fact, of what is known of the body -/
theorem at_holds [Rho] {f : FuncId} {fn : Func} {body : Code} {args : List AV} {old : List ABlk} {e : AExit} {tsC : List AV} {sC : St} {v : AV} (hf : P.funcs[f]? = some fn) (hb : fn.body = some body)
    (hs : SAt P body (args ++ List.replicate (fn.ntmps - args.length) undefA) { heap := old.map some, lo := old.length, loops := [], nd := 0 } e tsC sC) (he : e = .normal ∨ e = .ret) (hr : resultsA P fn tsC sC = some v)
    (hg : (Fct.mk args old v [] []).good = true) : (Fct.mk args old v [] []).Holds P f := by
  classical
  let rc : Ev := { code := fun c ts s => if c = body ∧ ts = args ++ List.replicate (fn.ntmps - args.length) undefA ∧ s = { heap := old.map some, lo := old.length, loops := [], nd := 0 } then some (e, tsC, sC) else none, call := fun _ _ _ => none, round := fun _ _ _ => none }
  have hc : SCode P rc.code := by
    intro c ts s e' ts' s' h
    simp only [rc] at h
    split at h
    · rename_i hh
      obtain ⟨rfl, rfl, rfl⟩ := hh
      simp only [Option.some.injEq, Prod.mk.injEq] at h
      obtain ⟨rfl, rfl, rfl⟩ := h
      exact hs
    · cases h
  have hcall : ∃ s1 q, evCall P rc f args (Fct.mk args old v [] []).st = some (v, s1, q) := by
    unfold evCall
    rw [hf]
    simp only [hb]
    have : rc.code body (args ++ List.replicate (fn.ntmps - args.length) undefA) { (Fct.mk args old v [] []).st with lo := (Fct.mk args old v [] []).st.heap.length } = some (e, tsC, sC) := by
      simp only [rc, Fct.st, List.length_map]
      rw [if_pos ⟨trivial, trivial, trivial⟩]
    rw [this]
    rcases he with rfl | rfl <;> simp only [hr] <;> split <;> exact ⟨_, _, rfl⟩
  obtain ⟨s1, q, hcall⟩ := hcall
  exact ⟨⟨fn, body, hf, hb⟩, hg, s1, rfl, fun w vs N π hw hl => (call_sound hc f args _ v s1 q hcall).2.2 w.heap.size π [] w vs N none hw (Nat.le_refl _) hl⟩


/-! ### slots and rows with other letters -/
theorem genCells_relX {R1 R2 : Rho} {π : Inj} {lm : List Nat} : ∀ {l m : List AV} {cs : List Value}, genCells l m = true → @LR R1 π lm l cs → @LR R2 π lm m cs
  | [], [], cs, _, r => by rw [@LR.nil_inv R1 _ _ _ r]; exact @LR.nil R2 _ _
  | a :: l, t :: m, cs, h, r => by
    obtain ⟨c, ws, rfl, r1, r2⟩ := @LR.uncons R1 _ _ _ _ _ r
    simp only [genCells, Bool.and_eq_true] at h
    refine @LR.cons R2 _ _ _ _ _ _ ?_ (genCells_relX h.2 r2)
    have h1 := h.1
    split at h1
    · cases @top_rel R1 π lm a c h1 r1 with
      | top h hb => exact @VR.top R2 _ _ _ h hb
    · split at h1
      · rename_i b c'
        simp only [beq_iff_eq] at h1
        subst h1
        cases r1
        exact @VR.bool R2 _ _ _
      · cases h1
    · cases h1
  | [], _ :: _, _, h, _ => by cases h
  | _ :: _, [], _, h, _ => by cases h

theorem genOk_relX {R1 R2 : Rho} {π : Inj} {lm : List Nat} {a t : AV} {c : Value} (h : genOk a t = true) (r : @VR R1 π lm a c) : @VR R2 π lm t c := by
  unfold genOk at h
  split at h
  · cases @top_rel R1 π lm a c h r with
    | top h hb => exact @VR.top R2 _ _ _ h hb
  · split at h
    · simp only [beq_iff_eq] at h
      subst h
      cases r
      exact @VR.bool R2 _ _ _
    · cases h
  · split at h
    · cases r with
      | tup s hl => exact @VR.tup R2 _ _ _ _ s (fun i p => by simp at p)
    · cases h
  · split at h
    · rename_i m
      cases r with
      | agg s hl =>
        have := genCells_relX (R1 := R1) (R2 := R2) (π := π) (lm := lm) h ⟨s, hl⟩
        exact @VR.agg R2 _ _ _ _ this.1 this.2
    · cases h
  · cases h

theorem genL_relX {R1 R2 : Rho} {π : Inj} {lm : List Nat} {keep : List (Nat × AV)} {new : Nat → AV → AV} (hk : ∀ x ∈ keep, ∀ c, @VR R1 π lm x.2 c → ∀ t, @VR R2 π lm (new x.1 t) c) (hn : ∀ i t, keep.find? (fun x => Nat.beq x.1 i) = none → new i t = t) :
    ∀ {i : Nat} {l m : List AV} {cs : List Value}, genL keep i l m = true → @LR R1 π lm l cs → @LR R2 π lm ((m.zipIdx i).map fun x => new x.2 x.1) cs
  | i, [], [], cs, _, r => by rw [@LR.nil_inv R1 _ _ _ r]; exact @LR.nil R2 _ _
  | i, a :: l, t :: m, cs, h, r => by
    obtain ⟨c, ws, rfl, r1, r2⟩ := @LR.uncons R1 _ _ _ _ _ r
    simp only [genL, Bool.and_eq_true] at h
    rw [List.zipIdx_cons, List.map_cons]
    refine @LR.cons R2 _ _ _ _ _ _ ?_ (genL_relX hk hn h.2 r2)
    have h1 := h.1
    split at h1
    · rename_i x hx
      rw [beq2_ok h1] at r1
      have hi : x.1 = i := by have := List.find?_some hx; simpa using this
      have := hk x (List.mem_of_find?_eq_some hx) c r1 t
      rw [hi] at this
      exact this
    · rename_i hx
      rw [show new i t = t from hn i t hx]
      exact genOk_relX h1 r1
  | _, [], _ :: _, _, h, _ => by cases h
  | _, _ :: _, [], _, h, _ => by cases h

/-- rows without letters, whatever the letters are -/
theorem WR.swapX {R1 R2 : Rho} {B : Nat} {π : Inj} {lm : List Nat} {s : St} {w : World} (hl : s.loops = []) (hc : ∀ (i : Nat) (A : ABlk), s.heap[i]? = some (some A) → (∀ v ∈ A.cells, v.ns0 = true) ∧ ∀ c, @TailOk R1 A c → @TailOk R2 A c) (h : @WR R1 B π lm s w) : @WR R2 B π lm s w := by
  refine @WR.mk R2 B π lm s w (@WR.dom R1 B π lm s w h) (fun i A hA => ?_) (@WR.inj R1 B π lm s w h) (@WR.lsz R1 B π lm s w h) (@WR.linj R1 B π lm s w h) (fun l r hr => by rw [hl] at hr; simp at hr)
  obtain ⟨b, n, c, fz, h1, h2, h3, h4, h5⟩ := @WR.blk R1 B π lm s w h i A hA
  exact ⟨b, n, c, fz, h1, h2, h3, h4, ⟨h5.1.1, fun j p q => ns0_swap ((hc i A hA).1 _ (List.getElem_mem p)) (h5.1.2 j p q)⟩, (hc i A hA).2 _ h5.2⟩

end Go.Ev
