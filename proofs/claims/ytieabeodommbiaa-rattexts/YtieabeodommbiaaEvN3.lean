/- What is left of a call, evaluated where most slots and rows may be anything. -/
import Derived.Test.YtieabeodommbiaaEvN2
namespace Go.Ev
open Go.RowKit (Below)
set_option linter.unusedSectionVars false

def genCells : List AV → List AV → Bool
  | [], [] => true
  | a :: l, t :: m => (match t with
    | .top => (match a with | .agg _ => false | .bool _ => false | _ => true)
    | .bool b => (match a with | .bool c => b == c | _ => false)
    | _ => false) && genCells l m
  | _, _ => false
/-- t says less than a -/
def genOk (a t : AV) : Bool :=
  match t with
  | .top => (match a with | .agg _ => false | .bool _ => false | _ => true)
  | .bool b => (match a with | .bool c => b == c | _ => false)
  | .tup [] => (match a with | .tup [] => true | _ => false)
  | .agg l => (match a with | .agg m => genCells m l | _ => false)
  | _ => false
/-- what is kept of a slot -/
def genS : AV → AV
  | .bool b => .bool b
  | .agg l => .agg (l.map fun v => match v with | .bool b => .bool b | _ => .top)
  | _ => .top

/-- t says less than l, but for what stands at the places of keep, which is the same -/
def genL (keep : List (Nat × AV)) : Nat → List AV → List AV → Bool
  | _, [], [] => true
  | i, a :: l, t :: m => (match keep.find? fun x => Nat.beq x.1 i with
    | some x => beq2 a x.2
    | none => genOk a t) && genL keep (i + 1) l m
  | _, _, _ => false

section
variable [Rho] {π : Inj} {lm : List Nat} {P : Program}

theorem top_rel {a : AV} {c : Value} (h : (match a with | .agg _ => false | .bool _ => false | _ => true) = true) (r : VR π lm a c) : VR π lm .top c := by
  cases r <;> first | (simp at h; done) | exact .top rfl (fun b e => by cases e) | exact .top (by assumption) (by assumption)

theorem genCells_rel : ∀ {l m : List AV} {cs : List Value}, genCells l m = true → LR π lm l cs → LR π lm m cs
  | [], [], cs, _, r => r
  | a :: l, t :: m, cs, h, r => by
    obtain ⟨c, ws, rfl, r1, r2⟩ := r.uncons
    simp only [genCells, Bool.and_eq_true] at h
    refine LR.cons ?_ (genCells_rel h.2 r2)
    have h1 := h.1
    split at h1
    · exact top_rel h1 r1
    · split at h1
      · rename_i b c'
        simp only [beq_iff_eq] at h1
        subst h1; exact r1
      · cases h1
    · cases h1
  | [], _ :: _, _, h, _ => by cases h
  | _ :: _, [], _, h, _ => by cases h

theorem genOk_rel {a t : AV} {c : Value} (h : genOk a t = true) (r : VR π lm a c) : VR π lm t c := by
  unfold genOk at h
  split at h
  · exact top_rel h r
  · split at h
    · simp only [beq_iff_eq] at h
      subst h; exact r
    · cases h
  · split at h
    · exact r
    · cases h
  · split at h
    · rename_i m
      cases r with
      | agg s hl =>
        have := genCells_rel (π := π) (lm := lm) h ⟨s, hl⟩
        exact .agg this.1 this.2
    · cases h
  · cases h

/-- the new list has other values, which stand for the same, at the places of keep -/
theorem genL_rel {keep : List (Nat × AV)} {new : Nat → AV → AV} (hk : ∀ x ∈ keep, ∀ c, VR π lm x.2 c → ∀ t, VR π lm (new x.1 t) c) (hn : ∀ i t, keep.find? (fun x => Nat.beq x.1 i) = none → new i t = t) :
    ∀ {i : Nat} {l m : List AV} {cs : List Value}, genL keep i l m = true → LR π lm l cs → LR π lm ((m.zipIdx i).map fun x => new x.2 x.1) cs
  | i, [], [], cs, _, r => r
  | i, a :: l, t :: m, cs, h, r => by
    obtain ⟨c, ws, rfl, r1, r2⟩ := r.uncons
    simp only [genL, Bool.and_eq_true] at h
    rw [List.zipIdx_cons, List.map_cons]
    refine LR.cons ?_ (genL_rel hk hn h.2 r2)
    have h1 := h.1
    split at h1
    · rename_i x hx
      rw [beq2_ok h1] at r1
      have hi : x.1 = i := by have := List.find?_some hx; simpa using this
      have := hk x (List.mem_of_find?_eq_some hx) c r1 t
      rw [hi] at this
      exact this
    · rename_i hx
      rw [show new i t = t from hn i t hx]
      exact genOk_rel h1 r1
  | _, [], _ :: _, _, h, _ => by cases h
  | _, _ :: _, [], _, h, _ => by cases h

theorem SAt.gen2 {c : Code} {tsA tsB ts' : List AV} {sA sB s' : St} {e : AExit} (h : SAt P c tsB sB e ts' s') (hg : ∀ B π lm w vs, WR B π lm sA w → LR π lm tsA vs → LR π lm tsB vs ∧ WR B π lm sB w ∧ Tr π π lm lm sA sB w w) : SAt P c tsA sA e ts' s' := by
  intro B π lm w a N ro hw hB r hro
  obtain ⟨g1, g2, g3⟩ := hg B π lm w _ hw r
  refine wpIn_mono (h B π lm w a N ro g2 hB g1 hro) ?_
  intro x a2 w2 hp
  exact hp.trans g2 g3 (Mk.refl w a w)

/-- fewer rows, other letters in them; room for more -/
theorem WR.less {B : Nat} {w : World} {sA sB : St} (h : WR B π lm sA w) (hl : sA.heap.length ≤ sB.heap.length) (hp : sB.loops = sA.loops) (hn : sB.nd = sA.nd) (hlo : sB.lo = 0)
    (hb : ∀ (i : Nat) (A : ABlk), sB.heap[i]? = some (some A) → ∃ A', sA.heap[i]? = some (some A') ∧ A.elem = A'.elem ∧ A.ro = A'.ro ∧ A.cells.length = A'.cells.length ∧ (A.tl = none ∨ A.tl = A'.tl) ∧ ∀ cs, LR π lm A'.cells cs → LR π lm A.cells cs) :
    WR B π lm sB w ∧ Tr π π lm lm sA sB w w := by
  refine ⟨{
    dom := fun i x hx => Nat.lt_of_lt_of_le (h.dom i x hx) hl
    blk := fun i A hA => by
      obtain ⟨A', h1, h2, h3, h4, h6, h5⟩ := hb i A hA
      obtain ⟨b, n, c, fz, g1, g2, g3, g4, g5⟩ := h.blk i A' h1
      exact ⟨b, n, c, fz, g1, g2, g3, fun hr => by rw [h2]; exact g4 (by rw [← h3]; exact hr), by rw [h4]; exact h5 _ g5.1, fun k d hk => by
        rcases h6 with h6 | h6
        · rw [h6] at hk; cases hk
        · exact g5.2 k d (by rw [← h6]; exact hk)⟩
    inj := fun i j A A' b n m h1 h2 h3 => by
      obtain ⟨A1, k1, _, k3, _⟩ := hb i A h1
      obtain ⟨A2, l1, _⟩ := hb j A' h2
      exact h.inj i j A1 A2 b n m k1 l1 (by rw [← k3]; exact h3)
    lsz := by rw [hp]; exact h.lsz
    linj := h.linj
    loop := fun l r hr => h.loop l r (by rw [← hp]; exact hr) }, {
    os := rfl, tape := rfl, output := rfl, size := Nat.le_refl _
    keep := fun _ _ _ _ => rfl
    low := fun _ _ _ _ _ _ _ => rfl
    same := fun i _ hi => by rw [hlo] at hi; omega
    lkeep := fun _ _ _ => rfl
    lo_le := by rw [hlo]; exact Nat.zero_le _
    nd_le := by rw [hn]; exact Nat.le_refl _
    le := Inj.le_refl _
    old := fun _ _ => rfl
    len := hl
    liv := fun i A' _ hA => by
      obtain ⟨A1, k1, _, k3, _⟩ := hb i A' hA
      exact ⟨A1, k1, k3.symm⟩
    new := fun i b n hi hp => by have := h.dom i _ hp; omega
    lmx := ⟨[], by simp, by simp⟩ }⟩
end
end Go.Ev
