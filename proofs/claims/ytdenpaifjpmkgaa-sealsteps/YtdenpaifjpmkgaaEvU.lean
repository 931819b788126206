/- What a proof uses: calls with letters, contracts as facts. -/
import Derived.Test.YtdenpaifjpmkgaaEvR
namespace Go.Ev
open Go.RowKit (Below)
set_option linter.unusedSectionVars false
variable [Rho]

/-- the value that an abstract one without memory stands for -/
def AV.vl0 : AV → Value
  | .bool b => .bool b
  | .int k n => .int k n
  | .sym k e _ _ => .int k e.eval
  | .str s => .string s
  | .nilPtr => .pointer none
  | .nilSlice => .slice none 0 0
  | .nilFn => .nilFunc
  | .nilIface => .nilIface
  | _ => undef
def AV.vl1 : AV → Value
  | .agg l => .agg (l.map AV.vl0).toArray
  | v => v.vl0
def AV.vl : AV → Value
  | .tup l => .tuple (l.map AV.vl1).toArray
  | v => v.vl1

/-- its letters lie within their bounds -/
def AV.fine0 : AV → Prop
  | .sym _ e lo hi => e.ok ∧ lo ≤ e.eval ∧ e.eval ≤ hi
  | _ => True
def fineL (f : AV → Prop) : List AV → Prop
  | [] => True
  | v :: l => f v ∧ fineL f l
def AV.fine1 : AV → Prop
  | .agg l => fineL AV.fine0 l
  | v => v.fine0
def AV.fine : AV → Prop
  | .tup l => fineL AV.fine1 l
  | v => v.fine1

theorem fineL_get {f : AV → Prop} : ∀ {l : List AV}, fineL f l → ∀ (i : Nat) (p : i < l.length), f l[i]
  | [], _, i, p => by simp at p
  | v :: l, h, i, p => by
    cases i with
    | zero => exact h.1
    | succ i => exact fineL_get h.2 i (by simpa using p)

variable {P : Program} {orc : Orc} {π : Inj} {lm : List Nat}

theorem vl0_eq {v : AV} {c : Value} (h : v.lone = true) (r : VR π lm v c) : c = v.vl0 := by
  cases r <;> first | rfl | simp [AV.lone, AV.sc] at h
theorem vl0_rel {v : AV} (h : v.lone = true) (hf : v.fine0) : VR π lm v v.vl0 := by
  cases v with
  | sym k e lo hi => exact .sym hf.1 hf.2.1 hf.2.2
  | _ => first | (simp [AV.lone, AV.sc] at h; done) | constructor

theorem vl1_eq {v : AV} {c : Value} (h : v.flat1 = true) (r : VR π lm v c) : c = v.vl1 := by
  cases r with
  | agg s hl =>
    rename_i l a
    simp only [AV.flat1, List.all_eq_true] at h
    simp only [AV.vl1]
    congr 1
    apply Array.ext'
    simp only []
    apply List.ext_getElem
    · simpa using s.symm
    · intro i p q
      rw [List.getElem_map]
      exact vl0_eq (h _ (List.getElem_mem _)) (hl i (by simpa using q) p)
  | _ => first | rfl | (simp only [AV.flat1] at h; exact vl0_eq h (by constructor <;> assumption)) | (simp [AV.flat1, AV.lone, AV.sc] at h)
theorem vl1_rel {v : AV} (h : v.flat1 = true) (hf : v.fine1) : VR π lm v v.vl1 := by
  cases v with
  | agg l =>
    simp only [AV.flat1, List.all_eq_true] at h
    refine .agg (by simp) (fun i p q => ?_)
    simp only [List.getElem_map]
    exact vl0_rel (h _ (List.getElem_mem _)) (fineL_get hf i p)
  | _ => exact vl0_rel h hf

theorem vl_eq {v : AV} {c : Value} (h : v.flat = true) (r : VR π lm v c) : c = v.vl := by
  cases r with
  | tup s hl =>
    rename_i l a
    simp only [AV.flat, List.all_eq_true] at h
    simp only [AV.vl]
    congr 1
    apply Array.ext'
    simp only []
    apply List.ext_getElem
    · simpa using s.symm
    · intro i p q
      rw [List.getElem_map]
      exact vl1_eq (h _ (List.getElem_mem _)) (hl i (by simpa using q) p)
  | agg s hl => rename_i l a; exact vl1_eq (v := .agg l) h (.agg s hl)
  | _ => first | rfl | (simp [AV.flat, AV.flat1, AV.lone, AV.sc] at h)
theorem vl_rel {v : AV} (h : v.flat = true) (hf : v.fine) : VR π lm v v.vl := by
  cases v with
  | tup l =>
    simp only [AV.flat, List.all_eq_true] at h
    refine .tup (by simp) (fun i p q => ?_)
    simp only [List.getElem_map]
    exact vl1_rel (h _ (List.getElem_mem _)) (fineL_get hf i p)
  | _ => exact vl1_rel h hf

theorem vlL_rel {l : List AV} (h : l.all AV.flat1 = true) (hf : fineL AV.fine1 l) : LR π lm l (l.map AV.vl1) := by
  simp only [List.all_eq_true] at h
  exact ⟨by simp, fun i p q => by rw [List.getElem_map]; exact vl1_rel (h _ (List.getElem_mem _)) (fineL_get hf i p)⟩
theorem vlL_eq {l : List AV} {vs : Array Value} (h : l.all AV.flat1 = true) (r : LR π lm l vs.toList) : vs = (l.map AV.vl1).toArray := by
  simp only [List.all_eq_true] at h
  apply Array.ext'
  simp only []
  apply List.ext_getElem
  · simpa using r.1.symm
  · intro i p q
    rw [List.getElem_map]
    exact vl1_eq (h _ (List.getElem_mem _)) (r.2 i (by simpa using q) p)

/-- one evaluation, with what comes of it -/
def okRun (P : Program) (orc : Orc) (f : FuncId) (args : List AV) (v : AV) : Bool :=
  (args.all AV.flat1 && v.flat) && (match (evF P orc 5000).call f args st0 with | some (v', _, _) => beq2 v' v | none => false)

theorem run_open (hP : Fit P) (ho : OrcOk P orc) {f : FuncId} {args : List AV} {v : AV} (h : okRun P orc f args v = true) (hf : fineL AV.fine1 args) (w : World) :
    Calls P f (args.map AV.vl1).toArray w fun e w' => e = .returned v.vl ∧ Below w.heap.size w w' := by
  simp only [okRun, Bool.and_eq_true] at h
  obtain ⟨⟨h1, h2⟩, h3⟩ := h
  split at h3
  · rename_i v' s1 q e
    obtain rfl := beq2_ok h3
    refine (run_calls hP ho e h2 w (vlL_rel h1 hf)).mono ?_
    rintro e' w' ⟨c, k1, k2, k3⟩
    exact ⟨by rw [k1, vl_eq h2 (k2 none0 [])], k3⟩
  · cases h3

def hasBody (P : Program) (f : FuncId) : Bool := match P.funcs[f]? with | some fn => fn.body.isSome | none => false

theorem hasBody_ok {f : FuncId} (h : hasBody P f = true) : ∃ fn body, P.funcs[f]? = some fn ∧ fn.body = some body := by
  unfold hasBody at h
  split at h
  · rename_i fn hf
    obtain ⟨b, hb⟩ := Option.isSome_iff_exists.1 h
    exact ⟨fn, b, hf, hb⟩
  · cases h

/-- a contract as a fact -/
theorem fct_of {f : FuncId} {F : Fct} (hs : F.sel = []) (hn : F.new = []) (hg : F.good = true) (hv : F.v.flat = true) (hf : F.v.fine) (hb : hasBody P f = true)
    (hc : ∀ (π : Inj) (w : World) (vs : Array Value), WR w.heap.size π [] F.st w → LR π [] F.args vs.toList → Calls P f vs w fun e w' => e = .returned F.v.vl ∧ Below w.heap.size w w') : F.Holds P f := by
  refine ⟨hasBody_ok hb, hg, F.st, by rw [hs, hn]; rfl, fun w vs N π hw hl => ?_⟩
  have h1 : CallsIn Fence.wide N P f vs w _ := callsIn_wide.2 (hc π w vs hw hl)
  refine CallsIn.mono (F := Fr none) h1 ?_
  rintro e w' ⟨rfl, hbel⟩
  have hk : ∀ (r : Nat), r < w.heap.size → w'.heap[r]? = w.heap[r]? := fun r hr => hbel.block r hr
  refine ⟨F.v.vl, π, [], rfl, vl_rel hv hf, hw.kept hk, ?_⟩
  exact {
    os := hbel.os, tape := hbel.tape, output := hbel.output, size := hbel.size
    keep := fun r hr _ _ => hk r hr
    low := fun i A b n hA _ hp => by
      obtain ⟨c, fz, f2, _⟩ := hw.at hA hp
      exact hk b (lt_of_some f2)
    same := fun _ _ _ => rfl
    lkeep := fun _ L hL => by simp at hL
    lo_le := Nat.le_refl _
    nd_le := Nat.le_refl _
    le := Inj.le_refl _
    old := fun _ _ => rfl
    len := Nat.le_refl _
    liv := fun i A' _ h => ⟨A', h, rfl⟩
    new := fun i b n hi h => absurd (hw.dom _ _ h) (by omega)
    lmx := ⟨[], by simp, by simp⟩ }

/-- the same where the arguments hold no memory -/
theorem fct_flat {f : FuncId} {args : List AV} {v : AV} (hg : (Fct.mk args [] v [] []).good = true) (ha : args.all AV.flat1 = true) (hv : v.flat = true) (hf : v.fine) (hb : hasBody P f = true)
    (hc : ∀ w : World, Calls P f (args.map AV.vl1).toArray w fun e w' => e = .returned v.vl ∧ Below w.heap.size w w') : (Fct.mk args [] v [] []).Holds P f :=
  fct_of rfl rfl hg hv hf hb (fun π w vs _ hl => by rw [vlL_eq ha hl]; exact hc w)

end Go.Ev
