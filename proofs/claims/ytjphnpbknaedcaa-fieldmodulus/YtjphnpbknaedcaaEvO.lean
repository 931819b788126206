/- Regions that draw their order. -/
import Derived.Test.YtjphnpbknaedcaaEvM
import Derived.OrdersIn
namespace Go.Ev
open Go.RowKit (Below)

variable {P : Program} {B : Nat} {π : Inj} {lm : List Nat} {s : St} {w : World} {ts : List AV} {a : Act}

/-- the slots with the values of those operations put that D names, in the order of the text -/
def PD (ops : List Oper) (V : Nat → AV) (D : Nat → Bool) (ts : List AV) : Nat → List AV
  | 0 => ts
  | m + 1 => if D m then (match ops[m]? with
      | some o => put (PD ops V D ts m) o.dst (V m)
      | none => PD ops V D ts m) else PD ops V D ts m

theorem put_length (ts : List AV) (dst : Option Tmp) (v : AV) : (put ts dst v).length = ts.length := by
  cases dst <;> simp [put, setNth_eq]

theorem put_get (ts : List AV) (dst : Option Tmp) (v : AV) (t : Tmp) (h : dst ≠ some t) : (put ts dst v)[t]? = ts[t]? := by
  cases dst with
  | none => rfl
  | some d =>
    simp only [put, setNth_eq]
    rw [List.getElem?_set_ne (fun e => h (by rw [e]))]

theorem put_put_ne (ts : List AV) (d e : Option Tmp) (u v : AV) (h : ∀ t, d = some t → e ≠ some t) : put (put ts d u) e v = put (put ts e v) d u := by
  cases d with
  | none => cases e <;> rfl
  | some d =>
    cases e with
    | none => rfl
    | some e =>
      simp only [put, setNth_eq]
      exact List.set_comm _ _ (fun he => h d rfl (by rw [he]))

theorem PD_slot {ops : List Oper} {V : Nat → AV} {D1 D2 : Nat → Bool} {t : Tmp} : ∀ (n : Nat), (∀ (i : Nat) (o : Oper), i < n → ops[i]? = some o → o.dst = some t → D1 i = D2 i) →
    (PD ops V D1 ts n)[t]? = (PD ops V D2 ts n)[t]? ∧ (PD ops V D1 ts n).length = (PD ops V D2 ts n).length := by
  intro n
  induction n with
  | zero => intro _; exact ⟨rfl, rfl⟩
  | succ n ih =>
    intro h
    obtain ⟨h1, h2⟩ := ih (fun i o hi => h i o (by omega))
    cases ho : ops[n]? with
    | none =>
      simp only [PD, ho]
      constructor <;> (split <;> split <;> assumption)
    | some o =>
      simp only [PD, ho]
      by_cases hd : o.dst = some t
      · rw [h n o (by omega) ho hd]
        split
        · rw [hd]
          simp only [put, setNth_eq, List.length_set]
          refine ⟨?_, h2⟩
          rw [List.getElem?_set, List.getElem?_set, h2]
          simp
        · exact ⟨h1, h2⟩
      · constructor
        · split <;> split <;> simp only [put_get _ _ _ _ hd, h1]
        · split <;> split <;> simp only [put_length, h2]

/-- one more operation: as if it came last -/
theorem PD_more {ops : List Oper} {V : Nat → AV} {D : Nat → Bool} {j : Nat} {o : Oper} (ho : ops[j]? = some o) (hD : D j = false) : ∀ (n : Nat), j < n →
    (∀ (i : Nat) (o' : Oper), j < i → D i = true → ops[i]? = some o' → ∀ t, o'.dst = some t → o.dst ≠ some t) →
    PD ops V (fun i => if i = j then true else D i) ts n = put (PD ops V D ts n) o.dst (V j) := by
  intro n
  induction n with
  | zero => intro h; omega
  | succ n ih =>
    intro hj h
    by_cases hjn : j = n
    · subst hjn
      have same : ∀ m, m ≤ j → PD ops V (fun i => if i = j then true else D i) ts m = PD ops V D ts m := by
        intro m
        induction m with
        | zero => intro _; rfl
        | succ m ihm =>
          intro hm
          simp only [PD, ihm (by omega)]
          rw [if_neg (show ¬ m = j by omega)]
      simp only [PD, if_true, ho, hD, Bool.false_eq_true, if_false]
      rw [same j (Nat.le_refl _)]
    · have := ih (by omega) h
      simp only [PD, this]
      rw [if_neg (show ¬ n = j by omega)]
      cases hn : ops[n]? with
      | none => cases D n <;> simp
      | some o' =>
        cases hd : D n with
        | false => simp
        | true =>
          simp only [if_true]
          exact put_put_ne _ _ _ _ _ (fun t e1 e2 => h n o' (by omega) hd hn t e2 e1)

theorem PD_lt {ops : List Oper} {V : Nat → AV} {T : Nat → List AV} (h0 : T 0 = ts) {n : Nat} (hn : n = ops.length) (hT : ∀ (i : Nat) (o : Oper), i < n → ops[i]? = some o → T (i + 1) = put (T i) o.dst (V i)) :
    ∀ (j m : Nat), j ≤ n → PD ops V (fun i => decide (i < j)) ts m = T (min j m) := by
  intro j m hj
  induction m with
  | zero => simp [PD, h0]
  | succ m ih =>
    simp only [PD]
    by_cases hm : m < j
    · have ho : ∃ o, ops[m]? = some o := ⟨_, List.getElem?_eq_getElem (by omega)⟩
      obtain ⟨o, ho⟩ := ho
      simp only [hm, decide_true, if_true, ho, ih]
      rw [show min j m = m from by omega, show min j (m + 1) = m + 1 from by omega]
      exact (hT m o (by omega) ho).symm
    · simp only [hm, decide_false, Bool.false_eq_true, if_false, ih]
      congr 1; omega

/-! what an operation does hangs on its operands alone -/
theorem evals_congr {t1 t2 : List AV} : ∀ {xs : List Operand}, (∀ x ∈ xs, eval t1 x = eval t2 x) → evals t1 xs = evals t2 xs
  | [], _ => rfl
  | x :: xs, h => by
    simp only [evals]
    rw [h x (by simp), evals_congr (fun y hy => h y (by simp [hy]))]

theorem evalParts_congr {t1 t2 : List AV} : ∀ {xs : List (Nat × Operand)}, (∀ x ∈ xs.map (·.2), eval t1 x = eval t2 x) → evalParts t1 xs = evalParts t2 xs
  | [], _ => rfl
  | (i, x) :: xs, h => by
    simp only [evalParts]
    rw [h x (by simp), evalParts_congr (fun y hy => h y (by simp at hy ⊢; exact .inr hy))]

theorem evalOpt_congr {t1 t2 : List AV} {x : Option Operand} (h : ∀ y ∈ x.toList, eval t1 y = eval t2 y) : evalOpt t1 x = evalOpt t2 x := by
  cases x with
  | none => rfl
  | some x => simp only [evalOpt]; rw [h x (by simp)]

theorem pureOp_congr {t1 t2 : List AV} {o : Oper} (h : ∀ x ∈ o.op.operands, eval t1 x = eval t2 x) : pureOp P t1 o = pureOp P t2 o := by
  unfold pureOp
  have e1 : (o.op.operands.toList.all fun x => ((eval t1 x).bind AV.toV).isSome) = (o.op.operands.toList.all fun x => ((eval t2 x).bind AV.toV).isSome) := by
    rw [Bool.eq_iff_iff]
    simp only [List.all_eq_true]
    constructor <;> intro hh x hx
    · rw [← h x (by simpa using hx)]; exact hh x hx
    · rw [h x (by simpa using hx)]; exact hh x hx
  rw [e1]
  split
  · rename_i hc
    rw [execOp_congr (ρ' := fun x => ((eval t2 x).bind AV.toV).getD undef) o ?_ ?_]
    · intro cs b e
      rw [e] at hc; simp [plainOp] at hc
    · intro x hx
      rw [h x hx]
  · rfl

theorem evOp_congr {t1 t2 : List AV} {o : Oper} (h : ∀ x ∈ o.op.operands, eval t1 x = eval t2 x) (s : St) : evOp P t1 o s = evOp P t2 o s := by
  have hp := pureOp_congr (P := P) h
  unfold evOp
  split
  case h_19 => rw [hp]
  all_goals (rename_i ho; (try rw [ho] at h); (try simp only [Op.operands] at h))
  all_goals try (rw [h _ (by simp)]; done)
  · rename_i c a b
    rw [h c (by simp)]
    split
    · rename_i t _
      rw [h (if t then a else b) (by cases t <;> simp)]
    · rfl
  · rename_i x y _
    simp only [binS, binA, hp]
    rw [h x (by simp), h y (by simp)]
  · rename_i x
    simp only [convS, hp]
    rw [h x (by simp)]
  · rename_i x y
    rw [h x (by simp), h y (by simp)]
  · rename_i x i
    rw [h x (by simp), h i (by simp)]
  · rename_i parts
    rw [evalParts_congr (t1 := t1) (t2 := t2) (by simpa using h)]
  · rename_i parts
    rw [evalParts_congr (t1 := t1) (t2 := t2) (by simpa using h)]
  · rename_i x y
    rw [h x (by simp), h y (by simp)]
  · rename_i x1 x2
    rw [evals_congr (t1 := t1) (t2 := t2) (xs := x1.toList) (fun x hx => h x (by simp at hx; simp [hx])), evals_congr (t1 := t1) (t2 := t2) (xs := x2.toList) (fun x hx => h x (by simp at hx; simp [hx]))]
  · rename_i x lo hi mx
    rw [h x (by simp), evalOpt_congr (t1 := t1) (t2 := t2) (x := lo) (fun y hy => h y (by simp at hy; simp [hy])), evalOpt_congr (t1 := t1) (t2 := t2) (x := hi) (fun y hy => h y (by simp at hy; simp [hy])), hp]
  · rename_i c
    simp only [Call.operands] at h
    rw [evals_congr (t1 := t1) (t2 := t2) (xs := c.args.toList) (fun x hx => h x (by simp at hx; simp [hx])), hp]
    split
    · rfl
    · rename_i f hf
      rw [h f (by simp [hf])]
    · rfl

theorem wanted_congr {ops : Array Oper} {o : Oper} {t1 t2 : List AV} (h : ∀ t ∈ o.looksAt ops, t1[t]? = t2[t]?) : wantedA ops.toList o t1 = wantedA ops.toList o t2 := by
  unfold wantedA
  cases hg : o.guard with
  | none => rfl
  | some g =>
    obtain ⟨j, want⟩ := g
    simp only [Array.getElem?_toList]
    cases hd : (ops[j]?).bind (·.dst) with
    | none => rfl
    | some d =>
      simp only []
      rw [h d (by simp [Oper.looksAt, hg, hd])]

theorem eval_slot {t1 t2 : List AV} {x : Operand} (h : ∀ t, x = .tmp t → t1[t]? = t2[t]?) : eval t1 x = eval t2 x := by
  cases x with
  | tmp t => simp only [eval, nthD_eq, h t rfl]
  | _ => rfl

/-- surely without memory: whatever the state -/
theorem evOp_pureS {o : Oper} {R : ORes} (hp : pureS o.op = true) (h : evOp P ts o s = some R) : ∃ v, R = .val v s 0 ∧ ∀ s2, evOp P ts o s2 = some (.val v s2 0) := by
  have hm : ∀ {x : Option AV}, x.map (ORes.val · s 0) = some R → ∃ v, R = .val v s 0 ∧ ∀ s2 : St, x.map (ORes.val · s2 0) = some (.val v s2 0) := fun {x} h => by
    cases x with
    | none => cases h
    | some u => simp only [Option.map_some, Option.some.injEq] at h; exact ⟨u, h.symm, fun s2 => rfl⟩
  cases ho : o.op with
  | move x => simp only [evOp, ho] at h ⊢; exact hm h
  | assign x => simp only [evOp, ho] at h ⊢; exact hm h
  | pick c x y =>
    simp only [evOp, ho] at h ⊢
    split at h
    · exact hm h
    · cases h
  | binOp op xt x y yt => simp only [evOp, ho] at h ⊢; exact hm h
  | unOp op xt x => simp only [evOp, ho] at h ⊢; exact hm h
  | convert src dst x => simp only [evOp, ho] at h ⊢; exact hm h
  | field xt x f => simp only [evOp, ho] at h ⊢; exact hm h
  | index xt x i => simp only [evOp, ho] at h ⊢; exact hm h
  | fieldAddr t x f =>
    simp only [evOp, ho] at h ⊢
    split at h
    · rename_i hu hx
      try simp only [hu, hx]
      split at h
      · rename_i hf
        try simp only [hf]
        split at h
        · rename_i n hn
          try simp only [hn]
          split at h
          · cases h
          · rename_i h0
            simp only [h0, if_false]
            simp only [Option.some.injEq] at h
            exact ⟨_, h.symm, fun _ => rfl⟩
        · cases h
      · cases h
    · cases h
  | indexAddr t x i =>
    simp only [evOp, ho] at h ⊢
    split at h
    · rename_i hu hx hi
      try simp only [hu, hx, hi]
      split at h
      · rename_i hn
        try simp only [hn]
        split at h
        · rename_i hr
          simp only [hr, and_self, if_true]
          simp only [Option.some.injEq] at h
          exact ⟨_, h.symm, fun _ => rfl⟩
        · cases h
      · cases h
    · rename_i hu hx hi
      try simp only [hu, hx, hi]
      split at h
      · rename_i hn
        try simp only [hn]
        split at h
        · rename_i hr
          simp only [hr, and_self, if_true]
          simp only [Option.some.injEq] at h
          exact ⟨_, h.symm, fun _ => rfl⟩
        · cases h
      · cases h
    · cases h
  | extract x i =>
    simp only [evOp, ho] at h ⊢
    split at h
    · rename_i hx
      try simp only [hx]
      split at h
      · rename_i hv
        try simp only [hv]
        simp only [Option.some.injEq] at h
        exact ⟨_, h.symm, fun _ => rfl⟩
      · cases h
    · cases h
  | makeFunc fn x1 x2 =>
    simp only [evOp, ho] at h ⊢
    split at h
    · rename_i h1 h2
      try simp only [h1, h2]
      simp only [Option.some.injEq] at h
      exact ⟨_, h.symm, fun _ => rfl⟩
    · cases h
  | slice t x lo hi mx =>
    simp only [evOp, ho] at h ⊢
    split at h
    · rename_i h1 h2 h3
      try simp only [h1, h2, h3]
      split at h
      · rename_i hr
        try simp only [hr]
        simp only [Option.some.injEq] at h
        exact ⟨_, h.symm, fun _ => rfl⟩
      · rename_i hr
        try simp only [hr]
        exact hm h
    · cases h
  | build t parts =>
    simp only [evOp, ho] at h ⊢
    split at h
    · rename_i h1
      try simp only [h1]
      exact hm h
    · cases h
  | call c =>
    rw [ho] at hp
    simp only [pureS] at hp
    split at hp
    · rename_i hc
      simp only [evOp, ho, hc] at h ⊢
      split at h
      · rename_i args hargs
        try simp only [hargs]
        have hl : ∀ s1 s2 : St, (∃ v, builtinA P s1 .len c.argTypes.toList args = some (v, s1, 0) ∧ builtinA P s2 .len c.argTypes.toList args = some (v, s2, 0)) ∨
            (builtinA P s1 .len c.argTypes.toList args = none ∧ builtinA P s2 .len c.argTypes.toList args = none) := fun s1 s2 => by
          unfold builtinA
          split
          · split
            · exact .inl ⟨_, rfl, rfl⟩
            · exact .inr ⟨rfl, rfl⟩
          · rename_i hb _ ; cases hb
          · exact .inr ⟨rfl, rfl⟩
        split at h
        · rename_i v s1 k hb
          rcases hl s s with ⟨v', e1, _⟩ | ⟨e1, _⟩
          · rw [e1] at hb
            simp only [Option.some.injEq, Prod.mk.injEq] at hb
            obtain ⟨rfl, rfl, rfl⟩ := hb
            simp only [Option.some.injEq] at h
            refine ⟨v', h.symm, fun s2 => ?_⟩
            rcases hl s s2 with ⟨v'', f1, f2⟩ | ⟨f1, _⟩
            · rw [e1] at f1
              simp only [Option.some.injEq, Prod.mk.injEq] at f1
              obtain ⟨rfl, _⟩ := f1
              rw [f2]
            · rw [e1] at f1; cases f1
          · rw [e1] at hb; cases hb
        · rename_i hb
          obtain ⟨v, h1, h2⟩ := hm h
          refine ⟨v, h1, fun s2 => ?_⟩
          rcases hl s s2 with ⟨v'', f1, f2⟩ | ⟨_, f2⟩
          · rw [hb] at f1; cases f1
          · rw [f2]; exact h2 s2
      · cases h
    · cases hp
  | _ => rw [ho] at hp; simp [pureS] at hp

/-! the masks -/
theorem mask_bit {acc : List Nat} {i : Nat} : ∀ (es : List Edge) (m : Nat), (es.foldl (fun m e => if Region.binds .any e then m ||| 2 ^ e.on ||| nthD 0 acc e.on else m) m).testBit i = true →
    m.testBit i = true ∨ ∃ e ∈ es, Region.binds .any e = true ∧ (e.on = i ∨ (nthD 0 acc e.on).testBit i = true)
  | [], m, h => .inl h
  | e :: es, m, h => by
    rw [List.foldl_cons] at h
    rcases mask_bit es _ h with h1 | ⟨e', h1, h2⟩
    · split at h1
      · rename_i hb
        simp only [Nat.testBit_or, Bool.or_eq_true] at h1
        rcases h1 with (h1 | h1) | h1
        · exact .inl h1
        · refine .inr ⟨e, by simp, hb, .inl ?_⟩
          rw [Nat.testBit_two_pow] at h1
          simpa using h1
        · exact .inr ⟨e, by simp, hb, .inr h1⟩
      · exact .inl h1
    · exact .inr ⟨e', by simp [h1], h2⟩

theorem befs_get : ∀ (l : List Oper) (acc : List Nat), (∀ j, j < acc.length → (befs l acc)[j]? = acc[j]?) ∧
    (∀ (j : Nat) (o : Oper), l[j]? = some o → nthD 0 (befs l acc) (acc.length + j) = maskOf ((befs l acc).take (acc.length + j)) o.after.toList)
  | [], acc => ⟨fun _ _ => rfl, fun j o h => by simp at h⟩
  | o :: l, acc => by
    obtain ⟨h1, h2⟩ := befs_get l (acc ++ [maskOf acc o.after.toList])
    simp only [befs]
    simp only [List.length_append, List.length_singleton] at h1 h2
    have hpre : ∀ j, j < acc.length → (befs l (acc ++ [maskOf acc o.after.toList]))[j]? = acc[j]? := fun j hj => by
      rw [h1 j (by omega), List.getElem?_append_left hj]
    refine ⟨hpre, ?_⟩
    intro j o' hj
    cases j with
    | zero =>
      simp at hj
      subst hj
      rw [nthD_eq, Nat.add_zero, h1 acc.length (by omega), List.getElem?_append_right (Nat.le_refl _)]
      simp only [Nat.sub_self, List.getElem?_cons_zero, Option.getD_some]
      congr 1
      apply List.ext_getElem?
      intro i
      rw [List.getElem?_take]
      by_cases hi : i < acc.length
      · rw [if_pos hi, hpre i hi]
      · rw [if_neg hi, List.getElem?_eq_none (by omega)]
    | succ j =>
      have := h2 j o' (by simpa using hj)
      rw [show acc.length + (j + 1) = acc.length + 1 + j from by omega]
      exact this

/-- what must come before has come -/
theorem bit_listed {ops : List Oper} {L : Nat → Bool} (hcl : ∀ (j : Nat) (o : Oper), L j = true → ops[j]? = some o → ∀ e ∈ o.after.toList, Region.binds .any e = true → L e.on = true) :
    ∀ (j : Nat) (o : Oper) (i : Nat), ops[j]? = some o → (∀ e ∈ o.after.toList, Region.binds .any e = true → L e.on = true) → (nthD 0 (befs ops []) j).testBit i = true → L i = true := by
  intro j
  induction j using Nat.strongRecOn with
  | _ j ih =>
    intro o i ho he hb
    have hm := (befs_get ops []).2 j o ho
    simp only [List.length_nil, Nat.zero_add] at hm
    rw [hm] at hb
    rcases mask_bit _ _ hb with h1 | ⟨e, h1, h2, h3⟩
    · simp at h1
    · rcases h3 with rfl | h3
      · exact he e h1 h2
      · by_cases hj : e.on < j
        · have hL := he e h1 h2
          have ho' : ∃ o', ops[e.on]? = some o' := ⟨_, List.getElem?_eq_getElem (by have := (List.getElem?_eq_some_iff.1 ho).1; omega)⟩
          obtain ⟨o', ho'⟩ := ho'
          refine ih e.on hj o' i ho' (hcl _ _ hL ho') ?_
          rw [nthD_eq, List.getElem?_take, if_pos hj] at h3
          rw [nthD_eq]; exact h3
        · rw [nthD_eq, List.getElem?_take, if_neg hj] at h3
          simp at h3

theorem bit_lt {ops : List Oper} (hback : ∀ (j : Nat) (o : Oper), ops[j]? = some o → ∀ e ∈ o.after.toList, Region.binds .any e = true → e.on < j) (j : Nat) (o : Oper) (i : Nat) (ho : ops[j]? = some o)
    (hb : (nthD 0 (befs ops []) j).testBit i = true) : i < j := by
  have := bit_listed (ops := ops) (L := fun x => decide (x < j)) (fun j' o' h1 h2 e he hbi => by
    have := hback j' o' h2 e he hbi
    simp at h1 ⊢; omega) j o i ho (fun e he hbi => by simpa using hback j o ho e he hbi) hb
  simpa using this

/-- what is known of each operation's run -/
def Fact (P : Program) (rec : Ev) (ops : Array Oper) (k : Nat) (s s' : St) (T : Nat → List AV) (V : Nat → AV) (j : Nat) (o : Oper) : Prop :=
  (wantedA ops.toList o (T j) = false ∧ V j = undefA ∧ (j = k → s' = s)) ∨
  (wantedA ops.toList o (T j) = true ∧ ((j = k ∧ evOneV P rec o (T j) s = some (V j, s')) ∨ (j ≠ k ∧ quietV P rec o (T j) (if j < k then s else s') = some (V j))))

theorem draw_data {rec : Ev} {ops : Array Oper} {k : Nat} {s' : St} {ts' : List AV} : ∀ (rest : List Oper) (i : Nat) (ts : List AV) (sx : St), (∀ (j : Nat), rest[j]? = ops[i + j]?) → i + rest.length = ops.size →
    evDraw P rec ops.toList k i rest ts sx = some (ts', s') → (i ≤ k → sx = s) → (k < i → sx = s') →
    ∃ (T : Nat → List AV) (V : Nat → AV), T i = ts ∧ (∀ (j : Nat) (o : Oper), i ≤ j → ops[j]? = some o → T (j + 1) = put (T j) o.dst (V j)) ∧ T ops.size = ts' ∧
      (∀ (j : Nat) (o : Oper), i ≤ j → ops[j]? = some o → Fact P rec ops k s s' T V j o) ∧ (ops.size ≤ k → s' = s) := by
  intro rest
  induction rest with
  | nil =>
    intro i ts sx hops hlen h hs hs'
    simp only [evDraw, Option.some.injEq, Prod.mk.injEq] at h
    obtain ⟨rfl, rfl⟩ := h
    simp only [List.length_nil, Nat.add_zero] at hlen
    subst hlen
    refine ⟨fun _ => ts, fun _ => undefA, rfl, ?_, rfl, ?_, fun hk => hs hk⟩
    · intro j o hj ho
      have := (Array.getElem?_eq_some_iff.1 ho).1; omega
    · intro j o hj ho
      have := (Array.getElem?_eq_some_iff.1 ho).1; omega
  | cons o rest ih =>
    intro i ts sx hops hlen h hs hs'
    have ho : ops[i]? = some o := by have := hops 0; simpa using this.symm
    have hrest : ∀ (j : Nat), rest[j]? = ops[i + 1 + j]? := fun j => by
      have := hops (j + 1)
      simp only [List.getElem?_cons_succ] at this
      rw [this]; congr 1; omega
    have hlen' : i + 1 + rest.length = ops.size := by simp only [List.length_cons] at hlen; omega
    -- the step, whatever it is
    have step : ∀ (v : AV) (sy : St), evDraw P rec ops.toList k (i + 1) rest (put ts o.dst v) sy = some (ts', s') → (i + 1 ≤ k → sy = s) → (k < i + 1 → sy = s') →
        ((wantedA ops.toList o ts = false ∧ v = undefA ∧ (i = k → s' = s)) ∨ (wantedA ops.toList o ts = true ∧ ((i = k ∧ evOneV P rec o ts s = some (v, s')) ∨ (i ≠ k ∧ quietV P rec o ts (if i < k then s else s') = some v)))) →
        ∃ (T : Nat → List AV) (V : Nat → AV), T i = ts ∧ (∀ (j : Nat) (o : Oper), i ≤ j → ops[j]? = some o → T (j + 1) = put (T j) o.dst (V j)) ∧ T ops.size = ts' ∧
          (∀ (j : Nat) (o : Oper), i ≤ j → ops[j]? = some o → Fact P rec ops k s s' T V j o) ∧ (ops.size ≤ k → s' = s) := by
      intro v sy h1 h2 h3 h4
      obtain ⟨T, V, e1, e2, e3, e4, e5⟩ := ih (i + 1) _ sy hrest hlen' h1 h2 h3
      refine ⟨fun j => if j ≤ i then ts else T j, fun j => if j = i then v else V j, by simp, ?_, ?_, ?_, e5⟩
      · intro j o' hj ho'
        by_cases hji : j = i
        · subst hji
          rw [ho] at ho'
          obtain rfl := Option.some.inj ho'
          simp only [if_neg (show ¬ j + 1 ≤ j by omega), if_pos (Nat.le_refl j), if_true]
          exact e1
        · have := e2 j o' (by omega) ho'
          simp only [if_neg (show ¬ j + 1 ≤ i by omega), if_neg (show ¬ j ≤ i by omega), if_neg hji]
          exact this
      · simp only []
        rw [if_neg (by omega)]; exact e3
      · intro j o' hj ho'
        by_cases hji : j = i
        · subst hji
          rw [ho] at ho'
          obtain rfl := Option.some.inj ho'
          simpa [Fact] using h4
        · have := e4 j o' (by omega) ho'
          simp only [Fact, if_neg (show ¬ j ≤ i by omega), if_neg hji] at this ⊢
          exact this
    simp only [evDraw] at h
    split at h
    · rename_i hwant
      split at h
      · rename_i hik
        subst hik
        split at h
        · rename_i v sy hone
          have hsx := hs (Nat.le_refl _)
          subst hsx
          -- behind the one that writes the state is the last one
          have last : ∀ (rest : List Oper) (i' : Nat) (ts : List AV) (sy : St), i < i' → evDraw P rec ops.toList i i' rest ts sy = some (ts', s') → sy = s' := by
            intro rest
            induction rest with
            | nil => intro i' ts sy _ h; simp only [evDraw, Option.some.injEq, Prod.mk.injEq] at h; exact h.2
            | cons o rest ih2 =>
              intro i' ts sy hlt h
              simp only [evDraw] at h
              split at h
              · rw [if_neg (by omega)] at h
                split at h
                · exact ih2 _ _ _ (by omega) h
                · cases h
              · exact ih2 _ _ _ (by omega) h
          have hsy := last _ _ _ _ (by omega) h
          subst hsy
          exact step v sy h (fun hh => by omega) (fun _ => rfl) (.inr ⟨hwant, .inl ⟨rfl, hone⟩⟩)
        · cases h
      · rename_i hik
        split at h
        · rename_i v hq
          refine step v sx h (fun hh => hs (by omega)) (fun hh => hs' (by omega)) (.inr ⟨hwant, .inr ⟨hik, ?_⟩⟩)
          by_cases hlt : i < k
          · rw [if_pos hlt, ← hs (by omega)]; exact hq
          · rw [if_neg hlt, ← hs' (by omega)]; exact hq
        · cases h
    · rename_i hwant
      have hwf : wantedA ops.toList o ts = false := by simpa using hwant
      by_cases hik : i = k
      · subst hik
        have last : ∀ (rest : List Oper) (i' : Nat) (ts : List AV) (sy : St), i < i' → evDraw P rec ops.toList i i' rest ts sy = some (ts', s') → sy = s' := by
          intro rest
          induction rest with
          | nil => intro i' ts sy _ h; simp only [evDraw, Option.some.injEq, Prod.mk.injEq] at h; exact h.2
          | cons o rest ih2 =>
            intro i' ts sy hlt h
            simp only [evDraw] at h
            split at h
            · rw [if_neg (by omega)] at h
              split at h
              · exact ih2 _ _ _ (by omega) h
              · cases h
            · exact ih2 _ _ _ (by omega) h
        have hsy := last _ _ _ _ (by omega) h
        have hsx := hs (Nat.le_refl _)
        exact step undefA sx h (fun hh => by omega) (fun _ => hsy) (.inl ⟨hwf, rfl, fun _ => by rw [← hsy, hsx]⟩)
      · exact step undefA sx h (fun hh => hs (by omega)) (fun hh => hs' (by omega)) (.inl ⟨hwf, rfl, fun e => absurd e hik⟩)

/-- where an order is drawn, between two operations -/
structure DI (ops : Array Oper) (V : Nat → AV) (B : Nat) (π : Inj) (lm : List Nat) (s s' : St) (ts : List AV) (w : World) (a : Act) (k : Nat) (listed : Array Bool) (a1 : Act) (w1 : World) : Prop where
  size : listed.size = ops.size
  closed : ∀ (j : Nat) (o : Oper), listed.getD j false = true → ops.toList[j]? = some o → ∀ e ∈ o.after.toList, Region.binds .any e = true → listed.getD e.on false = true
  st : ∃ π1 lm1, LR π1 lm1 (PD ops.toList V (fun i => listed.getD i false) ts ops.size) a1.tmps.toList ∧
    ((listed.getD k false = true ∧ WR B π1 lm1 s' w1 ∧ Tr π π1 lm lm1 s s' w w1) ∨ (listed.getD k false = false ∧ WR B π1 lm1 s w1 ∧ Tr π π1 lm lm1 s s w w1))
  df : a1.defers = a.defers

def unlisted (listed : Array Bool) : Nat := listed.toList.countP (fun b => !b)

theorem getD_set (listed : Array Bool) (j i : Nat) (hj : j < listed.size) : (listed.setIfInBounds j true).getD i false = if i = j then true else listed.getD i false := by
  simp only [Array.getD_eq_getD_getElem?, Array.getElem?_setIfInBounds]
  by_cases h : j = i
  · subst h; simp [hj]
  · simp [h, Ne.symm h]

theorem unlisted_set {listed : Array Bool} {j : Nat} (hj : j < listed.size) (h : listed.getD j false = false) : unlisted (listed.setIfInBounds j true) + 1 = unlisted listed := by
  unfold unlisted
  rw [Array.toList_setIfInBounds]
  have hj' : j < listed.toList.length := by simpa using hj
  have hget : listed.toList[j] = false := by
    rw [Array.getD_eq_getD_getElem?, Array.getElem?_eq_getElem hj] at h
    simpa using h
  have key : ∀ (l : List Bool) (j : Nat) (hj : j < l.length), l[j] = false → (l.set j true).countP (fun b => !b) + 1 = l.countP (fun b => !b) := by
    intro l
    induction l with
    | nil => intro j hj; simp at hj
    | cons x l ih =>
      intro j hj hx
      cases j with
      | zero => simp at hx; subst hx; simp
      | succ j =>
        simp only [List.set_cons_succ, List.countP_cons]
        have := ih j (by simpa using hj) (by simpa using hx)
        omega
  exact key _ _ hj' hget

theorem operand_looks {ops : Array Oper} {o : Oper} {x : Operand} {t : Tmp} (hx : x ∈ o.op.operands) (ht : x = .tmp t) : t ∈ o.looksAt ops := by
  subst ht
  simp only [Oper.looksAt, List.mem_append, List.mem_filterMap]
  exact .inl ⟨.tmp t, by simpa using hx, rfl⟩

set_option maxHeartbeats 1000000 in
theorem draw_any {rec : Ev} (hname : ∀ (f : Nat) (fn : Func), P.funcs[f]? = some fn → fn.name ≠ "runtime.NumGoroutine") (hc : SCall P rec.call) (hr : SRound P rec.round) {ops : Array Oper} {k : Nat} (hok : drawOk ops k = true)
    {T : Nat → List AV} {V : Nat → AV} {ts' : List AV} {s' : St} (hT0 : T 0 = ts) (hT : ∀ (j : Nat) (o : Oper), ops[j]? = some o → T (j + 1) = put (T j) o.dst (V j)) (hTn : T ops.size = ts')
    (hF : ∀ (j : Nat) (o : Oper), ops[j]? = some o → Fact P rec ops k s s' T V j o) (hk : ops.size ≤ k → s' = s) (hB : B ≤ w.heap.size) (N : Nat) (ro : Option Nat) (Q : Exit → Act → World → Prop)
    (hQ : ∀ a' w' π' lm', WR B π' lm' s' w' → LR π' lm' ts' a'.tmps.toList → Tr π π' lm lm' s s' w w' → a'.defers = a.defers → Q .normal a' w') :
    ∀ (fuel : Nat) (listed : Array Bool) (a1 : Act) (w1 : World), unlisted listed = fuel → DI ops V B π lm s s' ts w a k listed a1 w1 → wpAnyIn (Fr ro) N P .any ops Q fuel listed a1 w1 := by
  simp only [drawOk, Bool.and_eq_true, List.all_eq_true] at hok
  obtain ⟨⟨hclash, hread⟩, hedge⟩ := hok
  have hmem : ∀ (j : Nat) (o : Oper), ops[j]? = some o → (o, j) ∈ ops.toList.zipIdx := fun j o ho => by
    rw [List.mem_zipIdx_iff_getElem?]
    rw [Array.getElem?_toList]; exact ho
  have hback : ∀ (j : Nat) (o : Oper), ops.toList[j]? = some o → ∀ e ∈ o.after.toList, Region.binds .any e = true → e.on < j := fun j o ho e he hb => by
    have := hedge _ (hmem j o (by rw [← Array.getElem?_toList]; exact ho)) e he
    simpa [hb] using this
  have clashBit : ∀ (i j : Nat) (x y : Oper), ops[i]? = some x → ops[j]? = some y → i < j → clash ops x y = true → (nthD 0 (befs ops.toList []) j).testBit i = true := fun i j x y hx hy hij hcl => by
    have := hclash _ (hmem j y hy) _ (hmem i x hx)
    simpa [hij, hcl] using this
  -- all listed: the end
  have finish : ∀ (listed : Array Bool) (a1 : Act) (w1 : World), DI ops V B π lm s s' ts w a k listed a1 w1 → (∀ j, j < ops.size → listed.getD j false = true) → Q .normal a1 w1 := by
    intro listed a1 w1 hi hall
    obtain ⟨π1, lm1, h1, h2⟩ := hi.st
    have hP : PD ops.toList V (fun i => listed.getD i false) ts ops.size = ts' := by
      have e := (PD_lt (ops := ops.toList) (V := V) hT0 (n := ops.size) (by simp) (fun i o _ ho => hT i o (by rw [← Array.getElem?_toList]; exact ho)) ops.size ops.size (Nat.le_refl _))
      rw [Nat.min_self, hTn] at e
      rw [← e]
      have : ∀ m, m ≤ ops.size → PD ops.toList V (fun i => listed.getD i false) ts m = PD ops.toList V (fun i => decide (i < ops.size)) ts m := by
        intro m
        induction m with
        | zero => intro _; rfl
        | succ m ih =>
          intro hm
          simp only [PD, ih (by omega), hall m (by omega), show m < ops.size by omega, decide_true]
      exact this _ (Nat.le_refl _)
    rw [hP] at h1
    rcases h2 with ⟨_, g1, g2⟩ | ⟨g0, g1, g2⟩
    · exact hQ a1 w1 π1 lm1 g1 h1 g2 hi.df
    · have : s' = s := by
        by_cases hkn : k < ops.size
        · rw [hall k hkn] at g0; cases g0
        · exact hk (by omega)
      subst this
      exact hQ a1 w1 π1 lm1 g1 h1 g2 hi.df
  -- none ready: all listed
  have stuck : ∀ (listed : Array Bool) (a1 : Act) (w1 : World), DI ops V B π lm s s' ts w a k listed a1 w1 → Region.ready .any ops listed = [] → ∀ j, j < ops.size → listed.getD j false = true := by
    intro listed a1 w1 hi hnil j
    induction j using Nat.strongRecOn with
    | _ j ih =>
      intro hj
      cases hl : listed.getD j false with
      | true => rfl
      | false =>
        exfalso
        have hj' : j < listed.size := by rw [hi.size]; exact hj
        have : j ∈ Region.ready .any ops listed := by
          rw [mem_ready]
          refine ⟨?_, ops[j], Array.getElem?_eq_getElem hj, fun e he hb => ?_⟩
          · rw [Array.getD_eq_getD_getElem?, Array.getElem?_eq_getElem hj'] at hl ⊢
            simpa using hl
          · have := hback j ops[j] (by rw [Array.getElem?_toList]; exact Array.getElem?_eq_getElem hj) e (by simpa using he) hb
            exact ih e.on this (by omega)
        rw [hnil] at this; cases this
  intro fuel
  induction fuel with
  | zero =>
    intro listed a1 w1 hf hi
    have hall : ∀ j, j < ops.size → listed.getD j false = true := fun j hj => by
      cases hl : listed.getD j false with
      | true => rfl
      | false =>
        have := unlisted_set (by rw [hi.size]; exact hj) hl
        omega
    refine ⟨?_, finish listed a1 w1 hi hall⟩
    cases hrd : Region.ready .any ops listed with
    | nil => rfl
    | cons j l =>
      exfalso
      have : j ∈ Region.ready .any ops listed := by rw [hrd]; simp
      rw [mem_ready] at this
      obtain ⟨h1, o, ho, _⟩ := this
      have hj := (Array.getElem?_eq_some_iff.1 ho).1
      have := hall j hj
      rw [Array.getD_eq_getD_getElem?] at h1 this
      cases hx : listed[j]? with
      | none => rw [hx] at h1; simp at h1
      | some b => rw [hx] at h1 this; simp at h1 this; rw [h1] at this; cases this
  | succ fuel ih =>
    intro listed a1 w1 hf hi
    refine ⟨fun hnil => finish listed a1 w1 hi (stuck listed a1 w1 hi hnil), ?_⟩
    intro j hj
    rw [mem_ready] at hj
    obtain ⟨hl, o, ho, hedges⟩ := hj
    have hjn := (Array.getElem?_eq_some_iff.1 ho).1
    have hjs : j < listed.size := by rw [hi.size]; exact hjn
    have hl0 : listed.getD j false = false := by
      rw [Array.getD_eq_getD_getElem?, Array.getElem?_eq_getElem hjs] at hl ⊢
      simpa using hl
    have ho' : ops.toList[j]? = some o := by rw [Array.getElem?_toList]; exact ho
    have hed : ∀ e ∈ o.after.toList, Region.binds .any e = true → listed.getD e.on false = true := fun e he hb => hedges e (by simpa using he) hb
    have before : ∀ i, (nthD 0 (befs ops.toList []) j).testBit i = true → listed.getD i false = true := fun i hb => bit_listed (L := fun i => listed.getD i false) hi.closed j o i ho' hed hb
    have behind : ∀ (i : Nat) (x : Oper), ops[i]? = some x → (nthD 0 (befs ops.toList []) i).testBit j = true → listed.getD i false = false := fun i x hx hb => by
      cases hli : listed.getD i false with
      | false => rfl
      | true =>
        have hx' : ops.toList[i]? = some x := by rw [Array.getElem?_toList]; exact hx
        have this : listed.getD j false = true := bit_listed (L := fun i => listed.getD i false) hi.closed i x j hx' (hi.closed i x hli hx') hb
        rw [hl0] at this; cases this
    -- the slots that it looks at
    have slot : ∀ t ∈ o.looksAt ops, (PD ops.toList V (fun i => listed.getD i false) ts ops.size)[t]? = (T j)[t]? := fun t ht => by
      have e := (PD_lt (ops := ops.toList) (V := V) hT0 (n := ops.size) (by simp) (fun i o _ ho => hT i o (by rw [← Array.getElem?_toList]; exact ho)) j ops.size (by omega))
      rw [show min j ops.size = j from by omega] at e
      rw [← e]
      refine (PD_slot ops.size ?_).1
      intro i x hin hx hd
      have hx' : ops[i]? = some x := by rw [← Array.getElem?_toList]; exact hx
      rcases Nat.lt_trichotomy i j with h1 | h1 | h1
      · have : clash ops x o = true := by simp [clash, dstIn, hd, ht]
        rw [before i (clashBit i j x o hx' ho h1 this)]
        simp [h1]
      · subst h1; simp only [hl0]; simp
      · have : clash ops o x = true := by simp [clash, dstIn, hd, ht]
        rw [behind i x hx' (clashBit j i o x ho hx' h1 this)]
        simp; omega
    have more : PD ops.toList V (fun i => (listed.setIfInBounds j true).getD i false) ts ops.size = put (PD ops.toList V (fun i => listed.getD i false) ts ops.size) o.dst (V j) := by
      have := PD_more (ops := ops.toList) (V := V) (D := fun i => listed.getD i false) (ts := ts) ho' hl0 ops.size hjn (fun i x hji hLi hx t hd e => by
        have hx' : ops[i]? = some x := by rw [← Array.getElem?_toList]; exact hx
        have : clash ops o x = true := by simp [clash, dstIn, hd, e]
        have := behind i x hx' (clashBit j i o x ho hx' hji this)
        have hLi' : listed.getD i false = true := hLi
        rw [this] at hLi'; cases hLi')
      rw [← this]
      congr 1
      funext i
      rw [getD_set _ _ _ hjs]
    obtain ⟨π1, lm1, hlr, hst⟩ := hi.st
    -- the next state of affairs
    have next : ∀ (c : Value) (w2 : World) (π2 : Inj) (lm2 : List Nat), VR π2 lm2 (V j) c → LR π2 lm2 (PD ops.toList V (fun i => listed.getD i false) ts ops.size) a1.tmps.toList →
        (((listed.setIfInBounds j true).getD k false = true ∧ WR B π2 lm2 s' w2 ∧ Tr π π2 lm lm2 s s' w w2) ∨ ((listed.setIfInBounds j true).getD k false = false ∧ WR B π2 lm2 s w2 ∧ Tr π π2 lm lm2 s s w w2)) →
        wpAnyIn (Fr ro) N P .any ops Q fuel (listed.setIfInBounds j true) (a1.put o.dst c) w2 := by
      intro c w2 π2 lm2 hv hl2 hs2
      refine ih _ _ _ (by have := unlisted_set hjs hl0; omega) ⟨by simp [hi.size], ?_, ⟨π2, lm2, ?_, hs2⟩, (put_defers _ _ _).trans hi.df⟩
      · intro i x hLi hx e he hb
        rw [getD_set _ _ _ hjs] at hLi ⊢
        split at hLi
        · rename_i hij
          subst hij
          rw [ho'] at hx
          obtain rfl := Option.some.inj hx
          rw [hed e he hb]; simp
        · rw [hi.closed i x hLi hx e he hb]; simp
      · rw [more]; exact put_rel hl2 hv
    have setk : j ≠ k → (listed.setIfInBounds j true).getD k false = listed.getD k false := fun h => by
      rw [getD_set _ _ _ hjs, if_neg (Ne.symm h)]
    have congrOp : ∀ sx : St, evOp P (PD ops.toList V (fun i => listed.getD i false) ts ops.size) o sx = evOp P (T j) o sx := fun sx =>
      evOp_congr (fun x hx => eval_slot (fun t ht => slot t (operand_looks hx ht))) sx
    simp only [wpOpIn, ho]
    rw [wanted_rel hlr, wanted_congr slot]
    rcases hF j o ho with ⟨f1, f2, f3⟩ | ⟨f1, f2⟩
    · rw [f1]
      simp only [Bool.false_eq_true, if_false]
      refine ⟨fun _ _ => trivial, next undef w1 π1 lm1 (by rw [f2]; exact .undef) hlr ?_⟩
      by_cases hjk : j = k
      · subst hjk
        have hss := f3 rfl
        rw [getD_set _ _ _ hjs, if_pos rfl]
        rcases hst with ⟨g0, g1, g2⟩ | ⟨g0, g1, g2⟩
        · rw [hl0] at g0; cases g0
        · refine .inl ⟨rfl, ?_, ?_⟩
          · rw [hss]; exact g1
          · rw [hss]; exact g2
      · rw [setk hjk]; exact hst
    · rw [f1]
      simp only [if_true]
      rcases f2 with ⟨rfl, f2⟩ | ⟨hjk, f2⟩
      · -- the one that writes
        rcases hst with ⟨g0, g1, g2⟩ | ⟨g0, g1, g2⟩
        · rw [hl0] at g0; cases g0
        · have f2' : evOneV P rec o (PD ops.toList V (fun i => listed.getD i false) ts ops.size) s = some (V j, s') := by
            unfold evOneV at f2 ⊢
            rw [congrOp]; exact f2
          refine one_sound hname hc hr f2' g1 (Nat.le_trans hB g2.size) hlr N ro _ Q ?_
          intro c w2 π2 lm2 m0 m1 m2
          exact next c w2 π2 lm2 m0 (m2.lr hlr) (.inl ⟨by rw [getD_set _ _ _ hjs, if_pos rfl], m1, g2.trans m2⟩)
      · -- one that leaves all as it is
        have keepOn : ∀ (sx : St), WR B π1 lm1 sx w1 → (sx = s ∧ listed.getD k false = false ∧ Tr π π1 lm lm1 s s w w1 ∨ sx = s' ∧ listed.getD k false = true ∧ Tr π π1 lm lm1 s s' w w1) →
            evOneV P rec o (PD ops.toList V (fun i => listed.getD i false) ts ops.size) sx = some (V j, sx) → o.wpIn (Fr ro) N P a1 w1 (wpAnyIn (Fr ro) N P .any ops Q fuel (listed.setIfInBounds j true)) Q := by
          intro sx hwx hsx hev
          have hBx : B ≤ w1.heap.size := by
            rcases hsx with ⟨_, _, t⟩ | ⟨_, _, t⟩ <;> exact Nat.le_trans hB t.size
          refine one_sound hname hc hr hev hwx hBx hlr N ro _ Q ?_
          intro c w2 π2 lm2 m0 m1 m2
          refine next c w2 π2 lm2 m0 (m2.lr hlr) ?_
          rw [setk hjk]
          rcases hsx with ⟨rfl, g0, t⟩ | ⟨rfl, g0, t⟩
          · exact .inr ⟨g0, m1, t.trans m2⟩
          · exact .inl ⟨g0, m1, t.trans m2⟩
        -- reading operations come before the one that writes
        have early : pureS o.op = false → listed.getD k false = false ∧ (j < k) := fun hnp => by
          have := hread _ (hmem j o ho)
          simp only [Bool.or_eq_true, beq_iff_eq] at this
          rcases this with ((h1 | h1) | h1) | h1
          · exact absurd h1 hjk
          · rw [hnp] at h1; cases h1
          · subst h1
            refine ⟨?_, hjn⟩
            rw [Array.getD_eq_getD_getElem?, Array.getElem?_eq_none (by rw [hi.size]; exact Nat.le_refl _)]
            rfl
          · by_cases hkn : k < ops.size
            · exact ⟨behind k _ (Array.getElem?_eq_getElem hkn) h1, bit_lt hback k ops[k] j (by rw [Array.getElem?_toList]; exact Array.getElem?_eq_getElem hkn) h1⟩
            · have : nthD 0 (befs ops.toList []) k = 0 := by
                have hlen : ∀ (l : List Oper) (acc : List Nat), (befs l acc).length = acc.length + l.length := by
                  intro l
                  induction l with
                  | nil => intro acc; simp [befs]
                  | cons x l ihl => intro acc; simp only [befs, ihl, List.length_append, List.length_cons, List.length_nil]; omega
                rw [nthD_eq, List.getElem?_eq_none (by rw [hlen]; simp; omega)]
                rfl
              rw [this] at h1; simp at h1
        unfold quietV at f2
        split at f2
        · rename_i v sy cls hop
          split at f2
          · rename_i hp
            simp only [Option.some.injEq] at f2
            subst f2
            obtain ⟨v', e1, e2⟩ := evOp_pureS hp hop
            simp only [ORes.val.injEq] at e1
            obtain ⟨rfl, _, _⟩ := e1
            have hev : ∀ sx : St, evOneV P rec o (PD ops.toList V (fun i => listed.getD i false) ts ops.size) sx = some (V j, sx) := fun sx => by
              unfold evOneV
              rw [congrOp, e2 sx]
            rcases hst with ⟨g0, g1, g2⟩ | ⟨g0, g1, g2⟩
            · exact keepOn s' g1 (.inr ⟨rfl, g0, g2⟩) (hev s')
            · exact keepOn s g1 (.inl ⟨rfl, g0, g2⟩) (hev s)
          · rename_i hp
            obtain ⟨g0, hlt⟩ := early (by simpa using hp)
            rw [if_pos hlt] at hop
            split at f2
            · rename_i t x hload
              simp only [Option.some.injEq] at f2
              subst f2
              have hev : evOneV P rec o (PD ops.toList V (fun i => listed.getD i false) ts ops.size) s = some (V j, s) := by
                unfold evOneV
                rw [congrOp, hop]
                simp only [evOp, hload] at hop
                split at hop
                · simp only [Option.map_eq_some_iff, ORes.val.injEq] at hop
                  obtain ⟨v', _, _, rfl, _⟩ := hop
                  rfl
                · cases hop
              rcases hst with ⟨g0', _, _⟩ | ⟨g0', g1, g2⟩
              · rw [g0] at g0'; cases g0'
              · exact keepOn s g1 (.inl ⟨rfl, g0, g2⟩) hev
            · cases f2
        · rename_i f args hop
          split at f2
          · rename_i v sy hcl
            simp only [Option.some.injEq] at f2
            subst f2
            have hnp : pureS o.op = false := by
              cases hps : pureS o.op with
              | false => rfl
              | true =>
                obtain ⟨v', e1, _⟩ := evOp_pureS hps hop
                cases e1
            obtain ⟨g0, hlt⟩ := early hnp
            rw [if_pos hlt] at hop hcl
            have hsy := (hc _ _ _ _ _ _ hcl).2.1 rfl
            subst hsy
            have hev : evOneV P rec o (PD ops.toList V (fun i => listed.getD i false) ts ops.size) sy = some (V j, sy) := by
              unfold evOneV
              rw [congrOp, hop]
              simp only [hcl]
            rcases hst with ⟨g0', _, _⟩ | ⟨g0', g1, g2⟩
            · rw [g0] at g0'; cases g0'
            · exact keepOn sy g1 (.inl ⟨rfl, g0, g2⟩) hev
          · cases f2
        · cases f2

theorem draw_sound {rec : Ev} (hmix : P.follows .mixedOrders = true) (hname : ∀ (f : Nat) (fn : Func), P.funcs[f]? = some fn → fn.name ≠ "runtime.NumGoroutine") (hc : SCall P rec.call) (hr : SRound P rec.round) (id : Nat) {ops : Array Oper} {k : Nat}
    (hok : drawOk ops k = true) {ts' : List AV} {s' : St} (h : evDraw P rec ops.toList k 0 ops.toList ts s = some (ts', s')) (hw : WR B π lm s w) (hB : B ≤ w.heap.size) (r : LR π lm ts a.tmps.toList) (N : Nat) (ro : Option Nat)
    (Q : Exit → Act → World → Prop) (hQ : ∀ a' w' π' lm', WR B π' lm' s' w' → LR π' lm' ts' a'.tmps.toList → Tr π π' lm lm' s s' w w' → a'.defers = a.defers → Q .normal a' w') :
    (Code.region id ops true).wpIn (Fr ro) N P Q a w := by
  obtain ⟨T, V, e1, e2, e3, e4, e5⟩ := draw_data (k := k) ops.toList 0 ts s (by simp) (by simp) h (fun _ => rfl) (fun hh => by omega)
  refine wpIn_region_any hmix ?_
  refine draw_any hname hc hr hok e1 (fun j o ho => e2 j o (Nat.zero_le _) ho) e3 (fun j o ho => e4 j o (Nat.zero_le _) ho) e5 hB N ro Q hQ ops.size _ a _ ?_ ?_
  · simp [unlisted, List.countP_replicate]
  · have hn : ∀ i, (Array.replicate ops.size false).getD i false = false := fun i => by
      rw [Array.getD_eq_getD_getElem?, Array.getElem?_replicate]; split <;> rfl
    refine ⟨by simp, ?_, ⟨π, lm, ?_, .inr ⟨hn k, hw.heapEq rfl, Tr.heapEq hw rfl rfl rfl rfl⟩⟩, rfl⟩
    · intro j o hj; rw [hn] at hj; cases hj
    · have : ∀ m, PD ops.toList V (fun i => (Array.replicate ops.size false).getD i false) ts m = ts := by
        intro m
        induction m with
        | zero => rfl
        | succ m ih =>
          rw [PD, if_neg (by rw [hn]; simp)]
          exact ih
      rw [this]; exact r

end Go.Ev
