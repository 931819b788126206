/- Loops by induction, with a template: what the slots and rows are before each round, with letters; a check that a round leads from it to it. -/
import Derived.Test.YtieabeodommbiaaEvN4
namespace Go.Ev
open Go.RowKit (Below)
set_option linter.unusedSectionVars false

/-! ### what does not change from round to round: letters below m -/
def SX.stab (m : Nat) : SX → Bool
  | .lit _ => true
  | .var i _ _ => Nat.blt i m
  | .bin _ a b => a.stab m && b.stab m
  | .wop _ _ a b => a.stab m && b.stab m
  | .free i => Nat.blt i m

/-- the letters below m stand for the same -/
structure Agree (m : Nat) (R1 R2 : Rho) : Prop where
  num : ∀ i, i < m → @Rho.ρ R1 i = @Rho.ρ R2 i
  lst : ∀ k i, k < m → @Rho.ρ R1 (lix k i) = @Rho.ρ R2 (lix k i)

theorem Agree.refl (m : Nat) (R : Rho) : Agree m R R := ⟨fun _ _ => rfl, fun _ _ _ => rfl⟩

section
variable {m : Nat} {R1 R2 : Rho}
theorem SX.stab_eval (h : Agree m R1 R2) : ∀ {e : SX}, e.stab m = true → @SX.eval R1 e = @SX.eval R2 e ∧ (@SX.ok R1 e → @SX.ok R2 e)
  | .lit _, _ => ⟨rfl, fun h => h⟩
  | .var i lo hi, hs => by
    simp only [SX.stab, Nat.blt_eq] at hs
    have := h.num i hs
    refine ⟨this, fun k => ?_⟩
    have k' : lo ≤ @Rho.ρ R1 i ∧ @Rho.ρ R1 i ≤ hi := k
    rw [this] at k'; exact k'
  | .bin o a b, hs => by
    simp only [SX.stab, Bool.and_eq_true] at hs
    obtain ⟨a1, a2⟩ := SX.stab_eval h hs.1
    obtain ⟨b1, b2⟩ := SX.stab_eval h hs.2
    refine ⟨?_, fun k => ⟨a2 k.1, b2 k.2⟩⟩
    show o.app (@SX.eval R1 a) (@SX.eval R1 b) = o.app (@SX.eval R2 a) (@SX.eval R2 b)
    rw [a1, b1]
  | .free i, hs => by
    simp only [SX.stab, Nat.blt_eq] at hs
    exact ⟨h.num i hs, fun _ => trivial⟩
  | .wop op k a b, hs => by
    simp only [SX.stab, Bool.and_eq_true] at hs
    obtain ⟨a1, a2⟩ := SX.stab_eval h hs.1
    obtain ⟨b1, b2⟩ := SX.stab_eval h hs.2
    refine ⟨?_, fun k => ⟨a2 k.1, b2 k.2⟩⟩
    show wapp op k (@SX.eval R1 a) (@SX.eval R1 b) = wapp op k (@SX.eval R2 a) (@SX.eval R2 b)
    rw [a1, b1]
end

mutual
def AV.stab (m : Nat) : AV → Bool
  | .sym _ e _ _ => e.stab m
  | .sls _ off len cap _ => off.stab m && (len.stab m && cap.stab m)
  | .sptr _ e => e.stab m
  | .fn _ l1 l2 => stabL m l1 && stabL m l2
  | .iface _ v => v.stab m
  | .agg l => stabL m l
  | .tup l => stabL m l
  | _ => true
def stabL (m : Nat) : List AV → Bool
  | [] => true
  | v :: l => v.stab m && stabL m l
end

theorem stabL_get {m : Nat} : ∀ {l : List AV}, stabL m l = true → ∀ (i : Nat) (p : i < l.length), l[i].stab m = true
  | [], _, i, p => by simp at p
  | v :: l, h, i, p => by
    simp only [stabL, Bool.and_eq_true] at h
    cases i with
    | zero => exact h.1
    | succ i => exact stabL_get h.2 i (by simpa using p)

theorem SlOk.turn {m : Nat} {R1 R2 : Rho} (h : Agree m R1 R2) {off len cap : SX} (ho : off.stab m = true) (hl : len.stab m = true) (hc : cap.stab m = true) (o : @SlOk R1 off len cap) : @SlOk R2 off len cap := by
  obtain ⟨a1, a2⟩ := SX.stab_eval h ho
  obtain ⟨b1, b2⟩ := SX.stab_eval h hl
  obtain ⟨c1, c2⟩ := SX.stab_eval h hc
  have h1 := @SlOk.n1 R1 _ _ _ o
  have h2 := @SlOk.n2 R1 _ _ _ o
  have h3 := @SlOk.n3 R1 _ _ _ o
  exact @SlOk.mk R2 _ _ _ (a2 (@SlOk.o1 R1 _ _ _ o)) (b2 (@SlOk.o2 R1 _ _ _ o)) (c2 (@SlOk.o3 R1 _ _ _ o)) (by rw [← a1]; exact h1) (by rw [← b1]; exact h2) (by rw [← b1, ← c1]; exact h3)

theorem stab_turn {m : Nat} {R1 R2 : Rho} (h : Agree m R1 R2) {π : Inj} {lm : List Nat} {v : AV} {c : Value} (hv : @VR R1 π lm v c) (hs : v.stab m = true) : @VR R2 π lm v c := by
  refine @VR.rec R1 π lm (fun v c _ => v.stab m = true → @VR R2 π lm v c) ?_ ?_ ?_ ?_ ?_ ?_ ?_ ?_ ?_ ?_ ?_ ?_ ?_ ?_ ?_ ?_ ?_ ?_ ?_ ?_ v c hv hs
  · intro b _; exact @VR.bool R2 _ _ b
  · intro k n _; exact @VR.int R2 _ _ k n
  · intro k e lo hi h0 h1 h2 hs
    obtain ⟨e1, e2⟩ := SX.stab_eval h (e := e) hs
    rw [e1]
    exact @VR.sym R2 _ _ _ _ _ _ (e2 h0) (by rw [← e1]; exact h1) (by rw [← e1]; exact h2)
  · intro s _; exact @VR.str R2 _ _ s
  · intro b b' n off h1 _; exact @VR.ptr R2 _ _ _ _ _ _ h1
  · intro _; exact @VR.nilPtr R2 _ _
  · intro b b' n off len cap es h1 _; exact @VR.sliceEx R2 _ _ _ _ _ _ _ _ _ h1
  · intro b b' n off len cap cap' es h1 hc hn _; exact @VR.sliceIn R2 _ _ _ _ _ _ _ _ _ _ h1 hc hn
  · intro _; exact @VR.nilSlice R2 _ _
  · intro f l1 l2 a1 a2 s1 h1 s2 h2 ih1 ih2 hs
    simp only [AV.stab, Bool.and_eq_true] at hs
    exact @VR.fn R2 _ _ f _ _ _ _ s1 (fun i p q => ih1 i p q (stabL_get hs.1 i p)) s2 (fun i p q => ih2 i p q (stabL_get hs.2 i p))
  · intro l L h1 _; exact @VR.yield R2 _ _ _ _ h1
  · intro _; exact @VR.nilFn R2 _ _
  · intro _; exact @VR.nilIface R2 _ _
  · intro t v c h1 ih hs; exact @VR.iface R2 _ _ t _ _ (ih hs)
  · intro l a s h1 ih hs; exact @VR.agg R2 _ _ _ _ s (fun i p q => ih i p q (stabL_get hs i p))
  · intro l a s h1 ih hs; exact @VR.tup R2 _ _ _ _ s (fun i p q => ih i p q (stabL_get hs i p))
  · intro c h1 hb _; exact @VR.top R2 _ _ _ h1 hb
  · intro b b' n off len cap o h1 hs
    simp only [AV.stab, Bool.and_eq_true] at hs
    obtain ⟨a1, _⟩ := SX.stab_eval h hs.1
    obtain ⟨b1, _⟩ := SX.stab_eval h hs.2.1
    obtain ⟨c1, _⟩ := SX.stab_eval h hs.2.2
    rw [a1, b1, c1]
    exact @VR.slsEx R2 _ _ _ _ _ _ _ _ (o.turn h hs.1 hs.2.1 hs.2.2) h1
  · intro b b' n cap' off len cap o h1 hc hn hs
    simp only [AV.stab, Bool.and_eq_true] at hs
    obtain ⟨a1, _⟩ := SX.stab_eval h hs.1
    obtain ⟨b1, _⟩ := SX.stab_eval h hs.2.1
    obtain ⟨c1, _⟩ := SX.stab_eval h hs.2.2
    rw [a1, b1]
    exact @VR.slsIn R2 _ _ _ _ _ _ _ _ _ (o.turn h hs.1 hs.2.1 hs.2.2) h1 (by rw [← c1]; exact hc) (by rw [← a1]; exact hn)
  · intro b b' n e o n1 h1 hs
    obtain ⟨e1, e2⟩ := SX.stab_eval h (e := e) hs
    rw [e1]
    exact @VR.sptr R2 _ _ _ _ _ _ (e2 o) (by rw [← e1]; exact n1) h1

mutual
def AV.same : AV → AV → Bool
  | .fn f l1 l2, .fn g m1 m2 => Nat.beq f g && (sameL l1 m1 && sameL l2 m2)
  | .yield l, .yield k => Nat.beq l k
  | .nilFn, .nilFn => true
  | .nilIface, .nilIface => true
  | .iface t v, .iface u x => Nat.beq t u && v.same x
  | .agg l, .agg k => sameL l k
  | .tup l, .tup k => sameL l k
  | .top, .top => true
  | a, b => beq0 a b
def sameL : List AV → List AV → Bool
  | [], [] => true
  | a :: l, b :: m => a.same b && sameL l m
  | _, _ => false
end

mutual
theorem AV.same_ok [Rho] : ∀ {a b : AV}, a.same b = true → a = b := by
  intro a b h
  unfold AV.same at h
  split at h
  · simp only [Bool.and_eq_true, Nat.beq_eq] at h
    rw [h.1, sameL_ok h.2.1, sameL_ok h.2.2]
  · rw [Nat.beq_eq] at h; rw [h]
  · rfl
  · rfl
  · simp only [Bool.and_eq_true, Nat.beq_eq] at h
    rw [h.1, AV.same_ok h.2]
  · rw [sameL_ok h]
  · rw [sameL_ok h]
  · rfl
  · exact beq0_ok h
theorem sameL_ok [Rho] : ∀ {l k : List AV}, sameL l k = true → l = k
  | [], [], _ => rfl
  | a :: l, b :: m, h => by
    simp only [sameL, Bool.and_eq_true] at h
    rw [AV.same_ok h.1, sameL_ok h.2]
  | [], _ :: _, h => by simp [sameL] at h
  | _ :: _, [], h => by simp [sameL] at h
end

/-- what is to be proved: the template's expression has the other's number -/
abbrev Ob := SX × SX × Int × Int

def optApp {α : Type} (a b : Option (List α)) : Option (List α) :=
  match a, b with
  | some x, some y => some (x ++ y)
  | _, _ => none

def slMax : Int := 9223372036854775807
def obX (m : Nat) (eT e : SX) : List Ob := if e.stab m && e.same eT then [] else [(eT, e, 0, slMax)]

def turn0 (m : Nat) (a t : AV) : Option (List Ob) :=
  match t with
  | .sls b off len cap ex => (match a with
    | .sls b' off' len' cap' ex' => if Nat.beq b b' && (ex == ex') then some (obX m off off' ++ (obX m len len' ++ obX m cap cap')) else none
    | _ => none)
  | .top => (match a with | .agg _ => none | .bool _ => none | _ => some [])
  | .sym k eT lo hi => if eT.stab m then (if a.stab m && a.same t then some [] else none) else
    (match symA a with
    | some (k', e, _, _) => if Nat.beq (kindNo k) (kindNo k') then some [(eT, e, lo, hi)] else none
    | none => none)
  | t => if a.stab m && a.same t then some [] else none

def turnL0 (m : Nat) : List AV → List AV → Option (List Ob)
  | [], [] => some []
  | a :: l, t :: r => optApp (turn0 m a t) (turnL0 m l r)
  | _, _ => none

def turn1 (m : Nat) (a t : AV) : Option (List Ob) :=
  match a, t with
  | .agg l, .agg r => turnL0 m l r
  | a, t => turn0 m a t

def turnL (m : Nat) : List AV → List AV → Option (List Ob)
  | [], [] => some []
  | a :: l, t :: r => optApp (turn1 m a t) (turnL m l r)
  | _, _ => none

/-- the letters stand for what they should -/
def Obs (R1 R2 : Rho) (l : List Ob) : Prop := ∀ x ∈ l, @SX.ok R2 x.1 ∧ @SX.eval R2 x.1 = @SX.eval R1 x.2.1 ∧ x.2.2.1 ≤ @SX.eval R2 x.1 ∧ @SX.eval R2 x.1 ≤ x.2.2.2

/-- a letter -/
theorem ob_var {R1 R2 : Rho} {n : Nat} {lo hi v : Int} {e : SX} (h1 : @Rho.ρ R2 n = v) (h2 : @SX.eval R1 e = v) (h3 : lo ≤ v) (h4 : v ≤ hi) :
    @SX.ok R2 (.var n lo hi) ∧ @SX.eval R2 (.var n lo hi) = @SX.eval R1 e ∧ lo ≤ @SX.eval R2 (.var n lo hi) ∧ @SX.eval R2 (.var n lo hi) ≤ hi := by
  have g : @SX.eval R2 (.var n lo hi) = v := h1
  exact ⟨⟨by rw [h1]; exact h3, by rw [h1]; exact h4⟩, by rw [g, h2], by rw [g]; exact h3, by rw [g]; exact h4⟩

theorem Obs.app {R1 R2 : Rho} {a b : List Ob} (h : Obs R1 R2 (a ++ b)) : Obs R1 R2 a ∧ Obs R1 R2 b :=
  ⟨fun x hx => h x (List.mem_append_left _ hx), fun x hx => h x (List.mem_append_right _ hx)⟩

theorem optApp_some {α : Type} {a b : Option (List α)} {c : List α} (h : optApp a b = some c) : ∃ x y, a = some x ∧ b = some y ∧ c = x ++ y := by
  unfold optApp at h
  split at h
  · rename_i x y
    exact ⟨x, y, rfl, rfl, (Option.some.inj h).symm⟩
  · cases h

section
variable {m : Nat} {R1 R2 : Rho} (hA : Agree m R1 R2) {π : Inj} {lm : List Nat}
include hA
theorem obX_ok {eT e : SX} (h : Obs R1 R2 (obX m eT e)) (o : @SX.ok R1 e) : @SX.ok R2 eT ∧ @SX.eval R2 eT = @SX.eval R1 e := by
  unfold obX at h
  split at h
  · rename_i hc
    simp only [Bool.and_eq_true] at hc
    rw [← SX.same_ok (a := e) (b := eT) hc.2]
    obtain ⟨g1, g2⟩ := SX.stab_eval hA hc.1
    exact ⟨g2 o, g1.symm⟩
  · obtain ⟨g1, g2, _, _⟩ := h _ (List.mem_singleton.2 rfl)
    exact ⟨g1, g2⟩
theorem turn0_ok {a t : AV} {c : Value} {l : List Ob} (h : turn0 m a t = some l) (ho : Obs R1 R2 l) (r : @VR R1 π lm a c) : @VR R2 π lm t c := by
  letI := R1
  unfold turn0 at h
  have st : ∀ {t : AV}, (if a.stab m && a.same t then some ([] : List Ob) else none) = some l → @VR R2 π lm t c := fun {t} h => by
    split at h
    · rename_i hc
      simp only [Bool.and_eq_true] at hc
      rw [← AV.same_ok hc.2]
      exact stab_turn hA r hc.1
    · cases h
  split at h
  · split at h
    · rename_i b off len cap ex _ b' off' len' cap' ex'
      split at h
      · rename_i hc
        simp only [Bool.and_eq_true, Nat.beq_eq, beq_iff_eq] at hc
        obtain ⟨rfl, rfl⟩ := hc
        simp only [Option.some.injEq] at h
        subst h
        obtain ⟨o1, o23⟩ := ho.app
        obtain ⟨o2, o3⟩ := o23.app
        have key : ∀ (so : @SlOk R1 off' len' cap'), @SlOk R2 off len cap ∧ @SX.eval R2 off = @SX.eval R1 off' ∧ @SX.eval R2 len = @SX.eval R1 len' ∧ @SX.eval R2 cap = @SX.eval R1 cap' := fun so => by
          obtain ⟨a1, a2⟩ := obX_ok hA o1 (@SlOk.o1 R1 _ _ _ so)
          obtain ⟨b1, b2⟩ := obX_ok hA o2 (@SlOk.o2 R1 _ _ _ so)
          obtain ⟨c1, c2⟩ := obX_ok hA o3 (@SlOk.o3 R1 _ _ _ so)
          have h1 := @SlOk.n1 R1 _ _ _ so
          have h2 := @SlOk.n2 R1 _ _ _ so
          have h3 := @SlOk.n3 R1 _ _ _ so
          exact ⟨@SlOk.mk R2 _ _ _ a1 b1 c1 (by rw [a2]; exact h1) (by rw [b2]; exact h2) (by rw [b2, c2]; exact h3), a2, b2, c2⟩
        cases r with
        | slsEx so hp =>
          obtain ⟨k0, k1, k2, k3⟩ := key so
          have := @VR.slsEx R2 π lm _ _ _ _ _ _ k0 hp
          rw [k1, k2, k3] at this
          exact this
        | slsIn so hp hc hn =>
          obtain ⟨k0, k1, k2, k3⟩ := key so
          have := @VR.slsIn R2 π lm _ _ _ _ _ _ _ k0 hp (by rw [k3]; exact hc) (by rw [k1]; exact hn)
          rw [k1, k2] at this
          exact this
      · cases h
    · cases h
  · have := top_rel (a := a) (by cases a <;> first | rfl | cases h) r
    cases this with
    | top h hb => exact @VR.top R2 _ _ _ h hb
  · rename_i k eT lo hi
    split at h
    · exact st h
    · split at h
      · rename_i k' e lo2 hi2 hs
        split at h
        · rename_i hk
          obtain rfl := kindNo_ok hk
          simp only [Option.some.injEq] at h
          subst h
          obtain ⟨_, _, _, rfl⟩ := symA_rel hs r
          obtain ⟨g0, g1, g2, g3⟩ := ho _ (List.mem_singleton.2 rfl)
          have : @VR R2 π lm (.sym k eT lo hi) (.int k (@SX.eval R2 eT)) := @VR.sym R2 _ _ _ _ _ _ g0 g2 g3
          have e1 : @SX.eval R2 eT = @SX.eval R1 e := g1
          rw [e1] at this; exact this
        · cases h
      · cases h
  · exact st h

theorem turnL0_ok : ∀ {l r : List AV} {cs : List Value} {o : List Ob}, turnL0 m l r = some o → Obs R1 R2 o → @LR R1 π lm l cs → @LR R2 π lm r cs
  | [], [], cs, _, _, _, h => by rw [@LR.nil_inv R1 _ _ _ h]; exact @LR.nil R2 _ _
  | a :: l, t :: r, cs, o, h, ho, hl => by
    simp only [turnL0] at h
    obtain ⟨x, y, h1, h2, rfl⟩ := optApp_some h
    obtain ⟨o1, o2⟩ := ho.app
    obtain ⟨c, ws, rfl, r1, r2⟩ := @LR.uncons R1 _ _ _ _ _ hl
    exact @LR.cons R2 _ _ _ _ _ _ (turn0_ok hA h1 o1 r1) (turnL0_ok h2 o2 r2)
  | [], _ :: _, _, _, h, _, _ => by cases h
  | _ :: _, [], _, _, h, _, _ => by cases h

theorem turn1_ok {a t : AV} {c : Value} {l : List Ob} (h : turn1 m a t = some l) (ho : Obs R1 R2 l) (r : @VR R1 π lm a c) : @VR R2 π lm t c := by
  unfold turn1 at h
  split at h
  · rename_i l' r'
    cases r with
    | agg s hl =>
      have := turnL0_ok hA h ho ⟨s, hl⟩
      exact @VR.agg R2 _ _ _ _ this.1 this.2
  · exact turn0_ok hA h ho r

theorem turnL_ok : ∀ {l r : List AV} {cs : List Value} {o : List Ob}, turnL m l r = some o → Obs R1 R2 o → @LR R1 π lm l cs → @LR R2 π lm r cs
  | [], [], cs, _, _, _, h => by rw [@LR.nil_inv R1 _ _ _ h]; exact @LR.nil R2 _ _
  | a :: l, t :: r, cs, o, h, ho, hl => by
    simp only [turnL] at h
    obtain ⟨x, y, h1, h2, rfl⟩ := optApp_some h
    obtain ⟨o1, o2⟩ := ho.app
    obtain ⟨c, ws, rfl, r1, r2⟩ := @LR.uncons R1 _ _ _ _ _ hl
    exact @LR.cons R2 _ _ _ _ _ _ (turn1_ok hA h1 o1 r1) (turnL_ok h2 o2 r2)
  | [], _ :: _, _, _, h, _, _ => by cases h
  | _ :: _, [], _, _, h, _, _ => by cases h
end

/-! ### rows -/
/-- the list letter n stands for the list that the list letter k stood for -/
abbrev Lo := Nat × Nat × EK
def LObs (R1 R2 : Rho) (l : List Lo) : Prop := ∀ x ∈ l, @lskip R2 x.1 = @lskip R1 x.2.1 ∧ @llen R2 x.1 = @llen R1 x.2.1 ∧ ∀ i, i < @llen R1 x.2.1 → @lval R2 x.1 x.2.2 i = @lval R1 x.2.1 x.2.2 i

def turnT (m : Nat) (a t : Option (Nat × EK)) : Option (List Lo) :=
  match a, t with
  | _, none => some []
  | some (k, d), some (n, d') => if Nat.beq d.no d'.no then (if Nat.blt n m then (if Nat.beq k n then some [] else none) else some [(n, k, d)]) else none
  | none, some _ => none

theorem turnT_ok {m : Nat} {R1 R2 : Rho} (hA : Agree m R1 R2) {A T : ABlk} {l : List Lo} (h : turnT m A.tl T.tl = some l) (ho : LObs R1 R2 l) {c : Array Value} (hc : @TailOk R1 A c) : @TailOk R2 T c := by
  letI := R1
  intro k2 d2 hk2 i hi
  unfold turnT at h
  split at h
  · rename_i e; rw [e] at hk2; cases hk2
  · rename_i k d n d' e1 e2
    rw [e2] at hk2
    simp only [Option.some.injEq, Prod.mk.injEq] at hk2
    obtain ⟨rfl, rfl⟩ := hk2
    split at h
    · rename_i hd
      obtain rfl := EK.no_ok hd
      split at h
      · rename_i hn
        rw [Nat.blt_eq] at hn
        split at h
        · rename_i hkn
          rw [Nat.beq_eq] at hkn
          subst hkn
          have e0 : @llen R2 k = @llen R1 k := by unfold llen; rw [hA.lst k 0 hn]
          have e3 : @lskip R2 k = @lskip R1 k := by unfold lskip; rw [hA.lst k 1 hn]
          have e4 : @lval R2 k d i = @lval R1 k d i := by unfold lval lel; rw [hA.lst k (i + 2) hn]
          rw [e3, e4]
          exact hc k d e1 i (by rw [← e0]; exact hi)
        · cases h
      · simp only [Option.some.injEq] at h
        subst h
        obtain ⟨g1, g2, g3⟩ := ho _ (List.mem_singleton.2 rfl)
        have hi' : i < @llen R1 k := by rw [← g2]; exact hi
        have := hc k d e1 i hi'
        have e5 : @lval R2 n d i = @lval R1 k d i := g3 i hi'
        have e6 : @lskip R2 n = @lskip R1 k := g1
        rw [e5, e6]; exact this
    · cases h
  · cases h

def turnH (m : Nat) : List (Option ABlk) → List (Option ABlk) → Option (List Ob × List Lo)
  | [], [] => some ([], [])
  | _ :: l, none :: r => turnH m l r
  | some A :: l, some T :: r =>
    if Nat.beq A.elem T.elem && (A.ro == T.ro) then match turnL0 m A.cells T.cells, turnT m A.tl T.tl, turnH m l r with
      | some x, some y, some (x', y') => some (x ++ x', y ++ y')
      | _, _, _ => none
    else none
  | _, _ => none

theorem turnH_ok {m : Nat} {R1 R2 : Rho} (hA : Agree m R1 R2) : ∀ {l r : List (Option ABlk)} {x : List Ob} {y : List Lo}, turnH m l r = some (x, y) → Obs R1 R2 x → LObs R1 R2 y → l.length = r.length ∧
    ∀ (i : Nat) (T : ABlk), r[i]? = some (some T) → ∃ A, l[i]? = some (some A) ∧ T.elem = A.elem ∧ T.ro = A.ro ∧ A.cells.length = T.cells.length ∧ (∀ π lm cs, @LR R1 π lm A.cells cs → @LR R2 π lm T.cells cs) ∧ ∀ c, @TailOk R1 A c → @TailOk R2 T c
  | [], [], x, y, h, _, _ => ⟨rfl, fun i T hT => by simp at hT⟩
  | a :: l, none :: r, x, y, h, hx, hy => by
    simp only [turnH] at h
    obtain ⟨h1, h2⟩ := turnH_ok hA h hx hy
    refine ⟨by simp [h1], fun i T hT => ?_⟩
    cases i with
    | zero => simp at hT
    | succ i => simpa using h2 i T (by simpa using hT)
  | some A :: l, some T :: r, x, y, h, hx, hy => by
    simp only [turnH] at h
    split at h
    · rename_i hc
      simp only [Bool.and_eq_true, Nat.beq_eq, beq_iff_eq] at hc
      split at h
      · rename_i x1 y1 x2 y2 e1 e2 e3
        simp only [Option.some.injEq, Prod.mk.injEq] at h
        obtain ⟨rfl, rfl⟩ := h
        obtain ⟨h1, h2⟩ := turnH_ok hA e3 (fun z hz => hx z (List.mem_append_right _ hz)) (fun z hz => hy z (List.mem_append_right _ hz))
        refine ⟨by simp [h1], fun i T' hT => ?_⟩
        cases i with
        | zero =>
          simp only [List.getElem?_cons_zero, Option.some.injEq] at hT
          subst hT
          have hlen : ∀ {l r : List AV} {o : List Ob}, turnL0 m l r = some o → l.length = r.length := by
            intro l
            induction l with
            | nil => intro r o h; cases r with
              | nil => rfl
              | cons _ _ => cases h
            | cons a l ih => intro r o h; cases r with
              | nil => cases h
              | cons t r =>
                simp only [turnL0] at h
                obtain ⟨_, _, _, h2, _⟩ := optApp_some h
                simp [ih h2]
          exact ⟨A, by simp, hc.1.symm, hc.2.symm, hlen e1, fun π lm cs hl => turnL0_ok hA e1 (fun z hz => hx z (List.mem_append_left _ hz)) hl, fun c hcc => turnT_ok hA e2 (fun z hz => hy z (List.mem_append_left _ hz)) hcc⟩
        | succ i => simpa using h2 i T' (by simpa using hT)
      · cases h
    · cases h
  | [], _ :: _, _, _, h, _, _ => by cases h
  | _ :: _, [], _, _, h, _, _ => by cases h
  | none :: _, some _ :: _, _, _, h, _, _ => by cases h

def loopsSt (m : Nat) (l : List ALoop) : Bool := l.all fun r => stabL m r.tmps

/-- from slots and rows to others, with other letters -/
def Turned (R1 R2 : Rho) (ts : List AV) (s : St) (ts' : List AV) (s' : St) : Prop :=
  ∀ B π lm w vs, @WR R1 B π lm s w → @LR R1 π lm ts vs → @LR R2 π lm ts' vs ∧ @WR R2 B π lm s' w ∧ Tr π π lm lm s s' w w

theorem turned {m : Nat} {R1 R2 : Rho} (hA : Agree m R1 R2) {ts ts' : List AV} {s s' : St} {x y : List Ob} {z : List Lo} (h1 : turnL m ts ts' = some x) (h2 : turnH m s.heap s'.heap = some (y, z)) (hx : Obs R1 R2 x) (hy : Obs R1 R2 y) (hz : LObs R1 R2 z)
    (hl : s'.loops = s.loops) (hls : loopsSt m s.loops = true) (hn : s'.nd = s.nd) (hlo : s'.lo = 0) : Turned R1 R2 ts s ts' s' := by
  intro B π lm w vs hw hr
  obtain ⟨k1, k2⟩ := turnH_ok hA h2 hy hz
  refine ⟨turnL_ok hA h1 hx hr, ?_, ?_⟩
  · refine @WR.mk R2 B π lm s' w (fun i q hq => by rw [← k1]; exact @WR.dom R1 B π lm s w hw i q hq) (fun i T hT => ?_) (fun i j T T' b n n' e1 e2 e3 e4 e5 => ?_) (by rw [hl]; exact @WR.lsz R1 B π lm s w hw) (@WR.linj R1 B π lm s w hw) (fun l r hr => ?_)
    · obtain ⟨A, a1, a2, a3, a4, a5, a6⟩ := k2 i T hT
      obtain ⟨b, n, c, fz, g1, g2, g3, g4, g5, g6⟩ := @WR.blk R1 B π lm s w hw i A a1
      exact ⟨b, n, c, fz, g1, g2, g3, fun hro => by rw [a2]; exact g4 (by rw [← a3]; exact hro), by rw [← a4]; exact a5 _ _ _ g5, a6 _ g6⟩
    · obtain ⟨A, a1, _, a3, _⟩ := k2 i T e1
      obtain ⟨A', b1, _⟩ := k2 j T' e2
      exact @WR.inj R1 B π lm s w hw i j A A' b n n' a1 b1 (by rw [← a3]; exact e3) e4 e5
    · rw [hl] at hr
      obtain ⟨L, fn, D, tv, st, pd, g1, g2, g3, g4⟩ := @WR.loop R1 B π lm s w hw l r hr
      refine ⟨L, fn, D, tv, st, pd, g1, g2, g3, g4.1, fun i p q => stab_turn hA (g4.2 i p q) ?_⟩
      simp only [loopsSt, List.all_eq_true] at hls
      exact stabL_get (hls r (List.mem_of_getElem? hr)) i p
  · exact {
      os := rfl, tape := rfl, output := rfl, size := Nat.le_refl _
      keep := fun _ _ _ _ => rfl
      low := fun _ _ _ _ _ _ _ => rfl
      same := fun i _ hi => by rw [hlo] at hi; omega
      lkeep := fun _ _ _ => rfl
      lo_le := by rw [hlo]; exact Nat.zero_le _
      nd_le := by rw [hn]; exact Nat.le_refl _
      le := Inj.le_refl _
      old := fun _ _ => rfl
      len := by rw [k1]; exact Nat.le_refl _
      liv := fun i T _ hT => by
        obtain ⟨A, a1, _, a3, _⟩ := k2 i T hT
        exact ⟨A, a1, a3.symm⟩
      new := fun i b n hi hp => by have := @WR.dom R1 B π lm s w hw i _ hp; omega
      lmx := ⟨[], by simp, by simp⟩ }

/-! ### evaluation -/
def roE (r : Option (AExit × T3 × St)) : AExit := match r with | some (e, _, _) => e | none => .goto 0
def roT (N : Nat) (r : Option (AExit × T3 × St)) : List AV := match r with | some (_, t, _) => toL t N | none => []
def roS (r : Option (AExit × T3 × St)) : St := match r with | some (_, _, s) => s | none => { heap := [], lo := 0, loops := [], nd := 0 }

theorem toLFrom_len (t : T3) : ∀ (n i : Nat), (toLFrom t i n).length = n
  | 0, _ => rfl
  | n + 1, i => by simp [toLFrom, toLFrom_len t n]

theorem run_at {P : Program} {orc : Orc} {R : Rho} [Know] [KnowOk] (hP : Fit P) (ho : OrcOk P orc) {N : Nat} {c : Code} {ts : List AV} {s : St} {r : Option (AExit × T3 × St)} (hN : Nat.ble N 512 = true) (hc : codeIn N c = true) (hl : ts.length = N) (h : (evF P orc 5000).code N c (ofL ts) s = r)
    (hr : r.isSome = true) : SAtX P c R ts s (roE r) R (roT N r) (roS r) ∧ (roT N r).length = N := by
  obtain ⟨⟨e, t, s'⟩, rfl⟩ := Option.isSome_iff_exists.1 hr
  have rel : Rel N (ofL ts) ts := Rel.ofL (by simpa using hN) hl
  obtain ⟨ts1, r1, e1⟩ := (evF_sim P orc 5000).code N _ _ _ _ hc rel _ _ _ h
  obtain ⟨_, _, k3, _⟩ := ev_sound ho hP.mix hP.name 5000
  have := k3 _ _ _ _ _ _ e1
  rw [← r1.toL] at this
  exact ⟨SAtX.of this, by simp [roT, toL, toLFrom_len]⟩

/-- a loop: before each round the slots are as the template says (the first round has one of its own) -/
theorem loop_at {P : Program} {c : Code} {J : Nat → Rho} {K : Nat} {T : Bool → List AV} {S : Bool → St} {e : AExit} {ts2 : List AV} {s2 : St}
    (step : ∀ j, j < K → SAtX P c (J j) (T (Nat.ble 1 j)) (S (Nat.ble 1 j)) .normal (J (j + 1)) (T true) (S true)) (last : SAtX P c (J K) (T (Nat.ble 1 K)) (S (Nat.ble 1 K)) e (J K) ts2 s2) (he : e ≠ .normal) :
    SAtX P (.loop c) (J 0) (T false) (S false) e (J K) ts2 s2 := by
  have key : ∀ (d j : Nat), j + d = K → SRnX P c (d + 1) (J j) (T (Nat.ble 1 j)) (S (Nat.ble 1 j)) e (J K) ts2 s2 := by
    intro d
    induction d with
    | zero =>
      intro j h
      rw [Nat.add_zero] at h
      subst h
      exact SRnX.last last he
    | succ d ih =>
      intro j h
      have := ih (j + 1) (by omega)
      rw [show Nat.ble 1 (j + 1) = true by simp] at this
      exact SRnX.more (step j (by omega)) this
  exact (key K 0 (by omega)).loop

theorem SAtX.turn {P : Program} {c : Code} {R1 R2 R3 : Rho} {ts tsA tsB : List AV} {s sA sB : St} {e : AExit} (h : SAtX P c R1 ts s e R2 tsA sA) (hg : Turned R2 R3 tsA sA tsB sB) : SAtX P c R1 ts s e R3 tsB sB := SAtX.post h hg

/-! ### the template, of what came out -/
/-- gives slots letters: what changes and has none may be anything -/
def junkA (m : Nat) (v : AV) : AV := if v.stab m then v else match v with
  | .agg l => .agg (l.map fun u => if u.stab m then u else match u with | .bool b => .bool b | _ => .top)
  | _ => .top
def genT (m : Nat) (g : List (Nat × AV)) (l : List AV) : List AV := (l.zipIdx).map fun x => match g.find? (fun y => Nat.beq y.1 x.2) with
  | some y => y.2
  | none => junkA m x.1
/-- rows: g: cells; t: list letters -/
def genH (m : Nat) (g : List (Nat × List AV)) (t : List (Nat × Nat)) (l : List (Option ABlk)) : List (Option ABlk) := (l.zipIdx).map fun x => match x.1 with
  | none => none
  | some A => match t.find? (fun y => Nat.beq y.1 x.2), A.tl with
    | some y, some (_, d) => some { A with tl := some (y.2, d) }
    | _, _ => match g.find? (fun y => Nat.beq y.1 x.2) with
      | some y => some { A with cells := y.2 }
      | none => if stabL m A.cells && (match A.tl with | some (k, _) => Nat.blt k m | none => true) then some A else none
def genSt (m : Nat) (g : List (Nat × List AV)) (t : List (Nat × Nat)) (s : St) : St := { s with heap := genH m g t s.heap, lo := 0 }

end Go.Ev
