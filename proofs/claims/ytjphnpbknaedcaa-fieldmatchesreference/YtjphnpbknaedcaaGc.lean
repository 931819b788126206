/- The reference's sums, differences, products: evaluated with letters. -/
import Derived.Test.YtjphnpbknaedcaaAk
namespace Go.Ev
open Go.Fl (allLt allLt_ok)
set_option linter.unusedSectionVars false

noncomputable def SX.evM (r : Nat → Nat) (e : SX) : Nat :=
  SX.rec (fun n => n.toNat) (fun i _ _ => r i) (fun o _ _ a b => match o with | .add => Nat.add a b | .mul => Nat.mul a b | .quo => Nat.div a b | .rem => Nat.mod a b | .sub => Nat.sub a b) (fun _ _ _ _ _ _ => 0) (fun _ => 0) e
/-- no number below 0 in it -/
noncomputable def SX.subOk (e : SX) : Bool :=
  SX.rec (fun n => match n with | .ofNat _ => true | _ => false) (fun _ _ _ => true)
    (fun o a b x y => match o with
      | .sub => (match a.rng, b.rng with | some (la, _), some (_, hb) => bif decide (hb ≤ la) then (bif x then y else false) else false | _, _ => false)
      | _ => bif x then y else false) (fun _ _ _ _ _ _ => false) (fun _ => false) e
/-- its letters are 0 and 1, within bounds -/
noncomputable def SX.varsOk (la ha lb hb : Nat) (e : SX) : Bool :=
  SX.rec (fun _ => true) (fun i lo hi => match i with
    | 0 => decide (lo ≤ Int.ofNat la) && decide (Int.ofNat ha ≤ hi)
    | _ + 1 => decide (lo ≤ Int.ofNat lb) && decide (Int.ofNat hb ≤ hi)) (fun _ _ _ x y => bif x then y else false) (fun _ _ _ _ _ _ => false) (fun _ => false) e

theorem SX.varsOk_ok {la ha lb hb a b : Nat} (h1 : la ≤ a) (h2 : a ≤ ha) (h3 : lb ≤ b) (h4 : b ≤ hb) {e : SX} (h : e.varsOk la ha lb hb = true) : @SX.ok (rhoN (r2 a b)) e := by
  letI := rhoN (r2 a b)
  induction e with
  | lit n => trivial
  | var i lo hi =>
    cases i with
    | zero =>
      have h' : (decide (lo ≤ Int.ofNat la) && decide (Int.ofNat ha ≤ hi)) = true := h
      simp only [Bool.and_eq_true, decide_eq_true_eq, Int.ofNat_eq_natCast] at h'
      show lo ≤ ((a : Nat) : Int) ∧ ((a : Nat) : Int) ≤ hi
      omega
    | succ i =>
      have h' : (decide (lo ≤ Int.ofNat lb) && decide (Int.ofNat hb ≤ hi)) = true := h
      simp only [Bool.and_eq_true, decide_eq_true_eq, Int.ofNat_eq_natCast] at h'
      show lo ≤ ((b : Nat) : Int) ∧ ((b : Nat) : Int) ≤ hi
      omega
  | bin o x y ihx ihy =>
    have := bif_and (x := x.varsOk la ha lb hb) (y := y.varsOk la ha lb hb) h
    exact ⟨ihx this.1, ihy this.2⟩
  | wop op k x y => cases h
  | free i => cases h

theorem SX.evM_ok (r : Nat → Nat) {e : SX} (h : e.subOk = true) (ho : @SX.ok (rhoN r) e) : @SX.eval (rhoN r) e = (e.evM r : Int) := by
  letI := rhoN r
  induction e with
  | lit n =>
    cases n with
    | ofNat n => rfl
    | negSucc n => cases h
  | var i lo hi => rfl
  | bin o a b iha ihb =>
    cases o with
    | sub =>
      have h' : (match a.rng, b.rng with | some (la, _), some (_, hb) => bif decide (hb ≤ la) then (bif a.subOk then b.subOk else false) else false | _, _ => false) = true := h
      split at h'
      · rename_i la ha lb hb e1 e2
        have h2 := bif_and h'
        have h3 := bif_and h2.2
        have k1 := SX.rng_ok e1 ho.1
        have k2 := SX.rng_ok e2 ho.2
        have hle := of_decide_eq_true h2.1
        have i1 := iha h3.1 ho.1
        have i2 := ihb h3.2 ho.2
        show @SX.eval (rhoN r) a - @SX.eval (rhoN r) b = ((a.evM r - b.evM r : Nat) : Int)
        omega
      · cases h'
    | add => have := bif_and (x := a.subOk) (y := b.subOk) h; show @SX.eval (rhoN r) a + @SX.eval (rhoN r) b = _; rw [iha this.1 ho.1, ihb this.2 ho.2]; rfl
    | mul => have := bif_and (x := a.subOk) (y := b.subOk) h; show @SX.eval (rhoN r) a * @SX.eval (rhoN r) b = _; rw [iha this.1 ho.1, ihb this.2 ho.2]; rfl
    | quo => have := bif_and (x := a.subOk) (y := b.subOk) h; show (@SX.eval (rhoN r) a).tdiv (@SX.eval (rhoN r) b) = _; rw [iha this.1 ho.1, ihb this.2 ho.2]; rfl
    | rem => have := bif_and (x := a.subOk) (y := b.subOk) h; show (@SX.eval (rhoN r) a).tmod (@SX.eval (rhoN r) b) = _; rw [iha this.1 ho.1, ihb this.2 ho.2]; rfl
  | wop op k a b => cases h
  | free i => cases h

noncomputable def numOkM (v : AV) (la ha lb hb : Nat) (f : Nat → Nat → Nat) : Bool :=
  match v with
  | .sym .i64 e _ _ => (bif SX.subOk e then (bif SX.varsOk la ha lb hb e then allLt (ha + 1 - la) fun i => allLt (hb + 1 - lb) fun j => Nat.beq (SX.evM (r2 (Nat.add la i) (Nat.add lb j)) e) (f (Nat.add la i) (Nat.add lb j)) else false) else false)
  | .int .i64 n => (match n with
    | .ofNat n => allLt (ha + 1 - la) fun i => allLt (hb + 1 - lb) fun j => Nat.beq n (f (Nat.add la i) (Nat.add lb j))
    | _ => false)
  | _ => false

theorem numOkM_ok {v : AV} {la ha lb hb : Nat} {f : Nat → Nat → Nat} (h : numOkM v la ha lb hb f = true) {a b : Nat} (h1 : la ≤ a) (h2 : a ≤ ha) (h3 : lb ≤ b) (h4 : b ≤ hb) :
    v.lone = true ∧ @AV.vl0 (rhoN (r2 a b)) v = .int .i64 (f a b : Nat) := by
  have ea : la + (a - la) = a := by omega
  have eb : lb + (b - lb) = b := by omega
  unfold numOkM at h
  split at h
  · rename_i e lo hi
    have h' := bif_and h
    have h'' := bif_and h'.2
    have := allLt_ok (allLt_ok h''.2 (a - la) (by omega)) (b - lb) (by omega)
    rw [Nat.beq_eq] at this
    simp only [Nat.add_eq, ea, eb] at this
    refine ⟨rfl, ?_⟩
    show Value.int .i64 (@SX.eval (rhoN (r2 a b)) e) = _
    rw [SX.evM_ok _ h'.1 (SX.varsOk_ok h1 h2 h3 h4 h''.1), this]
  · split at h
    · rename_i n
      have := allLt_ok (allLt_ok h (a - la) (by omega)) (b - lb) (by omega)
      rw [Nat.beq_eq] at this
      simp only [Nat.add_eq, ea, eb] at this
      exact ⟨rfl, by show Value.int .i64 (Int.ofNat n) = _; rw [this]; rfl⟩
    · cases h
  · cases h
end Go.Ev
namespace Go.Proofs.Ytjphnpbknaedcaa
open Go.Ev Go.Fl
set_option linter.unusedSectionVars false
variable {F : Gf}
noncomputable def chkR2 (f : FuncId) (op : Gf → Nat → Nat → Nat) (F : Gf) : Bool := match (evF Try.prog noOrc 5000).call f [fA F, lv 0 0 (F.q - 1), lv 1 0 (F.q - 1)] (fSt F) with
  | some (v, _, _) => numOkM v 0 (F.q - 1) 0 (F.q - 1) (op F)
  | none => false
noncomputable def chkR1 (f : FuncId) (op : Gf → Nat → Nat) (F : Gf) : Bool := match (evF Try.prog noOrc 5000).call f [fA F, lv 1 0 (F.q - 1)] (fSt F) with
  | some (v, _, _) => numOkM v 0 0 0 (F.q - 1) (fun _ b => op F b)
  | none => false
theorem r2_fact [R : Rho] {f : FuncId} {op : Gf → Nat → Nat → Nat} (hc : chkR2 f op F = true) {x y v : AV} {a b : Nat} (ha : a < F.q) (hb : b < F.q) (nx : Nu x a) (ny : Nu y b) (nv : Nu v (op F a b : Nat)) : (f2 F x y v).Holds Try.prog f := by
  unfold chkR2 at hc
  split at hc
  · rename_i v' s1 q e
    obtain ⟨k1, k2⟩ := numOkM_ok hc (Nat.zero_le a) (by omega) (Nat.zero_le b) (by omega)
    have h0 : @Fct.Holds (rhoN (r2 a b)) Try.prog f ⟨[fA F, lv 0 0 (F.q - 1), lv 1 0 (F.q - 1)], fOld F, v', [], []⟩ := Fct.holds' fit (@noOrc_ok (rhoN (r2 a b)) _) (good_n rfl (lone_all2 k1)) e
    exact turnF h0 (lone_flat k1) (by rw [@lone_vl (rhoN (r2 a b)) v' k1, k2]) (ns := [(a : Int), (b : Int)]) ⟨@lv_nu (rhoN (r2 a b)) _ _ _ _ rfl (Nat.zero_le a) (by omega), @lv_nu (rhoN (r2 a b)) _ _ _ _ rfl (Nat.zero_le b) (by omega), trivial⟩ ⟨nx, ny, trivial⟩ (rsN nv)
  · cases hc
theorem r1_fact [R : Rho] {f : FuncId} {op : Gf → Nat → Nat} (hc : chkR1 f op F = true) {y v : AV} {b : Nat} (hb : b < F.q) (ny : Nu y b) (nv : Nu v (op F b : Nat)) : (f1 F y v).Holds Try.prog f := by
  unfold chkR1 at hc
  split at hc
  · rename_i v' s1 q e
    obtain ⟨k1, k2⟩ := numOkM_ok hc (Nat.zero_le 0) (Nat.le_refl 0) (Nat.zero_le b) (by omega)
    have h0 : @Fct.Holds (rhoN (r2 0 b)) Try.prog f ⟨[fA F, lv 1 0 (F.q - 1)], fOld F, v', [], []⟩ := Fct.holds' fit (@noOrc_ok (rhoN (r2 0 b)) _) (good_n rfl (lone_all2 k1)) e
    exact turnF h0 (lone_flat k1) (by rw [@lone_vl (rhoN (r2 0 b)) v' k1, k2]) (ns := [(b : Int)]) ⟨@lv_nu (rhoN (r2 0 b)) _ _ _ _ rfl (Nat.zero_le b) (by omega), trivial⟩ ⟨ny, trivial⟩ (rsN nv)
  · cases hc
end Go.Proofs.Ytjphnpbknaedcaa
