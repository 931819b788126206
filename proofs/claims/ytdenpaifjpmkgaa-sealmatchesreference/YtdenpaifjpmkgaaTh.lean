/- Trees of digests: an input of a law, and what its letters stand for. -/
import Derived.Test.YtdenpaifjpmkgaaTg
namespace Go.Proofs.Ytdenpaifjpmkgaa
open Go.Ev
open Go.RowKit (Below)
set_option maxRecDepth 100000
set_option linter.unusedVariables false
set_option linter.unusedSectionVars false

/-- Sides: 1 where what comes of the path so far is the left half -/
def sideL (n i : Nat) : List Int :=
  if h : n < 2 then [] else if i < hf n then sideL (hf n) i ++ [1] else sideL (n - hf n) (i - hf n) ++ [0]
termination_by n
decreasing_by
  · have := hf_bd (show 2 ≤ n by omega); omega
  · have := hf_bd (show 2 ≤ n by omega); omega

/-- an input: the list, the small numbers, a digest -/
structure InT where
  m : Int
  l : List Int
  off : Nat
  cap : Nat
  k0 : Int
  k1 : Int
  k2 : Int
  v : Int
  xi : Int := 0
namespace InT
variable (I : InT)
def n : Nat := 1 + (I.k0 % I.m).toNat
def G : List Int := grownL I.l I.n
def i : Nat := (I.k1 % I.n).toNat
def O : List Int := I.G.set I.i I.v
def P : List Int := pathL I.G I.i
def d : Nat := depN I.n I.i
def at' : Nat := if I.d = 0 then 0 else (I.k2 % I.d).toNat
def num (a : Nat) : Int :=
  if 4 ≤ a ∧ a < 14 then I.P.getD (a - 4) 0 else
  if a = 0 then I.l.length else if a = 1 then I.cap else if a = 2 then I.off else if a = 3 then I.k0 else if a = 15 then I.k1 else if a = 16 then I.k2 / I.d else if a = 17 then I.v else if a = 18 then I.k2 else if a = 19 then I.d else if a = 27 then (climbL I.n I.i I.v (I.l.take (min I.l.length I.d))).1 else if a = 28 then I.xi else
  if a = 20 then rootL I.G else if a = 21 then I.G.getD I.i 0 else if a = 22 then rootL I.O else if a = 24 then (climbL I.n I.i (I.G.getD I.i 0) (I.P.set I.at' I.v)).1 else
  if a = 25 then (climbL I.n I.i (I.G.getD I.i 0) (I.P ++ [I.v])).1 else if a = 26 then (climbL I.n I.i (I.G.getD I.i 0) (I.P.take (I.d - 1))).1 else 0
def ls (k : Nat) : Nat × List Int :=
  if k = 0 then (I.off, I.l) else if k = 50 then (0, I.G) else if k = 51 then (0, I.l.take I.n) else if k = 52 then (0, I.O) else if k = 53 then (0, I.G) else if k = 54 then (0, I.P) else if k = 55 then (0, sideL I.n I.i) else (0, [])
@[reducible] def R : Rho := mkRho I.num I.ls
structure Ok : Prop where
  m : I.m = 300 ∨ I.m = 60
  u : ∀ x ∈ I.l, u64 x
  k0 : 0 ≤ I.k0 ∧ I.k0 ≤ 65535
  k1 : 0 ≤ I.k1 ∧ I.k1 ≤ 65535
  k2 : 0 ≤ I.k2 ∧ I.k2 ≤ 65535
  v : u64 I.v
end InT

section
variable {I : InT}
theorem t_let {k : Nat} (hk : k < 1000) {l : List Int} (h : I.ls k = (0, l)) : LetL I.R k l :=
  ⟨by rw [mk_skip hk, h], by rw [mk_len hk, h], fun i => by rw [mk_val hk, h]; rfl⟩
theorem t_num {a : Nat} (h : a < 1000000) : @Rho.ρ I.R a = I.num a := mk_num h
variable (h : I.Ok)
include h
theorem t_n : 1 ≤ I.n ∧ (I.n : Int) ≤ I.m ∧ I.n ≤ 300 := by
  unfold InT.n
  rcases h.m with hm | hm <;> rw [hm] <;> omega
theorem t_i : I.i < I.n := by
  have := t_n h
  unfold InT.i
  have := Int.emod_lt_of_pos I.k1 (show (0 : Int) < I.n by omega)
  have := Int.emod_nonneg I.k1 (show (I.n : Int) ≠ 0 by omega)
  omega
theorem t_nE : @SX.eval I.R (gX I.m) = (I.n : Int) := by
  show 1 + (@Rho.ρ I.R 3).tmod I.m = _
  rw [t_num (by omega), show I.num 3 = I.k0 from rfl, Int.tmod_eq_emod_of_nonneg h.k0.1]
  unfold InT.n
  rcases h.m with hm | hm <;> rw [hm] <;> omega
theorem t_nOk : @SX.ok I.R (gX I.m) := by
  refine ⟨trivial, ?_, trivial⟩
  show 0 ≤ @Rho.ρ I.R 3 ∧ @Rho.ρ I.R 3 ≤ 65535
  rw [t_num (by omega)]; exact h.k0
theorem t_iE : @SX.eval I.R (iX I.m) = (I.i : Int) := by
  have := t_n h
  show (@Rho.ρ I.R 15).tmod (@SX.eval I.R (gX I.m)) = _
  rw [t_num (by omega), show I.num 15 = I.k1 from rfl, t_nE h, Int.tmod_eq_emod_of_nonneg h.k1.1]
  unfold InT.i
  have := Int.emod_nonneg I.k1 (show (I.n : Int) ≠ 0 by omega)
  omega
theorem t_iOk : @SX.ok I.R (iX I.m) := by
  refine ⟨?_, t_nOk h⟩
  show 0 ≤ @Rho.ρ I.R 15 ∧ @Rho.ρ I.R 15 ≤ 65535
  rw [t_num (by omega)]; exact h.k1
theorem t_GL : I.G.length = I.n := grown_len _ _
theorem t_Gu : ∀ x ∈ I.G, u64 x := grown_u64 h.u _
theorem t_OL : I.O.length = I.n := by unfold InT.O; rw [List.length_set]; exact t_GL h
theorem t_Ou : ∀ x ∈ I.O, u64 x := fun x hx => by
  rcases List.mem_or_eq_of_mem_set hx with e | e
  · exact t_Gu h x e
  · exact e ▸ h.v
theorem t_PL : I.P.length = I.d := by unfold InT.P InT.d; rw [path_len, t_GL h]
theorem t_Pu : ∀ x ∈ I.P, u64 x := path_u64 (t_Gu h) _
theorem t_d : I.d < 10 := by
  have := dep_le 9 I.n I.i (by have := t_n h; omega)
  unfold InT.d; omega
theorem t_path {t : Nat} (ht : t < 10) : @Rho.ρ I.R (4 + t) = I.P.getD t 0 := by
  rw [t_num (by omega)]
  unfold InT.num
  rw [if_pos (by omega), show 4 + t - 4 = t by omega]
theorem t_lA : u64 (I.G.getD I.i 0) := getD_u64 (t_Gu h) _
/-- how the list is told -/
def ClsT (I : InT) (a : Nat) : Prop := (a = 0 ∧ I.l = []) ∨ (a = 1 ∧ I.l = []) ∨ (a = 2 ∧ 0 < I.l.length ∧ I.l.length ≤ I.n) ∨ (a = 3 ∧ I.n < I.l.length)
theorem t_grow {a : Nat} (ha : ClsT I a) : GrowOk I.R a I.m I.l I.n I.off where
  hm := h.m
  n1 := (t_n h).1
  n2 := (t_n h).2.1
  nE := t_nE h
  x3 := by rw [t_num (by omega)]; exact h.k0
  cls := ha
  row := fun _ => ⟨⟨mk_skip (by omega), mk_len (by omega), fun i => mk_val (by omega) _ i, h.u⟩, t_num (by omega), t_num (by omega)⟩
  u := h.u
  t := t_let (by omega) rfl
  g := t_let (by omega) rfl
theorem t_nA : @Is0 I.R (nA I.m) (.int .i64 I.n) := @Is0.sym I.R _ _ _ _ _ (t_nOk h) (t_nE h) (by have := t_n h; omega) (t_n h).2.1
theorem t_iA : @Is0 I.R (iA I.m) (.int .i64 I.i) := @Is0.sym I.R _ _ _ _ _ (t_iOk h) (t_iE h) (by omega) (by have := t_i h; have := t_n h; omega)
theorem t_open {k : Nat} (hk : k = 50 ∨ (k = 52 ∧ I.m = 300)) : @Fct.Holds I.R Try.prog 40 (oFct I.m k I.d) := by
  have hn := t_n h
  have hi := t_i h
  have hd := t_d h
  rcases hk with rfl | ⟨rfl, hm⟩
  · exact open_hold (by rcases h.m with e | e; exact .inl ⟨e, .inl rfl⟩; exact .inr ⟨e, rfl⟩) (L := I.G) (t_let (by omega) rfl) (t_Gu h) (t_GL h) hn.1 hn.2.2 hi (t_nE h) (t_nOk h) hn.2.1 (t_iE h) (t_iOk h) (fun t ht => t_path h (by unfold InT.d at hd; omega))
  · exact open_hold (.inl ⟨hm, .inr rfl⟩) (L := I.O) (t_let (by omega) rfl) (t_Ou h) (t_OL h) hn.1 hn.2.2 hi (t_nE h) (t_nOk h) hn.2.1 (t_iE h) (t_iOk h) (fun t ht => by
      rw [t_path h (by unfold InT.d at hd; omega)]
      show (pathL I.G I.i).getD t 0 = (pathL (I.G.set I.i I.v) I.i).getD t 0
      rw [path_set])
theorem t_rootG : @Fct.Holds I.R Try.prog 23 (rFct I.m 50 20) := root_hold (L := I.G) (t_let (by omega) rfl) (t_Gu h) (t_GL h) (t_n h).1 (t_n h).2.2 (t_nE h) (t_num (by omega))
theorem t_rootO : @Fct.Holds I.R Try.prog 23 (rFct I.m 52 22) := root_hold (L := I.O) (t_let (by omega) rfl) (t_Ou h) (t_OL h) (t_n h).1 (t_n h).2.2 (t_nE h) (t_num (by omega))
theorem t_cells {d : Nat} (hd : d < 10) : (cells4 d).all AV.lone = true ∧ (cells4 d).length = d ∧ ∀ t (ht : t < (cells4 d).length), @AV.vl0 I.R (cells4 d)[t] = .int .u64 (I.P.getD t 0) := by
  refine ⟨?_, by simp [cells4], fun t ht => ?_⟩
  · simp [cells4, AV.lone]
  · have : t < d := by simpa [cells4] using ht
    simp only [cells4, List.getElem_map, List.getElem_range]
    show Value.int .u64 (@Rho.ρ I.R (4 + t)) = _
    rw [t_path h (by omega)]
/-- climb along the path, whatever the leaf -/
theorem t_climb {leaf r : Nat} {x : Int} {ok : Bool} (hx : @Rho.ρ I.R leaf = x) (hu : u64 x) (hr : @Rho.ρ I.R r = (climbL I.n I.i x I.P).1) (hok : ok = (climbL I.n I.i x I.P).2) : @Fct.Holds I.R Try.prog 48 (kFct I.m leaf r ok (pathV I.d 0) (cells4 I.d)) := by
  have hn := t_n h
  have hi := t_i h
  have hd := t_d h
  have hPL := t_PL h
  have l0 := @Is0.dig I.R leaf x hx hu
  have r0 := @Is0.dig I.R r _ hr (climb_u64 hu)
  obtain ⟨c1, c2, c3⟩ := t_cells h hd
  generalize I.d = d at *
  cases d with
  | zero =>
    have hP : I.P = [] := List.length_eq_zero_iff.1 hPL
    rw [hP] at r0 hok
    exact climb_none hn.1 (by omega) hi hu (t_nA h) (t_iA h) l0 r0 hok
  | succ d =>
    have he : pOld (cells4 (d + 1)) = [{ elem := 24, cells := cells4 (d + 1), ro := true }] := by simp [pOld, cells4, List.range_succ_eq_map]
    unfold kFct
    rw [he]
    exact climb_cells hn.1 (by omega) hi hu (t_Pu h) hPL (by omega) (Nat.le_refl _) (t_nA h) (t_iA h) l0 c1 (by omega) (fun t ht _ => c3 t ht) r0 hok
theorem eqB {x y : Int} {p : Prop} [Decidable p] (e : x = y ↔ p) : cmpI .eql x y = some (decide p) := by
  show some (x == y) = _
  congr 1
  by_cases hp : p
  · rw [decide_eq_true hp]; simpa using e.2 hp
  · rw [decide_eq_false hp]; simpa using fun e' => hp (e.1 e')
theorem t_put (R : Rho) {k k' : Nat} {L : List Int} {i : Nat} {x : Int} {e : SX} {v : AV} (h1 : LetL R k L) (h2 : LetL R k' (L.set i x)) (hi : i < L.length) (he : @SX.eval R e = (i : Int)) (hv : @AV.vl0 R v = .int .u64 x) :
    @lskip R k' = @lskip R k ∧ @llen R k' = @llen R k ∧ ∃ i : Nat, @SX.eval R e = ((@lskip R k + i : Nat) : Int) ∧ i < @llen R k ∧ @AV.vl0 R v = @lval R k' (.int .u64) i ∧ ∀ j, j ≠ i → j < @llen R k → @lval R k' (.int .u64) j = @lval R k (.int .u64) j := by
  refine ⟨by rw [h1.s, h2.s], by rw [h1.n, h2.n, List.length_set], i, by rw [he, h1.s, Nat.zero_add], by rw [h1.n]; exact hi, ?_, fun j hj _ => ?_⟩
  · rw [hv, h2.v]; simp [List.getD, hi]
  · rw [h1.v, h2.v]; simp [List.getD, List.getElem?_set_ne (Ne.symm hj)]
theorem t_copy (R : Rho) {k k' : Nat} {L : List Int} {len : SX} (h1 : LetL R k L) (h2 : LetL R k' L) (he : @SX.eval R len = (L.length : Int)) :
    @lskip R k' = 0 ∧ @lvals R k' (.int .u64) = @descV R (.int .u64) (.cells []) ++ @descV R (.int .u64) (.lst k (.lit 0) len) ∧ @descIn R (.cells []) ∧ @descIn R (.lst k (.lit 0) len) := by
  letI := R
  have e0 : (SX.lit 0).eval.toNat = 0 := rfl
  refine ⟨h2.s, ?_, trivial, ?_⟩
  · have e1 : (List.range L.length).map (lval k' (.int .u64)) = (List.range L.length).map (fun i => lval k (.int .u64) (0 - lskip k + i)) := List.map_congr_left fun i hi => by
      rw [h1.v, h2.v, h1.s]; congr 2; omega
    simp only [lvals, descV]
    rw [h2.n, he, e0, Int.toNat_natCast, e1]; rfl
  · simp only [descIn]
    rw [h1.s, h1.n, he, e0]; omega
theorem t_cell (R : Rho) {k i a : Nat} {L : List Int} {e : SX} (h1 : LetL R k L) (hi : i < L.length) (he : @SX.eval R e = (i : Int)) (ha : @Rho.ρ R a = L.getD i 0) (hu : u64 (L.getD i 0)) :
    ∃ i : Nat, @SX.eval R e = ((@lskip R k + i : Nat) : Int) ∧ i < @llen R k ∧ ∀ π lm, @VR R π lm (dA a) (@lval R k (.int .u64) i) := by
  refine ⟨i, by rw [he, h1.s, Nat.zero_add], by rw [h1.n]; exact hi, fun π lm => ?_⟩
  rw [h1.v]
  have := @Is0.dig R a _ ha hu
  have h2 := @vl0_rel R π lm _ this.l this.f
  rw [this.v] at h2; exact h2
end
end Go.Proofs.Ytdenpaifjpmkgaa
