/- The reference's digest of a list of bytes. -/
import Derived.Test.YtdenpaifjpmkgaaVe
import Derived.Test.YtdenpaifjpmkgaaXc
namespace Go.Proofs.Ytdenpaifjpmkgaa
open Go.Ev
open Go.RowKit (Below)
set_option maxRecDepth 100000
set_option linter.unusedVariables false
set_option linter.unusedSectionVars false

noncomputable abbrev row0c : Option ABlk := some { elem := 5, cells := [], ro := true, tl := some (0, .int .u8) }
noncomputable def rbT0 : List AV := [slA 0] ++ List.replicate 45 undefA
noncomputable def rbS0 : St := { heap := [row0c], lo := 1, loops := [], nd := 0 }
noncomputable def b18 : Code := tTl (tTl (tBody 18))
noncomputable def rbA : Option (AExit × T3 × St) := (@evF noKnow Try.prog noOrc 5000).code 46 (tHd (tBody 18)) (ofL rbT0) rbS0
noncomputable def rbB : Option (AExit × T3 × St) := (@evF noKnow Try.prog noOrc 5000).code 46 (tHd (tTl (tBody 18))) (ofL (roT 46 rbA)) (roS rbA)
noncomputable def rbC : Option (AExit × T3 × St) := (@evF noKnow Try.prog noOrc 5000).code 46 (tHd (tHd b18)) (ofL (roT 46 rbB)) (roS rbB)
noncomputable abbrev i8X : SX := .var 51 0 B40
noncomputable abbrev ikX (k : Nat) : SX := .bin .add i8X (.lit (Int.ofNat k))
noncomputable abbrev byA (k : Nat) : AV := .sym .u8 (.var (60 + k) 0 255) 0 255
/-- a round with q + 1 bytes; 8: the end -/
noncomputable def tRB (q : Nat) : KTab := if Nat.beq q 8 then { cmps := [(.lss, i8X, lnX, false)] } else
  { cmps := (.lss, i8X, lnX, true) :: (List.range 8).map fun k => (.lss, ikX k, lnX, Nat.ble k q)
    cells := (0, .int .u8, .bin .add ofX i8X, byA 0) :: (List.range (q + 1)).map fun k => (0, .int .u8, .bin .add ofX (ikX k), byA k) }
/-- the group's first bytes -/
noncomputable def gpX : Nat → SX
  | 0 => .lit 0
  | k + 1 => .wop .or .u64 (gpX k) (.wop .shl .u64 (.var (60 + k) 0 255) (.lit (Int.ofNat (8 * k))))
def rbTops : List (Nat × AV) := ([5, 6, 7, 8, 9, 11, 12, 13, 16, 17, 18, 19, 20] ++ (List.range 18).map (· + 23)).map fun k => (k, .top)
noncomputable def lpRB : LoopD where
  P := Try.prog
  orc := noOrc
  kn := fun q => (tRB q).know
  N := 46
  c := tLoop (tTl (tHd b18))
  m := 40
  g := fun _ => { gS := [(3, u64A 70), (4, .sym .i64 i8X 0 B40)] ++ rbTops }
  t0 := roT 46 rbC
  s0 := roS rbC
  ob0 := [(i8X, .lit 0, 0, B40), (.var 70 0 MU, .lit 1818321765, 0, MU)]
  src := [(0, 7), (0, 0), (0, 1), (0, 2), (0, 3), (0, 4), (0, 5), (0, 6)]
  nx := fun _ q => if Nat.beq q 7 then 1 else q + 2
  cls := [0, 1, 2, 3, 4, 5, 6, 7]
  may := fun i _ => Nat.ble i 1
  ob := fun q => [(i8X, .bin .add i8X (.lit 8), 0, B40), (.var 70 0 MU, stepX (.var 70 0 MU) (gpX (q + 1)), 0, MU)]
  lst := fun _ => 8
  gF := { gS := [(3, u64A 41), (4, .top)] ++ rbTops }
  obF := [(.var 41 0 MU, .var 70 0 MU, 0, MU)]
theorem lpRB_chk : lpRB.chk = true := by kernel_rfl
theorem lpRB_loops : lpRB.Loops := lpRB.loops_of (by kernel_rfl) (by kernel_rfl)
noncomputable def rbR (i : Nat) : Option (AExit × T3 × St) := (@evF noKnow Try.prog noOrc 5000).code 46 (tTl b18) (ofL (lpRB.res i).1) (lpRB.res i).2
noncomputable def rbEnd (i : Nat) : Bool := isE0 (roE (lpRB.fin i)) && (gSz 46 (tTl b18) (lpRB.res i).1 (rbR i) && (isRt (roE (rbR i)) &&
  ((match resultsA Try.prog Try.f18 (roT 46 (rbR i)) (roS (rbR i)) with | some v => v.same fctX.v | none => false) && (chkNew (roS (rbR i)).heap [] [] && Nat.blt (roS (rbR i)).lo 1))))
theorem rbEnd_all : lpRB.idx.all rbEnd = true := by kernel_rfl
theorem rbPre : (gSz 46 (tHd (tBody 18)) rbT0 rbA && (isNo (roE rbA) && (gSz 46 (tHd (tTl (tBody 18))) (roT 46 rbA) rbB && (isNo (roE rbB) && (gSz 46 (tHd (tHd b18)) (roT 46 rbB) rbC && isNo (roE rbC)))))) = true := by kernel_rfl
theorem f18_at : Try.prog.funcs[18]? = some Try.f18 := by kernel_rfl
theorem f18_body : Try.f18.body = some (tBody 18) := by kernel_rfl
theorem f18_tmps : Try.f18.ntmps = 46 := by kernel_rfl
theorem b18_parts : tBody 18 = .seq (tHd (tBody 18)) (.seq (tHd (tTl (tBody 18))) (.seq (.seq (tHd (tHd b18)) (.block 0 (.loop (tLoop (tTl (tHd b18)))))) (tTl b18))) := by kernel_rfl

/-! ### groups -/
def grI (l : List Int) (u : Nat) : Nat → Int
  | 0 => 0
  | k + 1 => orI (grI l u k) (shlI (l.getD (8 * u + k) 0) (8 * k : Nat))
theorem bSt_8 (l : List Int) (u : Nat) : (bSt l (8 * u)).2 = 0 := by
  cases u with
  | zero => rfl
  | succ u =>
    rw [show 8 * (u + 1) = (8 * u + 7) + 1 by omega]
    simp only [bSt]
    rw [if_neg]
    unfold qX
    rw [if_pos (by omega)]; omega
theorem bSt_k {l : List Int} {u : Nat} : ∀ k, k ≤ 7 → 8 * u + k < l.length → bSt l (8 * u + k) = ((bSt l (8 * u)).1, grI l u k)
  | 0, _, _ => by
    show bSt l (8 * u) = _
    exact Prod.ext rfl (bSt_8 l u)
  | k + 1, h1, h2 => by
    have ih := bSt_k (l := l) (u := u) k (by omega) (by omega)
    have e : (8 * u + k) % 8 = k := by omega
    rw [show 8 * u + (k + 1) = (8 * u + k) + 1 by omega]
    simp only [bSt]
    rw [if_pos (by unfold qX; rw [if_neg (by omega), if_pos (by omega)]; omega), ih, e]
    rfl
theorem bSt_q {l : List Int} {u q : Nat} (h1 : q ≤ 7) (h2 : 8 * u + q < l.length) (h3 : q = 7 ∨ 8 * u + q + 1 = l.length) : bSt l (8 * u + q + 1) = (stepI (bSt l (8 * u)).1 (grI l u (q + 1)), 0) := by
  have ih := bSt_k (l := l) (u := u) q h1 h2
  have e : (8 * u + q) % 8 = q := by omega
  simp only [bSt]
  rw [if_neg (by
    unfold qX
    rcases h3 with h3 | h3
    · rw [if_pos (by omega)]; omega
    · split
      · omega
      · rw [if_neg (by omega)]; omega), ih, e]
  rfl

def numB (l : List Int) (off cap u : Nat) (i : Nat) : Int :=
  if i = 0 then l.length else if i = 1 then cap else if i = 2 then off else if i = 41 then bF0 l else if i = 51 then (8 * u : Nat) else if 60 ≤ i ∧ i < 68 then l.getD (8 * u + (i - 60)) 0 else if i = 70 then (bSt l (min (8 * u) l.length)).1 else 0
@[reducible] def rB (l : List Int) (off cap u : Nat) : Rho := mkRho (numB l off cap u) (fun _ => (off, l))
theorem agB {l : List Int} {off cap : Nat} (j k : Nat) : Agree 40 (rB l off cap j) (rB l off cap k) :=
  mk_agree (by omega) (fun i hi => by unfold numB; (repeat' split) <;> first | rfl | omega) (fun _ _ => rfl)
def qB (n u : Nat) : Nat := min 7 (n - 8 * u - 1)
theorem lRB_at {n : Nat} (u : Nat) (h : 8 * u < n) : lpRB.at' (qB n) u ≤ 1 := by
  cases u with
  | zero => show 0 ≤ 1; omega
  | succ u =>
    show (if Nat.beq (qB n u) 7 then 1 else qB n u + 2) ≤ 1
    rw [if_pos (by rw [Nat.beq_eq]; unfold qB; omega)]
    exact Nat.le_refl _

section
variable {l : List Int} {off cap : Nat}
theorem eB0 {u : Nat} : @SX.eval (rB l off cap u) lnX = (l.length : Int) := mk_num (by omega)
theorem eB51 {u : Nat} : @SX.eval (rB l off cap u) i8X = ((8 * u : Nat) : Int) := mk_num (by omega)
theorem eB2 {u : Nat} : @SX.eval (rB l off cap u) ofX = (off : Int) := mk_num (by omega)
theorem eB6 {u k : Nat} (hk : k < 8) : @Rho.ρ (rB l off cap u) (60 + k) = l.getD (8 * u + k) 0 := by
  rw [mk_num (by omega)]
  unfold numB
  rw [if_neg (by omega), if_neg (by omega), if_neg (by omega), if_neg (by omega), if_neg (by omega), if_pos (by omega), show 60 + k - 60 = k by omega]
theorem eB70 {u : Nat} : @Rho.ρ (rB l off cap u) 70 = (bSt l (min (8 * u) l.length)).1 := by rw [mk_num (by omega)]; simp [numB]
theorem gp_eval {u : Nat} : ∀ k, k ≤ 8 → @SX.eval (rB l off cap u) (gpX k) = grI l u k
  | 0, _ => rfl
  | k + 1, h => by
    show wapp .or .u64 (@SX.eval (rB l off cap u) (gpX k)) (wapp .shl .u64 (@Rho.ρ (rB l off cap u) (60 + k)) (Int.ofNat (8 * k))) = _
    rw [gp_eval k (by omega), eB6 (by omega)]; rfl
variable (hl : l.length ≤ 1000) (hi : ∀ n ∈ l, byt n)
include hl hi
theorem tRB_ok {u : Nat} (hu : 8 * u < l.length) : @KnowOk (rB l off cap u) (tRB (qB l.length u)).know := by
  have hq : qB l.length u ≤ 7 := by unfold qB; omega
  have hqn : 8 * u + qB l.length u < l.length := by unfold qB; omega
  have hT : tRB (qB l.length u) = { cmps := (.lss, i8X, lnX, true) :: (List.range 8).map fun k => (.lss, ikX k, lnX, Nat.ble k (qB l.length u)), cells := (0, .int .u8, .bin .add ofX i8X, byA 0) :: (List.range (qB l.length u + 1)).map fun k => (0, .int .u8, .bin .add ofX (ikX k), byA k) } := by
    unfold tRB; rw [if_neg (by simp; omega)]
  rw [hT]
  have cell : ∀ (k : Nat) (e : SX), k ≤ qB l.length u → @SX.eval (rB l off cap u) e = ((off + (8 * u + k) : Nat) : Int) → ∃ i : Nat, @SX.eval (rB l off cap u) e = ((@lskip (rB l off cap u) 0 + i : Nat) : Int) ∧ i < @llen (rB l off cap u) 0 ∧ ∀ π lm, @VR (rB l off cap u) π lm (byA k) (@lval (rB l off cap u) 0 (.int .u8) i) := by
    intro k e hk he
    have g : @lel (rB l off cap u) 0 (8 * u + k) = l.getD (8 * u + k) 0 := mk_el (by omega) _
    have hg : byt (l.getD (8 * u + k) 0) := hi _ (by
      have : 8 * u + k < l.length := by omega
      simp [List.getD, this])
    refine cell_i64 (i := 8 * u + k) ?_ ?_ (by rw [g]; exact eB6 (by omega)) (by rw [g]; exact hg.1) (by rw [g]; exact hg.2)
    · rw [he, mk_skip (by omega)]
    · rw [mk_len (by omega)]; show 8 * u + k < l.length; omega
  refine KTab.ok { cmps := ?_, cells := ?_ }
  · intro x hx
    rcases List.mem_cons.1 hx with rfl | hx
    · refine ⟨by simp [cmpNo], fun _ _ => ?_⟩
      show some (decide (@SX.eval (rB l off cap u) i8X < @SX.eval (rB l off cap u) lnX)) = some true
      rw [eB51, eB0]; simp only [Option.some.injEq, decide_eq_true_eq]; omega
    · obtain ⟨k, hk, rfl⟩ := List.mem_map.1 hx
      have hk8 := List.mem_range.1 hk
      refine ⟨by simp [cmpNo], fun _ _ => ?_⟩
      show some (decide (@SX.eval (rB l off cap u) i8X + Int.ofNat k < @SX.eval (rB l off cap u) lnX)) = some (Nat.ble k (qB l.length u))
      rw [eB51, eB0]
      refine congrArg some ?_
      rw [Bool.eq_iff_iff, decide_eq_true_iff, Nat.ble_eq]
      unfold qB
      simp only [Int.ofNat_eq_natCast]
      omega
  · intro x hx _
    rcases List.mem_cons.1 hx with rfl | hx
    · refine cell 0 _ (by omega) ?_
      show @SX.eval (rB l off cap u) ofX + @SX.eval (rB l off cap u) i8X = _
      rw [eB51, eB2]; omega
    · obtain ⟨k, hk, rfl⟩ := List.mem_map.1 hx
      have hkq := List.mem_range.1 hk
      refine cell k _ (by omega) ?_
      show @SX.eval (rB l off cap u) ofX + (@SX.eval (rB l off cap u) i8X + Int.ofNat k) = _
      rw [eB51, eB2]; simp only [Int.ofNat_eq_natCast]; omega

theorem loopRB {K : Nat} (hK : K = (l.length + 7) / 8) : SAtX Try.prog (.loop (tLoop (tTl (tHd b18)))) (rB l off cap 0) (roT 46 rbC) (roS rbC) (roE (lpRB.fin (lpRB.at' (qB l.length) K))) (rB l off cap 0) (lpRB.res (lpRB.at' (qB l.length) K)).1 (lpRB.res (lpRB.at' (qB l.length) K)).2 := by
  have hB : B40 = 1099511627776 := rfl
  refine lpRB.sound (K := K) (q := qB l.length) (R := rB l off cap 0) (J := fun j => rB l off cap j) (@fit (rB l off cap 0)) lpRB_chk lpRB_loops (fun j _ => @noOrc_ok (rB l off cap j) _) (fun j hj => ⟨?_, ?_⟩)
    (fun j hj => tRB_ok hl hi (by omega)) ?_ (fun j _ => agB 0 j) ?_ (fun x hx => by cases hx) (fun j hj => ?_) (fun j _ x hx => by cases hx) ?_ (fun x hx => by cases hx)
  · show qB l.length j ∈ [0, 1, 2, 3, 4, 5, 6, 7]
    have : qB l.length j < 8 := by unfold qB; omega
    have h8 : qB l.length j ∈ List.range 8 := List.mem_range.2 this
    exact h8
  · show Nat.ble (lpRB.at' (qB l.length) j) 1 = true
    rw [Nat.ble_eq]; exact lRB_at j (by omega)
  · show @KnowOk (rB l off cap K) (tRB 8).know
    refine KTab.ok { cmps := ?_ }
    intro x hx
    obtain rfl := List.mem_singleton.1 hx
    refine ⟨by simp [cmpNo], fun _ _ => ?_⟩
    show some (decide (@SX.eval (rB l off cap K) i8X < @SX.eval (rB l off cap K) lnX)) = some false
    rw [eB51, eB0]; simp only [Option.some.injEq, decide_eq_false_iff_not]; omega
  · intro x hx
    have hx' : x ∈ [(i8X, SX.lit 0, (0 : Int), B40), (SX.var 70 0 MU, SX.lit 1818321765, (0 : Int), MU)] := hx
    simp only [List.mem_cons, List.not_mem_nil, or_false] at hx'
    rcases hx' with rfl | rfl
    · exact ob_var (v := 0) eB51 rfl (by omega) (by decide)
    · exact ob_var (v := W1) (by rw [eB70]; simp [bSt]) rfl (by decide) (by decide)
  · intro x hx
    have hx' : x ∈ [(i8X, SX.bin .add i8X (.lit 8), (0 : Int), B40), (SX.var 70 0 MU, stepX (.var 70 0 MU) (gpX (qB l.length j + 1)), (0 : Int), MU)] := hx
    have hq : qB l.length j ≤ 7 := by unfold qB; omega
    have hqn : 8 * j + qB l.length j < l.length := by unfold qB; omega
    simp only [List.mem_cons, List.not_mem_nil, or_false] at hx'
    rcases hx' with rfl | rfl
    · refine ob_var (v := ((8 * (j + 1) : Nat) : Int)) eB51 ?_ (by omega) (by omega)
      show @SX.eval (rB l off cap j) i8X + 8 = _
      rw [eB51]; omega
    · have g := (bSt_u64 l (min (8 * (j + 1)) l.length)).1
      refine ob_var (v := (bSt l (min (8 * (j + 1)) l.length)).1) eB70 ?_ g.1 g.2
      have hm : min (8 * (j + 1)) l.length = 8 * j + qB l.length j + 1 := by unfold qB; omega
      rw [@stepX_eval (rB l off cap j), gp_eval _ (by omega), hm, bSt_q hq hqn (by unfold qB; omega)]
      show stepI (@Rho.ρ (rB l off cap j) 70) _ = _
      rw [eB70, show min (8 * j) l.length = 8 * j by omega]
  · intro x hx
    obtain rfl := List.mem_singleton.1 hx
    have g := (bSt_u64 l l.length).1
    refine ob_var (v := bF0 l) (by rw [mk_num (by omega)]; simp [numB]) ?_ g.1 g.2
    show @Rho.ρ (rB l off cap K) 70 = _
    rw [eB70, show min (8 * K) l.length = l.length by omega]; rfl

theorem rbytesR : @Fct.Holds (rB l off cap 0) Try.prog 18 fctX := by
  letI := rB l off cap 0
  have hp := rbPre
  simp only [Bool.and_eq_true] at hp
  obtain ⟨p1, p2, p3, p4, p5, p6⟩ := hp
  have x0 : SAtX Try.prog (tHd (tBody 18)) (rB l off cap 0) rbT0 rbS0 (roE rbA) (rB l off cap 0) (roT 46 rbA) (roS rbA) := @sat_run Try.prog noOrc (rB l off cap 0) noKnow noKnow_ok fit (noOrc_ok _) 46 _ _ _ _ rfl p1
  have x1 : SAtX Try.prog (tHd (tTl (tBody 18))) (rB l off cap 0) (roT 46 rbA) (roS rbA) (roE rbB) (rB l off cap 0) (roT 46 rbB) (roS rbB) := @sat_run Try.prog noOrc (rB l off cap 0) noKnow noKnow_ok fit (noOrc_ok _) 46 _ _ _ _ rfl p3
  have x2 : SAtX Try.prog (tHd (tHd b18)) (rB l off cap 0) (roT 46 rbB) (roS rbB) (roE rbC) (rB l off cap 0) (roT 46 rbC) (roS rbC) := @sat_run Try.prog noOrc (rB l off cap 0) noKnow noKnow_ok fit (noOrc_ok _) 46 _ _ _ _ rfl p5
  rw [isNo_ok p2] at x0
  rw [isNo_ok p4] at x1
  rw [isNo_ok p6] at x2
  have hlp := loopRB (off := off) (cap := cap) hl hi (K := (l.length + 7) / 8) rfl
  have hidx : lpRB.at' (qB l.length) ((l.length + 7) / 8) ∈ lpRB.idx := lpRB.at_idx (qB l.length) lpRB_chk (fun j hj => by
    refine ⟨?_, ?_⟩
    · show qB l.length j ∈ [0, 1, 2, 3, 4, 5, 6, 7]
      have : qB l.length j < 8 := by unfold qB; omega
      have h8 : qB l.length j ∈ List.range 8 := List.mem_range.2 this
      exact h8
    · show Nat.ble (lpRB.at' (qB l.length) j) 1 = true
      rw [Nat.ble_eq]; exact lRB_at j (by omega)) _ (Nat.le_refl _)
  have hend := List.all_eq_true.1 rbEnd_all _ hidx
  generalize lpRB.at' (qB l.length) ((l.length + 7) / 8) = i at *
  unfold rbEnd at hend
  simp only [Bool.and_eq_true] at hend
  obtain ⟨d1, d2, d3, d4, d5, d6⟩ := hend
  rw [isE0_ok d1] at hlp
  have x3 : SAtX Try.prog (tTl b18) (rB l off cap 0) (lpRB.res i).1 (lpRB.res i).2 (roE (rbR i)) (rB l off cap 0) (roT 46 (rbR i)) (roS (rbR i)) := @sat_run Try.prog noOrc (rB l off cap 0) noKnow noKnow_ok fit (noOrc_ok _) 46 _ _ _ _ rfl d2
  rw [isRt_ok d3] at x3
  have x := x0.seq (x1.seq ((x2.seq hlp.block).seq x3))
  rw [← b18_parts] at x
  have hv : resultsA Try.prog Try.f18 (roT 46 (rbR i)) (roS (rbR i)) = some fctX.v := by
    split at d4
    · rename_i v hv
      rw [hv, AV.same_ok d4]
    · cases d4
  refine holds_at (F := fctX) f18_at f18_body ?_ (.inr rfl) hv d5 (.inl (by show _ < 1; simpa using d6)) fctX_good
  rw [f18_tmps]
  exact x
end
end Go.Proofs.Ytdenpaifjpmkgaa

/- The reference's digest of a list of bytes: what it answers, and as a fact. -/
namespace Go.Proofs.Ytdenpaifjpmkgaa
open Go.Ev
open Go.RowKit (Below)
set_option maxRecDepth 100000
set_option linter.unusedVariables false
set_option linter.unusedSectionVars false

/-- slices of numbers, as they stand: Words' contract -/
theorem rbytes_c {l : List Int} (hl : l.length ≤ 1000) (hi : ∀ n ∈ l, byt n) {W : World} {b off cap fz1 fz2 : Nat} {c : Array Value} {e0 : TypeId} (hcap : l.length ≤ cap) (hc : W.heap[b]? = some (.cells c e0 (fz1, fz2))) (hcl : ∀ i, i < l.length → c[off + i]? = some (.int .u8 (l.getD i 0))) :
    Calls Try.prog 18 #[.slice (some ⟨b, off, none⟩) l.length cap] W fun e W' => e = .returned (.int .u64 (bI l)) ∧ Below W.heap.size W W' := by
  letI := rB l off cap 0
  have h := rbytesR (off := off) (cap := cap) hl hi
  let π : Inj := fun i => if i = 0 then some (b, c.size) else none
  have hw : WR W.heap.size π [] fctX.st W := {
    dom := fun i x hx => by
      simp only [π] at hx
      split at hx
      · rename_i h0; subst h0; show 0 < 1; omega
      · cases hx
    blk := fun i A hA => by
      have hi0 : i = 0 := by
        have := (List.getElem?_eq_some_iff.1 hA).1
        have : i < 1 := this
        omega
      subst hi0
      obtain rfl : A = { elem := 5, cells := [], ro := true, tl := some (0, .int .u8) } := by
        have : some (some ({ elem := 5, cells := [], ro := true, tl := some (0, .int .u8) } : ABlk)) = some (some A) := hA
        exact (Option.some.inj (Option.some.inj this)).symm
      refine ⟨b, c.size, c, (e0, fz1, fz2), rfl, hc, rfl, (fun h => nomatch h), LR.nil, fun k d hk i hi => ?_⟩
      simp only [Option.some.injEq, Prod.mk.injEq] at hk
      obtain ⟨rfl, rfl⟩ := hk
      rw [mk_len (by omega)] at hi
      rw [mk_skip (by omega), mk_val (by omega)]
      exact hcl i hi
    inj := fun i j A A' b n m h1 h2 h3 => by
      have hi0 : i = 0 := by
        have := (List.getElem?_eq_some_iff.1 h1).1
        have : i < 1 := this
        omega
      have hj0 : j = 0 := by
        have := (List.getElem?_eq_some_iff.1 h2).1
        have : j < 1 := this
        omega
      intro _ _; omega
    lsz := rfl
    linj := fun l l' L h => by simp at h
    loop := fun l r h => by cases h }
  have e0 : lnX.eval = (l.length : Int) := mk_num (by omega)
  have e1 : cpX.eval = (cap : Int) := mk_num (by omega)
  have e2 : ofX.eval = (off : Int) := mk_num (by omega)
  have hargs : LR π [] fctX.args #[Value.slice (some ⟨b, off, none⟩) l.length cap].toList := by
    refine LR.cons ?_ LR.nil
    have so : SlOk ofX lnX cpX := by
      refine ⟨trivial, ?_, trivial, by rw [e2]; omega, by rw [e0]; omega, by rw [e0, e1]; omega⟩
      show (0 : Int) ≤ Rho.ρ 0 ∧ Rho.ρ 0 ≤ (1099511627776 : Int); rw [show Rho.ρ 0 = (l.length : Int) from e0]; omega
    have := VR.slsEx (π := π) (lm := []) (b := 0) (b' := b) (n := c.size) so rfl
    rw [e0, e1, e2] at this
    simpa using this
  refine (Fct.calls h rfl hw hargs).mono ?_
  rintro e W' ⟨rfl, hb⟩
  refine ⟨?_, hb⟩
  show Ending.returned (.int .u64 (stepX (.var 41 0 MU) lnX).eval) = _
  rw [stepX_eval, e0, show (SX.var 41 0 MU).eval = bF0 l from mk_num (by omega)]
  rfl

/-- Words as a fact, of any slice that a list stands in -/
theorem rbytes_fct {R : Rho} {l : List Int} (hl : l.length ≤ 1000) (hi : ∀ n ∈ l, byt n) {off len cap : SX} {ex : Bool} {k : Nat} {v : AV} (hlen : len.eval = (l.length : Int)) (h1 : lskip k ≤ off.eval.toNat) (h2 : off.eval.toNat + l.length ≤ lskip k + llen k)
    (hv : ∀ i, i < l.length → lval k (.int .u8) (off.eval.toNat - lskip k + i) = .int .u8 (l.getD i 0)) (v1 : v.lone = true) (v2 : v.vl0 = .int .u64 (bI l)) (v3 : v.fine0) :
    (Fct.mk [.sls 0 off len cap ex] [{ elem := 5, cells := [], ro := true, tl := some (k, .int .u8) }] v [] []).Holds Try.prog 18 := by
  refine fct_of rfl rfl ?_ (lone_flat v1) (lone_fine v1 v3) (by kernel_rfl) (fun π w vs hw hr => ?_)
  · show (true && ((true && true) && (all2 _ v && (true && (true && true))))) = true
    rw [lone_all2 v1]; rfl
  · obtain ⟨c, ws, hvs, r1, r2⟩ := LR.uncons hr
    obtain rfl := r2.nil_inv
    obtain rfl : vs = #[c] := by rw [← Array.toList_inj, hvs]
    obtain ⟨so, b', n, cap', hp, rfl, hex⟩ := VR.sls_inv r1
    obtain ⟨cs, fz, g1, g2, _, _, g4⟩ := hw.at (i := 0) (A := { elem := 5, cells := [], ro := true, tl := some (k, .int .u8) }) rfl hp
    have n3 := so.n3
    have n2 := so.n2
    have e1 : len.eval.toNat = l.length := by omega
    rw [e1]
    have := rbytes_c hl hi (W := w) (b := b') (off := off.eval.toNat) (cap := cap') (c := cs) (e0 := fz.1) (fz1 := fz.2.1) (fz2 := fz.2.2) (by rcases hex with ⟨_, h⟩ | ⟨_, h, _⟩ <;> omega) g1 (fun i hi' => by
      rw [show off.eval.toNat + i = lskip k + (off.eval.toNat - lskip k + i) by omega, g4 k (.int .u8) rfl _ (by omega)]
      rw [hv i hi'])
    refine this.mono ?_
    rintro e W' ⟨he, hb⟩
    refine ⟨?_, hb⟩
    rw [he, lone_vl v1, v2]
end Go.Proofs.Ytdenpaifjpmkgaa
