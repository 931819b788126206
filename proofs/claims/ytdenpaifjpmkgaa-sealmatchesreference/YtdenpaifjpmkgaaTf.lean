/- Lists that are grown: the loop that appends. -/
import Derived.Test.YtdenpaifjpmkgaaTd
namespace Go.Proofs.Ytdenpaifjpmkgaa
open Go.Ev
open Go.RowKit (Below)
set_option maxRecDepth 100000
set_option linter.unusedVariables false
set_option linter.unusedSectionVars false

noncomputable def tBody (f : Nat) : Code := (((Try.prog.funcs[f]?).bind (·.body))).getD .skip
/-- a block's loop -/
def tLoop : Code → Code
  | .block _ (.loop c) => c
  | .seq (.block _ (.loop c)) _ => c
  | .seq _ b => tLoop b
  | .block _ b => tLoop b
  | _ => .skip
def tHd : Code → Code
  | .seq a _ => a
  | c => c
def tTl : Code → Code
  | .seq _ b => b
  | c => c

abbrev I63 : Int := 9223372036854775807
/-- how the list is told: 0: nil, 1: empty, 2: not longer than wanted, 3: longer -/
noncomputable def gL (a : Nat) : AV := match a with
  | 0 => .nilSlice
  | 1 => .sls 0 (.free 2) (.lit 0) (.free 1) true
  | 2 => .sls 0 (.free 2) (.var 0 1 300) (.free 1) true
  | _ => .sls 0 (.free 2) (.var 0 1 I63) (.free 1) true
noncomputable def gOld (a : Nat) : List ABlk := match a with | 0 => [] | _ => [rowD 0]
noncomputable def gH (a : Nat) : Nat := match a with | 0 => 0 | _ => 1
/-- how many are wanted: one, and the rest of the first number by m -/
noncomputable abbrev gX (m : Int) : SX := .bin .add (.lit 1) (.bin .rem (.var 3 0 65535) (.lit m))
noncomputable abbrev gA (m : Int) : AV := .sym .i64 (gX m) 1 m
/-- what is known before the loop: is more wanted than there is? the list letter 51 is what is taken -/
noncomputable def gTab0 (a : Nat) (m : Int) : KTab := match a with
  | 2 => { cmps := [(.lss, gX m, .var 0 1 300, false), (.leq, .var 0 1 300, .var 0 1 300, true)], apps := [(.int .u64, .cells [], .lst 0 (.free 2) (.var 0 1 300), 51)] }
  | 3 => { cmps := [(.lss, gX m, .var 0 1 I63, true), (.leq, gX m, .var 0 1 I63, true)], apps := [(.int .u64, .cells [], .lst 0 (.free 2) (gX m), 51)] }
  | _ => {}
noncomputable def g10 : Code := tLoop (tBody 10)
noncomputable def gT0 (a : Nat) (m : Int) : List AV := [gL a, gA m] ++ List.replicate 26 undefA
noncomputable def gS0 (a : Nat) : St := { heap := (gOld a).map some, lo := gH a, loops := [], nd := 0 }
noncomputable def gR0 (a : Nat) (m : Int) : Option (AExit × T3 × St) := (@evF noKnow Try.prog noOrc 5000).code 28 (tHd (tBody 10)) (ofL (gT0 a m)) (gS0 a)
noncomputable def gR1 (a : Nat) (m : Int) : Option (AExit × T3 × St) := (@evF (gTab0 a m).know Try.prog noOrc 5000).code 28 (tHd (tTl (tBody 10))) (ofL (roT 28 (gR0 a m))) (roS (gR0 a m))
/-- the list's row in the loop -/
noncomputable abbrev gK (a : Nat) : Nat := gH a + 1
noncomputable abbrev nX0 : SX := .var 60 0 300
noncomputable abbrev nSt (m : Int) : AV := .sym .u64 (stepX nX0 (gX m)) 0 MU
noncomputable def gTab (m : Int) (q : Nat) : KTab := match q with
  | 0 => {}
  | 1 => { cmps := [(.lss, nX0, gX m, true)], apps := [(.int .u64, .lst 60 (.lit 0) nX0, .cells [nSt m], 61)] }
  | _ => { cmps := [(.lss, nX0, gX m, false)] }
def gTops : List (Nat × AV) := [6, 7, 8, 9, 10, 11, 12, 13, 14, 15, 16, 18, 19, 20, 21, 22, 23, 24, 25, 26].map fun k => (k, .top)
noncomputable def lpG (a : Nat) (m : Int) : LoopR where
  P := Try.prog
  orc := noOrc
  kn := fun q => (gTab m q).know
  N := 28
  c := g10
  m := 4
  g := fun i => if Nat.beq i 0 && Nat.ble a 1 then {} else { gS := (5, .sls (gK a) (.lit 0) nX0 nX0 false) :: gTops, gL := [(gK a, 60)] }
  t0 := roT 28 (gR1 a m)
  s0 := roS (gR1 a m)
  ob0 := match a with | 0 => [] | 1 => [] | 2 => [(nX0, .var 0 1 300, 0, slMax)] | _ => [(nX0, gX m, 0, slMax)]
  lo0 := match a with | 0 => [] | 1 => [] | _ => [(60, 51, .int .u64)]
  src := [(0, if Nat.ble a 1 then 0 else 1)]
  nx := fun _ _ => 1
  cls := [0, 1]
  may := fun i q => if Nat.ble a 1 then Nat.beq i q else Nat.beq q 1
  ob := fun q => if Nat.beq q 0 then [(nX0, .lit 1, 0, slMax)] else [(nX0, .bin .add nX0 (.lit 1), 0, slMax)]
  lo := fun q => if Nat.beq q 0 then [(60, 62, .int .u64)] else [(60, 61, .int .u64)]
  lst := fun _ => 2
  gF := { gS := (5, .sls (gK a) (.lit 0) (gX m) (gX m) false) :: gTops, gL := [(gK a, 50)] }
  obF := [(gX m, nX0, 0, slMax)]
  loF := [(50, 60, .int .u64)]
  h := gH a
  kp := gK a
  sel := fun _ q => if Nat.beq q 0 then [gK a + 1] else [gK a + 2]
  lf := fun _ q => if Nat.beq q 0 then some (gK a, 62, .int .u64, [.sym .u64 (stepX (.lit 0) (gX m)) 0 MU]) else none
  fm := fun i => !(Nat.beq i 0 && Nat.ble a 1)
end Go.Proofs.Ytdenpaifjpmkgaa

/- Lists that are grown: what Grown answers. -/
namespace Go.Proofs.Ytdenpaifjpmkgaa
open Go.Ev
open Go.RowKit (Below)
set_option maxRecDepth 100000
set_option linter.unusedVariables false
set_option linter.unusedSectionVars false

/-! ### by the kernel -/
noncomputable def gRest (a : Nat) (m : Int) (i : Nat) : Option (AExit × T3 × St) := (@evF noKnow Try.prog noOrc 5000).code 28 (tTl (tTl (tTl (tBody 10)))) (ofL ((lpG a m).res i).1) ((lpG a m).res i).2
noncomputable def gSz (N : Nat) (c : Code) (ts : List AV) (r : Option (AExit × T3 × St)) : Bool := Nat.ble N 512 && (codeIn N c && (Nat.beq ts.length N && r.isSome))
noncomputable def gV (a : Nat) (m : Int) : AV := .sls (gK a) (.lit 0) (gX m) (gX m) false
noncomputable def gNew : ABlk := { elem := 24, cells := [], ro := false, tl := some (50, .int .u64) }
noncomputable def gFct (a : Nat) (m : Int) : Fct := ⟨[gL a, gA m], gOld a, gV a m, [gK a], [gNew]⟩
def isNo (e : AExit) : Bool := match e with | .normal => true | _ => false
def isE0 (e : AExit) : Bool := match e with | .exit 0 => true | _ => false
def isRt (e : AExit) : Bool := match e with | .ret => true | _ => false
theorem isNo_ok {e : AExit} (h : isNo e = true) : e = .normal := by cases e <;> first | rfl | cases h
theorem isE0_ok {e : AExit} (h : isE0 e = true) : e = .exit 0 := by
  cases e with
  | exit n => cases n with
    | zero => rfl
    | succ n => cases h
  | _ => cases h
theorem isRt_ok {e : AExit} (h : isRt e = true) : e = .ret := by cases e <;> first | rfl | cases h
noncomputable def gEnd (a : Nat) (m : Int) (i : Nat) : Bool :=
  isE0 (roE ((lpG a m).fin i)) && (gSz 28 (tTl (tTl (tTl (tBody 10)))) ((lpG a m).res i).1 (gRest a m i) && (isRt (roE (gRest a m i)) &&
    ((match resultsA Try.prog Try.f10 (roT 28 (gRest a m i)) (roS (gRest a m i)) with | some v => v.same (gV a m) | none => false) && chkNew (roS (gRest a m i)).heap [gK a] [gNew])))
noncomputable def gChk (a : Nat) (m : Int) : Bool :=
  (lpG a m).chk && (gSz 28 (tHd (tBody 10)) (gT0 a m) (gR0 a m) && (isNo (roE (gR0 a m)) && (gSz 28 (tHd (tTl (tBody 10))) (roT 28 (gR0 a m)) (gR1 a m) && (isNo (roE (gR1 a m)) &&
    ((Nat.ble a 1 || gEnd a m 0) && (gEnd a m 1 && (gFct a m).good))))))
theorem gChk_all : (gChk 0 300 && (gChk 1 300 && (gChk 2 300 && (gChk 3 300 && (gChk 0 60 && (gChk 1 60 && (gChk 2 60 && gChk 3 60))))))) = true := by kernel_rfl
theorem gChk_get {a : Nat} {m : Int} (ha : a < 4) (hm : m = 300 ∨ m = 60) : gChk a m = true := by
  have h := gChk_all
  simp only [Bool.and_eq_true] at h
  obtain ⟨h0, h1, h2, h3, h4, h5, h6, h7⟩ := h
  rcases hm with rfl | rfl
  · match a, ha with
    | 0, _ => exact h0
    | 1, _ => exact h1
    | 2, _ => exact h2
    | 3, _ => exact h3
  · match a, ha with
    | 0, _ => exact h4
    | 1, _ => exact h5
    | 2, _ => exact h6
    | 3, _ => exact h7
theorem gLoops {a : Nat} {m : Int} (ha : a < 4) (hm : m = 300 ∨ m = 60) : (lpG a m).Loops := by
  rcases hm with rfl | rfl
  · match a, ha with
    | 0, _ => exact (lpG 0 300).loops_of (by kernel_rfl) (by kernel_rfl)
    | 1, _ => exact (lpG 1 300).loops_of (by kernel_rfl) (by kernel_rfl)
    | 2, _ => exact (lpG 2 300).loops_of (by kernel_rfl) (by kernel_rfl)
    | 3, _ => exact (lpG 3 300).loops_of (by kernel_rfl) (by kernel_rfl)
  · match a, ha with
    | 0, _ => exact (lpG 0 60).loops_of (by kernel_rfl) (by kernel_rfl)
    | 1, _ => exact (lpG 1 60).loops_of (by kernel_rfl) (by kernel_rfl)
    | 2, _ => exact (lpG 2 60).loops_of (by kernel_rfl) (by kernel_rfl)
    | 3, _ => exact (lpG 3 60).loops_of (by kernel_rfl) (by kernel_rfl)
theorem f10_at : Try.prog.funcs[10]? = some Try.f10 := by kernel_rfl
theorem f10_body : Try.f10.body = some (tBody 10) := by kernel_rfl
theorem f10_tmps : Try.f10.ntmps = 28 := by kernel_rfl
theorem f10_parts : tBody 10 = .seq (tHd (tBody 10)) (.seq (tHd (tTl (tBody 10))) (.seq (.block 0 (.loop g10)) (tTl (tTl (tTl (tBody 10)))))) := by kernel_rfl

/-! ### the lists -/
def glL (l : List Int) (n j : Nat) : List Int := l.take n ++ (List.range j).map fun t => stepI (((l.take n).length + t : Nat) : Int) n
theorem glL_len (l : List Int) (n j : Nat) : (glL l n j).length = (l.take n).length + j := by simp [glL]
theorem glL_0 (l : List Int) (n : Nat) : glL l n 0 = l.take n := by simp [glL]
theorem glL_succ (l : List Int) (n j : Nat) : glL l n (j + 1) = glL l n j ++ [stepI (((l.take n).length + j : Nat) : Int) n] := by
  unfold glL; rw [List.range_succ, List.map_append, ← List.append_assoc]; rfl
def grownL (l : List Int) (n : Nat) : List Int := glL l n (n - (l.take n).length)
theorem grown_len (l : List Int) (n : Nat) : (grownL l n).length = n := by
  unfold grownL; rw [glL_len]
  have : (l.take n).length ≤ n := by simp; omega
  omega
theorem grown_u64 {l : List Int} (h : ∀ x ∈ l, u64 x) (n : Nat) : ∀ x ∈ grownL l n, u64 x := by
  intro x hx
  rcases List.mem_append.1 hx with hx | hx
  · exact h x (List.mem_of_mem_take hx)
  · obtain ⟨t, _, rfl⟩ := List.mem_map.1 hx
    exact tU _ _

/-- a list letter stands for a list -/
structure LetL (R : Rho) (k : Nat) (l : List Int) : Prop where
  s : @lskip R k = 0
  n : @llen R k = l.length
  v : ∀ i, @lval R k (.int .u64) i = .int .u64 (l.getD i 0)
theorem LetL.rowOk {R : Rho} {k : Nat} {l : List Int} (h : LetL R k l) (hu : ∀ x ∈ l, u64 x) : RowOk R k l 0 := ⟨h.s, h.n, h.v, hu⟩
theorem LetL.set {R : Rho} {k : Nat} {l : List Int} (hk : k < 1000) : LetL (setL R k l) k l := ⟨setL_skip hk, setL_len hk, fun i => setL_val hk _ i⟩
theorem LetL.keepL {R : Rho} {k k' : Nat} {l m : List Int} (h : LetL R k l) (hk : k < 1000) (hne : k ≠ k') : LetL (setL R k' m) k l :=
  ⟨by rw [← h.s]; unfold lskip; rw [setL_ne hne hk], by rw [← h.n]; unfold llen; rw [setL_ne hne hk], fun i => by rw [← h.v i]; unfold lval lel; rw [setL_ne hne hk]⟩
theorem LetL.keepN {R : Rho} {k i : Nat} {n : Int} {l : List Int} (h : LetL R k l) (hi : i < 1000000) : LetL (setN R i n) k l :=
  ⟨by rw [← h.s]; unfold lskip; rw [setN_lst hi], by rw [← h.n]; unfold llen; rw [setN_lst hi], fun t => by rw [← h.v t]; unfold lval lel; rw [setN_lst hi]⟩
/-- two list letters for one list -/
theorem lobs {R1 R2 : Rho} {k k' : Nat} {l : List Int} (h1 : LetL R2 k l) (h2 : LetL R1 k' l) : @lskip R2 k = @lskip R1 k' ∧ @llen R2 k = @llen R1 k' ∧ ∀ i, i < @llen R1 k' → @lval R2 k (.int .u64) i = @lval R1 k' (.int .u64) i :=
  ⟨by rw [h1.s, h2.s], by rw [h1.n, h2.n], fun i _ => by rw [h1.v, h2.v]⟩

structure GrowOk (R : Rho) (a : Nat) (m : Int) (l : List Int) (n off : Nat) : Prop where
  hm : m = 300 ∨ m = 60
  n1 : 1 ≤ n
  n2 : (n : Int) ≤ m
  nE : @SX.eval R (gX m) = n
  x3 : 0 ≤ @Rho.ρ R 3 ∧ @Rho.ρ R 3 ≤ 65535
  cls : (a = 0 ∧ l = []) ∨ (a = 1 ∧ l = []) ∨ (a = 2 ∧ 0 < l.length ∧ l.length ≤ n) ∨ (a = 3 ∧ n < l.length)
  row : a ≠ 0 → RowOk R 0 l off ∧ @SX.eval R (.free 2) = (off : Int) ∧ @Rho.ρ R 0 = (l.length : Int)
  u : ∀ x ∈ l, u64 x
  t : LetL R 51 (l.take n)
  g : LetL R 50 (grownL l n)

@[reducible] def gJ (R : Rho) (l : List Int) (n j : Nat) : Rho := setL (setL (setL (setN R 60 (((l.take n).length + j : Nat) : Int)) 60 (glL l n j)) 61 (glL l n (j + 1))) 62 (glL l n (j + 1))

section
variable {R : Rho} {a : Nat} {m : Int} {l : List Int} {n off : Nat}
theorem gJ_num {j i : Nat} (h : i < 1000000) (hne : i ≠ 60) : @Rho.ρ (gJ R l n j) i = @Rho.ρ R i := by
  unfold gJ; rw [setL_num h, setL_num h, setL_num h, setN_ne hne]
theorem gJ_n60 {j : Nat} : @Rho.ρ (gJ R l n j) 60 = (((l.take n).length + j : Nat) : Int) := by
  unfold gJ; rw [setL_num (by omega), setL_num (by omega), setL_num (by omega), setN_at]
theorem gJ_p60 {j : Nat} : LetL (gJ R l n j) 60 (glL l n j) := ((LetL.set (by omega)).keepL (by omega) (by omega)).keepL (by omega) (by omega)
theorem gJ_l61 {j : Nat} : LetL (gJ R l n j) 61 (glL l n (j + 1)) := (LetL.set (by omega)).keepL (by omega) (by omega)
theorem gJ_l62 {j : Nat} : LetL (gJ R l n j) 62 (glL l n (j + 1)) := LetL.set (by omega)
theorem gJ_agree (j : Nat) : Agree 4 R (gJ R l n j) :=
  ⟨fun i hi => (gJ_num (by omega) (by omega)).symm, fun k t hk => by
    unfold gJ
    rw [setL_ne (by omega) (by omega), setL_ne (by omega) (by omega), setL_ne (by omega) (by omega), setN_lst (by omega)]⟩
theorem gX_eval {R' : Rho} (h : @Rho.ρ R' 3 = @Rho.ρ R 3) : @SX.eval R' (gX m) = @SX.eval R (gX m) := by
  show 1 + (@Rho.ρ R' 3).tmod m = 1 + (@Rho.ρ R 3).tmod m
  rw [h]

theorem sl_ob {R1 R2 : Rho} {v : Int} {e : SX} (h1 : @Rho.ρ R2 60 = v) (h2 : @SX.eval R1 e = v) (h3 : 0 ≤ v) (h4 : v ≤ 300) : @SX.ok R2 nX0 ∧ @SX.eval R2 nX0 = @SX.eval R1 e ∧ 0 ≤ @SX.eval R2 nX0 ∧ @SX.eval R2 nX0 ≤ slMax := by
  have g : @SX.eval R2 nX0 = v := h1
  refine ⟨?_, by rw [g, h2], by rw [g]; exact h3, by rw [g]; unfold slMax; omega⟩
  show (0 : Int) ≤ @Rho.ρ R2 60 ∧ @Rho.ρ R2 60 ≤ 300
  rw [h1]; exact ⟨h3, h4⟩

variable (hg : GrowOk R a m l n off)
include hg
theorem g_n : n ≤ 300 := by
  have := hg.n2
  rcases hg.hm with h | h <;> omega
theorem g_a : a < 4 := by rcases hg.cls with h | h | h | h <;> omega
theorem g_take : (l.take n).length ≤ n := by simp; omega
theorem gXe (j : Nat) : @SX.eval (gJ R l n j) (gX m) = (n : Int) := by rw [← hg.nE]; exact gX_eval (gJ_num (by omega) (by omega))
theorem gX_ok (j : Nat) : @SX.ok (gJ R l n j) (gX m) := by
  refine ⟨trivial, ?_, trivial⟩
  show 0 ≤ @Rho.ρ (gJ R l n j) 3 ∧ @Rho.ρ (gJ R l n j) 3 ≤ 65535
  rw [gJ_num (by omega) (by omega)]; exact hg.x3

theorem gKnow (j q : Nat) (hq : q = 0 ∨ (q = 1 ∧ (l.take n).length + j < n) ∨ (q = 2 ∧ (l.take n).length + j = n)) : @KnowOk (gJ R l n j) (gTab m q).know := by
  have hn := g_n hg
  have e0 : @SX.eval (gJ R l n j) nX0 = (((l.take n).length + j : Nat) : Int) := gJ_n60
  rcases hq with rfl | ⟨rfl, h⟩ | ⟨rfl, h⟩
  · exact KTab.ok {}
  · refine KTab.ok { cmps := ?_, apps := ?_ }
    · intro x hx
      obtain rfl := List.mem_singleton.1 hx
      refine ⟨by simp [cmpNo], fun _ _ => ?_⟩
      show some (decide (@SX.eval (gJ R l n j) nX0 < @SX.eval (gJ R l n j) (gX m))) = some true
      rw [e0, gXe hg]; simp only [Option.some.injEq, decide_eq_true_eq]; omega
    · intro x hx _ _
      obtain rfl := List.mem_singleton.1 hx
      have h1 := gJ_p60 (R := R) (l := l) (n := n) (j := j)
      have h2 := gJ_l61 (R := R) (l := l) (n := n) (j := j)
      have hs : @AV.vl0 (gJ R l n j) (nSt m) = .int .u64 (stepI (((l.take n).length + j : Nat) : Int) n) := by
        show Value.int .u64 (@SX.eval (gJ R l n j) (stepX nX0 (gX m))) = _
        rw [@stepX_eval (gJ R l n j), e0, gXe hg]
      refine app_snoc h1.s h1.n h1.v (by rw [e0, glL_len]) h2.s (by rw [h2.n, glL_succ]; simp) (fun i => ?_) hs
      rw [h2.v, glL_succ]
  · refine KTab.ok { cmps := ?_ }
    intro x hx
    obtain rfl := List.mem_singleton.1 hx
    refine ⟨by simp [cmpNo], fun _ _ => ?_⟩
    show some (decide (@SX.eval (gJ R l n j) nX0 < @SX.eval (gJ R l n j) (gX m))) = some false
    rw [e0, gXe hg]; simp only [Option.some.injEq, decide_eq_false_iff_not]; omega

theorem gKnow0 : @KnowOk R (gTab0 a m).know := by
  have hn := g_n hg
  rcases hg.cls with ⟨rfl, _⟩ | ⟨rfl, _⟩ | ⟨rfl, h1, h2⟩ | ⟨rfl, h1⟩
  · exact KTab.ok {}
  · exact KTab.ok {}
  · obtain ⟨hr, e2, e0⟩ := hg.row (by omega)
    have eV : @SX.eval R (.var 0 1 300) = (l.length : Int) := e0
    have ht : l.take n = l := List.take_of_length_le h2
    refine KTab.ok { cmps := ?_, apps := ?_ }
    · intro x hx
      simp only [gTab0, List.mem_cons, List.not_mem_nil, or_false] at hx
      rcases hx with rfl | rfl
      · refine ⟨by simp [cmpNo], fun _ _ => ?_⟩
        show some (decide (@SX.eval R (gX m) < @SX.eval R (.var 0 1 300))) = some false
        rw [hg.nE, eV]; simp only [Option.some.injEq, decide_eq_false_iff_not]; omega
      · refine ⟨by simp [cmpNo], fun _ _ => ?_⟩
        show some (decide (@SX.eval R (.var 0 1 300) ≤ @SX.eval R (.var 0 1 300))) = some true
        simp
    · intro x hx _ _
      obtain rfl := List.mem_singleton.1 hx
      have h3 := hg.t
      rw [ht] at h3
      letI := R
      refine ⟨h3.s, ?_, trivial, ?_⟩
      · have e1 : (List.range l.length).map (lval 51 (.int .u64)) = (List.range l.length).map (fun i => lval 0 (.int .u64) (off - lskip 0 + i)) := List.map_congr_left fun i hi => by
          rw [h3.v, hr.val, hr.skip]
          congr 2; omega
        simp only [lvals, descV]
        rw [h3.n, eV, e2, Int.toNat_natCast, Int.toNat_natCast, e1]; rfl
      · simp only [descIn]
        rw [hr.skip, hr.len, eV, e2]; omega
  · obtain ⟨hr, e2, e0⟩ := hg.row (by omega)
    have eV : @SX.eval R (.var 0 1 I63) = (l.length : Int) := e0
    have htl : (l.take n).length = n := by simp; omega
    refine KTab.ok { cmps := ?_, apps := ?_ }
    · intro x hx
      simp only [gTab0, List.mem_cons, List.not_mem_nil, or_false] at hx
      rcases hx with rfl | rfl
      · refine ⟨by simp [cmpNo], fun _ _ => ?_⟩
        show some (decide (@SX.eval R (gX m) < @SX.eval R (.var 0 1 I63))) = some true
        rw [hg.nE, eV]; simp only [Option.some.injEq, decide_eq_true_eq]; omega
      · refine ⟨by simp [cmpNo], fun _ _ => ?_⟩
        show some (decide (@SX.eval R (gX m) ≤ @SX.eval R (.var 0 1 I63))) = some true
        rw [hg.nE, eV]; simp only [Option.some.injEq, decide_eq_true_eq]; omega
    · intro x hx _ _
      obtain rfl := List.mem_singleton.1 hx
      have h3 := hg.t
      letI := R
      refine ⟨h3.s, ?_, trivial, ?_⟩
      · have e1 : (List.range n).map (lval 51 (.int .u64)) = (List.range n).map (fun i => lval 0 (.int .u64) (off - lskip 0 + i)) := List.map_congr_left fun i hi => by
          have := List.mem_range.1 hi
          have e : (l.take n).getD i 0 = l.getD i 0 := by simp [List.getD, List.getElem?_take_of_lt this]
          rw [h3.v, hr.val, hr.skip, e]
          congr 2; omega
        simp only [lvals, descV]
        rw [h3.n, htl, hg.nE, e2, Int.toNat_natCast, Int.toNat_natCast, e1]; rfl
      · simp only [descIn]
        rw [hr.skip, hr.len, hg.nE, e2]; omega

theorem grown_fct : @Fct.Holds R Try.prog 10 (gFct a m) := by
  have hn := g_n hg
  have ha := g_a hg
  have htk := g_take hg
  have hn1 := hg.n1
  have hck := gChk_get ha hg.hm
  unfold gChk at hck
  simp only [Bool.and_eq_true] at hck
  obtain ⟨c1, c2, c3, c4, c5, c6, c7, c8⟩ := hck
  obtain ⟨K, hK⟩ : ∃ K, (l.take n).length + K = n := ⟨n - (l.take n).length, by omega⟩
  have small : Nat.ble a 1 = true → l = [] ∧ 0 < K := fun h => by
    rw [Nat.ble_eq] at h
    rcases hg.cls with ⟨_, rfl⟩ | ⟨_, rfl⟩ | ⟨h2, _⟩ | ⟨h2, _⟩
    · simp at hK; exact ⟨rfl, by omega⟩
    · simp at hK; exact ⟨rfl, by omega⟩
    · omega
    · omega
  let q : Nat → Nat := fun j => if Nat.ble a 1 && Nat.beq j 0 then 0 else 1
  have hat : ∀ j, (lpG a m).at' q j = if j = 0 then 0 else 1 := fun j => by cases j <;> rfl
  have q01 : ∀ j, q j = 0 ∨ q j = 1 := fun j => by
    show (if _ then 0 else 1 : Nat) = 0 ∨ (if _ then 0 else 1 : Nat) = 1
    split <;> simp
  have q0 : ∀ j, q j = 0 → Nat.ble a 1 = true ∧ j = 0 := fun j h => by
    by_cases hc : (Nat.ble a 1 && Nat.beq j 0) = true
    · rw [Bool.and_eq_true, Nat.beq_eq] at hc; exact hc
    · have : q j = 1 := if_neg hc
      omega
  have q1 : ∀ j, q j = 1 → ¬ (Nat.ble a 1 = true ∧ j = 0) := fun j h hc => by
    have : q j = 0 := if_pos (by rw [Bool.and_eq_true, Nat.beq_eq]; exact hc)
    omega
  have hloop : SAtF Try.prog (gH a) (.loop g10) R (roT 28 (gR1 a m)) (roS (gR1 a m)) (roE ((lpG a m).fin ((lpG a m).at' q K))) R ((lpG a m).res ((lpG a m).at' q K)).1 ((lpG a m).res ((lpG a m).at' q K)).2 := by
    refine (lpG a m).sound (K := K) (q := q) (R := R) (J := fun j => gJ R l n j) (@fit R) c1 (gLoops ha hg.hm) (fun j _ => @noOrc_ok (gJ R l n j) _) (fun j hj => ?_) (fun j hj => ?_) ?_ (fun j _ => gJ_agree j) ?_ ?_ (fun j hj => ?_) (fun j hj => ?_) ?_ ?_ (fun j hj i k d cs e => ?_) ?_
    · have hc : (lpG a m).cls = [0, 1] := rfl
      refine ⟨by rw [hc]; rcases q01 j with h | h <;> rw [h] <;> simp, ?_⟩
      show (if Nat.ble a 1 then Nat.beq ((lpG a m).at' q j) (q j) else Nat.beq (q j) 1) = true
      rw [hat]
      rcases q01 j with h | h
      · obtain ⟨b1, b2⟩ := q0 j h
        rw [if_pos b1, h, b2]; rfl
      · have := q1 j h
        rw [h]
        split
        · rename_i h1
          rw [if_neg (fun h2 => this ⟨h1, h2⟩)]; rfl
        · rfl
    · refine gKnow hg j (q j) ?_
      rcases q01 j with h | h
      · exact .inl h
      · exact .inr (.inl ⟨h, by omega⟩)
    · exact gKnow hg K 2 (.inr (.inr ⟨rfl, hK⟩))
    · intro x hx
      rcases hg.cls with ⟨rfl, _⟩ | ⟨rfl, _⟩ | ⟨rfl, h1, h2⟩ | ⟨rfl, h1⟩
      · cases hx
      · cases hx
      · obtain ⟨_, _, e0⟩ := hg.row (by omega)
        obtain rfl := List.mem_singleton.1 hx
        refine sl_ob (v := (l.length : Int)) ?_ e0 (by omega) (by omega)
        rw [gJ_n60, List.take_of_length_le h2]; simp
      · obtain rfl := List.mem_singleton.1 hx
        refine sl_ob (v := (n : Int)) ?_ hg.nE (by omega) (by omega)
        rw [gJ_n60]
        simp; omega
    · intro x hx
      rcases hg.cls with ⟨rfl, _⟩ | ⟨rfl, _⟩ | ⟨rfl, h1, h2⟩ | ⟨rfl, h1⟩
      · cases hx
      · cases hx
      · obtain rfl := List.mem_singleton.1 hx
        have := gJ_p60 (R := R) (l := l) (n := n) (j := 0)
        rw [glL_0] at this
        exact lobs this hg.t
      · obtain rfl := List.mem_singleton.1 hx
        have := gJ_p60 (R := R) (l := l) (n := n) (j := 0)
        rw [glL_0] at this
        exact lobs this hg.t
    · intro x hx
      have hx' : x ∈ (if Nat.beq (q j) 0 then [(nX0, SX.lit 1, (0 : Int), slMax)] else [(nX0, SX.bin .add nX0 (.lit 1), (0 : Int), slMax)]) := hx
      rcases q01 j with h | h
      · rw [h] at hx'
        obtain rfl := List.mem_singleton.1 hx'
        obtain ⟨b1, rfl⟩ := q0 j h
        obtain ⟨rfl, _⟩ := small b1
        exact sl_ob (v := 1) (by rw [gJ_n60]; simp) rfl (by omega) (by omega)
      · rw [h] at hx'
        obtain rfl := List.mem_singleton.1 hx'
        refine sl_ob (v := (((l.take n).length + (j + 1) : Nat) : Int)) gJ_n60 ?_ (by omega) (by omega)
        show @Rho.ρ (gJ R l n j) 60 + 1 = _
        rw [gJ_n60]; omega
    · intro x hx
      have hx' : x ∈ (if Nat.beq (q j) 0 then [(60, 62, EK.int .u64)] else [(60, 61, EK.int .u64)]) := hx
      rcases q01 j with h | h
      · rw [h] at hx'
        obtain rfl := List.mem_singleton.1 hx'
        exact lobs gJ_p60 gJ_l62
      · rw [h] at hx'
        obtain rfl := List.mem_singleton.1 hx'
        exact lobs gJ_p60 gJ_l61
    · intro x hx
      obtain rfl := List.mem_singleton.1 hx
      refine ⟨?_, ?_, ?_, ?_⟩
      · exact ⟨trivial, ⟨by show (0 : Int) ≤ @Rho.ρ R 3; exact hg.x3.1, hg.x3.2⟩, trivial⟩
      · show @SX.eval R (gX m) = @Rho.ρ (gJ R l n K) 60
        rw [hg.nE, gJ_n60, hK]
      · show (0 : Int) ≤ @SX.eval R (gX m)
        rw [hg.nE]; omega
      · show @SX.eval R (gX m) ≤ 9223372036854775807
        rw [hg.nE]; omega
    · intro x hx
      obtain rfl := List.mem_singleton.1 hx
      have := gJ_p60 (R := R) (l := l) (n := n) (j := K)
      rw [show glL l n K = grownL l n by unfold grownL; congr 1; omega] at this
      exact lobs hg.g this
    · have e' : (if Nat.beq (q j) 0 then some (gK a, 62, EK.int .u64, [AV.sym .u64 (stepX (.lit 0) (gX m)) 0 MU]) else none) = some (i, k, d, cs) := e
      rcases q01 j with h | h
      · rw [h] at e'
        obtain ⟨b1, rfl⟩ := q0 j h
        obtain ⟨rfl, _⟩ := small b1
        rw [if_pos (show Nat.beq 0 0 = true from rfl)] at e'
        simp only [Option.some.injEq, Prod.mk.injEq] at e'
        obtain ⟨_, rfl, rfl, rfl⟩ := e'
        have h3 := gJ_l62 (R := R) (l := []) (n := n) (j := 0)
        have e1 : glL [] n 1 = [stepI 0 n] := by simp [glL]
        rw [e1] at h3
        refine ⟨h3.s, h3.n, fun i hi => ?_⟩
        have hi0 : i = 0 := by simp at hi; exact hi
        subst hi0
        rw [h3.v]
        show _ = Value.int .u64 (@SX.eval (gJ R [] n 0) (stepX (.lit 0) (gX m)))
        rw [@stepX_eval (gJ R [] n 0), gXe hg]; rfl
      · rw [h] at e'
        cases e'
    · show (!(Nat.beq ((lpG a m).at' q K) 0 && Nat.ble a 1)) = true
      rw [hat]
      by_cases h1 : Nat.ble a 1 = true
      · have := small h1
        rw [if_neg (by omega)]; rfl
      · simp [h1]
  have hend : gEnd a m ((lpG a m).at' q K) = true := by
    rw [hat]
    split
    · rename_i h0
      rw [Bool.or_eq_true] at c6
      rcases c6 with h | h
      · have := small h; omega
      · exact h
    · exact c7
  unfold gEnd at hend
  simp only [Bool.and_eq_true] at hend
  obtain ⟨d1, d2, d3, d4, d5⟩ := hend
  rw [isE0_ok d1] at hloop
  letI := R
  have x0 : SAtX Try.prog (tHd (tBody 10)) R (gT0 a m) (gS0 a) (roE (gR0 a m)) R (roT 28 (gR0 a m)) (roS (gR0 a m)) := @sat_run Try.prog noOrc R noKnow noKnow_ok fit (noOrc_ok _) 28 _ _ _ _ rfl c2
  have x1 : SAtX Try.prog (tHd (tTl (tBody 10))) R (roT 28 (gR0 a m)) (roS (gR0 a m)) (roE (gR1 a m)) R (roT 28 (gR1 a m)) (roS (gR1 a m)) := @sat_run Try.prog noOrc R (gTab0 a m).know (gKnow0 hg) fit (noOrc_ok _) 28 _ _ _ _ rfl c4
  have x3 : SAtX Try.prog (tTl (tTl (tTl (tBody 10)))) R ((lpG a m).res ((lpG a m).at' q K)).1 ((lpG a m).res ((lpG a m).at' q K)).2 (roE (gRest a m ((lpG a m).at' q K))) R (roT 28 (gRest a m ((lpG a m).at' q K))) (roS (gRest a m ((lpG a m).at' q K))) :=
    @sat_run Try.prog noOrc R noKnow noKnow_ok fit (noOrc_ok _) 28 _ _ _ _ rfl d2
  rw [isNo_ok c3] at x0
  rw [isNo_ok c5] at x1
  rw [isRt_ok d3] at x3
  have x := (SAtF.of (h := gH a) x0).seq ((SAtF.of x1).seq (hloop.block.seq (SAtF.of x3)))
  rw [← f10_parts] at x
  have hs : (gS0 a).heap.length = gH a := by
    rcases hg.cls with ⟨rfl, _⟩ | ⟨rfl, _⟩ | ⟨rfl, _⟩ | ⟨rfl, _⟩ <;> rfl
  have hol : (gOld a).length = gH a := by
    rcases hg.cls with ⟨rfl, _⟩ | ⟨rfl, _⟩ | ⟨rfl, _⟩ | ⟨rfl, _⟩ <;> rfl
  rw [← hs] at x
  have hx := SAtF.to x
  have hv : resultsA Try.prog Try.f10 (roT 28 (gRest a m ((lpG a m).at' q K))) (roS (gRest a m ((lpG a m).at' q K))) = some (gFct a m).v := by
    split at d4
    · rename_i v hv
      rw [hv, AV.same_ok d4]; rfl
    · cases d4
  refine holds_at (F := gFct a m) f10_at f10_body ?_ (.inr rfl) hv d5 (.inr (.inr rfl)) c8
  rw [f10_tmps]
  have e1 : ({ heap := (gFct a m).old.map some, lo := (gFct a m).old.length, loops := [], nd := 0 } : St) = gS0 a := by
    show ({ heap := (gOld a).map some, lo := (gOld a).length, loops := [], nd := 0 } : St) = _
    rw [hol]; rfl
  rw [e1]
  exact hx
end
end Go.Proofs.Ytdenpaifjpmkgaa
