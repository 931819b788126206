/- The digest of a list of numbers: its loop. -/
import Derived.Test.YtdenpaifjpmkgaaEvN8
import Derived.Test.YtdenpaifjpmkgaaSb
import Derived.Test.YtdenpaifjpmkgaaChecked
namespace Go.Proofs.Ytdenpaifjpmkgaa
open Go.Ev
set_option maxRecDepth 100000

/-- letters: 0 the length, 1 the capacity, 2 the place; 50 how many rounds are done, 60 the next element, 70 the digest so far -/
abbrev B40 : Int := 1099511627776
abbrev lnX : SX := .var 0 0 B40
abbrev cpX : SX := .free 1
abbrev ofX : SX := .free 2
abbrev inX : SX := .var 50 0 B40
abbrev slA (b : Nat) : AV := .sls b ofX lnX cpX true
abbrev i64A (i : Nat) : AV := .sym .i64 (.var i (-9223372036854775808) 9223372036854775807) (-9223372036854775808) 9223372036854775807
abbrev u64A (i : Nat) : AV := .sym .u64 (.var i 0 MU) 0 MU
/-- what is known in a round, and in the last one -/
noncomputable def tW (b : Bool) : KTab := { cmps := [(.lss, inX, lnX, b)], cells := if b then [(0, .int .i64, .bin .add ofX inX, i64A 60)] else [] }
@[reducible] noncomputable def kW (b : Bool) : Know := (tW b).know
noncomputable def bodyOf (f : Nat) : Code := (((Try.prog.funcs[f]?).bind (·.body))).getD .skip
/-- a block's loop -/
def inLoop : Code → Code
  | .block _ (.loop c) => c
  | .seq _ b => inLoop b
  | .block _ b => inLoop b
  | _ => .skip
def hd : Code → Code
  | .seq a _ => a
  | c => c
/-- the parts of a loop over a function -/
def rgA : Code → Code
  | .rangeFunc _ _ a _ => a
  | .seq _ b => rgA b
  | .block _ b => rgA b
  | _ => .skip
def rgB : Code → Code
  | .rangeFunc _ _ _ b => b
  | .seq _ b => rgB b
  | .block _ b => rgB b
  | _ => .skip
def tlC : Code → Code
  | .seq _ b => b
  | c => c
noncomputable def w45 : Code := inLoop (bodyOf 45)
noncomputable abbrev row0 : Option ABlk := some { elem := 3, cells := [], ro := true, tl := some (0, .int .i64) }
noncomputable def wH (h : AV) : List (Option ABlk) := [row0, some { elem := 59, cells := [h], ro := false }, some { elem := 22, cells := [slA 0], ro := false }]
noncomputable def fdT : List AV := [.fn 45 [] [.ptr 2 0], .fn 32 [.ptr 1 0] [], undefA, .ptr 3 0, undefA, .fn 45 [] [.ptr 2 0], undefA, undefA, undefA, undefA]
/-- before the loop over the list's numbers -/
noncomputable def s45 (h : AV) (lo : Nat) : St := { heap := wH h ++ [some { elem := 60, cells := [.fn 32 [.ptr 1 0] []], ro := false }], lo := lo, nd := 0, loops := [{ tmps := fdT, params := [6], assign := rgA (bodyOf 35), body := rgB (bodyOf 35), stat := .ready }] }
abbrev W0 : Int := 123610861172083
noncomputable def pre45 : Option (AExit × T3 × St) := (@evF noKnow Try.prog noOrc 5000).code 17 (hd (bodyOf 45)) (ofL ([.yield 0, .ptr 2 0] ++ List.replicate 15 undefA)) (s45 (.int .u64 W0) 4)
abbrev iAw : AV := .sym .i64 inX 0 B40
noncomputable abbrev stepO : SX := stepX (.var 70 0 MU) (.wop .add .u64 (.var 60 (-9223372036854775808) 9223372036854775807) (.lit 0))
noncomputable def lpW : LoopD where
  P := Try.prog
  orc := noOrc
  kn := fun q => kW (Nat.beq q 0)
  N := 17
  c := w45
  m := 40
  g := fun _ => { gS := [(7, iAw)], gH := [(1, [u64A 70])] }
  t0 := roT 17 pre45
  s0 := roS pre45
  ob0 := [(inX, .lit 0, 0, B40), (.var 70 0 MU, .lit W0, 0, MU)]
  src := [(0, 0)]
  nx := fun _ _ => 1
  cls := [0]
  ob := fun _ => [(inX, .bin .add inX (.lit 1), 0, B40), (.var 70 0 MU, stepO, 0, MU)]
  lst := fun _ => 1
  gF := { gS := [(7, .top)], gH := [(1, [u64A 41])] }
  obF := [(.var 41 0 MU, .var 70 0 MU, 0, MU)]
theorem lpW_chk : lpW.chk = true := by kernel_rfl
theorem lpW_l0 : (lpW.tm 1).2.loops = (roS (lpW.run 0 (lpW.tm 0))).loops := by kernel_rfl
theorem lpW_l1 : (lpW.tm 1).2.loops = (roS (lpW.run 0 (lpW.tm 1))).loops := by kernel_rfl
theorem lpW_l2 : (lpW.tm 0).2.loops = lpW.s0.loops := by kernel_rfl
theorem lpW_loops : lpW.Loops := by
  refine ⟨fun i hi q hq _ => ?_, lpW_l2⟩
  have h1 : i = 0 ∨ i = 1 := by
    have : i < 2 := List.mem_range.1 hi
    omega
  have h2 : q = 0 := List.mem_singleton.1 hq
  subst h2
  rcases h1 with h | h
  · rw [h]; exact lpW_l0
  · rw [h]; exact lpW_l1

/-! what comes behind -/
/-- what the loop leaves -/
noncomputable def out45 (b : Nat) : Option (AExit × T3 × St) := lpW.fin b
theorem w45_body : bodyOf 45 = .seq (hd (bodyOf 45)) (.block 0 (.loop w45)) := by kernel_rfl
theorem fin_exit (b : Nat) (h : b = 0 ∨ b = 1) : roE (lpW.fin b) = .exit 0 := by
  rcases h with rfl | rfl <;> kernel_rfl
/-- the state behind the loop -/
noncomputable def sE (h : AV) (lo : Nat) : St := { heap := wH h ++ [some { elem := 60, cells := [.fn 32 [.ptr 1 0] []], ro := false }], lo := lo, nd := 0, loops := [{ tmps := fdT, params := [6], assign := rgA (bodyOf 35), body := rgB (bodyOf 35), stat := .ready }] }
theorem res_st (b : Nat) (h : b = 0 ∨ b = 1) : (lpW.res b).2 = sE (u64A 41) 0 := by
  rcases h with rfl | rfl <;> kernel_rfl
end Go.Proofs.Ytdenpaifjpmkgaa

/- The digest of a list of numbers: what Words answers. -/
namespace Go.Proofs.Ytdenpaifjpmkgaa
open Go.Ev
open Go.RowKit (Below)
set_option maxRecDepth 100000
set_option linter.unusedVariables false
set_option linter.unusedSectionVars false

/-- digests so far -/
def wF0 (l : List Int) : Int := l.foldl (fun h n => stepI h (n % 18446744073709551616)) W0
/-- numbers for the letters: of a list at a place, with a capacity -/
def numW (l : List Int) (off cap j : Nat) (i : Nat) : Int :=
  if i = 0 then l.length else if i = 1 then cap else if i = 2 then off else if i = 41 then wF0 l else if i = 50 then j else if i = 60 then l.getD j 0 else if i = 70 then wF0 (l.take j) else 0
@[reducible] def rW (l : List Int) (off cap j : Nat) : Rho := mkRho (numW l off cap j) (fun _ => (off, l))
def i64 (n : Int) : Prop := -9223372036854775808 ≤ n ∧ n ≤ 9223372036854775807

theorem stepI_u64 (h w : Int) : u64 (stepI h w) := nu_u64 _
theorem wF0_u64 (l : List Int) : u64 (wF0 l) := by
  unfold wF0
  rcases List.eq_nil_or_concat l with rfl | ⟨m, x, rfl⟩
  · exact ⟨by decide, by decide⟩
  · rw [List.concat_eq_append, List.foldl_append]; exact stepI_u64 _ _
theorem wF0_succ {l : List Int} {j : Nat} (h : j < l.length) : wF0 (l.take (j + 1)) = stepI (wF0 (l.take j)) (l.getD j 0 % 18446744073709551616) := by
  unfold wF0
  rw [List.take_succ_eq_append_getElem h, List.foldl_append]
  simp [h]

theorem agW {l : List Int} {off cap : Nat} (j k : Nat) : Agree 40 (rW l off cap j) (rW l off cap k) :=
  mk_agree (by omega) (fun i hi => by unfold numW; (repeat' split) <;> first | rfl | omega) (fun _ _ => rfl)

theorem lW_at (K : Nat) : lpW.at' (fun _ => 0) K = 0 ∨ lpW.at' (fun _ => 0) K = 1 := by cases K with
  | zero => exact .inl rfl
  | succ K => exact .inr rfl

section
variable {l : List Int} {off cap : Nat} (hl : l.length ≤ 1099511627776) (hi : ∀ n ∈ l, i64 n)
include hl hi
theorem kW_ok {j : Nat} {b : Bool} (hj : if b then j < l.length else j = l.length) : @KnowOk (rW l off cap j) (kW b) := by
  refine KTab.ok { cmps := ?_, cells := ?_ }
  · intro x hx
    obtain rfl := List.mem_singleton.1 hx
    refine ⟨by simp [cmpNo], fun _ _ => ?_⟩
    have e1 : @SX.eval (rW l off cap j) inX = (j : Int) := mk_num (by omega)
    have e2 : @SX.eval (rW l off cap j) lnX = (l.length : Int) := mk_num (by omega)
    show some (decide (@SX.eval (rW l off cap j) inX < @SX.eval (rW l off cap j) lnX)) = some b
    rw [e1, e2]
    cases b <;> simp at hj <;> simp <;> omega
  · intro x hx _
    cases b with
    | false => simp [tW] at hx
    | true =>
      simp at hj
      obtain rfl : x = (0, .int .i64, .bin .add ofX inX, i64A 60) := by simpa [tW] using hx
      have g : @lel (rW l off cap j) 0 j = l.getD j 0 := mk_el (by omega) j
      have hg : i64 (l.getD j 0) := hi _ (by simp [List.getD, hj])
      refine cell_i64 (i := j) ?_ ?_ (by rw [g]; exact mk_num (by omega)) (by rw [g]; exact hg.1) (by rw [g]; exact hg.2)
      · rw [mk_skip (by omega)]
        show @Rho.ρ (rW l off cap j) 2 + @Rho.ρ (rW l off cap j) 50 = _
        rw [mk_num (by omega), mk_num (by omega)]; simp [numW]
      · rw [mk_len (by omega)]; exact hj

theorem loopW : SAtX Try.prog (.loop w45) (rW l off cap 0) (roT 17 pre45) (roS pre45) (.exit 0) (rW l off cap 0) (lpW.res (lpW.at' (fun _ => 0) l.length)).1 (sE (u64A 41) 0) := by
  have h := lpW.sound (K := l.length) (q := fun _ => 0) (R := rW l off cap 0) (J := fun j => rW l off cap j) (@fit (rW l off cap 0)) lpW_chk lpW_loops (fun j _ => @noOrc_ok (rW l off cap j) _) (fun j _ => ⟨List.mem_singleton.2 rfl, rfl⟩)
    (fun j hj => kW_ok hl hi (b := true) (by simpa using hj)) (kW_ok hl hi (b := false) (by simp)) (fun j _ => agW 0 j) ?_ (fun x hx => by cases hx) ?_ (fun j _ x hx => by cases hx) ?_ (fun x hx => by cases hx)
  · rw [fin_exit _ (lW_at _), res_st _ (lW_at _)] at h
    exact h
  · intro x hx
    simp only [lpW, List.mem_cons, List.not_mem_nil, or_false] at hx
    rcases hx with rfl | rfl
    · exact ob_var (v := 0) (by rw [mk_num (by omega)]; simp [numW]) rfl (by omega) (by decide)
    · exact ob_var (v := W0) (by rw [mk_num (by omega)]; simp [numW, wF0]) rfl (by decide) (by decide)
  · intro j hj x hx
    simp only [lpW, List.mem_cons, List.not_mem_nil, or_false] at hx
    rcases hx with rfl | rfl
    · have hB : B40 = 1099511627776 := rfl
      have e : @SX.eval (rW l off cap j) (.bin .add inX (.lit 1)) = (j : Int) + 1 := by
        show @Rho.ρ (rW l off cap j) 50 + 1 = _
        rw [mk_num (by omega)]; simp [numW]
      exact ob_var (v := (j : Int) + 1) (by rw [mk_num (by omega)]; simp [numW]) e (by omega) (by omega)
    · have e : @SX.eval (rW l off cap j) stepO = wF0 (l.take (j + 1)) := by
        rw [@stepX_eval (rW l off cap j), wF0_succ hj]
        have e1 : @SX.eval (rW l off cap j) (.var 70 0 MU) = wF0 (l.take j) := by show @Rho.ρ (rW l off cap j) 70 = _; rw [mk_num (by omega)]; simp [numW]
        have e2 : @SX.eval (rW l off cap j) (.wop .add .u64 (.var 60 (-9223372036854775808) 9223372036854775807) (.lit 0)) = l.getD j 0 % 18446744073709551616 := by
          show wapp .add .u64 (@Rho.ρ (rW l off cap j) 60) 0 = _
          rw [mk_num (by omega)]
          simp [numW, wapp, IntKind.wrap, IntKind.bits, IntKind.signed]
        rw [e1, e2]
      have g := wF0_u64 (l.take (j + 1))
      exact ob_var (v := wF0 (l.take (j + 1))) (by rw [mk_num (by omega)]; simp [numW]) e g.1 g.2
  · intro x hx
    obtain rfl := List.mem_singleton.1 hx
    have g := wF0_u64 l
    exact ob_var (v := wF0 l) (by rw [mk_num (by omega)]; simp [numW]) (by show @Rho.ρ (rW l off cap l.length) 70 = _; rw [mk_num (by omega)]; simp [numW]) g.1 g.2
end
end Go.Proofs.Ytdenpaifjpmkgaa

/- The digest of a list of numbers: Words as a fact. -/
namespace Go.Proofs.Ytdenpaifjpmkgaa
open Go.Ev
open Go.RowKit (Below)
set_option maxRecDepth 100000
set_option linter.unusedVariables false
set_option linter.unusedSectionVars false

theorem f45_at : Try.prog.funcs[45]? = some Try.f45 := by kernel_rfl
theorem f45_body : Try.f45.body = some (bodyOf 45) := by kernel_rfl
theorem f45_res : Try.f45.results.toList = [] := by kernel_rfl
theorem f45_tmps : Try.f45.ntmps = 17 := by kernel_rfl
theorem f35_at : Try.prog.funcs[35]? = some Try.f35 := by kernel_rfl
theorem f35_body : Try.f35.body = some (bodyOf 35) := by kernel_rfl
theorem f35_res : Try.f35.results.toList = [] := by kernel_rfl
theorem f35_tmps : Try.f35.ntmps = 10 := by kernel_rfl
theorem f35_parts : bodyOf 35 = .seq (hd (bodyOf 35)) (.seq (hd (tlC (bodyOf 35))) (.block 0 (.rangeFunc (.tmp 5) #[6] (rgA (bodyOf 35)) (rgB (bodyOf 35))))) := by kernel_rfl
theorem no_res {P : Program} {fn : Func} (h : fn.results.toList = []) (ts : List AV) (s : St) : resultsA P fn ts s = some (.tup []) := by
  unfold resultsA; rw [h]; rfl

noncomputable def fdArgs : List AV := [.fn 45 [] [.ptr 2 0], .fn 32 [.ptr 1 0] []]
noncomputable def sFd (lo : Nat) : St := { heap := wH (.int .u64 W0), lo := lo, loops := [], nd := 0 }
noncomputable def fdR0 : Option (AExit × T3 × St) := (@evF noKnow Try.prog noOrc 5000).code 10 (hd (bodyOf 35)) (ofL (fdArgs ++ List.replicate 8 undefA)) (sFd 3)
noncomputable def fdR1 : Option (AExit × T3 × St) := (@evF noKnow Try.prog noOrc 5000).code 10 (hd (tlC (bodyOf 35))) (ofL (roT 10 fdR0)) (roS fdR0)
theorem fdR1_t : roT 10 fdR1 = fdT := by kernel_rfl
theorem fdR1_s : roS fdR1 = { s45 (.int .u64 W0) 3 with loops := [] } := by kernel_rfl
noncomputable def sOut : St := setStat { sE (u64A 41) 0 with lo := min 3 0 } 0 .over
noncomputable def xfFeed : XF := { f := 35, args := fdArgs, s := sFd 1, v := .tup [], s' := { sOut with lo := min 1 sOut.lo } }

section
variable {l : List Int} {off cap : Nat} (hl : l.length ≤ 1099511627776) (hi : ∀ n ∈ l, i64 n)
include hl hi
theorem call45 : @CallAt (rW l off cap 0) Try.prog 45 [.yield 0, .ptr 2 0] (s45 (.int .u64 W0) 3) (.tup []) { sE (u64A 41) 0 with lo := min 3 0 } := by
  letI := rW l off cap 0
  have x1 : SAtX Try.prog (hd (bodyOf 45)) (rW l off cap 0) ([.yield 0, .ptr 2 0] ++ List.replicate 15 undefA) (s45 (.int .u64 W0) 4) (roE pre45) (rW l off cap 0) (roT 17 pre45) (roS pre45) :=
    @sat_run Try.prog noOrc (rW l off cap 0) noKnow noKnow_ok fit (noOrc_ok _) 17 _ _ _ _ rfl (by kernel_rfl)
  rw [show roE pre45 = .normal by kernel_rfl] at x1
  have x2 := x1.seq (loopW (off := off) (cap := cap) hl hi).block
  rw [← w45_body] at x2
  exact call_at (s := s45 (.int .u64 W0) 3) f45_at f45_body (by rw [f45_tmps]; exact x2.to) (.inl rfl) (no_res f45_res _ _) (by show 0 < 4; omega)

theorem call35 : @CallAt (rW l off cap 0) Try.prog 35 fdArgs (sFd 1) (.tup []) { sOut with lo := min 1 sOut.lo } := by
  letI := rW l off cap 0
  have x0 : SAtX Try.prog (hd (bodyOf 35)) (rW l off cap 0) (fdArgs ++ List.replicate 8 undefA) (sFd 3) (roE fdR0) (rW l off cap 0) (roT 10 fdR0) (roS fdR0) :=
    @sat_run Try.prog noOrc (rW l off cap 0) noKnow noKnow_ok fit (noOrc_ok _) 10 _ _ _ _ rfl (by kernel_rfl)
  have x1 : SAtX Try.prog (hd (tlC (bodyOf 35))) (rW l off cap 0) (roT 10 fdR0) (roS fdR0) (roE fdR1) (rW l off cap 0) (roT 10 fdR1) (roS fdR1) :=
    @sat_run Try.prog noOrc (rW l off cap 0) noKnow noKnow_ok fit (noOrc_ok _) 10 _ _ _ _ rfl (by kernel_rfl)
  rw [show roE fdR0 = .normal by kernel_rfl] at x0
  rw [show roE fdR1 = .normal by kernel_rfl, fdR1_t, fdR1_s] at x1
  have x2 : SAt Try.prog (.rangeFunc (.tmp 5) #[6] (rgA (bodyOf 35)) (rgB (bodyOf 35))) fdT { s45 (.int .u64 W0) 3 with loops := [] } .normal fdT sOut :=
    range_at (P := Try.prog) fit (s := { s45 (.int .u64 W0) 3 with loops := [] }) (g := 45) (l1 := []) (l2 := [.ptr 2 0]) rfl (call45 (off := off) (cap := cap) hl hi) rfl
  have x3 := x0.seq (x1.seq (SAtX.blockN (id := 0) (SAtX.of x2)))
  rw [← f35_parts] at x3
  exact call_at (s := sFd 1) f35_at f35_body (by rw [f35_tmps]; exact x3.to) (.inl rfl) (no_res f35_res _ _) (by show 0 < 3; omega)

/-- the fact, in letters -/
noncomputable def fctW : Fct := ⟨[slA 0], [{ elem := 3, cells := [], ro := true, tl := some (0, .int .i64) }], .sym .u64 (stepX (.var 41 0 MU) lnX) 0 MU, [], []⟩
omit hl hi in
theorem fctW_got : fctW.got ((@evF noKnow Try.prog (orcX [xfFeed]) 5000).call 15 fctW.args fctW.st) = true := by kernel_rfl
omit hl hi in
theorem fctW_good : fctW.good = true := by kernel_rfl
theorem wordsR : @Fct.Holds (rW l off cap 0) Try.prog 15 fctW := by
  letI := rW l off cap 0
  refine @Fct.holds (rW l off cap 0) Try.prog (orcX [xfFeed]) noKnow noKnow_ok fit (orcX_ok fun x hx => ?_) 5000 15 fctW fctW_good fctW_got
  obtain rfl := List.mem_singleton.1 hx
  exact call35 (off := off) (cap := cap) hl hi
end

/-- the digest of a list of numbers -/
def wI (l : List Int) : Int := stepI (wF0 l) l.length

/-- slices of numbers, as they stand: Words' contract -/
theorem words_c {l : List Int} (hl : l.length ≤ 1099511627776) (hi : ∀ n ∈ l, i64 n) {W : World} {b off cap fz1 fz2 : Nat} {c : Array Value} {e0 : TypeId} (hcap : l.length ≤ cap) (hc : W.heap[b]? = some (.cells c e0 (fz1, fz2))) (hcl : ∀ i, i < l.length → c[off + i]? = some (.int .i64 (l.getD i 0))) :
    Calls Try.prog 15 #[.slice (some ⟨b, off, none⟩) l.length cap] W fun e W' => e = .returned (.int .u64 (wI l)) ∧ Below W.heap.size W W' := by
  letI := rW l off cap 0
  have h := wordsR (off := off) (cap := cap) hl hi
  let π : Inj := fun i => if i = 0 then some (b, c.size) else none
  have hw : WR W.heap.size π [] fctW.st W := {
    dom := fun i x hx => by
      simp only [π] at hx
      split at hx
      · rename_i h0; subst h0; show 0 < 1; omega
      · cases hx
    blk := fun i A hA => by
      have hi0 : i = 0 := by
        have := (List.getElem?_eq_some_iff.1 hA).1
        have : i < 1 := this
        omega
      subst hi0
      obtain rfl : A = { elem := 3, cells := [], ro := true, tl := some (0, .int .i64) } := by
        have : some (some ({ elem := 3, cells := [], ro := true, tl := some (0, .int .i64) } : ABlk)) = some (some A) := hA
        exact (Option.some.inj (Option.some.inj this)).symm
      refine ⟨b, c.size, c, (e0, fz1, fz2), rfl, hc, rfl, (fun h => nomatch h), LR.nil, fun k d hk i hi => ?_⟩
      simp only [Option.some.injEq, Prod.mk.injEq] at hk
      obtain ⟨rfl, rfl⟩ := hk
      rw [mk_len (by omega)] at hi
      rw [mk_skip (by omega), mk_val (by omega)]
      exact hcl i hi
    inj := fun i j A A' b n m h1 h2 h3 => by
      have hi0 : i = 0 := by
        have := (List.getElem?_eq_some_iff.1 h1).1
        have : i < 1 := this
        omega
      have hj0 : j = 0 := by
        have := (List.getElem?_eq_some_iff.1 h2).1
        have : j < 1 := this
        omega
      intro _ _; omega
    lsz := rfl
    linj := fun l l' L h => by simp at h
    loop := fun l r h => by cases h }
  have e0 : lnX.eval = (l.length : Int) := mk_num (by omega)
  have e1 : cpX.eval = (cap : Int) := mk_num (by omega)
  have e2 : ofX.eval = (off : Int) := mk_num (by omega)
  have hargs : LR π [] fctW.args #[Value.slice (some ⟨b, off, none⟩) l.length cap].toList := by
    refine LR.cons ?_ LR.nil
    have so : SlOk ofX lnX cpX := by
      refine ⟨trivial, ?_, trivial, by rw [e2]; omega, by rw [e0]; omega, by rw [e0, e1]; omega⟩
      show (0 : Int) ≤ Rho.ρ 0 ∧ Rho.ρ 0 ≤ (1099511627776 : Int); rw [show Rho.ρ 0 = (l.length : Int) from e0]; omega
    have := VR.slsEx (π := π) (lm := []) (b := 0) (b' := b) (n := c.size) so rfl
    rw [e0, e1, e2] at this
    simpa using this
  refine (Fct.calls h rfl hw hargs).mono ?_
  rintro e W' ⟨rfl, hb⟩
  refine ⟨?_, hb⟩
  show Ending.returned (.int .u64 (stepX (.var 41 0 MU) lnX).eval) = _
  rw [stepX_eval, e0, show (SX.var 41 0 MU).eval = wF0 l from mk_num (by omega)]
  rfl

/-- Words as a fact, of any slice that a list stands in -/
theorem words_fct {R : Rho} {l : List Int} (hl : l.length ≤ 1099511627776) (hi : ∀ n ∈ l, i64 n) {off len cap : SX} {ex : Bool} {k : Nat} {v : AV} (hlen : len.eval = (l.length : Int)) (h1 : lskip k ≤ off.eval.toNat) (h2 : off.eval.toNat + l.length ≤ lskip k + llen k)
    (hv : ∀ i, i < l.length → lval k (.int .i64) (off.eval.toNat - lskip k + i) = .int .i64 (l.getD i 0)) (v1 : v.lone = true) (v2 : v.vl0 = .int .u64 (wI l)) (v3 : v.fine0) :
    (Fct.mk [.sls 0 off len cap ex] [{ elem := 3, cells := [], ro := true, tl := some (k, .int .i64) }] v [] []).Holds Try.prog 15 := by
  refine fct_of rfl rfl ?_ (lone_flat v1) (lone_fine v1 v3) (by kernel_rfl) (fun π w vs hw hr => ?_)
  · show (true && ((true && true) && (all2 _ v && (true && (true && true))))) = true
    rw [lone_all2 v1]; rfl
  · obtain ⟨c, ws, hvs, r1, r2⟩ := LR.uncons hr
    obtain rfl := r2.nil_inv
    obtain rfl : vs = #[c] := by rw [← Array.toList_inj, hvs]
    obtain ⟨so, b', n, cap', hp, rfl, hex⟩ := VR.sls_inv r1
    obtain ⟨cs, fz, g1, g2, _, _, g4⟩ := hw.at (i := 0) (A := { elem := 3, cells := [], ro := true, tl := some (k, .int .i64) }) rfl hp
    have n3 := so.n3
    have n2 := so.n2
    have e1 : len.eval.toNat = l.length := by omega
    rw [e1]
    have := words_c hl hi (W := w) (b := b') (off := off.eval.toNat) (cap := cap') (c := cs) (e0 := fz.1) (fz1 := fz.2.1) (fz2 := fz.2.2) (by rcases hex with ⟨_, h⟩ | ⟨_, h, _⟩ <;> omega) g1 (fun i hi' => by
      rw [show off.eval.toNat + i = lskip k + (off.eval.toNat - lskip k + i) by omega, g4 k (.int .i64) rfl _ (by omega)]
      rw [hv i hi'])
    refine this.mono ?_
    rintro e W' ⟨he, hb⟩
    refine ⟨?_, hb⟩
    rw [he, lone_vl v1, v2]
end Go.Proofs.Ytdenpaifjpmkgaa
