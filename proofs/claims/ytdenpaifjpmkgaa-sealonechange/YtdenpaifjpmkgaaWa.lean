/- The digest of a list of numbers: its loop. -/
import Derived.Test.YtdenpaifjpmkgaaEvN8
import Derived.Test.YtdenpaifjpmkgaaSb
import Derived.Test.YtdenpaifjpmkgaaChecked
namespace Go.Proofs.Ytdenpaifjpmkgaa
open Go.Ev
set_option maxRecDepth 100000

/-- letters: 0 the length, 1 the capacity, 2 the place; 50 how many rounds are done, 60 the next element, 70 the digest so far -/
abbrev B40 : Int := 1099511627776
abbrev lnX : SX := .var 0 0 B40
abbrev cpX : SX := .free 1
abbrev ofX : SX := .free 2
abbrev inX : SX := .var 50 0 B40
abbrev slA (b : Nat) : AV := .sls b ofX lnX cpX true
abbrev i64A (i : Nat) : AV := .sym .i64 (.var i (-9223372036854775808) 9223372036854775807) (-9223372036854775808) 9223372036854775807
abbrev u64A (i : Nat) : AV := .sym .u64 (.var i 0 MU) 0 MU
/-- what is known in a round, and in the last one -/
noncomputable def tW (b : Bool) : KTab := { cmps := [(.lss, inX, lnX, b)], cells := if b then [(0, .int .i64, .bin .add ofX inX, i64A 60)] else [] }
@[reducible] noncomputable def kW (b : Bool) : Know := (tW b).know
noncomputable def bodyOf (f : Nat) : Code := (((Try.prog.funcs[f]?).bind (·.body))).getD .skip
/-- a block's loop -/
def inLoop : Code → Code
  | .block _ (.loop c) => c
  | .seq _ b => inLoop b
  | .block _ b => inLoop b
  | _ => .skip
def hd : Code → Code
  | .seq a _ => a
  | c => c
/-- the parts of a loop over a function -/
def rgA : Code → Code
  | .rangeFunc _ _ a _ => a
  | .seq _ b => rgA b
  | .block _ b => rgA b
  | _ => .skip
def rgB : Code → Code
  | .rangeFunc _ _ _ b => b
  | .seq _ b => rgB b
  | .block _ b => rgB b
  | _ => .skip
def tlC : Code → Code
  | .seq _ b => b
  | c => c
noncomputable def w45 : Code := inLoop (bodyOf 45)
noncomputable abbrev row0 : Option ABlk := some { elem := 3, cells := [], ro := true, tl := some (0, .int .i64) }
noncomputable def wH (h : AV) : List (Option ABlk) := [row0, some { elem := 59, cells := [h], ro := false }, some { elem := 22, cells := [slA 0], ro := false }]
noncomputable def fdT : List AV := [.fn 45 [] [.ptr 2 0], .fn 32 [.ptr 1 0] [], undefA, .ptr 3 0, undefA, .fn 45 [] [.ptr 2 0], undefA, undefA, undefA, undefA]
/-- before the loop over the list's numbers -/
noncomputable def s45 (h : AV) (lo : Nat) : St := { heap := wH h ++ [some { elem := 60, cells := [.fn 32 [.ptr 1 0] []], ro := false }], lo := lo, nd := 0, loops := [{ tmps := fdT, params := [6], assign := rgA (bodyOf 35), body := rgB (bodyOf 35), stat := .ready }] }
abbrev W0 : Int := 123610861172083
noncomputable def pre45 : Option (AExit × T3 × St) := (@evF noKnow Try.prog noOrc 5000).code 17 (hd (bodyOf 45)) (ofL ([.yield 0, .ptr 2 0] ++ List.replicate 15 undefA)) (s45 (.int .u64 W0) 4)
abbrev iA : AV := .sym .i64 inX 0 B40
noncomputable abbrev stepO : SX := stepX (.var 70 0 MU) (.wop .add .u64 (.var 60 (-9223372036854775808) 9223372036854775807) (.lit 0))
noncomputable def lpW : LoopD where
  P := Try.prog
  orc := noOrc
  kn := fun q => kW (Nat.beq q 0)
  N := 17
  c := w45
  m := 40
  g := fun _ => { gS := [(7, iA)], gH := [(1, [u64A 70])] }
  t0 := roT 17 pre45
  s0 := roS pre45
  ob0 := [(inX, .lit 0, 0, B40), (.var 70 0 MU, .lit W0, 0, MU)]
  src := [(0, 0)]
  nx := fun _ _ => 1
  cls := [0]
  ob := fun _ => [(inX, .bin .add inX (.lit 1), 0, B40), (.var 70 0 MU, stepO, 0, MU)]
  lst := fun _ => 1
  gF := { gS := [(7, .top)], gH := [(1, [u64A 41])] }
  obF := [(.var 41 0 MU, .var 70 0 MU, 0, MU)]
theorem lpW_chk : lpW.chk = true := by kernel_rfl
theorem lpW_l0 : (lpW.tm 1).2.loops = (roS (lpW.run 0 (lpW.tm 0))).loops := by kernel_rfl
theorem lpW_l1 : (lpW.tm 1).2.loops = (roS (lpW.run 0 (lpW.tm 1))).loops := by kernel_rfl
theorem lpW_l2 : (lpW.tm 0).2.loops = lpW.s0.loops := by kernel_rfl
theorem lpW_loops : lpW.Loops := by
  refine ⟨fun i hi q hq _ => ?_, lpW_l2⟩
  have h1 : i = 0 ∨ i = 1 := by
    have : i < 2 := List.mem_range.1 hi
    omega
  have h2 : q = 0 := List.mem_singleton.1 hq
  subst h2
  rcases h1 with h | h
  · rw [h]; exact lpW_l0
  · rw [h]; exact lpW_l1

/-! what comes behind -/
/-- what the loop leaves -/
noncomputable def out45 (b : Nat) : Option (AExit × T3 × St) := lpW.fin b
theorem w45_body : bodyOf 45 = .seq (hd (bodyOf 45)) (.block 0 (.loop w45)) := by kernel_rfl
theorem fin_exit (b : Nat) (h : b = 0 ∨ b = 1) : roE (lpW.fin b) = .exit 0 := by
  rcases h with rfl | rfl <;> kernel_rfl
/-- the state behind the loop -/
noncomputable def sE (h : AV) (lo : Nat) : St := { heap := wH h ++ [some { elem := 60, cells := [.fn 32 [.ptr 1 0] []], ro := false }], lo := lo, nd := 0, loops := [{ tmps := fdT, params := [6], assign := rgA (bodyOf 35), body := rgB (bodyOf 35), stat := .ready }] }
theorem res_st (b : Nat) (h : b = 0 ∨ b = 1) : (lpW.res b).2 = sE (u64A 41) 0 := by
  rcases h with rfl | rfl <;> kernel_rfl
end Go.Proofs.Ytdenpaifjpmkgaa
