/- Lists that are grown: the loop that appends. -/
import Derived.Test.YtdenpaifjpmkgaaTd
namespace Go.Proofs.Ytdenpaifjpmkgaa
open Go.Ev
open Go.RowKit (Below)
set_option maxRecDepth 100000
set_option linter.unusedVariables false
set_option linter.unusedSectionVars false

noncomputable def tBody (f : Nat) : Code := (((Try.prog.funcs[f]?).bind (·.body))).getD .skip
/-- a block's loop -/
def tLoop : Code → Code
  | .block _ (.loop c) => c
  | .seq (.block _ (.loop c)) _ => c
  | .seq _ b => tLoop b
  | .block _ b => tLoop b
  | _ => .skip
def tHd : Code → Code
  | .seq a _ => a
  | c => c
def tTl : Code → Code
  | .seq _ b => b
  | c => c

abbrev I63 : Int := 9223372036854775807
/-- how the list is told: 0: nil, 1: empty, 2: not longer than wanted, 3: longer -/
noncomputable def gL (a : Nat) : AV := match a with
  | 0 => .nilSlice
  | 1 => .sls 0 (.free 2) (.lit 0) (.free 1) true
  | 2 => .sls 0 (.free 2) (.var 0 1 300) (.free 1) true
  | _ => .sls 0 (.free 2) (.var 0 1 I63) (.free 1) true
noncomputable def gOld (a : Nat) : List ABlk := match a with | 0 => [] | _ => [rowD 0]
noncomputable def gH (a : Nat) : Nat := match a with | 0 => 0 | _ => 1
/-- how many are wanted: one, and the rest of the first number by m -/
noncomputable abbrev gX (m : Int) : SX := .bin .add (.lit 1) (.bin .rem (.var 3 0 65535) (.lit m))
noncomputable abbrev gA (m : Int) : AV := .sym .i64 (gX m) 1 m
/-- what is known before the loop: is more wanted than there is? the list letter 51 is what is taken -/
noncomputable def gTab0 (a : Nat) (m : Int) : KTab := match a with
  | 2 => { cmps := [(.lss, gX m, .var 0 1 300, false), (.leq, .var 0 1 300, .var 0 1 300, true)], apps := [(.int .u64, .cells [], .lst 0 (.free 2) (.var 0 1 300), 51)] }
  | 3 => { cmps := [(.lss, gX m, .var 0 1 I63, true), (.leq, gX m, .var 0 1 I63, true)], apps := [(.int .u64, .cells [], .lst 0 (.free 2) (gX m), 51)] }
  | _ => {}
noncomputable def g10 : Code := tLoop (tBody 10)
noncomputable def gT0 (a : Nat) (m : Int) : List AV := [gL a, gA m] ++ List.replicate 26 undefA
noncomputable def gS0 (a : Nat) : St := { heap := (gOld a).map some, lo := gH a, loops := [], nd := 0 }
noncomputable def gR0 (a : Nat) (m : Int) : Option (AExit × T3 × St) := (@evF noKnow Try.prog noOrc 5000).code 28 (tHd (tBody 10)) (ofL (gT0 a m)) (gS0 a)
noncomputable def gR1 (a : Nat) (m : Int) : Option (AExit × T3 × St) := (@evF (gTab0 a m).know Try.prog noOrc 5000).code 28 (tHd (tTl (tBody 10))) (ofL (roT 28 (gR0 a m))) (roS (gR0 a m))
/-- the list's row in the loop -/
noncomputable abbrev gK (a : Nat) : Nat := gH a + 1
noncomputable abbrev nX0 : SX := .var 60 0 300
noncomputable abbrev nSt (m : Int) : AV := .sym .u64 (stepX nX0 (gX m)) 0 MU
noncomputable def gTab (m : Int) (q : Nat) : KTab := match q with
  | 0 => {}
  | 1 => { cmps := [(.lss, nX0, gX m, true)], apps := [(.int .u64, .lst 60 (.lit 0) nX0, .cells [nSt m], 61)] }
  | _ => { cmps := [(.lss, nX0, gX m, false)] }
def gTops : List (Nat × AV) := [6, 7, 8, 9, 10, 11, 12, 13, 14, 15, 16, 18, 19, 20, 21, 22, 23, 24, 25, 26].map fun k => (k, .top)
noncomputable def lpG (a : Nat) (m : Int) : LoopR where
  P := Try.prog
  orc := noOrc
  kn := fun q => (gTab m q).know
  N := 28
  c := g10
  m := 4
  g := fun i => if Nat.beq i 0 && Nat.ble a 1 then {} else { gS := (5, .sls (gK a) (.lit 0) nX0 nX0 false) :: gTops, gL := [(gK a, 60)] }
  t0 := roT 28 (gR1 a m)
  s0 := roS (gR1 a m)
  ob0 := match a with | 0 => [] | 1 => [] | 2 => [(nX0, .var 0 1 300, 0, slMax)] | _ => [(nX0, gX m, 0, slMax)]
  lo0 := match a with | 0 => [] | 1 => [] | _ => [(60, 51, .int .u64)]
  src := [(0, if Nat.ble a 1 then 0 else 1)]
  nx := fun _ _ => 1
  cls := [0, 1]
  may := fun i q => if Nat.ble a 1 then Nat.beq i q else Nat.beq q 1
  ob := fun q => if Nat.beq q 0 then [(nX0, .lit 1, 0, slMax)] else [(nX0, .bin .add nX0 (.lit 1), 0, slMax)]
  lo := fun q => if Nat.beq q 0 then [(60, 62, .int .u64)] else [(60, 61, .int .u64)]
  lst := fun _ => 2
  gF := { gS := (5, .sls (gK a) (.lit 0) (gX m) (gX m) false) :: gTops, gL := [(gK a, 50)] }
  obF := [(gX m, nX0, 0, slMax)]
  loF := [(50, 60, .int .u64)]
  h := gH a
  kp := gK a
  sel := fun _ q => if Nat.beq q 0 then [gK a + 1] else [gK a + 2]
  lf := fun _ q => if Nat.beq q 0 then some (gK a, 62, .int .u64, [.sym .u64 (stepX (.lit 0) (gX m)) 0 MU]) else none
  fm := fun i => !(Nat.beq i 0 && Nat.ble a 1)
end Go.Proofs.Ytdenpaifjpmkgaa
