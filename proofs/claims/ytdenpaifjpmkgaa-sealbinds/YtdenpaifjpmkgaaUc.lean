/- SealBinds: its loop, evaluated with letters. -/
import Derived.Test.YtdenpaifjpmkgaaUb
namespace Go.Proofs.Ytdenpaifjpmkgaa
open Go.Ev
set_option maxRecDepth 100000
set_option linter.unusedVariables false

noncomputable def bT0 (a : Nat) : List AV := (bLaw a).args ++ List.replicate 161 undefA
noncomputable def bS0 (a : Nat) : St := { heap := (gOld a).map some, lo := (gOld a).length, loops := [], nd := 0 }
noncomputable def bPre (a q : Nat) (m e : Bool) : Option (AExit × T3 × St) := (runListF (@evF (bTab false a q true e m).know Try.prog (orcOf (bFacts false a q true)) 5000).code 164 (splitSeq 12 (tBody 8)).1 (ofL (bT0 a)) (bS0 a)).map fun x => (.normal, x)
noncomputable def b8 : Code := (splitSeq 12 (tBody 8)).2
noncomputable def bR1 (a q : Nat) (m e : Bool) : Option (AExit × T3 × St) := (@evF noKnow Try.prog noOrc 5000).code 164 (tHd (tHd b8)) (ofL (roT 164 (bPre a q m e))) (roS (bPre a q m e))
noncomputable abbrev jL : SX := .var 146 0 9
noncomputable def upF (x y : Nat) (b : Bool) (r : Nat) : Fct := Fct.mk [dA x, dA y, .bool b] [] (dA r) [] []
noncomputable def upFs : List (FuncId × List Fct) := [(31, [upF 140 144 true 150, upF 140 144 false 151, upF 141 145 true 152, upF 141 145 false 153])]
/-- rounds: 0, 1: all the same, by the side; 2, 3: the digests differ first; 4, 5: different before; 6, 7: the digests differ first, and what comes of them does not; 8, 9: different before, and then not; 10: the end -/
noncomputable def rTab (a p q : Nat) : KTab :=
  if Nat.beq q 10 then { cmps := [(.lss, jL, dpL, false)] } else
  let sd := Nat.beq (q % 2) 0
  let k := q / 2
  { cmps := [(.lss, jL, dpL, true), (.lss, jL, ptX a p, true), (.neq, dX 140, dX 141, Nat.beq k 2 || Nat.beq k 4)] ++
      (if Nat.beq k 2 || Nat.beq k 4 then [] else [(.neq, dX 144, dX 145, !Nat.beq k 0), (.eql, dX 144, dX 145, Nat.beq k 0)]) ++
      (if Nat.beq k 0 then [] else [(.eql, dX (if sd then 150 else 151), dX (if sd then 152 else 153), Nat.beq k 3 || Nat.beq k 4)])
    cells := [(54, .int .u64, jL, dA 144), (55, .bool, jL, .bool sd), (0, .int .u64, .bin .add (.free 2) jL, dA 145)] }
def bTops : List Nat := [18, 19, 97, 98, 99, 101, 102, 103, 104, 105, 106, 107, 108, 109, 110, 111, 113, 114, 115, 116, 117, 118, 119, 120, 121, 123, 124, 125, 128, 129, 130, 131, 132, 133, 134, 135, 136, 140, 141, 147, 148, 149, 150, 151, 152, 153, 154, 155, 158, 159]
noncomputable def lpB (a p : Nat) (m e : Bool) (f : Nat) : LoopD where
  P := Try.prog
  orc := orcOf upFs
  kn := fun q => (rTab a p q).know
  N := 164
  c := tLoop (tTl (tHd b8))
  m := 100
  g := fun _ => { gS := [(14, dA 140), (15, dA 141), (17, .sym .i64 jL 0 9)] ++ bTops.map fun k => (k, .top) }
  t0 := roT 164 (bR1 a p m e)
  s0 := roS (bR1 a p m e)
  ob0 := [(dX 140, dX 21, 0, MU), (dX 141, dX 17, 0, MU), (jL, .lit 0, 0, 9)]
  src := if e then [(0, 0), (0, 1), (0, 2), (0, 3), (3, 4), (3, 5)] else [(0, 4), (0, 5)]
  nx := fun _ q => if e then q + 1 else q - 3
  cls := if e then [0, 1, 2, 3, 4, 5] else [4, 5]
  may := fun i q => if e then (if Nat.ble i 2 then Nat.ble q 3 else Nat.ble 4 q) else true
  ob := fun q => [(dX 140, dX (if Nat.beq (q % 2) 0 then 150 else 151), 0, MU), (dX 141, dX (if Nat.beq (q % 2) 0 then 152 else 153), 0, MU), (jL, .bin .add jL (.lit 1), 0, 9)]
  lst := fun i => if e then (if Nat.ble i 2 then (if Nat.beq f 6 || Nat.beq f 7 then f else 10) else (if Nat.beq f 8 || Nat.beq f 9 then f else 10)) else (if Nat.beq f 8 || Nat.beq f 9 then f else 10)
  gF := { gS := [(14, .top), (15, .top), (17, .top)] ++ bTops.map fun k => (k, .top) }
  obF := []
noncomputable def bRest (a p : Nat) (m e : Bool) (f i : Nat) : Option (AExit × T3 × St) := (@evF noKnow Try.prog noOrc 5000).code 164 (tTl b8) (ofL ((lpB a p m e f).res i).1) ((lpB a p m e f).res i).2
def bVal (e : Bool) (f i : Nat) : Bool := if Nat.blt f 8 || Nat.beq f 10 then e && Nat.ble i 2 else !e || Nat.ble 3 i
noncomputable def bOut (ts : List AV) (s : St) : Bool := (match resultsA Try.prog Try.f8 ts s with | some v => v.same (.bool true) | none => false) && (chkNew s.heap [] [] && Nat.blt s.lo 1)
noncomputable def bEnd (a p : Nat) (m e : Bool) (f i : Nat) : Bool :=
  if Nat.beq f 10 then isE0 (roE ((lpB a p m e f).fin i)) && (gSz 164 (tTl b8) ((lpB a p m e f).res i).1 (bRest a p m e f i) && (isRt (roE (bRest a p m e f i)) && bOut (roT 164 (bRest a p m e f i)) (roS (bRest a p m e f i))))
  else isRt (roE ((lpB a p m e f).fin i)) && bOut ((lpB a p m e f).res i).1 ((lpB a p m e f).res i).2
noncomputable def bChk (a p : Nat) (m e : Bool) (f : Nat) : Bool :=
  (lpB a p m e f).chk && (Nat.beq (bT0 a).length 164 && ((bPre a p m e).isSome && (gSz 164 (tHd (tHd b8)) (roT 164 (bPre a p m e)) (bR1 a p m e) && (isNo (roE (bR1 a p m e)) && ((lpB a p m e f).idx.all fun i => !(bVal e f i) || bEnd a p m e f i)))))
end Go.Proofs.Ytdenpaifjpmkgaa
