/- The digest of a list of bytes: its loop. -/
import Derived.Test.YtdenpaifjpmkgaaWc
namespace Go.Proofs.Ytdenpaifjpmkgaa
open Go.Ev
set_option maxRecDepth 100000

abbrev uX : SX := .var 51 0 B40
noncomputable abbrev IX (r : Nat) : SX := .bin .add (.bin .mul (.lit 8) uX) (.lit (Int.ofNat r))
noncomputable abbrev u8A : AV := .sym .u8 (.var 60 0 255) 0 255
noncomputable def tX (q : Nat) : KTab :=
  if Nat.blt q 15 then { cmps := (.lss, IX (q % 8), lnX, true) :: (if Nat.beq q 7 then [] else [(.lss, IX (q % 8), .bin .sub lnX (.lit 1), Nat.blt q 7)]), cells := [(0, .int .u8, .bin .add ofX (IX (q % 8)), u8A)] }
  else { cmps := [(.lss, IX (q - 15), lnX, false)] }
noncomputable def w46 : Code := inLoop (bodyOf 46)
noncomputable abbrev row0b : Option ABlk := some { elem := 5, cells := [], ro := true, tl := some (0, .int .u8) }
noncomputable def xH (h : AV) : List (Option ABlk) := [row0b, some { elem := 59, cells := [h], ro := false }, some { elem := 23, cells := [slA 0], ro := false }]
noncomputable def fdX : List AV := [.fn 46 [] [.ptr 2 0], .fn 32 [.ptr 1 0] [], undefA, .ptr 3 0, undefA, .fn 46 [] [.ptr 2 0], undefA, undefA, undefA, undefA]
noncomputable def s46 (h : AV) (lo : Nat) : St := { heap := xH h ++ [some { elem := 60, cells := [.fn 32 [.ptr 1 0] []], ro := false }], lo := lo, nd := 0, loops := [{ tmps := fdX, params := [6], assign := rgA (bodyOf 35), body := rgB (bodyOf 35), stat := .ready }] }
abbrev W1 : Int := 1818321765
noncomputable def pre46a : Option (AExit × T3 × St) := (@evF noKnow Try.prog noOrc 5000).code 36 (hd (bodyOf 46)) (ofL ([.yield 0, .ptr 2 0] ++ List.replicate 34 undefA)) (s46 (.int .u64 W1) 4)
noncomputable def pre46 : Option (AExit × T3 × St) := (@evF noKnow Try.prog noOrc 5000).code 36 (hd (tlC (bodyOf 46))) (ofL (roT 36 pre46a)) (roS pre46a)
noncomputable abbrev grX (r : Nat) : SX := .wop .or .u64 (.var 71 0 MU) (.wop .shl .u64 (.var 60 0 255) (.lit (Int.ofNat (8 * r))))
def rOf (i : Nat) : Nat := if Nat.blt i 16 then i % 8 else i - 15
noncomputable def lpX : LoopD where
  P := Try.prog
  orc := noOrc
  kn := fun q => (tX q).know
  N := 36
  c := w46
  m := 40
  g := fun i => { gS := [(8, .sym .i64 (IX (rOf i)) 0 B40), (3, u64A 71)], gH := [(1, [u64A 70])] }
  t0 := roT 36 pre46
  s0 := roS pre46
  ob0 := [(IX 0, .lit 0, 0, B40), (.var 71 0 MU, .lit 0, 0, MU), (.var 70 0 MU, .lit W1, 0, MU)]
  src := [(0, 0), (1, 1), (2, 2), (3, 3), (4, 4), (5, 5), (6, 6), (7, 7), (8, 0), (9, 1), (10, 2), (11, 3), (12, 4), (13, 5), (14, 6), (0, 8), (1, 9), (2, 10), (3, 11), (4, 12), (5, 13), (6, 14)]
  nx := fun i q => if Nat.blt q 7 then i + 1 else if Nat.beq q 7 then 8 else q + 8
  cls := [0, 1, 2, 3, 4, 5, 6, 7, 8, 9, 10, 11, 12, 13, 14]
  may := fun i q => Nat.blt i 16 && Nat.beq (i % 8) (q % 8)
  ob := fun q => if Nat.blt q 7 then [(IX (q % 8 + 1), .bin .add (IX (q % 8)) (.lit 1), 0, B40), (.var 71 0 MU, grX (q % 8), 0, MU), (.var 70 0 MU, .var 70 0 MU, 0, MU)]
    else [(IX ((q % 8 + 1) % 8), .bin .add (IX (q % 8)) (.lit 1), 0, B40), (.var 71 0 MU, .lit 0, 0, MU), (.var 70 0 MU, stepX (.var 70 0 MU) (grX (q % 8)), 0, MU)]
  lst := fun i => 15 + rOf i
  gF := { gS := [(8, .top), (3, .top)], gH := [(1, [u64A 41])] }
  obF := [(.var 41 0 MU, .var 70 0 MU, 0, MU)]
theorem lpX_chk : lpX.chk = true := by kernel_rfl
theorem lpX_loops : lpX.Loops := lpX.loops_of (by kernel_rfl) (by kernel_rfl)
noncomputable def sE46 : St := { heap := xH (u64A 41) ++ [some { elem := 60, cells := [.fn 32 [.ptr 1 0] []], ro := false }], lo := 0, nd := 0, loops := [{ tmps := fdX, params := [6], assign := rgA (bodyOf 35), body := rgB (bodyOf 35), stat := .ready }] }
theorem fin46 : lpX.idx.map (fun i => roE (lpX.fin i)) = lpX.idx.map (fun _ => .exit 0) := by kernel_rfl
theorem res46 : lpX.idx.map (fun i => (lpX.res i).2) = lpX.idx.map (fun _ => sE46) := by kernel_rfl
theorem w46_body : bodyOf 46 = .seq (hd (bodyOf 46)) (.seq (hd (tlC (bodyOf 46))) (.block 0 (.loop w46))) := by kernel_rfl
end Go.Proofs.Ytdenpaifjpmkgaa
