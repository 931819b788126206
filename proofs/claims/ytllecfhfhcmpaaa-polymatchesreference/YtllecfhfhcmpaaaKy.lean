/- The closure of differences: one divided difference. -/
import Derived.Test.YtllecfhfhcmpaaaKv
import Derived.Test.YtllecfhfhcmpaaaEvYv
import Derived.Test.YtllecfhfhcmpaaaEvTk
import Derived.Test.YtllecfhfhcmpaaaKt
import Derived.Test.YtllecfhfhcmpaaaKp
namespace Go.Proofs.Ytllecfhfhcmpaaa
open Go.RowKit Go.Fl
set_option maxRecDepth 100000
set_option linter.unusedVariables false
set_option linter.unusedSimpArgs false
set_option linter.unusedSectionVars false
abbrev SC (W : World) (gf gx gd : Nat) (p q : Int) (m xs ds : Value) (bx ox bd od i j k : Nat) (xi xj dj dk : Nat) (w : World) : Prop:=
 FB gf p q m w ∧ w.cell? ⟨gx,0,none⟩ = some xs ∧ w.cell? ⟨gd,0,none⟩ = some ds ∧ w.cell? ⟨bx,ox + i,none⟩ = some (.int .i64 (xi : Nat)) ∧ w.cell? ⟨bx,ox + j,none⟩ = some (.int .i64 (xj : Nat)) ∧
 w.cell? ⟨bd,od + j,none⟩ = some (.int .i64 (dj : Nat)) ∧ w.cell? ⟨bd,od + k,none⟩ = some (.int .i64 (dk : Nat)) ∧ Hid (Below W.heap.size W w)
theorem SC.keep {W w w' : World} {gf gx gd : Nat} {p q : Int} {m xs ds : Value} {bx ox bd od i j k : Nat} {xi xj dj dk : Nat} (h : SC W gf gx gd p q m xs ds bx ox bd od i j k xi xj dj dk w) (hb : Below w.heap.size w w')
  (h1 : gf < W.heap.size ∧ gx < W.heap.size ∧ gd < W.heap.size ∧ bx < W.heap.size ∧ bd < W.heap.size) : SC W gf gx gd p q m xs ds bx ox bd od i j k xi xj dj dk w':=by
 have hs:=h.2.2.2.2.2.2.2.out.size
 exact ⟨FB.keep h.1 hb (by omega),(hb.cell (p:=⟨gx,0,none⟩) (by show gx < _; omega)).trans h.2.1,(hb.cell (p:=⟨gd,0,none⟩) (by show gd < _; omega)).trans h.2.2.1,
  (hb.cell (p:=⟨bx,ox + i,none⟩) (by show bx < _; omega)).trans h.2.2.2.1,(hb.cell (p:=⟨bx,ox + j,none⟩) (by show bx < _; omega)).trans h.2.2.2.2.1,(hb.cell (p:=⟨bd,od + j,none⟩) (by show bd < _; omega)).trans h.2.2.2.2.2.1,(hb.cell (p:=⟨bd,od + k,none⟩) (by show bd < _; omega)).trans h.2.2.2.2.2.2.1,
  Lib.hid (h.2.2.2.2.2.2.2.out.trans (hb.mono hs))⟩
set_option maxHeartbeats 6400000 in
theorem closure_c {F : Gf} {b cap : Nat} {gf gx gd n bx ox bd od cx cd i j k : Nat} {xi xj dj dk : Nat} {W : World} (hO : Ops F b cap W)
  (hS : SC W gf gx gd F.p F.e (FM F b cap) (.slice (some ⟨bx,ox,none⟩) n cx) (.slice (some ⟨bd,od,none⟩) n cd) bx ox bd od i j k xi xj dj dk W) (h1 : gf < W.heap.size ∧ gx < W.heap.size ∧ gd < W.heap.size ∧ bx < W.heap.size ∧ bd < W.heap.size)
  (hi : i < n) (hj : j < n) (hk : j = k + 1) (hn : n ≤ 1000) (qxi : xi < F.q) (qxj : xj < F.q) (qdj : dj < F.q) (qdk : dk < F.q) (hne : F.sub xj xi ≠ 0) :
  Calls Try.prog 70 #[.int .i64 (i : Nat),.int .i64 (j : Nat),.pointer (some ⟨gf,0,none⟩),.pointer (some ⟨gx,0,none⟩),.pointer (some ⟨gd,0,none⟩)] W fun e w'=>e = .returned (.int .i64 (F.mul (F.sub dj dk) (F.inv (F.sub xj xi)) : Nat)) ∧ Below W.heap.size W w':=by
 obtain ⟨u,hu⟩ : ∃ u,Hid (F.sub xj xi = u):=⟨_,rfl⟩
 obtain ⟨v,hv⟩ : ∃ v,Hid (F.inv u = v):=⟨_,rfl⟩
 obtain ⟨s,hs⟩ : ∃ s,Hid (F.sub dj dk = s):=⟨_,rfl⟩
 obtain ⟨z,hz⟩ : ∃ z,Hid (F.mul s v = z):=⟨_,rfl⟩
 have HC1 : Hid (∀ w,Below W.heap.size W w → Calls Try.prog 69 #[FV F b cap,.int .i64 (xj : Nat),.int .i64 (xi : Nat)] w fun e w'=>e = .returned (.int .i64 (u : Nat)) ∧ Below w.heap.size w w'):=Lib.hid (fun w hw=>by
  rw [← hu.out]; exact hO.sub w hw xj xi qxj qxi)
 have HC2 : Hid (∀ w,Below W.heap.size W w → Calls Try.prog 71 #[FV F b cap,.int .i64 (u : Nat)] w fun e w'=>e = .returned (.tuple #[.int .i64 (v : Nat),.int .i64 0]) ∧ Below w.heap.size w w'):=Lib.hid (fun w hw=>by
  rw [← hv.out]; exact hO.inv w hw u (by rw [← hu.out]; exact hO.ok.add_lt _ _) (by rw [← hu.out]; exact hne))
 have HC3 : Hid (∀ w,Below W.heap.size W w → Calls Try.prog 69 #[FV F b cap,.int .i64 (dj : Nat),.int .i64 (dk : Nat)] w fun e w'=>e = .returned (.int .i64 (s : Nat)) ∧ Below w.heap.size w w'):=Lib.hid (fun w hw=>by
  rw [← hs.out]; exact hO.sub w hw dj dk qdj qdk)
 have HC4 : Hid (∀ w,Below W.heap.size W w → Calls Try.prog 68 #[FV F b cap,.int .i64 (s : Nat),.int .i64 (v : Nat)] w fun e w'=>e = .returned (.int .i64 (z : Nat)) ∧ Below w.heap.size w w'):=Lib.hid (fun w hw=>by
  rw [← hz.out]; exact hO.mul w hw s v (by rw [← hs.out]; exact hO.ok.add_lt _ _) (by rw [← hv.out]; exact hO.ok.inv_lt _))
 rw [hu.out,hv.out,hs.out,hz.out]
 have HW:=Lib.hid h1
 have hjk : (j : Int) - 1 = (k : Int):=by omega
 have hkn : k < n:=by omega
 have hwk : IntKind.i64.wrap (k : Int) = (k : Int):=IntWalk.i64_in _ (by omega)
 have hwk2 : IntKind.i64.wrap ((j : Int) - 1) = (k : Int):=by rw [hjk]; exact hwk
 clear hO hne qxi qxj qdj qdk h1 hk
 have hS0:=SC.keep hS (Below.refl _ _).drew HW.out
 go_enter Try.func70,Try.ntmps70
 go_wp2_with fail
 refine Go.Rg.region_by (S:=fun w'=>SC W gf gx gd F.p F.e (FM F b cap) (.slice (some ⟨bx,ox,none⟩) n cx) (.slice (some ⟨bd,od,none⟩) n cd) bx ox bd od i j k xi xj dj dk w') (R:=fun w w'=>Below w.heap.size w w') (φ:=phi F b cap [.eq (FV F b cap),.eq (FV F b cap),.eq (.slice (some ⟨bx,ox,none⟩) n cx),.eq (.int .i64 (j : Nat)),.eq (.pointer (some ⟨bx,ox + j,none⟩)),.eq (.int .i64 (xj : Nat)),.eq (.slice (some ⟨bx,ox,none⟩) n cx),.eq (.int .i64 (i : Nat)),.eq (.pointer (some ⟨bx,ox + i,none⟩)),.eq (.int .i64 (xi : Nat)),.eq (.int .i64 (u : Nat)),.eq (.tuple #[.int .i64 (v : Nat),.int .i64 0]),.eq (.tuple #[.int .i64 (v : Nat),.int .i64 0]),.eq (.int .i64 (v : Nat)),.eq (.int .i64 0),.eq (.int .i64 (v : Nat)),.eq (.int .i64 0)]) (by kernel_rfl) (phi_mono _) (by kernel_rfl) (by kernel_rfl) (by rfl) (hS0) (Go.Rg.steps_ok ?steps) ?fin
 case steps =>
  refine ⟨fun a w hat K hK=>?_,?_⟩
  ·have e2 : a.tmps[2]?.getD undef = .pointer (some ⟨gf,0,none⟩):=hat.b 2 (by kernel_rfl) rfl
   have hSt:=hat.st
   rw [if_pos (by rfl)]
   go_simp
   exact hK.out _ _ hSt (Below.refl _ _) rfl
  refine ⟨fun a w hat K hK=>?_,?_⟩
  ·have e2 : a.tmps[2]?.getD undef = .pointer (some ⟨gf,0,none⟩):=hat.b 2 (by kernel_rfl) rfl
   have hSt:=hat.st
   rw [if_pos (by rfl)]
   go_simp
   exact hK.out _ _ hSt (Below.refl _ _) rfl
  refine ⟨fun a w hat K hK=>?_,?_⟩
  ·have e3 : a.tmps[3]?.getD undef = .pointer (some ⟨gx,0,none⟩):=hat.b 3 (by kernel_rfl) rfl
   have hSt:=hat.st
   rw [if_pos (by rfl)]
   go_simp
   exact hK.out _ _ hSt (Below.refl _ _) rfl
  refine ⟨Go.Rg.step_mv rfl (.inl rfl) (fun _=>Below.refl _ _) (fun a w hat=>hat.b 1 (by kernel_rfl) rfl),?_⟩
  refine ⟨fun a w hat K hK=>?_,?_⟩
  ·have e13 : a.tmps[13]?.getD undef = .slice (some ⟨bx,ox,none⟩) n cx:=hat.d 2 13 (by kernel_rfl) (by kernel_rfl)
   have e14 : a.tmps[14]?.getD undef = .int .i64 (j : Nat):=hat.d 3 14 (by kernel_rfl) (by kernel_rfl)
   have hSt:=hat.st
   rw [if_pos (by rfl)]
   go_simp
   exact hK.out _ _ hSt (Below.refl _ _) rfl
  refine ⟨fun a w hat K hK=>?_,?_⟩
  ·have e15 : a.tmps[15]?.getD undef = .pointer (some ⟨bx,ox + j,none⟩):=hat.d 4 15 (by kernel_rfl) (by kernel_rfl)
   have hSt:=hat.st
   rw [if_pos (by rfl)]
   go_simp
   exact hK.out _ _ hSt (Below.refl _ _) rfl
  refine ⟨fun a w hat K hK=>?_,?_⟩
  ·have e3 : a.tmps[3]?.getD undef = .pointer (some ⟨gx,0,none⟩):=hat.b 3 (by kernel_rfl) rfl
   have hSt:=hat.st
   rw [if_pos (by rfl)]
   go_simp
   exact hK.out _ _ hSt (Below.refl _ _) rfl
  refine ⟨Go.Rg.step_mv rfl (.inl rfl) (fun _=>Below.refl _ _) (fun a w hat=>hat.b 0 (by kernel_rfl) rfl),?_⟩
  refine ⟨fun a w hat K hK=>?_,?_⟩
  ·have e17 : a.tmps[17]?.getD undef = .slice (some ⟨bx,ox,none⟩) n cx:=hat.d 6 17 (by kernel_rfl) (by kernel_rfl)
   have e18 : a.tmps[18]?.getD undef = .int .i64 (i : Nat):=hat.d 7 18 (by kernel_rfl) (by kernel_rfl)
   have hSt:=hat.st
   rw [if_pos (by rfl)]
   go_simp
   exact hK.out _ _ hSt (Below.refl _ _) rfl
  refine ⟨fun a w hat K hK=>?_,?_⟩
  ·have e19 : a.tmps[19]?.getD undef = .pointer (some ⟨bx,ox + i,none⟩):=hat.d 8 19 (by kernel_rfl) (by kernel_rfl)
   have hSt:=hat.st
   rw [if_pos (by rfl)]
   go_simp
   exact hK.out _ _ hSt (Below.refl _ _) rfl
  refine ⟨fun a w hat K hK=>?_,?_⟩
  ·have e12 : a.tmps[12]?.getD undef = FV F b cap:=hat.d 1 12 (by kernel_rfl) (by kernel_rfl)
   have e16 : a.tmps[16]?.getD undef = .int .i64 (xj : Nat):=hat.d 5 16 (by kernel_rfl) (by kernel_rfl)
   have e20 : a.tmps[20]?.getD undef = .int .i64 (xi : Nat):=hat.d 9 20 (by kernel_rfl) (by kernel_rfl)
   have hSt:=hat.st
   rw [if_pos (by rfl)]
   go_simp
   go_at_call 69
   with_reducible refine (HC1.out _ hSt.2.2.2.2.2.2.2.out).mono ?_
   rintro z' v' ⟨rfl,hb⟩
   exact hK.out _ _ (SC.keep hSt hb HW.out) hb rfl
  refine ⟨fun a w hat K hK=>?_,?_⟩
  ·have e11 : a.tmps[11]?.getD undef = FV F b cap:=hat.d 0 11 (by kernel_rfl) (by kernel_rfl)
   have e21 : a.tmps[21]?.getD undef = .int .i64 (u : Nat):=hat.d 10 21 (by kernel_rfl) (by kernel_rfl)
   have hSt:=hat.st
   rw [if_pos (by rfl)]
   go_simp
   go_at_call 71
   with_reducible refine (HC2.out _ hSt.2.2.2.2.2.2.2.out).mono ?_
   rintro z' v' ⟨rfl,hb⟩
   exact hK.out _ _ (SC.keep hSt hb HW.out) hb rfl
  refine ⟨Go.Rg.step_mv rfl (.inl rfl) (fun _=>Below.refl _ _) (fun a w hat=>hat.d 11 22 (by kernel_rfl) (by kernel_rfl)),?_⟩
  refine ⟨fun a w hat K hK=>?_,?_⟩
  ·have e10 : a.tmps[10]?.getD undef = .tuple #[.int .i64 (v : Nat),.int .i64 0]:=hat.d 12 10 (by kernel_rfl) (by kernel_rfl)
   have hSt:=hat.st
   rw [if_pos (by rfl)]
   go_simp
   exact hK.out _ _ hSt (Below.refl _ _) rfl
  refine ⟨fun a w hat K hK=>?_,?_⟩
  ·have e10 : a.tmps[10]?.getD undef = .tuple #[.int .i64 (v : Nat),.int .i64 0]:=hat.d 12 10 (by kernel_rfl) (by kernel_rfl)
   have hSt:=hat.st
   rw [if_pos (by rfl)]
   go_simp
   exact hK.out _ _ hSt (Below.refl _ _) rfl
  refine ⟨Go.Rg.step_mv rfl (.inr rfl) (fun _=>Below.refl _ _) (fun a w hat=>hat.d 13 23 (by kernel_rfl) (by kernel_rfl)),?_⟩
  refine ⟨Go.Rg.step_mv rfl (.inr rfl) (fun _=>Below.refl _ _) (fun a w hat=>hat.d 14 24 (by kernel_rfl) (by kernel_rfl)),?_⟩
  exact trivial
 case fin =>
  intro a w hsz hdf hbase hSt hval
  obtain ⟨t,df⟩:=a
  have et:=Go.Rg.tmps_of hsz [11,12,13,14,15,16,17,18,19,20,21,22,10,23,24,8,9] (fun k hk=>hbase k (Go.Rg.base_of (by kernel_rfl) hk))
  have x11 : t.getD 11 undef = FV F b cap:=hval 0 11 (by kernel_rfl)
  have x12 : t.getD 12 undef = FV F b cap:=hval 1 12 (by kernel_rfl)
  have x13 : t.getD 13 undef = .slice (some ⟨bx,ox,none⟩) n cx:=hval 2 13 (by kernel_rfl)
  have x14 : t.getD 14 undef = .int .i64 (j : Nat):=hval 3 14 (by kernel_rfl)
  have x15 : t.getD 15 undef = .pointer (some ⟨bx,ox + j,none⟩):=hval 4 15 (by kernel_rfl)
  have x16 : t.getD 16 undef = .int .i64 (xj : Nat):=hval 5 16 (by kernel_rfl)
  have x17 : t.getD 17 undef = .slice (some ⟨bx,ox,none⟩) n cx:=hval 6 17 (by kernel_rfl)
  have x18 : t.getD 18 undef = .int .i64 (i : Nat):=hval 7 18 (by kernel_rfl)
  have x19 : t.getD 19 undef = .pointer (some ⟨bx,ox + i,none⟩):=hval 8 19 (by kernel_rfl)
  have x20 : t.getD 20 undef = .int .i64 (xi : Nat):=hval 9 20 (by kernel_rfl)
  have x21 : t.getD 21 undef = .int .i64 (u : Nat):=hval 10 21 (by kernel_rfl)
  have x22 : t.getD 22 undef = .tuple #[.int .i64 (v : Nat),.int .i64 0]:=hval 11 22 (by kernel_rfl)
  have x10 : t.getD 10 undef = .tuple #[.int .i64 (v : Nat),.int .i64 0]:=hval 12 10 (by kernel_rfl)
  have x23 : t.getD 23 undef = .int .i64 (v : Nat):=hval 13 23 (by kernel_rfl)
  have x24 : t.getD 24 undef = .int .i64 0:=hval 14 24 (by kernel_rfl)
  have x8 : t.getD 8 undef = .int .i64 (v : Nat):=hval 15 8 (by kernel_rfl)
  have x9 : t.getD 9 undef = .int .i64 0:=hval 16 9 (by kernel_rfl)
  clear hval hbase hsz
  simp only [List.foldl_cons,List.foldl_nil,x11,x12,x13,x14,x15,x16,x17,x18,x19,x20,x21,x22,x10,x23,x24,x8,x9] at et
  rw [et]
  have hdf' : df = _:=hdf
  rw [hdf']
  simp only [List.setIfInBounds_toArray,List.set_cons_zero,List.set_cons_succ]
  have HS1:=Lib.hid hSt
  clear hSt hS0
  have hS0:=SC.keep HS1.out (Below.refl _ _).drew HW.out
  go_wp2_with fail
  refine Go.Rg.region_by (S:=fun w'=>SC W gf gx gd F.p F.e (FM F b cap) (.slice (some ⟨bx,ox,none⟩) n cx) (.slice (some ⟨bd,od,none⟩) n cd) bx ox bd od i j k xi xj dj dk w') (R:=fun w w'=>Below w.heap.size w w') (φ:=phi F b cap [.eq (FV F b cap),.eq (FV F b cap),.eq (.slice (some ⟨bd,od,none⟩) n cd),.eq (.int .i64 (j : Nat)),.eq (.pointer (some ⟨bd,od + j,none⟩)),.eq (.int .i64 (dj : Nat)),.eq (.slice (some ⟨bd,od,none⟩) n cd),.eq (.int .i64 (j : Nat)),.eq (.int .i64 (k : Nat)),.eq (.pointer (some ⟨bd,od + k,none⟩)),.eq (.int .i64 (dk : Nat)),.eq (.int .i64 (s : Nat)),.eq (.int .i64 (v : Nat)),.eq (.int .i64 (z : Nat)),.eq (.int .i64 (z : Nat))]) (by kernel_rfl) (phi_mono _) (by kernel_rfl) (by kernel_rfl) (by rfl) (hS0) (Go.Rg.steps_ok ?steps) ?fin
  case steps =>
   refine ⟨fun a w hat K hK=>?_,?_⟩
   ·have e2 : a.tmps[2]?.getD undef = .pointer (some ⟨gf,0,none⟩):=hat.b 2 (by kernel_rfl) rfl
    have hSt:=hat.st
    rw [if_pos (by rfl)]
    go_simp
    exact hK.out _ _ hSt (Below.refl _ _) rfl
   refine ⟨fun a w hat K hK=>?_,?_⟩
   ·have e2 : a.tmps[2]?.getD undef = .pointer (some ⟨gf,0,none⟩):=hat.b 2 (by kernel_rfl) rfl
    have hSt:=hat.st
    rw [if_pos (by rfl)]
    go_simp
    exact hK.out _ _ hSt (Below.refl _ _) rfl
   refine ⟨fun a w hat K hK=>?_,?_⟩
   ·have e4 : a.tmps[4]?.getD undef = .pointer (some ⟨gd,0,none⟩):=hat.b 4 (by kernel_rfl) rfl
    have hSt:=hat.st
    rw [if_pos (by rfl)]
    go_simp
    exact hK.out _ _ hSt (Below.refl _ _) rfl
   refine ⟨Go.Rg.step_mv rfl (.inl rfl) (fun _=>Below.refl _ _) (fun a w hat=>hat.b 1 (by kernel_rfl) rfl),?_⟩
   refine ⟨fun a w hat K hK=>?_,?_⟩
   ·have e27 : a.tmps[27]?.getD undef = .slice (some ⟨bd,od,none⟩) n cd:=hat.d 2 27 (by kernel_rfl) (by kernel_rfl)
    have e28 : a.tmps[28]?.getD undef = .int .i64 (j : Nat):=hat.d 3 28 (by kernel_rfl) (by kernel_rfl)
    have hSt:=hat.st
    rw [if_pos (by rfl)]
    go_simp
    exact hK.out _ _ hSt (Below.refl _ _) rfl
   refine ⟨fun a w hat K hK=>?_,?_⟩
   ·have e29 : a.tmps[29]?.getD undef = .pointer (some ⟨bd,od + j,none⟩):=hat.d 4 29 (by kernel_rfl) (by kernel_rfl)
    have hSt:=hat.st
    rw [if_pos (by rfl)]
    go_simp
    exact hK.out _ _ hSt (Below.refl _ _) rfl
   refine ⟨fun a w hat K hK=>?_,?_⟩
   ·have e4 : a.tmps[4]?.getD undef = .pointer (some ⟨gd,0,none⟩):=hat.b 4 (by kernel_rfl) rfl
    have hSt:=hat.st
    rw [if_pos (by rfl)]
    go_simp
    exact hK.out _ _ hSt (Below.refl _ _) rfl
   refine ⟨Go.Rg.step_mv rfl (.inl rfl) (fun _=>Below.refl _ _) (fun a w hat=>hat.b 1 (by kernel_rfl) rfl),?_⟩
   refine ⟨fun a w hat K hK=>?_,?_⟩
   ·have e32 : a.tmps[32]?.getD undef = .int .i64 (j : Nat):=hat.d 7 32 (by kernel_rfl) (by kernel_rfl)
    have hSt:=hat.st
    rw [if_pos (by rfl)]
    go_simp
    exact hK.out _ _ hSt (Below.refl _ _) rfl
   refine ⟨fun a w hat K hK=>?_,?_⟩
   ·have e31 : a.tmps[31]?.getD undef = .slice (some ⟨bd,od,none⟩) n cd:=hat.d 6 31 (by kernel_rfl) (by kernel_rfl)
    have e33 : a.tmps[33]?.getD undef = .int .i64 (k : Nat):=hat.d 8 33 (by kernel_rfl) (by kernel_rfl)
    have hSt:=hat.st
    rw [if_pos (by rfl)]
    go_simp
    exact hK.out _ _ hSt (Below.refl _ _) rfl
   refine ⟨fun a w hat K hK=>?_,?_⟩
   ·have e34 : a.tmps[34]?.getD undef = .pointer (some ⟨bd,od + k,none⟩):=hat.d 9 34 (by kernel_rfl) (by kernel_rfl)
    have hSt:=hat.st
    rw [if_pos (by rfl)]
    go_simp
    exact hK.out _ _ hSt (Below.refl _ _) rfl
   refine ⟨fun a w hat K hK=>?_,?_⟩
   ·have e26 : a.tmps[26]?.getD undef = FV F b cap:=hat.d 1 26 (by kernel_rfl) (by kernel_rfl)
    have e30 : a.tmps[30]?.getD undef = .int .i64 (dj : Nat):=hat.d 5 30 (by kernel_rfl) (by kernel_rfl)
    have e35 : a.tmps[35]?.getD undef = .int .i64 (dk : Nat):=hat.d 10 35 (by kernel_rfl) (by kernel_rfl)
    have hSt:=hat.st
    rw [if_pos (by rfl)]
    go_simp
    go_at_call 69
    with_reducible refine (HC3.out _ hSt.2.2.2.2.2.2.2.out).mono ?_
    rintro z' v' ⟨rfl,hb⟩
    exact hK.out _ _ (SC.keep hSt hb HW.out) hb rfl
   refine ⟨Go.Rg.step_mv rfl (.inl rfl) (fun _=>Below.refl _ _) (fun a w hat=>hat.b 8 (by kernel_rfl) rfl),?_⟩
   refine ⟨fun a w hat K hK=>?_,?_⟩
   ·have e25 : a.tmps[25]?.getD undef = FV F b cap:=hat.d 0 25 (by kernel_rfl) (by kernel_rfl)
    have e36 : a.tmps[36]?.getD undef = .int .i64 (s : Nat):=hat.d 11 36 (by kernel_rfl) (by kernel_rfl)
    have e37 : a.tmps[37]?.getD undef = .int .i64 (v : Nat):=hat.d 12 37 (by kernel_rfl) (by kernel_rfl)
    have hSt:=hat.st
    rw [if_pos (by rfl)]
    go_simp
    go_at_call 68
    with_reducible refine (HC4.out _ hSt.2.2.2.2.2.2.2.out).mono ?_
    rintro z' v' ⟨rfl,hb⟩
    exact hK.out _ _ (SC.keep hSt hb HW.out) hb rfl
   refine ⟨Go.Rg.step_mv rfl (.inr rfl) (fun _=>Below.refl _ _) (fun a w hat=>hat.d 13 38 (by kernel_rfl) (by kernel_rfl)),?_⟩
   exact trivial
  case fin =>
   intro a w hsz hdf hbase hSt hval
   obtain ⟨t,df⟩:=a
   have et:=Go.Rg.tmps_of hsz [25,26,27,28,29,30,31,32,33,34,35,36,37,38,7] (fun k hk=>hbase k (Go.Rg.base_of (by kernel_rfl) hk))
   have x25 : t.getD 25 undef = FV F b cap:=hval 0 25 (by kernel_rfl)
   have x26 : t.getD 26 undef = FV F b cap:=hval 1 26 (by kernel_rfl)
   have x27 : t.getD 27 undef = .slice (some ⟨bd,od,none⟩) n cd:=hval 2 27 (by kernel_rfl)
   have x28 : t.getD 28 undef = .int .i64 (j : Nat):=hval 3 28 (by kernel_rfl)
   have x29 : t.getD 29 undef = .pointer (some ⟨bd,od + j,none⟩):=hval 4 29 (by kernel_rfl)
   have x30 : t.getD 30 undef = .int .i64 (dj : Nat):=hval 5 30 (by kernel_rfl)
   have x31 : t.getD 31 undef = .slice (some ⟨bd,od,none⟩) n cd:=hval 6 31 (by kernel_rfl)
   have x32 : t.getD 32 undef = .int .i64 (j : Nat):=hval 7 32 (by kernel_rfl)
   have x33 : t.getD 33 undef = .int .i64 (k : Nat):=hval 8 33 (by kernel_rfl)
   have x34 : t.getD 34 undef = .pointer (some ⟨bd,od + k,none⟩):=hval 9 34 (by kernel_rfl)
   have x35 : t.getD 35 undef = .int .i64 (dk : Nat):=hval 10 35 (by kernel_rfl)
   have x36 : t.getD 36 undef = .int .i64 (s : Nat):=hval 11 36 (by kernel_rfl)
   have x37 : t.getD 37 undef = .int .i64 (v : Nat):=hval 12 37 (by kernel_rfl)
   have x38 : t.getD 38 undef = .int .i64 (z : Nat):=hval 13 38 (by kernel_rfl)
   have x7 : t.getD 7 undef = .int .i64 (z : Nat):=hval 14 7 (by kernel_rfl)
   clear hval hbase hsz
   simp only [List.foldl_cons,List.foldl_nil,x25,x26,x27,x28,x29,x30,x31,x32,x33,x34,x35,x36,x37,x38,x7] at et
   rw [et]
   have hdf' : df = _:=hdf
   rw [hdf']
   simp only [List.setIfInBounds_toArray,List.set_cons_zero,List.set_cons_succ]
   have HBF:=hSt.2.2.2.2.2.2.2.out
   clear hSt hS0
   go_wp2
   go_ret
   exact ⟨rfl,HBF⟩
def fe (F : Gf) [H : OkC F] (X : List Nat) (hX : In F X) (i : Nat) : Fe F:=⟨X.getD i 0,hX.get H.ok i⟩
section
variable {F : Gf} [H : OkC F] (x y : Nat → Fe F)
def dV (s t : Nat) : Fe F:=dd x y (min s t) (t - min s t)
theorem dV_zero (t : Nat) : dV x y 0 t = y t:=by unfold dV; rw [Nat.zero_min]; rfl
theorem dV_step {s t : Nat} (h : s < t) : dV x y (s + 1) t = (dV x y s t - dV x y s (t - 1)) * finv (x t - x (t - (s + 1))):=by
 unfold dV
 rw [Nat.min_eq_left (by omega : s + 1 ≤ t),Nat.min_eq_left (by omega : s ≤ t),Nat.min_eq_left (by omega : s ≤ t - 1)]
 show (dd x y s (t - (s + 1) + 1) - dd x y s (t - (s + 1))) * finv (x (t - (s + 1) + s + 1) - x (t - (s + 1))) = _
 rw [show t - (s + 1) + 1 = t - s by omega,show t - (s + 1) + s + 1 = t by omega,show t - 1 - s = t - (s + 1) by omega]
theorem dV_low {s t : Nat} (h : t ≤ s) : dV x y (s + 1) t = dV x y s t:=by
 unfold dV
 rw [Nat.min_eq_right (by omega : t ≤ s + 1),Nat.min_eq_right h]
theorem dV_end {s t : Nat} (h : t ≤ s) : dV x y s t = dd x y t 0:=by
 unfold dV
 rw [Nat.min_eq_right h,Nat.sub_self]
end
def Dm (F : Gf) [OkC F] (x y : Nat → Fe F) (n s j : Nat) (R : List Nat) : Prop:=R.length = n ∧ ∀ t,t < n → R.getD t 0 = (if j ≤ t then dV x y (s + 1) t else dV x y s t).1
theorem Dm.start {F : Gf} [OkC F] {x y : Nat → Fe F} {n : Nat} {R : List Nat} (hl : R.length = n) (h : ∀ t,t < n → R.getD t 0 = (y t).1) : Dm F x y n 0 n R:=
 ⟨hl,fun t ht=>by rw [if_neg (by omega),dV_zero]; exact h t ht⟩
theorem Dm.next {F : Gf} [OkC F] {x y : Nat → Fe F} {n s : Nat} {R : List Nat} (h : Dm F x y n s (s + 1) R) : Dm F x y n (s + 1) n R:=
 ⟨h.1,fun t ht=>by
  rw [h.2 t ht,if_neg (by omega : ¬ n ≤ t)]
  by_cases e : s + 1 ≤ t
  ·rw [if_pos e]
  ·rw [if_neg e,dV_low x y (by omega)]⟩
theorem Dm.step {F : Gf} [H : OkC F] {x y : Nat → Fe F} {n s j : Nat} {R : List Nat} (h : Dm F x y n s (j + 1) R) (hj : j < n) (hs : s < j) :
  Dm F x y n s j (R.set j (F.mul (F.sub (R.getD j 0) (R.getD (j - 1) 0)) (F.inv (F.sub (x j).1 (x (j - (s + 1))).1)))):=by
 refine ⟨by rw [List.length_set]; exact h.1,fun t ht=>?_⟩
 rw [List.getD_eq_getElem?_getD]
 by_cases e : j = t
 ·subst e
  rw [if_pos (Nat.le_refl _),dV_step x y hs,List.getElem?_set_self (by rw [h.1]; exact hj)]
  have h1:=h.2 j hj
  have h2:=h.2 (j - 1) (by omega)
  rw [if_neg (by omega)] at h1 h2
  show F.mul (F.sub (R.getD j 0) (R.getD (j - 1) 0)) _ = F.mul (F.sub (dV x y s j).1 (dV x y s (j - 1)).1) _
  rw [h1,h2]
  rfl
 ·rw [List.getElem?_set_ne e,← List.getD_eq_getElem?_getD,h.2 t ht]
  by_cases e2 : j + 1 ≤ t
  ·rw [if_pos e2,if_pos (by omega)]
  ·rw [if_neg e2,if_neg (by omega)]
theorem Dm.in {F : Gf} [H : OkC F] {x y : Nat → Fe F} {n s j : Nat} {R : List Nat} (h : Dm F x y n s j R) : In F R:=fun z hz=>by
 obtain ⟨t,ht,rfl⟩:=List.mem_iff_getElem.1 hz
 have:=h.2 t (by rw [← h.1]; exact ht)
 rw [List.getD_eq_getElem?_getD,List.getElem?_eq_getElem ht] at this
 have e : R[t] = _:=this
 rw [e]
 exact (if j ≤ t then dV x y (s + 1) t else dV x y s t).2
structure DI (F : Gf) (b cap : Nat) (W : World) (bx ox cx g cg gd : Nat) (X : List Nat) (R : List Nat) (w : World) : Prop where
 fb : FB W.heap.size F.p F.e (FM F b cap) w
 hcx : w.cell? ⟨W.heap.size + 1,0,none⟩ = some (.slice (some ⟨bx,ox,none⟩) X.length cx)
 hcd : w.cell? ⟨gd,0,none⟩ = some (.slice (some ⟨g,0,none⟩) R.length cg)
 row : RowC R g cg w
 nx : NN X w (.slice (some ⟨bx,ox,none⟩) X.length cx)
 bl : Below W.heap.size W w
 lx : bx < W.heap.size
 lg : W.heap.size + 2 ≤ g
 ld : W.heap.size + 2 ≤ gd
 sd : gd < w.heap.size
 ne : g ≠ gd
theorem DI.keep {F : Gf} {b cap : Nat} {W : World} {bx ox cx g cg gd : Nat} {X R : List Nat} {w w' : World} (h : DI F b cap W bx ox cx g cg gd X R w) (hb : Below w.heap.size w w') : DI F b cap W bx ox cx g cg gd X R w':=by
 have h1:=h.ld
 have h2:=h.sd
 exact ⟨FB.keep h.fb hb (by omega),(hb.cell (p:=⟨W.heap.size + 1,0,none⟩) (by show W.heap.size + 1 < _; omega)).trans h.hcx,(hb.cell (p:=⟨gd,0,none⟩) h.sd).trans h.hcd,h.row.below hb,h.nx.below hb,h.bl.trans (hb.mono (by omega)),h.lx,h.lg,h.ld,Nat.lt_of_lt_of_le h.sd hb.size,h.ne⟩
theorem DI.set {F : Gf} {b cap : Nat} {W : World} {bx ox cx g cg gd : Nat} {X R : List Nat} {w : World} (h : DI F b cap W bx ox cx g cg gd X R w) (j x : Nat) : DI F b cap W bx ox cx g cg gd X (R.set j x) (w.setCell ⟨g,j,none⟩ (.int .i64 (x : Nat))):=by
 have h1:=h.lg
 have h2:=h.lx
 have hoth : ∀ k,k ≠ g → (w.setCell ⟨g,j,none⟩ (.int .i64 (x : Nat))).heap[k]? = w.heap[k]?:=fun k hk=>Below.heap_setCell _ _ _ _ (by exact hk)
 exact ⟨FB.othb h.fb hoth (by omega),(World.cell?_of_block (a:=⟨W.heap.size + 1,0,none⟩) (hoth _ (by show W.heap.size + 1 ≠ g; omega))).trans h.hcx,by rw [List.length_set]; exact (World.cell?_of_block (a:=⟨gd,0,none⟩) (hoth _ h.ne.symm)).trans h.hcd,h.row.set j x,
  h.nx.othb hoth (by simp) (fun x o e=>by cases e; omega),h.bl.setCell (by show W.heap.size ≤ g; omega) _,h.lx,h.lg,h.ld,by simpa using h.sd,h.ne⟩
def DdPost (F : Gf) [OkC F] (x y : Nat → Fe F) (n : Nat) (w : World) (e : Ending) (w' : World) : Prop:=∃ R a c,e = .returned (.slice a n c) ∧ NN R w' (.slice a n c) ∧ R.length = n ∧ In F R ∧ (∀ t,t < n → R.getD t 0 = (dd x y t 0).1) ∧ Below w.heap.size w w'
set_option maxHeartbeats 12800000 in
theorem diff_hi {F : Gf} [H : OkC F] {b cap : Nat} {X Y : List Nat} {ax ay : Option Addr} {n cx cy : Nat} {W : World} (hO : Ops F b cap W) (hX : In F X) (hY : In F Y) (eX : X.length = n) (eY : Y.length = n) (hn : n ≤ 1000) (h0 : 0 < n) (hnd : X.Nodup)
  (nx : NN X W (.slice ax n cx)) (ny : NN Y W (.slice ay n cy)) : Calls Try.prog 50 #[FV F b cap,.slice ax n cx,.slice ay n cy] W (DdPost F (fe F X hX) (fe F Y hY) n W):=by
 obtain ⟨bx,ox,rfl,HBX,HXC⟩ : ∃ bx ox,ax = some ⟨bx,ox,none⟩ ∧ Hid (bx < W.heap.size) ∧ Hid (∀ t,t < n → ∀ w,NN X w (.slice (some ⟨bx,ox,none⟩) n cx) → w.cell? ⟨bx,ox + t,none⟩ = some (.int .i64 (X.getD t 0 : Nat))):=by
  rcases nx with ⟨e,h⟩ | ⟨b',off',cap',h,g1,g2,g3⟩
  ·rw [e] at eX; simp at eX; omega
  ·cases h
   refine ⟨b',off',rfl,Lib.hid g2,Lib.hid (fun t ht w hw=>?_)⟩
   rcases hw with ⟨e,h⟩ | ⟨b'',off'',cap'',h,k1,k2,k3⟩
   ·have h9 : X.length = 0:=by rw [e]; rfl
    omega
   ·cases h; exact k3 t (by omega)
 obtain ⟨by',oy,rfl,HYC⟩ : ∃ b0 off0,ay = some ⟨b0,off0,none⟩ ∧ Hid (∀ w,Below W.heap.size W w → ∀ (j : Nat) (u : Value),(Y.map N64)[j]? = some u → w.cell? ((⟨b0,off0,none⟩ : Addr).add j) = some u):=by
  rcases ny with ⟨e,h⟩ | ⟨b',off',cap',h,g1,g2,g3⟩
  ·rw [e] at eY; simp at eY; omega
  ·cases h; exact ⟨b',off',rfl,Lib.hid (fun w hw=>num_cellsK fun t ht=>(hw.cell (p:=⟨b',off' + t,none⟩) g2).trans (g3 t ht))⟩
 have EX:=Lib.hid eX
 have EY:=Lib.hid eY
 have HO:=Lib.hid hO
 have HND:=Lib.hid hnd
 have NX:=Lib.hid nx
 have HSU : Hid (∀ i j,i < n → j < n → i ≠ j → F.sub (fe F X hX i).1 (fe F X hX j).1 ≠ 0):=Lib.hid (fun i j hi hj hij e=>by
  have e2 : (fe F X hX i) - (fe F X hX j) = 0:=Fe.ext' e
  by_cases h : fe F X hX i = fe F X hX j
  ·have h3:=congrArg Subtype.val h
   have h4 : X.getD i 0 = X.getD j 0:=h3
   rcases Nat.lt_or_ge i j with h5 | h5
   ·exact not_nodup (by omega) h5 h4 hnd
   ·exact not_nodup (by omega) (by omega : j < i) h4.symm hnd
  ·exact sub_ne h e2)
 obtain ⟨x,hx⟩ : ∃ x,Hid (fe F X hX = x):=⟨_,rfl⟩
 obtain ⟨y,hy⟩ : ∃ y,Hid (fe F Y hY = y):=⟨_,rfl⟩
 have HXV : Hid (∀ t,X.getD t 0 = (x t).1):=Lib.hid (fun t=>by rw [← hx.out]; rfl)
 have HYV : Hid (∀ t,Y.getD t 0 = (y t).1):=Lib.hid (fun t=>by rw [← hy.out]; rfl)
 rw [hx.out] at HSU
 rw [hx.out,hy.out]
 clear eX eY hO hnd nx ny
 obtain ⟨i0,hi,hz0,hz1,hz2⟩:=info_parts info3
 have HB2 : Hid (Below W.heap.size W ((W.alloc (.cells #[.int .i64 F.p,.int .i64 F.e,FM F b cap] 28)).alloc (.cells #[.slice (some ⟨bx,ox,none⟩) n cx] 25))):=Lib.hid (((Below.refl _ _).alloc (Nat.le_refl _) _).alloc (by simp) _)
 have HFB : Hid (FB W.heap.size F.p F.e (FM F b cap) ((W.alloc (.cells #[.int .i64 F.p,.int .i64 F.e,FM F b cap] 28)).alloc (.cells #[.slice (some ⟨bx,ox,none⟩) n cx] 25))):=Lib.hid
  (FB.keep (k:=W.heap.size + 1) (w:=W.alloc (.cells #[.int .i64 F.p,.int .i64 F.e,FM F b cap] 28)) (by simp [FB]) ((Below.refl _ _).alloc (by simp) _) (by omega))
 have HCX : Hid (((W.alloc (.cells #[.int .i64 F.p,.int .i64 F.e,FM F b cap] 28)).alloc (.cells #[.slice (some ⟨bx,ox,none⟩) n cx] 25)).cell? ⟨W.heap.size + 1,0,none⟩ = some (.slice (some ⟨bx,ox,none⟩) n cx)):=Lib.hid (World.cell?_alloc_at _ _ _ _ (by simp))
 have HSZ : Hid (((W.alloc (.cells #[.int .i64 F.p,.int .i64 F.e,FM F b cap] 28)).alloc (.cells #[.slice (some ⟨bx,ox,none⟩) n cx] 25)).heap.size = W.heap.size + 2):=Lib.hid (by simp)
 have HNIL : Hid (((W.alloc (.cells #[.int .i64 F.p,.int .i64 F.e,FM F b cap] 28)).alloc (.cells #[.slice (some ⟨bx,ox,none⟩) n cx] 25)).ownsRow (W.heap.size + 2) 3 1 (.slice none 0 0) 0 []):=Lib.hid ⟨rfl,.inl ⟨rfl,rfl⟩⟩
 have hmf : ∀ (fn : Fn) (first cap : Array Value) (w : World),(Instr.makeFunc fn first cap).run Try.prog w = .ok (.func fn first cap) w:=fun _ _ _ _=>rfl
 go_enter Try.func50,Try.ntmps50
 go_wp2_with (at_builtin; refine wpList_append_own _ rfl _ _ 25 rfl (W.heap.size + 2) 3 i0 (.int .i64 0) 1 8 Try.underlying25 hi hz0 hz1 hz2 rfl (by decide) _ _ _ rfl HNIL.out ⟨by',oy,none⟩ n cy (Y.map N64) rfl (by rw [List.length_map,Nat.mul_one]; exact EY.out) (HYC.out _ HB2.out) (ints_oneK Y) (by unfold maxLen; omega) (by omega) (Nat.le_of_eq HSZ.out.symm) ?_)
 intro v' wB hown hgrow hnil
 obtain ⟨g,cg,rfl⟩:=own_someK hown (by omega)
 have HRB : Hid (RowC Y g cg wB):=Lib.hid (by
  have h1:=EY.out
  have : wB.ownsRow (W.heap.size + 2) 3 1 (.slice (some ⟨g,0,none⟩) n cg) n (Y.map N64):=by simpa using hown
  refine ⟨by simp,?_⟩
  rw [h1]
  rcases this.2 with h | ⟨g',cap',cur,k1,k2,k3⟩
  ·exact .inl h
  ·exact .inr ⟨g',cap',cur,k1,Nat.zero_le _,k3⟩)
 have HG : Hid (W.heap.size + 2 ≤ g):=Lib.hid (hown.lt g rfl).1
 have hbB : Below (W.heap.size + 2) ((W.alloc (.cells #[.int .i64 F.p,.int .i64 F.e,FM F b cap] 28)).alloc (.cells #[.slice (some ⟨bx,ox,none⟩) n cx] 25)) wB:=(Below.refl _ _).grown hgrow (Nat.le_of_eq HSZ.out.symm) (fun k hk=>by cases hk)
 have HSB : Hid (W.heap.size + 2 ≤ wB.heap.size):=Lib.hid (by have:=hbB.size; have:=HSZ.out; omega)
 have HGB : Hid (g < wB.heap.size):=Lib.hid HRB.out.lt
 have HDI : Hid (DI F b cap W bx ox cx g cg wB.heap.size X Y (wB.alloc (.cells #[.slice (some ⟨g,0,none⟩) n cg] 25))):=Lib.hid (by
  have hba : Below wB.heap.size wB (wB.alloc (.cells #[.slice (some ⟨g,0,none⟩) n cg] 25)):=(Below.refl _ _).alloc (Nat.le_refl _) _
  have h2:=HSB.out
  have h3:=HGB.out
  exact ⟨FB.keep (FB.keep HFB.out hbB (by omega)) hba (by omega),(hba.cell (p:=⟨W.heap.size + 1,0,none⟩) (by show W.heap.size + 1 < _; omega)).trans ((hbB.cell (p:=⟨W.heap.size + 1,0,none⟩) (by show W.heap.size + 1 < _; omega)).trans (by rw [EX.out]; exact HCX.out)),
   by rw [EY.out]; exact World.cell?_alloc_at _ _ _ _ rfl,HRB.out.below hba,by rw [EX.out]; exact ((NX.out.below HB2.out).below (hbB.mono (Nat.le_of_eq HSZ.out))).below hba,
   (HB2.out.trans (hbB.mono (by omega))).trans (hba.mono (by omega)),HBX.out,HG.out,HSB.out,by simp,by omega⟩)
 clear hown hgrow hnil hbB HRB HSB HGB HFB HCX HSZ HNIL HB2 HYC NX
 obtain ⟨gd,hgd⟩ : ∃ gd,gd = wB.heap.size:=⟨_,rfl⟩
 rw [← hgd] at HDI
 have HGD:=Lib.hid hgd
 clear hgd
 have HDM0 : Hid (Dm F x y n 0 n Y):=Lib.hid (Dm.start EY.out (fun t _=>HYV.out t))
 clear HYV
 go_wp2_with fail
 rw [← HGD.out]
 go_loopw [9,10] (fun sp _ wr=>∃ (s : Nat) (R : List Nat),sp = .int .i64 ((s + 1 : Nat) : Int) ∧ s + 1 ≤ n ∧ Hid (Dm F x y n s n R) ∧ Hid (DI F b cap W bx ox cx g cg gd X R wr)) (fun sp _ _=>n - (intOf sp).toNat)
 case atStart=>exact ⟨0,Y,rfl,h0,HDM0,HDI⟩
 case round =>
  obtain ⟨s,R,rfl,hs,HM,HI⟩:=hrel
  have hcd : wr.cell? ⟨gd,0,none⟩ = some (.slice (some ⟨g,0,none⟩) n cg):=by have:=HI.out.hcd; rw [HM.out.1] at this; exact this
  by_cases hlt : s + 1 < n
  ·have hn1 : (n : Int) - 1 = ((n - 1 : Nat) : Int):=by omega
   have hlti : ((s + 1 : Nat) : Int) < (n : Int):=by omega
   obtain ⟨sp,hsp⟩ : ∃ sp,sp = s + 1:=⟨_,rfl⟩
   have HSP:=Lib.hid hsp
   rw [← hsp] at hlti ⊢
   rw [← hsp] at hlt
   clear hsp hs
   go_wp2
   clear hcd
   go_loopw [10] (fun j wr=>∃ (m : Nat) (R : List Nat),j = .int .i64 ((m : Int) - 1) ∧ sp ≤ m ∧ m ≤ n ∧ Hid (Dm F x y n s m R) ∧ Hid (DI F b cap W bx ox cx g cg gd X R wr)) (fun j _=>(intOf j).toNat)
   case atStart=>exact ⟨n,R,by rw [hn1],by omega,Nat.le_refl _,HM,HI⟩
   case round =>
    obtain ⟨m,R,rfl,hm1,hm2,HM,HI⟩:=hrel
    by_cases hge : sp < m
    ·obtain ⟨j,rfl⟩ : ∃ j,m = j + 1:=⟨m - 1,by omega⟩
     obtain ⟨i,hi'⟩ : ∃ i,i = j - sp:=⟨_,rfl⟩
     obtain ⟨k,hk'⟩ : ∃ k,j = k + 1:=⟨j - 1,by have:=HSP.out; omega⟩
     have hji : (j : Int) - (sp : Int) = (i : Int):=by omega
     have hj1 : ((j + 1 : Nat) : Int) - 1 = (j : Int):=by omega
     have hin : i < n:=by omega
     have hjn : j < n:=by omega
     have hwi : IntKind.i64.wrap (i : Int) = (i : Int):=IntWalk.i64_in _ (by omega)
     have hkn : k < n:=by omega
     have hsj : sp ≤ j:=by omega
     have hsji : (sp : Int) ≤ (j : Int):=by omega
     have HIX : Hid (i = j - sp ∧ j = k + 1):=Lib.hid ⟨hi',hk'⟩
     have hcd : wr.cell? ⟨gd,0,none⟩ = some (.slice (some ⟨g,0,none⟩) n cg):=by have:=HI.out.hcd; rw [HM.out.1] at this; exact this
     have HLR : Hid (R.length = n):=Lib.hid HM.out.1
     obtain ⟨xi,hxi⟩ : ∃ v,Hid (X.getD i 0 = v):=⟨_,rfl⟩
     obtain ⟨xj,hxj⟩ : ∃ v,Hid (X.getD j 0 = v):=⟨_,rfl⟩
     obtain ⟨dj,hdj⟩ : ∃ v,Hid (R.getD j 0 = v):=⟨_,rfl⟩
     obtain ⟨dk,hdk⟩ : ∃ v,Hid (R.getD k 0 = v):=⟨_,rfl⟩
     obtain ⟨z,hz⟩ : ∃ v,Hid (F.mul (F.sub dj dk) (F.inv (F.sub xj xi)) = v):=⟨_,rfl⟩
     have hS : SC wr W.heap.size (W.heap.size + 1) gd F.p F.e (FM F b cap) (.slice (some ⟨bx,ox,none⟩) n cx) (.slice (some ⟨g,0,none⟩) n cg) bx ox g 0 i j k xi xj dj dk wr:=
      ⟨HI.out.fb,by have:=HI.out.hcx; rw [EX.out] at this; exact this,hcd,by rw [← hxi.out]; exact HXC.out i hin wr (by have:=HI.out.nx; rw [EX.out] at this; exact this),by rw [← hxj.out]; exact HXC.out j hjn wr (by have:=HI.out.nx; rw [EX.out] at this; exact this),
       by rw [← hdj.out,Nat.zero_add]; exact HI.out.row.cell (by rw [HLR.out]; exact hjn),by rw [← hdk.out,Nat.zero_add]; exact HI.out.row.cell (by rw [HLR.out]; exact hkn),Lib.hid (Below.refl _ _)⟩
     have HSZ : Hid (W.heap.size < wr.heap.size ∧ W.heap.size + 1 < wr.heap.size ∧ gd < wr.heap.size ∧ bx < wr.heap.size ∧ g < wr.heap.size):=Lib.hid (by
      have h1:=HI.out.ld
      have h2:=HI.out.sd
      have h3:=HI.out.lx
      have h4:=HI.out.row.lt
      omega)
     have HCL : Hid (∀ w,SC wr W.heap.size (W.heap.size + 1) gd F.p F.e (FM F b cap) (.slice (some ⟨bx,ox,none⟩) n cx) (.slice (some ⟨g,0,none⟩) n cg) bx ox g 0 i j k xi xj dj dk w →
       Calls Try.prog 70 #[.int .i64 (i : Nat),.int .i64 (j : Nat),.pointer (some ⟨W.heap.size,0,none⟩),.pointer (some ⟨W.heap.size + 1,0,none⟩),.pointer (some ⟨gd,0,none⟩)] w fun e w'=>e = .returned (.int .i64 (z : Nat)) ∧ Below w.heap.size w w'):=Lib.hid (fun w hw=>by
      have hb:=hw.2.2.2.2.2.2.2.out
      have hs:=hb.size
      have hsz:=HSZ.out
      rw [← hz.out]
      refine closure_c (HO.out.below (HI.out.bl.trans (hb.mono (by omega)))) (W:=w) ⟨hw.1,hw.2.1,hw.2.2.1,hw.2.2.2.1,hw.2.2.2.2.1,hw.2.2.2.2.2.1,hw.2.2.2.2.2.2.1,Lib.hid (Below.refl _ _)⟩ (by omega) hin hjn HIX.out.2 hn ?_ ?_ ?_ ?_ ?_
      ·rw [← hxi.out]; exact hX.get H.ok _
      ·rw [← hxj.out]; exact hX.get H.ok _
      ·rw [← hdj.out]; exact HM.out.in.get H.ok _
      ·rw [← hdk.out]; exact HM.out.in.get H.ok _
      ·rw [← hxj.out,← hxi.out,HXV.out,HXV.out]
       exact HSU.out j i hjn hin (by have:=HIX.out; have:=HSP.out; omega))
     have HSTP : Hid (Dm F x y n s j (R.set j z)):=Lib.hid (by
      have h:=HM.out.step hjn (by have:=HSP.out; omega)
      rw [← hz.out,← hdj.out,← hdk.out,← hxj.out,← hxi.out,HXV.out,HXV.out]
      have e1 : j - 1 = k:=by have:=HIX.out; omega
      have e2 : j - (s + 1) = i:=by have:=HIX.out; have:=HSP.out; omega
      rw [e1,e2] at h
      exact h)
     have hS0:=SC.keep hS (Below.refl _ _).drew HSZ.out
     rw [hj1]
     clear hS hi' hk' HLR
     go_wp2_with fail
     refine Go.Rg.region_pre (n0:=9) (fl:=10) (m:=1) (M:=#[true,true,true,true,true,true,true,true,true,false]) (S:=fun w'=>SC wr W.heap.size (W.heap.size + 1) gd F.p F.e (FM F b cap) (.slice (some ⟨bx,ox,none⟩) n cx) (.slice (some ⟨g,0,none⟩) n cg) bx ox g 0 i j k xi xj dj dk w') (R:=fun w w'=>Below w.heap.size w w') (φ:=ph F b cap [.eq (.slice (some ⟨g,0,none⟩) n cg),.eq (.int .i64 (j : Nat)),.eq (.func (.func 70) #[] #[.pointer (some ⟨W.heap.size,0,none⟩),.pointer (some ⟨W.heap.size + 1,0,none⟩),.pointer (some ⟨gd,0,none⟩)]),.eq (.int .i64 (j : Nat)),.eq (.int .i64 (sp : Nat)),.eq (.int .i64 (i : Nat)),.eq (.int .i64 (j : Nat)),.eq (.int .i64 (z : Nat)),.eq (.pointer (some ⟨g,j,none⟩))]) (ψ:=psi [.eq (.slice (some ⟨g,0,none⟩) n cg),.eq (.int .i64 (j : Nat)),.eq (.func (.func 70) #[] #[.pointer (some ⟨W.heap.size,0,none⟩),.pointer (some ⟨W.heap.size + 1,0,none⟩),.pointer (some ⟨gd,0,none⟩)]),.eq (.int .i64 (j : Nat)),.eq (.int .i64 (sp : Nat)),.eq (.int .i64 (i : Nat)),.eq (.int .i64 (j : Nat)),.eq (.int .i64 (z : Nat)),.eq (.pointer (some ⟨g,j,none⟩))]) (χ:=chi [.eq (.slice (some ⟨g,0,none⟩) n cg),.eq (.int .i64 (j : Nat)),.eq (.func (.func 70) #[] #[.pointer (some ⟨W.heap.size,0,none⟩),.pointer (some ⟨W.heap.size + 1,0,none⟩),.pointer (some ⟨gd,0,none⟩)]),.eq (.int .i64 (j : Nat)),.eq (.int .i64 (sp : Nat)),.eq (.int .i64 (i : Nat)),.eq (.int .i64 (j : Nat)),.eq (.int .i64 (z : Nat)),.eq (.pointer (some ⟨g,j,none⟩))]) (by kernel_rfl) (ph_mono _) (psi_sep _) (by decide) (by kernel_rfl) (by kernel_rfl) (by kernel_rfl) (by kernel_rfl) (by kernel_rfl) (fun h=>absurd h (by decide)) (by rfl) (hS0) ?steps ?fin
     case steps =>
      refine ⟨fun a w hat K hK=>?_,?_⟩
      ·have e7 : a.tmps[7]?.getD undef = .pointer (some ⟨gd,0,none⟩):=hat.b 7 (by kernel_rfl) rfl
       have hSt:=hat.st
       rw [if_pos (by rfl)]
       go_simp
       exact hK.out _ _ hSt (Below.refl _ _) rfl noB
      refine ⟨Go.Rg.step2_mv rfl (.inl rfl) (fun _=>Below.refl _ _) (fun _ _=>noB) (fun a w hat=>hat.b 10 (by kernel_rfl) rfl),?_⟩
      refine ⟨Go.Rg.step2_mv rfl (.inl rfl) (fun _=>Below.refl _ _) (fun _ _=>noB) (fun a w hat=>hat.b 8 (by kernel_rfl) rfl),?_⟩
      refine ⟨Go.Rg.step2_mv rfl (.inl rfl) (fun _=>Below.refl _ _) (fun _ _=>noB) (fun a w hat=>hat.b 10 (by kernel_rfl) rfl),?_⟩
      refine ⟨Go.Rg.step2_mv rfl (.inl rfl) (fun _=>Below.refl _ _) (fun _ _=>noB) (fun a w hat=>hat.b 9 (by kernel_rfl) rfl),?_⟩
      refine ⟨fun a w hat K hK=>?_,?_⟩
      ·have e31 : a.tmps[31]?.getD undef = .int .i64 (j : Nat):=hat.d 3 31 (by kernel_rfl) (by kernel_rfl)
       have e32 : a.tmps[32]?.getD undef = .int .i64 (sp : Nat):=hat.d 4 32 (by kernel_rfl) (by kernel_rfl)
       have hSt:=hat.st
       rw [if_pos (by rfl)]
       go_simp
       exact hK.out _ _ hSt (Below.refl _ _) rfl noB
      refine ⟨Go.Rg.step2_mv rfl (.inl rfl) (fun _=>Below.refl _ _) (fun _ _=>noB) (fun a w hat=>hat.b 10 (by kernel_rfl) rfl),?_⟩
      refine ⟨fun a w hat K hK=>?_,?_⟩
      ·have e30 : a.tmps[30]?.getD undef = .func (.func 70) #[] #[.pointer (some ⟨W.heap.size,0,none⟩),.pointer (some ⟨W.heap.size + 1,0,none⟩),.pointer (some ⟨gd,0,none⟩)]:=hat.d 2 30 (by kernel_rfl) (by kernel_rfl)
       have e33 : a.tmps[33]?.getD undef = .int .i64 (i : Nat):=hat.d 5 33 (by kernel_rfl) (by kernel_rfl)
       have e34 : a.tmps[34]?.getD undef = .int .i64 (j : Nat):=hat.d 6 34 (by kernel_rfl) (by kernel_rfl)
       have hSt:=hat.st
       rw [if_pos (by rfl)]
       go_simp
       go_at_call 70
       with_reducible refine (HCL.out _ hSt).mono ?_
       rintro z' v' ⟨rfl,hb⟩
       exact hK.out _ _ (SC.keep hSt hb HSZ.out) hb rfl noB
      refine ⟨fun a w hat K hK=>?_,?_⟩
      ·have e28 : a.tmps[28]?.getD undef = .slice (some ⟨g,0,none⟩) n cg:=hat.d 0 28 (by kernel_rfl) (by kernel_rfl)
       have e29 : a.tmps[29]?.getD undef = .int .i64 (j : Nat):=hat.d 1 29 (by kernel_rfl) (by kernel_rfl)
       have hSt:=hat.st
       rw [if_pos (by rfl)]
       go_simp
       exact hK.out _ _ hSt (Below.refl _ _) rfl noB
      exact trivial
     case fin =>
      intro a w hsz hdf hbase hSt hval hpair hun
      obtain ⟨t,df⟩:=a
      have et:=Go.Rg.tmps_of hsz [28,29,30,31,32,33,34,35,36] (Go.Rg.rest_of (by kernel_rfl) hbase hun)
      have x28 : t.getD 28 undef = .slice (some ⟨g,0,none⟩) n cg:=hval 0 28 (by decide) (by kernel_rfl)
      have x29 : t.getD 29 undef = .int .i64 (j : Nat):=hval 1 29 (by decide) (by kernel_rfl)
      have x30 : t.getD 30 undef = .func (.func 70) #[] #[.pointer (some ⟨W.heap.size,0,none⟩),.pointer (some ⟨W.heap.size + 1,0,none⟩),.pointer (some ⟨gd,0,none⟩)]:=hval 2 30 (by decide) (by kernel_rfl)
      have x31 : t.getD 31 undef = .int .i64 (j : Nat):=hval 3 31 (by decide) (by kernel_rfl)
      have x32 : t.getD 32 undef = .int .i64 (sp : Nat):=hval 4 32 (by decide) (by kernel_rfl)
      have x33 : t.getD 33 undef = .int .i64 (i : Nat):=hval 5 33 (by decide) (by kernel_rfl)
      have x34 : t.getD 34 undef = .int .i64 (j : Nat):=hval 6 34 (by decide) (by kernel_rfl)
      have x35 : t.getD 35 undef = .int .i64 (z : Nat):=hval 7 35 (by decide) (by kernel_rfl)
      have x36 : t.getD 36 undef = .pointer (some ⟨g,j,none⟩):=hval 8 36 (by decide) (by kernel_rfl)
      clear hval hbase hsz hpair hun
      simp only [List.foldl_cons,List.foldl_nil,x28,x29,x30,x31,x32,x33,x34,x35,x36] at et
      rw [et]
      have hdf' : df = _:=hdf
      rw [hdf']
      simp only [List.setIfInBounds_toArray,List.set_cons_zero,List.set_cons_succ]
      clear et hdf hdf'
      refine wpAny_of_held (S:=fun _=>True) _ _ _ _ ?_
      have hbw:=hSt.2.2.2.2.2.2.2.out
      have HI2:=Lib.hid (DI.keep HI.out hbw)
      have hfz:=HI2.out.row.frozen j
      have hcj : w.cell? ⟨g,j,none⟩ = some (.int .i64 (dj : Nat)):=by have:=hSt.2.2.2.2.2.1; rw [Nat.zero_add] at this; exact this
      clear hbw
      refine Rg.rd1 9 ⟨none,.store 3 (.tmp 36) (.tmp 35),0,"poly.go:107",#[⟨8,.data⟩,⟨7,.data⟩,⟨7,.chain⟩,⟨0,.phase⟩,⟨1,.phase⟩,⟨2,.phase⟩,⟨3,.phase⟩,⟨4,.phase⟩,⟨5,.phase⟩,⟨6,.phase⟩,⟨7,.phase⟩],none⟩ fun K hK=>?_
      go_simp
      refine hK.out _ _ trivial (fun _=>?_)
      clear hK K
      try simp only [Rg.gp]
      refine wpAnyH_done (by kernel_rfl) ?_ _
      have HI3:=Lib.hid (HI2.out.set j z)
      clear hSt hS0 hfz hcj
      go_wp2
      go_roundw
      case rel=>exact ⟨j,R.set j z,by go_num,hsj,by omega,HSTP,HI3⟩
      case measure=>have:=HIX.out; simp [intOf]; omega
    ·obtain rfl : sp = m:=by omega
     have hmlt : ¬ ((sp : Int) ≤ (sp : Int) - 1):=by omega
     have HM2 : Hid (Dm F x y n (s + 1) n R):=Lib.hid (by have:=HM.out; rw [HSP.out] at this; exact this.next)
     have HSP2 : Hid (sp + 1 = s + 1 + 1):=Lib.hid (by rw [HSP.out])
     go_wp2
     go_roundw
     case rel=>exact ⟨s + 1,R,by first | rfl | (rw [← HSP2.out]; go_num) | go_num,by have:=HSP.out; omega,HM2,HI⟩
     case measure=>have:=HSP.out; simp [intOf]; omega
  ·have hse : s + 1 = n:=by omega
   have hnlt : ¬ ((s + 1 : Nat) : Int) < (n : Int):=by omega
   have HFIN : Hid (∀ t,t < n → R.getD t 0 = (dd x y t 0).1):=Lib.hid (fun t ht=>by rw [HM.out.2 t ht,if_neg (by omega),dV_end x y (by omega)])
   have HNF : Hid (NN R wr (.slice (some ⟨g,0,none⟩) n cg)):=Lib.hid (by have:=HI.out.row.nn; rw [HM.out.1] at this; exact this)
   have HLN : Hid (R.length = n ∧ In F R):=Lib.hid ⟨HM.out.1,HM.out.in⟩
   have HBF : Hid (Below W.heap.size W wr):=Lib.hid HI.out.bl
   go_wp2
   go_ret
   exact ⟨R,_,_,rfl,HNF.out,HLN.out.1,HLN.out.2,HFIN.out,HBF.out⟩
abbrev SN (W : World) (p q : Int) (m : Value) (w : World) : Prop:=FB W.heap.size p q m w ∧ PB (W.heap.size + 1) 0 0 (.slice none 0 0) (.slice none 0 0) w ∧ Hid (∀ j,w.frozen? ⟨W.heap.size + 1,j,none⟩ = false) ∧ Hid (Below W.heap.size W w) ∧ Hid (W.heap.size + 2 ≤ w.heap.size)
theorem SN.keep {W w w' : World} {p q : Int} {m : Value} {k : Nat} (h : SN W p q m w) (hb : Below k w w') (hk : W.heap.size + 2 ≤ k) : SN W p q m w':=
 ⟨FB.keep h.1 hb (by omega),PB.keep h.2.1 hb (by omega),Lib.hid (fun j=>(hb.frozen (by show W.heap.size + 1 < k; omega)).trans (h.2.2.1.out j)),Lib.hid (h.2.2.2.1.out.trans (hb.mono (by omega))),Lib.hid (Nat.le_trans h.2.2.2.2.out hb.size)⟩
abbrev w2n (W : World) (p q : Int) (m : Value) : World:=(W.alloc (.cells #[.int .i64 p,.int .i64 q,m] 28)).alloc (.cells #[.int .i64 0,.int .i64 0,.slice none 0 0,.slice none 0 0] 61)
theorem SN.of (W : World) (p q : Int) (m : Value) : SN W p q m (w2n W p q m):=by
 have a1:=pb_at (W.alloc (.cells #[.int .i64 p,.int .i64 q,m] 28)) 0 0 (.slice none 0 0) (.slice none 0 0)
 have e1 : (W.alloc (.cells #[.int .i64 p,.int .i64 q,m] 28)).heap.size = W.heap.size + 1:=by simp
 rw [e1] at a1
 have k1 : Below (W.heap.size + 1) (W.alloc (.cells #[.int .i64 p,.int .i64 q,m] 28)) (w2n W p q m):=(Below.refl _ _).alloc (by simp) _
 exact ⟨FB.keep (by simp [FB]) k1 (by omega),a1,Lib.hid (fun j=>World.frozen?_alloc_at _ _ _ _ (by simp)),Lib.hid (((Below.refl _ _).alloc (Nat.le_refl _) _).alloc (by simp) _),Lib.hid (by simp)⟩
theorem nn_two {w : World} {x y : Nat} : NN [x,y] (w.alloc (.cells #[.int .i64 x,.int .i64 y] 3)) (.slice (some ⟨w.heap.size,0,none⟩) 2 2):=by
 refine .inr ⟨w.heap.size,0,2,rfl,by simp,by simp,fun t ht=>?_⟩
 match t,ht with
 | 0,_=>exact World.cell?_alloc_at _ _ _ _ rfl
 | 1,_=>exact World.cell?_alloc_at _ _ _ _ rfl
 | t + 2,ht=>exact absurd ht (by simp)
theorem lin_po {F : Gf} (hF : Ok F) (x : Nat) : Po F [F.neg x,1]:=⟨In.cons (hF.neg_lt x) (In.cons hF.one_lt In.nil),by simp [Cn]⟩
set_option maxHeartbeats 6400000 in
theorem minus_c {F : Gf} {b cap x : Nat} {W : World} (hO : Ops F b cap W) (hx : x < F.q) : Calls Try.prog 51 #[FV F b cap,.int .i64 (x : Nat)] W (PPost F b cap [F.neg x,1] W):=by
 obtain ⟨nx,hnx⟩ : ∃ nx,Hid (F.neg x = nx):=⟨_,rfl⟩
 have HNG : Hid (∀ w,Below W.heap.size W w → Calls Try.prog 72 #[FV F b cap,.int .i64 (x : Nat)] w fun e w'=>e = .returned (.int .i64 (nx : Nat)) ∧ Below w.heap.size w w'):=Lib.hid (fun w hw=>by
  rw [← hnx.out]; exact hO.neg w hw x hx)
 have HT : Hid (trL [nx,1] = [nx,1]):=Lib.hid (by rw [← hnx.out]; exact trL_of (lin_po hO.ok x).cn)
 rw [hnx.out]
 have HS0:=Lib.hid (SN.of W F.p F.e (FM F b cap))
 have hS00:=HS0.out
 have hS0 : SN W F.p F.e (FM F b cap) (w2n W F.p F.e (FM F b cap)).drew:=SN.keep HS0.out (Below.refl _ _).drew HS0.out.2.2.2.2.out
 obtain ⟨⟨z0,z1,z2⟩,⟨r0,r1,r2,r3⟩,-,-,-⟩:=hS00
 clear r0 r1 r2 r3 hO hx
 go_enter Try.func51,Try.ntmps51
 go_wp2_with fail
 refine Go.Rg.region_pre (n0:=6) (fl:=7) (m:=1) (M:=#[true,true,true,true,true,true,false]) (S:=fun w'=>SN W F.p F.e (FM F b cap) w') (R:=fun w w'=>Below w.heap.size w w') (φ:=ph F b cap [.eq (FV F b cap),.eq (FV F b cap),.eq (.int .i64 (x : Nat)),.eq (.int .i64 (nx : Nat)),.sn (W.heap.size + 2) ([nx,1]),.pn (W.heap.size + 2) ([nx,1])]) (ψ:=psi [.eq (FV F b cap),.eq (FV F b cap),.eq (.int .i64 (x : Nat)),.eq (.int .i64 (nx : Nat)),.sn (W.heap.size + 2) ([nx,1]),.pn (W.heap.size + 2) ([nx,1])]) (χ:=chi [.eq (FV F b cap),.eq (FV F b cap),.eq (.int .i64 (x : Nat)),.eq (.int .i64 (nx : Nat)),.sn (W.heap.size + 2) ([nx,1]),.pn (W.heap.size + 2) ([nx,1])]) (by kernel_rfl) (ph_mono _) (psi_sep _) (by decide) (by kernel_rfl) (by kernel_rfl) (by kernel_rfl) (by kernel_rfl) (by kernel_rfl) (fun h=>absurd h (by decide)) (by rfl) (hS0) ?steps ?fin
 case steps =>
  refine ⟨fun a w hat K hK=>?_,?_⟩
  ·have e2 : a.tmps[2]?.getD undef = .pointer (some ⟨W.heap.size,0,none⟩):=hat.b 2 (by kernel_rfl) rfl
   have hSt:=hat.st
   rw [if_pos (by rfl)]
   go_simp
   exact hK.out _ _ hSt (Below.refl _ _) rfl noB
  refine ⟨fun a w hat K hK=>?_,?_⟩
  ·have e2 : a.tmps[2]?.getD undef = .pointer (some ⟨W.heap.size,0,none⟩):=hat.b 2 (by kernel_rfl) rfl
   have hSt:=hat.st
   rw [if_pos (by rfl)]
   go_simp
   exact hK.out _ _ hSt (Below.refl _ _) rfl noB
  refine ⟨Go.Rg.step2_mv rfl (.inl rfl) (fun _=>Below.refl _ _) (fun _ _=>noB) (fun a w hat=>hat.b 1 (by kernel_rfl) rfl),?_⟩
  refine ⟨fun a w hat K hK=>?_,?_⟩
  ·have e6 : a.tmps[6]?.getD undef = FV F b cap:=hat.d 1 6 (by kernel_rfl) (by kernel_rfl)
   have e7 : a.tmps[7]?.getD undef = .int .i64 (x : Nat):=hat.d 2 7 (by kernel_rfl) (by kernel_rfl)
   have hSt:=hat.st
   rw [if_pos (by rfl)]
   go_simp
   go_at_call 72
   with_reducible refine (HNG.out _ hSt.2.2.2.1.out).mono ?_
   rintro z v' ⟨rfl,hb⟩
   exact hK.out _ _ (SN.keep hSt hb hSt.2.2.2.2.out) hb rfl noB
  refine ⟨fun a w hat K hK=>?_,?_⟩
  ·have e8 : a.tmps[8]?.getD undef = .int .i64 (nx : Nat):=hat.d 3 8 (by kernel_rfl) (by kernel_rfl)
   have hSt:=hat.st
   rw [if_pos (by rfl)]
   go_simp
   have hb:=(Below.refl w.heap.size w).alloc (Nat.le_refl _) (.cells #[.int .i64 (nx : Nat),.int .i64 1] 3)
   exact hK.out _ _ (SN.keep hSt hb hSt.2.2.2.2.out) hb ⟨_,_,rfl,nn_two,fun h o e=>by cases e; exact hSt.2.2.2.2.out⟩ noB
  refine ⟨fun a w hat K hK=>?_,?_⟩
  ·have e5 : a.tmps[5]?.getD undef = FV F b cap:=hat.d 0 5 (by kernel_rfl) (by kernel_rfl)
   obtain ⟨a9,c9,e9,n9,fr9⟩:=(show (Ke.sn (W.heap.size + 2) ([nx,1])).ok F b cap (a.tmps[9]?.getD undef) w from hat.d 4 9 (by kernel_rfl) (by kernel_rfl))
   have hSt:=hat.st
   rw [if_pos (by rfl)]
   have n9' : NN [nx,1] w (.slice a9 2 c9):=n9
   go_simp
   go_at_call 43
   with_reducible refine (over_c (L:=[nx,1]) (n:=2) (by simp) rfl n9').mono ?_
   rintro z v' ⟨rfl,hb⟩
   exact hK.out _ _ (SN.keep hSt hb hSt.2.2.2.2.out) hb ⟨a9,c9,by rw [HT.out],(n9.below hb),fr9⟩ noB
  exact trivial
 case fin =>
  intro a w hsz hdf hbase hSt hval hpair hun
  obtain ⟨t,df⟩:=a
  have et:=Go.Rg.tmps_of hsz [5,6,7,8,9,10] (Go.Rg.rest_of (by kernel_rfl) hbase hun)
  have x5 : t.getD 5 undef = FV F b cap:=hval 0 5 (by decide) (by kernel_rfl)
  have x6 : t.getD 6 undef = FV F b cap:=hval 1 6 (by decide) (by kernel_rfl)
  have x7 : t.getD 7 undef = .int .i64 (x : Nat):=hval 2 7 (by decide) (by kernel_rfl)
  have x8 : t.getD 8 undef = .int .i64 (nx : Nat):=hval 3 8 (by decide) (by kernel_rfl)
  obtain ⟨p9,q9,x9,m9,fr9⟩:=(show (Ke.sn (W.heap.size + 2) ([nx,1])).ok F b cap (t.getD 9 undef) w from hval 4 9 (by decide) (by kernel_rfl))
  obtain ⟨p10,q10,x10,m10,fr10⟩:=(show (Ke.pn (W.heap.size + 2) ([nx,1])).ok F b cap (t.getD 10 undef) w from hval 5 10 (by decide) (by kernel_rfl))
  clear hval hbase hsz hpair hun
  simp only [List.foldl_cons,List.foldl_nil,x5,x6,x7,x8,x9,x10] at et
  rw [et]
  have hdf' : df = _:=hdf
  rw [hdf']
  simp only [List.setIfInBounds_toArray,List.set_cons_zero,List.set_cons_succ]
  clear et hdf hdf'
  refine wpAny_of_held (S:=fun _=>True) _ _ _ _ ?_
  obtain ⟨-,⟨r0,r1,r2,r3⟩,hfz,hbl,-⟩:=hSt
  have f0:=hfz.out 0
  have f1:=hfz.out 1
  have f2:=hfz.out 2
  have f3:=hfz.out 3
  refine Rg.rd1 6 ⟨none,.store 61 (.tmp 4) (.tmp 10),0,"polynomial.go:20",#[⟨5,.data⟩,⟨5,.chain⟩,⟨0,.phase⟩,⟨1,.phase⟩,⟨2,.phase⟩,⟨3,.phase⟩,⟨4,.phase⟩,⟨5,.phase⟩],none⟩ fun K hK=>?_
  go_simp
  refine hK.out _ _ trivial (fun _=>?_)
  clear hK K
  try simp only [Rg.gp]
  obtain ⟨w9,hw9⟩ : ∃ w9,w9 = ((((w.setCell ⟨W.heap.size + 1,0,none⟩ (.int .i64 F.p)).setCell ⟨W.heap.size + 1,1,none⟩ (.int .i64 F.e)).setCell ⟨W.heap.size + 1,2,none⟩ (FM F b cap)).setCell ⟨W.heap.size + 1,3,none⟩ (.slice p10 2 q10)):=⟨_,rfl⟩
  rw [← hw9]
  obtain ⟨⟨s0,s1,s2,s3⟩,hoth,-,hsz9,hb9⟩:=box_put (k:=W.heap.size + 1) ⟨r0,r1,r2,r3⟩ hfz.out (Nat.le_refl _) hw9
  refine wpAnyH_done (by kernel_rfl) ?_ _
  have HN9:=Lib.hid (NN.othb m10 hoth hsz9 (fun x o e=>by have:=fr10 x o e; omega))
  have HB9:=Lib.hid (hbl.out.trans (hb9.mono (by omega)))
  clear hw9 r0 r1 r2 r3 f0 f1 f2 f3 hoth hsz9 hb9 m9 m10 hbl
  go_wp2
  exact bodyPost_ret (v:=PF F b cap p10 ([nx,1]).length q10) (by simp [results,Try.results51,go_sem,s0,s1,s2,s3]) rfl ⟨_,_,rfl,HN9.out,HB9.out,fun h o e=>by have:=fr10 h o e; omega⟩
set_option maxHeartbeats 3200000 in
theorem diff_lo {F : Gf} [H : OkC F] {b cap : Nat} {X Y : List Nat} {ax ay : Option Addr} {cx cy : Nat} {W : World} (hX : In F X) (hY : In F Y)
  (ny : NN [] W (.slice ay 0 cy)) : Calls Try.prog 50 #[FV F b cap,.slice ax 0 cx,.slice ay 0 cy] W (DdPost F (fe F X hX) (fe F Y hY) 0 W):=by
 have hmf : ∀ (fn : Fn) (first cap : Array Value) (w : World),(Instr.makeFunc fn first cap).run Try.prog w = .ok (.func fn first cap) w:=fun _ _ _ _=>rfl
 have HB2 : Hid (Below W.heap.size W (((W.alloc (.cells #[.int .i64 F.p,.int .i64 F.e,FM F b cap] 28)).alloc (.cells #[.slice ax 0 cx] 25)).alloc (.cells #[.slice none 0 0] 25))):=Lib.hid ((((Below.refl _ _).alloc (Nat.le_refl _) _).alloc (by simp) _).alloc (by simp; omega) _)
 have HB3 : Hid (∀ w,w = (((W.alloc (.cells #[.int .i64 F.p,.int .i64 F.e,FM F b cap] 28)).alloc (.cells #[.slice ax 0 cx] 25)).alloc (.cells #[.slice none 0 0] 25)) → DdPost F (fe F X hX) (fe F Y hY) 0 W (.returned (.slice none 0 0)) w):=Lib.hid (fun w e=>by
  subst e
  exact ⟨[],none,0,rfl,.inl ⟨rfl,rfl⟩,rfl,In.nil,fun t ht=>absurd ht (by omega),HB2.out⟩)
 rcases ny with ⟨_,h⟩ | ⟨b',off',cap',h,-,-,-⟩
 ·simp only [Value.slice.injEq] at h
  obtain ⟨rfl,-,rfl⟩:=h
  go_enter Try.func50,Try.ntmps50
  go_wp2_with fail
  go_loopw [9] (fun sp wr=>sp = .int .i64 1 ∧ wr = (((W.alloc (.cells #[.int .i64 F.p,.int .i64 F.e,FM F b cap] 28)).alloc (.cells #[.slice ax 0 cx] 25)).alloc (.cells #[.slice none 0 0] 25))) (fun _ _=>0)
  case atStart=>exact ⟨rfl,rfl⟩
  case round =>
   obtain ⟨rfl,rfl⟩:=hrel
   go_wp2
   go_ret
   exact HB3.out _ rfl
 ·simp only [Value.slice.injEq,true_and] at h
  obtain ⟨rfl,-⟩:=h
  go_enter Try.func50,Try.ntmps50
  go_wp2_with fail
  go_loopw [9] (fun sp wr=>sp = .int .i64 1 ∧ wr = (((W.alloc (.cells #[.int .i64 F.p,.int .i64 F.e,FM F b cap] 28)).alloc (.cells #[.slice ax 0 cx] 25)).alloc (.cells #[.slice none 0 0] 25))) (fun _ _=>0)
  case atStart=>exact ⟨rfl,rfl⟩
  case round =>
   obtain ⟨rfl,rfl⟩:=hrel
   go_wp2
   go_ret
   exact HB3.out _ rfl
theorem diff_c {F : Gf} [H : OkC F] {b cap : Nat} {X Y : List Nat} {ax ay : Option Addr} {n cx cy : Nat} {W : World} (hO : Ops F b cap W) (hX : In F X) (hY : In F Y) (eX : X.length = n) (eY : Y.length = n) (hn : n ≤ 1000) (hnd : X.Nodup)
  (nx : NN X W (.slice ax n cx)) (ny : NN Y W (.slice ay n cy)) : Calls Try.prog 50 #[FV F b cap,.slice ax n cx,.slice ay n cy] W (DdPost F (fe F X hX) (fe F Y hY) n W):=by
 rcases Nat.eq_zero_or_pos n with h | h
 ·subst h
  have e : Y = []:=List.eq_nil_of_length_eq_zero eY
  exact diff_lo hX hY (by rw [e] at ny; exact ny)
 ·exact diff_hi hO hX hY eX eY hn h hnd nx ny
end Go.Proofs.Ytllecfhfhcmpaaa
