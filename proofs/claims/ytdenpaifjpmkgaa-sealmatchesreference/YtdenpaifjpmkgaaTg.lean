/- Trees of digests: what the laws' calls answer, in letters. -/
import Derived.Test.YtdenpaifjpmkgaaTf
namespace Go.Proofs.Ytdenpaifjpmkgaa
open Go.Ev
open Go.RowKit (Below)
set_option maxRecDepth 100000
set_option linter.unusedVariables false
set_option linter.unusedSectionVars false

/-- letters: 0, 1, 2: the slice; 3, 15, 16: the small numbers; 17: the digest given; 4 ..: the path; 20, 22: roots; 21: the leaf -/
noncomputable abbrev iX (m : Int) : SX := .bin .rem (.var 15 0 65535) (gX m)
noncomputable abbrev iA (m : Int) : AV := .sym .i64 (iX m) 0 (m - 1)
noncomputable abbrev gSl (m : Int) (b : Nat) : AV := .sls b (.lit 0) (gX m) (gX m) false
noncomputable def pathV (d b : Nat) : AV := match d with
  | 0 => .nilSlice
  | d + 1 => .slice b 0 (d + 1) (d + 1) false 1
/-- Open -/
noncomputable def oFct (m : Int) (k d : Nat) : Fct := match d with
  | 0 => ⟨[gSl m 0, iA m], [rowD k], .tup [.nilSlice, .int .i64 0], [], []⟩
  | d + 1 => ⟨[gSl m 0, iA m], [rowD k], .tup [.slice (4 + 2 * d) 0 (d + 1) (d + 1) false 1, .int .i64 0], [4 + 2 * d], [pRow (d + 1)]⟩
noncomputable def oTab (m : Int) : KTab := { cmps := [(.geq, iX m, gX m, false)] }
noncomputable def oXF (m : Int) (k d : Nat) : XF := { f := 47, args := [gSl m 0, iA m, .ptr 2 0, .ptr 1 0], s := cst k 1, v := .tup [], s' := cSt k d 1 }
noncomputable def oGot (m : Int) (k d : Nat) : Bool := (oFct m k d).good && (oFct m k d).got ((@evF (oTab m).know Try.prog (orcX [oXF m k d]) 5000).call 40 (oFct m k d).args (oFct m k d).st)
noncomputable def oGotL (m : Int) (k : Nat) : Bool := (List.range 10).all (oGot m k)
theorem oGot_all : (oGotL 300 50 && (oGotL 300 52 && oGotL 60 50)) = true := by kernel_rfl
/-- Root -/
noncomputable abbrev rFct (m : Int) (k r : Nat) : Fct := ⟨[gSl m 0], [rowD k], dA r, [], []⟩
/-- climb, with a path that is known -/
noncomputable def pOld (cs : List AV) : List ABlk := match cs with
  | [] => []
  | _ => [{ elem := 24, cells := cs, ro := true }]
noncomputable def nA (m : Int) : AV := .sym .i64 (gX m) 1 m
noncomputable def kFct (m : Int) (leaf r : Nat) (ok : Bool) (p : AV) (cs : List AV) : Fct := ⟨[nA m, iA m, dA leaf, p], pOld cs, .tup [dA r, .bool ok], [], []⟩
abbrev exF : Fct := ⟨[], [], .bool true, [], []⟩

/-! ### SealChanges -/
noncomputable def k16 (i : Nat) : AV := .sym .u16 (.var i 0 65535) 0 65535
noncomputable def cTabL (s : Bool) : KTab where
  cmps := [(.lss, iX 300, gX 300, true), (.geq, iX 300, gX 300, false), (.eql, dX 20, dX 22, s), (.eql, dX 17, dX 21, s)]
  cells := [(50, .int .u64, iX 300, dA 21)]
  puts := [(53, .int .u64, iX 300, dA 17, 52)]
  apps := [(.int .u64, .cells [], .lst 50 (.lit 0) (gX 300), 53)]
noncomputable def cFacts (a d : Nat) : List (FuncId × List Fct) := [(9, [exF]), (10, [gFct a 300]), (40, [oFct 300 50 d, oFct 300 52 d]), (23, [rFct 300 50 20, rFct 300 52 22]), (48, [kFct 300 17 22 true (pathV d 0) (cells4 d)])]
noncomputable def cLaw (a : Nat) : Fct := ⟨[gL a, .agg [k16 3, k16 15], dA 17], gOld a, .bool true, [], []⟩
noncomputable def cGot (a d : Nat) (s : Bool) : Bool := (cLaw a).got ((@evF (cTabL s).know Try.prog (orcOf (cFacts a d)) 5000).call 7 (cLaw a).args (cLaw a).st)

/-! ### the facts hold -/
section
variable {R : Rho}
theorem ex_hold : @Fct.Holds R Try.prog 9 exF := by
  letI := R
  exact fct_flat (by rfl) rfl rfl (lone_fine rfl trivial) (by kernel_rfl) (fun w => ex_c w)

theorem sub_all (L : List Int) : sub L 0 L.length = L := by simp [sub]

theorem open_hold {m : Int} {k i n : Nat} {L : List Int} (hmk : (m = 300 ∧ (k = 50 ∨ k = 52)) ∨ (m = 60 ∧ k = 50)) (hL : LetL R k L) (hu : ∀ x ∈ L, u64 x) (hn : L.length = n) (h1 : 1 ≤ n) (h2 : n ≤ 300) (hi : i < n)
    (eN : @SX.eval R (gX m) = n) (okN : @SX.ok R (gX m)) (hNm : (n : Int) ≤ m) (eI : @SX.eval R (iX m) = i) (okI : @SX.ok R (iX m)) (hp : ∀ t, t < depN n i → @Rho.ρ R (4 + t) = (pathL L i).getD t 0) :
    @Fct.Holds R Try.prog 40 (oFct m k (depN n i)) := by
  letI := R
  have hd : depN n i < 10 := by have := dep_le 9 n i (by omega); omega
  have hg : oGot m k (depN n i) = true := by
    have h := oGot_all
    simp only [Bool.and_eq_true, oGotL, List.all_eq_true] at h
    rcases hmk with ⟨rfl, rfl | rfl⟩ | ⟨rfl, rfl⟩
    · exact h.1 _ (List.mem_range.2 hd)
    · exact h.2.1 _ (List.mem_range.2 hd)
    · exact h.2.2 _ (List.mem_range.2 hd)
  unfold oGot at hg
  rw [Bool.and_eq_true] at hg
  have hk : @KnowOk R (oTab m).know := by
    refine KTab.ok { cmps := ?_ }
    intro x hx
    obtain rfl := List.mem_singleton.1 hx
    refine ⟨by simp [cmpNo], fun _ _ => ?_⟩
    show some (decide ((iX m).eval ≥ (gX m).eval)) = some false
    rw [eN, eI]; simp only [Option.some.injEq, decide_eq_false_iff_not]; omega
  refine @Fct.holds R Try.prog (orcX [oXF m k (depN n i)]) (oTab m).know hk fit (orcX_ok fun x hx => ?_) 5000 40 _ hg.1 hg.2
  obtain rfl := List.mem_singleton.1 hx
  have hs : sub L 0 n = L := by rw [← hn]; exact sub_all L
  have hk2 : TwoK k := by
    rcases hmk with ⟨_, h⟩ | ⟨_, h⟩
    · exact h
    · exact .inl h
  exact col_at hk2 n (by omega) h1 R L 0 0 i (hL.rowOk hu) (by omega) hi (fun t ht => by rw [hs]; exact hp t ht) (gSl m 0) (iA m) (slW_of rfl eN) (inW_of (Is0.sym okI eI (by omega) (by omega))) 1 (.inl rfl)

theorem root_hold {m : Int} {k r n : Nat} {L : List Int} (hL : LetL R k L) (hu : ∀ x ∈ L, u64 x) (hn : L.length = n) (h1 : 1 ≤ n) (h2 : n ≤ 300) (eN : @SX.eval R (gX m) = n) (hr : @Rho.ρ R r = rootL L) : @Fct.Holds R Try.prog 23 (rFct m k r) := by
  have h := root_at (R := R) (k := k) (L := L) (sk := 0) (o := 0) (n := n) (hL.rowOk hu) (by omega) h1 (by omega) (off := .lit 0) (len := gX m) (cap := gX m) (ex := false) (v := dA r) rfl eN
    (@Is0.dig R _ _ (by rw [hr, ← hn, sub_all]) (by rw [← hn, sub_all]; exact rootL_u64 hu))
  exact h

/-- climb, where the path's cells are known -/
theorem climb_cells {n i len cap : Nat} {v : Int} {P : List Int} (h1 : 1 ≤ n) (h2 : n ≤ 512) (hi : i < n) (hv : u64 v) (hP : ∀ x ∈ P, u64 x) (hlP : P.length = len) (hlen : len ≤ 1000) (hcap : len ≤ cap) {nV iV vV rV : AV} {ok : Bool} (n0 : @Is0 R nV (.int .i64 n)) (i0 : @Is0 R iV (.int .i64 i)) (v0 : @Is0 R vV (.int .u64 v))
    {cs : List AV} (hcs : cs.all AV.lone = true) (hle : len ≤ cs.length) (hval : ∀ t (h : t < cs.length), t < len → @AV.vl0 R cs[t] = .int .u64 (P.getD t 0)) (r0 : @Is0 R rV (.int .u64 (climbL n i v P).1)) (hok : ok = (climbL n i v P).2) :
    @Fct.Holds R Try.prog 48 (Fct.mk [nV, iV, vV, .slice 0 0 len cap false 1] [{ elem := 24, cells := cs, ro := true }] (.tup [rV, .bool ok]) [] []) := by
  letI := R
  refine fct_of rfl rfl ?_ ?_ ?_ (by kernel_rfl) (fun π w vs hw hr => ?_)
  · show ((true && cs.all AV.lone) && true && ((all1 _ nV && (all1 _ iV && (all1 _ vV && (true && true)))) && ((all1 _ rV && (true && true)) && (true && (true && true))))) = true
    rw [lone_all1 n0.l, lone_all1 i0.l, lone_all1 v0.l, lone_all1 r0.l, hcs]; rfl
  · show (rV.flat1 && (true && true)) = true
    rw [lone_flat1 r0.l]; rfl
  · exact ⟨lone_fine1 r0.l r0.f, trivial, trivial⟩
  · obtain ⟨c0, w0, hvs, r1, r2⟩ := LR.uncons hr
    obtain ⟨c1, w1, rfl, r3, r4⟩ := LR.uncons r2
    obtain ⟨c2, w2, rfl, r5, r6⟩ := LR.uncons r4
    obtain ⟨c3, w3, rfl, r7, r8⟩ := LR.uncons r6
    obtain rfl := r8.nil_inv
    obtain rfl : vs = #[c0, c1, c2, c3] := by rw [← Array.toList_inj, hvs]
    obtain rfl := n0.eq r1
    obtain rfl := i0.eq r3
    obtain rfl := v0.eq r5
    obtain ⟨b', m, cap', hp, rfl, hex⟩ := VR.slice_inv r7
    obtain ⟨c, fz, g1, g2, _, g4, _⟩ := hw.at (i := 0) rfl hp
    have hcap' : cap ≤ cap' := by rcases hex with ⟨_, h⟩ | ⟨_, h, _⟩ <;> omega
    have hg := g4.1
    simp only [List.length_take, Array.length_toList] at hg
    have st : Stands w b' 0 cap' P c := {
      cap := by omega
      blk := ⟨_, _, g1⟩
      u := hP
      cell := fun t ht => by
        rw [hlP] at ht
        have hr := g4.2 t (by show t < cs.length; omega) (by simp; omega)
        have := vl0_eq (List.all_eq_true.1 hcs _ (List.getElem_mem _)) hr
        rw [hval t (by omega) ht] at this
        rw [← this, List.getElem_take, Nat.zero_add, ← Array.getElem?_toList]
        exact List.getElem?_eq_getElem _ }
    have := climb_c n h1 h2 i v P w b' 0 cap' c hi hv (by omega) st
    rw [hlP] at this
    refine this.mono ?_
    rintro e W' ⟨he, hb⟩
    refine ⟨?_, hb⟩
    rw [he]
    show _ = Ending.returned (.tuple #[rV.vl1, .bool ok])
    rw [lone_vl1 r0.l, r0.v, hok]; rfl

theorem climb_none {n i : Nat} {v : Int} (h1 : 1 ≤ n) (h2 : n ≤ 512) (hi : i < n) (hv : u64 v) {nV iV vV rV : AV} {ok : Bool} (n0 : @Is0 R nV (.int .i64 n)) (i0 : @Is0 R iV (.int .i64 i)) (v0 : @Is0 R vV (.int .u64 v))
    (r0 : @Is0 R rV (.int .u64 (climbL n i v []).1)) (hok : ok = (climbL n i v []).2) : @Fct.Holds R Try.prog 48 (Fct.mk [nV, iV, vV, .nilSlice] [] (.tup [rV, .bool ok]) [] []) := by
  letI := R
  refine fct_of rfl rfl ?_ ?_ ?_ (by kernel_rfl) (fun π w vs hw hr => ?_)
  · show (true && ((all1 _ nV && (all1 _ iV && (all1 _ vV && (true && true)))) && ((all1 _ rV && (true && true)) && (true && (true && true))))) = true
    rw [lone_all1 n0.l, lone_all1 i0.l, lone_all1 v0.l, lone_all1 r0.l]; rfl
  · show (rV.flat1 && (true && true)) = true
    rw [lone_flat1 r0.l]; rfl
  · exact ⟨lone_fine1 r0.l r0.f, trivial, trivial⟩
  · obtain ⟨c0, w0, hvs, r1, r2⟩ := LR.uncons hr
    obtain ⟨c1, w1, rfl, r3, r4⟩ := LR.uncons r2
    obtain ⟨c2, w2, rfl, r5, r6⟩ := LR.uncons r4
    obtain ⟨c3, w3, rfl, r7, r8⟩ := LR.uncons r6
    obtain rfl := r8.nil_inv
    obtain rfl : vs = #[c0, c1, c2, c3] := by rw [← Array.toList_inj, hvs]
    obtain rfl := n0.eq r1
    obtain rfl := i0.eq r3
    obtain rfl := v0.eq r5
    have : c3 = .slice none 0 0 := by cases r7; rfl
    subst this
    refine (climb_nil w h1 h2 hi hv).mono ?_
    rintro e W' ⟨he, hb⟩
    refine ⟨?_, hb⟩
    rw [he]
    show _ = Ending.returned (.tuple #[rV.vl1, .bool ok])
    rw [lone_vl1 r0.l, r0.v, hok]; rfl
end
end Go.Proofs.Ytdenpaifjpmkgaa
