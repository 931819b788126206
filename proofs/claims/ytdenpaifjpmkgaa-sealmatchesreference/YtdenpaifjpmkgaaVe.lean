/- The reference's digest of a list of numbers. -/
import Derived.Test.YtdenpaifjpmkgaaTf
import Derived.Test.YtdenpaifjpmkgaaWc
namespace Go.Proofs.Ytdenpaifjpmkgaa
open Go.Ev
open Go.RowKit (Below)
set_option maxRecDepth 100000
set_option linter.unusedVariables false
set_option linter.unusedSectionVars false

noncomputable def rwT0 : List AV := [slA 0] ++ List.replicate 22 undefA
noncomputable def rwS0 : St := { heap := [row0], lo := 1, loops := [], nd := 0 }
noncomputable def b16 : Code := tTl (tTl (tBody 16))
noncomputable def rwA : Option (AExit × T3 × St) := (@evF noKnow Try.prog noOrc 5000).code 23 (tHd (tBody 16)) (ofL rwT0) rwS0
noncomputable def rwB : Option (AExit × T3 × St) := (@evF noKnow Try.prog noOrc 5000).code 23 (tHd (tTl (tBody 16))) (ofL (roT 23 rwA)) (roS rwA)
noncomputable def rwC : Option (AExit × T3 × St) := (@evF noKnow Try.prog noOrc 5000).code 23 (tHd (tHd b16)) (ofL (roT 23 rwB)) (roS rwB)
def rwTops : List (Nat × AV) := [5, 6, 7, 9, 10, 11, 12, 13, 14, 15, 16, 17].map fun k => (k, .top)
noncomputable def lpRW : LoopD where
  P := Try.prog
  orc := noOrc
  kn := fun q => kW (Nat.beq q 0)
  N := 23
  c := tLoop (tTl (tHd b16))
  m := 40
  g := fun _ => { gS := [(3, u64A 70), (4, iAw)] ++ rwTops }
  t0 := roT 23 rwC
  s0 := roS rwC
  ob0 := [(inX, .lit 0, 0, B40), (.var 70 0 MU, .lit W0, 0, MU)]
  src := [(0, 0)]
  nx := fun _ _ => 1
  cls := [0]
  ob := fun _ => [(inX, .bin .add inX (.lit 1), 0, B40), (.var 70 0 MU, stepO, 0, MU)]
  lst := fun _ => 1
  gF := { gS := [(3, u64A 41), (4, .top)] ++ rwTops }
  obF := [(.var 41 0 MU, .var 70 0 MU, 0, MU)]
theorem lpRW_chk : lpRW.chk = true := by kernel_rfl
theorem lpRW_loops : lpRW.Loops := lpRW.loops_of (by kernel_rfl) (by kernel_rfl)
theorem lRW_at (K : Nat) : lpRW.at' (fun _ => 0) K = 0 ∨ lpRW.at' (fun _ => 0) K = 1 := by cases K with
  | zero => exact .inl rfl
  | succ K => exact .inr rfl
noncomputable def rwR (i : Nat) : Option (AExit × T3 × St) := (@evF noKnow Try.prog noOrc 5000).code 23 (tTl b16) (ofL (lpRW.res i).1) (lpRW.res i).2
noncomputable def rwEnd (i : Nat) : Bool := isE0 (roE (lpRW.fin i)) && (gSz 23 (tTl b16) (lpRW.res i).1 (rwR i) && (isRt (roE (rwR i)) &&
  ((match resultsA Try.prog Try.f16 (roT 23 (rwR i)) (roS (rwR i)) with | some v => v.same fctW.v | none => false) && (chkNew (roS (rwR i)).heap [] [] && Nat.blt (roS (rwR i)).lo 1))))
theorem rwEnd_all : (rwEnd 0 && rwEnd 1) = true := by kernel_rfl
theorem rwPre : (gSz 23 (tHd (tBody 16)) rwT0 rwA && (isNo (roE rwA) && (gSz 23 (tHd (tTl (tBody 16))) (roT 23 rwA) rwB && (isNo (roE rwB) && (gSz 23 (tHd (tHd b16)) (roT 23 rwB) rwC && isNo (roE rwC)))))) = true := by kernel_rfl
theorem f16_at : Try.prog.funcs[16]? = some Try.f16 := by kernel_rfl
theorem f16_body : Try.f16.body = some (tBody 16) := by kernel_rfl
theorem f16_tmps : Try.f16.ntmps = 23 := by kernel_rfl
theorem b16_parts : tBody 16 = .seq (tHd (tBody 16)) (.seq (tHd (tTl (tBody 16))) (.seq (.seq (tHd (tHd b16)) (.block 0 (.loop (tLoop (tTl (tHd b16)))))) (tTl b16))) := by kernel_rfl

section
variable {l : List Int} {off cap : Nat} (hl : l.length ≤ 1099511627776) (hi : ∀ n ∈ l, i64 n)
include hl hi
theorem loopRW : SAtX Try.prog (.loop (tLoop (tTl (tHd b16)))) (rW l off cap 0) (roT 23 rwC) (roS rwC) (roE (lpRW.fin (lpRW.at' (fun _ => 0) l.length))) (rW l off cap 0) (lpRW.res (lpRW.at' (fun _ => 0) l.length)).1 (lpRW.res (lpRW.at' (fun _ => 0) l.length)).2 := by
  refine lpRW.sound (K := l.length) (q := fun _ => 0) (R := rW l off cap 0) (J := fun j => rW l off cap j) (@fit (rW l off cap 0)) lpRW_chk lpRW_loops (fun j _ => @noOrc_ok (rW l off cap j) _) (fun j _ => ⟨List.mem_singleton.2 rfl, rfl⟩)
    (fun j hj => kW_ok hl hi (b := true) (by simpa using hj)) (kW_ok hl hi (b := false) (by simp)) (fun j _ => agW 0 j) ?_ (fun x hx => by cases hx) ?_ (fun j _ x hx => by cases hx) ?_ (fun x hx => by cases hx)
  · intro x hx
    simp only [lpRW, List.mem_cons, List.not_mem_nil, or_false] at hx
    rcases hx with rfl | rfl
    · exact ob_var (v := 0) (by rw [mk_num (by omega)]; simp [numW]) rfl (by omega) (by decide)
    · exact ob_var (v := W0) (by rw [mk_num (by omega)]; simp [numW, wF0]) rfl (by decide) (by decide)
  · intro j hj x hx
    simp only [lpRW, List.mem_cons, List.not_mem_nil, or_false] at hx
    rcases hx with rfl | rfl
    · have hB : B40 = 1099511627776 := rfl
      have e : @SX.eval (rW l off cap j) (.bin .add inX (.lit 1)) = (j : Int) + 1 := by
        show @Rho.ρ (rW l off cap j) 50 + 1 = _
        rw [mk_num (by omega)]; simp [numW]
      exact ob_var (v := (j : Int) + 1) (by rw [mk_num (by omega)]; simp [numW]) e (by omega) (by omega)
    · have e : @SX.eval (rW l off cap j) stepO = wF0 (l.take (j + 1)) := by
        rw [@stepX_eval (rW l off cap j), wF0_succ hj]
        have e1 : @SX.eval (rW l off cap j) (.var 70 0 MU) = wF0 (l.take j) := by show @Rho.ρ (rW l off cap j) 70 = _; rw [mk_num (by omega)]; simp [numW]
        have e2 : @SX.eval (rW l off cap j) (.wop .add .u64 (.var 60 (-9223372036854775808) 9223372036854775807) (.lit 0)) = l.getD j 0 % 18446744073709551616 := by
          show wapp .add .u64 (@Rho.ρ (rW l off cap j) 60) 0 = _
          rw [mk_num (by omega)]
          simp [numW, wapp, IntKind.wrap, IntKind.bits, IntKind.signed]
        rw [e1, e2]
      have g := wF0_u64 (l.take (j + 1))
      exact ob_var (v := wF0 (l.take (j + 1))) (by rw [mk_num (by omega)]; simp [numW]) e g.1 g.2
  · intro x hx
    obtain rfl := List.mem_singleton.1 hx
    have g := wF0_u64 l
    exact ob_var (v := wF0 l) (by rw [mk_num (by omega)]; simp [numW]) (by show @Rho.ρ (rW l off cap l.length) 70 = _; rw [mk_num (by omega)]; simp [numW]) g.1 g.2

theorem rwordsR : @Fct.Holds (rW l off cap 0) Try.prog 16 fctW := by
  letI := rW l off cap 0
  have hp := rwPre
  simp only [Bool.and_eq_true] at hp
  obtain ⟨p1, p2, p3, p4, p5, p6⟩ := hp
  have x0 : SAtX Try.prog (tHd (tBody 16)) (rW l off cap 0) rwT0 rwS0 (roE rwA) (rW l off cap 0) (roT 23 rwA) (roS rwA) := @sat_run Try.prog noOrc (rW l off cap 0) noKnow noKnow_ok fit (noOrc_ok _) 23 _ _ _ _ rfl p1
  have x1 : SAtX Try.prog (tHd (tTl (tBody 16))) (rW l off cap 0) (roT 23 rwA) (roS rwA) (roE rwB) (rW l off cap 0) (roT 23 rwB) (roS rwB) := @sat_run Try.prog noOrc (rW l off cap 0) noKnow noKnow_ok fit (noOrc_ok _) 23 _ _ _ _ rfl p3
  have x2 : SAtX Try.prog (tHd (tHd b16)) (rW l off cap 0) (roT 23 rwB) (roS rwB) (roE rwC) (rW l off cap 0) (roT 23 rwC) (roS rwC) := @sat_run Try.prog noOrc (rW l off cap 0) noKnow noKnow_ok fit (noOrc_ok _) 23 _ _ _ _ rfl p5
  rw [isNo_ok p2] at x0
  rw [isNo_ok p4] at x1
  rw [isNo_ok p6] at x2
  have hlp := loopRW (off := off) (cap := cap) hl hi
  have hend : rwEnd (lpRW.at' (fun _ => 0) l.length) = true := by
    have h := rwEnd_all
    rw [Bool.and_eq_true] at h
    rcases lRW_at l.length with e | e
    · rw [e]; exact h.1
    · rw [e]; exact h.2
  generalize lpRW.at' (fun _ => 0) l.length = i at *
  unfold rwEnd at hend
  simp only [Bool.and_eq_true] at hend
  obtain ⟨d1, d2, d3, d4, d5, d6⟩ := hend
  rw [isE0_ok d1] at hlp
  have x3 : SAtX Try.prog (tTl b16) (rW l off cap 0) (lpRW.res i).1 (lpRW.res i).2 (roE (rwR i)) (rW l off cap 0) (roT 23 (rwR i)) (roS (rwR i)) := @sat_run Try.prog noOrc (rW l off cap 0) noKnow noKnow_ok fit (noOrc_ok _) 23 _ _ _ _ rfl d2
  rw [isRt_ok d3] at x3
  have x := x0.seq (x1.seq ((x2.seq hlp.block).seq x3))
  rw [← b16_parts] at x
  have hv : resultsA Try.prog Try.f16 (roT 23 (rwR i)) (roS (rwR i)) = some fctW.v := by
    split at d4
    · rename_i v hv
      rw [hv, AV.same_ok d4]
    · cases d4
  refine holds_at (F := fctW) f16_at f16_body ?_ (.inr rfl) hv d5 (.inl (by show _ < 1; simpa using d6)) fctW_good
  rw [f16_tmps]
  exact x
end

/-- slices of numbers, as they stand: the reference's Words' contract -/
theorem rwords_c {l : List Int} (hl : l.length ≤ 1099511627776) (hi : ∀ n ∈ l, i64 n) {W : World} {b off cap fz1 fz2 : Nat} {c : Array Value} {e0 : TypeId} (hcap : l.length ≤ cap) (hc : W.heap[b]? = some (.cells c e0 (fz1, fz2))) (hcl : ∀ i, i < l.length → c[off + i]? = some (.int .i64 (l.getD i 0))) :
    Calls Try.prog 16 #[.slice (some ⟨b, off, none⟩) l.length cap] W fun e W' => e = .returned (.int .u64 (wI l)) ∧ Below W.heap.size W W' := by
  letI := rW l off cap 0
  have h := rwordsR (off := off) (cap := cap) hl hi
  let π : Inj := fun i => if i = 0 then some (b, c.size) else none
  have hw : WR W.heap.size π [] fctW.st W := {
    dom := fun i x hx => by
      simp only [π] at hx
      split at hx
      · rename_i h0; subst h0; show 0 < 1; omega
      · cases hx
    blk := fun i A hA => by
      have hi0 : i = 0 := by
        have := (List.getElem?_eq_some_iff.1 hA).1
        have : i < 1 := this
        omega
      subst hi0
      obtain rfl : A = { elem := 3, cells := [], ro := true, tl := some (0, .int .i64) } := by
        have : some (some ({ elem := 3, cells := [], ro := true, tl := some (0, .int .i64) } : ABlk)) = some (some A) := hA
        exact (Option.some.inj (Option.some.inj this)).symm
      refine ⟨b, c.size, c, (e0, fz1, fz2), rfl, hc, rfl, (fun h => nomatch h), LR.nil, fun k d hk i hi => ?_⟩
      simp only [Option.some.injEq, Prod.mk.injEq] at hk
      obtain ⟨rfl, rfl⟩ := hk
      rw [mk_len (by omega)] at hi
      rw [mk_skip (by omega), mk_val (by omega)]
      exact hcl i hi
    inj := fun i j A A' b n m h1 h2 h3 => by
      have hi0 : i = 0 := by
        have := (List.getElem?_eq_some_iff.1 h1).1
        have : i < 1 := this
        omega
      have hj0 : j = 0 := by
        have := (List.getElem?_eq_some_iff.1 h2).1
        have : j < 1 := this
        omega
      intro _ _; omega
    lsz := rfl
    linj := fun l l' L h => by simp at h
    loop := fun l r h => by cases h }
  have e0 : lnX.eval = (l.length : Int) := mk_num (by omega)
  have e1 : cpX.eval = (cap : Int) := mk_num (by omega)
  have e2 : ofX.eval = (off : Int) := mk_num (by omega)
  have hargs : LR π [] fctW.args #[Value.slice (some ⟨b, off, none⟩) l.length cap].toList := by
    refine LR.cons ?_ LR.nil
    have so : SlOk ofX lnX cpX := by
      refine ⟨trivial, ?_, trivial, by rw [e2]; omega, by rw [e0]; omega, by rw [e0, e1]; omega⟩
      show (0 : Int) ≤ Rho.ρ 0 ∧ Rho.ρ 0 ≤ (1099511627776 : Int); rw [show Rho.ρ 0 = (l.length : Int) from e0]; omega
    have := VR.slsEx (π := π) (lm := []) (b := 0) (b' := b) (n := c.size) so rfl
    rw [e0, e1, e2] at this
    simpa using this
  refine (Fct.calls h rfl hw hargs).mono ?_
  rintro e W' ⟨rfl, hb⟩
  refine ⟨?_, hb⟩
  show Ending.returned (.int .u64 (stepX (.var 41 0 MU) lnX).eval) = _
  rw [stepX_eval, e0, show (SX.var 41 0 MU).eval = wF0 l from mk_num (by omega)]
  rfl

/-- Words as a fact, of any slice that a list stands in -/
theorem rwords_fct {R : Rho} {l : List Int} (hl : l.length ≤ 1099511627776) (hi : ∀ n ∈ l, i64 n) {off len cap : SX} {ex : Bool} {k : Nat} {v : AV} (hlen : len.eval = (l.length : Int)) (h1 : lskip k ≤ off.eval.toNat) (h2 : off.eval.toNat + l.length ≤ lskip k + llen k)
    (hv : ∀ i, i < l.length → lval k (.int .i64) (off.eval.toNat - lskip k + i) = .int .i64 (l.getD i 0)) (v1 : v.lone = true) (v2 : v.vl0 = .int .u64 (wI l)) (v3 : v.fine0) :
    (Fct.mk [.sls 0 off len cap ex] [{ elem := 3, cells := [], ro := true, tl := some (k, .int .i64) }] v [] []).Holds Try.prog 16 := by
  refine fct_of rfl rfl ?_ (lone_flat v1) (lone_fine v1 v3) (by kernel_rfl) (fun π w vs hw hr => ?_)
  · show (true && ((true && true) && (all2 _ v && (true && (true && true))))) = true
    rw [lone_all2 v1]; rfl
  · obtain ⟨c, ws, hvs, r1, r2⟩ := LR.uncons hr
    obtain rfl := r2.nil_inv
    obtain rfl : vs = #[c] := by rw [← Array.toList_inj, hvs]
    obtain ⟨so, b', n, cap', hp, rfl, hex⟩ := VR.sls_inv r1
    obtain ⟨cs, fz, g1, g2, _, _, g4⟩ := hw.at (i := 0) (A := { elem := 3, cells := [], ro := true, tl := some (k, .int .i64) }) rfl hp
    have n3 := so.n3
    have n2 := so.n2
    have e1 : len.eval.toNat = l.length := by omega
    rw [e1]
    have := rwords_c hl hi (W := w) (b := b') (off := off.eval.toNat) (cap := cap') (c := cs) (e0 := fz.1) (fz1 := fz.2.1) (fz2 := fz.2.2) (by rcases hex with ⟨_, h⟩ | ⟨_, h, _⟩ <;> omega) g1 (fun i hi' => by
      rw [show off.eval.toNat + i = lskip k + (off.eval.toNat - lskip k + i) by omega, g4 k (.int .i64) rfl _ (by omega)]
      rw [hv i hi'])
    refine this.mono ?_
    rintro e W' ⟨he, hb⟩
    refine ⟨?_, hb⟩
    rw [he, lone_vl v1, v2]
end Go.Proofs.Ytdenpaifjpmkgaa
