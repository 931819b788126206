/- FieldMatchesReference: what its calls answer; from the two parts to the whole. -/
import Derived.Test.YtjphnpbknaedcaaHa
import Derived.Test.YtjphnpbknaedcaaHk
import Derived.Test.YtjphnpbknaedcaaMdC
import Derived.Test.YtjphnpbknaedcaaHc0
import Derived.Test.YtjphnpbknaedcaaHc3
namespace Go.Proofs.Ytjphnpbknaedcaa
open Go.Ev Go.Fl
open Go.RowKit (Below)
set_option linter.unusedSectionVars false
set_option linter.unusedVariables false

theorem rsNN [Rho] {v w : AV} {n m : Int} (h : Nu v n) (g : Nu w m) : Rs (.tup [v, w]) (.tuple #[.int .i64 n, .int .i64 m]) :=
  ⟨fun p => by show (all1 p v && (all1 p w && true)) = true; rw [lone_all1 h.lone, lone_all1 g.lone]; rfl, by show (v.flat1 && (w.flat1 && true)) = true; rw [lone_flat1 h.lone, lone_flat1 g.lone]; rfl, ⟨lone_fine1 h.lone h.fine, lone_fine1 g.lone g.fine, trivial⟩,
    by show Value.tuple #[v.vl1, w.vl1] = _; rw [lone_vl1 h.lone, lone_vl1 g.lone, h.vl, g.vl]⟩

/-- a power, and its error -/
def powV (F : Gf) (a : Nat) (n : Int) : Nat := if a = 0 then (if n = 0 then 1 else 0) else powZ F a n
def powErr (a : Nat) (n : Int) : Nat := if a = 0 then (if n < 0 then 3 else 0) else 0
def invV (F : Gf) (a : Nat) : Nat := if a = 0 then 0 else F.inv a
def invErr (a : Nat) : Nat := if a = 0 then 3 else 0

section
variable [R : Rho] {F : Gf}
theorem eL_nu {i n : Nat} (h : Rho.ρ i = (n : Int)) (hn : n ≤ 3) : Nu (eL i) n := Nu.var h (by omega) (by omega)

/-- powers of 0, on either side -/
theorem pow0_fact {f : FuncId} (hc : (chkZ f [I 0, zP] (.tup [I 0, I 0]) F && (chkZ f [I 0, I 0] (.tup [I 1, I 0]) F && chkZ f [I 0, zM] (.tup [I 0, I 3]) F)) = true) {x y v w : AV} {n : Int} (h1 : -9223372036854775808 ≤ n) (h2 : n ≤ 9223372036854775807)
    (nx : Nu x 0) (ny : Nu y n) (nv : Nu v (powV F 0 n : Nat)) (nw : Nu w (powErr 0 n : Nat)) : Fct.Holds Try.prog f ⟨[fA F, x, y], fOld F, .tup [v, w], [], []⟩ := by
  simp only [Bool.and_eq_true] at hc
  obtain ⟨c1, c2, c3⟩ := hc
  rcases Int.lt_trichotomy n 0 with h | h | h
  · have e1 : powV F 0 n = 0 := by unfold powV; rw [if_pos rfl, if_neg (by omega)]
    have e2 : powErr 0 n = 3 := by unfold powErr; rw [if_pos rfl, if_pos h]
    rw [e1] at nv; rw [e2] at nw
    have h0 : @Fct.Holds (iR fun _ => n) Try.prog f ⟨[fA F, I 0, zM], fOld F, .tup [I 0, I 3], [], []⟩ :=
      @Fct.holds (iR fun _ => n) _ _ _ (@noKnow_ok (iR fun _ => n)) fit (@noOrc_ok (iR fun _ => n) _) _ _ _ (good_n rfl rfl) c3
    exact turnF h0 rfl rfl (ns := [((0 : Nat) : Int), n]) ⟨@I_nu (iR fun _ => n) 0, @Nu.var (iR fun _ => n) _ _ _ _ rfl h1 (by omega), trivial⟩ ⟨nx, ny, trivial⟩ (rsNN nv nw)
  · subst h
    have h0 : Fct.Holds Try.prog f ⟨[fA F, I 0, I 0], fOld F, .tup [I 1, I 0], [], []⟩ := Fct.holds fit (noOrc_ok _) (good_n rfl rfl) c2
    exact turnF h0 rfl rfl (ns := [((0 : Nat) : Int), ((0 : Nat) : Int)]) ⟨I_nu 0, I_nu 0, trivial⟩ ⟨nx, ny, trivial⟩ (rsNN (n := 1) (m := 0) nv nw)
  · have e1 : powV F 0 n = 0 := by unfold powV; rw [if_pos rfl, if_neg (by omega)]
    have e2 : powErr 0 n = 0 := by unfold powErr; rw [if_pos rfl, if_neg (by omega)]
    rw [e1] at nv; rw [e2] at nw
    have h0 : @Fct.Holds (iR fun _ => n) Try.prog f ⟨[fA F, I 0, zP], fOld F, .tup [I 0, I 0], [], []⟩ :=
      @Fct.holds (iR fun _ => n) _ _ _ (@noKnow_ok (iR fun _ => n)) fit (@noOrc_ok (iR fun _ => n) _) _ _ _ (good_n rfl rfl) c1
    exact turnF h0 rfl rfl (ns := [((0 : Nat) : Int), n]) ⟨@I_nu (iR fun _ => n) 0, @Nu.var (iR fun _ => n) _ _ _ _ rfl (by omega) h2, trivial⟩ ⟨nx, ny, trivial⟩ (rsNN nv nw)

theorem pow29 (h : OpsZ F) {x y v w : AV} {a : Nat} {n : Int} (ha : a < F.q) (h1 : -9223372036854775808 ≤ n) (h2 : n ≤ 9223372036854775807) (nx : Nu x a) (ny : Nu y n) (nv : Nu v (powV F a n : Nat)) (nw : Nu w (powErr a n : Nat)) :
    Fct.Holds Try.prog 29 ⟨[fA F, x, y], fOld F, .tup [v, w], [], []⟩ := by
  by_cases hz : a = 0
  · subst hz; exact pow0_fact h.pz h1 h2 nx ny nv nw
  · have h0 := powZ_fact h ha hz h1 h2 nx ny (I_nu (powZ F a n))
    unfold powV at nv; unfold powErr at nw
    rw [if_neg hz] at nv nw
    exact turnF h0 rfl rfl (ns := [(a : Int), n]) ⟨nx, ny, trivial⟩ ⟨nx, ny, trivial⟩ (rsNN nv nw)
theorem pow30 (h : OpsR F) {x y v w : AV} {a : Nat} {n : Int} (ha : a < F.q) (h1 : -9223372036854775808 ≤ n) (h2 : n ≤ 9223372036854775807) (nx : Nu x a) (ny : Nu y n) (nv : Nu v (powV F a n : Nat)) (nw : Nu w (powErr a n : Nat)) :
    Fct.Holds Try.prog 30 ⟨[fA F, x, y], fOld F, .tup [v, w], [], []⟩ := by
  by_cases hz : a = 0
  · subst hz; exact pow0_fact h.pz h1 h2 nx ny nv nw
  · have h0 := rPow h ha hz h1 h2 nx ny (I_nu (powZ F a n))
    unfold powV at nv; unfold powErr at nw
    rw [if_neg hz] at nv nw
    exact turnF h0 rfl rfl (ns := [(a : Int), n]) ⟨nx, ny, trivial⟩ ⟨nx, ny, trivial⟩ (rsNN nv nw)
theorem inv27 (h : OpsOk F) {x v w : AV} {a : Nat} (ha : a < F.q) (nx : Nu x a) (nv : Nu v (invV F a : Nat)) (nw : Nu w (invErr a : Nat)) : Fct.Holds Try.prog 27 ⟨[fA F, x], fOld F, .tup [v, w], [], []⟩ := by
  unfold invV at nv; unfold invErr at nw
  by_cases hz : a = 0
  · subst hz
    exact turnF (inv0_fact h.inv nx) rfl rfl (ns := [((0 : Nat) : Int)]) ⟨nx, trivial⟩ ⟨nx, trivial⟩ (rsNN (n := 0) (m := 3) nv nw)
  · rw [if_neg hz] at nv nw
    exact turnF (inv_fact (ok_mem h.mem) h.ex h.mul h.inv ha hz nx (I_nu (F.inv a))) rfl rfl (ns := [(a : Int)]) ⟨nx, trivial⟩ ⟨nx, trivial⟩ (rsNN nv nw)
theorem inv28 (h : OpsR F) {x v w : AV} {a : Nat} (ha : a < F.q) (nx : Nu x a) (nv : Nu v (invV F a : Nat)) (nw : Nu w (invErr a : Nat)) : Fct.Holds Try.prog 28 ⟨[fA F, x], fOld F, .tup [v, w], [], []⟩ := by
  unfold invV at nv; unfold invErr at nw
  by_cases hz : a = 0
  · subst hz
    exact turnF (rInv0 h) rfl rfl (ns := [((0 : Nat) : Int)]) ⟨I_nu 0, trivial⟩ ⟨nx, trivial⟩ (rsNN (n := 0) (m := 3) nv nw)
  · rw [if_neg hz] at nv nw
    exact turnF (rInv h ha hz nx (I_nu (F.inv a))) rfl rfl (ns := [(a : Int)]) ⟨nx, trivial⟩ ⟨nx, trivial⟩ (rsNN nv nw)

theorem mk3_ok : ∀ G ∈ mkFs3, G.Holds Try.prog 10 := by
  intro G hG
  obtain ⟨q, hq, rfl⟩ := List.mem_map.1 hG
  have go : ∀ {l : List Nat}, (l.map makeF).all (chk noOrc 10) = true → q ∈ l → (makeF q).Holds Try.prog 10 := fun h hl => chkAll_ok (noOrc_ok _) h _ (List.mem_map.2 ⟨q, hl, rfl⟩)
  simp only [sizes, List.mem_cons, List.not_mem_nil, or_false] at hq
  rcases hq with h | h | h | h | h | h | h | h | h | h | h | h | h | h | h | h | h | h | h | h | h | h | h | h | h | h | h <;> subst h <;>
    first | exact go make_a (by decide) | exact go make_b (by decide) | exact go make_c (by decide) | exact go make_d (by decide) | exact go make_e (by decide) | exact go make_f (by decide) | exact go make_g (by decide)

theorem mLA_ok : FactsOk Try.prog mLA := ⟨one examples_ok, mk3_ok, rm_ok, parts_ok, trivial⟩
theorem mLB_ok {i a b : Nat} {n : Int} (hF : F ∈ fds) (hO : (ofF i F).Holds Try.prog 14) (ha : a < F.q) (hb : b < F.q) (h1 : -9223372036854775808 ≤ n) (h2 : n ≤ 9223372036854775807)
    (r30 : Rho.ρ 30 = n) (r0 : Rho.ρ 0 = ((a : Nat) : Int)) (r1 : Rho.ρ 1 = ((b : Nat) : Int)) (r3 : Rho.ρ 3 = ((F.add a b : Nat) : Int)) (r4 : Rho.ρ 4 = ((F.sub a b : Nat) : Int)) (r5 : Rho.ρ 5 = ((F.mul a b : Nat) : Int)) (r6 : Rho.ρ 6 = ((F.neg a : Nat) : Int))
    (r7 : Rho.ρ 7 = ((invV F a : Nat) : Int)) (r8 : Rho.ρ 8 = ((powV F a n : Nat) : Int)) (r9 : Rho.ρ 9 = ((Gf_ord F a : Nat) : Int)) (r10 : Rho.ρ 10 = ((F.tr a : Nat) : Int)) (r11 : Rho.ρ 11 = ((powErr a n : Nat) : Int)) (r12 : Rho.ρ 12 = ((invErr a : Nat) : Int)) : FactsOk Try.prog (mLB F i) := by
  have hK := ok_mem hF
  have hW := opsW3_ok hF
  have hP := opsP3_ok hF
  have hR := opsR_ok hF
  have q2 := hK.q2
  have el : ∀ (i k : Nat), Rho.ρ i = ((k : Nat) : Int) → k < F.q → Nu (mL F i) k := fun i k e hk => lv_nu e (Nat.zero_le k) (by omega)
  have nA := el 0 a r0 ha
  have nB := el 1 b r1 hb
  have n3 := el 3 _ r3 (hK.add_lt a b)
  have n4 := el 4 _ r4 (hK.sub_lt a b)
  have n5 := el 5 _ r5 (hK.mul_lt a b)
  have n6 := el 6 _ r6 (hK.neg_lt a)
  have n7 := el 7 _ r7 (by unfold invV; split; omega; exact hK.inv_lt a)
  have n8 := el 8 _ r8 (by unfold powV powZ; split; split <;> omega; exact hK.pow_lt a _)
  have n9 := el 9 _ r9 (by
    by_cases hz : a = 0
    · rw [hz, show Gf_ord F 0 = 0 from if_pos rfl]; omega
    · exact (ordOk_of hW.ordN ha hz).lt)
  have n10 := el 10 _ r10 (by rw [tr_eq]; exact sum_lt hK a _)
  have n11 : Nu (eL 11) (powErr a n : Nat) := eL_nu r11 (by unfold powErr; split; split <;> omega; omega)
  have n12 : Nu (eL 12) (invErr a : Nat) := eL_nu r12 (by unfold invErr; split <;> omega)
  have nN : Nu nM3 n := Nu.var r30 h1 h2
  exact ⟨one hO, one (rSz hR), mk3_ok, rm_ok, parts_ok, one (fAdd hW.toOpsOk ha hb nA nB n3), one (rAdd hR ha hb nA nB n3), one (fSub hW.toOpsOk ha hb nA nB n4), one (rSub hR ha hb nA nB n4), one (fMul hW.toOpsOk ha hb nA nB n5), one (rMul hR ha hb nA nB n5),
    one (fNeg hW.toOpsOk ha nA n6), one (rNeg hR ha nA n6), one (inv27 hW.toOpsOk ha nA n7 n12), one (inv28 hR ha nA n7 n12), one (pow29 hW.toOpsZ ha h1 h2 nA nN n8 n11), one (pow30 hR ha h1 h2 nA nN n8 n11),
    one (fOrd hW ha nA n9), one (rOrd hR ha nA n9), one (fPrim hW), one (rPrim hR), one (fTr hP ha nA n10), one (rTr hR ha nA n10), trivial⟩
end
end Go.Proofs.Ytjphnpbknaedcaa

/- FieldMatchesReference: from the two parts to the whole. -/
namespace Go.Proofs.Ytjphnpbknaedcaa
open Go.Ev Go.Fl
open Go.RowKit (Below)
set_option linter.unusedSectionVars false
set_option linter.unusedVariables false

theorem f3_at : Try.prog.funcs[3]? = some Try.f3 := by kernel_rfl
theorem f3_body : Try.f3.body = some mBody := by kernel_rfl
theorem f3_tmps : Try.f3.ntmps = 199 := by kernel_rfl
theorem f3_res : Try.f3.results.toList = [.tmp 6] := by kernel_rfl
theorem restM_in : codeIn 199 (splitSeq 6 mBody).2 = true := by kernel_rfl

section
variable [Rho]
theorem x4_val {a0 a1 a2 a3 : AV} {c0 c1 c2 c3 : Value} (h0 : a0.lone = true) (h1 : a1.lone = true) (h2 : a2.lone = true) (h3 : a3.lone = true) (v0 : a0.vl0 = c0) (v1 : a1.vl0 = c1) (v2 : a2.vl0 = c2) (v3 : a3.vl0 = c3) {π : Inj} {lm : List Nat} {cs : List Value} (h : LR π lm [a0, a1, a2, a3] cs) : cs = [c0, c1, c2, c3] := by
  obtain ⟨d0, l0, rfl, r0, t0⟩ := h.uncons
  obtain ⟨d1, l1, rfl, r1, t1⟩ := t0.uncons
  obtain ⟨d2, l2, rfl, r2, t2⟩ := t1.uncons
  obtain ⟨d3, l3, rfl, r3, t3⟩ := t2.uncons
  obtain rfl := t3.nil_inv
  rw [vl0_eq h0 r0, vl0_eq h1 r1, vl0_eq h2 r2, vl0_eq h3 r3, v0, v1, v2, v3]
theorem x4_rel {a0 a1 a2 a3 : AV} {c0 c1 c2 c3 : Value} (h0 : a0.lone = true) (h1 : a1.lone = true) (h2 : a2.lone = true) (h3 : a3.lone = true) (v0 : a0.vl0 = c0) (v1 : a1.vl0 = c1) (v2 : a2.vl0 = c2) (v3 : a3.vl0 = c3)
    (g0 : a0.fine0) (g1 : a1.fine0) (g2 : a2.fine0) (g3 : a3.fine0) (π : Inj) (lm : List Nat) : LR π lm [a0, a1, a2, a3] [c0, c1, c2, c3] := by
  have k0 := vl0_rel (π := π) (lm := lm) h0 g0
  have k1 := vl0_rel (π := π) (lm := lm) h1 g1
  have k2 := vl0_rel (π := π) (lm := lm) h2 g2
  have k3 := vl0_rel (π := π) (lm := lm) h3 g3
  rw [v0] at k0; rw [v1] at k1; rw [v2] at k2; rw [v3] at k3
  exact LR.cons k0 (LR.cons k1 (LR.cons k2 (LR.cons k3 .nil)))

theorem cutM {F : Gf} {i c k : Nat} {qA : AV} {q n : Int} {x0 x1 x2 x3 : Nat} (hL : FactsOk Try.prog (mLB F i)) (hA : chkMA c qA = true) (hB : chkMB c k (F, i) = true) (nq : Nu qA q) (hn1 : -9223372036854775808 ≤ n) (hn2 : n ≤ 9223372036854775807)
    (h30 : Rho.ρ 30 = n) (h31 : Rho.ρ 31 = (x0 : Int)) (h32 : Rho.ρ 32 = (x1 : Int)) (h33 : Rho.ρ 33 = (x2 : Int)) (h34 : Rho.ρ 34 = (x3 : Int)) (l0 : x0 ≤ 255) (l1 : x1 ≤ 255) (l2 : x2 ≤ 255) (l3 : x3 ≤ 255)
    (e0 : (byteI i).vl0 = .int .u8 (x0 : Int)) (g0 : (byteI i).fine0) (e1 : (mX1 F).vl0 = .int .u8 (x1 : Int)) (g1 : (mX1 F).fine0) (e2 : (mX2 F).vl0 = .int .u8 (x2 : Int)) (g2 : (mX2 F).fine0) (e3 : (mX3 k).vl0 = .int .u8 (x3 : Int)) (g3 : (mX3 k).fine0) (w : World) :
    Calls Try.prog 3 #[.int .i64 q, .agg #[.int .u8 x0, .int .u8 x1, .int .u8 x2, .int .u8 x3], .int .i64 n] w fun e w' => e = .returned (.bool true) ∧ Below w.heap.size w w' := by
  have nN : Nu nM3 n := Nu.var h30 hn1 hn2
  have b0 : xM0.vl0 = .int .u8 (x0 : Int) := by show Value.int .u8 (Rho.ρ 31) = _; rw [h31]
  have b1 : xM1.vl0 = .int .u8 (x1 : Int) := by show Value.int .u8 (Rho.ρ 32) = _; rw [h32]
  have b2 : xM2.vl0 = .int .u8 (x2 : Int) := by show Value.int .u8 (Rho.ρ 33) = _; rw [h33]
  have b3 : xM3.vl0 = .int .u8 (x3 : Int) := by show Value.int .u8 (Rho.ρ 34) = _; rw [h34]
  have fb : ∀ (j m : Nat), Rho.ρ j = ((m : Nat) : Int) → m ≤ 255 → (AV.sym .u8 (.var j 0 255) 0 255).fine0 := fun j m h hm => by
    refine ⟨⟨?_, ?_⟩, ?_, ?_⟩
    · rw [h]; omega
    · rw [h]; omega
    · show (0 : Int) ≤ Rho.ρ j; rw [h]; omega
    · show Rho.ρ j ≤ 255; rw [h]; omega
  have xv : ∀ (π : Inj) (lm : List Nat) (cs : List Value), LR π lm [xM0, xM1, xM2, xM3] cs → cs = [.int .u8 x0, .int .u8 x1, .int .u8 x2, .int .u8 x3] := fun π lm cs h => x4_val rfl rfl rfl rfl b0 b1 b2 b3 h
  have xr : ∀ (π : Inj) (lm : List Nat), LR π lm (xsM F i k) [.int .u8 x0, .int .u8 x1, .int .u8 x2, .int .u8 x3] := fun π lm => x4_rel rfl rfl rfl rfl e0 e1 e2 e3 g0 g1 g2 g3 π lm
  have xg : ∀ (π : Inj) (lm : List Nat), LR π lm [xM0, xM1, xM2, xM3] [.int .u8 x0, .int .u8 x1, .int .u8 x2, .int .u8 x3] := fun π lm => x4_rel rfl rfl rfl rfl b0 b1 b2 b3 (fb 31 x0 h31 l0) (fb 32 x1 h32 l1) (fb 33 x2 h33 l2) (fb 34 x3 h34 l3) π lm
  have ag : ∀ (π : Inj) (lm : List Nat) (l : List AV) (cs : List Value), LR π lm l cs → VR π lm (.agg l) (.agg cs.toArray) := fun π lm l cs h => .agg h.1 h.2
  -- the second part
  unfold chkMB at hB
  split at hB
  case h_2 => cases hB
  rename_i t sC eB
  have hv := beq2_ok hB
  have tl : (tsM c (.agg (xsM F i k))).length = (tmplM c).length := by simp [tsM]
  -- the first part
  unfold chkMA at hA
  split at hA
  case h_2 => cases hA
  rename_i tA sA eA
  simp only [Bool.and_eq_true] at hA
  obtain ⟨a1, a2, a3, a4, a5⟩ := hA
  have rel0 : Rel 199 (ofL (mArgs qA ++ List.replicate 196 undefA)) (mArgs qA ++ List.replicate 196 undefA) := Rel.ofL (by omega) (by rw [List.length_append, List.length_replicate]; rfl)
  obtain ⟨rA, runA⟩ := runListF_sim (evF_sim Try.prog (orcOf mLA) 5000) rel0 eA
  have hlen : (toL tA 199).length = (tmplM c).length := by
    have aux : ∀ (i : Nat) (l m : List AV), genL keepM i l m = true → l.length = m.length := fun i l => by
      induction l generalizing i with
      | nil => intro m h; cases m with
        | nil => rfl
        | cons _ _ => cases h
      | cons a l ih => intro m h; cases m with
        | nil => cases h
        | cons t m => simp only [genL, Bool.and_eq_true] at h; simp [ih _ _ h.2]
    exact aux _ _ _ a1
  have relB : Rel 199 (ofL (tsM c (.agg (xsM F i k)))) (tsM c (.agg (xsM F i k))) := Rel.ofL (by omega) (by rw [tl, ← hlen]; exact rA.len)
  obtain ⟨tsC, rC, eC⟩ := (evF_sim Try.prog (orcOf (mLB F i)) 5000).code 199 _ _ _ _ restM_in relB _ _ _ eB
  have s2 : SAt Try.prog (splitSeq 6 mBody).2 (tsM c (.agg (xsM F i k))) (sM (xsM F i k)) .ret tsC sC := by
    obtain ⟨_, _, k3, _⟩ := ev_sound (orcOf_ok hL) fit.mix fit.name 5000
    exact k3 _ _ _ _ _ _ eC
  have s1 : SAt Try.prog (splitSeq 6 mBody).2 (toL tA 199) sA .ret tsC sC := by
    refine s2.gen2 (fun B π lm w vs hw hl => ?_)
    refine ⟨?_, ?_⟩
    · refine genL_rel (new := newM (.agg (xsM F i k))) ?_ ?_ a1 hl
      · intro x hx cv hcv t
        simp only [keepM, List.mem_cons, List.not_mem_nil, or_false] at hx
        rcases hx with rfl | rfl | rfl
        · cases hcv with
          | agg s hh =>
            rename_i arr
            have := xv _ _ arr.toList ⟨s, hh⟩
            have he : arr = #[.int .u8 x0, .int .u8 x1, .int .u8 x2, .int .u8 x3] := by rw [← Array.toList_inj, this]
            rw [he]
            exact ag _ _ _ _ (xr _ _)
        · exact hcv
        · exact hcv
      · intro j t hj
        have key : ∀ m, m = 1 ∨ m = 2 ∨ m = 4 → Nat.beq j m = false := fun m hm => by
          cases h : Nat.beq j m with
          | false => rfl
          | true => rw [Nat.beq_eq] at h; subst h; rcases hm with rfl | rfl | rfl <;> cases hj
        unfold newM
        rw [key 1 (by simp), key 2 (by simp), key 4 (by simp)]; rfl
    · simp only [List.isEmpty_iff, Nat.beq_eq, Nat.ble_eq] at a2 a3 a4
      refine hw.less (by show sA.heap.length ≤ 8; exact a4) a3.symm a2.symm rfl (fun j A hA => ?_)
      split at a5
      case h_2 => cases a5
      rename_i A0 hA0
      have hA0' := beqB_ok a5
      have hj : j = 0 := by
        cases j with
        | zero => rfl
        | succ j =>
          have : (List.replicate 7 (none : Option ABlk))[j]? = some (some A) := by simpa [sM] using hA
          rw [List.getElem?_replicate] at this
          split at this <;> simp at this
      subst hj
      have hA' : A = xBlkM (xsM F i k) := by
        have : some (some (xBlkM (xsM F i k))) = some (some A) := by simpa [sM] using hA
        simpa using this.symm
      subst hA'
      refine ⟨A0, ?_, by rw [hA0']; rfl, by rw [hA0']; rfl, by rw [hA0']; rfl, .inl rfl, fun cs hcs => ?_⟩
      · rw [nthD_eq] at hA0
        cases hx : sA.heap[0]? with
        | none => rw [hx] at hA0; cases hA0
        | some y => rw [hx] at hA0; simp only [Option.getD_some] at hA0; rw [hA0]
      · rw [hA0'] at hcs
        have hcs : LR π lm [xM0, xM1, xM2, xM3] cs := hcs
        rw [xv _ _ _ hcs]
        exact xr _ _
  have s0 : SAt Try.prog mBody (mArgs qA ++ List.replicate 196 undefA) st0 .ret tsC sC := by
    obtain ⟨_, _, k3, _⟩ := ev_sound (orcOf_ok mLA_ok) fit.mix fit.name 5000
    exact SAt.split k3 6 mBody _ _ _ _ runA s1
  have hres : resultsA Try.prog Try.f3 tsC sC = some (.bool true) := by
    unfold resultsA
    rw [f3_res]
    simp only [optMap, resultA]
    rw [← rC.get 6 (by omega), hv]
  refine (at_calls f3_at f3_body (by rw [f3_tmps]; exact s0) (.inr rfl) hres rfl w (vs := #[.int .i64 q, .agg #[.int .u8 x0, .int .u8 x1, .int .u8 x2, .int .u8 x3], .int .i64 n]) ?_).mono fun e w' h => h
  exact LR.cons nq.rel' (LR.cons (ag _ _ _ _ (xg _ _)) (LR.cons nN.rel' .nil))
end
end Go.Proofs.Ytjphnpbknaedcaa

/- FieldMatchesReference: what it answers, for all arguments. -/
namespace Go.Proofs.Ytjphnpbknaedcaa
open Go.Ev Go.Fl
open Go.RowKit (Below)
set_option linter.unusedSectionVars false
set_option linter.unusedVariables false

theorem zip6 {φ : Gf × Nat → Bool} (h0 : ((fds.zipIdx.drop 0).take 5).all φ = true) (h1 : ((fds.zipIdx.drop 5).take 5).all φ = true) (h2 : ((fds.zipIdx.drop 10).take 4).all φ = true) (h3 : ((fds.zipIdx.drop 14).take 4).all φ = true) (h4 : ((fds.zipIdx.drop 18).take 5).all φ = true) (h5 : ((fds.zipIdx.drop 23).take 4).all φ = true) {x : Gf × Nat} (h : x ∈ fds.zipIdx) : φ x = true := by
  have e : fds.zipIdx = (fds.zipIdx.drop 0).take 5 ++ ((fds.zipIdx.drop 5).take 5 ++ ((fds.zipIdx.drop 10).take 4 ++ ((fds.zipIdx.drop 14).take 4 ++ ((fds.zipIdx.drop 18).take 5 ++ (fds.zipIdx.drop 23).take 4)))) := by rfl
  rw [e] at h
  simp only [List.mem_append] at h
  rcases h with h | h | h | h | h | h
  · exact List.all_eq_true.1 h0 x h
  · exact List.all_eq_true.1 h1 x h
  · exact List.all_eq_true.1 h2 x h
  · exact List.all_eq_true.1 h3 x h
  · exact List.all_eq_true.1 h4 x h
  · exact List.all_eq_true.1 h5 x h
theorem mb_all {c : Nat} (hc : c < 2) {x : Gf × Nat} (h : x ∈ fds.zipIdx) {k : Nat} (hk : k < 5) : chkMB c k x = true := by
  match c, hc with
  | 0, _ => exact allLt_ok (zip6 ms_0_a ms_0_b ms_0_c ms_0_d ms_0_e ms_0_f h) k hk
  | 1, _ => exact allLt_ok (zip6 ms_1_a ms_1_b ms_1_c ms_1_d ms_1_e ms_1_f h) k hk
theorem ma_all (j : Nat) (h : j < 63) : chkMA (clsM (j + 2)) (I (j + 2)) = true := by
  by_cases h1 : j < 32
  · exact allLt_ok ma_k j h1
  · have := allLt_ok ma_l (j - 32) (by omega)
    rwa [show j - 32 + 34 = j + 2 by omega] at this

def mRho (F : Gf) (q n : Int) (x0 x1 x2 x3 : Nat) (j : Nat) : Int :=
  if j = 30 then n else if j = 31 then (x0 : Int) else if j = 32 then (x1 : Int) else if j = 33 then (x2 : Int) else if j = 34 then (x3 : Int) else if j = 40 then q else
  if j = 20 then ((x0 / 27 : Nat) : Int) else if j = 21 then ((x1 / F.q : Nat) : Int) else if j = 22 then ((x2 / F.q : Nat) : Int) else if j = 23 then ((x3 / 5 : Nat) : Int) else
  if j = 0 then ((x1 % F.q : Nat) : Int) else if j = 1 then ((x2 % F.q : Nat) : Int) else if j = 3 then ((F.add (x1 % F.q) (x2 % F.q) : Nat) : Int) else if j = 4 then ((F.sub (x1 % F.q) (x2 % F.q) : Nat) : Int) else
  if j = 5 then ((F.mul (x1 % F.q) (x2 % F.q) : Nat) : Int) else if j = 6 then ((F.neg (x1 % F.q) : Nat) : Int) else if j = 7 then ((invV F (x1 % F.q) : Nat) : Int) else if j = 8 then ((powV F (x1 % F.q) n : Nat) : Int) else
  if j = 9 then ((Gf_ord F (x1 % F.q) : Nat) : Int) else if j = 10 then ((F.tr (x1 % F.q) : Nat) : Int) else if j = 11 then ((powErr (x1 % F.q) n : Nat) : Int) else if j = 12 then ((invErr (x1 % F.q) : Nat) : Int) else 0

theorem m_c (q n : Int) (x0 x1 x2 x3 : Nat) (q1 : -9223372036854775808 ≤ q) (q2 : q ≤ 9223372036854775807) (n1 : -9223372036854775808 ≤ n) (n2 : n ≤ 9223372036854775807) (h0 : x0 ≤ 255) (h1 : x1 ≤ 255) (h2 : x2 ≤ 255) (h3 : x3 ≤ 255) (w : World) :
    Calls Try.prog 3 #[.int .i64 q, .agg #[.int .u8 x0, .int .u8 x1, .int .u8 x2, .int .u8 x3], .int .i64 n] w fun e w' => e = .returned (.bool true) ∧ Below w.heap.size w w' := by
  have hi : x0 % 27 < fds.length := Nat.mod_lt _ (by decide)
  generalize hFe : fds[x0 % 27] = F
  have m0 : (F, x0 % 27) ∈ fds.zipIdx := hFe ▸ zip_mem hi
  have mF : F ∈ fds := hFe ▸ List.getElem_mem _
  have hK := ok_mem mF
  have hq := hK.q2
  have hq64 := hK.q64
  letI : Rho := ⟨mRho F q n x0 x1 x2 x3⟩
  have ha : x1 % F.q < F.q := Nat.mod_lt _ (by omega)
  have hb : x2 % F.q < F.q := Nat.mod_lt _ (by omega)
  have hk : x3 % 5 < 5 := Nat.mod_lt _ (by omega)
  have e0 : (byteI (x0 % 27)).vl0 = .int .u8 (x0 : Int) := byteX_vl rfl rfl
  have g0 : (byteI (x0 % 27)).fine0 := byteX_fine h0 rfl rfl trivial (Nat.le_refl _)
  have e1 : (mX1 F).vl0 = .int .u8 (x1 : Int) := byteX_vl rfl rfl
  have g1 : (mX1 F).fine0 := byteX_fine h1 rfl rfl ⟨by show (0 : Int) ≤ ((x1 % F.q : Nat) : Int); omega, by show ((x1 % F.q : Nat) : Int) ≤ Int.ofNat (F.q - 1); rw [Int.ofNat_eq_natCast]; omega⟩ (Nat.zero_le _)
  have e2 : (mX2 F).vl0 = .int .u8 (x2 : Int) := byteX_vl rfl rfl
  have g2 : (mX2 F).fine0 := byteX_fine h2 rfl rfl ⟨by show (0 : Int) ≤ ((x2 % F.q : Nat) : Int); omega, by show ((x2 % F.q : Nat) : Int) ≤ Int.ofNat (F.q - 1); rw [Int.ofNat_eq_natCast]; omega⟩ (Nat.zero_le _)
  have e3 : (mX3 (x3 % 5)).vl0 = .int .u8 (x3 : Int) := byteX_vl rfl rfl
  have g3 : (mX3 (x3 % 5)).fine0 := byteX_fine h3 rfl rfl trivial (Nat.le_refl _)
  obtain ⟨c, qA, hc, hA, nq⟩ : ∃ c qA, c < 2 ∧ chkMA c qA = true ∧ Nu qA q := by
    by_cases h2 : q < 2
    · exact ⟨0, qRepM 0, by omega, ma_0, Nu.var rfl q1 (by omega)⟩
    · by_cases h64 : 64 < q
      · exact ⟨0, qRepM 1, by omega, ma_1, Nu.var rfl (by omega) q2⟩
      · obtain ⟨m, rfl⟩ := Int.eq_ofNat_of_zero_le (show 0 ≤ q by omega)
        have := ma_all (m - 2) (by omega)
        rw [show m - 2 + 2 = m by omega] at this
        exact ⟨clsM m, I m, by unfold clsM; split <;> omega, this, I_nu m⟩
  exact cutM (mLB_ok mF (of_ok m0) ha hb n1 n2 rfl rfl rfl rfl rfl rfl rfl rfl rfl rfl rfl rfl rfl) hA (mb_all hc m0 hk) nq n1 n2 rfl rfl rfl rfl rfl h0 h1 h2 h3 e0 g0 e1 g1 e2 g2 e3 g3 w
end Go.Proofs.Ytjphnpbknaedcaa
