/- FieldRefuses: from the two parts to the whole. -/
import Derived.Test.YtjphnpbknaedcaaDa
namespace Go.Proofs.Ytjphnpbknaedcaa
open Go.Ev Go.Fl
open Go.RowKit (Below)
set_option linter.unusedSectionVars false
set_option linter.unusedVariables false

theorem f8_at : Try.prog.funcs[8]? = some Try.f8 := by kernel_rfl
theorem f8_body : Try.f8.body = some rBody := by kernel_rfl
theorem f8_tmps : Try.f8.ntmps = 178 := by kernel_rfl
theorem f8_res : Try.f8.results.toList = [.tmp 6] := by kernel_rfl
theorem rest_in : codeIn 178 (splitSeq 7 rBody).2 = true := by kernel_rfl

section
variable [Rho]
theorem rLA_ok (hm : ∀ G ∈ mkFs, G.Holds Try.prog 10) : FactsOk Try.prog rLA := ⟨one examples_ok, hm, trivial⟩
theorem rLB_ok {F : Gf} {i : Nat} (hO : (ofF i F).Holds Try.prog 14) (hm : ∀ G ∈ mkFs, G.Holds Try.prog 10) : FactsOk Try.prog (rLB F i) := ⟨one hO, hm, trivial⟩

theorem mk_ok : ∀ G ∈ mkFs, G.Holds Try.prog 10 := by
  intro G hG
  obtain ⟨q, hq, rfl⟩ := List.mem_map.1 hG
  have go : ∀ {l : List Nat}, (l.map makeF).all (chk noOrc 10) = true → q ∈ l → (makeF q).Holds Try.prog 10 := fun h hl => chkAll_ok (noOrc_ok _) h _ (List.mem_map.2 ⟨q, hl, rfl⟩)
  simp only [sizes, List.mem_cons, List.not_mem_nil, or_false] at hq
  rcases hq with h | h | h | h | h | h | h | h | h | h | h | h | h | h | h | h | h | h | h | h | h | h | h | h | h | h | h <;> subst h <;>
    first | exact go make_a (by decide) | exact go make_b (by decide) | exact go make_c (by decide) | exact go make_d (by decide) | exact go make_e (by decide) | exact go make_f (by decide) | exact go make_g (by decide)

theorem cut_c {F : Gf} {i c sg k : Nat} {qA : AV} {q n : Int} {x0 x1 : Nat} (hO : (ofF i F).Holds Try.prog 14) (hA : chkA c qA = true) (hB : chkB c sg k (F, i) = true) (nq : Nu qA q) (hn1 : -9223372036854775808 ≤ n) (hn2 : n ≤ 9223372036854775807)
    (h30 : Rho.ρ 30 = n) (h31 : Rho.ρ 31 = (x0 : Int)) (h32 : Rho.ρ 32 = (x1 : Int)) (l0 : x0 ≤ 255) (l1 : x1 ≤ 255) (nn : Nu (nS sg) n)
    (e0 : (byteI i).vl0 = .int .u8 (x0 : Int)) (g0 : (byteI i).fine0) (e1 : (rX k).vl0 = .int .u8 (x1 : Int)) (g1 : (rX k).fine0) (w : World) :
    Calls Try.prog 8 #[.int .i64 q, .int .i64 n, .agg #[.int .u8 x0, .int .u8 x1]] w fun e w' => e = .returned (.bool true) ∧ Below w.heap.size w w' := by
  have hm : ∀ G ∈ mkFs, G.Holds Try.prog 10 := mk_ok
  have nN : Nu nG n := Nu.var h30 hn1 hn2
  have xv : ∀ (π : Inj) (lm : List Nat) (v : Value), VR π lm xG v → v = .agg #[.int .u8 x0, .int .u8 x1] := fun π lm v h => by
    rw [vl1_eq (v := xG) rfl h]
    show Value.agg #[.int .u8 (Rho.ρ 31), .int .u8 (Rho.ρ 32)] = _
    rw [h31, h32]
  have xr : ∀ (π : Inj) (lm : List Nat), VR π lm (.agg [byteI i, rX k]) (.agg #[.int .u8 x0, .int .u8 x1]) := fun π lm => by
    have := vl1_rel (π := π) (lm := lm) (v := .agg [byteI i, rX k]) rfl ⟨g0, g1, trivial⟩
    have e : (AV.agg [byteI i, rX k]).vl1 = .agg #[.int .u8 x0, .int .u8 x1] := by
      show Value.agg #[(byteI i).vl0, (rX k).vl0] = _
      rw [e0, e1]
    rwa [e] at this
  have xg : ∀ (π : Inj) (lm : List Nat), VR π lm xG (.agg #[.int .u8 x0, .int .u8 x1]) := fun π lm => by
    have := vl1_rel (π := π) (lm := lm) (v := xG) rfl ⟨⟨⟨by rw [h31]; omega, by rw [h31]; omega⟩, by show (0 : Int) ≤ Rho.ρ 31; rw [h31]; omega, by show Rho.ρ 31 ≤ 255; rw [h31]; omega⟩,
      ⟨⟨by rw [h32]; omega, by rw [h32]; omega⟩, by show (0 : Int) ≤ Rho.ρ 32; rw [h32]; omega, by show Rho.ρ 32 ≤ 255; rw [h32]; omega⟩, trivial⟩
    have e : xG.vl1 = .agg #[.int .u8 x0, .int .u8 x1] := by
      show Value.agg #[.int .u8 (Rho.ρ 31), .int .u8 (Rho.ρ 32)] = _
      rw [h31, h32]
    rwa [e] at this
  -- the second part
  unfold chkB at hB
  split at hB
  case h_2 => cases hB
  rename_i t sC eB
  have hv := beq2_ok hB
  have tl : (tsB c (nS sg) (.agg [byteI i, rX k])).length = (tmpl c).length := by simp [tsB]
  -- the first part
  unfold chkA at hA
  split at hA
  case h_2 => cases hA
  rename_i tA sA eA
  simp only [Bool.and_eq_true] at hA
  obtain ⟨a1, a2, a3, a4, a5⟩ := hA
  have rel0 : Rel 178 (ofL (rArgs qA ++ List.replicate 175 undefA)) (rArgs qA ++ List.replicate 175 undefA) := Rel.ofL (by omega) (by rw [List.length_append, List.length_replicate]; rfl)
  obtain ⟨rA, runA⟩ := runListF_sim (evF_sim Try.prog (orcOf rLA) 5000) rel0 eA
  have hlen : (toL tA 178).length = (tmpl c).length := by
    have aux : ∀ (i : Nat) (l m : List AV), genL keepL i l m = true → l.length = m.length := fun i l => by
      induction l generalizing i with
      | nil => intro m h; cases m with
        | nil => rfl
        | cons _ _ => cases h
      | cons a l ih => intro m h; cases m with
        | nil => cases h
        | cons t m => simp only [genL, Bool.and_eq_true] at h; simp [ih _ _ h.2]
    exact aux _ _ _ a1
  have relB : Rel 178 (ofL (tsB c (nS sg) (.agg [byteI i, rX k]))) (tsB c (nS sg) (.agg [byteI i, rX k])) := Rel.ofL (by omega) (by rw [tl, ← hlen]; exact rA.len)
  obtain ⟨tsC, rC, eC⟩ := (evF_sim Try.prog (orcOf (rLB F i)) 5000).code 178 _ _ _ _ rest_in relB _ _ _ eB
  have s2 : SAt Try.prog (splitSeq 7 rBody).2 (tsB c (nS sg) (.agg [byteI i, rX k])) (sB [byteI i, rX k]) .ret tsC sC := by
    obtain ⟨_, _, k3, _⟩ := ev_sound (orcOf_ok (rLB_ok hO hm)) fit.mix fit.name 5000
    exact k3 _ _ _ _ _ _ eC
  have s1 : SAt Try.prog (splitSeq 7 rBody).2 (toL tA 178) sA .ret tsC sC := by
    refine s2.gen2 (fun B π lm w vs hw hl => ?_)
    refine ⟨?_, ?_⟩
    · refine genL_rel (new := newS (nS sg) (.agg [byteI i, rX k])) ?_ ?_ a1 hl
      · intro x hx cv hcv t
        simp only [keepL, List.mem_cons, List.not_mem_nil, or_false] at hx
        rcases hx with rfl | rfl | rfl
        · rw [nN.rel hcv]; exact nn.rel'
        · rw [xv _ _ _ hcv]; exact xr _ _
        · exact hcv
      · intro j t hj
        have h1 : Nat.beq j 1 = false := by
          cases h : Nat.beq j 1 with
          | false => rfl
          | true => rw [Nat.beq_eq] at h; subst h; cases hj
        have h2 : Nat.beq j 2 = false := by
          cases h : Nat.beq j 2 with
          | false => rfl
          | true => rw [Nat.beq_eq] at h; subst h; cases hj
        have h5 : Nat.beq j 5 = false := by
          cases h : Nat.beq j 5 with
          | false => rfl
          | true => rw [Nat.beq_eq] at h; subst h; cases hj
        unfold newS
        rw [h1, h2, h5]; rfl
    · simp only [List.isEmpty_iff, Nat.beq_eq, Nat.ble_eq] at a2 a3 a4
      refine hw.less (by show sA.heap.length ≤ 8; exact a4) a3.symm a2.symm rfl (fun j A hA => ?_)
      split at a5
      case h_2 => cases a5
      rename_i A0 hA0
      have hA0' := beqB_ok a5
      have hj : j = 0 := by
        cases j with
        | zero => rfl
        | succ j =>
          have : (List.replicate 7 (none : Option ABlk))[j]? = some (some A) := by simpa [sB] using hA
          rw [List.getElem?_replicate] at this
          split at this <;> simp at this
      subst hj
      have hA' : A = xBlk [byteI i, rX k] := by
        have : some (some (xBlk [byteI i, rX k])) = some (some A) := by simpa [sB] using hA
        simpa using this.symm
      subst hA'
      refine ⟨A0, ?_, by rw [hA0']; rfl, by rw [hA0']; rfl, by rw [hA0']; rfl, fun cs hcs => ?_⟩
      · rw [nthD_eq] at hA0
        cases hx : sA.heap[0]? with
        | none => rw [hx] at hA0; cases hA0
        | some y => rw [hx] at hA0; simp only [Option.getD_some] at hA0; rw [hA0]
      · rw [hA0'] at hcs
        have hcs : LR π lm [xG0, xG1] cs := hcs
        obtain ⟨c0, l0', rfl, r0, t0⟩ := hcs.uncons
        obtain ⟨c1, l1', rfl, r1, t1⟩ := t0.uncons
        obtain rfl := t1.nil_inv
        have v0 : c0 = .int .u8 (x0 : Int) := by
          rw [vl0_eq (v := xG0) rfl r0]; show Value.int .u8 (Rho.ρ 31) = _; rw [h31]
        have v1 : c1 = .int .u8 (x1 : Int) := by
          rw [vl0_eq (v := xG1) rfl r1]; show Value.int .u8 (Rho.ρ 32) = _; rw [h32]
        rw [v0, v1]
        have q0 := vl0_rel (π := π) (lm := lm) (v := byteI i) rfl g0
        have q1 := vl0_rel (π := π) (lm := lm) (v := rX k) rfl g1
        rw [e0] at q0
        rw [e1] at q1
        exact LR.cons q0 (LR.cons q1 .nil)
  have s0 : SAt Try.prog rBody (rArgs qA ++ List.replicate 175 undefA) st0 .ret tsC sC := by
    obtain ⟨_, _, k3, _⟩ := ev_sound (orcOf_ok (rLA_ok hm)) fit.mix fit.name 5000
    exact SAt.split k3 7 rBody _ _ _ _ runA s1
  have hres : resultsA Try.prog Try.f8 tsC sC = some (.bool true) := by
    unfold resultsA
    rw [f8_res]
    simp only [optMap, resultA]
    rw [← rC.get 6 (by omega), hv]
  refine (at_calls f8_at f8_body (by rw [f8_tmps]; exact s0) (.inr rfl) hres rfl w (vs := #[.int .i64 q, .int .i64 n, .agg #[.int .u8 x0, .int .u8 x1]]) ?_).mono fun e w' h => h
  exact LR.cons nq.rel' (LR.cons nN.rel' (LR.cons (xg _ _) .nil))
end
end Go.Proofs.Ytjphnpbknaedcaa
