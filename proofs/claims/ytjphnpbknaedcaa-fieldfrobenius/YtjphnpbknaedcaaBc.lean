/- FieldFrobenius: what it answers, for all bytes. -/
import Derived.Test.YtjphnpbknaedcaaBb0
import Derived.Test.YtjphnpbknaedcaaBb1
import Derived.Test.YtjphnpbknaedcaaBb2
import Derived.Test.YtjphnpbknaedcaaAj
namespace Go.Proofs.Ytjphnpbknaedcaa
open Go.Ev Go.Fl
open Go.RowKit (Below)
set_option linter.unusedSectionVars false
set_option linter.unusedVariables false

theorem opsP_ok {F : Gf} (h : F ∈ fds) : OpsP F := { toOpsOk := ops_ok h, powP := List.all_eq_true.1 powP_k F h, trc := List.all_eq_true.1 trc_k F h }

theorem fr_run {F : Gf} {i : Nat} (h : (F, i) ∈ fds.zipIdx) : okRun Try.prog (orcOf (frFacts F i)) 6 [frArg F i] (.bool true) = true := by
  show frAll (F, i) = true
  have e : fds.zipIdx = fds.zipIdx.take 16 ++ ((fds.zipIdx.drop 16).take 6 ++ fds.zipIdx.drop 22) := by rfl
  rw [e] at h
  simp only [List.mem_append] at h
  rcases h with h | h | h
  · exact List.all_eq_true.1 fr_0 _ h
  · exact List.all_eq_true.1 fr_1 _ h
  · exact List.all_eq_true.1 fr_2 _ h

theorem frFacts_ok [R : Rho] {F : Gf} (h : OpsP F) {i a b : Nat} (hO : (ofF i F).Holds Try.prog 14) (ha : a < F.q) (hb : b < F.q)
    (hr : ∀ k, k < 8 → Rho.ρ k = (([a, b, F.add a b, F.pow (F.add a b) F.p, F.pow a F.p, F.pow b F.p, F.tr a, F.tr b].getD k 0 : Nat) : Int)) : FactsOk Try.prog (frFacts F i) := by
  have hF := ok_mem h.mem
  have hT := trOk_mem h.mem
  have full : ∀ (k n : Nat), k < 8 → [a, b, F.add a b, F.pow (F.add a b) F.p, F.pow a F.p, F.pow b F.p, F.tr a, F.tr b].getD k 0 = n → n < F.q → Nu (bL F k) n :=
    fun k n hk e hn => lv_nu (by rw [hr k hk, e]) (Nat.zero_le n) (by omega)
  have nA := full 0 a (by omega) rfl ha
  have nB := full 1 b (by omega) rfl hb
  have nS := full 2 _ (by omega) rfl (hF.add_lt a b)
  have n3 := full 3 _ (by omega) rfl (hF.pow_lt _ _)
  have n4 := full 4 _ (by omega) rfl (hF.pow_lt _ _)
  have n5 := full 5 _ (by omega) rfl (hF.pow_lt _ _)
  have ta := hT.lt a ha
  have tb := hT.lt b hb
  have r6 : Rho.ρ 6 = ((F.tr a : Nat) : Int) := hr 6 (by omega)
  have r7 : Rho.ρ 7 = ((F.tr b : Nat) : Int) := hr 7 (by omega)
  have n6 : Nu (bT F 6) (F.tr a : Nat) := lv_nu r6 (Nat.zero_le _) (by omega)
  have n7 : Nu (bT F 7) (F.tr b : Nat) := lv_nu r7 (Nat.zero_le _) (by omega)
  have nU : Nu (bU F) (F.tr (F.add a b) : Nat) := by
    have hv : (SX.bin .rem (.bin .add (.var 6 0 (Int.ofNat (F.p - 1))) (.var 7 0 (Int.ofNat (F.p - 1)))) (.lit (Int.ofNat F.p))).eval = ((F.tr (F.add a b) : Nat) : Int) := by
      show (Rho.ρ 6 + Rho.ρ 7).tmod (Int.ofNat F.p) = _
      rw [r6, r7, hT.add a b ha hb, ← Int.natCast_add]; rfl
    have hl := hT.lt _ (hF.add_lt a b)
    refine ⟨rfl, ?_, ⟨⟨?_, ?_⟩, trivial⟩, ?_, ?_⟩
    · show Value.int .i64 _ = _; rw [hv]
    · show (0 : Int) ≤ Rho.ρ 6 ∧ Rho.ρ 6 ≤ Int.ofNat (F.p - 1)
      rw [r6, Int.ofNat_eq_natCast]; omega
    · show (0 : Int) ≤ Rho.ρ 7 ∧ Rho.ρ 7 ≤ Int.ofNat (F.p - 1)
      rw [r7, Int.ofNat_eq_natCast]; omega
    · rw [hv]; omega
    · rw [hv, Int.ofNat_eq_natCast]; omega
  refine ⟨one examples_ok, one hO, two (fAdd h.toOpsOk ha hb nA nB nS) (one (fAdd h.toOpsOk (hF.pow_lt _ _) (hF.pow_lt _ _) n4 n5 ?_)), two (fPow h ha nA n4) (two (fPow h hb nB n5) (one (fPow h (hF.add_lt _ _) nS n3))),
    two (fTr h ha nA n6) (two (fTr h hb nB n7) (two (fTr h (hF.add_lt _ _) nS nU) (two (fTr h (hF.pow_lt _ _) n4 ?_) (fun G hG => ?_)))), trivial⟩
  · rw [← hT.pow a b ha hb]; exact n3
  · rw [hT.frob a ha]; exact n6
  · obtain ⟨c, hc, rfl⟩ := List.mem_map.1 hG
    exact fTr h (List.mem_range.1 hc) (I_nu c) (I_nu _)

theorem fr_c (x0 x1 x2 : Nat) (h0 : x0 ≤ 255) (h1 : x1 ≤ 255) (h2 : x2 ≤ 255) (w : World) :
    Calls Try.prog 6 #[.agg #[.int .u8 x0, .int .u8 x1, .int .u8 x2]] w fun e w' => e = .returned (.bool true) ∧ Below w.heap.size w w' := by
  have hi : x0 % 27 < fds.length := Nat.mod_lt _ (by decide)
  generalize hF : fds[x0 % 27] = F
  have m0 : (F, x0 % 27) ∈ fds.zipIdx := hF ▸ zip_mem hi
  have mF : F ∈ fds := hF ▸ List.getElem_mem hi
  have hq : 0 < F.q := by have := (ok_mem mF).q2; omega
  letI : Rho := rhoN (fun k => [x1 % F.q, x2 % F.q, F.add (x1 % F.q) (x2 % F.q), F.pow (F.add (x1 % F.q) (x2 % F.q)) F.p, F.pow (x1 % F.q) F.p, F.pow (x2 % F.q) F.p, F.tr (x1 % F.q), F.tr (x2 % F.q),
    0, 0, 0, 0, 0, 0, 0, 0, 0, 0, 0, 0, x0 / 27, x1 / F.q, x2 / F.q].getD k 0)
  have facts : FactsOk Try.prog (frFacts F (x0 % 27)) := frFacts_ok (opsP_ok mF) (of_ok m0) (Nat.mod_lt x1 hq) (Nat.mod_lt x2 hq) (fun k hk => by
    match k, hk with
    | 0, _ => rfl
    | 1, _ => rfl
    | 2, _ => rfl
    | 3, _ => rfl
    | 4, _ => rfl
    | 5, _ => rfl
    | 6, _ => rfl
    | 7, _ => rfl
    | k + 8, h => omega)
  have c1 : (0 : Int) ≤ ((x1 % F.q : Nat) : Int) ∧ ((x1 % F.q : Nat) : Int) ≤ Int.ofNat (F.q - 1) := by
    have := Nat.mod_lt x1 hq
    rw [Int.ofNat_eq_natCast]; omega
  have c2 : (0 : Int) ≤ ((x2 % F.q : Nat) : Int) ∧ ((x2 % F.q : Nat) : Int) ≤ Int.ofNat (F.q - 1) := by
    have := Nat.mod_lt x2 hq
    rw [Int.ofNat_eq_natCast]; omega
  refine calls_args (run_open fit (orcOf_ok facts) (fr_run m0) ⟨⟨byteX_fine h0 rfl rfl trivial (Nat.le_refl _), byteX_fine h1 rfl rfl c1 (Nat.zero_le _), byteX_fine h2 rfl rfl c2 (Nat.zero_le _), trivial⟩, trivial⟩ w) ?_
  show #[Value.agg #[(byteI _).vl0, AV.vl0 _, AV.vl0 _]] = _
  have e0 : (byteI (x0 % 27)).vl0 = .int .u8 (x0 : Int) := byteX_vl rfl rfl
  have e1 : (byteX F.q 21 (.var 0 0 (Int.ofNat (F.q - 1))) 0).vl0 = .int .u8 (x1 : Int) := byteX_vl rfl rfl
  have e2 : (byteX F.q 22 (.var 1 0 (Int.ofNat (F.q - 1))) 0).vl0 = .int .u8 (x2 : Int) := byteX_vl rfl rfl
  rw [e0, e1, e2]
end Go.Proofs.Ytjphnpbknaedcaa
