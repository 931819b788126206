/- FieldPowers: what its calls are known to return. -/
import Derived.Test.YtjphnpbknaedcaaCc
namespace Go.Proofs.Ytjphnpbknaedcaa
open Go.Ev Go.Fl
open Go.RowKit (Below)
set_option linter.unusedSectionVars false
set_option linter.unusedVariables false

structure OrdOk (F : Gf) (a : Nat) : Prop where
  one : 1 ≤ Gf_ord F a
  lt : Gf_ord F a < F.q
  dvd : (F.q - 1) % Gf_ord F a = 0
  pow : F.pow a (Gf_ord F a) = 1
  two : ∀ i, i < Gf_ord F a - 1 → 2 ≤ F.pow a (i + 1)

theorem ordOk_of {F : Gf} (h : chkOrdN F = true) {a : Nat} (ha : a < F.q) (hz : a ≠ 0) : OrdOk F a := by
  have := allLt_ok h a ha
  simp only [Bool.and_eq_true, Bool.or_eq_true, Nat.beq_eq, Nat.ble_eq, Nat.blt_eq] at this
  obtain ⟨h1, h2, h3, h4, h5⟩ := this.resolve_left hz
  exact ⟨h1, h2, h3, h4, fun i hi => by have := allLt_ok h5 i hi; rwa [Nat.ble_eq] at this⟩

/-- with orders and a primitive element -/
structure OpsW (F : Gf) : Prop extends OpsZ F where
  ordN : chkOrdN F = true
  ords : chkOs F = true
  ord0 : chkO0 F = true
  prim : chkPr F = true

section
variable [R : Rho] {F : Gf}
theorem fOrd (h : OpsW F) {x v : AV} {a : Nat} (ha : a < F.q) (nx : Nu x a) (nv : Nu v (Gf_ord F a : Nat)) : (f1 F x v).Holds Try.prog 31 := by
  have hF := ok_mem h.mem
  have q0 : 0 < F.q := by have := hF.q2; omega
  have q64 := hF.q64
  by_cases hz : a = 0
  · subst hz
    have h0 : Fct.Holds Try.prog 31 ⟨[fA F, I 0], fOld F, I 0, [], []⟩ := by
      refine Fct.holds fit (orcOf_ok (L := o0L F) ⟨two ?_ (one ?_), trivial⟩) (good_n rfl rfl) h.ord0
      · exact fMul h.toOpsOk hF.one_lt q0 (I_nu 1) (I_nu 0) (by rw [Ok.mul_z]; exact I_nu 0)
      · exact fMul h.toOpsOk q0 q0 (I_nu 0) (I_nu 0) (by rw [Ok.mul_z]; exact I_nu 0)
    exact turnF h0 rfl rfl (ns := [((0 : Nat) : Int)]) ⟨I_nu 0, trivial⟩ ⟨nx, trivial⟩ (rsN nv)
  · have o := ordOk_of h.ordN ha hz
    generalize hk : Gf_ord F a = k at *
    obtain ⟨o1, o2, o3, o4, o5⟩ := o
    rw [hk] at o1 o2 o3 o4 o5
    have hmem : k ∈ divs F := by
      unfold divs
      rw [List.mem_filter, List.mem_range'_1]
      exact ⟨by omega, by simpa using o3⟩
    have hr := List.all_eq_true.1 h.ords k hmem
    have key : @Fct.Holds (rhoN (fun n => if n = 70 then a else F.pow a n)) Try.prog 31 ⟨[fA F, oA F k], fOld F, I k, [], []⟩ ∧ @Nu (rhoN (fun n => if n = 70 then a else F.pow a n)) (oA F k) (a : Nat) := by
      letI := rhoN (fun n => if n = 70 then a else F.pow a n)
      have nA : Nu (oA F k) (a : Nat) := by
        unfold oA
        split
        · rename_i h1
          rw [h1, hF.pow_one hz ha] at o4
          rw [o4]; exact I_nu 1
        · rename_i h1
          have := o5 0 (by omega)
          rw [Nat.zero_add, hF.pow_one hz ha] at this
          exact lv_nu (by show (((if 70 = 70 then a else F.pow a 70) : Nat) : Int) = _; rw [if_pos rfl]) this (by omega)
      have nP : ∀ n, n ≤ k → Nu (oP F k n) (F.pow a n : Nat) := fun n hn => by
        unfold oP
        split
        · rename_i h1; rw [h1, hF.pow_zero hz]; exact I_nu 1
        · split
          · rename_i h1 h2; rw [h2, o4]; exact I_nu 1
          · rename_i h1 h2
            have := o5 (n - 1) (by omega)
            rw [show n - 1 + 1 = n by omega] at this
            have hl := hF.pow_lt a n
            exact lv_nu (by show (((if n = 70 then a else F.pow a n) : Nat) : Int) = _; rw [if_neg (by omega)]) this (by omega)
      refine ⟨?_, nA⟩
      have step : ∀ n, ∀ G ∈ oF F k n, G.Holds Try.prog 23 := fun n G hG => by
        unfold oF at hG
        split at hG
        · rename_i hn'
          rw [List.mem_singleton.1 hG]
          refine fMul h.toOpsOk (hF.pow_lt a n) ha (nP n (by omega)) nA ?_
          have := nP (n + 1) (by omega)
          rw [← hF.pow_add hz n 1, hF.pow_one hz ha] at this
          exact this
        · cases hG
      refine Fct.holds fit (orcOf2_ok (L := oL F k) ⟨fun args G hG => ?_, trivial⟩) (good_n (by simp [nA.lone]) rfl) hr
      unfold oC at hG
      split at hG
      · exact step _ G hG
      · exact step 0 G hG
    exact turnF key.1 rfl rfl (ns := [(a : Int)]) ⟨key.2, trivial⟩ ⟨nx, trivial⟩ (rsN nv)

theorem fPrim (h : OpsW F) : Fct.Holds Try.prog 33 ⟨[fA F], fOld F, I F.g, [], []⟩ := by
  have hF := ok_mem h.mem
  have := hF.gq
  refine Fct.holds fit (orcOf_ok (L := prL F) ⟨fun G hG => ?_, trivial⟩) (good_n rfl rfl) h.prim
  obtain ⟨b, hb, rfl⟩ := List.mem_map.1 hG
  have := List.mem_range'_1.1 hb
  exact fOrd h (by omega) (I_nu b) (I_nu _)

theorem powZ_nat {a : Nat} (hz : a ≠ 0) (m : Nat) : powZ F a (m : Int) = F.pow a m := by
  unfold powZ
  rw [← Int.natCast_emod]
  exact Ok.pow_mod hz m
omit R in
theorem emod_add {M : Nat} (hq : 0 < M) (m n : Int) : ((m % ((M : Nat) : Int)).toNat + (n % ((M : Nat) : Int)).toNat) % M = ((m + n) % ((M : Nat) : Int)).toNat := by
  have h1 := Int.emod_nonneg m (show ((M : Nat) : Int) ≠ 0 by omega)
  have h2 := Int.emod_nonneg n (show ((M : Nat) : Int) ≠ 0 by omega)
  have h3 := Int.emod_nonneg (m + n) (show ((M : Nat) : Int) ≠ 0 by omega)
  apply Int.ofNat.inj
  rw [Int.ofNat_eq_natCast, Int.ofNat_eq_natCast, Int.natCast_emod, Int.natCast_add, Int.toNat_of_nonneg h1, Int.toNat_of_nonneg h2, Int.toNat_of_nonneg h3, ← Int.add_emod]
omit R in
theorem powZ_add (hF : Ok F) {a : Nat} (hz : a ≠ 0) (m n : Int) : F.mul (powZ F a m) (powZ F a n) = powZ F a (m + n) := by
  unfold powZ
  rw [hF.pow_add hz, ← Ok.pow_mod hz, emod_add hF.q1]
omit R in
theorem pow_q (hF : Ok F) {a : Nat} (ha : a < F.q) (hz : a ≠ 0) : F.pow a F.q = a := by
  have h1 := hF.q1
  have : F.pow a (F.q % (F.q - 1)) = F.pow a (1 % (F.q - 1)) := by
    congr 1
    have e : F.q % (F.q - 1) = (1 + (F.q - 1)) % (F.q - 1) := by congr 1; omega
    rw [e, Nat.add_mod_right]
  rw [← Ok.pow_mod hz, this, Ok.pow_mod hz, hF.pow_one hz ha]

/-- powers of 0 -/
theorem fZ (h : OpsW F) {x y v : AV} {n : Nat} (hn : n ≤ 1000) (nx : Nu x 0) (ny : Nu y n) (nv : Nu v (if n = 0 then 1 else 0 : Nat)) : (q2 F x y v).Holds Try.prog 29 := by
  have hc := h.pz
  simp only [chkZs, Bool.and_eq_true] at hc
  by_cases hz : n = 0
  · subst hz
    exact chkZ_ok (l' := [x, y]) (l := [I 0, I 0]) (v := .tup [I 1, I 0]) hc.2.1 (ns := [((0 : Nat) : Int), ((0 : Nat) : Int)]) (fun R => ⟨@I_nu R 0, @I_nu R 0, trivial⟩) (fun R => @rsN2 R _ _ (@I_nu R 1) 0) ⟨nx, ny, trivial⟩ (rsN2 nv 0)
  · rw [if_neg hz] at nv
    have h0 : @Fct.Holds (rhoN (fun _ => n)) Try.prog 29 ⟨[fA F, I 0, zP], fOld F, .tup [I 0, I 0], [], []⟩ :=
      @Fct.holds (rhoN (fun _ => n)) _ _ _ (@noKnow_ok (rhoN (fun _ => n))) fit (@noOrc_ok (rhoN (fun _ => n)) _) _ _ _ (good_n rfl rfl) hc.1
    refine turnF h0 rfl rfl (ns := [((0 : Nat) : Int), (n : Int)]) ⟨@I_nu (rhoN (fun _ => n)) 0, @Nu.var (rhoN (fun _ => n)) _ _ _ _ rfl ?_ ?_, trivial⟩ ⟨nx, ny, trivial⟩ (rsN2 nv 0)
    · omega
    · omega

theorem fMulC (h : OpsW F) {rest : List Fct} (hr : ∀ G ∈ rest, G.Holds Try.prog 23) : ∀ args, ∀ G ∈ mulC F rest args, G.Holds Try.prog 23 := by
  intro args G hG
  unfold mulC at hG
  split at hG
  · split at hG
    · rename_i hc
      simp only [Bool.and_eq_true, Nat.blt_eq] at hc
      rw [List.mem_singleton.1 hG]
      exact fMul h.toOpsOk hc.1 hc.2 (I_nu _) (I_nu _) (I_nu _)
    · cases hG
  · exact hr G hG
theorem fOrdC (h : OpsW F) {rest : List Fct} (hr : ∀ G ∈ rest, G.Holds Try.prog 31) : ∀ args, ∀ G ∈ ordC F rest args, G.Holds Try.prog 31 := by
  intro args G hG
  unfold ordC at hG
  split at hG
  · split at hG
    · rename_i hc
      simp only [Nat.blt_eq] at hc
      rw [List.mem_singleton.1 hG]
      exact fOrd h hc (I_nu _) (I_nu _)
    · cases hG
  · exact hr G hG

theorem pwFacts_ok (h : OpsW F) {i a : Nat} {m n : Int} (hO : (ofF i F).Holds Try.prog 14) (ha : a < F.q) (m1 : -32768 ≤ m) (m2 : m ≤ 32767) (n1 : -32768 ≤ n) (n2 : n ≤ 32767) (h0 : Rho.ρ 0 = ((a : Nat) : Int)) (h4 : Rho.ρ 4 = ((powZ F a (m + n) : Nat) : Int))
    (h5 : Rho.ρ 5 = ((powZ F a m : Nat) : Int)) (h6 : Rho.ρ 6 = ((powZ F a n : Nat) : Int)) (h22 : Rho.ρ 22 = m) (h23 : Rho.ρ 23 = n) (ht : ∀ t, t < 64 → Rho.ρ (101 + t) = ((F.pow a (t + 1) : Nat) : Int)) : a ≠ 0 → FactsOk2 Try.prog (pwFacts F i (Gf_ord F a)) := by
  intro hz
  have hF := ok_mem h.mem
  have q2 := hF.q2
  have q64 := hF.q64
  have o := ordOk_of h.ordN ha hz
  have hk0 : Gf_ord F a ≠ 0 := by have := o.one; omega
  have nA : Nu (wA F (Gf_ord F a)) (a : Nat) := by
    unfold wA
    rw [if_neg hk0]
    have ha2 : Gf_ord F a ≠ 1 → 2 ≤ a := fun h1 => by
      have := o.two 0 (by have := o.one; omega)
      rwa [Nat.zero_add, hF.pow_one hz ha] at this
    split
    · rename_i h1
      have := o.pow
      rw [h1, hF.pow_one hz ha] at this
      rw [this]; exact I_nu 1
    · rename_i h1
      have := ha2 h1
      split
      · rename_i h3
        have : a = 2 := by omega
        rw [this]; exact I_nu 2
      · exact lv_nu h0 this (by omega)
  have zp : ∀ z : Int, 1 ≤ powZ F a z ∧ powZ F a z ≤ F.q - 1 := fun z => by
    have h1 := hF.pow_ne hz (z % ((F.q - 1 : Nat) : Int)).toNat
    have h2 := hF.pow_lt a (z % ((F.q - 1 : Nat) : Int)).toNat
    unfold powZ; omega
  have n4 : Nu (wL F 4) (powZ F a (m + n) : Nat) := lv_nu h4 (zp _).1 (zp _).2
  have n5 : Nu (wL F 5) (powZ F a m : Nat) := lv_nu h5 (zp _).1 (zp _).2
  have n6 : Nu (wL F 6) (powZ F a n : Nat) := lv_nu h6 (zp _).1 (zp _).2
  have nM : Nu yM m := Nu.var h22 m1 m2
  have nN : Nu yN n := Nu.var h23 n1 n2
  have nS : Nu yS (m + n) := by
    refine ⟨rfl, ?_, ⟨⟨?_, ?_⟩, ?_, ?_⟩⟩
    · show Value.int .i64 (Rho.ρ 22 + Rho.ρ 23) = _; rw [h22, h23]
    · show (-32768 : Int) ≤ Rho.ρ 22 ∧ Rho.ρ 22 ≤ 32767; rw [h22]; exact ⟨m1, m2⟩
    · show (-32768 : Int) ≤ Rho.ρ 23 ∧ Rho.ρ 23 ≤ 32767; rw [h23]; exact ⟨n1, n2⟩
    · show (-65536 : Int) ≤ Rho.ρ 22 + Rho.ρ 23; rw [h22, h23]; omega
    · show Rho.ρ 22 + Rho.ρ 23 ≤ (65534 : Int); rw [h22, h23]; omega
  have pn : ∀ (k : Nat) (v : AV), k ≤ 100 → Nu v (F.pow a k : Nat) → Fct.Holds Try.prog 29 ⟨[fA F, wA F (Gf_ord F a), I k], fOld F, .tup [v, I 0], [], []⟩ := fun k v hk nv =>
    powZ_fact h.toOpsZ ha hz (by omega) (by omega) nA (I_nu k) (by rw [powZ_nat hz]; exact nv)
  have pz : ∀ (z : Int) (y v : AV), -100000 ≤ z → z ≤ 100000 → Nu y z → Nu v (powZ F a z : Nat) → Fct.Holds Try.prog 29 ⟨[fA F, wA F (Gf_ord F a), y], fOld F, .tup [v, I 0], [], []⟩ := fun z y v z1 z2 ny nv =>
    powZ_fact h.toOpsZ ha hz (by omega) (by omega) nA ny nv
  refine ⟨fun _ => one examples_ok, fun _ => one hO, fun args G hG => ?_, fun _ => one (fPrim h), fMulC h (one (fMul h.toOpsOk (by have := (zp m).2; omega) (by have := (zp n).2; omega) n5 n6 (by rw [powZ_add hF hz]; exact n4))), fOrdC h (one (fOrd h ha nA (I_nu _))), trivial⟩
  rw [if_neg hk0] at hG
  have hl := o.lt
  unfold powC at hG
  split at hG
  · rename_i n'
    unfold powF at hG
    split at hG
    · rw [List.mem_singleton.1 hG]
      exact pn F.q _ (by omega) (by rw [pow_q hF ha hz]; exact nA)
    · split at hG
      · rw [List.mem_singleton.1 hG]
        exact pn 0 _ (by omega) (by rw [hF.pow_zero hz]; exact I_nu 1)
      · rename_i h0
        rw [Nat.beq_eq] at h0
        split at hG
        · rw [List.mem_singleton.1 hG]
          exact pn _ _ (by omega) (by rw [o.pow]; exact I_nu 1)
        · split at hG
          · rename_i hb
            rw [Nat.blt_eq] at hb
            rw [List.mem_singleton.1 hG]
            have hpl := hF.pow_lt a n'
            have ht2 := o.two (n' - 1) (by omega)
            have ht3 := ht (n' - 1) (by omega)
            rw [show n' - 1 + 1 = n' by omega] at ht2 ht3
            rw [show 101 + (n' - 1) = 100 + n' by omega] at ht3
            exact pn n' _ (by omega) (lv_nu ht3 ht2 (by omega))
          · cases hG
  · exact two (pz _ _ _ (by omega) (by omega) nS n4) (two (pz _ _ _ (by omega) (by omega) nM n5) (one (pz _ _ _ (by omega) (by omega) nN n6))) G hG

theorem pwFacts_ok0 (h : OpsW F) {i : Nat} (hO : (ofF i F).Holds Try.prog 14) (h4 : Rho.ρ 4 = 1) (h5 : Rho.ρ 5 = 1) (h6 : Rho.ρ 6 = 1) : FactsOk2 Try.prog (pwFacts F i 0) := by
  have hF := ok_mem h.mem
  have q2 := hF.q2
  have q64 := hF.q64
  have n4 : Nu (wL F 4) ((1 : Nat) : Int) := lv_nu h4 (Nat.le_refl _) (by omega)
  have n5 : Nu (wL F 5) ((1 : Nat) : Int) := lv_nu h5 (Nat.le_refl _) (by omega)
  have n6 : Nu (wL F 6) ((1 : Nat) : Int) := lv_nu h6 (Nat.le_refl _) (by omega)
  have e0 : Nu (wA F 0) ((0 : Nat) : Int) := I_nu 0
  refine ⟨fun _ => one examples_ok, fun _ => one hO, fun _ => two (fZ h (by omega) (I_nu 0) (I_nu F.q) (by rw [if_neg (by omega)]; exact I_nu 0)) (one (fZ h (by omega) (I_nu 0) (I_nu 0) (I_nu 1))), fun _ => one (fPrim h),
    fMulC h (one (fMul h.toOpsOk hF.one_lt hF.one_lt n5 n6 (by rw [hF.mul_one hF.one_lt]; exact n4))), fOrdC h (one (fOrd h (by omega) e0 (I_nu 0))), trivial⟩
end
end Go.Proofs.Ytjphnpbknaedcaa
