/- The reference's functions: as facts, whatever the letters are. -/
import Derived.Test.YtjphnpbknaedcaaCe
import Derived.Test.YtjphnpbknaedcaaGe6
import Derived.Test.YtjphnpbknaedcaaGf1
import Derived.Test.YtjphnpbknaedcaaGf3
namespace Go.Proofs.Ytjphnpbknaedcaa
open Go.Ev Go.Fl
open Go.RowKit (Below)
set_option linter.unusedSectionVars false
set_option linter.unusedVariables false

theorem allLt_mk {n : Nat} {f : Nat → Bool} (h : ∀ k, k < n → f k = true) : allLt n f = true := by
  induction n with
  | zero => rfl
  | succ n ih =>
    show (bif f n then allLt n f else false) = true
    rw [h n (by omega), ih fun k hk => h k (by omega)]; rfl
theorem ri_join {F : Gf} {lo n m : Nat} (h1 : chkRIs F lo n = true) (h2 : chkRIs F (lo + n) m = true) : chkRIs F lo (n + m) = true := by
  refine allLt_mk fun k hk => ?_
  by_cases h : k < n
  · exact allLt_ok h1 k h
  · have := allLt_ok h2 (k - n) (by omega)
    rwa [show lo + n + (k - n) = lo + k by omega] at this
theorem fd_q {F : Gf} (h : F ∈ fds) : F.q ∈ sizes := by
  have e : fds.map (·.q) = sizes := by rfl
  rw [← e]; exact List.mem_map.2 ⟨F, h, rfl⟩
theorem ri_ok {F : Gf} (h : F ∈ fds) : chkRIs F 1 (F.q - 1) = true := by
  have hm : F ∈ fdOf F.q := List.mem_filter.2 ⟨h, by simp⟩
  have hq := fd_q h
  simp only [sizes, List.mem_cons, List.not_mem_nil, or_false] at hq
  rcases hq with e | e | e | e | e | e | e | e | e | e | e | e | e | e | e | e | e | e | e | e | e | e | e | e | e | e | e
  · rw [e] at hm ⊢; exact List.all_eq_true.1 ri_2_0 F hm
  · rw [e] at hm ⊢; exact List.all_eq_true.1 ri_3_0 F hm
  · rw [e] at hm ⊢; exact List.all_eq_true.1 ri_4_0 F hm
  · rw [e] at hm ⊢; exact List.all_eq_true.1 ri_5_0 F hm
  · rw [e] at hm ⊢; exact List.all_eq_true.1 ri_7_0 F hm
  · rw [e] at hm ⊢; exact List.all_eq_true.1 ri_8_0 F hm
  · rw [e] at hm ⊢; exact List.all_eq_true.1 ri_9_0 F hm
  · rw [e] at hm ⊢; exact List.all_eq_true.1 ri_11_0 F hm
  · rw [e] at hm ⊢; exact List.all_eq_true.1 ri_13_0 F hm
  · rw [e] at hm ⊢; exact List.all_eq_true.1 ri_16_0 F hm
  · rw [e] at hm ⊢; exact List.all_eq_true.1 ri_17_0 F hm
  · rw [e] at hm ⊢; exact List.all_eq_true.1 ri_19_0 F hm
  · rw [e] at hm ⊢; exact List.all_eq_true.1 ri_23_0 F hm
  · rw [e] at hm ⊢; exact List.all_eq_true.1 ri_25_0 F hm
  · rw [e] at hm ⊢; exact List.all_eq_true.1 ri_27_0 F hm
  · rw [e] at hm ⊢; exact List.all_eq_true.1 ri_29_0 F hm
  · rw [e] at hm ⊢; exact List.all_eq_true.1 ri_31_0 F hm
  · rw [e] at hm ⊢; exact List.all_eq_true.1 ri_32_0 F hm
  · rw [e] at hm ⊢; exact ri_join (List.all_eq_true.1 ri_37_0 F hm) (List.all_eq_true.1 ri_37_1 F hm)
  · rw [e] at hm ⊢; exact ri_join (List.all_eq_true.1 ri_41_0 F hm) (List.all_eq_true.1 ri_41_1 F hm)
  · rw [e] at hm ⊢; exact ri_join (List.all_eq_true.1 ri_43_0 F hm) (List.all_eq_true.1 ri_43_1 F hm)
  · rw [e] at hm ⊢; exact ri_join (List.all_eq_true.1 ri_47_0 F hm) (List.all_eq_true.1 ri_47_1 F hm)
  · rw [e] at hm ⊢; exact ri_join (List.all_eq_true.1 ri_49_0 F hm) (List.all_eq_true.1 ri_49_1 F hm)
  · rw [e] at hm ⊢; exact ri_join (ri_join (List.all_eq_true.1 ri_53_0 F hm) (List.all_eq_true.1 ri_53_1 F hm)) (List.all_eq_true.1 ri_53_2 F hm)
  · rw [e] at hm ⊢; exact ri_join (ri_join (List.all_eq_true.1 ri_59_0 F hm) (List.all_eq_true.1 ri_59_1 F hm)) (List.all_eq_true.1 ri_59_2 F hm)
  · rw [e] at hm ⊢; exact ri_join (ri_join (List.all_eq_true.1 ri_61_0 F hm) (List.all_eq_true.1 ri_61_1 F hm)) (List.all_eq_true.1 ri_61_2 F hm)
  · rw [e] at hm ⊢; exact ri_join (ri_join (ri_join (List.all_eq_true.1 ri_64_0 F hm) (List.all_eq_true.1 ri_64_1 F hm)) (List.all_eq_true.1 ri_64_2 F hm)) (List.all_eq_true.1 ri_64_3 F hm)

/-- what is evaluated of the reference -/
structure OpsR (F : Gf) : Prop where
  mem : F ∈ fds
  add : chkR2 20 Gf.add F = true
  sub : chkR2 22 Gf.sub F = true
  mul : chkR2 24 Gf.mul F = true
  neg : chkR1 26 Gf.neg F = true
  sz : chkSz F = true
  ri : chkRIs F 1 (F.q - 1) = true
  ri0 : chkRI0 F = true
  ros : chkROs F = true
  ro0 : chkRO0 F = true
  pr : chkRPr F = true
  tr : chkRTr F = true
  p0 : chkRP0 F = true
  pz : chkRZ F = true
  pw : chkPws F = true
  ordN : chkOrdN F = true

theorem on_r : fds.all chkOrdN = true := by kernel_rfl
theorem opsR_ok {F : Gf} (h : F ∈ fds) : OpsR F := by
  have e : fds = fds.take 19 ++ (fds.drop 19).take 4 ++ fds.drop 23 := by rfl
  have hO : chkROs F = true := by
    have h' := h
    rw [e] at h'
    simp only [List.mem_append] at h'
    rcases h' with (h' | h') | h'
    · exact List.all_eq_true.1 ros_a F h'
    · exact List.all_eq_true.1 ros_b F h'
    · exact List.all_eq_true.1 ros_c F h'
  exact { mem := h, add := radd_ok F h, sub := rsub_ok F h, mul := rmul_ok F h, neg := rneg_ok F h, sz := List.all_eq_true.1 sz_k F h, ri := ri_ok h, ri0 := List.all_eq_true.1 ri0_k F h, ros := hO, ro0 := List.all_eq_true.1 ro0_k F h,
          pr := List.all_eq_true.1 rpr_k F h, tr := List.all_eq_true.1 rtr_k F h, p0 := List.all_eq_true.1 rp0_k F h, pz := List.all_eq_true.1 rz_k F h, pw := List.all_eq_true.1 rpw_k F h, ordN := List.all_eq_true.1 on_r F h }

section
variable [R : Rho] {F : Gf}
theorem rAdd (h : OpsR F) {x y v : AV} {a b : Nat} (ha : a < F.q) (hb : b < F.q) (nx : Nu x a) (ny : Nu y b) (nv : Nu v (F.add a b : Nat)) : (f2 F x y v).Holds Try.prog 20 := r2_fact h.add ha hb nx ny nv
theorem rSub (h : OpsR F) {x y v : AV} {a b : Nat} (ha : a < F.q) (hb : b < F.q) (nx : Nu x a) (ny : Nu y b) (nv : Nu v (F.sub a b : Nat)) : (f2 F x y v).Holds Try.prog 22 := r2_fact h.sub ha hb nx ny nv
theorem rMul (h : OpsR F) {x y v : AV} {a b : Nat} (ha : a < F.q) (hb : b < F.q) (nx : Nu x a) (ny : Nu y b) (nv : Nu v (F.mul a b : Nat)) : (f2 F x y v).Holds Try.prog 24 := r2_fact h.mul ha hb nx ny nv
theorem rNeg (h : OpsR F) {y v : AV} {b : Nat} (hb : b < F.q) (ny : Nu y b) (nv : Nu v (F.neg b : Nat)) : (f1 F y v).Holds Try.prog 26 := r1_fact h.neg hb ny nv
theorem rSz (h : OpsR F) : (szF F).Holds Try.prog 15 := Fct.holds fit (noOrc_ok _) (good_n rfl rfl) h.sz
theorem rMulC (h : OpsR F) : ∀ args, ∀ G ∈ rmulC F args, G.Holds Try.prog 24 := by
  intro args G hG
  unfold rmulC at hG
  split at hG
  · split at hG
    · rename_i hc
      simp only [Bool.and_eq_true, Nat.blt_eq] at hc
      rw [List.mem_singleton.1 hG]
      exact rMul h hc.1 hc.2 (I_nu _) (I_nu _) (I_nu _)
    · cases hG
  · cases hG
theorem rInv (h : OpsR F) {x v : AV} {a : Nat} (ha : a < F.q) (hz : a ≠ 0) (nx : Nu x a) (nv : Nu v (F.inv a : Nat)) : Fct.Holds Try.prog 28 ⟨[fA F, x], fOld F, .tup [v, I 0], [], []⟩ := by
  have hc : chkRI F a = true := by
    have := allLt_ok h.ri (a - 1) (by omega)
    rwa [show 1 + (a - 1) = a by omega] at this
  have h0 : Fct.Holds Try.prog 28 ⟨[fA F, I a], fOld F, .tup [I (F.inv a), I 0], [], []⟩ :=
    Fct.holds fit (orcOf2_ok (L := riL F) ⟨rMulC h, fun _ => one (rSz h), trivial⟩) (good_n rfl rfl) hc
  exact turnF h0 rfl rfl (ns := [(a : Int)]) ⟨I_nu a, trivial⟩ ⟨nx, trivial⟩ (rsN2 nv 0)
theorem rInv0 (h : OpsR F) : Fct.Holds Try.prog 28 ⟨[fA F, I 0], fOld F, .tup [I 0, I 3], [], []⟩ := Fct.holds fit (noOrc_ok _) (good_n rfl rfl) h.ri0

theorem rOrd (h : OpsR F) {x v : AV} {a : Nat} (ha : a < F.q) (nx : Nu x a) (nv : Nu v (Gf_ord F a : Nat)) : (f1 F x v).Holds Try.prog 32 := by
  have hF := ok_mem h.mem
  have q0 : 0 < F.q := by have := hF.q2; omega
  have q64 := hF.q64
  by_cases hz : a = 0
  · subst hz
    have h0 : Fct.Holds Try.prog 32 ⟨[fA F, I 0], fOld F, I 0, [], []⟩ := Fct.holds fit (noOrc_ok _) (good_n rfl rfl) h.ro0
    exact turnF h0 rfl rfl (ns := [((0 : Nat) : Int)]) ⟨I_nu 0, trivial⟩ ⟨nx, trivial⟩ (rsN nv)
  · have o := ordOk_of h.ordN ha hz
    generalize hk : Gf_ord F a = k at *
    obtain ⟨o1, o2, o3, o4, o5⟩ := o
    rw [hk] at o1 o2 o3 o4 o5
    have hmem : k ∈ divs F := by
      unfold divs
      rw [List.mem_filter, List.mem_range'_1]
      exact ⟨by omega, by simpa using o3⟩
    have hr := List.all_eq_true.1 h.ros k hmem
    have key : @Fct.Holds (rhoN (fun n => if n = 70 then a else F.pow a n)) Try.prog 32 ⟨[fA F, oA F k], fOld F, I k, [], []⟩ ∧ @Nu (rhoN (fun n => if n = 70 then a else F.pow a n)) (oA F k) (a : Nat) := by
      letI := rhoN (fun n => if n = 70 then a else F.pow a n)
      have nA : Nu (oA F k) (a : Nat) := by
        unfold oA
        split
        · rename_i h1
          rw [h1, hF.pow_one hz ha] at o4
          rw [o4]; exact I_nu 1
        · rename_i h1
          have := o5 0 (by omega)
          rw [Nat.zero_add, hF.pow_one hz ha] at this
          exact lv_nu (by show (((if 70 = 70 then a else F.pow a 70) : Nat) : Int) = _; rw [if_pos rfl]) this (by omega)
      have nP : ∀ n, n ≤ k → Nu (oP F k n) (F.pow a n : Nat) := fun n hn => by
        unfold oP
        split
        · rename_i h1; rw [h1, hF.pow_zero hz]; exact I_nu 1
        · split
          · rename_i h1 h2; rw [h2, o4]; exact I_nu 1
          · rename_i h1 h2
            have := o5 (n - 1) (by omega)
            rw [show n - 1 + 1 = n by omega] at this
            have hl := hF.pow_lt a n
            exact lv_nu (by show (((if n = 70 then a else F.pow a n) : Nat) : Int) = _; rw [if_neg (by omega)]) this (by omega)
      have nQ : ∀ n, n ≤ k → Nu (oQ F k n) (F.pow a n : Nat) := fun n hn => by
        unfold oQ
        split
        · rename_i h1; rw [h1, hF.pow_one hz ha]; exact nA
        · exact nP n hn
      refine ⟨?_, nA⟩
      have step : ∀ n, ∀ G ∈ oFR F k n, G.Holds Try.prog 24 := fun n G hG => by
        unfold oFR at hG
        split at hG
        · rename_i hn'
          rw [List.mem_singleton.1 hG]
          refine rMul h (hF.pow_lt a n) ha (nQ n (by omega)) nA ?_
          have := nP (n + 1) (by omega)
          rw [← hF.pow_add hz n 1, hF.pow_one hz ha] at this
          exact this
        · cases hG
      refine Fct.holds fit (orcOf2_ok (L := [(24, oCR F k)]) ⟨fun args G hG => ?_, trivial⟩) (good_n (by simp [nA.lone]) rfl) hr
      unfold oCR at hG
      split at hG
      · split at hG
        · exact step _ G hG
        · exact step _ G hG
      · cases hG
    exact turnF key.1 rfl rfl (ns := [(a : Int)]) ⟨key.2, trivial⟩ ⟨nx, trivial⟩ (rsN nv)

theorem rPrim (h : OpsR F) : Fct.Holds Try.prog 34 ⟨[fA F], fOld F, I F.g, [], []⟩ := by
  have hF := ok_mem h.mem
  have := hF.gq
  refine Fct.holds fit (orcOf_ok (L := rprL F) ⟨fun G hG => ?_, one (rSz h), trivial⟩) (good_n rfl rfl) h.pr
  obtain ⟨b, hb, rfl⟩ := List.mem_map.1 hG
  have := List.mem_range'_1.1 hb
  exact rOrd h (by omega) (I_nu b) (I_nu _)
end

/-! ### powers -/
@[reducible] def iR (l : Nat → Int) : Rho := ⟨l⟩
section
variable {F : Gf}
theorem rPow0 (h : OpsR F) [R : Rho] {x y v : AV} {a : Nat} (ha : a < F.q) (nx : Nu x a) (ny : Nu y 0) (nv : Nu v 1) : Fct.Holds Try.prog 30 ⟨[fA F, x, y], fOld F, .tup [v, I 0], [], []⟩ := by
  have h0 : @Fct.Holds (rhoN (fun _ => a)) Try.prog 30 ⟨[fA F, lv 0 0 (F.q - 1), I 0], fOld F, .tup [I 1, I 0], [], []⟩ := @Fct.holds (rhoN (fun _ => a)) _ _ _ (@noKnow_ok (rhoN (fun _ => a))) fit (@noOrc_ok (rhoN (fun _ => a)) _) _ _ _ (good_n rfl rfl) h.p0
  exact turnF h0 rfl rfl (ns := [(a : Int), ((0 : Nat) : Int)]) ⟨@lv_nu (rhoN (fun _ => a)) _ _ _ _ rfl (Nat.zero_le a) (by omega), @I_nu (rhoN (fun _ => a)) 0, trivial⟩ ⟨nx, ny, trivial⟩ (rsN2 (n := 1) nv 0)

theorem powZ_at {F : Gf} {a r : Nat} {n : Int} (h : n % ((F.q - 1 : Nat) : Int) = (r : Int)) : powZ F a n = F.pow a r := by
  unfold powZ; rw [h]; rfl

/-- the rest of a number that is not positive -/
theorem neg_rest {M m : Nat} (h0 : 0 < M) : (-((m : Nat) : Int)) % ((M : Nat) : Int) = ((if m % M = 0 then 0 else M - m % M : Nat) : Int) := by
  split
  · rename_i h0
    exact Int.emod_eq_zero_of_dvd (Int.dvd_neg.2 (Int.natCast_dvd_natCast.2 (Nat.dvd_of_mod_eq_zero h0)))
  · rename_i h1
    have hd := Nat.div_add_mod m M
    have hl := Nat.mod_lt m h0
    have h3 : -((m : Nat) : Int) = ((M - m % M : Nat) : Int) + ((M : Nat) : Int) * (-((m / M : Nat) : Int) - 1) := by
      have : ((m : Nat) : Int) = ((M * (m / M) + m % M : Nat) : Int) := by rw [hd]
      rw [this, Int.natCast_add, Int.natCast_mul, Int.natCast_sub (by omega), Int.mul_sub, Int.mul_neg]
      omega
    rw [h3, Int.add_mul_emod_self_left, Int.emod_eq_of_lt (by omega) (by omega)]

theorem rPow_big (h : OpsR F) (hq : 4 ≤ F.q) [R : Rho] {x y v : AV} {a : Nat} {n : Int} (ha : a < F.q) (hz : a ≠ 0) (hn : n ≠ 0) (h1 : -9223372036854775808 ≤ n) (h2 : n ≤ 9223372036854775807) (nx : Nu x a) (ny : Nu y n) (nv : Nu v (powZ F a n : Nat)) :
    Fct.Holds Try.prog 30 ⟨[fA F, x, y], fOld F, .tup [v, I 0], [], []⟩ := by
  have hF := ok_mem h.mem
  have q64 := hF.q64
  have hM := hF.q1
  have hpw := h.pw
  unfold chkPws at hpw
  rw [show Nat.blt F.q 4 = false by rw [Bool.eq_false_iff]; intro e; rw [Nat.blt_eq] at e; omega] at hpw
  simp only [cond_false, Bool.and_eq_true] at hpw
  have hm : ∀ (R : Rho) (x y v : AV) (a b : Nat), a < F.q → b < F.q → @Nu R x a → @Nu R y b → @Nu R v (F.mul a b : Nat) → @Fct.Holds R Try.prog 24 (f2 F x y v) := fun R x y v a b ha hb n1 n2 n3 => @rMul R F h x y v a b ha hb n1 n2 n3
  have p1 : ∀ k, 1 ≤ F.pow a k ∧ F.pow a k ≤ F.q - 1 := fun k => by
    have h1 := hF.pow_ne hz k
    have h2 := hF.pow_lt a k
    omega
  have fin : ∀ (c K : Nat) (R1 : Rho), chkPw F c = true → K ≤ 62 → powZ F a n = F.pow a K → @Rho.ρ R1 0 = (a : Int) → @Rho.ρ R1 41 = (F.pow a K : Nat) → @Nu R1 (pN F c) n → @Nu R1 (pK F c) K → @Fct.Holds R Try.prog 30 ⟨[fA F, x, y], fOld F, .tup [v, I 0], [], []⟩ := fun c K R1 hc hK e e0 e41 nN nK => by
    have nA : @Nu R1 (pA F) a := @lv_nu R1 _ _ _ _ e0 (Nat.pos_of_ne_zero hz) (by omega)
    have n41 : @Nu R1 (pO F 41) (F.pow a K : Nat) := @lv_nu R1 _ _ _ _ e41 (p1 K).1 (p1 K).2
    have h0 := rpow_holds hF hm hc ha hz hK nA nK n41 (@Nu.lone R1 _ _ nN)
    have rs := @rsN2 R1 _ _ n41 0
    rw [e] at nv
    exact turnF h0 (@Rs.flat R1 _ _ rs) (@Rs.vl R1 _ _ rs) (ns := [(a : Int), n]) ⟨nA, nN, trivial⟩ ⟨nx, ny, trivial⟩ (@rsN2 R _ _ nv 0)
  rcases Int.lt_or_gt_of_ne hn with hneg | hpos
  · obtain ⟨m, hm'⟩ := Int.eq_ofNat_of_zero_le (show 0 ≤ -n by omega)
    obtain rfl : n = -((m : Nat) : Int) := by omega
    have hr := Nat.mod_lt m hM
    have hd := Nat.div_add_mod m (F.q - 1)
    have hu : m / (F.q - 1) ≤ 9223372036854775808 / (F.q - 1) := Nat.div_le_div_right (by omega)
    have hrest := neg_rest (m := m) hM
    by_cases hr0 : m % (F.q - 1) = 0
    · rw [if_pos hr0] at hrest
      have hu1 : 1 ≤ m / (F.q - 1) := by
        rcases Nat.eq_zero_or_pos (m / (F.q - 1)) with h0 | h0
        · rw [h0, hr0] at hd; omega
        · exact h0
      let R1 : Rho := iR fun j => if j = 0 then (a : Int) else if j = 41 then ((F.pow a 0 : Nat) : Int) else ((m / (F.q - 1) : Nat) : Int)
      refine fin 1 0 R1 hpw.2.1 (by omega) (powZ_at hrest) rfl rfl ?_ (@I_nu R1 0)
      have hv : @SX.eval R1 (.bin .sub (.lit 0) (.bin .mul (.lit (Int.ofNat (F.q - 1))) (.var 42 1 (Int.ofNat (9223372036854775808 / (F.q - 1)))))) = -((m : Nat) : Int) := by
        show (0 : Int) - Int.ofNat (F.q - 1) * ((m / (F.q - 1) : Nat) : Int) = _
        rw [Int.ofNat_eq_natCast, ← Int.natCast_mul]
        omega
      refine @Nu.mk R1 _ _ rfl ?_ ⟨⟨trivial, trivial, ?_⟩, ?_, ?_⟩
      · show Value.int .i64 _ = _; rw [hv]
      · show (1 : Int) ≤ ((m / (F.q - 1) : Nat) : Int) ∧ ((m / (F.q - 1) : Nat) : Int) ≤ Int.ofNat _
        exact ⟨by omega, Int.ofNat_le.2 hu⟩
      · rw [hv]; exact h1
      · rw [hv]; omega
    · rw [if_neg hr0] at hrest
      let R1 : Rho := iR fun j => if j = 0 then (a : Int) else if j = 41 then ((F.pow a (F.q - 1 - m % (F.q - 1)) : Nat) : Int) else if j = 43 then -((m % (F.q - 1) : Nat) : Int) else ((m / (F.q - 1) : Nat) : Int)
      refine fin 2 (F.q - 1 - m % (F.q - 1)) R1 hpw.2.2 (by omega) (powZ_at hrest) rfl rfl ?_ ?_
      · have hv : @SX.eval R1 (.bin .sub (.var 43 (-Int.ofNat (F.q - 2)) (-1)) (.bin .mul (.lit (Int.ofNat (F.q - 1))) (.var 42 0 (Int.ofNat (9223372036854775808 / (F.q - 1)))))) = -((m : Nat) : Int) := by
          show -((m % (F.q - 1) : Nat) : Int) - Int.ofNat (F.q - 1) * ((m / (F.q - 1) : Nat) : Int) = _
          rw [Int.ofNat_eq_natCast, ← Int.natCast_mul]
          omega
        refine @Nu.mk R1 _ _ rfl ?_ ⟨⟨?_, trivial, ?_⟩, ?_, ?_⟩
        · show Value.int .i64 _ = _; rw [hv]
        · show -Int.ofNat (F.q - 2) ≤ -((m % (F.q - 1) : Nat) : Int) ∧ -((m % (F.q - 1) : Nat) : Int) ≤ -1
          rw [Int.ofNat_eq_natCast]; omega
        · show (0 : Int) ≤ ((m / (F.q - 1) : Nat) : Int) ∧ ((m / (F.q - 1) : Nat) : Int) ≤ Int.ofNat _
          exact ⟨Int.natCast_nonneg _, Int.ofNat_le.2 hu⟩
        · rw [hv]; exact h1
        · rw [hv]; omega
      · have hv : @SX.eval R1 (.bin .sub (.bin .add (.var 43 (-Int.ofNat (F.q - 2)) (-1)) (.lit (Int.ofNat F.q))) (.lit 1)) = ((F.q - 1 - m % (F.q - 1) : Nat) : Int) := by
          show -((m % (F.q - 1) : Nat) : Int) + Int.ofNat F.q - 1 = _
          rw [Int.ofNat_eq_natCast]; omega
        refine @Nu.mk R1 _ _ rfl ?_ ⟨⟨⟨?_, trivial⟩, trivial⟩, ?_, ?_⟩
        · show Value.int .i64 _ = _; rw [hv]
        · show -Int.ofNat (F.q - 2) ≤ -((m % (F.q - 1) : Nat) : Int) ∧ -((m % (F.q - 1) : Nat) : Int) ≤ -1
          rw [Int.ofNat_eq_natCast]; omega
        · rw [hv]; omega
        · rw [hv, Int.ofNat_eq_natCast]; omega
  · obtain ⟨m, rfl⟩ := Int.eq_ofNat_of_zero_le (show 0 ≤ n by omega)
    have hr := Nat.mod_lt m hM
    have hd := Nat.div_add_mod m (F.q - 1)
    have hu : m / (F.q - 1) ≤ 9223372036854775807 / (F.q - 1) := Nat.div_le_div_right (by omega)
    let R1 : Rho := iR fun j => if j = 0 then (a : Int) else if j = 41 then ((F.pow a (m % (F.q - 1)) : Nat) : Int) else if j = 40 then ((m % (F.q - 1) : Nat) : Int) else ((m / (F.q - 1) : Nat) : Int)
    refine fin 0 (m % (F.q - 1)) R1 hpw.1 (by omega) (powZ_at (by rw [Int.natCast_emod])) rfl rfl ?_ ?_
    · have hv : @SX.eval R1 (.bin .add (.bin .mul (.lit (Int.ofNat (F.q - 1))) (.var 42 0 (Int.ofNat (9223372036854775807 / (F.q - 1))))) (.var 40 0 (Int.ofNat (F.q - 2)))) = ((m : Nat) : Int) := by
        show Int.ofNat (F.q - 1) * ((m / (F.q - 1) : Nat) : Int) + ((m % (F.q - 1) : Nat) : Int) = _
        rw [Int.ofNat_eq_natCast, ← Int.natCast_mul]
        omega
      refine @Nu.mk R1 _ _ rfl ?_ ⟨⟨⟨trivial, ?_⟩, ?_⟩, ?_, ?_⟩
      · show Value.int .i64 _ = _; rw [hv]
      · show (0 : Int) ≤ ((m / (F.q - 1) : Nat) : Int) ∧ ((m / (F.q - 1) : Nat) : Int) ≤ Int.ofNat _
        exact ⟨Int.natCast_nonneg _, Int.ofNat_le.2 hu⟩
      · show (0 : Int) ≤ ((m % (F.q - 1) : Nat) : Int) ∧ ((m % (F.q - 1) : Nat) : Int) ≤ Int.ofNat (F.q - 2)
        rw [Int.ofNat_eq_natCast]; omega
      · rw [hv]; omega
      · rw [hv]; exact h2
    · exact @lv_nu R1 _ _ _ _ rfl (by omega) (by omega)

/-- the fields with two and three elements -/
theorem rPow_small (h : OpsR F) (hq : F.q < 4) [R : Rho] {x y v : AV} {a : Nat} {n : Int} (ha : a < F.q) (hz : a ≠ 0) (hn : n ≠ 0) (h1 : -9223372036854775808 ≤ n) (h2 : n ≤ 9223372036854775807) (nx : Nu x a) (ny : Nu y n) (nv : Nu v (powZ F a n : Nat)) :
    Fct.Holds Try.prog 30 ⟨[fA F, x, y], fOld F, .tup [v, I 0], [], []⟩ := by
  have hF := ok_mem h.mem
  have q2 := hF.q2
  have hM := hF.q1
  have hpw := h.pw
  unfold chkPws at hpw
  rw [show Nat.blt F.q 4 = true by rw [Nat.blt_eq]; omega] at hpw
  simp only [cond_true] at hpw
  have nA : ∀ R1 : Rho, @Rho.ρ R1 0 = (a : Int) → @Nu R1 (p3A F) (a : Nat) := fun R1 e0 => by
    unfold p3A
    split
    · have : a = 1 := by omega
      rw [this]; exact @I_nu R1 1
    · exact @lv_nu R1 _ _ _ _ e0 (Nat.pos_of_ne_zero hz) (by omega)
  have fin : ∀ (r : Nat) (R1 : Rho) (yA : AV), r < 2 → chk3 F yA r = true → powZ F a n = F.pow a r → @Rho.ρ R1 0 = (a : Int) → @Nu R1 yA n → @Fct.Holds R Try.prog 30 ⟨[fA F, x, y], fOld F, .tup [v, I 0], [], []⟩ := fun r R1 yA hr hc e e0 nN => by
    have nV : @Nu R1 (p3V F r) (F.pow a r : Nat) := by
      unfold p3V
      split
      · rename_i h0; rw [h0, hF.pow_zero hz]; exact @I_nu R1 1
      · have : r = 1 := by omega
        rw [this, hF.pow_one hz ha]; exact nA R1 e0
    have rs := @rsN2 R1 _ _ nV 0
    have h0 : @Fct.Holds R1 Try.prog 30 ⟨[fA F, p3A F, yA], fOld F, .tup [p3V F r, I 0], [], []⟩ :=
      @Fct.holds R1 _ _ _ (@noKnow_ok R1) fit (@orcOf_ok R1 _ (p3L F) ⟨@one R1 _ _ (@rMul R1 F h _ _ _ 1 a (by omega) ha (@I_nu R1 1) (nA R1 e0) (by rw [Ok.mul_comm, hF.mul_one ha]; exact nA R1 e0)), trivial⟩) _ _ _ (good_n (by rw [List.all_cons, @Nu.lone R1 _ _ (nA R1 e0), List.all_cons, @Nu.lone R1 _ _ nN]; rfl) (@Rs.good R1 _ _ rs _)) hc
    rw [e] at nv
    exact turnF h0 (@Rs.flat R1 _ _ rs) (@Rs.vl R1 _ _ rs) (ns := [(a : Int), n]) ⟨nA R1 e0, nN, trivial⟩ ⟨nx, ny, trivial⟩ (@rsN2 R _ _ nv 0)
  have hc : ∀ r, r < F.q - 1 → chk3 F (e3P F r) r = true ∧ chk3 F (e3M F r) r = true := fun r hr => by
    have := allLt_ok hpw r hr
    rwa [Bool.and_eq_true] at this
  rcases Int.lt_or_gt_of_ne hn with hneg | hpos
  · obtain ⟨m, hm'⟩ := Int.eq_ofNat_of_zero_le (show 0 ≤ -n by omega)
    obtain rfl : n = -((m : Nat) : Int) := by omega
    have hr := Nat.mod_lt m hM
    have hd := Nat.div_add_mod m (F.q - 1)
    have hu : m / (F.q - 1) ≤ 9223372036854775808 / (F.q - 1) := Nat.div_le_div_right (by omega)
    have hrest := neg_rest (m := m) hM
    have hu1 : 1 - m % (F.q - 1) ≤ m / (F.q - 1) := by
      rcases Nat.eq_zero_or_pos (m / (F.q - 1)) with h0 | h0
      · rw [h0] at hd ⊢; omega
      · omega
    let R1 : Rho := iR fun j => if j = 0 then (a : Int) else ((m / (F.q - 1) : Nat) : Int)
    refine fin (m % (F.q - 1)) R1 (e3M F (m % (F.q - 1))) (by omega) (hc _ hr).2 (powZ_at ?_) rfl ?_
    · rw [hrest]
      congr 1
      split
      · omega
      · omega
    · have hv : @SX.eval R1 (.bin .sub (.lit (-Int.ofNat (m % (F.q - 1)))) (.bin .mul (.lit (Int.ofNat (F.q - 1))) (.var 99 (Int.ofNat (1 - m % (F.q - 1))) (Int.ofNat (9223372036854775808 / (F.q - 1)))))) = -((m : Nat) : Int) := by
        show -Int.ofNat (m % (F.q - 1)) - Int.ofNat (F.q - 1) * ((m / (F.q - 1) : Nat) : Int) = _
        rw [Int.ofNat_eq_natCast, Int.ofNat_eq_natCast, ← Int.natCast_mul]
        omega
      refine @Nu.mk R1 _ _ rfl ?_ ⟨⟨trivial, trivial, ?_⟩, ?_, ?_⟩
      · show Value.int .i64 _ = _; rw [hv]
      · show Int.ofNat (1 - m % (F.q - 1)) ≤ ((m / (F.q - 1) : Nat) : Int) ∧ ((m / (F.q - 1) : Nat) : Int) ≤ Int.ofNat _
        exact ⟨Int.ofNat_le.2 hu1, Int.ofNat_le.2 hu⟩
      · rw [hv]; exact h1
      · rw [hv]; omega
  · obtain ⟨m, rfl⟩ := Int.eq_ofNat_of_zero_le (show 0 ≤ n by omega)
    have hr := Nat.mod_lt m hM
    have hd := Nat.div_add_mod m (F.q - 1)
    have hu : m / (F.q - 1) ≤ 9223372036854775807 / (F.q - 1) := Nat.div_le_div_right (by omega)
    have hu1 : 1 - m % (F.q - 1) ≤ m / (F.q - 1) := by
      rcases Nat.eq_zero_or_pos (m / (F.q - 1)) with h0 | h0
      · rw [h0] at hd ⊢; omega
      · omega
    let R1 : Rho := iR fun j => if j = 0 then (a : Int) else ((m / (F.q - 1) : Nat) : Int)
    refine fin (m % (F.q - 1)) R1 (e3P F (m % (F.q - 1))) (by omega) (hc _ hr).1 (powZ_at (by rw [Int.natCast_emod])) rfl ?_
    have hv : @SX.eval R1 (.bin .add (.bin .mul (.lit (Int.ofNat (F.q - 1))) (.var 99 (Int.ofNat (1 - m % (F.q - 1))) (Int.ofNat (9223372036854775807 / (F.q - 1))))) (.lit (Int.ofNat (m % (F.q - 1))))) = ((m : Nat) : Int) := by
      show Int.ofNat (F.q - 1) * ((m / (F.q - 1) : Nat) : Int) + Int.ofNat (m % (F.q - 1)) = _
      rw [Int.ofNat_eq_natCast, Int.ofNat_eq_natCast, ← Int.natCast_mul]
      omega
    refine @Nu.mk R1 _ _ rfl ?_ ⟨⟨⟨trivial, ?_⟩, trivial⟩, ?_, ?_⟩
    · show Value.int .i64 _ = _; rw [hv]
    · show Int.ofNat (1 - m % (F.q - 1)) ≤ ((m / (F.q - 1) : Nat) : Int) ∧ ((m / (F.q - 1) : Nat) : Int) ≤ Int.ofNat _
      exact ⟨Int.ofNat_le.2 hu1, Int.ofNat_le.2 hu⟩
    · rw [hv]; omega
    · rw [hv]; exact h2

/-- the reference's powers of elements other than 0, with any exponent -/
theorem rPow (h : OpsR F) [R : Rho] {x y v : AV} {a : Nat} {n : Int} (ha : a < F.q) (hz : a ≠ 0) (h1 : -9223372036854775808 ≤ n) (h2 : n ≤ 9223372036854775807) (nx : Nu x a) (ny : Nu y n) (nv : Nu v (powZ F a n : Nat)) :
    Fct.Holds Try.prog 30 ⟨[fA F, x, y], fOld F, .tup [v, I 0], [], []⟩ := by
  by_cases hn : n = 0
  · subst hn
    refine rPow0 h ha nx ny ?_
    have e : powZ F a 0 = 1 := (powZ_at (r := 0) rfl).trans ((ok_mem h.mem).pow_zero hz)
    rw [e] at nv; exact nv
  · by_cases hq : F.q < 4
    · exact rPow_small h hq ha hz hn h1 h2 nx ny nv
    · exact rPow_big h (by omega) ha hz hn h1 h2 nx ny nv

/-! ### traces -/
theorem rPowP (h : OpsR F) [R : Rho] {x v : AV} {a : Nat} (ha : a < F.q) (nx : Nu x a) (nv : Nu v (F.pow a F.p : Nat)) : (p2 F x F.p v).Holds Try.prog 30 := by
  have hF := ok_mem h.mem
  have hp := hF.p2
  have hpq : F.p ≤ 64 := by
    have h3 : F.p ≤ F.q := by rw [hF.qe]; exact Nat.le_self_pow (by have := hF.e1; omega) _
    have := hF.q64; omega
  by_cases hz : a = 0
  · subst hz
    have e : F.pow 0 F.p = 0 := by
      unfold Gf.pow
      rw [show Nat.beq F.p 0 = false by rw [Bool.eq_false_iff]; intro e; rw [Nat.beq_eq] at e; omega]; rfl
    rw [e] at nv
    have hc := h.pz
    simp only [chkRZ, Bool.and_eq_true] at hc
    have h0 : @Fct.Holds (rhoN (fun _ => F.p)) Try.prog 30 ⟨[fA F, I 0, zP], fOld F, .tup [I 0, I 0], [], []⟩ :=
      @Fct.holds (rhoN (fun _ => F.p)) _ _ _ (@noKnow_ok (rhoN (fun _ => F.p))) fit (@noOrc_ok (rhoN (fun _ => F.p)) _) _ _ _ (good_n rfl rfl) hc.1
    exact turnF h0 rfl rfl (ns := [((0 : Nat) : Int), (F.p : Int)]) ⟨@I_nu (rhoN (fun _ => F.p)) 0, @Nu.var (rhoN (fun _ => F.p)) _ _ _ _ rfl (by omega) (by omega), trivial⟩ ⟨nx, I_nu _, trivial⟩ (rsN2 nv 0)
  · refine rPow h ha hz (by omega) (by omega) nx (I_nu _) ?_
    rw [powZ_nat hz]; exact nv

theorem rTr (h : OpsR F) [R : Rho] {x v : AV} {a : Nat} (ha : a < F.q) (nx : Nu x a) (nv : Nu v (F.tr a : Nat)) : (f1 F x v).Holds Try.prog 36 := by
  have hF := ok_mem h.mem
  have q0 : 0 < F.q := by have := hF.q2; omega
  have h0 : @Fct.Holds (rhoN (tp F a)) Try.prog 36 ⟨[fA F, tL F 0], fOld F, tS F F.e, [], []⟩ ∧ @Nu (rhoN (tp F a)) (tS F F.e) (F.tr a : Nat) ∧ @Nu (rhoN (tp F a)) (tL F 0) (a : Nat) := by
    letI := rhoN (tp F a)
    have nE : ∀ t, Nu (tL F (2 * t)) (frobN F a t : Nat) := fun t => by
      have := frob_lt hF ha t
      refine lv_nu ?_ (Nat.zero_le _) (by omega)
      show ((tp F a (2 * t) : Nat) : Int) = _
      unfold tp
      rw [if_pos (by omega), show 2 * t / 2 = t by omega]
    have nO : ∀ t, Nu (tL F (2 * t + 1)) (sumN F a (t + 1) : Nat) := fun t => by
      have := sum_lt hF a (t + 1)
      refine lv_nu ?_ (Nat.zero_le _) (by omega)
      show ((tp F a (2 * t + 1) : Nat) : Int) = _
      unfold tp
      rw [if_neg (by omega), show (2 * t + 1) / 2 = t by omega]
    have nS : ∀ t, Nu (tS F t) (sumN F a t : Nat) := fun t => by
      cases t with
      | zero => exact I_nu 0
      | succ t => exact nO t
    have nT : Nu (tS F F.e) (F.tr a : Nat) := by rw [tr_eq]; exact nS F.e
    refine ⟨?_, nT, nE 0⟩
    refine Fct.holds fit (orcOf_ok (L := rtrL F) ⟨fun G hG => ?_, fun G hG => ?_, trivial⟩) (good_n rfl (lone_all2 nT.lone)) h.tr
    · obtain ⟨t, _, rfl⟩ := List.mem_map.1 hG
      exact rAdd h (sum_lt hF a t) (frob_lt hF ha t) (nS t) (nE t) (nO t)
    · obtain ⟨t, _, rfl⟩ := List.mem_map.1 hG
      exact rPowP h (frob_lt hF ha t) (nE t) (nE (t + 1))
  obtain ⟨h1, h2, h3⟩ := h0
  exact turnF h1 (lone_flat (@Nu.lone (rhoN (tp F a)) _ _ h2)) (by rw [@lone_vl (rhoN (tp F a)) _ (@Nu.lone (rhoN (tp F a)) _ _ h2), @Nu.vl (rhoN (tp F a)) _ _ h2]) (ns := [(a : Int)]) ⟨h3, trivial⟩ ⟨nx, trivial⟩ (rsN nv)
end
end Go.Proofs.Ytjphnpbknaedcaa
