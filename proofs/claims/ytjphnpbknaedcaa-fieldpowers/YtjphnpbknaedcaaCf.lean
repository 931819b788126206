/- FieldPowers: what it answers, for all arguments. -/
import Derived.Test.YtjphnpbknaedcaaCe
import Derived.Test.YtjphnpbknaedcaaCd0
import Derived.Test.YtjphnpbknaedcaaCd1
import Derived.Test.YtjphnpbknaedcaaCd2
import Derived.Test.YtjphnpbknaedcaaCd3
import Derived.Test.YtjphnpbknaedcaaCg0
import Derived.Test.YtjphnpbknaedcaaCg1
import Derived.Test.YtjphnpbknaedcaaCg2
import Derived.Test.YtjphnpbknaedcaaCg3
import Derived.Test.YtjphnpbknaedcaaCg4
namespace Go.Proofs.Ytjphnpbknaedcaa
open Go.Ev Go.Fl
open Go.RowKit (Below)
set_option linter.unusedSectionVars false
set_option linter.unusedVariables false

theorem ps_ok {F : Gf} (h : F ∈ fds) : chkPs F 0 (F.q - 1) = true := by
  have e : fds = (fds.drop 0).take 12 ++ ((fds.drop 12).take 3 ++ ((fds.drop 15).take 2 ++ ((fds.drop 17).take 2 ++ ((fds.drop 19).take 2 ++ ((fds.drop 21).take 1 ++ ((fds.drop 22).take 1 ++ ((fds.drop 23).take 1 ++ ((fds.drop 24).take 1 ++ ((fds.drop 25).take 1 ++ (fds.drop 26).take 1))))))))) := by rfl
  rw [e] at h
  simp only [List.mem_append] at h
  rcases h with h | h | h | h | h | h | h | h | h | h | h
  · exact List.all_eq_true.1 ps_a F h
  · exact List.all_eq_true.1 ps_b F h
  · exact List.all_eq_true.1 ps_d F h
  · exact List.all_eq_true.1 ps_e F h
  · exact List.all_eq_true.1 ps_g F h
  · exact List.all_eq_true.1 ps_c F h
  · exact List.all_eq_true.1 ps_f F h
  · exact List.all_eq_true.1 ps_h F h
  · exact List.all_eq_true.1 ps_i F h
  · exact List.all_eq_true.1 ps_j F h
  · exact List.all_eq_true.1 ps_k F h

theorem opsZ_ok {F : Gf} (h : F ∈ fds) : OpsZ F := by
  have hp := ps_ok h
  have key : ∀ r, r < F.q - 1 → chkPP F r = true ∧ chkPM F r = true := fun r hr => by
    have := allLt_ok hp r hr
    simp only [Bool.and_eq_true, Nat.zero_add] at this
    exact this
  exact { toOpsOk := ops_ok h, pp := fun r hr => (key r hr).1, pm := fun r hr => (key r hr).2, pz := List.all_eq_true.1 zs_k F h }

theorem opsW_ok {F : Gf} (h : F ∈ fds) : OpsW F := by
  have e : fds = fds.take 19 ++ (fds.drop 19).take 4 ++ fds.drop 23 := by rfl
  have hO : chkOs F = true := by
    have h' := h
    rw [e] at h'
    simp only [List.mem_append] at h'
    rcases h' with (h' | h') | h'
    · exact List.all_eq_true.1 os_a F h'
    · exact List.all_eq_true.1 os_b F h'
    · exact List.all_eq_true.1 os_c F h'
  exact { toOpsZ := opsZ_ok h, ordN := List.all_eq_true.1 on_k F h, ords := hO, ord0 := List.all_eq_true.1 o0_k F h, prim := List.all_eq_true.1 pr_k F h }

theorem pw_all {x : Gf × Nat} (h : x ∈ fds.zipIdx) : pwAll x = true := by
  have e : fds.zipIdx = (fds.zipIdx.drop 0).take 12 ++ ((fds.zipIdx.drop 12).take 2 ++ ((fds.zipIdx.drop 14).take 2 ++ ((fds.zipIdx.drop 16).take 2 ++ ((fds.zipIdx.drop 18).take 1 ++ ((fds.zipIdx.drop 19).take 1 ++ ((fds.zipIdx.drop 20).take 1 ++ ((fds.zipIdx.drop 21).take 1 ++ ((fds.zipIdx.drop 22).take 1 ++ ((fds.zipIdx.drop 23).take 1 ++ ((fds.zipIdx.drop 24).take 1 ++ ((fds.zipIdx.drop 25).take 1 ++ ((fds.zipIdx.drop 26).take 1)))))))))))) := by rfl
  rw [e] at h
  simp only [List.mem_append] at h
  rcases h with h | h | h | h | h | h | h | h | h | h | h | h | h
  · exact List.all_eq_true.1 pw_0 x h
  · exact List.all_eq_true.1 pw_12 x h
  · exact List.all_eq_true.1 pw_14 x h
  · exact List.all_eq_true.1 pw_16 x h
  · exact List.all_eq_true.1 pw_18 x h
  · exact List.all_eq_true.1 pw_19 x h
  · exact List.all_eq_true.1 pw_20 x h
  · exact List.all_eq_true.1 pw_21 x h
  · exact List.all_eq_true.1 pw_22 x h
  · exact List.all_eq_true.1 pw_23 x h
  · exact List.all_eq_true.1 pw_24 x h
  · exact List.all_eq_true.1 pw_25 x h
  · exact List.all_eq_true.1 pw_26 x h

theorem pw_run {F : Gf} {i k : Nat} (h : (F, i) ∈ fds.zipIdx) (hk : k = 0 ∨ k ∈ divs F) : okRun Try.prog (orcOf2 (pwFacts F i k)) 5 (pwArg F i k) (.bool true) = true := by
  show pwRun F i k = true
  have ha : pwAll (F, i) = true := pw_all h
  simp only [pwAll, Bool.and_eq_true] at ha
  rcases hk with rfl | hk
  · exact ha.1
  · exact List.all_eq_true.1 ha.2 k hk

theorem pw_c (x0 x1 : Nat) (m n : Int) (h0 : x0 ≤ 255) (h1 : x1 ≤ 255) (m1 : -32768 ≤ m) (m2 : m ≤ 32767) (n1 : -32768 ≤ n) (n2 : n ≤ 32767) (w : World) :
    Calls Try.prog 5 #[.agg #[.int .u8 x0, .int .u8 x1], .int .i16 m, .int .i16 n] w fun e w' => e = .returned (.bool true) ∧ Below w.heap.size w w' := by
  have hi : x0 % 27 < fds.length := Nat.mod_lt _ (by decide)
  generalize hFe : fds[x0 % 27] = F
  have m0 : (F, x0 % 27) ∈ fds.zipIdx := hFe ▸ zip_mem hi
  have mF : F ∈ fds := hFe ▸ List.getElem_mem hi
  have hF := ok_mem mF
  have hW := opsW_ok mF
  have hq : 0 < F.q := by have := hF.q2; omega
  have q64 := hF.q64
  have ha : x1 % F.q < F.q := Nat.mod_lt x1 hq
  by_cases hz : x1 % F.q = 0
  · letI : Rho := ⟨fun j => if j = 22 then m else if j = 23 then n else (([0, 0, 0, 0, 1, 1, 1, 0, 0, 0, 0, 0, 0, 0, 0, 0, 0, 0, 0, 0, x0 / 27, x1 / F.q].getD j 0 : Nat) : Int)⟩
    refine calls_args (run_open fit (orcOf2_ok (pwFacts_ok0 hW (of_ok m0) rfl rfl rfl)) (pw_run m0 (.inl rfl))
      ⟨⟨byteX_fine h0 rfl rfl trivial (Nat.le_refl _), byteX_fine (r := .lit 0) h1 rfl (by rw [hz]; rfl) trivial (Nat.zero_le _), trivial⟩, ⟨⟨m1, m2⟩, m1, m2⟩, ⟨⟨n1, n2⟩, n1, n2⟩, trivial⟩ w) ?_
    show #[Value.agg #[(byteI _).vl0, AV.vl0 _], .int .i16 m, .int .i16 n] = _
    have e0 : (byteI (x0 % 27)).vl0 = .int .u8 (x0 : Int) := byteX_vl rfl rfl
    have e1 : (wX F 0).vl0 = .int .u8 (x1 : Int) := byteX_vl (r := .lit 0) rfl (by rw [hz]; rfl)
    rw [e0, e1]
  · have o := ordOk_of hW.ordN ha hz
    have hk0 : Gf_ord F (x1 % F.q) ≠ 0 := by have := o.one; omega
    have hkd : Gf_ord F (x1 % F.q) ∈ divs F := by
      unfold divs
      rw [List.mem_filter, List.mem_range'_1]
      have h3 := o.one
      have h4 := o.lt
      exact ⟨by omega, by simpa using o.dvd⟩
    letI : Rho := ⟨fun j => if j = 22 then m else if j = 23 then n else if 101 ≤ j then ((F.pow (x1 % F.q) (j - 100) : Nat) : Int) else (([x1 % F.q, 0, 0, 0, powZ F (x1 % F.q) (m + n), powZ F (x1 % F.q) m, powZ F (x1 % F.q) n, 0, 0, 0, 0, 0, 0, 0, 0, 0, 0, 0, 0, 0, x0 / 27, x1 / F.q].getD j 0 : Nat) : Int)⟩
    have ht : ∀ t, t < 64 → Rho.ρ (101 + t) = ((F.pow (x1 % F.q) (t + 1) : Nat) : Int) := fun t _ => by
      show (if 101 + t = 22 then m else if 101 + t = 23 then n else if 101 ≤ 101 + t then ((F.pow (x1 % F.q) (101 + t - 100) : Nat) : Int) else _) = _
      rw [if_neg (by omega), if_neg (by omega), if_pos (by omega), show 101 + t - 100 = t + 1 by omega]
    have hX : (wX F (Gf_ord F (x1 % F.q))).vl0 = .int .u8 (x1 : Int) ∧ (wX F (Gf_ord F (x1 % F.q))).fine0 := by
      have ha2 : Gf_ord F (x1 % F.q) ≠ 1 → 2 ≤ x1 % F.q := fun h1 => by
        have := o.two 0 (by have := o.one; omega)
        rwa [Nat.zero_add, hF.pow_one hz ha] at this
      unfold wX
      rw [if_neg hk0]
      split
      · rename_i hk1
        have e : x1 % F.q = 1 := by
          have := o.pow
          rwa [hk1, hF.pow_one hz ha] at this
        exact ⟨byteX_vl (r := .lit 1) rfl (by rw [e]; rfl), byteX_fine (r := .lit 1) h1 rfl (by rw [e]; rfl) trivial (by omega)⟩
      · rename_i hk1
        have h2 := ha2 hk1
        split
        · rename_i h3
          have e : x1 % F.q = 2 := by omega
          exact ⟨byteX_vl (r := .lit 2) rfl (by rw [e]; rfl), byteX_fine (r := .lit 2) h1 rfl (by rw [e]; rfl) trivial (by omega)⟩
        · refine ⟨byteX_vl (r := .var 0 2 (Int.ofNat (F.q - 1))) rfl rfl, byteX_fine (r := .var 0 2 (Int.ofNat (F.q - 1))) h1 rfl rfl ?_ h2⟩
          show (2 : Int) ≤ ((x1 % F.q : Nat) : Int) ∧ ((x1 % F.q : Nat) : Int) ≤ Int.ofNat (F.q - 1)
          rw [Int.ofNat_eq_natCast]; omega
    refine calls_args (run_open fit (orcOf2_ok (pwFacts_ok hW (of_ok m0) ha m1 m2 n1 n2 rfl rfl rfl rfl rfl rfl ht hz)) (pw_run m0 (.inr hkd))
      ⟨⟨byteX_fine h0 rfl rfl trivial (Nat.le_refl _), hX.2, trivial⟩, ⟨⟨m1, m2⟩, m1, m2⟩, ⟨⟨n1, n2⟩, n1, n2⟩, trivial⟩ w) ?_
    show #[Value.agg #[(byteI _).vl0, AV.vl0 _], .int .i16 m, .int .i16 n] = _
    have e0 : (byteI (x0 % 27)).vl0 = .int .u8 (x0 : Int) := byteX_vl rfl rfl
    rw [e0, hX.1]
end Go.Proofs.Ytjphnpbknaedcaa
