/- FieldRefuses: what it answers, for all arguments. -/
import Derived.Test.YtjphnpbknaedcaaDc
import Derived.Test.YtjphnpbknaedcaaDe
import Derived.Test.YtjphnpbknaedcaaDb0
import Derived.Test.YtjphnpbknaedcaaDb1
import Derived.Test.YtjphnpbknaedcaaDb2
import Derived.Test.YtjphnpbknaedcaaDb3
namespace Go.Proofs.Ytjphnpbknaedcaa
open Go.Ev Go.Fl
open Go.RowKit (Below)
set_option linter.unusedSectionVars false
set_option linter.unusedVariables false

theorem zip_parts {φ : Gf × Nat → Bool} (h0 : ((fds.zipIdx.drop 0).take 9).all φ = true) (h1 : ((fds.zipIdx.drop 9).take 9).all φ = true) (h2 : ((fds.zipIdx.drop 18).take 9).all φ = true) {x : Gf × Nat} (h : x ∈ fds.zipIdx) : φ x = true := by
  have e : fds.zipIdx = (fds.zipIdx.drop 0).take 9 ++ ((fds.zipIdx.drop 9).take 9 ++ (fds.zipIdx.drop 18).take 9) := by rfl
  rw [e] at h
  simp only [List.mem_append] at h
  rcases h with h | h | h
  · exact List.all_eq_true.1 h0 x h
  · exact List.all_eq_true.1 h1 x h
  · exact List.all_eq_true.1 h2 x h
theorem bs_all {c : Nat} (hc : c < 4) {x : Gf × Nat} (h : x ∈ fds.zipIdx) : chkBs c x = true := by
  match c, hc with
  | 0, _ => exact zip_parts b0_0 b0_1 b0_2 h
  | 1, _ => exact zip_parts b1_0 b1_1 b1_2 h
  | 2, _ => exact zip_parts b2_0 b2_1 b2_2 h
  | 3, _ => exact zip_parts b3_0 b3_1 b3_2 h
theorem b_all {c : Nat} (hc : c < 4) {x : Gf × Nat} (h : x ∈ fds.zipIdx) {sg k : Nat} (hs : sg < 3) (hk : k < 5) : chkB c sg k x = true :=
  allLt_ok (allLt_ok (bs_all hc h) sg hs) k hk

theorem r_c (q n : Int) (x0 x1 : Nat) (q1 : -9223372036854775808 ≤ q) (q2 : q ≤ 9223372036854775807) (n1 : -9223372036854775808 ≤ n) (n2 : n ≤ 9223372036854775807) (h0 : x0 ≤ 255) (h1 : x1 ≤ 255) (w : World) :
    Calls Try.prog 8 #[.int .i64 q, .int .i64 n, .agg #[.int .u8 x0, .int .u8 x1]] w fun e w' => e = .returned (.bool true) ∧ Below w.heap.size w w' := by
  have hi : x0 % 27 < fds.length := Nat.mod_lt _ (by decide)
  generalize hFe : fds[x0 % 27] = F
  have m0 : (F, x0 % 27) ∈ fds.zipIdx := hFe ▸ zip_mem hi
  letI : Rho := ⟨fun j => if j = 30 then n else if j = 33 then n else if j = 31 then (x0 : Int) else if j = 32 then (x1 : Int) else if j = 40 then q else if j = 20 then ((x0 / 27 : Nat) : Int) else if j = 21 then ((x1 / 5 : Nat) : Int) else 0⟩
  have hk : x1 % 5 < 5 := Nat.mod_lt _ (by omega)
  have e0 : (byteI (x0 % 27)).vl0 = .int .u8 (x0 : Int) := byteX_vl rfl rfl
  have g0 : (byteI (x0 % 27)).fine0 := byteX_fine h0 rfl rfl trivial (Nat.le_refl _)
  have e1 : (rX (x1 % 5)).vl0 = .int .u8 (x1 : Int) := byteX_vl rfl rfl
  have g1 : (rX (x1 % 5)).fine0 := byteX_fine h1 rfl rfl trivial (Nat.le_refl _)
  obtain ⟨sg, hs, nn⟩ : ∃ sg, sg < 3 ∧ Nu (nS sg) n := by
    rcases Int.lt_trichotomy n 0 with h | h | h
    · exact ⟨0, by omega, Nu.var rfl n1 (by omega)⟩
    · exact ⟨1, by omega, by rw [h]; exact I_nu 0⟩
    · exact ⟨2, by omega, Nu.var rfl (by omega) n2⟩
  obtain ⟨c, qA, hc, hA, nq⟩ : ∃ c qA, c < 4 ∧ chkA c qA = true ∧ Nu qA q := by
    by_cases h2 : q < 2
    · exact ⟨0, qRep 0, by omega, a_0, Nu.var rfl q1 (by omega)⟩
    · by_cases h64 : 64 < q
      · exact ⟨1, qRep 1, by omega, a_1, Nu.var rfl (by omega) q2⟩
      · obtain ⟨m, rfl⟩ := Int.eq_ofNat_of_zero_le (show 0 ≤ q by omega)
        have := a_all (m - 2) (by omega)
        rw [show m - 2 + 2 = m by omega] at this
        exact ⟨clsOf m, I m, by unfold clsOf; split <;> omega, this, I_nu m⟩
  exact cut_c (of_ok m0) hA (b_all hc m0 hs hk) nq n1 n2 rfl rfl rfl h0 h1 nn e0 g0 e1 g1 w
end Go.Proofs.Ytjphnpbknaedcaa
