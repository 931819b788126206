/- FieldAxioms: what it answers, for all bytes. -/
import Derived.Test.YtjphnpbknaedcaaAi
import Derived.Test.YtjphnpbknaedcaaAb1
import Derived.Test.YtjphnpbknaedcaaAb2
import Derived.Test.YtjphnpbknaedcaaAb3
import Derived.Test.YtjphnpbknaedcaaAb5
import Derived.Test.YtjphnpbknaedcaaAe0
import Derived.Test.YtjphnpbknaedcaaAe1
import Derived.Test.YtjphnpbknaedcaaAe2
import Derived.Test.YtjphnpbknaedcaaAe3
import Derived.Test.YtjphnpbknaedcaaAe4
import Derived.Test.YtjphnpbknaedcaaAg0
import Derived.Test.YtjphnpbknaedcaaAg1
import Derived.Test.YtjphnpbknaedcaaAg2
import Derived.Test.YtjphnpbknaedcaaAh0
namespace Go.Proofs.Ytjphnpbknaedcaa
open Go.Ev Go.Fl
open Go.RowKit (Below)
set_option linter.unusedSectionVars false
set_option linter.unusedVariables false

theorem ops_ok {F : Gf} (h : F ∈ fds) : OpsOk F := ⟨h, ex_ok F h, add_ok F h, sub_ok F h, mul_ok F h, neg_ok F h, List.all_eq_true.1 inv_k F h⟩

theorem mem_parts {α : Type} {l : List α} {x : α} (n : Nat) (h : x ∈ l) : x ∈ l.take n ∨ x ∈ l.drop n := by
  rw [← List.mem_append, List.take_append_drop]; exact h

section
variable [Rho]
theorem rm_ok : ∀ G ∈ rmk.map rmakeF, G.Holds Try.prog 11 := by
  intro G hG
  obtain ⟨x, hx, rfl⟩ := List.mem_map.1 hG
  have e : rmk = (rmk.drop 0).take 9 ++ ((rmk.drop 9).take 5 ++ ((rmk.drop 14).take 4 ++ ((rmk.drop 18).take 5 ++ (rmk.drop 23).take 4))) := by rfl
  rw [e] at hx
  simp only [List.mem_append] at hx
  rcases hx with h | h | h | h | h
  · exact chk_ok (noOrc_ok _) (List.all_eq_true.1 rm_0 x h)
  · exact chk_ok (noOrc_ok _) (List.all_eq_true.1 rm_1 x h)
  · exact chk_ok (noOrc_ok _) (List.all_eq_true.1 rm_2 x h)
  · exact chk_ok (noOrc_ok _) (List.all_eq_true.1 rm_3 x h)
  · exact chk_ok (noOrc_ok _) (List.all_eq_true.1 rm_4 x h)
theorem LO_ok : FactsOk Try.prog LO := ⟨one orders_ok, rm_ok, trivial⟩
theorem of_ok {F : Gf} {i : Nat} (h : (F, i) ∈ fds.zipIdx) : (ofF i F).Holds Try.prog 14 := chk_ok (orcOf_ok LO_ok) (List.all_eq_true.1 of_k _ h)
end

theorem ax_all {x : Gf × Nat} (h : x ∈ fds.zipIdx.drop 1) : axAll x = true := by
  have e : fds.zipIdx.drop 1 = (fds.zipIdx.drop 1).take 9 ++ ((fds.zipIdx.drop 10).take 9 ++ (fds.zipIdx.drop 19).take 8) := by rfl
  rw [e] at h
  simp only [List.mem_append] at h
  rcases h with h | h | h
  · exact List.all_eq_true.1 ax_0 x h
  · exact List.all_eq_true.1 ax_1 x h
  · exact List.all_eq_true.1 ax_2 x h
theorem ax_run {F : Gf} {i : Nat} (h : (F, i) ∈ fds.zipIdx.drop 1) (za zb : Bool) : okRun Try.prog (orcOf (axFacts F za zb i)) 4 [axArg F za zb i] (.bool true) = true := by
  show axRun F za zb i = true
  have := ax_all h
  simp only [axAll, Bool.and_eq_true] at this
  cases za <;> cases zb
  · exact this.1.1
  · exact this.1.2
  · exact this.2.1
  · exact this.2.2
theorem ax_run2 {a b c : Nat} (ha : a < 2) (hb : b < 2) (hc : c < 2) : okRun Try.prog (orcOf axFacts2) 4 [axArg2 a b c] (.bool true) = true := by
  show axRun2 a b c = true
  have := ax_2e
  simp only [Bool.and_eq_true, decide_eq_true_eq] at this
  match a, b, c, ha, hb, hc with
  | 0, 0, 0, _, _, _ => exact this.1.1.1
  | 0, 0, 1, _, _, _ => exact this.1.1.2
  | 0, 1, 0, _, _, _ => exact this.1.2.1
  | 0, 1, 1, _, _, _ => exact this.1.2.2
  | 1, 0, 0, _, _, _ => exact this.2.1.1
  | 1, 0, 1, _, _, _ => exact this.2.1.2
  | 1, 1, 0, _, _, _ => exact this.2.2.1
  | 1, 1, 1, _, _, _ => exact this.2.2.2

theorem byteZ_vl [Rho] {F : Gf} {z : Bool} {i j x : Nat} (hz : z = decide (x % F.q = 0)) (hi : Rho.ρ i = ((x / F.q : Nat) : Int)) (hj : Rho.ρ j = ((x % F.q : Nat) : Int)) : (byteZ F z i j).vl0 = .int .u8 (x : Int) := by
  cases h : z
  · exact byteX_vl hi hj
  · rw [h] at hz
    exact byteX_vl hi (by rw [of_decide_eq_true hz.symm]; rfl)
theorem byteZ_fine [Rho] {F : Gf} {z : Bool} {i j x : Nat} (hq : 0 < F.q) (hx : x ≤ 255) (hz : z = decide (x % F.q = 0)) (hi : Rho.ρ i = ((x / F.q : Nat) : Int)) (hj : Rho.ρ j = ((x % F.q : Nat) : Int)) : (byteZ F z i j).fine0 := by
  cases h : z
  · rw [h] at hz
    have h0 : x % F.q ≠ 0 := of_decide_eq_false hz.symm
    have h1 := Nat.mod_lt x hq
    refine byteX_fine hx hi hj ?_ (by omega)
    show (1 : Int) ≤ Rho.ρ j ∧ Rho.ρ j ≤ Int.ofNat (F.q - 1)
    rw [hj, Int.ofNat_eq_natCast]; omega
  · rw [h] at hz
    exact byteX_fine hx hi (by rw [of_decide_eq_true hz.symm]; rfl) trivial (Nat.zero_le _)

theorem zip_mem {i : Nat} (h : i < fds.length) : (fds[i], i) ∈ fds.zipIdx := by
  rw [List.mem_zipIdx_iff_getElem?]; exact List.getElem?_eq_getElem h
theorem zip_mem1 {i : Nat} (h : i < fds.length) (h1 : 1 ≤ i) : (fds[i], i) ∈ fds.zipIdx.drop 1 := by
  rw [List.mem_iff_getElem?]
  refine ⟨i - 1, ?_⟩
  rw [List.getElem?_drop, List.getElem?_zipIdx, show 1 + (i - 1) = i by omega, List.getElem?_eq_getElem h]
  simp

theorem calls_args {f : FuncId} {a b : Array Value} {w : World} {Q : Ending → World → Prop} (h : Calls Try.prog f a w Q) (e : a = b) : Calls Try.prog f b w Q := e ▸ h

theorem ax_c (x0 x1 x2 x3 : Nat) (h0 : x0 ≤ 255) (h1 : x1 ≤ 255) (h2 : x2 ≤ 255) (h3 : x3 ≤ 255) (w : World) :
    Calls Try.prog 4 #[.agg #[.int .u8 x0, .int .u8 x1, .int .u8 x2, .int .u8 x3]] w fun e w' => e = .returned (.bool true) ∧ Below w.heap.size w w' := by
  have hi : x0 % 27 < fds.length := Nat.mod_lt _ (by decide)
  by_cases hz : x0 % 27 = 0
  · -- two elements
    letI : Rho := rhoN (fun k => [0, 0, 0, 0, 0, 0, 0, 0, 0, 0, 0, 0, 0, 0, 0, 0, 0, 0, 0, 0, x0 / 27, x1 / 2, x2 / 2, x3 / 2].getD k 0)
    have m : (⟨2, 1, 2, 1, [0], 1, 0⟩, 0) ∈ fds.zipIdx := zip_mem (i := 0) (by decide)
    have run := ax_run2 (Nat.mod_lt x1 (show 2 > 0 by omega)) (Nat.mod_lt x2 (show 2 > 0 by omega)) (Nat.mod_lt x3 (show 2 > 0 by omega))
    have e0 : (byteI 0).vl0 = .int .u8 (x0 : Int) := byteX_vl rfl (by rw [hz]; rfl)
    have e1 : ∀ (i x : Nat), Rho.ρ i = ((x / 2 : Nat) : Int) → (byteX 2 i (.lit (Int.ofNat (x % 2))) (x % 2)).vl0 = .int .u8 (x : Int) := fun i x h => byteX_vl h rfl
    refine calls_args (run_open fit (orcOf_ok (L := axFacts2) ⟨one examples_ok, one (of_ok m), trivial⟩) run ⟨⟨byteX_fine h0 rfl (by rw [hz]; rfl) trivial (Nat.zero_le _), byteX_fine h1 rfl rfl trivial (Nat.le_refl _), byteX_fine h2 rfl rfl trivial (Nat.le_refl _), byteX_fine h3 rfl rfl trivial (Nat.le_refl _), trivial⟩, trivial⟩ w) ?_
    · show #[Value.agg #[(byteI 0).vl0, AV.vl0 _, AV.vl0 _, AV.vl0 _]] = _
      rw [e0, e1 21 x1 rfl, e1 22 x2 rfl, e1 23 x3 rfl]
  · generalize hF : fds[x0 % 27] = F
    have m1 : (F, x0 % 27) ∈ fds.zipIdx.drop 1 := hF ▸ zip_mem1 hi (by omega)
    have m0 : (F, x0 % 27) ∈ fds.zipIdx := hF ▸ zip_mem hi
    have mF : F ∈ fds := hF ▸ List.getElem_mem hi
    have hq : 0 < F.q := by have := (ok_mem mF).q2; omega
    letI : Rho := rhoN (fun k => [x1 % F.q, x2 % F.q, x3 % F.q, F.add (x1 % F.q) (x2 % F.q), F.mul (x1 % F.q) (x2 % F.q), F.add (x2 % F.q) (x3 % F.q), F.add (F.add (x1 % F.q) (x2 % F.q)) (x3 % F.q), F.mul (x2 % F.q) (x3 % F.q), F.mul (F.mul (x1 % F.q) (x2 % F.q)) (x3 % F.q),
      F.mul (x1 % F.q) (x3 % F.q), F.mul (F.add (x1 % F.q) (x2 % F.q)) (x3 % F.q), F.neg (x1 % F.q), F.inv (x1 % F.q), 0, 0, 0, 0, 0, 0, 0, x0 / 27, x1 / F.q, x2 / F.q, x3 / F.q].getD k 0)
    have run := ax_run m1 (decide (x1 % F.q = 0)) (decide (x2 % F.q = 0))
    have facts : FactsOk Try.prog (axFacts F (decide (x1 % F.q = 0)) (decide (x2 % F.q = 0)) (x0 % 27)) := axFacts_ok (ops_ok mF) examples_ok (of_ok m0) (Nat.mod_lt x1 hq) (Nat.mod_lt x2 hq) (Nat.mod_lt x3 hq) rfl rfl (fun k hk => by
      match k, hk with
      | 0, _ => rfl
      | 1, _ => rfl
      | 2, _ => rfl
      | 3, _ => rfl
      | 4, _ => rfl
      | 5, _ => rfl
      | 6, _ => rfl
      | 7, _ => rfl
      | 8, _ => rfl
      | 9, _ => rfl
      | 10, _ => rfl
      | 11, _ => rfl
      | 12, _ => rfl
      | k + 13, h => omega)
    have c3 : (0 : Int) ≤ ((x3 % F.q : Nat) : Int) ∧ ((x3 % F.q : Nat) : Int) ≤ Int.ofNat (F.q - 1) := by
      have := Nat.mod_lt x3 hq
      rw [Int.ofNat_eq_natCast]; omega
    refine calls_args (run_open fit (orcOf_ok facts) run ⟨⟨byteX_fine h0 rfl rfl trivial (Nat.le_refl _), byteZ_fine hq h1 rfl rfl rfl, byteZ_fine hq h2 rfl rfl rfl, byteX_fine h3 rfl rfl c3 (Nat.zero_le _), trivial⟩, trivial⟩ w) ?_
    · show #[Value.agg #[(byteI _).vl0, AV.vl0 _, AV.vl0 _, AV.vl0 _]] = _
      have e0 : (byteI (x0 % 27)).vl0 = .int .u8 (x0 : Int) := byteX_vl rfl rfl
      have e1 : (byteZ F (decide (x1 % F.q = 0)) 21 0).vl0 = .int .u8 (x1 : Int) := byteZ_vl rfl rfl rfl
      have e2 : (byteZ F (decide (x2 % F.q = 0)) 22 1).vl0 = .int .u8 (x2 : Int) := byteZ_vl rfl rfl rfl
      have e3 : (byteX F.q 23 (.var 2 0 (Int.ofNat (F.q - 1))) 0).vl0 = .int .u8 (x3 : Int) := byteX_vl rfl rfl
      rw [e0, e1, e2, e3]
end Go.Proofs.Ytjphnpbknaedcaa
