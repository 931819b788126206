/- A list of digests as an argument, whatever it is. -/
import Derived.Test.YtdenpaifjpmkgaaTh
namespace Go.Proofs.Ytdenpaifjpmkgaa
open Go.Ev
open Go.RowKit (Below)
set_option maxRecDepth 100000
set_option linter.unusedVariables false
set_option linter.unusedSectionVars false

/-- how the slice is given: nil, or where it stands -/
inductive GivenT (W : World) (off cap : Nat) (l : List Int) : Bool → Value → Prop
  | nil (h : l = []) : GivenT W off cap l true (.slice none 0 0)
  | at {b : Nat} {c : Array Value} (hS : Stands W b off cap l c) : GivenT W off cap l false (.slice (some ⟨b, off, none⟩) l.length cap)

theorem g_len {a : Nat} {I : InT} (ha : ClsT I a) (h0 : a ≠ 0) : a < 4 := by rcases ha with h | h | h | h <;> omega

/-- the list as an argument -/
theorem g_arg {I : InT} (h : I.Ok) {a : Nat} (ha : ClsT I a) (hl : I.l.length ≤ 9223372036854775807) {W : World} {nl : Bool} {v0 : Value} (hv : GivenT W I.off I.cap I.l nl v0) (hnl : nl = true ↔ a = 0) :
    ∃ π : Inj, @WR I.R W.heap.size π [] { heap := (gOld a).map some, lo := 0, loops := [], nd := 0 } W ∧ @VR I.R π [] (gL a) v0 := by
  letI := I.R
  cases hv with
  | nil hn =>
    obtain rfl := hnl.1 rfl
    exact ⟨fun i => ([] : List (Nat × Nat))[i]?, tree_rows (rs := []) rfl rfl [] rfl (fun i A h => by simp at h), .nilSlice⟩
  | @«at» b c hS =>
    have h0 : a ≠ 0 := fun e => by have := hnl.2 e; cases this
    obtain ⟨be, bfz, hblk⟩ := hS.blk
    have e1 : (SX.free 1).eval = (I.cap : Int) := t_num (by omega)
    have e2 : (SX.free 2).eval = (I.off : Int) := t_num (by omega)
    have e0 : Rho.ρ 0 = (I.l.length : Int) := t_num (by omega)
    have hcap := hS.cap
    have ho : gOld a = [rowD 0] := by rcases ha with ⟨h, _⟩ | ⟨rfl, _⟩ | ⟨rfl, _⟩ | ⟨rfl, _⟩ <;> first | exact absurd h h0 | rfl
    refine ⟨fun i => [(b, c.size)][i]?, ?_, ?_⟩
    · rw [ho]
      exact tree_rows (rs := [rowD 0]) rfl rfl _ rfl (fun i A hA => by
        match i, hA with
        | 0, hA => obtain rfl := Option.some.inj hA; exact ⟨rfl, rfl, b, c, be, bfz, rfl, hblk, stand_row hS (mk_skip (by omega)) (mk_len (by omega)) (fun i _ => mk_val (by omega) _ i)⟩)
    · have key : ∀ len : SX, len.ok → len.eval = (I.l.length : Int) → VR (fun i => [(b, c.size)][i]?) [] (.sls 0 (.free 2) len (.free 1) true) (.slice (some ⟨b, I.off, none⟩) I.l.length I.cap) := fun len ho hle => by
        have so : SlOk (.free 2) len (.free 1) := ⟨trivial, ho, trivial, by rw [e2]; omega, by rw [hle]; omega, by rw [hle, e1]; omega⟩
        have hr := VR.slsEx (π := fun i => [(b, c.size)][i]?) (lm := []) (b := 0) (b' := b) (n := c.size) so rfl
        rw [hle, e1, e2, Int.toNat_natCast, Int.toNat_natCast, Int.toNat_natCast] at hr
        exact hr
      have hn := t_n h
      rcases ha with ⟨e, _⟩ | ⟨rfl, e⟩ | ⟨rfl, e, e'⟩ | ⟨rfl, e⟩
      · exact absurd e h0
      · exact key (.lit 0) trivial (by rw [e]; rfl)
      · refine key (.var 0 1 300) ?_ e0
        show (1 : Int) ≤ Rho.ρ 0 ∧ Rho.ρ 0 ≤ 300
        rw [e0]; omega
      · refine key (.var 0 1 I63) ?_ e0
        show (1 : Int) ≤ Rho.ρ 0 ∧ Rho.ρ 0 ≤ 9223372036854775807
        rw [e0]; omega

theorem cls_of (I : InT) (nl : Bool) (hn : nl = true → I.l = []) : ∃ a, ClsT I a ∧ (nl = true ↔ a = 0) := by
  cases nl with
  | true => exact ⟨0, .inl ⟨rfl, hn rfl⟩, by simp⟩
  | false =>
    by_cases h0 : I.l.length = 0
    · exact ⟨1, .inr (.inl ⟨rfl, List.length_eq_zero_iff.1 h0⟩), by simp⟩
    · by_cases h1 : I.l.length ≤ I.n
      · exact ⟨2, .inr (.inr (.inl ⟨rfl, by omega, h1⟩)), by simp⟩
      · exact ⟨3, .inr (.inr (.inr ⟨rfl, by omega⟩)), by simp⟩

theorem k16_rel {I : InT} {a : Nat} {x : Int} (ha : a < 1000000) (hx : I.num a = x) (hb : 0 ≤ x ∧ x ≤ 65535) (π : Inj) : @VR I.R π [] (k16 a) (.int .u16 x) := by
  letI := I.R
  have h0 : @Is0 I.R (k16 a) (.int .u16 x) := @Is0.var I.R _ _ _ _ _ (by rw [t_num ha]; exact hx) hb.1 hb.2
  have := @vl0_rel I.R π [] _ h0.l h0.f
  rw [h0.v] at this; exact this
theorem dA_rel {I : InT} {a : Nat} {x : Int} (ha : a < 1000000) (hx : I.num a = x) (hb : u64 x) (π : Inj) : @VR I.R π [] (dA a) (.int .u64 x) := by
  letI := I.R
  have h0 : @Is0 I.R (dA a) (.int .u64 x) := @Is0.dig I.R _ _ (by rw [t_num ha]; exact hx) hb
  have := @vl0_rel I.R π [] _ h0.l h0.f
  rw [h0.v] at this; exact this
end Go.Proofs.Ytdenpaifjpmkgaa
