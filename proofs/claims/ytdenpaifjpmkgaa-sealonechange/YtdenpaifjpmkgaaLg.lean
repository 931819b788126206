/- SealOneChange: what it answers, whatever it is given. -/
import Derived.Test.YtdenpaifjpmkgaaLf
namespace Go.Proofs.Ytdenpaifjpmkgaa
open Go.Ev
open Go.RowKit (Below)
set_option maxRecDepth 100000
set_option linter.unusedVariables false
set_option linter.unusedSectionVars false

theorem wr_rows {R : Rho} {W : World} {s : St} {rs : List ABlk} (hh : s.heap = rs.map some) (hl : s.loops = []) (bl : List (Nat × Nat)) (hlen : bl.length = rs.length)
    (h : ∀ (i : Nat) (A : ABlk), rs[i]? = some A → A.ro = true ∧ A.cells = [] ∧ ∃ (b : Nat) (c : Array Value) (e : TypeId) (fz : Nat × Nat), bl[i]? = some (b, c.size) ∧ W.heap[b]? = some (Obj.cells c e fz) ∧ @TailOk R A c) : @WR R W.heap.size (fun i => bl[i]?) [] s W := by
  have key : ∀ (i : Nat) (A : ABlk), s.heap[i]? = some (some A) → rs[i]? = some A := fun i A hA => by
    rw [hh, List.getElem?_map] at hA
    cases hr : rs[i]? with
    | none => rw [hr] at hA; cases hA
    | some B => rw [hr] at hA; exact congrArg some (Option.some.inj (Option.some.inj hA))
  exact {
    dom := fun i x hx => by
      have := (List.getElem?_eq_some_iff.1 hx).1
      rw [hh, List.length_map]; omega
    blk := fun i A hA => by
      obtain ⟨h1, h2, b, c, e, fz, h3, h4, h5⟩ := h i A (key i A hA)
      refine ⟨b, c.size, c, (e, fz), h3, h4, rfl, fun hr => ?_, ?_, h5⟩
      · rw [h1] at hr; cases hr
      · rw [h2]; exact LR.nil
    inj := fun i j A A' b n m h1 h2 h3 _ _ => by
      rw [(h i A (key i A h1)).1] at h3; cases h3
    lsz := by rw [hl]; rfl
    linj := fun l l' L h => by simp at h
    loop := fun l r h => by rw [hl] at h; cases h }

/-- a slice that is not nil: where it lies -/
structure Lies (W : World) (k : IntKind) (b off cap : Nat) (l : List Int) (c : Array Value) : Prop where
  cap : l.length ≤ cap
  blk : ∃ e fz, W.heap[b]? = some (.cells c e fz)
  cell : ∀ i, i < l.length → c[off + i]? = some (.int k (l.getD i 0))

section
variable {I : In} (hz : I.Ok)
include hz
theorem z_rel (π : Inj) (i : Nat) (hi : i < 4) : @VR I.R π [] (zA i) (.int .u64 (I.z i)) := by
  letI := I.R
  have e := z_ok hz i hi
  have h := hz.z i
  unfold u64 at h
  have : VR π [] (zA i) (.int .u64 (SX.eval (zX i))) := .sym (by show (0 : Int) ≤ (zX i).eval ∧ (zX i).eval ≤ MU; rw [e]; exact h) (by rw [e]; exact h.1) (by rw [e]; exact h.2)
  rw [e] at this
  exact this
theorem agg_rel (π : Inj) : @VR I.R π [] (.agg [zA 0, zA 1, zA 2, zA 3]) (.agg #[.int .u64 (I.z 0), .int .u64 (I.z 1), .int .u64 (I.z 2), .int .u64 (I.z 3)]) := by
  letI := I.R
  have h : @LR I.R π [] [zA 0, zA 1, zA 2, zA 3] [.int .u64 (I.z 0), .int .u64 (I.z 1), .int .u64 (I.z 2), .int .u64 (I.z 3)] :=
    LR.cons (z_rel hz π 0 (by omega)) (LR.cons (z_rel hz π 1 (by omega)) (LR.cons (z_rel hz π 2 (by omega)) (LR.cons (z_rel hz π 3 (by omega)) LR.nil)))
  exact .agg h.1 h.2
omit hz in
theorem tailL {k off : Nat} {l : List Int} {c : Array Value} (h : I.ls k = (off, l)) (hk : k < 1000) (hc : ∀ i, i < l.length → c[off + i]? = some (.int .i64 (l.getD i 0))) : @TailOk I.R (rowT k) c := by
  intro k' d e i hi
  simp only [Option.some.injEq, Prod.mk.injEq] at e
  obtain ⟨rfl, rfl⟩ := e
  rw [mk_len hk, h] at hi
  rw [mk_skip hk, mk_val hk, h]
  exact hc i hi
omit hz in
theorem tailU {k off : Nat} {l : List Int} {c : Array Value} (h : I.ls k = (off, l)) (hk : k < 1000) (hc : ∀ i, i < l.length → c[off + i]? = some (.int .u8 (l.getD i 0))) : @TailOk I.R (rowU k) c := by
  intro k' d e i hi
  simp only [Option.some.injEq, Prod.mk.injEq] at e
  obtain ⟨rfl, rfl⟩ := e
  rw [mk_len hk, h] at hi
  rw [mk_skip hk, mk_val hk, h]
  exact hc i hi

/-- how a slice is given -/
inductive Given (W : World) (k : IntKind) (a : Nat) (off cap : Nat) (l : List Int) : Value → Prop
  | nil (h : a = 4) : Given W k a off cap l (.slice none 0 0)
  | at (h : a ≠ 4) {b : Nat} {c : Array Value} (hL : Lies W k b off cap l c) : Given W k a off cap l (.slice (some ⟨b, off, none⟩) l.length cap)

theorem law_at {W : World} {a b : Nat} (hF : @Fct.Holds I.R Try.prog 5 (lawF a b)) (hn : a ≠ 4 → @SX.ok I.R (nl a) ∧ @SX.eval I.R (nl a) = (I.l.length : Int)) (hm : b ≠ 4 → @SX.ok I.R (nb b) ∧ @SX.eval I.R (nb b) = (I.b.length : Int))
    {v0 v1 : Value} (g0 : Given W .i64 a I.oL I.cL I.l v0) (g1 : Given W .u8 b I.oB I.cB I.b v1) :
    Calls Try.prog 5 #[v0, v1, .agg #[.int .u64 (I.z 0), .int .u64 (I.z 1), .int .u64 (I.z 2), .int .u64 (I.z 3)]] W fun e W' => e = .returned (.bool true) ∧ Below W.heap.size W W' := by
  letI := I.R
  have e1 : (SX.free 1).eval = (I.cL : Int) := mk_num (by omega)
  have e2 : (SX.free 2).eval = (I.oL : Int) := mk_num (by omega)
  have e4 : (SX.free 4).eval = (I.cB : Int) := mk_num (by omega)
  have e5 : (SX.free 5).eval = (I.oB : Int) := mk_num (by omega)
  have four : ∀ n, n ≠ 4 → Nat.beq n 4 = false := fun n hn => by
    cases h : Nat.beq n 4 with
    | false => rfl
    | true => exact absurd (Nat.eq_of_beq_eq_true h) hn
  have relL : ∀ {π : Inj} {bb n : Nat}, a ≠ 4 → I.l.length ≤ I.cL → π 0 = some (bb, n) → VR π [] (lA a) (.slice (some ⟨bb, I.oL, none⟩) I.l.length I.cL) := fun {π bb n} ha hc hp => by
    obtain ⟨k1, k2⟩ := hn ha
    have so : SlOk (.free 2) (nl a) (.free 1) := ⟨trivial, k1, trivial, by rw [e2]; omega, by rw [k2]; omega, by rw [k2, e1]; omega⟩
    have := VR.slsEx (π := π) (lm := []) so hp
    rw [e1, e2, k2] at this
    simpa [lA, four a ha] using this
  have relB : ∀ {π : Inj} {bb n : Nat}, b ≠ 4 → I.b.length ≤ I.cB → π 1 = some (bb, n) → VR π [] (bA b) (.slice (some ⟨bb, I.oB, none⟩) I.b.length I.cB) := fun {π bb n} ha hc hp => by
    obtain ⟨k1, k2⟩ := hm ha
    have so : SlOk (.free 5) (nb b) (.free 4) := ⟨trivial, k1, trivial, by rw [e5]; omega, by rw [k2]; omega, by rw [k2, e4]; omega⟩
    have := VR.slsEx (π := π) (lm := []) so hp
    rw [e4, e5, k2] at this
    simpa [bA, four b ha] using this
  have fin : ∀ {π : Inj}, WR W.heap.size π [] (lawF a b).st W → VR π [] (lA a) v0 → VR π [] (bA b) v1 → Calls Try.prog 5 #[v0, v1, .agg #[.int .u64 (I.z 0), .int .u64 (I.z 1), .int .u64 (I.z 2), .int .u64 (I.z 3)]] W fun e W' => e = .returned (.bool true) ∧ Below W.heap.size W W' :=
    fun {π} hw h0 h1 => Fct.calls hF rfl hw (LR.cons h0 (LR.cons h1 (LR.cons (agg_rel hz π) LR.nil)))
  cases g0 with
  | nil ha =>
    subst ha
    cases g1 with
    | nil hb =>
      subst hb
      exact fin (π := fun i => ([] : List (Nat × Nat))[i]?) (wr_rows (rs := []) rfl rfl [] rfl (fun i A h => by simp at h)) .nilSlice .nilSlice
    | @«at» hb bb c hL =>
      obtain ⟨e, fz, hh⟩ := hL.blk
      have hr : rows 4 b = [rowU 1, rowU 1] := by simp [rows, four b hb]
      refine fin (π := fun i => [(bb, c.size), (bb, c.size)][i]?) (wr_rows (rs := rows 4 b) rfl rfl _ (by rw [hr]; rfl) (fun i A h => ?_)) .nilSlice (relB hb hL.cap rfl)
      rw [hr] at h
      have ht := tailU (I := I) (k := 1) (off := I.oB) (l := I.b) rfl (by omega) hL.cell
      match i, h with
      | 0, h => obtain rfl := Option.some.inj h; exact ⟨rfl, rfl, bb, c, e, fz, rfl, hh, ht⟩
      | 1, h => obtain rfl := Option.some.inj h; exact ⟨rfl, rfl, bb, c, e, fz, rfl, hh, ht⟩
  | @«at» ha ba c hL =>
    obtain ⟨e, fz, hh⟩ := hL.blk
    have hlt := tailL (I := I) (k := 0) (off := I.oL) (l := I.l) rfl (by omega) hL.cell
    cases g1 with
    | nil hb =>
      subst hb
      have hr : rows a 4 = [rowT 0] := by simp [rows, four a ha]
      refine fin (π := fun i => [(ba, c.size)][i]?) (wr_rows (rs := rows a 4) rfl rfl _ (by rw [hr]; rfl) (fun i A h => ?_)) (relL ha hL.cap rfl) .nilSlice
      rw [hr] at h
      match i, h with
      | 0, h => obtain rfl := Option.some.inj h; exact ⟨rfl, rfl, ba, c, e, fz, rfl, hh, hlt⟩
    | @«at» hb bb d hM =>
      obtain ⟨e', fz', hh'⟩ := hM.blk
      have ht := tailU (I := I) (k := 1) (off := I.oB) (l := I.b) rfl (by omega) hM.cell
      have hr : rows a b = [rowT 0, rowU 1] := by simp [rows, four a ha, four b hb]
      refine fin (π := fun i => [(ba, c.size), (bb, d.size)][i]?) (wr_rows (rs := rows a b) rfl rfl _ (by rw [hr]; rfl) (fun i A h => ?_)) (relL ha hL.cap rfl) (relB hb hM.cap rfl)
      rw [hr] at h
      match i, h with
      | 0, h => obtain rfl := Option.some.inj h; exact ⟨rfl, rfl, ba, c, e, fz, rfl, hh, hlt⟩
      | 1, h => obtain rfl := Option.some.inj h; exact ⟨rfl, rfl, bb, d, e', fz', rfl, hh', ht⟩

theorem long_holds {a b : Nat} (hg : gotN a b = true) (hgood : (lawF a b).good = true) : @Fct.Holds I.R Try.prog 5 (lawF a b) := by
  letI := I.R
  exact @Fct.holds I.R Try.prog (orcOf [(9, [exF])]) noKnow noKnow_ok fit (orcOf_ok ⟨fun F hF => by obtain rfl := List.mem_singleton.1 hF; exact ex_fact, trivial⟩) 5000 5 (lawF a b) hgood hg

/-- the law, however the slices are given: n0, n1: are they nil? -/
theorem law_c {W : World} (hl : I.l.length ≤ 9223372036854775807) (hb : I.b.length ≤ 9223372036854775807) {n0 n1 : Bool} (hn0 : n0 = true → I.l = []) (hn1 : n1 = true → I.b = []) {v0 v1 : Value}
    (g0 : ∀ a, (a = 4 ↔ n0 = true) → Given W .i64 a I.oL I.cL I.l v0) (g1 : ∀ b, (b = 4 ↔ n1 = true) → Given W .u8 b I.oB I.cB I.b v1) :
    Calls Try.prog 5 #[v0, v1, .agg #[.int .u64 (I.z 0), .int .u64 (I.z 1), .int .u64 (I.z 2), .int .u64 (I.z 3)]] W fun e W' => e = .returned (.bool true) ∧ Below W.heap.size W W' := by
  have l0 : @Rho.ρ I.R 0 = (I.l.length : Int) := mk_num (by omega)
  have l3 : @Rho.ρ I.R 3 = (I.b.length : Int) := mk_num (by omega)
  have aw : ∃ a, (a = 4 ↔ n0 = true) ∧ (Way a I.l ∨ a = 2 ∧ 200 < I.l.length) := by
    cases n0 with
    | true => exact ⟨4, by simp, .inl (.inr (.inr ⟨rfl, hn0 rfl⟩))⟩
    | false =>
      by_cases h0 : I.l.length = 0
      · exact ⟨0, by simp, .inl (.inl ⟨rfl, List.length_eq_zero_iff.1 h0⟩)⟩
      · by_cases h1 : I.l.length ≤ 200
        · exact ⟨1, by simp, .inl (.inr (.inl ⟨rfl, by omega, h1⟩))⟩
        · exact ⟨2, by simp, .inr ⟨rfl, by omega⟩⟩
  have bw : ∃ b, (b = 4 ↔ n1 = true) ∧ (Way b I.b ∨ b = 2 ∧ 200 < I.b.length) := by
    cases n1 with
    | true => exact ⟨4, by simp, .inl (.inr (.inr ⟨rfl, hn1 rfl⟩))⟩
    | false =>
      by_cases h0 : I.b.length = 0
      · exact ⟨0, by simp, .inl (.inl ⟨rfl, List.length_eq_zero_iff.1 h0⟩)⟩
      · by_cases h1 : I.b.length ≤ 200
        · exact ⟨1, by simp, .inl (.inr (.inl ⟨rfl, by omega, h1⟩))⟩
        · exact ⟨2, by simp, .inr ⟨rfl, by omega⟩⟩
  obtain ⟨a, a1, ha⟩ := aw
  obtain ⟨b, b1, hb'⟩ := bw
  have okL : ∀ a, a ≠ 4 → (Way a I.l ∨ a = 2 ∧ 200 < I.l.length ∨ a = 3 ∧ I.l.length ≤ 200) → @SX.ok I.R (nl a) ∧ @SX.eval I.R (nl a) = (I.l.length : Int) := fun a h4 h => by
    rcases h with (⟨rfl, h⟩ | ⟨rfl, h, h'⟩ | ⟨h, _⟩) | ⟨rfl, h⟩ | ⟨rfl, h⟩
    · exact ⟨trivial, by rw [h]; rfl⟩
    · exact ⟨by show (1 : Int) ≤ @Rho.ρ I.R 0 ∧ @Rho.ρ I.R 0 ≤ 200; rw [l0]; omega, l0⟩
    · exact absurd h h4
    · exact ⟨by show (201 : Int) ≤ @Rho.ρ I.R 0 ∧ @Rho.ρ I.R 0 ≤ 9223372036854775807; rw [l0]; omega, l0⟩
    · exact ⟨by show (0 : Int) ≤ @Rho.ρ I.R 0 ∧ @Rho.ρ I.R 0 ≤ 200; rw [l0]; omega, l0⟩
  have okB : ∀ b, b ≠ 4 → (Way b I.b ∨ b = 2 ∧ 200 < I.b.length ∨ b = 3) → @SX.ok I.R (nb b) ∧ @SX.eval I.R (nb b) = (I.b.length : Int) := fun b h4 h => by
    rcases h with (⟨rfl, h⟩ | ⟨rfl, h, h'⟩ | ⟨h, _⟩) | ⟨rfl, h⟩ | rfl
    · exact ⟨trivial, by rw [h]; rfl⟩
    · exact ⟨by show (1 : Int) ≤ @Rho.ρ I.R 3 ∧ @Rho.ρ I.R 3 ≤ 200; rw [l3]; omega, l3⟩
    · exact absurd h h4
    · exact ⟨by show (201 : Int) ≤ @Rho.ρ I.R 3 ∧ @Rho.ρ I.R 3 ≤ 9223372036854775807; rw [l3]; omega, l3⟩
    · exact ⟨by show (0 : Int) ≤ @Rho.ρ I.R 3 ∧ @Rho.ρ I.R 3 ≤ 9223372036854775807; rw [l3]; omega, l3⟩
  rcases ha with ha | ⟨rfl, ha⟩
  · rcases hb' with hb' | ⟨rfl, hb'⟩
    · exact law_at hz (law_holds hz ha hb') (fun h => okL a h (.inl ha)) (fun h => okB b h (.inl hb')) (g0 a a1) (g1 b b1)
    · by_cases h4 : a = 4
      · subst h4
        exact law_at hz (long_holds hz got_long4' (by kernel_rfl)) (fun h => absurd rfl h) (fun h => okB 2 h (.inr (.inl ⟨rfl, hb'⟩))) (g0 4 a1) (g1 2 b1)
      · have h2 : I.l.length ≤ 200 := by
          rcases ha with ⟨_, h⟩ | ⟨_, _, h⟩ | ⟨_, h⟩
          · rw [h]; simp
          · exact h
          · rw [h]; simp
        exact law_at hz (long_holds hz got_long' (by kernel_rfl)) (fun h => okL 3 h (.inr (.inr ⟨rfl, h2⟩))) (fun h => okB 2 h (.inr (.inl ⟨rfl, hb'⟩))) (g0 3 ⟨fun h => by omega, fun h => absurd (a1.2 h) h4⟩) (g1 2 b1)
  · by_cases h4 : b = 4
    · subst h4
      exact law_at hz (long_holds hz got_long4 (by kernel_rfl)) (fun h => okL 2 h (.inr (.inl ⟨rfl, ha⟩))) (fun h => absurd rfl h) (g0 2 a1) (g1 4 b1)
    · exact law_at hz (long_holds hz got_long (by kernel_rfl)) (fun h => okL 2 h (.inr (.inl ⟨rfl, ha⟩))) (fun h => okB 3 h (.inr (.inr rfl))) (g0 2 a1) (g1 3 ⟨fun h => by omega, fun h => absurd (b1.2 h) h4⟩)
end
end Go.Proofs.Ytdenpaifjpmkgaa
