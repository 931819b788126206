/- Facts that make rows, as calls. -/
import Derived.Test.YtdenpaifjpmkgaaVc
import Derived.Test.YtdenpaifjpmkgaaVb
import Derived.Test.YtdenpaifjpmkgaaTk
import Derived.Test.YtdenpaifjpmkgaaYa
namespace Go.Proofs.Ytdenpaifjpmkgaa
open Go.Ev
open Go.RowKit
set_option maxRecDepth 100000
set_option linter.unusedVariables false
set_option linter.unusedSectionVars false

theorem fct_made {P : Program} {R : Rho} {f : FuncId} {F : Fct} (h : @Fct.Holds R P f F) {π : Inj} {w : World} {vs : Array Value} (hw : @WR R w.heap.size π [] F.st w) (hl : @LR R π [] F.args vs.toList) :
    Calls P f vs w fun e w' => ∃ c π' lm' s1, e = .returned c ∧ @VR R π' lm' F.v c ∧ @WR R w.heap.size π' lm' s1 w' ∧ chkNew s1.heap F.sel F.new = true ∧ Below w.heap.size w w' := by
  obtain ⟨_, hg, s1, hc, hrun⟩ := h
  have h1 := hrun w vs 0 π hw hl
  have h2 : CallsIn Fence.wide 0 P f vs w _ := h1
  refine (callsIn_wide.1 h2).mono ?_
  rintro e w' ⟨c, π', lm', rfl, m1, m2, m3⟩
  simp only [Fct.good, Bool.and_eq_true, List.all_eq_true] at hg
  refine ⟨c, π', lm', s1, rfl, m1, m2, hc, m3.os, m3.tape, m3.output, m3.size, fun r hr => m3.keep r hr (fun i A n h1 h3 => ?_) (by simp)⟩
  simp only [Fct.st, List.getElem?_map, Option.map_eq_some_iff, Option.some.injEq] at h1
  obtain ⟨A'', hA, rfl⟩ := h1
  rw [(hg.1 _ (List.mem_of_getElem? hA)).1] at h3; cases h3

theorem new_at {R : Rho} {h : List (Option ABlk)} {i : Nat} {B : ABlk} (hc : chkNew h [i] [B] = true) : h[i]? = some (some B) := by
  unfold chkNew at hc
  simp only [Bool.and_eq_true] at hc
  have h1 := hc.1
  split at h1
  · rename_i A hA
    rw [nthD_eq] at hA
    rw [@beqB_ok R _ _ h1] at hA
    cases hx : h[i]? with
    | none => rw [hx] at hA; cases hA
    | some y => rw [hx] at hA; simp only [Option.getD_some] at hA; rw [hA]
  · cases h1

/-- a new row that is a list letter's: where the slice stands -/
theorem made_sls {R : Rho} {B : Nat} {π : Inj} {lm : List Nat} {s1 : St} {w : World} {c : Value} {i k : Nat} {len cap : SX} {el : TypeId} {d : EK} (hv : @VR R π lm (.sls i (.lit 0) len cap false) c) (hw : @WR R B π lm s1 w)
    (hc : chkNew s1.heap [i] [{ elem := el, cells := [], ro := false, tl := some (k, d) }] = true) :
    ∃ b n cap' cs fz, c = .slice (some ⟨b, 0, none⟩) (@SX.eval R len).toNat cap' ∧ (@SX.eval R cap).toNat ≤ cap' ∧ cap' = n ∧ B ≤ b ∧ w.heap[b]? = some (.cells cs el fz) ∧ cs.size = n ∧ ∀ t, t < @llen R k → cs[@lskip R k + t]? = some (@lval R k d t) := by
  letI := R
  obtain ⟨so, b, n, cap', hp, rfl, hex⟩ := VR.sls_inv hv
  rcases hex with ⟨h, _⟩ | ⟨_, h3, h4⟩
  · cases h
  · obtain ⟨cs, fz, g1, g2, g3, _, g5⟩ := hw.at (new_at (R := R) hc) hp
    obtain ⟨e1, e2⟩ := g3 rfl
    rw [e1] at g1
    have h4' : cap' = n := by
      have : (0 : Nat) + cap' * 1 = n := h4
      omega
    exact ⟨b, n, cap', cs, _, rfl, h3, h4', e2, g1, g2, fun t ht => g5 k d rfl t ht⟩
theorem cell_of {w : World} {b o : Nat} {cs : Array Value} {e : TypeId} {fz : Nat × Nat} {v : Value} (h : w.heap[b]? = some (.cells cs e fz)) (hv : cs[o]? = some v) : w.cell? ⟨b, o, none⟩ = some v := by
  unfold World.cell?
  rw [h]; exact hv
theorem heap_in {W : World} {b : Nat} {o : Obj} (h : W.heap[b]? = some o) : b < W.heap.size := by
  rcases Nat.lt_or_ge b W.heap.size with h1 | h1
  · exact h1
  · rw [Array.getElem?_eq_none h1] at h; cases h

/-! ### Sides -/
@[reducible] def sdR (n i : Nat) : Rho := mkRho (fun _ => 0) (fun _ => (0, sideL n i))
theorem sides30 {n i : Nat} (h1 : 1 ≤ n) (h2 : n ≤ 4096) (hi : i < n) (w : World) : Calls Try.prog 30 #[.int .i64 n, .int .i64 i] w (SidesPost (sideL n i) w) := by
  letI := sdR n i
  have hL : LetB (sdR n i) 55 (sideL n i) := ⟨mk_skip (by omega), mk_len (by omega), fun t => mk_val (by omega) _ t⟩
  obtain ⟨p0, p1⟩ := wsides_ok n i h1 h2 hi (sdR n i) (.int .i64 n) (.int .i64 i) (Is0.int _ _) (Is0.int _ _)
  have hws : WR w.heap.size (fun i => ([] : List (Nat × Nat))[i]?) [] ({ heap := [], lo := 0, loops := [], nd := 0 } : St) w := tree_rows (rs := []) rfl rfl [] rfl (fun i A h => by simp at h)
  have hla : LR (fun i => ([] : List (Nat × Nat))[i]?) [] [.int .i64 n, .int .i64 i] [Value.int .i64 n, .int .i64 i] := LR.cons (.int _ _) (LR.cons (.int _ _) LR.nil)
  by_cases h0 : depN n i = 0
  · refine (fct_made (p0 h0) (π := fun i => ([] : List (Nat × Nat))[i]?) (vs := #[.int .i64 n, .int .i64 i]) hws hla).mono ?_
    rintro e w' ⟨c, π', lm', s1, rfl, hv, hw, hc, hb⟩
    have hS : sideL n i = [] := List.length_eq_zero_iff.1 (by rw [side_len]; exact h0)
    obtain ⟨b, m, cap', hp, rfl, hex⟩ := VR.slice_inv hv
    obtain ⟨cs, fz, g1, _⟩ := hw.at (new_at (R := sdR n i) hc) hp
    refine ⟨b, cap', by rw [hS]; rfl, heap_in g1, fun t ht => by rw [hS] at ht; simp at ht, hb⟩
  · refine (fct_made (p1 (.lit (depN n i)) 55 (by omega) trivial rfl hL) (π := fun i => ([] : List (Nat × Nat))[i]?) (vs := #[.int .i64 n, .int .i64 i]) hws hla).mono ?_
    rintro e w' ⟨c, π', lm', s1, rfl, hv, hw, hc, hb⟩
    obtain ⟨b, m, cap', cs, fz, rfl, _, _, _, g1, _, g3⟩ := made_sls hv hw hc
    have e1 : (SX.lit ((depN n i : Nat) : Int)).eval.toNat = (sideL n i).length := by rw [side_len]; rfl
    refine ⟨b, cap', by rw [e1], heap_in g1, fun t ht => ?_, hb⟩
    refine cell_of g1 ?_
    have := g3 t (by rw [hL.n]; exact ht)
    rw [hL.s, hL.v, Nat.zero_add] at this
    exact this
end Go.Proofs.Ytdenpaifjpmkgaa

/- SealMatchesReference: lists that are grown, roots, paths, as calls. -/
namespace Go.Proofs.Ytdenpaifjpmkgaa
open Go.Ev
open Go.RowKit
set_option maxRecDepth 100000
set_option linter.unusedVariables false
set_option linter.unusedSectionVars false

def GPost' (D : World → Nat → Nat → Prop) (n : Nat) (w : World) (e : Ending) (w' : World) : Prop := ∃ db dc, e = .returned (.slice (some ⟨db, 0, none⟩) n dc) ∧ D w' db dc ∧ Below w.heap.size w w'
/-- where the list stands -/
def Dn (G : List Int) (w : World) (db dc : Nat) : Prop := ∃ c, Stands w db 0 dc G c ∧ (1 ≤ G.length → c.size = dc)
theorem Dn.below {G : List Int} {w w' : World} {db dc : Nat} (h : Dn G w db dc) (hb : Below w.heap.size w w') : Dn G w' db dc := by
  obtain ⟨c, h1, h2⟩ := h
  obtain ⟨e, fz, h3⟩ := h1.blk
  exact ⟨c, ⟨h1.cap, ⟨e, fz, (hb.block _ (heap_in h3)).trans h3⟩, h1.cell, h1.u⟩, h2⟩
theorem GivenT.below {W w : World} {off cap : Nat} {l : List Int} {nl : Bool} {v : Value} (h : GivenT W off cap l nl v) (hb : Below W.heap.size W w) : GivenT w off cap l nl v := by
  cases h with
  | nil h => exact .nil h
  | «at» hS =>
    obtain ⟨e, fz, h3⟩ := hS.blk
    exact .at ⟨hS.cap, ⟨e, fz, (hb.block _ (heap_in h3)).trans h3⟩, hS.cell, hS.u⟩

/-- the input whose list has n digests, and the place i -/
def inp (l : List Int) (off cap n i : Nat) : InT := { m := 300, l := l, off := off, cap := cap, k0 := (n : Int) - 1, k1 := i, k2 := 0, v := 0 }
section
variable {l : List Int} {off cap n i : Nat} (hu : ∀ x ∈ l, u64 x) (h1 : 1 ≤ n) (h2 : n < 300) (hi : i < n)
include hu h1 h2 hi
theorem inp_ok : (inp l off cap n i).Ok := ⟨.inl rfl, hu, by show (0 : Int) ≤ (n : Int) - 1 ∧ (n : Int) - 1 ≤ 65535; omega, by show (0 : Int) ≤ (i : Int) ∧ (i : Int) ≤ 65535; omega, by show (0 : Int) ≤ 0 ∧ (0 : Int) ≤ 65535; omega, by show u64 0; unfold u64; omega⟩
omit hu hi in
theorem inp_n : (inp l off cap n i).n = n := by
  show 1 + (((n : Int) - 1) % 300).toNat = n
  rw [Int.emod_eq_of_lt (by omega) (by omega)]; omega
omit hu in
theorem inp_i : (inp l off cap n i).i = i := by
  show ((i : Int) % ((inp l off cap n i).n : Int)).toNat = i
  rw [inp_n h1 h2, Int.emod_eq_of_lt (by omega) (by omega)]; omega
omit hu hi in
theorem inp_G : (inp l off cap n i).G = grownL l n := by
  show grownL l (inp l off cap n i).n = _
  rw [inp_n h1 h2]
end

theorem grown_n {W : World} {l : List Int} {off cap n : Nat} {nl : Bool} {v0 : Value} (hu : ∀ x ∈ l, u64 x) (h1 : 1 ≤ n) (h2 : n < 300) (hl : l.length ≤ 9223372036854775807) (hv : GivenT W off cap l nl v0) :
    Calls Try.prog 10 #[v0, .int .i64 n] W (GPost' (Dn (grownL l n)) n W) := by
  let I := inp l off cap n 0
  have h : I.Ok := inp_ok hu h1 h2 (by omega)
  have hn : I.n = n := inp_n h1 h2
  have hG : I.G = grownL l n := inp_G h1 h2
  obtain ⟨a, ha, hnl⟩ := cls_of I nl (fun e => by subst e; cases hv with | nil hn => exact hn)
  obtain ⟨π, hw, hr⟩ := g_arg (I := I) h ha hl hv hnl
  letI := I.R
  have hF : @Fct.Holds I.R Try.prog 10 (gFct a 300) := grown_fct (t_grow h ha)
  have n0 : Is0 (nA 300) (.int .i64 n) := by have := t_nA h; rw [hn] at this; exact this
  have hr2 : VR π [] (gA 300) (.int .i64 n) := by
    have := vl0_rel (π := π) (lm := []) n0.l n0.f
    rw [n0.v] at this; exact this
  refine (fct_made hF (vs := #[v0, .int .i64 n]) hw (LR.cons hr (LR.cons hr2 LR.nil))).mono ?_
  rintro e w' ⟨c, π', lm', s1, rfl, hv', hw', hc, hb⟩
  obtain ⟨b, m, cap', cs, fz, rfl, g1, g2, _, g3, g4, g5⟩ := made_sls hv' hw' hc
  have eN : (gX 300).eval = (n : Int) := by have := t_nE h; rw [hn] at this; exact this
  have hL : LetL I.R 50 I.G := t_let (by omega) rfl
  have hGL : I.G.length = n := (t_GL h).trans hn
  rw [eN, Int.toNat_natCast] at g1 ⊢
  refine ⟨b, cap', rfl, ⟨cs, ⟨by rw [← hG, hGL]; exact g1, ⟨_, _, g3⟩, fun t ht => ?_, by rw [← hG]; exact t_Gu h⟩, fun _ => by rw [g4, g2]⟩, hb⟩
  rw [← hG] at ht ⊢
  have := g5 t (by rw [hL.n]; exact ht)
  rw [hL.s, hL.v] at this
  exact this

/-! ### none -/
noncomputable def g0A (a : Nat) : AV := match a with
  | 0 => .nilSlice
  | 1 => .sls 0 (.free 2) (.lit 0) (.free 1) true
  | _ => .sls 0 (.free 2) (.var 0 1 I63) (.free 1) true
noncomputable def g0F (a : Nat) : Fct := ⟨[g0A a, .int .i64 0], gOld a, .slice (gH a) 0 0 0 true 1, [gH a], [{ elem := 24, cells := [], ro := false }]⟩
theorem g0_run : ([0, 1, 2].all fun a => (g0F a).good && (g0F a).got ((@evF noKnow Try.prog noOrc 5000).call 10 (g0F a).args (g0F a).st)) = true := by kernel_rfl
@[reducible] def g0R (l : List Int) (off cap : Nat) : Rho := mkRho (fun j => if j = 0 then (l.length : Int) else if j = 1 then (cap : Int) else (off : Int)) (fun _ => (off, l))
theorem grown_0 {W : World} {l : List Int} {off cap : Nat} {nl : Bool} {v0 : Value} (hl : l.length ≤ 9223372036854775807) (hv : GivenT W off cap l nl v0) :
    Calls Try.prog 10 #[v0, .int .i64 ((0 : Nat) : Int)] W (GPost' (Dn []) 0 W) := by
  letI := g0R l off cap
  have hr := List.all_eq_true.1 g0_run
  have fin : ∀ (a : Nat) (π : Inj), a = 0 ∨ a = 1 ∨ a = 2 → WR W.heap.size π [] (g0F a).st W → VR π [] (g0A a) v0 → Calls Try.prog 10 #[v0, .int .i64 ((0 : Nat) : Int)] W (GPost' (Dn []) 0 W) := fun a π ha hw hv => by
    have hg := hr a (by rcases ha with rfl | rfl | rfl <;> simp)
    rw [Bool.and_eq_true] at hg
    have hF : (g0F a).Holds Try.prog 10 := @Fct.holds _ Try.prog noOrc noKnow noKnow_ok fit (noOrc_ok _) 5000 10 _ hg.1 hg.2
    refine (fct_made hF (vs := #[v0, .int .i64 ((0 : Nat) : Int)]) hw (LR.cons hv (LR.cons (.int _ _) LR.nil))).mono ?_
    rintro e w' ⟨c, π', lm', s1, rfl, hv', hw', hc, hb⟩
    obtain ⟨b, m, cap', hp, rfl, hex⟩ := VR.slice_inv hv'
    obtain ⟨cs, fz, g1, g2, _⟩ := hw'.at (new_at (R := g0R l off cap) hc) hp
    exact ⟨b, cap', rfl, ⟨cs, ⟨Nat.zero_le _, ⟨_, _, g1⟩, fun t ht => by simp at ht, fun x hx => by simp at hx⟩, fun h => by simp at h⟩, hb⟩
  cases hv with
  | nil hn => exact fin 0 (fun i => ([] : List (Nat × Nat))[i]?) (.inl rfl) (tree_rows (rs := []) rfl rfl [] rfl (fun i A h => by simp at h)) .nilSlice
  | @«at» b c hS =>
    obtain ⟨be, bfz, hblk⟩ := hS.blk
    have e1 : (SX.free 1).eval = (cap : Int) := mk_num (by omega)
    have e2 : (SX.free 2).eval = (off : Int) := mk_num (by omega)
    have e0 : Rho.ρ 0 = (l.length : Int) := mk_num (by omega)
    have hcap := hS.cap
    have hws : ∀ st : St, st.heap = [rowD 0].map some → st.loops = [] → WR W.heap.size (fun i => [(b, c.size)][i]?) [] st W := fun st q1 q2 => tree_rows (rs := [rowD 0]) q1 q2 _ rfl (fun i A hA => by
      match i, hA with
      | 0, hA => obtain rfl := Option.some.inj hA; exact ⟨rfl, rfl, b, c, be, bfz, rfl, hblk, stand_row hS (mk_skip (by omega)) (mk_len (by omega)) (fun i _ => mk_val (by omega) _ i)⟩)
    have key : ∀ len : SX, len.ok → len.eval = (l.length : Int) → VR (fun i => [(b, c.size)][i]?) [] (.sls 0 (.free 2) len (.free 1) true) (.slice (some ⟨b, off, none⟩) l.length cap) := fun len ho hle => by
      have so : SlOk (.free 2) len (.free 1) := ⟨trivial, ho, trivial, by rw [e2]; omega, by rw [hle]; omega, by rw [hle, e1]; omega⟩
      have hr := VR.slsEx (π := fun i => [(b, c.size)][i]?) (lm := []) (b := 0) (b' := b) (n := c.size) so rfl
      rw [hle, e1, e2, Int.toNat_natCast, Int.toNat_natCast, Int.toNat_natCast] at hr
      exact hr
    by_cases h0 : l.length = 0
    · exact fin 1 _ (.inr (.inl rfl)) (hws _ rfl rfl) (key (.lit 0) trivial (by rw [h0]; rfl))
    · exact fin 2 _ (.inr (.inr rfl)) (hws _ rfl rfl) (key (.var 0 1 I63) (by show (1 : Int) ≤ Rho.ρ 0 ∧ Rho.ρ 0 ≤ 9223372036854775807; rw [e0]; omega) e0)
theorem grownL_0 (l : List Int) : grownL l 0 = [] := List.length_eq_zero_iff.1 (grown_len l 0)
theorem grown10 {W : World} {l : List Int} {off cap n : Nat} {nl : Bool} {v0 : Value} (hu : ∀ x ∈ l, u64 x) (h2 : n < 300) (hl : l.length ≤ 9223372036854775807) (hv : GivenT W off cap l nl v0) (w : World) (hw : Below W.heap.size W w) :
    Calls Try.prog 10 #[v0, .int .i64 n] w (GPost' (Dn (grownL l n)) n w) := by
  rcases Nat.eq_zero_or_pos n with h0 | h0
  · subst h0; rw [grownL_0]; exact grown_0 hl (hv.below hw)
  · exact grown_n hu h0 h2 hl (hv.below hw)

/-! ### roots -/
theorem root23 {G : List Int} {w1 w : World} {db dc n : Nat} (hn : G.length = n) (h1 : 1 ≤ n) (h2 : n < 300) (hD : Dn G w1 db dc) (hw : Below w1.heap.size w1 w) : Calls Try.prog 23 #[.slice (some ⟨db, 0, none⟩) n dc] w fun e w' => e = .returned (.int .u64 (rootL G)) ∧ Below w.heap.size w w' := by
  obtain ⟨c, hS, _⟩ := hD.below hw
  have := root_c n (by omega) G hn h1 w db 0 dc c hS
  rw [hn] at this; exact this
theorem root24 {G : List Int} {w1 w : World} {db dc n : Nat} (hn : G.length = n) (h1 : 1 ≤ n) (h2 : n < 300) (hD : Dn G w1 db dc) (hw : Below w1.heap.size w1 w) : Calls Try.prog 24 #[.slice (some ⟨db, 0, none⟩) n dc] w fun e w' => e = .returned (.int .u64 (rootL G)) ∧ Below w.heap.size w w' := by
  obtain ⟨c, hS, _⟩ := hD.below hw
  have := rroot_c n (by omega) G hn h1 w db 0 dc c hS
  rw [hn] at this; exact this

/-! ### paths -/
section
variable {l : List Int} {off cap n i : Nat} (hu : ∀ x ∈ l, u64 x) (h1 : 1 ≤ n) (h2 : n < 300) (hi : i < n)
/-- the list's row, and the slice -/
theorem d_row {w : World} {db dc : Nat} (hD : Dn (grownL l n) w db dc) (hu : ∀ x ∈ l, u64 x) (h1 : 1 ≤ n) (h2 : n < 300) (hi : i < n) : ∃ π : Inj, (∀ st : St, st.heap = [rowD 50].map some → st.loops = [] → @WR (inp l off cap n i).R w.heap.size π [] st w) ∧
    @VR (inp l off cap n i).R π [] (gSl 300 0) (.slice (some ⟨db, 0, none⟩) n dc) := by
  let I := inp l off cap n i
  have h : I.Ok := inp_ok hu h1 h2 hi
  have hn : I.n = n := inp_n h1 h2
  have hG : I.G = grownL l n := inp_G h1 h2
  letI := I.R
  obtain ⟨c, hS, hsz⟩ := hD
  obtain ⟨be, bfz, hblk⟩ := hS.blk
  rw [← hG] at hS hsz
  have hGL : I.G.length = n := (t_GL h).trans hn
  have hL : LetL I.R 50 I.G := t_let (by omega) rfl
  have eN : (gX 300).eval = (n : Int) := by have := t_nE h; rw [hn] at this; exact this
  refine ⟨fun i => [(db, c.size)][i]?, fun st q1 q2 => tree_rows (rs := [rowD 50]) q1 q2 _ rfl (fun i A hA => by
      match i, hA with
      | 0, hA => obtain rfl := Option.some.inj hA; exact ⟨rfl, rfl, db, c, be, bfz, rfl, hblk, stand_row hS hL.s hL.n (fun i _ => hL.v i)⟩), ?_⟩
  have so : SlOk (.lit 0) (gX 300) (gX 300) := ⟨trivial, t_nOk h, t_nOk h, Int.le_refl _, by rw [eN]; omega, Int.le_refl _⟩
  have hcap := hS.cap
  have := VR.slsIn (π := fun i => [(db, c.size)][i]?) (lm := []) (b := 0) (b' := db) (n := c.size) (cap' := dc) so rfl (by rw [eN]; omega) (by rw [hsz (by omega)]; show 0 + dc * 1 = dc; omega)
  rw [eN] at this
  exact this
end

/-- a slice that reads as this list -/
def Vp (L : List Int) (B : Nat) (w : World) (v : Value) : Prop := (L = [] ∧ ∃ a cap, v = .slice a 0 cap) ∨ (∃ b off cap, B ≤ b ∧ v = .slice (some ⟨b, off, none⟩) L.length cap ∧ b < w.heap.size ∧ ∀ t, t < L.length → w.cell? ⟨b, off + t, none⟩ = some (.int .u64 (L.getD t 0)))
theorem Vp.below {L : List Int} {B : Nat} {w w' : World} {v : Value} (h : Vp L B w v) (hb : Below w.heap.size w w') : Vp L B w' v := by
  rcases h with h | ⟨b, off, cap, h0, h1, h2, h3⟩
  · exact .inl h
  · exact .inr ⟨b, off, cap, h0, h1, Nat.lt_of_lt_of_le h2 hb.size, fun t ht => (hb.cell h2).trans (h3 t ht)⟩
def TPost (L : List Int) (w : World) (e : Ending) (w' : World) : Prop := ∃ a len cap, e = .returned (.tuple #[.slice a len cap, .int .i64 0]) ∧ Vp L w.heap.size w' (.slice a len cap) ∧ Below w.heap.size w w'
def SPost (L : List Int) (w : World) (e : Ending) (w' : World) : Prop := ∃ a len cap, e = .returned (.slice a len cap) ∧ Vp L w.heap.size w' (.slice a len cap) ∧ Below w.heap.size w w'

theorem tup2 {R : Rho} {π : Inj} {lm : List Nat} {x y : AV} {c : Value} (h : @VR R π lm (.tup [x, y]) c) : ∃ c1 c2, c = .tuple #[c1, c2] ∧ @VR R π lm x c1 ∧ @VR R π lm y c2 := by
  letI := R
  cases h with
  | tup s hl =>
    rename_i a
    have hlr : LR π lm [x, y] a.toList := ⟨s, hl⟩
    obtain ⟨c1, l1, e1, r1, t1⟩ := hlr.uncons
    obtain ⟨c2, l2, e2, r2, t2⟩ := t1.uncons
    obtain rfl := t2.nil_inv
    subst e2
    exact ⟨c1, c2, by rw [← Array.toList_inj.1 (show a.toList = (#[c1, c2] : Array Value).toList from e1)], r1, r2⟩

theorem open40 {l : List Int} {off cap n i : Nat} (hu : ∀ x ∈ l, u64 x) (h1 : 1 ≤ n) (h2 : n < 300) (hi : i < n) {w : World} {db dc : Nat} (hD : Dn (grownL l n) w db dc) :
    Calls Try.prog 40 #[.slice (some ⟨db, 0, none⟩) n dc, .int .i64 i] w (TPost (pathL (grownL l n) i) w) := by
  obtain ⟨π, hw, hr⟩ := d_row (off := off) (cap := cap) hD hu h1 h2 hi
  let I := inp l off cap n i
  have h : I.Ok := inp_ok hu h1 h2 hi
  have hn : I.n = n := inp_n h1 h2
  have hi' : I.i = i := inp_i h1 h2 hi
  have hG : I.G = grownL l n := inp_G h1 h2
  letI := I.R
  have hF : @Fct.Holds I.R Try.prog 40 (oFct 300 50 I.d) := t_open h (.inl rfl)
  have hPL := t_PL h
  have hd := t_d h
  have hP : pathL (grownL l n) i = I.P := by rw [← hG, ← hi']; rfl
  have i0 : Is0 (iA 300) (.int .i64 i) := by have := t_iA h; rw [hi'] at this; exact this
  have hr2 : VR π [] (iA 300) (.int .i64 i) := by
    have := vl0_rel (π := π) (lm := []) i0.l i0.f
    rw [i0.v] at this; exact this
  have hla : LR π [] [gSl 300 0, iA 300] [.slice (some ⟨db, 0, none⟩) n dc, .int .i64 i] := LR.cons hr (LR.cons hr2 LR.nil)
  obtain ⟨c1, c2, c3⟩ := t_cells h hd
  rw [hP]
  generalize I.d = d at *
  cases d with
  | zero =>
    refine (fct_made hF (vs := #[.slice (some ⟨db, 0, none⟩) n dc, .int .i64 i]) (hw _ rfl rfl) hla).mono ?_
    rintro e w' ⟨c, π', lm', s1, rfl, hv', hw', hc, hb⟩
    obtain ⟨x, y, rfl, r1, r2⟩ := tup2 hv'
    cases r1
    cases r2
    exact ⟨none, 0, 0, rfl, .inl ⟨List.length_eq_zero_iff.1 hPL, none, 0, rfl⟩, hb⟩
  | succ d =>
    refine (fct_made hF (vs := #[.slice (some ⟨db, 0, none⟩) n dc, .int .i64 i]) (hw _ rfl rfl) hla).mono ?_
    rintro e w' ⟨c, π', lm', s1, rfl, hv', hw', hc, hb⟩
    obtain ⟨x, y, rfl, r1, r2⟩ := tup2 hv'
    cases r2
    obtain ⟨b, m, cap', hp, rfl, hex⟩ := VR.slice_inv r1
    obtain ⟨cs, fz, g1, g2, g3, g4, _⟩ := hw'.at (new_at (R := I.R) hc) hp
    refine ⟨_, _, _, rfl, .inr ⟨b, 0, cap', (g3 rfl).2, by rw [hPL], heap_in g1, fun t ht => ?_⟩, hb⟩
    rw [Nat.zero_add]
    refine cell_of g1 ?_
    have hlen : (cells4 (d + 1)).length = d + 1 := c2
    have ht' : t < (cells4 (d + 1)).length := by omega
    have g4' : LR π' lm' (cells4 (d + 1)) (cs.toList.take (cells4 (d + 1)).length) := g4
    have hq := g4'.1
    have hr := g4'.2 t ht' (by omega)
    have := vl0_eq (List.all_eq_true.1 c1 _ (List.getElem_mem _)) hr
    rw [c3 t ht'] at this
    rw [← this, List.getElem_take, ← Array.getElem?_toList]
    exact List.getElem?_eq_getElem _

theorem path41 {l : List Int} {off cap n i : Nat} (hu : ∀ x ∈ l, u64 x) (h1 : 1 ≤ n) (h2 : n < 300) (hi : i < n) {w : World} {db dc : Nat} (hD : Dn (grownL l n) w db dc) :
    Calls Try.prog 41 #[.slice (some ⟨db, 0, none⟩) n dc, .int .i64 i] w (SPost (pathL (grownL l n) i) w) := by
  obtain ⟨π, hw, hr⟩ := d_row (off := off) (cap := cap) hD hu h1 h2 hi
  let I := inp l off cap n i
  have h : I.Ok := inp_ok hu h1 h2 hi
  have hn : I.n = n := inp_n h1 h2
  have hi' : I.i = i := inp_i h1 h2 hi
  have hG : I.G = grownL l n := inp_G h1 h2
  letI := I.R
  have hL : LetL I.R 50 I.G := t_let (by omega) rfl
  have hL54 : LetL I.R 54 I.P := t_let (by omega) rfl
  have hPL := t_PL h
  have hGL : I.G.length = n := (t_GL h).trans hn
  have hP : pathL (grownL l n) i = I.P := by rw [← hG, ← hi']; rfl
  have eN : (gX 300).eval = (n : Int) := by have := t_nE h; rw [hn] at this; exact this
  have i0 : Is0 (iA 300) (.int .i64 i) := by have := t_iA h; rw [hi'] at this; exact this
  have hr2 : VR π [] (iA 300) (.int .i64 i) := by
    have := vl0_rel (π := π) (lm := []) i0.l i0.f
    rw [i0.v] at this; exact this
  have hla : LR π [] [gSl 300 0, iA 300] [.slice (some ⟨db, 0, none⟩) n dc, .int .i64 i] := LR.cons hr (LR.cons hr2 LR.nil)
  obtain ⟨p0, p1⟩ := rpath_ok n i h1 (by omega) hi I.R I.G 0 0 (.lit 0) (gX 300) (gX 300) (iA 300) (hL.rowOk (t_Gu h)) (by omega) rfl eN i0
  have hs : sub I.G 0 n = I.G := by rw [← hGL]; exact sub_all I.G
  have hdd : depN n i = I.d := by show _ = depN I.n I.i; rw [hn, hi']
  rw [hP]
  by_cases h0 : depN n i = 0
  · refine (fct_made (p0 h0) (vs := #[.slice (some ⟨db, 0, none⟩) n dc, .int .i64 i]) (hw _ rfl rfl) hla).mono ?_
    rintro e w' ⟨c, π', lm', s1, rfl, hv', hw', hc, hb⟩
    obtain ⟨b, m, cap', hp, rfl, hex⟩ := VR.slice_inv hv'
    exact ⟨_, _, _, rfl, .inl ⟨List.length_eq_zero_iff.1 (by rw [hPL, ← hdd, h0]), _, _, rfl⟩, hb⟩
  · refine (fct_made (p1 (.lit ((depN n i : Nat) : Int)) 54 (by omega) trivial rfl (by rw [hs]; have := hL54; rw [← hP, ← hG] at this; exact this)) (vs := #[.slice (some ⟨db, 0, none⟩) n dc, .int .i64 i]) (hw _ rfl rfl) hla).mono ?_
    rintro e w' ⟨c, π', lm', s1, rfl, hv', hw', hc, hb⟩
    obtain ⟨b, m, cap', cs, fz, rfl, _, _, hbB, g1, _, g3⟩ := made_sls hv' hw' hc
    have e1 : (SX.lit ((depN n i : Nat) : Int)).eval.toNat = I.P.length := by rw [hPL, ← hdd]; rfl
    refine ⟨_, _, _, rfl, .inr ⟨b, 0, cap', hbB, by rw [e1], heap_in g1, fun t ht => ?_⟩, hb⟩
    rw [Nat.zero_add]
    refine cell_of g1 ?_
    have := g3 t (by rw [hL54.n]; exact ht)
    rw [hL54.s, hL54.v, Nat.zero_add] at this
    exact this
end Go.Proofs.Ytdenpaifjpmkgaa
