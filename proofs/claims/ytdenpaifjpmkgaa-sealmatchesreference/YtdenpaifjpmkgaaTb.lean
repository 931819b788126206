/- Trees of digests: what Root answers. -/
import Derived.Test.YtdenpaifjpmkgaaEvN9
import Derived.Test.YtdenpaifjpmkgaaTa
namespace Go.Proofs.Ytdenpaifjpmkgaa
open Go.Ev
open Go.RowKit (Below)
set_option maxRecDepth 100000
set_option linter.unusedVariables false
set_option linter.unusedSectionVars false

abbrev dA (i : Nat) : AV := .sym .u64 (.var i 0 MU) 0 MU
abbrev dX (i : Nat) : SX := .var i 0 MU
abbrev rowD (k : Nat) : ABlk := { elem := 24, cells := [], ro := true, tl := some (k, .int .u64) }
noncomputable abbrev pw (j : Nat) : Int := ((2 ^ j : Nat) : Int)
noncomputable abbrev lenX (j : Nat) : SX := .var 100 (pw j + 1) (pw (j + 1))
noncomputable abbrev jnX (a b : SX) : SX := stepX (stepX (.lit J0) a) b
theorem jnX_eval [Rho] (a b : SX) : (jnX a b).eval = joinI a.eval b.eval := by simp only [jnX, stepX_eval]; rfl

/-- rows that are only read -/
theorem tree_rows {R : Rho} {W : World} {s : St} {rs : List ABlk} (hh : s.heap = rs.map some) (hl : s.loops = []) (bl : List (Nat × Nat)) (hlen : bl.length = rs.length)
    (h : ∀ (i : Nat) (A : ABlk), rs[i]? = some A → A.ro = true ∧ A.cells = [] ∧ ∃ (b : Nat) (c : Array Value) (e : TypeId) (fz : Nat × Nat), bl[i]? = some (b, c.size) ∧ W.heap[b]? = some (Obj.cells c e fz) ∧ @TailOk R A c) : @WR R W.heap.size (fun i => bl[i]?) [] s W := by
  have key : ∀ (i : Nat) (A : ABlk), s.heap[i]? = some (some A) → rs[i]? = some A := fun i A hA => by
    rw [hh, List.getElem?_map] at hA
    cases hr : rs[i]? with
    | none => rw [hr] at hA; cases hA
    | some B => rw [hr] at hA; exact congrArg some (Option.some.inj (Option.some.inj hA))
  exact {
    dom := fun i x hx => by
      have := (List.getElem?_eq_some_iff.1 hx).1
      rw [hh, List.length_map]; omega
    blk := fun i A hA => by
      obtain ⟨h1, h2, b, c, e, fz, h3, h4, h5⟩ := h i A (key i A hA)
      refine ⟨b, c.size, c, (e, fz), h3, h4, rfl, fun hr => ?_, ?_, h5⟩
      · rw [h1] at hr; cases hr
      · rw [h2]; exact LR.nil
    inj := fun i j A A' b n m h1 h2 h3 _ _ => by
      rw [(h i A (key i A h1)).1] at h3; cases h3
    lsz := by rw [hl]; rfl
    linj := fun l l' L h => by simp at h
    loop := fun l r h => by rw [hl] at h; cases h }

/-- where a list of digests stands -/
structure Stands (W : World) (b off cap : Nat) (l : List Int) (c : Array Value) : Prop where
  cap : l.length ≤ cap
  blk : ∃ e fz, W.heap[b]? = some (.cells c e fz)
  cell : ∀ i, i < l.length → c[off + i]? = some (.int .u64 (l.getD i 0))
  u : ∀ x ∈ l, u64 x

theorem stand_row {R : Rho} {W : World} {b off cap k : Nat} {l : List Int} {c : Array Value} (h : Stands W b off cap l c) (h1 : @lskip R k = off) (h2 : @llen R k = l.length) (h3 : ∀ i, i < l.length → @lval R k (.int .u64) i = .int .u64 (l.getD i 0)) : @TailOk R (rowD k) c := by
  intro k' d' hk i hi
  simp only [Option.some.injEq, Prod.mk.injEq] at hk
  obtain ⟨rfl, rfl⟩ := hk
  rw [h2] at hi
  rw [h1, h3 i hi]
  exact h.cell i hi

/-- the list's part that stands further on -/
theorem Stands.part {W : World} {b off cap : Nat} {l m : List Int} {c : Array Value} (h : Stands W b off cap l c) {o : Nat} {cap' : Nat} (hm : ∀ i, i < m.length → o + i < l.length ∧ m.getD i 0 = l.getD (o + i) 0) (hc : m.length ≤ cap') : Stands W b (off + o) cap' m c where
  cap := hc
  blk := h.blk
  cell := fun i hi => by
    obtain ⟨a, b⟩ := hm i hi
    rw [b, ← h.cell (o + i) a, Nat.add_assoc]
  u := fun x hx => by
    obtain ⟨i, hi, rfl⟩ := List.getElem_of_mem hx
    obtain ⟨a, b⟩ := hm i hi
    have : m.getD i 0 = m[i] := by simp [List.getD, hi]
    rw [← this, b]
    exact getD_u64 h.u _

def RootC (l : List Int) : Prop := ∀ (W : World) (b off cap : Nat) (c : Array Value), Stands W b off cap l c →
  Calls Try.prog 23 #[.slice (some ⟨b, off, none⟩) l.length cap] W fun e W' => e = .returned (.int .u64 (rootL l)) ∧ Below W.heap.size W W'

theorem dig_val {R : Rho} {n : Nat} {v : Int} (hn : @Rho.ρ R n = v) (hu : u64 v) : (dA n).lone = true ∧ @AV.vl0 R (dA n) = .int .u64 v ∧ @AV.fine0 R (dA n) := by
  refine ⟨rfl, ?_, ?_⟩
  · show Value.int .u64 (@Rho.ρ R n) = _
    rw [hn]
  · show ((0 : Int) ≤ @Rho.ρ R n ∧ @Rho.ρ R n ≤ MU) ∧ (0 : Int) ≤ @Rho.ρ R n ∧ @Rho.ρ R n ≤ MU
    rw [hn]; exact ⟨hu, hu⟩

/-- a slice of digests as an argument: what it stands for -/
theorem sls_stands {R : Rho} {l : List Int} {B : Nat} {off len cap : SX} {ex : Bool} {k i : Nat} {π : Inj} {s : St} {w : World} {A : ABlk} {v : Value} (hw : @WR R B π [] s w) (hA : s.heap[i]? = some (some A)) (hAt : A.tl = some (k, .int .u64)) (r : @VR R π [] (.sls i off len cap ex) v)
    (hlen : @SX.eval R len = (l.length : Int)) (h1 : @lskip R k ≤ (@SX.eval R off).toNat) (h2 : (@SX.eval R off).toNat + l.length ≤ @lskip R k + @llen R k)
    (hv : ∀ j, j < l.length → @lval R k (.int .u64) ((@SX.eval R off).toNat - @lskip R k + j) = .int .u64 (l.getD j 0)) (hu : ∀ x ∈ l, u64 x) :
    ∃ b cap' c, v = .slice (some ⟨b, (@SX.eval R off).toNat, none⟩) l.length cap' ∧ Stands w b (@SX.eval R off).toNat cap' l c := by
  letI := R
  obtain ⟨so, b', n, cap', hp, rfl, hex⟩ := VR.sls_inv r
  obtain ⟨cs, fz, g1, g2, _, _, g4⟩ := hw.at hA hp
  have n3 := so.n3
  have n2 := so.n2
  have e1 : len.eval.toNat = l.length := by omega
  refine ⟨b', cap', cs, by rw [e1], ⟨by rcases hex with ⟨_, h⟩ | ⟨_, h, _⟩ <;> omega, ⟨_, _, g1⟩, fun j hj => ?_, hu⟩⟩
  rw [show off.eval.toNat + j = lskip k + (off.eval.toNat - lskip k + j) by omega, g4 k (.int .u64) hAt _ (by omega)]
  rw [hv j hj]

theorem root_fct {R : Rho} {l : List Int} (hc : RootC l) (hu : ∀ x ∈ l, u64 x) {off len cap : SX} {ex : Bool} {k : Nat} {v : AV} (hlen : @SX.eval R len = (l.length : Int)) (h1 : @lskip R k ≤ (@SX.eval R off).toNat) (h2 : (@SX.eval R off).toNat + l.length ≤ @lskip R k + @llen R k)
    (hv : ∀ i, i < l.length → @lval R k (.int .u64) ((@SX.eval R off).toNat - @lskip R k + i) = .int .u64 (l.getD i 0)) (v1 : v.lone = true) (v2 : @AV.vl0 R v = .int .u64 (rootL l)) (v3 : @AV.fine0 R v) :
    @Fct.Holds R Try.prog 23 (Fct.mk [.sls 0 off len cap ex] [rowD k] v [] []) := by
  letI := R
  refine fct_of rfl rfl ?_ (lone_flat v1) (lone_fine v1 v3) (by kernel_rfl) (fun π w vs hw hr => ?_)
  · show (true && ((true && true) && (all2 _ v && (true && (true && true))))) = true
    rw [lone_all2 v1]; rfl
  · obtain ⟨c, ws, hvs, r1, r2⟩ := LR.uncons hr
    obtain rfl := r2.nil_inv
    obtain rfl : vs = #[c] := by rw [← Array.toList_inj, hvs]
    obtain ⟨b, cap', cs, rfl, st⟩ := sls_stands hw (i := 0) rfl rfl r1 hlen h1 h2 hv hu
    refine (hc w b _ cap' cs st).mono ?_
    rintro e W' ⟨he, hb⟩
    refine ⟨?_, hb⟩
    rw [he, lone_vl v1, v2]

/-! ### one level -/
noncomputable def fctR (j : Nat) : Fct := ⟨[.sls 0 (.free 102) (lenX j) (.free 101) true], [rowD 0], .sym .u64 (jnX (dX 41) (dX 42)) 0 MU, [], []⟩
noncomputable def rtL (j : Nat) : Fct := ⟨[.sls 0 (.free 102) (.lit (pw j)) (.free 101) true], [rowD 0], dA 41, [], []⟩
noncomputable def rtR (j : Nat) : Fct := ⟨[.sls 0 (.bin .add (.free 102) (.lit (pw j))) (.bin .sub (lenX j) (.lit (pw j))) (.bin .sub (.free 101) (.lit (pw j))) true], [rowD 0], dA 42, [], []⟩
noncomputable def tabR (j : Nat) : KTab := { cmps := [(.lss, .lit (pw j), .free 101, true)] }
noncomputable def gotR (j : Nat) : Bool := (fctR j).good && (fctR j).got ((@evF (tabR j).know Try.prog (orcOf [(23, [rtL j, rtR j])]) 5000).call 23 (fctR j).args (fctR j).st)
theorem gotR_all : (List.range 9).all gotR = true := by kernel_rfl
noncomputable def fctR1 : Fct := ⟨[.sls 0 (.free 102) (.lit 1) (.free 101) true], [rowD 0], dA 43, [], []⟩
noncomputable def tabR1 : KTab := { cells := [(0, .int .u64, .free 102, dA 43)] }
theorem gotR1 : (fctR1.good && fctR1.got ((@evF tabR1.know Try.prog noOrc 5000).call 23 fctR1.args fctR1.st)) = true := by kernel_rfl

def numR (l : List Int) (off cap : Nat) (i : Nat) : Int :=
  if i = 100 then l.length else if i = 101 then cap else if i = 102 then off else if i = 41 then rootL (l.take (hf l.length)) else if i = 42 then rootL (l.drop (hf l.length)) else if i = 43 then l.getD 0 0 else 0
@[reducible] def rR (l : List Int) (off cap : Nat) : Rho := mkRho (numR l off cap) (fun _ => (off, l))

section
variable {l : List Int} {off cap : Nat}
theorem rR_row {W : World} {b : Nat} {c : Array Value} (h : Stands W b off cap l c) : @TailOk (rR l off cap) (rowD 0) c :=
  stand_row h (mk_skip (by omega)) (mk_len (by omega)) (fun i _ => mk_val (by omega) _ i)
theorem e100 : @Rho.ρ (rR l off cap) 100 = (l.length : Int) := mk_num (by omega)
theorem e101 : @SX.eval (rR l off cap) (.free 101) = (cap : Int) := mk_num (by omega)
theorem e102 : @SX.eval (rR l off cap) (.free 102) = (off : Int) := mk_num (by omega)
end

theorem root_c : ∀ (n : Nat), n ≤ 512 → ∀ l : List Int, l.length = n → 1 ≤ n → RootC l := by
  intro n
  induction n using Nat.strongRecOn with
  | ind n ih =>
    intro hn l hl h1 W b off cap c st
    have hskip : @lskip (rR l off cap) 0 = off := mk_skip (by omega)
    have hllen : @llen (rR l off cap) 0 = l.length := mk_len (by omega)
    obtain ⟨be, bfz, hblk⟩ := st.blk
    have key : ∀ (F : Fct) (len : SX), @Fct.Holds (rR l off cap) Try.prog 23 F → F.args = [.sls 0 (.free 102) len (.free 101) true] → F.old = [rowD 0] → F.v.flat = true → @SX.ok (rR l off cap) len → @SX.eval (rR l off cap) len = (l.length : Int) → @AV.vl (rR l off cap) F.v = .int .u64 (rootL l) →
        Calls Try.prog 23 #[.slice (some ⟨b, off, none⟩) l.length cap] W fun e W' => e = .returned (.int .u64 (rootL l)) ∧ Below W.heap.size W W' := by
      intro F len hF ha ho hfl hlo hle hv
      letI := rR l off cap
      have hw : WR W.heap.size (fun i => [(b, c.size)][i]?) [] F.st W := tree_rows (rs := [rowD 0]) (by simp [Fct.st, ho]) rfl _ rfl (fun i A hA => by
        match i, hA with
        | 0, hA => obtain rfl := Option.some.inj hA; exact ⟨rfl, rfl, b, c, be, bfz, rfl, hblk, rR_row st⟩)
      have so : SlOk (.free 102) len (.free 101) := ⟨trivial, hlo, trivial, by rw [e102]; omega, by rw [hle]; omega, by rw [hle, e101]; have := st.cap; omega⟩
      have hr := VR.slsEx (π := fun i => [(b, c.size)][i]?) (lm := []) (b := 0) (b' := b) (n := c.size) so rfl
      rw [hle, e101, e102] at hr
      have := Fct.calls hF hfl hw (vs := #[.slice (some ⟨b, off, none⟩) l.length cap]) (by rw [ha]; exact LR.cons (by simpa using hr) LR.nil)
      refine this.mono ?_
      rintro e W' ⟨rfl, hb⟩
      exact ⟨by rw [hv], hb⟩
    by_cases h2 : n < 2
    · -- one digest
      have hr := gotR1
      rw [Bool.and_eq_true] at hr
      have hk : @KnowOk (rR l off cap) tabR1.know := by
        refine KTab.ok { cells := ?_ }
        intro x hx _
        obtain rfl := List.mem_singleton.1 hx
        have g : @lel (rR l off cap) 0 0 = l.getD 0 0 := mk_el (by omega) 0
        have hu := getD_u64 st.u 0
        exact cell_i64 (i := 0) (by rw [hskip, e102]; rfl) (by rw [hllen]; omega) (by rw [g]; exact mk_num (by omega)) (by rw [g]; exact hu.1) (by rw [g]; exact hu.2)
      have hF : @Fct.Holds (rR l off cap) Try.prog 23 fctR1 := by
        letI := rR l off cap
        exact @Fct.holds (rR l off cap) Try.prog noOrc tabR1.know hk fit (noOrc_ok _) 5000 23 fctR1 hr.1 hr.2
      refine key fctR1 (.lit 1) hF rfl rfl rfl trivial (by show (1 : Int) = _; omega) ?_
      show Value.int .u64 (@Rho.ρ (rR l off cap) 43) = _
      rw [mk_num (by omega), rootL_1 (by omega)]; rfl
    · obtain ⟨j, hj, hj1, hj2, hj3⟩ := hf_class (show 2 ≤ n by omega) hn
      have hb := hf_bd (show 2 ≤ n by omega)
      have hr : gotR j = true := List.all_eq_true.1 gotR_all j (List.mem_range.2 hj)
      unfold gotR at hr
      rw [Bool.and_eq_true] at hr
      have hcap := st.cap
      subst hl
      have hk : @KnowOk (rR l off cap) (tabR j).know := by
        refine KTab.ok { cmps := ?_ }
        intro x hx
        obtain rfl := List.mem_singleton.1 hx
        refine ⟨by simp [cmpNo], fun _ _ => ?_⟩
        show some (decide (((2 ^ j : Nat) : Int) < @SX.eval (rR l off cap) (.free 101))) = some true
        rw [e101]; simp only [Option.some.injEq, decide_eq_true_eq]; omega
      have lT : (l.take (hf l.length)).length = hf l.length := by simp; omega
      have lD : (l.drop (hf l.length)).length = l.length - hf l.length := by simp
      have uT : ∀ x ∈ l.take (hf l.length), u64 x := fun x hx => st.u x (List.mem_of_mem_take hx)
      have uD : ∀ x ∈ l.drop (hf l.length), u64 x := fun x hx => st.u x (List.mem_of_mem_drop hx)
      have hF : @Fct.Holds (rR l off cap) Try.prog 23 (fctR j) := by
        letI := rR l off cap
        have hlen : (lenX j).eval = (l.length : Int) := e100
        have ew : pw j = ((hf l.length : Nat) : Int) := by rw [hj3]
        refine @Fct.holds (rR l off cap) Try.prog (orcOf [(23, [rtL j, rtR j])]) (tabR j).know hk fit (orcOf_ok ⟨fun F hF => ?_, trivial⟩) 5000 23 (fctR j) hr.1 hr.2
        rcases List.mem_cons.1 hF with rfl | hF
        · obtain ⟨v1, v2, v3⟩ := dig_val (R := rR l off cap) (n := 41) (v := rootL (l.take (hf l.length))) (mk_num (by omega)) (rootL_u64 uT)
          refine root_fct (l := l.take (hf l.length)) (ih (hf l.length) hb.2.1 (by omega) _ lT hb.1) uT (by rw [lT]; exact ew) (by rw [e102, hskip]; simp) (by rw [e102, hskip, hllen, lT]; simp; omega) (fun i hi => ?_) v1 v2 v3
          rw [lT] at hi
          rw [e102, hskip, mk_val (by omega)]
          show Value.int .u64 (l.getD _ 0) = _
          simp [List.getD, List.getElem?_take_of_lt hi]
        · obtain rfl := List.mem_singleton.1 hF
          obtain ⟨v1, v2, v3⟩ := dig_val (R := rR l off cap) (n := 42) (v := rootL (l.drop (hf l.length))) (mk_num (by omega)) (rootL_u64 uD)
          have eo : (SX.bin .add (.free 102) (.lit (pw j))).eval = ((off + hf l.length : Nat) : Int) := by
            show (SX.free 102).eval + pw j = _
            rw [e102, ew]; omega
          refine root_fct (l := l.drop (hf l.length)) (ih (l.length - hf l.length) (by omega) (by omega) _ lD (by omega)) uD (by rw [lD]; show (lenX j).eval - pw j = _; rw [hlen, ew]; omega) (by rw [eo, hskip]; omega) (by rw [eo, hskip, hllen, lD]; omega) (fun i hi => ?_) v1 v2 v3
          rw [eo, hskip, mk_val (by omega)]
          show Value.int .u64 (l.getD _ 0) = _
          rw [show ((off + hf l.length : Nat) : Int).toNat - off + i = hf l.length + i by omega]
          simp [List.getD]
      refine key (fctR j) (lenX j) hF rfl rfl rfl ?_ e100 ?_
      · show pw j + 1 ≤ @Rho.ρ (rR l off cap) 100 ∧ @Rho.ρ (rR l off cap) 100 ≤ pw (j + 1)
        rw [e100]
        exact ⟨by show ((2 ^ j : Nat) : Int) + 1 ≤ _; exact_mod_cast hj1, by show _ ≤ ((2 ^ (j + 1) : Nat) : Int); exact_mod_cast hj2⟩
      · show Value.int .u64 (@SX.eval (rR l off cap) (jnX (dX 41) (dX 42))) = _
        rw [@jnX_eval (rR l off cap), rootL_2 (l := l) (by omega)]
        rw [show @SX.eval (rR l off cap) (dX 41) = rootL (l.take (hf l.length)) from mk_num (by omega), show @SX.eval (rR l off cap) (dX 42) = rootL (l.drop (hf l.length)) from mk_num (by omega)]
end Go.Proofs.Ytdenpaifjpmkgaa
