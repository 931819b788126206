/- Trees of digests: what climb answers. -/
import Derived.Test.YtdenpaifjpmkgaaTb
namespace Go.Proofs.Ytdenpaifjpmkgaa
open Go.Ev
open Go.RowKit (Below)
set_option maxRecDepth 100000
set_option linter.unusedVariables false
set_option linter.unusedSectionVars false

/-- an abstract value without memory, and what it stands for -/
structure Is0 [Rho] (x : AV) (c : Value) : Prop where
  l : x.lone = true
  v : x.vl0 = c
  f : x.fine0
theorem Is0.int [Rho] (k : IntKind) (n : Int) : Is0 (.int k n) (.int k n) := ⟨rfl, rfl, trivial⟩
theorem Is0.bool [Rho] (b : Bool) : Is0 (.bool b) (.bool b) := ⟨rfl, rfl, trivial⟩
theorem Is0.sym [Rho] {k : IntKind} {e : SX} {lo hi n : Int} (he : e.ok) (hn : e.eval = n) (h1 : lo ≤ n) (h2 : n ≤ hi) : Is0 (.sym k e lo hi) (.int k n) :=
  ⟨rfl, by show Value.int k e.eval = _; rw [hn], ⟨he, by rw [hn]; exact h1, by rw [hn]; exact h2⟩⟩
theorem Is0.var [Rho] {k : IntKind} {i : Nat} {lo hi n : Int} (hn : Rho.ρ i = n) (h1 : lo ≤ n) (h2 : n ≤ hi) : Is0 (.sym k (.var i lo hi) lo hi) (.int k n) :=
  .sym (by show lo ≤ Rho.ρ i ∧ Rho.ρ i ≤ hi; rw [hn]; exact ⟨h1, h2⟩) hn h1 h2
theorem Is0.made [Rho] {k : IntKind} {e : SX} {lo hi n : Int} (he : e.ok) (hn : e.eval = n) (h1 : lo ≤ n) (h2 : n ≤ hi) : Is0 (mkA k e lo hi) (.int k n) := by
  unfold mkA
  split
  · rename_i h; rw [show n = lo by omega]; exact .int k lo
  · exact .sym he hn h1 h2
theorem Is0.dig [Rho] {i : Nat} {n : Int} (hn : Rho.ρ i = n) (hu : u64 n) : Is0 (dA i) (.int .u64 n) := .var hn hu.1 hu.2
theorem Is0.eq [Rho] {x : AV} {c d : Value} {π : Inj} {lm : List Nat} (h : Is0 x c) (r : VR π lm x d) : d = c := by rw [vl0_eq h.l r, h.v]

def cliV (n i : Nat) (v : Int) (P : List Int) : Value := .tuple #[.int .u64 (climbL n i v P).1, .bool (climbL n i v P).2]
def ClimbC (n : Nat) : Prop := ∀ (i : Nat) (v : Int) (P : List Int) (W : World) (b off cap : Nat) (c : Array Value), i < n → u64 v → P.length ≤ 1000 → Stands W b off cap P c →
  Calls Try.prog 48 #[.int .i64 n, .int .i64 i, .int .u64 v, .slice (some ⟨b, off, none⟩) P.length cap] W fun e W' => e = .returned (cliV n i v P) ∧ Below W.heap.size W W'

theorem climb_fct {R : Rho} {n i : Nat} {v : Int} {P : List Int} (hc : ClimbC n) (hi : i < n) (hv : u64 v) (hP : ∀ x ∈ P, u64 x) (hlP : P.length ≤ 1000) {nA iA vA rA : AV} (n0 : @Is0 R nA (.int .i64 n)) (i0 : @Is0 R iA (.int .i64 i)) (v0 : @Is0 R vA (.int .u64 v))
    {off len cap : SX} {ex ok : Bool} {k : Nat} (hlen : @SX.eval R len = (P.length : Int)) (h1 : @lskip R k ≤ (@SX.eval R off).toNat) (h2 : (@SX.eval R off).toNat + P.length ≤ @lskip R k + @llen R k)
    (hval : ∀ i, i < P.length → @lval R k (.int .u64) ((@SX.eval R off).toNat - @lskip R k + i) = .int .u64 (P.getD i 0)) (r0 : @Is0 R rA (.int .u64 (climbL n i v P).1)) (hok : ok = (climbL n i v P).2) :
    @Fct.Holds R Try.prog 48 (Fct.mk [nA, iA, vA, .sls 0 off len cap ex] [rowD k] (.tup [rA, .bool ok]) [] []) := by
  letI := R
  refine fct_of rfl rfl ?_ ?_ ?_ (by kernel_rfl) (fun π w vs hw hr => ?_)
  · show (true && ((all1 _ nA && (all1 _ iA && (all1 _ vA && (true && true)))) && ((all1 _ rA && (true && true)) && (true && (true && true))))) = true
    rw [lone_all1 n0.l, lone_all1 i0.l, lone_all1 v0.l, lone_all1 r0.l]; rfl
  · show (rA.flat1 && (true && true)) = true
    rw [lone_flat1 r0.l]; rfl
  · exact ⟨lone_fine1 r0.l r0.f, trivial, trivial⟩
  · obtain ⟨c0, w0, hvs, r1, r2⟩ := LR.uncons hr
    obtain ⟨c1, w1, rfl, r3, r4⟩ := LR.uncons r2
    obtain ⟨c2, w2, rfl, r5, r6⟩ := LR.uncons r4
    obtain ⟨c3, w3, rfl, r7, r8⟩ := LR.uncons r6
    obtain rfl := r8.nil_inv
    obtain rfl : vs = #[c0, c1, c2, c3] := by rw [← Array.toList_inj, hvs]
    obtain rfl := n0.eq r1
    obtain rfl := i0.eq r3
    obtain rfl := v0.eq r5
    obtain ⟨b, cap', cs, rfl, st⟩ := sls_stands hw (i := 0) rfl rfl r7 hlen h1 h2 hval hP
    refine (hc i v P w b _ cap' cs hi hv hlP st).mono ?_
    rintro e W' ⟨he, hb⟩
    refine ⟨?_, hb⟩
    rw [he]
    show _ = Ending.returned (.tuple #[rA.vl1, .bool ok])
    rw [lone_vl1 r0.l, r0.v, hok]; rfl

/-! ### one level; side: true: the left half -/
noncomputable abbrev plX : SX := .var 100 1 1000
noncomputable abbrev nnX (j : Nat) : SX := .var 104 (pw j + 1) (pw (j + 1))
noncomputable def ciX (j : Nat) (side : Bool) : SX := if side then .var 103 0 (pw j - 1) else .var 103 (pw j) (pw (j + 1) - 1)
noncomputable def ciA (j : Nat) (side : Bool) : AV := if side then .sym .i64 (ciX j true) 0 (pw j - 1) else .sym .i64 (ciX j false) (pw j) (pw (j + 1) - 1)
noncomputable def cnA (j : Nat) : AV := .sym .i64 (nnX j) (pw j + 1) (pw (j + 1))
noncomputable abbrev shX : SX := .bin .sub plX (.lit 1)
noncomputable def cFct (j : Nat) (side ok : Bool) : Fct := ⟨[cnA j, ciA j side, dA 105, .sls 0 (.free 102) plX (.free 101) true], [rowD 0], .tup [.sym .u64 (if side then jnX (dX 41) (dX 43) else jnX (dX 43) (dX 41)) 0 MU, .bool ok], [], []⟩
noncomputable def subN (j : Nat) (side : Bool) : AV := if side then .int .i64 (pw j) else mkA .i64 (.bin .sub (nnX j) (.lit (pw j))) 1 (pw j)
noncomputable def subI (j : Nat) (side : Bool) : AV := if side then ciA j true else mkA .i64 (.bin .sub (ciX j false) (.lit (pw j))) 0 (pw j - 1)
noncomputable def cSub (j : Nat) (side ok : Bool) : Fct := ⟨[subN j side, subI j side, dA 105, .sls 0 (.free 102) shX (.free 101) true], [rowD 0], .tup [dA 41, .bool ok], [], []⟩
noncomputable def cTab : KTab := { cells := [(0, .int .u64, .bin .add (.free 102) shX, dA 43)] }
noncomputable def gotC (j : Nat) (side ok : Bool) : Bool := (cFct j side ok).good && (cFct j side ok).got ((@evF cTab.know Try.prog (orcOf [(48, [cSub j side ok])]) 5000).call 48 (cFct j side ok).args (cFct j side ok).st)
noncomputable def gotC4 (j : Nat) : Bool := (gotC j true true && gotC j true false) && (gotC j false true && gotC j false false)
theorem gotC_all : (List.range 9).all gotC4 = true := by kernel_rfl
theorem gotC_get {j : Nat} (h : j < 9) (side ok : Bool) : gotC j side ok = true := by
  have := List.all_eq_true.1 gotC_all j (List.mem_range.2 h)
  simp only [gotC4, Bool.and_eq_true] at this
  cases side <;> cases ok
  · exact this.2.2
  · exact this.2.1
  · exact this.1.2
  · exact this.1.1
/-- no path, or one leaf: 0: one leaf, no path; 1: one leaf, a path; 2: more, no path -/
noncomputable def cEnd (q : Nat) : Fct := match q with
  | 0 => ⟨[.int .i64 1, .int .i64 0, dA 105, .sls 0 (.free 102) (.lit 0) (.free 101) true], [rowD 0], .tup [dA 105, .bool true], [], []⟩
  | 1 => ⟨[.int .i64 1, .int .i64 0, dA 105, .sls 0 (.free 102) plX (.free 101) true], [rowD 0], .tup [dA 105, .bool false], [], []⟩
  | _ => ⟨[.sym .i64 (.var 104 2 512) 2 512, .sym .i64 (.var 103 0 511) 0 511, dA 105, .sls 0 (.free 102) (.lit 0) (.free 101) true], [rowD 0], .tup [dA 105, .bool false], [], []⟩
theorem gotE : ([0, 1, 2].all fun q => (cEnd q).good && (cEnd q).got ((@evF noKnow Try.prog noOrc 5000).call 48 (cEnd q).args (cEnd q).st)) = true := by kernel_rfl
/-- the same of a path that is nil -/
theorem gotN1 : okRun Try.prog noOrc 48 [.int .i64 1, .int .i64 0, dA 105, .nilSlice] (.tup [dA 105, .bool true]) = true := by kernel_rfl
theorem gotN2 : okRun Try.prog noOrc 48 [.sym .i64 (.var 104 2 512) 2 512, .sym .i64 (.var 103 0 511) 0 511, dA 105, .nilSlice] (.tup [dA 105, .bool false]) = true := by kernel_rfl

/-- n, i, the leaf, the path; s: what comes of the lesser tree -/
def numC (n i : Nat) (v s : Int) (P : List Int) (off cap : Nat) (a : Nat) : Int :=
  if a = 100 then P.length else if a = 101 then cap else if a = 102 then off else if a = 103 then i else if a = 104 then n else if a = 105 then v else if a = 41 then s else if a = 43 then P.getLastD 0 else 0
@[reducible] def rC (n i : Nat) (v s : Int) (P : List Int) (off cap : Nat) : Rho := mkRho (numC n i v s P off cap) (fun _ => (off, P))

theorem climb_nil {n i : Nat} {v : Int} (W : World) (h1 : 1 ≤ n) (hn : n ≤ 512) (hi : i < n) (hv : u64 v) :
    Calls Try.prog 48 #[.int .i64 n, .int .i64 i, .int .u64 v, .slice none 0 0] W fun e W' => e = .returned (cliV n i v []) ∧ Below W.heap.size W W' := by
  have hc : climbL n i v [] = (v, decide (n = 1)) := by rw [climb_1 (.inr rfl)]; simp
  unfold cliV
  rw [hc]
  letI := rC n i v 0 [] 0 0
  have v0 : Is0 (dA 105) (.int .u64 v) := .dig (mk_num (by omega)) hv
  by_cases h2 : n = 1
  · subst h2
    obtain rfl : i = 0 := by omega
    exact run_open (args := [.int .i64 1, .int .i64 0, dA 105, .nilSlice]) fit (noOrc_ok _) gotN1 ⟨trivial, trivial, v0.f, trivial, trivial⟩ W
  · have n0 : Is0 (.sym .i64 (.var 104 2 512) 2 512) (.int .i64 n) := .var (mk_num (by omega)) (by omega) (by omega)
    have i0 : Is0 (.sym .i64 (.var 103 0 511) 0 511) (.int .i64 i) := .var (mk_num (by omega)) (by omega) (by omega)
    have := run_open (args := [.sym .i64 (.var 104 2 512) 2 512, .sym .i64 (.var 103 0 511) 0 511, dA 105, .nilSlice]) fit (noOrc_ok _) gotN2 ⟨n0.f, i0.f, v0.f, trivial, trivial⟩ W
    rw [decide_eq_false h2]
    exact this

theorem climb_c : ∀ (n : Nat), 1 ≤ n → n ≤ 512 → ClimbC n := by
  intro n
  induction n using Nat.strongRecOn with
  | ind n ih =>
    intro h1 hn i v P W b off cap c hi hv hlP st
    obtain ⟨be, bfz, hblk⟩ := st.blk
    have hcap := st.cap
    have key : ∀ (s : Int) (F : Fct) (nA iA : AV) (len : SX), @Fct.Holds (rC n i v s P off cap) Try.prog 48 F → F.args = [nA, iA, dA 105, .sls 0 (.free 102) len (.free 101) true] → F.old = [rowD 0] → F.v.flat = true → @Is0 (rC n i v s P off cap) nA (.int .i64 n) → @Is0 (rC n i v s P off cap) iA (.int .i64 i) →
        @SX.ok (rC n i v s P off cap) len → @SX.eval (rC n i v s P off cap) len = (P.length : Int) → @AV.vl (rC n i v s P off cap) F.v = cliV n i v P →
        Calls Try.prog 48 #[.int .i64 n, .int .i64 i, .int .u64 v, .slice (some ⟨b, off, none⟩) P.length cap] W fun e W' => e = .returned (cliV n i v P) ∧ Below W.heap.size W W' := by
      intro s F nA iA len hF ha ho hfl n0 i0 hlo hle hv'
      letI := rC n i v s P off cap
      have e1 : (SX.free 101).eval = (cap : Int) := mk_num (by omega)
      have e2 : (SX.free 102).eval = (off : Int) := mk_num (by omega)
      have hw : WR W.heap.size (fun i => [(b, c.size)][i]?) [] F.st W := tree_rows (rs := [rowD 0]) (by simp [Fct.st, ho]) rfl _ rfl (fun i A hA => by
        match i, hA with
        | 0, hA => obtain rfl := Option.some.inj hA; exact ⟨rfl, rfl, b, c, be, bfz, rfl, hblk, stand_row st (mk_skip (by omega)) (mk_len (by omega)) (fun i _ => mk_val (by omega) _ i)⟩)
      have so : SlOk (.free 102) len (.free 101) := ⟨trivial, hlo, trivial, by rw [e2]; omega, by rw [hle]; omega, by rw [hle, e1]; omega⟩
      have hr := VR.slsEx (π := fun i => [(b, c.size)][i]?) (lm := []) (b := 0) (b' := b) (n := c.size) so rfl
      rw [hle, e1, e2] at hr
      have v0 : Is0 (dA 105) (.int .u64 v) := .dig (mk_num (by omega)) hv
      have rn := vl0_rel (π := fun i => [(b, c.size)][i]?) (lm := []) n0.l n0.f
      have ri := vl0_rel (π := fun i => [(b, c.size)][i]?) (lm := []) i0.l i0.f
      have rv := vl0_rel (π := fun i => [(b, c.size)][i]?) (lm := []) v0.l v0.f
      rw [n0.v] at rn
      rw [i0.v] at ri
      rw [v0.v] at rv
      have := Fct.calls hF hfl hw (vs := #[.int .i64 n, .int .i64 i, .int .u64 v, .slice (some ⟨b, off, none⟩) P.length cap]) (by rw [ha]; exact LR.cons rn (LR.cons ri (LR.cons rv (LR.cons (by simpa using hr) LR.nil))))
      refine this.mono ?_
      rintro e W' ⟨rfl, hb⟩
      exact ⟨by rw [hv'], hb⟩
    have hE : ∀ q, q ∈ [0, 1, 2] → @Fct.Holds (rC n i v 0 P off cap) Try.prog 48 (cEnd q) := fun q hq => by
      have hg := List.all_eq_true.1 gotE q hq
      rw [Bool.and_eq_true] at hg
      letI := rC n i v 0 P off cap
      exact @Fct.holds (rC n i v 0 P off cap) Try.prog noOrc noKnow noKnow_ok fit (noOrc_ok _) 5000 48 (cEnd q) hg.1 hg.2
    have eP : ∀ s, @Rho.ρ (rC n i v s P off cap) 100 = (P.length : Int) := fun s => mk_num (by omega)
    have eV : ∀ s, @Rho.ρ (rC n i v s P off cap) 105 = v := fun s => mk_num (by omega)
    by_cases h2 : n < 2
    · obtain rfl : n = 1 := by omega
      obtain rfl : i = 0 := by omega
      have hc : climbL 1 0 v P = (v, P.isEmpty) := by rw [climb_1 (.inl h2)]; simp
      by_cases hp : P = []
      · subst hp
        refine key 0 (cEnd 0) _ _ (.lit 0) (hE 0 (by simp)) rfl rfl rfl (@Is0.int (rC 1 0 v 0 [] off cap) _ _) (@Is0.int (rC 1 0 v 0 [] off cap) _ _) trivial rfl ?_
        show Value.tuple #[.int .u64 (@Rho.ρ (rC 1 0 v 0 [] off cap) 105), .bool true] = _
        unfold cliV
        rw [eV, hc]; rfl
      · have h0 : 0 < P.length := List.length_pos_iff.2 hp
        refine key 0 (cEnd 1) _ _ plX (hE 1 (by simp)) rfl rfl rfl (@Is0.int (rC 1 0 v 0 P off cap) _ _) (@Is0.int (rC 1 0 v 0 P off cap) _ _) ?_ (eP 0) ?_
        · show (1 : Int) ≤ @Rho.ρ (rC 1 0 v 0 P off cap) 100 ∧ @Rho.ρ (rC 1 0 v 0 P off cap) 100 ≤ 1000
          rw [eP]; omega
        · show Value.tuple #[.int .u64 (@Rho.ρ (rC 1 0 v 0 P off cap) 105), .bool false] = _
          unfold cliV
          rw [eV, hc]; cases P with
          | nil => exact absurd rfl hp
          | cons _ _ => rfl
    · by_cases hp : P = []
      · have hc : climbL n i v P = (v, false) := by rw [climb_1 (.inr hp)]; simp; omega
        refine key 0 (cEnd 2) _ _ (.lit 0) (hE 2 (by simp)) rfl rfl rfl (@Is0.var (rC n i v 0 P off cap) .i64 104 2 512 n (mk_num (by omega)) (by omega) (by omega)) (@Is0.var (rC n i v 0 P off cap) .i64 103 0 511 i (mk_num (by omega)) (by omega) (by omega)) trivial (by rw [hp]; rfl) ?_
        show Value.tuple #[.int .u64 (@Rho.ρ (rC n i v 0 P off cap) 105), .bool false] = _
        unfold cliV
        rw [eV, hc]
      · obtain ⟨j, hj, hj1, hj2, hj3⟩ := hf_class (show 2 ≤ n by omega) hn
        have hb := hf_bd (show 2 ≤ n by omega)
        obtain ⟨X, y, rfl⟩ := snoc_of hp
        have hX : ∀ x ∈ X, u64 x := fun x hx => st.u x (List.mem_append_left _ hx)
        have hy : u64 y := st.u y (by simp)
        have hlX : (X ++ [y]).length = X.length + 1 := by simp
        have ew : pw j = ((hf n : Nat) : Int) := by rw [hj3]
        have ew2 : pw (j + 1) = ((2 ^ (j + 1) : Nat) : Int) := rfl
        have hj2' : (n : Int) ≤ pw (j + 1) := by rw [ew2]; exact_mod_cast hj2
        -- the lesser tree
        have side : ∀ (sd : Bool) (n' i' : Nat), (sd = true → n' = hf n ∧ i' = i ∧ i < hf n) → (sd = false → n' = n - hf n ∧ i' = i - hf n ∧ ¬ i < hf n) →
            (climbL n i v (X ++ [y]) = (if sd then joinI (climbL n' i' v X).1 y else joinI y (climbL n' i' v X).1, (climbL n' i' v X).2)) →
            Calls Try.prog 48 #[.int .i64 n, .int .i64 i, .int .u64 v, .slice (some ⟨b, off, none⟩) (X ++ [y]).length cap] W fun e W' => e = .returned (cliV n i v (X ++ [y])) ∧ Below W.heap.size W W' := by
          intro sd n' i' ht hf' hcl
          have hn' : n' < n ∧ 1 ≤ n' ∧ i' < n' := by
            cases sd
            · have := hf' rfl; omega
            · have := ht rfl; omega
          have hr := gotC_get hj sd (climbL n' i' v X).2
          unfold gotC at hr
          rw [Bool.and_eq_true] at hr
          letI R := rC n i v (climbL n' i' v X).1 (X ++ [y]) off cap
          have e1 : (SX.free 101).eval = (cap : Int) := mk_num (by omega)
          have e2 : (SX.free 102).eval = (off : Int) := mk_num (by omega)
          have e3 : Rho.ρ 103 = (i : Int) := mk_num (by omega)
          have e4 : Rho.ρ 104 = (n : Int) := mk_num (by omega)
          have ePl : plX.eval = ((X.length + 1 : Nat) : Int) := by rw [← hlX]; exact eP _
          have okPl : plX.ok := by
            show (1 : Int) ≤ plX.eval ∧ plX.eval ≤ 1000
            rw [ePl]; omega
          have hskip : lskip 0 = off := mk_skip (by omega)
          have hllen : llen 0 = X.length + 1 := by rw [← hlX]; exact mk_len (by omega)
          have eSh : shX.eval = (X.length : Int) := by
            show plX.eval - 1 = _
            rw [ePl]; omega
          have hk : @KnowOk R cTab.know := by
            refine KTab.ok { cells := ?_ }
            intro x hx _
            obtain rfl := List.mem_singleton.1 hx
            have g : lel 0 X.length = y := by
              rw [show lel 0 X.length = (X ++ [y]).getD X.length 0 from mk_el (by omega) X.length]
              simp [List.getD]
            have g2 : Rho.ρ 43 = y := by
              rw [show Rho.ρ 43 = (X ++ [y]).getLastD 0 from mk_num (by omega)]; simp
            exact cell_i64 (i := X.length) (by show (SX.free 102).eval + shX.eval = _; rw [e2, eSh, hskip]; omega) (by rw [hllen]; omega) (by rw [g, g2]) (by rw [g]; exact hy.1) (by rw [g]; exact hy.2)
          have iOk : Is0 (ciA j sd) (.int .i64 i) := by
            cases sd
            · have := hf' rfl
              exact Is0.var e3 (by omega) (by omega)
            · have := ht rfl
              exact Is0.var e3 (by omega) (by omega)
          have nOk : Is0 (cnA j) (.int .i64 n) := Is0.var e4 (by omega) hj2'
          have sN : Is0 (subN j sd) (.int .i64 n') := by
            cases sd
            · have := hf' rfl
              refine Is0.made ⟨nOk.f.1, trivial⟩ ?_ (by omega) (by omega)
              show Rho.ρ 104 - pw j = _
              rw [e4, ew]; omega
            · have := ht rfl
              rw [this.1]
              show Is0 (.int .i64 (pw j)) _
              rw [ew]; exact Is0.int _ _
          have sI : Is0 (subI j sd) (.int .i64 i') := by
            cases sd
            · have := hf' rfl
              refine Is0.made ⟨iOk.f.1, trivial⟩ ?_ (by omega) (by omega)
              show Rho.ρ 103 - pw j = _
              rw [e3, ew]; omega
            · have := ht rfl
              rw [this.2.1]; exact iOk
          have v0 : Is0 (dA 105) (.int .u64 v) := .dig (eV _) hv
          have r0 : Is0 (dA 41) (.int .u64 (climbL n' i' v X).1) := .dig (mk_num (by omega)) (climb_u64 hv)
          have hF : Fct.Holds Try.prog 48 (cFct j sd (climbL n' i' v X).2) := by
            refine @Fct.holds R Try.prog (orcOf [(48, [cSub j sd (climbL n' i' v X).2])]) cTab.know hk fit (orcOf_ok ⟨fun F hF => ?_, trivial⟩) 5000 48 _ hr.1 hr.2
            obtain rfl := List.mem_singleton.1 hF
            refine climb_fct (ih n' hn'.1 hn'.2.1 (by omega)) hn'.2.2 hv hX (by omega) sN sI v0 eSh (by rw [e2, hskip]; omega) (by rw [e2, hskip, hllen]; omega) (fun t ht' => ?_) r0 rfl
            rw [e2, hskip, show ((off : Int).toNat - off + t) = t by omega]
            rw [show lval 0 (.int .u64) t = .int .u64 ((X ++ [y]).getD t 0) from mk_val (by omega) _ t]
            simp [List.getD, List.getElem?_append_left ht']
          refine key _ (cFct j sd (climbL n' i' v X).2) (cnA j) (ciA j sd) plX hF rfl rfl (by cases sd <;> rfl) nOk iOk okPl (eP _) ?_
          have e41 : (dX 41).eval = (climbL n' i' v X).1 := mk_num (by omega)
          have e43 : (dX 43).eval = y := by
            rw [show (dX 43).eval = (X ++ [y]).getLastD 0 from mk_num (by omega)]; simp
          unfold cliV
          rw [hcl]
          cases sd
          · show Value.tuple #[.int .u64 (jnX (dX 43) (dX 41)).eval, .bool _] = _
            rw [jnX_eval, e41, e43]; rfl
          · show Value.tuple #[.int .u64 (jnX (dX 41) (dX 43)).eval, .bool _] = _
            rw [jnX_eval, e41, e43]; rfl
        by_cases hlt : i < hf n
        · exact side true (hf n) i (fun _ => ⟨rfl, rfl, hlt⟩) (fun h => by cases h) (by rw [climb_l (by omega) hlt]; rfl)
        · exact side false (n - hf n) (i - hf n) (fun h => by cases h) (fun _ => ⟨rfl, rfl, hlt⟩) (by rw [climb_r (by omega) hlt]; rfl)
end Go.Proofs.Ytdenpaifjpmkgaa
