/- Trees of up to 4096 digests: climb, Sides. -/
import Derived.Test.YtdenpaifjpmkgaaUa
namespace Go.Proofs.Ytdenpaifjpmkgaa
open Go.Ev
open Go.RowKit (Below)
set_option maxRecDepth 100000
set_option linter.unusedVariables false
set_option linter.unusedSectionVars false

theorem hf_class12 {n : Nat} (h : 2 ≤ n) (h2 : n ≤ 4096) : ∃ j, j < 12 ∧ 2 ^ j + 1 ≤ n ∧ n ≤ 2 ^ (j + 1) ∧ hf n = 2 ^ j := by
  refine ⟨Nat.log2 (n - 1), (Nat.log2_lt (by omega)).2 (by omega), ?_, ?_, rfl⟩
  · have := hf_bd h; unfold hf at this; omega
  · have := hf_bd h; unfold hf at this; rw [Nat.pow_succ]; omega
theorem wgotC_all : (List.range 12).all gotC4 = true := by kernel_rfl
theorem wgotC_get {j : Nat} (h : j < 12) (side ok : Bool) : gotC j side ok = true := by
  have := List.all_eq_true.1 wgotC_all j (List.mem_range.2 h)
  simp only [gotC4, Bool.and_eq_true] at this
  cases side <;> cases ok
  · exact this.2.2
  · exact this.2.1
  · exact this.1.2
  · exact this.1.1
/-- no path, or one leaf: 0: one leaf, no path; 1: one leaf, a path; 2: more, no path -/
noncomputable def wcEnd (q : Nat) : Fct := match q with
  | 0 => ⟨[.int .i64 1, .int .i64 0, dA 105, .sls 0 (.free 102) (.lit 0) (.free 101) true], [rowD 0], .tup [dA 105, .bool true], [], []⟩
  | 1 => ⟨[.int .i64 1, .int .i64 0, dA 105, .sls 0 (.free 102) plX (.free 101) true], [rowD 0], .tup [dA 105, .bool false], [], []⟩
  | _ => ⟨[.sym .i64 (.var 104 2 4096) 2 4096, .sym .i64 (.var 103 0 4095) 0 4095, dA 105, .sls 0 (.free 102) (.lit 0) (.free 101) true], [rowD 0], .tup [dA 105, .bool false], [], []⟩
theorem wgotE : ([0, 1, 2].all fun q => (wcEnd q).good && (wcEnd q).got ((@evF noKnow Try.prog noOrc 5000).call 48 (wcEnd q).args (wcEnd q).st)) = true := by kernel_rfl
/-- the same of a path that is nil -/
theorem wgotN1 : okRun Try.prog noOrc 48 [.int .i64 1, .int .i64 0, dA 105, .nilSlice] (.tup [dA 105, .bool true]) = true := by kernel_rfl
theorem wgotN2 : okRun Try.prog noOrc 48 [.sym .i64 (.var 104 2 4096) 2 4096, .sym .i64 (.var 103 0 4095) 0 4095, dA 105, .nilSlice] (.tup [dA 105, .bool false]) = true := by kernel_rfl

theorem wclimb_nil {n i : Nat} {v : Int} (W : World) (h1 : 1 ≤ n) (hn : n ≤ 4096) (hi : i < n) (hv : u64 v) :
    Calls Try.prog 48 #[.int .i64 n, .int .i64 i, .int .u64 v, .slice none 0 0] W fun e W' => e = .returned (cliV n i v []) ∧ Below W.heap.size W W' := by
  have hc : climbL n i v [] = (v, decide (n = 1)) := by rw [climb_1 (.inr rfl)]; simp
  unfold cliV
  rw [hc]
  letI := rC n i v 0 [] 0 0
  have v0 : Is0 (dA 105) (.int .u64 v) := .dig (mk_num (by omega)) hv
  by_cases h2 : n = 1
  · subst h2
    obtain rfl : i = 0 := by omega
    exact run_open (args := [.int .i64 1, .int .i64 0, dA 105, .nilSlice]) fit (noOrc_ok _) wgotN1 ⟨trivial, trivial, v0.f, trivial, trivial⟩ W
  · have n0 : Is0 (.sym .i64 (.var 104 2 4096) 2 4096) (.int .i64 n) := .var (mk_num (by omega)) (by omega) (by omega)
    have i0 : Is0 (.sym .i64 (.var 103 0 4095) 0 4095) (.int .i64 i) := .var (mk_num (by omega)) (by omega) (by omega)
    have := run_open (args := [.sym .i64 (.var 104 2 4096) 2 4096, .sym .i64 (.var 103 0 4095) 0 4095, dA 105, .nilSlice]) fit (noOrc_ok _) wgotN2 ⟨n0.f, i0.f, v0.f, trivial, trivial⟩ W
    rw [decide_eq_false h2]
    exact this

theorem wclimb_c : ∀ (n : Nat), 1 ≤ n → n ≤ 4096 → ClimbC n := by
  intro n
  induction n using Nat.strongRecOn with
  | ind n ih =>
    intro h1 hn i v P W b off cap c hi hv hlP st
    obtain ⟨be, bfz, hblk⟩ := st.blk
    have hcap := st.cap
    have key : ∀ (s : Int) (F : Fct) (nA iA : AV) (len : SX), @Fct.Holds (rC n i v s P off cap) Try.prog 48 F → F.args = [nA, iA, dA 105, .sls 0 (.free 102) len (.free 101) true] → F.old = [rowD 0] → F.v.flat = true → @Is0 (rC n i v s P off cap) nA (.int .i64 n) → @Is0 (rC n i v s P off cap) iA (.int .i64 i) →
        @SX.ok (rC n i v s P off cap) len → @SX.eval (rC n i v s P off cap) len = (P.length : Int) → @AV.vl (rC n i v s P off cap) F.v = cliV n i v P →
        Calls Try.prog 48 #[.int .i64 n, .int .i64 i, .int .u64 v, .slice (some ⟨b, off, none⟩) P.length cap] W fun e W' => e = .returned (cliV n i v P) ∧ Below W.heap.size W W' := by
      intro s F nA iA len hF ha ho hfl n0 i0 hlo hle hv'
      letI := rC n i v s P off cap
      have e1 : (SX.free 101).eval = (cap : Int) := mk_num (by omega)
      have e2 : (SX.free 102).eval = (off : Int) := mk_num (by omega)
      have hw : WR W.heap.size (fun i => [(b, c.size)][i]?) [] F.st W := tree_rows (rs := [rowD 0]) (by simp [Fct.st, ho]) rfl _ rfl (fun i A hA => by
        match i, hA with
        | 0, hA => obtain rfl := Option.some.inj hA; exact ⟨rfl, rfl, b, c, be, bfz, rfl, hblk, stand_row st (mk_skip (by omega)) (mk_len (by omega)) (fun i _ => mk_val (by omega) _ i)⟩)
      have so : SlOk (.free 102) len (.free 101) := ⟨trivial, hlo, trivial, by rw [e2]; omega, by rw [hle]; omega, by rw [hle, e1]; omega⟩
      have hr := VR.slsEx (π := fun i => [(b, c.size)][i]?) (lm := []) (b := 0) (b' := b) (n := c.size) so rfl
      rw [hle, e1, e2] at hr
      have v0 : Is0 (dA 105) (.int .u64 v) := .dig (mk_num (by omega)) hv
      have rn := vl0_rel (π := fun i => [(b, c.size)][i]?) (lm := []) n0.l n0.f
      have ri := vl0_rel (π := fun i => [(b, c.size)][i]?) (lm := []) i0.l i0.f
      have rv := vl0_rel (π := fun i => [(b, c.size)][i]?) (lm := []) v0.l v0.f
      rw [n0.v] at rn
      rw [i0.v] at ri
      rw [v0.v] at rv
      have := Fct.calls hF hfl hw (vs := #[.int .i64 n, .int .i64 i, .int .u64 v, .slice (some ⟨b, off, none⟩) P.length cap]) (by rw [ha]; exact LR.cons rn (LR.cons ri (LR.cons rv (LR.cons (by simpa using hr) LR.nil))))
      refine this.mono ?_
      rintro e W' ⟨rfl, hb⟩
      exact ⟨by rw [hv'], hb⟩
    have hE : ∀ q, q ∈ [0, 1, 2] → @Fct.Holds (rC n i v 0 P off cap) Try.prog 48 (wcEnd q) := fun q hq => by
      have hg := List.all_eq_true.1 wgotE q hq
      rw [Bool.and_eq_true] at hg
      letI := rC n i v 0 P off cap
      exact @Fct.holds (rC n i v 0 P off cap) Try.prog noOrc noKnow noKnow_ok fit (noOrc_ok _) 5000 48 (wcEnd q) hg.1 hg.2
    have eP : ∀ s, @Rho.ρ (rC n i v s P off cap) 100 = (P.length : Int) := fun s => mk_num (by omega)
    have eV : ∀ s, @Rho.ρ (rC n i v s P off cap) 105 = v := fun s => mk_num (by omega)
    by_cases h2 : n < 2
    · obtain rfl : n = 1 := by omega
      obtain rfl : i = 0 := by omega
      have hc : climbL 1 0 v P = (v, P.isEmpty) := by rw [climb_1 (.inl h2)]; simp
      by_cases hp : P = []
      · subst hp
        refine key 0 (wcEnd 0) _ _ (.lit 0) (hE 0 (by simp)) rfl rfl rfl (@Is0.int (rC 1 0 v 0 [] off cap) _ _) (@Is0.int (rC 1 0 v 0 [] off cap) _ _) trivial rfl ?_
        show Value.tuple #[.int .u64 (@Rho.ρ (rC 1 0 v 0 [] off cap) 105), .bool true] = _
        unfold cliV
        rw [eV, hc]; rfl
      · have h0 : 0 < P.length := List.length_pos_iff.2 hp
        refine key 0 (wcEnd 1) _ _ plX (hE 1 (by simp)) rfl rfl rfl (@Is0.int (rC 1 0 v 0 P off cap) _ _) (@Is0.int (rC 1 0 v 0 P off cap) _ _) ?_ (eP 0) ?_
        · show (1 : Int) ≤ @Rho.ρ (rC 1 0 v 0 P off cap) 100 ∧ @Rho.ρ (rC 1 0 v 0 P off cap) 100 ≤ 1000
          rw [eP]; omega
        · show Value.tuple #[.int .u64 (@Rho.ρ (rC 1 0 v 0 P off cap) 105), .bool false] = _
          unfold cliV
          rw [eV, hc]; cases P with
          | nil => exact absurd rfl hp
          | cons _ _ => rfl
    · by_cases hp : P = []
      · have hc : climbL n i v P = (v, false) := by rw [climb_1 (.inr hp)]; simp; omega
        refine key 0 (wcEnd 2) _ _ (.lit 0) (hE 2 (by simp)) rfl rfl rfl (@Is0.var (rC n i v 0 P off cap) .i64 104 2 4096 n (mk_num (by omega)) (by omega) (by omega)) (@Is0.var (rC n i v 0 P off cap) .i64 103 0 4095 i (mk_num (by omega)) (by omega) (by omega)) trivial (by rw [hp]; rfl) ?_
        show Value.tuple #[.int .u64 (@Rho.ρ (rC n i v 0 P off cap) 105), .bool false] = _
        unfold cliV
        rw [eV, hc]
      · obtain ⟨j, hj, hj1, hj2, hj3⟩ := hf_class12 (show 2 ≤ n by omega) hn
        have hb := hf_bd (show 2 ≤ n by omega)
        obtain ⟨X, y, rfl⟩ := snoc_of hp
        have hX : ∀ x ∈ X, u64 x := fun x hx => st.u x (List.mem_append_left _ hx)
        have hy : u64 y := st.u y (by simp)
        have hlX : (X ++ [y]).length = X.length + 1 := by simp
        have ew : pw j = ((hf n : Nat) : Int) := by rw [hj3]
        have ew2 : pw (j + 1) = ((2 ^ (j + 1) : Nat) : Int) := rfl
        have hj2' : (n : Int) ≤ pw (j + 1) := by rw [ew2]; exact_mod_cast hj2
        -- the lesser tree
        have side : ∀ (sd : Bool) (n' i' : Nat), (sd = true → n' = hf n ∧ i' = i ∧ i < hf n) → (sd = false → n' = n - hf n ∧ i' = i - hf n ∧ ¬ i < hf n) →
            (climbL n i v (X ++ [y]) = (if sd then joinI (climbL n' i' v X).1 y else joinI y (climbL n' i' v X).1, (climbL n' i' v X).2)) →
            Calls Try.prog 48 #[.int .i64 n, .int .i64 i, .int .u64 v, .slice (some ⟨b, off, none⟩) (X ++ [y]).length cap] W fun e W' => e = .returned (cliV n i v (X ++ [y])) ∧ Below W.heap.size W W' := by
          intro sd n' i' ht hf' hcl
          have hn' : n' < n ∧ 1 ≤ n' ∧ i' < n' := by
            cases sd
            · have := hf' rfl; omega
            · have := ht rfl; omega
          have hr := wgotC_get hj sd (climbL n' i' v X).2
          unfold gotC at hr
          rw [Bool.and_eq_true] at hr
          letI R := rC n i v (climbL n' i' v X).1 (X ++ [y]) off cap
          have e1 : (SX.free 101).eval = (cap : Int) := mk_num (by omega)
          have e2 : (SX.free 102).eval = (off : Int) := mk_num (by omega)
          have e3 : Rho.ρ 103 = (i : Int) := mk_num (by omega)
          have e4 : Rho.ρ 104 = (n : Int) := mk_num (by omega)
          have ePl : plX.eval = ((X.length + 1 : Nat) : Int) := by rw [← hlX]; exact eP _
          have okPl : plX.ok := by
            show (1 : Int) ≤ plX.eval ∧ plX.eval ≤ 1000
            rw [ePl]; omega
          have hskip : lskip 0 = off := mk_skip (by omega)
          have hllen : llen 0 = X.length + 1 := by rw [← hlX]; exact mk_len (by omega)
          have eSh : shX.eval = (X.length : Int) := by
            show plX.eval - 1 = _
            rw [ePl]; omega
          have hk : @KnowOk R cTab.know := by
            refine KTab.ok { cells := ?_ }
            intro x hx _
            obtain rfl := List.mem_singleton.1 hx
            have g : lel 0 X.length = y := by
              rw [show lel 0 X.length = (X ++ [y]).getD X.length 0 from mk_el (by omega) X.length]
              simp [List.getD]
            have g2 : Rho.ρ 43 = y := by
              rw [show Rho.ρ 43 = (X ++ [y]).getLastD 0 from mk_num (by omega)]; simp
            exact cell_i64 (i := X.length) (by show (SX.free 102).eval + shX.eval = _; rw [e2, eSh, hskip]; omega) (by rw [hllen]; omega) (by rw [g, g2]) (by rw [g]; exact hy.1) (by rw [g]; exact hy.2)
          have iOk : Is0 (ciA j sd) (.int .i64 i) := by
            cases sd
            · have := hf' rfl
              exact Is0.var e3 (by omega) (by omega)
            · have := ht rfl
              exact Is0.var e3 (by omega) (by omega)
          have nOk : Is0 (cnA j) (.int .i64 n) := Is0.var e4 (by omega) hj2'
          have sN : Is0 (subN j sd) (.int .i64 n') := by
            cases sd
            · have := hf' rfl
              refine Is0.made ⟨nOk.f.1, trivial⟩ ?_ (by omega) (by omega)
              show Rho.ρ 104 - pw j = _
              rw [e4, ew]; omega
            · have := ht rfl
              rw [this.1]
              show Is0 (.int .i64 (pw j)) _
              rw [ew]; exact Is0.int _ _
          have sI : Is0 (subI j sd) (.int .i64 i') := by
            cases sd
            · have := hf' rfl
              refine Is0.made ⟨iOk.f.1, trivial⟩ ?_ (by omega) (by omega)
              show Rho.ρ 103 - pw j = _
              rw [e3, ew]; omega
            · have := ht rfl
              rw [this.2.1]; exact iOk
          have v0 : Is0 (dA 105) (.int .u64 v) := .dig (eV _) hv
          have r0 : Is0 (dA 41) (.int .u64 (climbL n' i' v X).1) := .dig (mk_num (by omega)) (climb_u64 hv)
          have hF : Fct.Holds Try.prog 48 (cFct j sd (climbL n' i' v X).2) := by
            refine @Fct.holds R Try.prog (orcOf [(48, [cSub j sd (climbL n' i' v X).2])]) cTab.know hk fit (orcOf_ok ⟨fun F hF => ?_, trivial⟩) 5000 48 _ hr.1 hr.2
            obtain rfl := List.mem_singleton.1 hF
            refine climb_fct (ih n' hn'.1 hn'.2.1 (by omega)) hn'.2.2 hv hX (by omega) sN sI v0 eSh (by rw [e2, hskip]; omega) (by rw [e2, hskip, hllen]; omega) (fun t ht' => ?_) r0 rfl
            rw [e2, hskip, show ((off : Int).toNat - off + t) = t by omega]
            rw [show lval 0 (.int .u64) t = .int .u64 ((X ++ [y]).getD t 0) from mk_val (by omega) _ t]
            simp [List.getD, List.getElem?_append_left ht']
          refine key _ (cFct j sd (climbL n' i' v X).2) (cnA j) (ciA j sd) plX hF rfl rfl (by cases sd <;> rfl) nOk iOk okPl (eP _) ?_
          have e41 : (dX 41).eval = (climbL n' i' v X).1 := mk_num (by omega)
          have e43 : (dX 43).eval = y := by
            rw [show (dX 43).eval = (X ++ [y]).getLastD 0 from mk_num (by omega)]; simp
          unfold cliV
          rw [hcl]
          cases sd
          · show Value.tuple #[.int .u64 (jnX (dX 43) (dX 41)).eval, .bool _] = _
            rw [jnX_eval, e41, e43]; rfl
          · show Value.tuple #[.int .u64 (jnX (dX 41) (dX 43)).eval, .bool _] = _
            rw [jnX_eval, e41, e43]; rfl
        by_cases hlt : i < hf n
        · exact side true (hf n) i (fun _ => ⟨rfl, rfl, hlt⟩) (fun h => by cases h) (by rw [climb_l (by omega) hlt]; rfl)
        · exact side false (n - hf n) (i - hf n) (fun h => by cases h) (fun _ => ⟨rfl, rfl, hlt⟩) (by rw [climb_r (by omega) hlt]; rfl)

/-! ### Sides -/
noncomputable abbrev wdpX : SX := .var 106 1 12
noncomputable def wsdTab (sd : Bool) : KTab := { apps := [(.bool, .lst 60 (.lit 0) wdpX, .cells [.bool sd], 61)] }
noncomputable def wsdG1 (j : Nat) (sd : Bool) : Bool := (sdF (cnA j) (ciA j sd) (.bin .add wdpX (.lit 1)) 61).good &&
  (sdF (cnA j) (ciA j sd) (.bin .add wdpX (.lit 1)) 61).got ((@evF (wsdTab sd).know Try.prog (orcOf [(30, [sdF (subN j sd) (subI j sd) wdpX 60])]) 5000).call 30 [cnA j, ciA j sd] st0)
theorem wsdG_all : (List.range 12).all (fun j => (sdG0 j true && sdG0 j false) && (wsdG1 j true && wsdG1 j false)) = true := by kernel_rfl

def WSidesOk (n i : Nat) : Prop := ∀ (R : Rho) (x y : AV), @Is0 R x (.int .i64 n) → @Is0 R y (.int .i64 i) →
  (depN n i = 0 → @Fct.Holds R Try.prog 30 (sd0 x y)) ∧
  (∀ (len : SX) (k : Nat), 0 < depN n i → @SX.ok R len → @SX.eval R len = (depN n i : Int) → LetB R k (sideL n i) → @Fct.Holds R Try.prog 30 (sdF x y len k))

def wnumS (n i d a : Nat) : Int := if a = 103 then i else if a = 104 then n else if a = 106 then d else 0
@[reducible] def wrS (n i d : Nat) (l60 l61 : List Int) : Rho := mkRho (wnumS n i d) (fun k => if k = 60 then (0, l60) else if k = 61 then (0, l61) else (0, []))
theorem wrS_let {n i d : Nat} {l60 l61 : List Int} : LetB (wrS n i d l60 l61) 60 l60 ∧ LetB (wrS n i d l60 l61) 61 l61 :=
  ⟨⟨mk_skip (by omega), mk_len (by omega), fun t => mk_val (by omega) _ t⟩, ⟨mk_skip (by omega), mk_len (by omega), fun t => mk_val (by omega) _ t⟩⟩

theorem wsides_ok : ∀ (n i : Nat), 1 ≤ n → n ≤ 4096 → i < n → WSidesOk n i := by
  intro n
  induction n using Nat.strongRecOn with
  | ind n ih =>
    intro i h1 hn hi R x y hx hy
    by_cases h2 : n < 2
    · obtain rfl : n = 1 := by omega
      obtain rfl : i = 0 := by omega
      refine ⟨fun _ => ?_, fun len k h0 => by rw [depN_1 h2] at h0; omega⟩
      have hg := sd_one
      rw [Bool.and_eq_true] at hg
      have hF : @Fct.Holds R Try.prog 30 (sd0 (.int .i64 1) (.int .i64 0)) := by
        letI := R
        exact @Fct.holds R Try.prog noOrc noKnow noKnow_ok fit (noOrc_ok _) 5000 30 _ hg.1 hg.2
      refine Fct.move hF (good2 hx.l hy.l (by rfl)) rfl rfl (fun B π w h => st0_swap h) (fun π vs h => args2 hx hy (@Is0.int R .i64 1) (@Is0.int R .i64 0) h) (fun π lm c r => ?_) rfl rfl (fun t A1 A2 e1 e2 => ?_)
      · exact @flat_sl R π lm c r
      · match t, e1, e2 with
        | 0, e1, e2 =>
          obtain rfl := Option.some.inj e1
          obtain rfl := Option.some.inj e2
          exact ⟨rfl, rfl, fun π lm c _ _ => ⟨@LR.nil R _ _, @TailOk.none R _ _ rfl⟩⟩
    · obtain ⟨j, hj, hj1, hj2, hj3⟩ := hf_class12 (show 2 ≤ n by omega) hn
      have hb := hf_bd (show 2 ≤ n by omega)
      have ew : pw j = ((hf n : Nat) : Int) := by rw [hj3]
      have ew2 : pw (j + 1) = ((2 ^ (j + 1) : Nat) : Int) := rfl
      have hj2' : (n : Int) ≤ pw (j + 1) := by rw [ew2]; exact_mod_cast hj2
      have side : ∀ (sd : Bool) (n' i' : Nat), (sd = true → n' = hf n ∧ i' = i ∧ i < hf n) → (sd = false → n' = n - hf n ∧ i' = i - hf n ∧ ¬ i < hf n) → depN n i = depN n' i' + 1 → sideL n i = sideL n' i' ++ [if sd then 1 else 0] →
          ∀ (len : SX) (k : Nat), @SX.ok R len → @SX.eval R len = (depN n i : Int) → LetB R k (sideL n i) → @Fct.Holds R Try.prog 30 (sdF x y len k) := by
        intro sd n' i' ht hf' hdep hsl len k hlo hle hk
        have hn' : n' < n ∧ 1 ≤ n' ∧ i' < n' := by
          cases sd
          · have := hf' rfl; omega
          · have := ht rfl; omega
        have hd9 : depN n' i' ≤ 12 := by have := dep_le 12 n' i' (by omega); omega
        have hsub := ih n' hn'.1 i' hn'.2.1 (by omega) hn'.2.2
        have hg := List.all_eq_true.1 wsdG_all j (List.mem_range.2 hj)
        simp only [Bool.and_eq_true] at hg
        have g0 : sdG0 j sd = true := by cases sd; exact hg.1.2; exact hg.1.1
        have g1 : wsdG1 j sd = true := by cases sd; exact hg.2.2; exact hg.2.1
        unfold sdG0 at g0
        unfold wsdG1 at g1
        rw [Bool.and_eq_true] at g0 g1
        let R0 := wrS n i (depN n' i') (sideL n' i') (sideL n i)
        have e103 : @Rho.ρ R0 103 = (i : Int) := mk_num (by omega)
        have e104 : @Rho.ρ R0 104 = (n : Int) := mk_num (by omega)
        have e106 : @Rho.ρ R0 106 = (depN n' i' : Int) := mk_num (by omega)
        obtain ⟨l60, l61⟩ := wrS_let (n := n) (i := i) (d := depN n' i') (l60 := sideL n' i') (l61 := sideL n i)
        have nOk : @Is0 R0 (cnA j) (.int .i64 n) := @Is0.var R0 _ _ _ _ _ e104 (by omega) hj2'
        have iOk : @Is0 R0 (ciA j sd) (.int .i64 i) := by
          cases sd
          · have := hf' rfl
            exact @Is0.var R0 _ _ _ _ _ e103 (by omega) (by omega)
          · have := ht rfl
            exact @Is0.var R0 _ _ _ _ _ e103 (by omega) (by omega)
        have sN : @Is0 R0 (subN j sd) (.int .i64 n') := by
          cases sd
          · have := hf' rfl
            refine @Is0.made R0 _ _ _ _ _ ⟨nOk.f.1, trivial⟩ ?_ (by omega) (by omega)
            show @Rho.ρ R0 104 - pw j = _
            rw [e104, ew]; omega
          · have := ht rfl
            rw [this.1]
            show @Is0 R0 (.int .i64 (pw j)) _
            rw [ew]; exact @Is0.int R0 _ _
        have sI : @Is0 R0 (subI j sd) (.int .i64 i') := by
          cases sd
          · have := hf' rfl
            refine @Is0.made R0 _ _ _ _ _ ⟨iOk.f.1, trivial⟩ ?_ (by omega) (by omega)
            show @Rho.ρ R0 103 - pw j = _
            rw [e103, ew]; omega
          · have := ht rfl
            rw [this.2.1]; exact iOk
        obtain ⟨q0, q1⟩ := hsub R0 _ _ sN sI
        have hgd : (sdF x y len k).good = true := good2 (@Is0.l R _ _ hx) (@Is0.l R _ _ hy) (by rfl)
        have hbb : (sdF x y len k).new.all (fun A => beqB A A) = true := by
          show (beqB (rowB k) (rowB k) && true) = true
          simp [beqB, tlSame, beqL, EK.no]
        by_cases hd0 : depN n' i' = 0
        · have hF : @Fct.Holds R0 Try.prog 30 (sdC (cnA j) (ciA j sd) sd) :=
            @Fct.holds R0 Try.prog (orcOf [(30, [sd0 (subN j sd) (subI j sd)])]) noKnow (@noKnow_ok R0) fit (@orcOf_ok R0 _ _ ⟨fun F hF => by obtain rfl := List.mem_singleton.1 hF; exact q0 hd0, trivial⟩) 5000 30 _ g0.1 g0.2
          have hs1 : sideL n i = [if sd then 1 else 0] := by
            have : sideL n' i' = [] := List.length_eq_zero_iff.1 (by rw [side_len]; exact hd0)
            rw [hsl, this]; rfl
          rw [hdep, hd0] at hle
          refine Fct.move hF hgd rfl rfl (fun B π w h => st0_swap h) (fun π vs h => args2 hx hy nOk iOk h) (fun π lm c r => ?_) rfl hbb (fun t A1 A2 e1 e2 => ?_)
          · letI := R
            obtain ⟨b', m, cap', hp, rfl, hex⟩ := @VR.slice_inv R0 _ _ _ _ _ _ _ _ _ r
            rcases hex with ⟨h, _⟩ | ⟨_, h3, h4⟩
            · cases h
            · have so : SlOk (.lit 0) len len := ⟨trivial, hlo, hlo, Int.le_refl _, by rw [hle]; decide, Int.le_refl _⟩
              have := VR.slsIn (π := π) (lm := []) (cap' := cap') so hp (by rw [hle]; exact h3) (by simpa [SX.eval] using h4)
              rw [hle] at this
              exact this
          · match t, e1, e2 with
            | 0, e1, e2 =>
              obtain rfl := Option.some.inj e1
              obtain rfl := Option.some.inj e2
              refine ⟨rfl, rfl, fun π lm c hl _ => ⟨@LR.nil R _ _, fun k2 d2 hk2 u hu => ?_⟩⟩
              simp only [Option.some.injEq, Prod.mk.injEq] at hk2
              obtain ⟨rfl, rfl⟩ := hk2
              rw [hk.n, hs1] at hu
              have hu0 : u = 0 := by simp at hu; exact hu
              subst hu0
              rw [hk.s, hk.v, hs1]
              obtain ⟨c0, ws, hcs, r0, _⟩ := @LR.uncons R0 _ _ _ _ _ hl
              have r0' : c0 = .bool sd := by cases r0; rfl
              have : c.toList[0]? = some c0 := by
                have h5 : (c.toList.take 1)[0]? = some c0 := by
                  show (c.toList.take [AV.bool sd].length)[0]? = _
                  rw [hcs]; rfl
                rwa [List.getElem?_take_of_lt (by omega)] at h5
              rw [Array.getElem?_toList] at this
              rw [this, r0']
              cases sd <;> rfl
        · have hk0 : @KnowOk R0 (wsdTab sd).know := by
            refine KTab.ok { apps := ?_ }
            intro z hz _ _
            obtain rfl := List.mem_singleton.1 hz
            letI := R0
            have e0 : (SX.lit 0).eval.toNat = 0 := rfl
            have eD : wdpX.eval = (depN n' i' : Int) := e106
            have hl := side_len n' i'
            refine ⟨l61.s, ?_, ?_, trivial⟩
            · have a1 : (List.range (depN n' i')).map (lval 61 .bool) = (List.range (depN n' i')).map (fun t => lval 60 .bool (0 - lskip 60 + t)) := List.map_congr_left fun t ht => by
                have := List.mem_range.1 ht
                have e : (sideL n i).getD t 0 = (sideL n' i').getD t 0 := by rw [hsl]; simp [List.getD, List.getElem?_append_left (show t < (sideL n' i').length by omega)]
                rw [l61.v, l60.s, l60.v, Nat.sub_self, Nat.zero_add, e]
              have a2 : lval 61 .bool (depN n' i') = .bool sd := by
                have e : (sideL n i).getD (depN n' i') 0 = if sd then 1 else 0 := by rw [hsl]; simp [List.getD, ← hl]
                rw [l61.v, e]
                cases sd <;> rfl
              simp only [lvals, descV]
              rw [l61.n, side_len, hdep, eD, e0, List.range_succ, List.map_append, Int.toNat_natCast, List.map_cons, List.map_nil, List.map_cons, List.map_nil, a1, a2]
              rfl
            · simp only [descIn]
              rw [l60.s, l60.n, eD, e0]; omega
          have hF : @Fct.Holds R0 Try.prog 30 (sdF (cnA j) (ciA j sd) (.bin .add wdpX (.lit 1)) 61) :=
            @Fct.holds R0 Try.prog (orcOf [(30, [sdF (subN j sd) (subI j sd) wdpX 60])]) (wsdTab sd).know hk0 fit (@orcOf_ok R0 _ _ ⟨fun F hF => by
              obtain rfl := List.mem_singleton.1 hF
              exact q1 wdpX 60 (by omega) (by show (1 : Int) ≤ @Rho.ρ R0 106 ∧ @Rho.ρ R0 106 ≤ 12; rw [e106]; omega) e106 l60, trivial⟩) 5000 30 _ g1.1 g1.2
          have eL : @SX.eval R0 (.bin .add wdpX (.lit 1)) = (depN n i : Int) := by
            show @Rho.ρ R0 106 + 1 = _
            rw [e106, hdep]; omega
          refine Fct.move hF hgd rfl rfl (fun B π w h => st0_swap h) (fun π vs h => args2 hx hy nOk iOk h) (fun π lm c r => ?_) rfl hbb (fun t A1 A2 e1 e2 => ?_)
          · obtain ⟨so0, b', m, cap', hp, rfl, hex⟩ := (letI := R0; VR.sls_inv r)
            letI := R
            rcases hex with ⟨h, _⟩ | ⟨_, h3, h4⟩
            · cases h
            · have so : SlOk (.lit 0) len len := ⟨trivial, hlo, hlo, Int.le_refl _, by rw [hle]; omega, Int.le_refl _⟩
              have := VR.slsIn (π := π) (lm := []) (cap' := cap') so hp (by rw [hle, ← eL]; exact h3) (by simpa [SX.eval] using h4)
              rw [hle, ← eL] at this
              exact this
          · match t, e1, e2 with
            | 0, e1, e2 =>
              obtain rfl := Option.some.inj e1
              obtain rfl := Option.some.inj e2
              refine ⟨rfl, rfl, fun π lm c _ ht2 => ⟨@LR.nil R _ _, fun k2 d2 hk2 u hu => ?_⟩⟩
              simp only [Option.some.injEq, Prod.mk.injEq] at hk2
              obtain ⟨rfl, rfl⟩ := hk2
              rw [hk.n] at hu
              have := ht2 61 .bool rfl u (by rw [l61.n]; exact hu)
              rw [l61.s, l61.v] at this
              rw [hk.s, hk.v]; exact this
      by_cases hlt : i < hf n
      · refine ⟨fun h0 => by rw [depN_l (by omega) hlt] at h0; omega, fun len k _ hlo hle hk => ?_⟩
        exact side true (hf n) i (fun _ => ⟨rfl, rfl, hlt⟩) (fun h => by cases h) (depN_l (by omega) hlt) (side_l (by omega) hlt) len k hlo hle hk
      · refine ⟨fun h0 => by rw [depN_r (by omega) hlt] at h0; omega, fun len k _ hlo hle hk => ?_⟩
        exact side false (n - hf n) (i - hf n) (fun h => by cases h) (fun _ => ⟨rfl, rfl, hlt⟩) (depN_r (by omega) hlt) (side_r (by omega) hlt) len k hlo hle hk

end Go.Proofs.Ytdenpaifjpmkgaa
