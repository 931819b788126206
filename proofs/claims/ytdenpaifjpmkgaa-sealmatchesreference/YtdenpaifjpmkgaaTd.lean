/- Trees of digests: the recursion that collects a path. -/
import Derived.Test.YtdenpaifjpmkgaaTc
namespace Go.Proofs.Ytdenpaifjpmkgaa
open Go.Ev
open Go.RowKit (Below)
set_option maxRecDepth 100000
set_option linter.unusedVariables false
set_option linter.unusedSectionVars false

noncomputable abbrev rowC : ABlk := { elem := 73, cells := [.fn 47 [] [.ptr 2 0, .ptr 1 0]], ro := false }
noncomputable abbrev rowP (v : AV) : ABlk := { elem := 25, cells := [v], ro := false }
/-- before the path is collected -/
noncomputable def cst (k lo : Nat) : St := { heap := [some (rowD k), some (rowP .nilSlice), some rowC], lo := lo, loops := [], nd := 0 }
noncomputable def cells4 (d : Nat) : List AV := (List.range d).map fun t => dA (4 + t)
noncomputable def pRow (d : Nat) : ABlk := { elem := 24, cells := cells4 d, ro := false }
noncomputable def pRows (d : Nat) : List (Option ABlk) := (List.range d).flatMap fun t => [some { elem := 24, cells := [dA (4 + t)], ro := false }, if Nat.beq (t + 1) d then some (pRow d) else none]
/-- behind it: a path of d digests, the letters 4, 5, .. -/
noncomputable def cSt (k d lo : Nat) : St := match d with
  | 0 => cst k lo
  | d + 1 => { heap := [some (rowD k), some (rowP (.slice (4 + 2 * d) 0 (d + 1) (d + 1) false 1)), some rowC] ++ pRows (d + 1), lo := min lo 1, loops := [], nd := 0 }
theorem cSt_loops (k d lo : Nat) : (cSt k d lo).loops = [] := by cases d <;> rfl
noncomputable def stabB (s : St) : Bool := s.heap.all (fun b => match b with | some A => stabL 100 A.cells && (match A.tl with | some (k, _) => Nat.blt k 100 | none => true) | none => true)
/-- the list letters of lists of digests: 50: the list, 52: the list with one changed -/
def TwoK (k : Nat) : Prop := k = 50 ∨ k = 52
theorem stabB_all : (List.range 11).all (fun d => (stabB (cSt 50 d 1) && stabB (cSt 50 d 3)) && (stabB (cSt 52 d 1) && stabB (cSt 52 d 3))) = true := by kernel_rfl
theorem stabB_get {k d lo : Nat} (hk : TwoK k) (hd : d < 11) (hlo : lo = 1 ∨ lo = 3) : stabB (cSt k d lo) = true := by
  have := List.all_eq_true.1 stabB_all d (List.mem_range.2 hd)
  simp only [Bool.and_eq_true] at this
  rcases hk with rfl | rfl
  · rcases hlo with rfl | rfl
    · exact this.1.1
    · exact this.1.2
  · rcases hlo with rfl | rfl
    · exact this.2.1
    · exact this.2.2

/-! ### one level -/
noncomputable def colY (j : Nat) : AV := .sls 0 (.free 102) (lenX j) (.free 101) true
noncomputable def slL (j : Nat) : AV := .sls 0 (.free 102) (.lit (pw j)) (.free 101) true
noncomputable def slR (j : Nat) : AV := .sls 0 (.bin .add (.free 102) (.lit (pw j))) (.bin .sub (lenX j) (.lit (pw j))) (.bin .sub (.free 101) (.lit (pw j))) true
noncomputable def colS (j : Nat) (side : Bool) : AV := if side then slL j else slR j
noncomputable def colO (k j : Nat) (side : Bool) (d : Nat) : Fct := ⟨[if side then slR j else slL j], [rowD k], dA (4 + d), [], []⟩
noncomputable def colX (k j : Nat) (side : Bool) (d : Nat) : XF := { f := 47, args := [colS j side, subI j side, .ptr 2 0, .ptr 1 0], s := cst k 3, v := .tup [], s' := cSt k d 3 }
noncomputable def colOrc (k j : Nat) (side : Bool) (d : Nat) : Orc := orcE (orcX [colX k j side d]) (orcOf [(23, [colO k j side d])])
noncomputable def colGot (k j : Nat) (side : Bool) (d lo : Nat) : Bool :=
  match (@evF (tabR j).know Try.prog (colOrc k j side d) 5000).call 47 [colY j, ciA j side, .ptr 2 0, .ptr 1 0] (cst k lo) with
  | some (v1, s1, _) => v1.same (.tup []) && sameSt s1 (cSt k (d + 1) lo)
  | none => false
noncomputable def colGot2 (k j : Nat) : Bool := (colGot k j true j 1 && colGot k j true j 3) && (List.range (j + 1)).all fun d => colGot k j false d 1 && colGot k j false d 3
theorem colGot_50 : (List.range 9).all (colGot2 50) = true := by kernel_rfl
theorem colGot_52 : (List.range 9).all (colGot2 52) = true := by kernel_rfl
theorem colGot_get {k j d lo : Nat} (hk : TwoK k) (hj : j < 9) (side : Bool) (hd : d ≤ j) (hs : side = true → d = j) (hlo : lo = 1 ∨ lo = 3) : colGot k j side d lo = true := by
  have : colGot2 k j = true := by
    rcases hk with rfl | rfl
    · exact List.all_eq_true.1 colGot_50 j (List.mem_range.2 hj)
    · exact List.all_eq_true.1 colGot_52 j (List.mem_range.2 hj)
  simp only [colGot2, Bool.and_eq_true, List.all_eq_true] at this
  cases side
  · have h := this.2 d (List.mem_range.2 (by omega))
    rcases hlo with rfl | rfl
    · exact h.1
    · exact h.2
  · obtain rfl := hs rfl
    rcases hlo with rfl | rfl
    · exact this.1.1
    · exact this.1.2
noncomputable def colGot1 (k lo : Nat) : Bool :=
  match (@evF noKnow Try.prog noOrc 5000).call 47 [.sls 0 (.free 102) (.lit 1) (.free 101) true, .int .i64 0, .ptr 2 0, .ptr 1 0] (cst k lo) with
  | some (v1, s1, _) => v1.same (.tup []) && sameSt s1 (cst k lo)
  | none => false
theorem colGot_1 : ((colGot1 50 1 && colGot1 50 3) && (colGot1 52 1 && colGot1 52 3)) = true := by kernel_rfl

/-! ### other letters for the arguments -/
@[reducible] def over (R : Rho) (n cap off i : Nat) : Rho := ⟨fun a => if a = 100 then n else if a = 101 then cap else if a = 102 then off else if a = 103 then i else @Rho.ρ R a⟩
section
variable {R : Rho} {n cap off i : Nat}
theorem over_at {a : Nat} (h : a < 100 ∨ 103 < a) : @Rho.ρ (over R n cap off i) a = @Rho.ρ R a := by
  show (if a = 100 then _ else _) = _
  rw [if_neg (by omega), if_neg (by omega), if_neg (by omega), if_neg (by omega)]
theorem over_lst (k t : Nat) : @Rho.ρ (over R n cap off i) (lix k t) = @Rho.ρ R (lix k t) := over_at (.inr (by unfold lix; omega))
theorem over_agree : Agree 100 R (over R n cap off i) := ⟨fun a ha => (over_at (.inl ha)).symm, fun k t _ => (over_lst k t).symm⟩
theorem over_agree' : Agree 100 (over R n cap off i) R := ⟨fun a ha => over_at (.inl ha), fun k t _ => over_lst k t⟩
end

/-- the list letter k stands for this list -/
structure RowOk (R : Rho) (k : Nat) (L : List Int) (sk : Nat) : Prop where
  skip : @lskip R k = sk
  len : @llen R k = L.length
  val : ∀ i, @lval R k (.int .u64) i = .int .u64 (L.getD i 0)
  u : ∀ x ∈ L, u64 x
theorem RowOk.over {R : Rho} {k : Nat} {L : List Int} {sk n cap off i : Nat} (h : RowOk R k L sk) : RowOk (over R n cap off i) k L sk :=
  ⟨by rw [← h.skip]; unfold lskip; rw [over_lst], by rw [← h.len]; unfold llen; rw [over_lst], fun t => by rw [← h.val t]; unfold lval lel; rw [over_lst], h.u⟩

def SlW (R : Rho) (y : AV) (off n : Nat) : Prop := ∀ π lm c, @VR R π lm y c → ∃ b m cap, π 0 = some (b, m) ∧ c = .slice (some ⟨b, off, none⟩) n cap ∧ n ≤ cap
def InW (R : Rho) (x : AV) (i : Nat) : Prop := ∀ π lm c, @VR R π lm x c → c = .int .i64 i
theorem slW_of {R : Rho} {off len cap : SX} {ex : Bool} {o n : Nat} (h1 : @SX.eval R off = (o : Int)) (h2 : @SX.eval R len = (n : Int)) : SlW R (.sls 0 off len cap ex) o n := by
  intro π lm c r
  letI := R
  obtain ⟨so, b', m, cap', hp, rfl, hex⟩ := VR.sls_inv r
  have := so.n3
  refine ⟨b', m, cap', hp, by rw [h1, h2]; rfl, ?_⟩
  rcases hex with ⟨_, h⟩ | ⟨_, h, _⟩ <;> omega
theorem inW_of {R : Rho} {x : AV} {i : Nat} (h : @Is0 R x (.int .i64 i)) : InW R x i := fun π lm c r => @Is0.eq R _ _ _ _ _ h r

def sub (L : List Int) (o n : Nat) : List Int := (L.drop o).take n
theorem sub_len {L : List Int} {o n : Nat} (h : o + n ≤ L.length) : (sub L o n).length = n := by unfold sub; simp; omega
theorem sub_get {L : List Int} {o n i : Nat} (h : i < n) : (sub L o n).getD i 0 = L.getD (o + i) 0 := by
  unfold sub; simp [List.getD, List.getElem?_take_of_lt h]
theorem sub_u64 {L : List Int} {o n : Nat} (h : ∀ x ∈ L, u64 x) : ∀ x ∈ sub L o n, u64 x := fun x hx => h x (List.mem_of_mem_drop (List.mem_of_mem_take hx))
theorem sub_take {L : List Int} {o n k : Nat} (h : k ≤ n) : (sub L o n).take k = sub L o k := by unfold sub; rw [List.take_take, Nat.min_eq_left h]
theorem sub_drop {L : List Int} {o n k : Nat} : (sub L o n).drop k = sub L (o + k) (n - k) := by unfold sub; rw [List.drop_take, List.drop_drop]

theorem root_at {R : Rho} {k : Nat} {L : List Int} {sk o n : Nat} (hR : RowOk R k L sk) (ho : o + n ≤ L.length) (h1 : 1 ≤ n) (hn : n ≤ 512) {off len cap : SX} {ex : Bool} {v : AV} (e1 : @SX.eval R off = ((sk + o : Nat) : Int)) (e2 : @SX.eval R len = (n : Int))
    (hv : @Is0 R v (.int .u64 (rootL (sub L o n)))) : @Fct.Holds R Try.prog 23 (Fct.mk [.sls 0 off len cap ex] [rowD k] v [] []) := by
  have hl := sub_len ho
  refine root_fct (l := sub L o n) (root_c n hn _ hl h1) (sub_u64 hR.u) (by rw [hl]; exact e2) (by rw [e1, hR.skip]; omega) (by rw [e1, hR.skip, hR.len, hl]; omega) (fun i hi => ?_) hv.l hv.v hv.f
  rw [hl] at hi
  rw [e1, hR.skip, hR.val, sub_get hi]
  congr 2; omega

def ColC (R : Rho) (k sk o n i : Nat) : Prop := ∀ (y x : AV), SlW R y (sk + o) n → InW R x i → ∀ lo, (lo = 1 ∨ lo = 3) → @CallAt R Try.prog 47 [y, x, .ptr 2 0, .ptr 1 0] (cst k lo) (.tup []) (cSt k (depN n i) lo)

/-- from canonical letters to others -/
theorem col_move {R : Rho} {k sk o n i d : Nat} {y x : AV} {yC xC : Nat → AV} {lo : Nat} (hk : TwoK k) (hd : d < 11) (hlo : lo = 1 ∨ lo = 3) (hy : SlW R y (sk + o) n) (hx : InW R x i) (hbody : ∃ fn body, Try.prog.funcs[47]? = some fn ∧ fn.body = some body)
    (hc : ∀ cap, n ≤ cap → @CallAt (over R n cap (sk + o) i) Try.prog 47 [yC cap, xC cap, .ptr 2 0, .ptr 1 0] (cst k lo) (.tup []) (cSt k d lo))
    (ry : ∀ cap, n ≤ cap → ∀ π lm b m, π 0 = some (b, m) → @VR (over R n cap (sk + o) i) π lm (yC cap) (.slice (some ⟨b, sk + o, none⟩) n cap)) (rx : ∀ cap, n ≤ cap → ∀ π lm, @VR (over R n cap (sk + o) i) π lm (xC cap) (.int .i64 i)) :
    @CallAt R Try.prog 47 [y, x, .ptr 2 0, .ptr 1 0] (cst k lo) (.tup []) (cSt k d lo) := by
  refine ⟨hbody, fun B π lm w vs N ro hw hB hl => ?_⟩
  obtain ⟨c0, w0, hvs, r1, r2⟩ := @LR.uncons R _ _ _ _ _ hl
  obtain ⟨c1, w1, rfl, r3, r4⟩ := @LR.uncons R _ _ _ _ _ r2
  obtain ⟨b, m, cap, hp, rfl, hcap⟩ := hy π lm c0 r1
  obtain rfl := hx π lm c1 r3
  have hw' := WR.stab (R2 := over R n cap (sk + o) i) over_agree rfl (stabB_get (k := k) (d := 0) hk (by omega) hlo) hw
  have hl' : @LR (over R n cap (sk + o) i) π lm [yC cap, xC cap, .ptr 2 0, .ptr 1 0] vs.toList := by
    rw [hvs]
    refine @LR.cons (over R n cap (sk + o) i) _ _ _ _ _ _ (ry cap hcap π lm b m hp) (@LR.cons (over R n cap (sk + o) i) _ _ _ _ _ _ (rx cap hcap π lm) ?_)
    exact ⟨r4.1, fun t p q => stab_turn over_agree (r4.2 t p q) (by
      match t, p with
      | 0, _ => rfl
      | 1, _ => rfl)⟩
  refine ((hc cap hcap).2 B π lm w vs N ro hw' hB hl').mono ?_
  rintro e w' ⟨c, π', lm', he, hv, hwr, htr⟩
  refine ⟨c, π', lm', he, stab_turn over_agree' hv rfl, WR.stab over_agree' (cSt_loops k d lo) (stabB_get hk hd hlo) hwr, htr⟩

theorem col_at {k : Nat} (hk2 : TwoK k) : ∀ (n : Nat), n ≤ 512 → 1 ≤ n → ∀ (R : Rho) (L : List Int) (sk o i : Nat), RowOk R k L sk → o + n ≤ L.length → i < n → (∀ t, t < depN n i → @Rho.ρ R (4 + t) = (pathL (sub L o n) i).getD t 0) → ColC R k sk o n i := by
  intro n
  induction n using Nat.strongRecOn with
  | ind n ih =>
    intro hn h1 R L sk o i hR ho hi hpath y x hy hx lo hlo
    have hbody : ∃ fn body, Try.prog.funcs[47]? = some fn ∧ fn.body = some body := hasBody_ok (by kernel_rfl)
    have hdle : depN n i < 11 := by
      have := dep_le 9 n i (by omega); omega
    have eLen : ∀ cap, @Rho.ρ (over R n cap (sk + o) i) 100 = (n : Int) := fun cap => rfl
    have eCap : ∀ cap, @SX.eval (over R n cap (sk + o) i) (.free 101) = (cap : Int) := fun cap => rfl
    have eOff : ∀ cap, @SX.eval (over R n cap (sk + o) i) (.free 102) = ((sk + o : Nat) : Int) := fun cap => rfl
    have eI : ∀ cap, @Rho.ρ (over R n cap (sk + o) i) 103 = (i : Int) := fun cap => rfl
    have slOk : ∀ (cap : Nat) (len : SX), n ≤ cap → @SX.ok (over R n cap (sk + o) i) len → @SX.eval (over R n cap (sk + o) i) len = (n : Int) → ∀ π lm b m, π 0 = some (b, m) → @VR (over R n cap (sk + o) i) π lm (.sls 0 (.free 102) len (.free 101) true) (.slice (some ⟨b, sk + o, none⟩) n cap) := by
      intro cap len hc hlo hle π lm b m hp
      letI := over R n cap (sk + o) i
      have so : SlOk (.free 102) len (.free 101) := ⟨trivial, hlo, trivial, by rw [eOff]; omega, by rw [hle]; omega, by rw [hle, eCap]; omega⟩
      have hr := VR.slsEx (π := π) (lm := lm) (b := 0) (b' := b) (n := m) so hp
      rw [hle, eCap, eOff, Int.toNat_natCast, Int.toNat_natCast, Int.toNat_natCast] at hr
      exact hr
    by_cases h2 : n < 2
    · obtain rfl : n = 1 := by omega
      obtain rfl : i = 0 := by omega
      have hg := colGot_1
      rw [Bool.and_eq_true] at hg
      rw [depN_1 (by omega)]
      refine col_move hk2 (yC := fun _ => .sls 0 (.free 102) (.lit 1) (.free 101) true) (xC := fun _ => .int .i64 0) (by omega) hlo hy hx hbody (fun cap hc => ?_) (fun cap hc π lm b m hp => slOk cap (.lit 1) hc trivial rfl π lm b m hp) (fun cap hc π lm => @VR.int (over R 1 cap (sk + o) 0) _ _ _ _)
      have hg' : colGot1 k lo = true := by
        simp only [Bool.and_eq_true] at hg
        rcases hk2 with rfl | rfl
        · rcases hlo with rfl | rfl
          · exact hg.1.1
          · exact hg.1.2
        · rcases hlo with rfl | rfl
          · exact hg.2.1
          · exact hg.2.2
      exact @call_of Try.prog noOrc (over R 1 cap (sk + o) 0) noKnow (@noKnow_ok (over R 1 cap (sk + o) 0)) fit (@noOrc_ok (over R 1 cap (sk + o) 0) _) 5000 47 _ (cst k lo) (.tup []) (cst k lo) hg'
    · obtain ⟨j, hj, hj1, hj2, hj3⟩ := hf_class (show 2 ≤ n by omega) hn
      have hb := hf_bd (show 2 ≤ n by omega)
      have hls := sub_len ho
      have ew : pw j = ((hf n : Nat) : Int) := by rw [hj3]
      have ew2 : pw (j + 1) = ((2 ^ (j + 1) : Nat) : Int) := rfl
      have hj2' : (n : Int) ≤ pw (j + 1) := by rw [ew2]; exact_mod_cast hj2
      -- one side
      have side : ∀ (sd : Bool) (n' i' o' : Nat), (sd = true → n' = hf n ∧ i' = i ∧ o' = o ∧ i < hf n) → (sd = false → n' = n - hf n ∧ i' = i - hf n ∧ o' = o + hf n ∧ ¬ i < hf n) → depN n i = depN n' i' + 1 → depN n' i' ≤ j → (sd = true → depN n' i' = j) →
          (pathL (sub L o n) i = pathL (sub L o' n') i' ++ [rootL (if sd then sub L (o + hf n) (n - hf n) else sub L o (hf n))]) → @CallAt R Try.prog 47 [y, x, .ptr 2 0, .ptr 1 0] (cst k lo) (.tup []) (cSt k (depN n i) lo) := by
        intro sd n' i' o' ht hf' hdep hdj hdj2 hpl
        have hn' : n' < n ∧ 1 ≤ n' ∧ i' < n' ∧ o' + n' ≤ L.length := by
          cases sd
          · have := hf' rfl; omega
          · have := ht rfl; omega
        have hlp : (pathL (sub L o' n') i').length = depN n' i' := by rw [path_len, sub_len hn'.2.2.2]
        refine col_move hk2 (yC := fun _ => colY j) (xC := fun _ => ciA j sd) hdle hlo hy hx hbody (fun cap hc => ?_) (fun cap hc π lm b m hp => ?_) (fun cap hc π lm => ?_)
        · letI R0 := over R n cap (sk + o) i
          have hR0 : RowOk R0 k L sk := hR.over
          have hk : @KnowOk R0 (tabR j).know := by
            refine KTab.ok { cmps := ?_ }
            intro z hz
            obtain rfl := List.mem_singleton.1 hz
            refine ⟨by simp [cmpNo], fun _ _ => ?_⟩
            show some (decide (pw j < (cap : Int))) = some true
            simp only [Option.some.injEq, decide_eq_true_eq]; omega
          have eLX : (lenX j).eval = (n : Int) := eLen cap
          have eR1 : (SX.bin .add (.free 102) (.lit (pw j))).eval = ((sk + (o + hf n) : Nat) : Int) := by
            show (SX.free 102).eval + pw j = _
            rw [eOff, ew]; omega
          have eR2 : (SX.bin .sub (lenX j) (.lit (pw j))).eval = ((n - hf n : Nat) : Int) := by
            show (lenX j).eval - pw j = _
            rw [eLX, ew]; omega
          have hp4 : ∀ t, t < depN n i → Rho.ρ (4 + t) = (pathL (sub L o n) i).getD t 0 := fun t ht' => by
            rw [← hpath t ht']; exact over_at (.inl (by omega))
          have iOk : Is0 (ciA j sd) (.int .i64 i) := by
            cases sd
            · have := hf' rfl
              exact Is0.var (eI cap) (by omega) (by omega)
            · have := ht rfl
              exact Is0.var (eI cap) (by omega) (by omega)
          have sI : Is0 (subI j sd) (.int .i64 i') := by
            cases sd
            · have := hf' rfl
              refine Is0.made ⟨iOk.f.1, trivial⟩ ?_ (by omega) (by omega)
              show Rho.ρ 103 - pw j = _
              rw [eI cap, ew]; omega
            · have := ht rfl
              rw [this.2.1]; exact iOk
          have sY : SlW R0 (colS j sd) (sk + o') n' := by
            cases sd
            · have := hf' rfl
              rw [this.1, this.2.2.1]; exact slW_of eR1 eR2
            · have := ht rfl
              rw [this.1, this.2.2.1]; exact slW_of (eOff cap) (by rw [← ew]; rfl)
          have hx' : @CallAt R0 Try.prog 47 [colS j sd, subI j sd, .ptr 2 0, .ptr 1 0] (cst k 3) (.tup []) (cSt k (depN n' i') 3) := by
            refine ih n' hn'.1 (by omega) hn'.2.1 R0 L sk o' i' hR0 hn'.2.2.2 hn'.2.2.1 (fun t ht' => ?_) (colS j sd) (subI j sd) sY (inW_of sI) 3 (.inr rfl)
            rw [hp4 t (by omega), hpl]
            simp only [List.getD]
            rw [List.getElem?_append_left (by omega)]
          have hroot : (colO k j sd (depN n' i')).Holds Try.prog 23 := by
            have hlast : Rho.ρ (4 + depN n' i') = rootL (if sd then sub L (o + hf n) (n - hf n) else sub L o (hf n)) := by
              rw [hp4 _ (by omega), hpl]
              simp only [List.getD]
              rw [List.getElem?_append_right (by omega), hlp]; simp
            cases sd
            · exact root_at hR0 (o := o) (n := hf n) (by omega) hb.1 (by omega) (eOff cap) (by rw [← ew]; rfl) (Is0.dig hlast (rootL_u64 (sub_u64 hR.u)))
            · exact root_at hR0 (o := o + hf n) (n := n - hf n) (by omega) (by omega) (by omega) eR1 eR2 (Is0.dig hlast (rootL_u64 (sub_u64 hR.u)))
          have ho' : OrcOk Try.prog (colOrc k j sd (depN n' i')) := orcE_ok (orcX_ok fun z hz => by obtain rfl := List.mem_singleton.1 hz; exact hx') (orcOf_ok ⟨fun F hF => by obtain rfl := List.mem_singleton.1 hF; exact hroot, trivial⟩)
          have hg := colGot_get hk2 hj sd hdj hdj2 hlo
          rw [hdep]
          exact @call_of Try.prog _ R0 (tabR j).know hk fit ho' 5000 47 _ (cst k lo) (.tup []) (cSt k (depN n' i' + 1) lo) hg
        · refine slOk cap (lenX j) hc ?_ (eLen cap) π lm b m hp
          show pw j + 1 ≤ (n : Int) ∧ (n : Int) ≤ pw (j + 1)
          omega
        · letI R0 := over R n cap (sk + o) i
          have iOk : Is0 (ciA j sd) (.int .i64 i) := by
            cases sd
            · have := hf' rfl
              exact Is0.var (eI cap) (by omega) (by omega)
            · have := ht rfl
              exact Is0.var (eI cap) (by omega) (by omega)
          have := vl0_rel (π := π) (lm := lm) iOk.l iOk.f
          rw [iOk.v] at this
          exact this
      by_cases hlt : i < hf n
      · have hd : depN (hf n) i = j := by rw [hj3]; exact dep_pow j i (by rw [← hj3]; exact hlt)
        exact side true (hf n) i o (fun _ => ⟨rfl, rfl, rfl, hlt⟩) (fun h => by cases h) (depN_l (by omega) hlt) (by omega) (fun _ => hd) (by
          have := pathL_l (l := sub L o n) (i := i) (by omega) (by rw [hls]; exact hlt)
          rw [hls, sub_take (by omega), sub_drop] at this
          exact this)
      · exact side false (n - hf n) (i - hf n) (o + hf n) (fun h => by cases h) (fun _ => ⟨rfl, rfl, rfl, hlt⟩) (depN_r (by omega) hlt) (dep_le j _ _ (by rw [Nat.pow_succ] at hj2; omega)) (fun h => by cases h) (by
          have := pathL_r (l := sub L o n) (i := i) (by omega) (by rw [hls]; exact hlt)
          rw [hls, sub_take (by omega), sub_drop] at this
          exact this)
end Go.Proofs.Ytdenpaifjpmkgaa
