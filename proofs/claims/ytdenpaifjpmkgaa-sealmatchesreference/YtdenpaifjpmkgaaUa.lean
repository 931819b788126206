/- Trees of digests: what the reference's Sides and Up answer. -/
import Derived.Test.YtdenpaifjpmkgaaEvR2
import Derived.Test.YtdenpaifjpmkgaaTk0
namespace Go.Proofs.Ytdenpaifjpmkgaa
open Go.Ev
open Go.RowKit (Below)
set_option maxRecDepth 100000
set_option linter.unusedVariables false
set_option linter.unusedSectionVars false

/-! ### Sides -/
theorem side_1 {n i : Nat} (h : n < 2) : sideL n i = [] := by rw [sideL, dif_pos h]
theorem side_l {n i : Nat} (h : 2 ≤ n) (hi : i < hf n) : sideL n i = sideL (hf n) i ++ [1] := by rw [sideL, dif_neg (by omega), if_pos hi]
theorem side_r {n i : Nat} (h : 2 ≤ n) (hi : ¬ i < hf n) : sideL n i = sideL (n - hf n) (i - hf n) ++ [0] := by rw [sideL, dif_neg (by omega), if_neg hi]
theorem side_len (n i : Nat) : (sideL n i).length = depN n i := by
  induction n using Nat.strongRecOn generalizing i with
  | ind n ih =>
    by_cases h2 : n < 2
    · rw [side_1 h2, depN_1 h2]; rfl
    · have hb := hf_bd (show 2 ≤ n by omega)
      by_cases hi : i < hf n
      · rw [side_l (by omega) hi, depN_l (by omega) hi, List.length_append, ih (hf n) hb.2.1]; rfl
      · rw [side_r (by omega) hi, depN_r (by omega) hi, List.length_append, ih (n - hf n) (by omega)]; rfl

/-- a list letter of truths -/
structure LetB (R : Rho) (k : Nat) (l : List Int) : Prop where
  s : @lskip R k = 0
  n : @llen R k = l.length
  v : ∀ i, @lval R k .bool i = .bool (decide (l.getD i 0 ≠ 0))

noncomputable abbrev rowB (k : Nat) : ABlk := { elem := 4, cells := [], ro := false, tl := some (k, .bool) }
noncomputable abbrev sd0 (x y : AV) : Fct := ⟨[x, y], [], .slice 0 0 0 0 true 1, [0], [{ elem := 4, cells := [], ro := false }]⟩
noncomputable abbrev sdF (x y : AV) (len : SX) (k : Nat) : Fct := ⟨[x, y], [], .sls 2 (.lit 0) len len false, [2], [rowB k]⟩
/-- one digest -/
theorem sd_one : ((sd0 (.int .i64 1) (.int .i64 0)).good && (sd0 (.int .i64 1) (.int .i64 0)).got ((@evF noKnow Try.prog noOrc 5000).call 30 [.int .i64 1, .int .i64 0] st0)) = true := by kernel_rfl
/-- one level above one digest -/
noncomputable abbrev sdC (x y : AV) (b : Bool) : Fct := ⟨[x, y], [], .slice 2 0 1 1 false 1, [2], [{ elem := 4, cells := [.bool b], ro := false }]⟩
noncomputable def sdG0 (j : Nat) (sd : Bool) : Bool := (sdC (cnA j) (ciA j sd) sd).good && (sdC (cnA j) (ciA j sd) sd).got ((@evF noKnow Try.prog (orcOf [(30, [sd0 (subN j sd) (subI j sd)])]) 5000).call 30 [cnA j, ciA j sd] st0)
noncomputable abbrev dpX : SX := .var 106 1 9
noncomputable def sdTab (sd : Bool) : KTab := { apps := [(.bool, .lst 60 (.lit 0) dpX, .cells [.bool sd], 61)] }
noncomputable def sdG1 (j : Nat) (sd : Bool) : Bool := (sdF (cnA j) (ciA j sd) (.bin .add dpX (.lit 1)) 61).good &&
  (sdF (cnA j) (ciA j sd) (.bin .add dpX (.lit 1)) 61).got ((@evF (sdTab sd).know Try.prog (orcOf [(30, [sdF (subN j sd) (subI j sd) dpX 60])]) 5000).call 30 [cnA j, ciA j sd] st0)
theorem sdG_all : (List.range 9).all (fun j => (sdG0 j true && sdG0 j false) && (sdG1 j true && sdG1 j false)) = true := by kernel_rfl

theorem good2 {x y v : AV} {sel : List Nat} {new : List ABlk} (hx : x.lone = true) (hy : y.lone = true) (h : (Fct.mk [.int .i64 0, .int .i64 0] [] v sel new).good = true) : (Fct.mk [x, y] [] v sel new).good = true := by
  simp only [Fct.good, Bool.and_eq_true, List.all_cons, List.all_nil] at h ⊢
  exact ⟨h.1, ⟨lone_all1 hx, lone_all1 hy, trivial⟩, h.2.2⟩
theorem st0_swap {R1 R2 : Rho} {B : Nat} {π : Inj} {w : World} {x y x' y' v v' : AV} {sel sel' : List Nat} {new new' : List ABlk} (h : @WR R2 B π [] (Fct.mk [x, y] [] v sel new).st w) : @WR R1 B π [] (Fct.mk [x', y'] [] v' sel' new').st w :=
  WR.swapX (s := (Fct.mk [x', y'] [] v' sel' new').st) rfl (fun i A hA => by simp [Fct.st] at hA) h
theorem args2 {R1 R2 : Rho} {π : Inj} {x y x' y' : AV} {n i : Int} (hx : @Is0 R2 x (.int .i64 n)) (hy : @Is0 R2 y (.int .i64 i)) (hx' : @Is0 R1 x' (.int .i64 n)) (hy' : @Is0 R1 y' (.int .i64 i)) {vs : List Value} (h : @LR R2 π [] [x, y] vs) : @LR R1 π [] [x', y'] vs := by
  obtain ⟨c0, w0, rfl, r1, r2⟩ := @LR.uncons R2 _ _ _ _ _ h
  obtain ⟨c1, w1, rfl, r3, r4⟩ := @LR.uncons R2 _ _ _ _ _ r2
  obtain rfl := @LR.nil_inv R2 _ _ _ r4
  obtain rfl := @Is0.eq R2 _ _ _ _ _ hx r1
  obtain rfl := @Is0.eq R2 _ _ _ _ _ hy r3
  letI := R1
  have a := vl0_rel (π := π) (lm := []) hx'.l hx'.f
  have b := vl0_rel (π := π) (lm := []) hy'.l hy'.f
  rw [hx'.v] at a
  rw [hy'.v] at b
  exact LR.cons a (LR.cons b LR.nil)

theorem flat_sl {R : Rho} {π : Inj} {lm : List Nat} {c : Value} (r : @VR R π lm (.slice 0 0 0 0 true 1) c) : @VR R π [] (.slice 0 0 0 0 true 1) c := by
  cases r with
  | sliceEx h => exact @VR.sliceEx R _ _ _ _ _ _ _ _ _ h

def SidesOk (n i : Nat) : Prop := ∀ (R : Rho) (x y : AV), @Is0 R x (.int .i64 n) → @Is0 R y (.int .i64 i) →
  (depN n i = 0 → @Fct.Holds R Try.prog 30 (sd0 x y)) ∧
  (∀ (len : SX) (k : Nat), 0 < depN n i → @SX.ok R len → @SX.eval R len = (depN n i : Int) → LetB R k (sideL n i) → @Fct.Holds R Try.prog 30 (sdF x y len k))

def numS (n i d a : Nat) : Int := if a = 103 then i else if a = 104 then n else if a = 106 then d else 0
@[reducible] def rS (n i d : Nat) (l60 l61 : List Int) : Rho := mkRho (numS n i d) (fun k => if k = 60 then (0, l60) else if k = 61 then (0, l61) else (0, []))
theorem rS_let {n i d : Nat} {l60 l61 : List Int} : LetB (rS n i d l60 l61) 60 l60 ∧ LetB (rS n i d l60 l61) 61 l61 :=
  ⟨⟨mk_skip (by omega), mk_len (by omega), fun t => mk_val (by omega) _ t⟩, ⟨mk_skip (by omega), mk_len (by omega), fun t => mk_val (by omega) _ t⟩⟩

theorem sides_ok : ∀ (n i : Nat), 1 ≤ n → n ≤ 512 → i < n → SidesOk n i := by
  intro n
  induction n using Nat.strongRecOn with
  | ind n ih =>
    intro i h1 hn hi R x y hx hy
    by_cases h2 : n < 2
    · obtain rfl : n = 1 := by omega
      obtain rfl : i = 0 := by omega
      refine ⟨fun _ => ?_, fun len k h0 => by rw [depN_1 h2] at h0; omega⟩
      have hg := sd_one
      rw [Bool.and_eq_true] at hg
      have hF : @Fct.Holds R Try.prog 30 (sd0 (.int .i64 1) (.int .i64 0)) := by
        letI := R
        exact @Fct.holds R Try.prog noOrc noKnow noKnow_ok fit (noOrc_ok _) 5000 30 _ hg.1 hg.2
      refine Fct.move hF (good2 hx.l hy.l (by rfl)) rfl rfl (fun B π w h => st0_swap h) (fun π vs h => args2 hx hy (@Is0.int R .i64 1) (@Is0.int R .i64 0) h) (fun π lm c r => ?_) rfl rfl (fun t A1 A2 e1 e2 => ?_)
      · exact @flat_sl R π lm c r
      · match t, e1, e2 with
        | 0, e1, e2 =>
          obtain rfl := Option.some.inj e1
          obtain rfl := Option.some.inj e2
          exact ⟨rfl, rfl, fun π lm c _ _ => ⟨@LR.nil R _ _, @TailOk.none R _ _ rfl⟩⟩
    · obtain ⟨j, hj, hj1, hj2, hj3⟩ := hf_class (show 2 ≤ n by omega) hn
      have hb := hf_bd (show 2 ≤ n by omega)
      have ew : pw j = ((hf n : Nat) : Int) := by rw [hj3]
      have ew2 : pw (j + 1) = ((2 ^ (j + 1) : Nat) : Int) := rfl
      have hj2' : (n : Int) ≤ pw (j + 1) := by rw [ew2]; exact_mod_cast hj2
      have side : ∀ (sd : Bool) (n' i' : Nat), (sd = true → n' = hf n ∧ i' = i ∧ i < hf n) → (sd = false → n' = n - hf n ∧ i' = i - hf n ∧ ¬ i < hf n) → depN n i = depN n' i' + 1 → sideL n i = sideL n' i' ++ [if sd then 1 else 0] →
          ∀ (len : SX) (k : Nat), @SX.ok R len → @SX.eval R len = (depN n i : Int) → LetB R k (sideL n i) → @Fct.Holds R Try.prog 30 (sdF x y len k) := by
        intro sd n' i' ht hf' hdep hsl len k hlo hle hk
        have hn' : n' < n ∧ 1 ≤ n' ∧ i' < n' := by
          cases sd
          · have := hf' rfl; omega
          · have := ht rfl; omega
        have hd9 : depN n' i' ≤ 9 := by have := dep_le 9 n' i' (by omega); omega
        have hsub := ih n' hn'.1 i' hn'.2.1 (by omega) hn'.2.2
        have hg := List.all_eq_true.1 sdG_all j (List.mem_range.2 hj)
        simp only [Bool.and_eq_true] at hg
        have g0 : sdG0 j sd = true := by cases sd; exact hg.1.2; exact hg.1.1
        have g1 : sdG1 j sd = true := by cases sd; exact hg.2.2; exact hg.2.1
        unfold sdG0 at g0
        unfold sdG1 at g1
        rw [Bool.and_eq_true] at g0 g1
        let R0 := rS n i (depN n' i') (sideL n' i') (sideL n i)
        have e103 : @Rho.ρ R0 103 = (i : Int) := mk_num (by omega)
        have e104 : @Rho.ρ R0 104 = (n : Int) := mk_num (by omega)
        have e106 : @Rho.ρ R0 106 = (depN n' i' : Int) := mk_num (by omega)
        obtain ⟨l60, l61⟩ := rS_let (n := n) (i := i) (d := depN n' i') (l60 := sideL n' i') (l61 := sideL n i)
        have nOk : @Is0 R0 (cnA j) (.int .i64 n) := @Is0.var R0 _ _ _ _ _ e104 (by omega) hj2'
        have iOk : @Is0 R0 (ciA j sd) (.int .i64 i) := by
          cases sd
          · have := hf' rfl
            exact @Is0.var R0 _ _ _ _ _ e103 (by omega) (by omega)
          · have := ht rfl
            exact @Is0.var R0 _ _ _ _ _ e103 (by omega) (by omega)
        have sN : @Is0 R0 (subN j sd) (.int .i64 n') := by
          cases sd
          · have := hf' rfl
            refine @Is0.made R0 _ _ _ _ _ ⟨nOk.f.1, trivial⟩ ?_ (by omega) (by omega)
            show @Rho.ρ R0 104 - pw j = _
            rw [e104, ew]; omega
          · have := ht rfl
            rw [this.1]
            show @Is0 R0 (.int .i64 (pw j)) _
            rw [ew]; exact @Is0.int R0 _ _
        have sI : @Is0 R0 (subI j sd) (.int .i64 i') := by
          cases sd
          · have := hf' rfl
            refine @Is0.made R0 _ _ _ _ _ ⟨iOk.f.1, trivial⟩ ?_ (by omega) (by omega)
            show @Rho.ρ R0 103 - pw j = _
            rw [e103, ew]; omega
          · have := ht rfl
            rw [this.2.1]; exact iOk
        obtain ⟨q0, q1⟩ := hsub R0 _ _ sN sI
        have hgd : (sdF x y len k).good = true := good2 (@Is0.l R _ _ hx) (@Is0.l R _ _ hy) (by rfl)
        have hbb : (sdF x y len k).new.all (fun A => beqB A A) = true := by
          show (beqB (rowB k) (rowB k) && true) = true
          simp [beqB, tlSame, beqL, EK.no]
        by_cases hd0 : depN n' i' = 0
        · have hF : @Fct.Holds R0 Try.prog 30 (sdC (cnA j) (ciA j sd) sd) :=
            @Fct.holds R0 Try.prog (orcOf [(30, [sd0 (subN j sd) (subI j sd)])]) noKnow (@noKnow_ok R0) fit (@orcOf_ok R0 _ _ ⟨fun F hF => by obtain rfl := List.mem_singleton.1 hF; exact q0 hd0, trivial⟩) 5000 30 _ g0.1 g0.2
          have hs1 : sideL n i = [if sd then 1 else 0] := by
            have : sideL n' i' = [] := List.length_eq_zero_iff.1 (by rw [side_len]; exact hd0)
            rw [hsl, this]; rfl
          rw [hdep, hd0] at hle
          refine Fct.move hF hgd rfl rfl (fun B π w h => st0_swap h) (fun π vs h => args2 hx hy nOk iOk h) (fun π lm c r => ?_) rfl hbb (fun t A1 A2 e1 e2 => ?_)
          · letI := R
            obtain ⟨b', m, cap', hp, rfl, hex⟩ := @VR.slice_inv R0 _ _ _ _ _ _ _ _ _ r
            rcases hex with ⟨h, _⟩ | ⟨_, h3, h4⟩
            · cases h
            · have so : SlOk (.lit 0) len len := ⟨trivial, hlo, hlo, Int.le_refl _, by rw [hle]; decide, Int.le_refl _⟩
              have := VR.slsIn (π := π) (lm := []) (cap' := cap') so hp (by rw [hle]; exact h3) (by simpa [SX.eval] using h4)
              rw [hle] at this
              exact this
          · match t, e1, e2 with
            | 0, e1, e2 =>
              obtain rfl := Option.some.inj e1
              obtain rfl := Option.some.inj e2
              refine ⟨rfl, rfl, fun π lm c hl _ => ⟨@LR.nil R _ _, fun k2 d2 hk2 u hu => ?_⟩⟩
              simp only [Option.some.injEq, Prod.mk.injEq] at hk2
              obtain ⟨rfl, rfl⟩ := hk2
              rw [hk.n, hs1] at hu
              have hu0 : u = 0 := by simp at hu; exact hu
              subst hu0
              rw [hk.s, hk.v, hs1]
              obtain ⟨c0, ws, hcs, r0, _⟩ := @LR.uncons R0 _ _ _ _ _ hl
              have r0' : c0 = .bool sd := by cases r0; rfl
              have : c.toList[0]? = some c0 := by
                have h5 : (c.toList.take 1)[0]? = some c0 := by
                  show (c.toList.take [AV.bool sd].length)[0]? = _
                  rw [hcs]; rfl
                rwa [List.getElem?_take_of_lt (by omega)] at h5
              rw [Array.getElem?_toList] at this
              rw [this, r0']
              cases sd <;> rfl
        · have hk0 : @KnowOk R0 (sdTab sd).know := by
            refine KTab.ok { apps := ?_ }
            intro z hz _ _
            obtain rfl := List.mem_singleton.1 hz
            letI := R0
            have e0 : (SX.lit 0).eval.toNat = 0 := rfl
            have eD : dpX.eval = (depN n' i' : Int) := e106
            have hl := side_len n' i'
            refine ⟨l61.s, ?_, ?_, trivial⟩
            · have a1 : (List.range (depN n' i')).map (lval 61 .bool) = (List.range (depN n' i')).map (fun t => lval 60 .bool (0 - lskip 60 + t)) := List.map_congr_left fun t ht => by
                have := List.mem_range.1 ht
                have e : (sideL n i).getD t 0 = (sideL n' i').getD t 0 := by rw [hsl]; simp [List.getD, List.getElem?_append_left (show t < (sideL n' i').length by omega)]
                rw [l61.v, l60.s, l60.v, Nat.sub_self, Nat.zero_add, e]
              have a2 : lval 61 .bool (depN n' i') = .bool sd := by
                have e : (sideL n i).getD (depN n' i') 0 = if sd then 1 else 0 := by rw [hsl]; simp [List.getD, ← hl]
                rw [l61.v, e]
                cases sd <;> rfl
              simp only [lvals, descV]
              rw [l61.n, side_len, hdep, eD, e0, List.range_succ, List.map_append, Int.toNat_natCast, List.map_cons, List.map_nil, List.map_cons, List.map_nil, a1, a2]
              rfl
            · simp only [descIn]
              rw [l60.s, l60.n, eD, e0]; omega
          have hF : @Fct.Holds R0 Try.prog 30 (sdF (cnA j) (ciA j sd) (.bin .add dpX (.lit 1)) 61) :=
            @Fct.holds R0 Try.prog (orcOf [(30, [sdF (subN j sd) (subI j sd) dpX 60])]) (sdTab sd).know hk0 fit (@orcOf_ok R0 _ _ ⟨fun F hF => by
              obtain rfl := List.mem_singleton.1 hF
              exact q1 dpX 60 (by omega) (by show (1 : Int) ≤ @Rho.ρ R0 106 ∧ @Rho.ρ R0 106 ≤ 9; rw [e106]; omega) e106 l60, trivial⟩) 5000 30 _ g1.1 g1.2
          have eL : @SX.eval R0 (.bin .add dpX (.lit 1)) = (depN n i : Int) := by
            show @Rho.ρ R0 106 + 1 = _
            rw [e106, hdep]; omega
          refine Fct.move hF hgd rfl rfl (fun B π w h => st0_swap h) (fun π vs h => args2 hx hy nOk iOk h) (fun π lm c r => ?_) rfl hbb (fun t A1 A2 e1 e2 => ?_)
          · obtain ⟨so0, b', m, cap', hp, rfl, hex⟩ := (letI := R0; VR.sls_inv r)
            letI := R
            rcases hex with ⟨h, _⟩ | ⟨_, h3, h4⟩
            · cases h
            · have so : SlOk (.lit 0) len len := ⟨trivial, hlo, hlo, Int.le_refl _, by rw [hle]; omega, Int.le_refl _⟩
              have := VR.slsIn (π := π) (lm := []) (cap' := cap') so hp (by rw [hle, ← eL]; exact h3) (by simpa [SX.eval] using h4)
              rw [hle, ← eL] at this
              exact this
          · match t, e1, e2 with
            | 0, e1, e2 =>
              obtain rfl := Option.some.inj e1
              obtain rfl := Option.some.inj e2
              refine ⟨rfl, rfl, fun π lm c _ ht2 => ⟨@LR.nil R _ _, fun k2 d2 hk2 u hu => ?_⟩⟩
              simp only [Option.some.injEq, Prod.mk.injEq] at hk2
              obtain ⟨rfl, rfl⟩ := hk2
              rw [hk.n] at hu
              have := ht2 61 .bool rfl u (by rw [l61.n]; exact hu)
              rw [l61.s, l61.v] at this
              rw [hk.s, hk.v]; exact this
      by_cases hlt : i < hf n
      · refine ⟨fun h0 => by rw [depN_l (by omega) hlt] at h0; omega, fun len k _ hlo hle hk => ?_⟩
        exact side true (hf n) i (fun _ => ⟨rfl, rfl, hlt⟩) (fun h => by cases h) (depN_l (by omega) hlt) (side_l (by omega) hlt) len k hlo hle hk
      · refine ⟨fun h0 => by rw [depN_r (by omega) hlt] at h0; omega, fun len k _ hlo hle hk => ?_⟩
        exact side false (n - hf n) (i - hf n) (fun h => by cases h) (fun _ => ⟨rfl, rfl, hlt⟩) (depN_r (by omega) hlt) (side_r (by omega) hlt) len k hlo hle hk

/-! ### Up -/
def upI (h o : Int) (b : Bool) : Int := if b then joinI h o else joinI o h
theorem upI_u64 (h o : Int) (b : Bool) : u64 (upI h o b) := by cases b <;> exact joinI_u64 _ _
theorem up_run : (okRun Try.prog noOrc 31 [dA 1, dA 2, .bool true] (.sym .u64 (jnX (dX 1) (dX 2)) 0 MU) && okRun Try.prog noOrc 31 [dA 1, dA 2, .bool false] (.sym .u64 (jnX (dX 2) (dX 1)) 0 MU)) = true := by kernel_rfl
theorem up_c (h o : Int) (b : Bool) (hh : u64 h) (ho : u64 o) (W : World) : Calls Try.prog 31 #[.int .u64 h, .int .u64 o, .bool b] W fun e W' => e = .returned (.int .u64 (upI h o b)) ∧ Below W.heap.size W W' := by
  letI := rho [0, h, o]
  have hr := up_run
  rw [Bool.and_eq_true] at hr
  have f1 : (dA 1).fine1 := ⟨hh, hh⟩
  have f2 : (dA 2).fine1 := ⟨ho, ho⟩
  cases b
  · refine (run_open (args := [dA 1, dA 2, .bool false]) fit (noOrc_ok _) hr.2 ⟨f1, f2, trivial, trivial⟩ W).mono ?_
    rintro e W' ⟨rfl, hb⟩
    refine ⟨?_, hb⟩
    show Ending.returned (.int .u64 (jnX (dX 2) (dX 1)).eval) = _
    rw [jnX_eval]; rfl
  · refine (run_open (args := [dA 1, dA 2, .bool true]) fit (noOrc_ok _) hr.1 ⟨f1, f2, trivial, trivial⟩ W).mono ?_
    rintro e W' ⟨rfl, hb⟩
    refine ⟨?_, hb⟩
    show Ending.returned (.int .u64 (jnX (dX 1) (dX 2)).eval) = _
    rw [jnX_eval]; rfl
theorem up_fct {R : Rho} {h o : Int} {b : Bool} {x y v : AV} (hh : u64 h) (ho : u64 o) (hx : @Is0 R x (.int .u64 h)) (hy : @Is0 R y (.int .u64 o)) (hv : @Is0 R v (.int .u64 (upI h o b))) : @Fct.Holds R Try.prog 31 (Fct.mk [x, y, .bool b] [] v [] []) := by
  letI := R
  refine fct_flat ?_ ?_ (lone_flat hv.l) (lone_fine hv.l hv.f) (by kernel_rfl) (fun w => ?_)
  · show (true && ((all1 _ x && (all1 _ y && (true && true))) && (all2 _ v && (true && (true && true))))) = true
    rw [lone_all1 hx.l, lone_all1 hy.l, lone_all2 hv.l]; rfl
  · show (x.flat1 && (y.flat1 && (true && true))) = true
    rw [lone_flat1 hx.l, lone_flat1 hy.l]; rfl
  · rw [lone_vl hv.l, hv.v]
    show Calls Try.prog 31 #[x.vl1, y.vl1, .bool b] w _
    rw [lone_vl1 hx.l, lone_vl1 hy.l, hx.v, hy.v]
    exact up_c h o b hh ho w
end Go.Proofs.Ytdenpaifjpmkgaa
