/- SealBinds: what its loop does, from any input. -/
import Derived.Test.YtdenpaifjpmkgaaUf
import Derived.Test.YtdenpaifjpmkgaaUd0
import Derived.Test.YtdenpaifjpmkgaaUd1
import Derived.Test.YtdenpaifjpmkgaaUd2
import Derived.Test.YtdenpaifjpmkgaaUd3
import Derived.Test.YtdenpaifjpmkgaaUg0
namespace Go.Proofs.Ytdenpaifjpmkgaa
open Go.Ev
open Go.RowKit (Below)
set_option maxRecDepth 100000
set_option linter.unusedVariables false
set_option linter.unusedSectionVars false

theorem split_run {P : Program} {orc : Orc} {R : Rho} [Know] [KnowOk] (hP : Fit P) (ho : OrcOk P orc) {N n : Nat} {c : Code} {ts : List AV} {s : St} {t' : T3} {s' : St} (hN : Nat.ble N 512 = true) (hl : ts.length = N) (h : runListF (evF P orc 5000).code N (splitSeq n c).1 (ofL ts) s = some (t', s'))
    {e : AExit} {ts2 : List AV} {s2 : St} (h2 : SAtX P (splitSeq n c).2 R (toL t' N) s' e R ts2 s2) : SAtX P c R ts s e R ts2 s2 := by
  have rel : Rel N (ofL ts) ts := Rel.ofL (by simpa using hN) hl
  obtain ⟨_, k2⟩ := runListF_sim (evF_sim P orc 5000) rel h
  obtain ⟨_, _, k3, _⟩ := ev_sound ho hP.mix hP.name 5000
  exact SAt.split k3 n c ts _ s _ k2 h2

def cfgOk (a p : Nat) (m : Bool) : Prop := (a = 2 ∧ p = 0 ∧ m = true) ∨ (a = 2 ∧ p = 1 ∧ m = false) ∨ (a = 3 ∧ p = 1 ∧ m = false)
theorem bChk_get {a p f : Nat} {m e : Bool} (hc : cfgOk a p m) (hf : (e = true ∧ (f = 10 ∨ f = 6 ∨ f = 7 ∨ f = 8 ∨ f = 9)) ∨ (e = false ∧ (f = 8 ∨ f = 9))) : bChk a p m e f = true ∧ bLps a p m e f = true := by
  rcases hc with ⟨rfl, rfl, rfl⟩ | ⟨rfl, rfl, rfl⟩ | ⟨rfl, rfl, rfl⟩
  · rcases hf with ⟨rfl, rfl | rfl | rfl | rfl | rfl⟩ | ⟨rfl, rfl | rfl⟩
    · exact ⟨bChk_0t10, bLps_0t10⟩
    · exact ⟨bChk_0t6, bLps_0t6⟩
    · exact ⟨bChk_0t7, bLps_0t7⟩
    · exact ⟨bChk_0t8, bLps_0t8⟩
    · exact ⟨bChk_0t9, bLps_0t9⟩
    · exact ⟨bChk_0f8, bLps_0f8⟩
    · exact ⟨bChk_0f9, bLps_0f9⟩
  · rcases hf with ⟨rfl, rfl | rfl | rfl | rfl | rfl⟩ | ⟨rfl, rfl | rfl⟩
    · exact ⟨bChk_1t10, bLps_1t10⟩
    · exact ⟨bChk_1t6, bLps_1t6⟩
    · exact ⟨bChk_1t7, bLps_1t7⟩
    · exact ⟨bChk_1t8, bLps_1t8⟩
    · exact ⟨bChk_1t9, bLps_1t9⟩
    · exact ⟨bChk_1f8, bLps_1f8⟩
    · exact ⟨bChk_1f9, bLps_1f9⟩
  · rcases hf with ⟨rfl, rfl | rfl | rfl | rfl | rfl⟩ | ⟨rfl, rfl | rfl⟩
    · exact ⟨bChk_2t10, bLps_2t10⟩
    · exact ⟨bChk_2t6, bLps_2t6⟩
    · exact ⟨bChk_2t7, bLps_2t7⟩
    · exact ⟨bChk_2t8, bLps_2t8⟩
    · exact ⟨bChk_2t9, bLps_2t9⟩
    · exact ⟨bChk_2f8, bLps_2f8⟩
    · exact ⟨bChk_2f9, bLps_2f9⟩

section
variable {I : InT} (h : I.Ok) (hm : I.m = 60)
/-- the class of a round -/
def bq (I : InT) (j : Nat) : Nat := clsN (I.G.getD I.i 0) I.v I.P (bQ I) (bS I) j
def bC (I : InT) (j : Nat) : Prop := Coll (I.G.getD I.i 0) I.v I.P (bQ I) (bS I) j
theorem bq_div (j : Nat) : bq I j / 2 = kindN (I.G.getD I.i 0) I.v I.P (bQ I) (bS I) j ∧ bq I j % 2 = sideN (bS I) j := by
  have := sideN_lt (S := bS I) j
  unfold bq clsN
  omega
theorem bside (j : Nat) : Nat.beq (sideN (bS I) j) 0 = decide ((bS I).getD j 0 ≠ 0) := by
  unfold sideN
  by_cases h1 : (bS I).getD j 0 ≠ 0
  · rw [if_pos h1, decide_eq_true h1]; rfl
  · rw [if_neg h1, decide_eq_false h1]; rfl
theorem kind_01 {j : Nat} (h1 : bG I j = bH I j) : (kindN (I.G.getD I.i 0) I.v I.P (bQ I) (bS I) j = 0 ↔ I.P.getD j 0 = (bQ I).getD j 0) := by
  have h1' : upsF (I.G.getD I.i 0) I.P (bS I) j = upsF I.v (bQ I) (bS I) j := h1
  unfold kindN
  rw [if_pos h1']
  by_cases h2 : I.P.getD j 0 = (bQ I).getD j 0
  · rw [if_pos h2]; exact ⟨fun _ => h2, fun _ => rfl⟩
  · rw [if_neg h2]; simp only [h2, iff_false]; omega
theorem bq_lt (j : Nat) : bq I j < 6 := by
  have a1 := kind_lt (a := I.G.getD I.i 0) (b := I.v) (P := I.P) (Q := bQ I) (S := bS I) j
  have a2 := bq_div (I := I) j
  have a3 := sideN_lt (S := bS I) j
  omega

include h hm
theorem bLoop_hold {a p f K : Nat} {m : Bool} (hc : cfgOk a p m) (e : Bool) (he : e = true ↔ I.G.getD I.i 0 = I.v) (hk0 : @KnowOk I.R (bTab false a p true e m).know) (hf0 : @FactsOk I.R Try.prog (bFacts false a p true)) (hQ : (bQ I).length = I.d) (hpt : @SX.eval I.R (ptX a p) = (I.d : Int))
    (hpk : ∀ j, @SX.eval (bK I j) (ptX a p) = @SX.eval I.R (ptX a p)) (hK : K ≤ I.d) (hno : ∀ j, j < K → ¬ bC I j) (hkf : @KnowOk (bK I K) (rTab a p f).know)
    (hfv : (f = 10 ∧ bG I K = bH I K) ∨ ((f = 6 ∨ f = 7) ∧ bG I K = bH I K) ∨ ((f = 8 ∨ f = 9) ∧ bG I K ≠ bH I K)) : @Fct.Holds I.R Try.prog 8 (bLaw a) := by
  have hd := t_d h
  -- what came, before each round
  have inv0 : e = false → ∀ j, j ≤ K → bG I j ≠ bH I j := by
    intro h0 j
    induction j with
    | zero =>
      intro _ h1
      have := he.2 h1
      rw [h0] at this; cases this
    | succ j ih =>
      intro hj
      exact no_coll_on (hno j (by omega)) (by rw [kind_2.2 (ih (by omega))]; omega)
  have hfe : (e = true ∧ (f = 10 ∨ f = 6 ∨ f = 7 ∨ f = 8 ∨ f = 9)) ∨ (e = false ∧ (f = 8 ∨ f = 9)) := by
    cases e
    · have := inv0 rfl K (Nat.le_refl _)
      rcases hfv with h1 | h1 | h1
      · exact absurd h1.2 this
      · exact absurd h1.2 this
      · exact .inr ⟨rfl, h1.1⟩
    · refine .inl ⟨rfl, ?_⟩
      rcases hfv with h1 | h1 | h1 <;> omega
  obtain ⟨hck, hlp⟩ := bChk_get hc hfe
  unfold bChk at hck
  simp only [Bool.and_eq_true] at hck
  obtain ⟨c1, c2, c3, c4, c5, c6⟩ := hck
  have hloops := bLps_ok hlp c1
  -- the templates
  have hat1 : ∀ j, (lpB a p m e f).at' (bq I) (j + 1) = if e then bq I j + 1 else bq I j - 3 := fun j => rfl
  have inv1 : e = true → ∀ j, j ≤ K → ((lpB a p m e f).at' (bq I) j ≤ 2 ↔ bG I j = bH I j) := by
    intro h0 j
    cases j with
    | zero =>
      intro _
      have : (lpB a p m e f).at' (bq I) 0 = 0 := rfl
      rw [this]
      exact ⟨fun _ => he.1 h0, fun _ => by omega⟩
    | succ j =>
      intro hj
      rw [hat1, if_pos h0]
      have a2 := bq_div (I := I) j
      have a3 := sideN_lt (S := bS I) j
      constructor
      · intro h1
        exact kind_same (by omega)
      · intro h1
        by_cases h2 : kindN (I.G.getD I.i 0) I.v I.P (bQ I) (bS I) j = 0
        · omega
        · exact absurd h1 (no_coll_on (hno j (by omega)) h2)
  have hval : bVal e f ((lpB a p m e f).at' (bq I) K) = true := by
    unfold bVal
    cases he' : e
    · subst he'
      have := inv0 rfl K (Nat.le_refl _)
      rcases hfv with h1 | h1 | h1
      · exact absurd h1.2 this
      · exact absurd h1.2 this
      · rcases h1.1 with rfl | rfl <;> rfl
    · subst he'
      have i1 := inv1 rfl K (Nat.le_refl _)
      rcases hfv with ⟨rfl, h1⟩ | ⟨rfl | rfl, h1⟩ | ⟨rfl | rfl, h1⟩
      · simpa [Nat.ble_eq] using i1.2 h1
      · simpa [Nat.ble_eq] using i1.2 h1
      · simpa [Nat.ble_eq] using i1.2 h1
      · have : ¬ (lpB a p m true 8).at' (bq I) K ≤ 2 := fun h2 => h1 (i1.1 h2)
        simp [Nat.ble_eq]; omega
      · have : ¬ (lpB a p m true 9).at' (bq I) K ≤ 2 := fun h2 => h1 (i1.1 h2)
        simp [Nat.ble_eq]; omega
  have hlst : (lpB a p m e f).lst ((lpB a p m e f).at' (bq I) K) = f := by
    show (if e then (if Nat.ble ((lpB a p m e f).at' (bq I) K) 2 then (if Nat.beq f 6 || Nat.beq f 7 then f else 10) else (if Nat.beq f 8 || Nat.beq f 9 then f else 10)) else (if Nat.beq f 8 || Nat.beq f 9 then f else 10)) = f
    generalize (lpB a p m e f).at' (bq I) K = i at hval
    unfold bVal at hval
    cases e
    · rcases hfe with ⟨h0, _⟩ | ⟨_, rfl | rfl⟩
      · cases h0
      · rfl
      · rfl
    · rcases hfe with ⟨_, rfl | rfl | rfl | rfl | rfl⟩ | ⟨h0, _⟩
      · have : Nat.ble i 2 = true := by simpa using hval
        simp [this]
      · have : Nat.ble i 2 = true := by simpa using hval
        simp [this]
      · have : Nat.ble i 2 = true := by simpa using hval
        simp [this]
      · have h3 : Nat.ble 3 i = true := by simpa using hval
        have : Nat.ble i 2 = false := by rw [Nat.ble_eq] at h3; rw [← Bool.not_eq_true, Nat.ble_eq]; omega
        simp [this]
      · have h3 : Nat.ble 3 i = true := by simpa using hval
        have : Nat.ble i 2 = false := by rw [Nat.ble_eq] at h3; rw [← Bool.not_eq_true, Nat.ble_eq]; omega
        simp [this]
      · cases h0
  have hcl : ∀ j, j < K → bq I j ∈ (lpB a p m e f).cls ∧ (lpB a p m e f).may ((lpB a p m e f).at' (bq I) j) (bq I j) = true := by
    intro j hj
    have a1 := bq_lt (I := I) j
    have a2 := bq_div (I := I) j
    have a3 := sideN_lt (S := bS I) j
    have a4 := kind_lt (a := I.G.getD I.i 0) (b := I.v) (P := I.P) (Q := bQ I) (S := bS I) j
    constructor
    · show bq I j ∈ (if e then [0, 1, 2, 3, 4, 5] else [4, 5] : List Nat)
      cases e
      · have := kind_2.2 (inv0 rfl j (by omega))
        have : bq I j = 4 ∨ bq I j = 5 := by omega
        simpa using this
      · have : bq I j = 0 ∨ bq I j = 1 ∨ bq I j = 2 ∨ bq I j = 3 ∨ bq I j = 4 ∨ bq I j = 5 := by omega
        simpa using this
    · show (if e then (if Nat.ble ((lpB a p m e f).at' (bq I) j) 2 then Nat.ble (bq I j) 3 else Nat.ble 4 (bq I j)) else true) = true
      cases he' : e
      · rfl
      · subst he'
        have i1 := inv1 rfl j (by omega)
        rw [if_pos rfl]
        by_cases h2 : (lpB a p m true f).at' (bq I) j ≤ 2
        · rw [if_pos (by rw [Nat.ble_eq]; exact h2), Nat.ble_eq]
          have : ¬ kindN (I.G.getD I.i 0) I.v I.P (bQ I) (bS I) j = 2 := fun h3 => kind_2.1 h3 (i1.1 h2)
          omega
        · rw [if_neg (by rw [Nat.ble_eq]; exact h2), Nat.ble_eq]
          have : kindN (I.G.getD I.i 0) I.v I.P (bQ I) (bS I) j = 2 := kind_2.2 fun h3 => h2 (i1.2 h3)
          omega
  have hkn : ∀ j, j < K → @KnowOk (bK I j) ((lpB a p m e f).kn (bq I j)) := by
    intro j hj
    have a1 := bq_lt (I := I) j
    obtain ⟨a2, a2'⟩ := bq_div (I := I) j
    have a4 := kind_lt (a := I.G.getD I.i 0) (b := I.v) (P := I.P) (Q := bQ I) (S := bS I) j
    refine rKnow h (by omega) hQ hpt (hpk j) (by omega) (by rw [a2']; exact bside j) ?_ ?_ ?_
    · rw [a2]
      constructor
      · intro h1; exact kind_2.1 (by omega)
      · intro h1; exact .inl (kind_2.2 h1)
    · rw [a2]
      intro h1
      exact kind_01 (Classical.byContradiction fun h2 => h1 (.inl (kind_2.2 h2)))
    · rw [a2]
      intro h1
      constructor
      · intro h2; omega
      · intro h2; exact absurd h2 (no_coll_on (hno j hj) h1)
  have hob : ∀ j, j < K → Obs (bK I j) (bK I (j + 1)) ((lpB a p m e f).ob (bq I j)) := by
    intro j hj x hx
    obtain ⟨a2, a2'⟩ := bq_div (I := I) j
    have hx' : x ∈ [(dX 140, dX (if Nat.beq (bq I j % 2) 0 then 150 else 151), (0 : Int), MU), (dX 141, dX (if Nat.beq (bq I j % 2) 0 then 152 else 153), (0 : Int), MU), (jL, SX.bin .add jL (.lit 1), (0 : Int), (9 : Int))] := hx
    rw [a2', bside] at hx'
    have gu := bG_u h (j + 1)
    have hu := bH_u h (j + 1)
    simp only [List.mem_cons, List.not_mem_nil, or_false] at hx'
    rcases hx' with rfl | rfl | rfl
    · refine ob_var (v := bG I (j + 1)) k140 ?_ gu.1 gu.2
      rw [bG_succ]
      by_cases hs : (bS I).getD j 0 ≠ 0
      · rw [decide_eq_true hs]; exact k150
      · rw [decide_eq_false hs]; exact k151
    · refine ob_var (v := bH I (j + 1)) k141 ?_ hu.1 hu.2
      rw [bH_succ]
      by_cases hs : (bS I).getD j 0 ≠ 0
      · rw [decide_eq_true hs]; exact k152
      · rw [decide_eq_false hs]; exact k153
    · refine ob_var (v := ((j + 1 : Nat) : Int)) k146 ?_ (by omega) (by omega)
      show @Rho.ρ (bK I j) 146 + 1 = _
      rw [k146]; omega
  have hloop : SAtX Try.prog (.loop (tLoop (tTl (tHd b8)))) I.R (roT 164 (bR1 a p m e)) (roS (bR1 a p m e)) (roE ((lpB a p m e f).fin ((lpB a p m e f).at' (bq I) K))) I.R ((lpB a p m e f).res ((lpB a p m e f).at' (bq I) K)).1 ((lpB a p m e f).res ((lpB a p m e f).at' (bq I) K)).2 := by
    refine (lpB a p m e f).sound (K := K) (q := bq I) (R := I.R) (J := bK I) (@fit I.R) c1 hloops (fun j _ => rOrc h j) hcl hkn ?_ (fun j _ => bJ_agree) ?_ ?_ hob ?_ ?_ ?_
    · show @KnowOk (bK I K) (rTab a p ((lpB a p m e f).lst ((lpB a p m e f).at' (bq I) K))).know
      rw [hlst]; exact hkf
    · intro x hx
      have hx' : x ∈ [(dX 140, dX 21, (0 : Int), MU), (dX 141, dX 17, (0 : Int), MU), (jL, SX.lit 0, (0 : Int), (9 : Int))] := hx
      have gu := bG_u h 0
      have hu := bH_u h 0
      simp only [List.mem_cons, List.not_mem_nil, or_false] at hx'
      rcases hx' with rfl | rfl | rfl
      · exact ob_var (v := bG I 0) k140 (t_num (by omega)) gu.1 gu.2
      · exact ob_var (v := bH I 0) k141 (t_num (by omega)) hu.1 hu.2
      · exact ob_var (v := 0) k146 rfl (by omega) (by omega)
    · intro x hx; cases hx
    · intro j hj x hx; cases hx
    · intro x hx; cases hx
    · intro x hx; cases hx
  have hidx : (lpB a p m e f).at' (bq I) K ∈ (lpB a p m e f).idx := (lpB a p m e f).at_idx (bq I) c1 hcl K (Nat.le_refl _)
  have hend := List.all_eq_true.1 c6 _ hidx
  rw [hval] at hend
  simp only [Bool.not_true, Bool.false_or] at hend
  -- what comes before the loop
  letI := I.R
  have hpre : ∃ t' s', runListF (@evF (bTab false a p true e m).know Try.prog (orcOf (bFacts false a p true)) 5000).code 164 (splitSeq 12 (tBody 8)).1 (ofL (bT0 a)) (bS0 a) = some (t', s') ∧ bPre a p m e = some (.normal, t', s') := by
    have c3' := c3
    unfold bPre at c3' ⊢
    rw [Option.isSome_map] at c3'
    obtain ⟨⟨t', s'⟩, h1⟩ := Option.isSome_iff_exists.1 c3'
    exact ⟨t', s', h1, by rw [h1]; rfl⟩
  obtain ⟨t', s', hp1, hp2⟩ := hpre
  have x1 : SAtX Try.prog (tHd (tHd b8)) I.R (roT 164 (bPre a p m e)) (roS (bPre a p m e)) (roE (bR1 a p m e)) I.R (roT 164 (bR1 a p m e)) (roS (bR1 a p m e)) := @sat_run Try.prog noOrc I.R noKnow noKnow_ok fit (noOrc_ok _) 164 _ _ _ _ rfl c4
  rw [isNo_ok c5] at x1
  have hout : ∀ (ts : List AV) (s : St), bOut ts s = true → SAtX Try.prog b8 I.R (roT 164 (bPre a p m e)) (roS (bPre a p m e)) .ret I.R ts s → Fct.Holds Try.prog 8 (bLaw a) := by
    intro ts s ho x
    unfold bOut at ho
    simp only [Bool.and_eq_true] at ho
    obtain ⟨o1, o2, o3⟩ := ho
    have hv : resultsA Try.prog Try.f8 ts s = some (bLaw a).v := by
      split at o1
      · rename_i v hv
        rw [hv, AV.same_ok o1]; rfl
      · cases o1
    have ha : a = 2 ∨ a = 3 := by rcases hc with ⟨h1, _⟩ | ⟨h1, _⟩ | ⟨h1, _⟩ <;> omega
    have hol : (bLaw a).old.length = 1 ∧ (bLaw a).good = true := by
      rcases ha with rfl | rfl
      · exact ⟨rfl, by kernel_rfl⟩
      · exact ⟨rfl, by kernel_rfl⟩
    rw [hp2] at x
    have hx := @split_run Try.prog (orcOf (bFacts false a p true)) I.R (bTab false a p true e m).know hk0 fit (orcOf_ok hf0) 164 12 (tBody 8) (bT0 a) (bS0 a) t' s' (by rfl) (Nat.eq_of_beq_eq_true c2) hp1 _ _ _ x
    refine holds_at (F := bLaw a) f8_at b8_body ?_ (.inr rfl) hv o2 (.inl (by rw [hol.1]; simpa using o3)) hol.2
    rw [f8_tmps]
    exact hx
  unfold bEnd at hend
  by_cases h10 : Nat.beq f 10 = true
  · rw [if_pos h10] at hend
    simp only [Bool.and_eq_true] at hend
    obtain ⟨d1, d2, d3, d4⟩ := hend
    rw [isE0_ok d1] at hloop
    have x3 : SAtX Try.prog (tTl b8) I.R ((lpB a p m e f).res ((lpB a p m e f).at' (bq I) K)).1 ((lpB a p m e f).res ((lpB a p m e f).at' (bq I) K)).2 (roE (bRest a p m e f ((lpB a p m e f).at' (bq I) K))) I.R (roT 164 (bRest a p m e f ((lpB a p m e f).at' (bq I) K))) (roS (bRest a p m e f ((lpB a p m e f).at' (bq I) K))) :=
      @sat_run Try.prog noOrc I.R noKnow noKnow_ok fit (noOrc_ok _) 164 _ _ _ _ rfl d2
    rw [isRt_ok d3] at x3
    refine hout _ _ d4 ?_
    have := (x1.seq hloop.block).seq x3
    rw [← b8_parts] at this
    exact this
  · rw [if_neg h10] at hend
    simp only [Bool.and_eq_true] at hend
    obtain ⟨d1, d2⟩ := hend
    rw [isRt_ok d1] at hloop
    refine hout _ _ d2 ?_
    have := SAtX.seqR (y := tTl b8) (x1.seq (SAtX.blockR (id := 0) hloop))
    rw [← b8_parts] at this
    exact this
end
end Go.Proofs.Ytdenpaifjpmkgaa
