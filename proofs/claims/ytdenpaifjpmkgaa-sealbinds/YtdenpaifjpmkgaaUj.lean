/- SealBinds: what it answers, whatever it is given. -/
import Derived.Test.YtdenpaifjpmkgaaUh
namespace Go.Proofs.Ytdenpaifjpmkgaa
open Go.Ev
open Go.RowKit (Below)
set_option maxRecDepth 100000
set_option linter.unusedVariables false
set_option linter.unusedSectionVars false

theorem neN {x y : Int} {b : Bool} (e : b = true ↔ x = y) : cmpI .neq x y = some (!b) := by
  show some (x != y) = _
  refine congrArg some ?_
  cases b
  · have : x ≠ y := fun h => by have := e.2 h; cases this
    simp [this]
  · have : x = y := e.1 rfl
    simp [this]
theorem eqN {x y : Int} {b : Bool} (e : b = true ↔ x = y) : cmpI .eql x y = some b := by
  show some (x == y) = _
  refine congrArg some ?_
  rw [Bool.eq_iff_iff, beq_iff_eq, e]
theorem dep_lt : ∀ (n i : Nat), 1 ≤ n → depN n i < n := by
  intro n
  induction n using Nat.strongRecOn with
  | ind n ih =>
    intro i h1
    by_cases h2 : n < 2
    · rw [depN_1 h2]; omega
    · have hb := hf_bd (show 2 ≤ n by omega)
      by_cases hi : i < hf n
      · rw [depN_l (by omega) hi]; have := ih (hf n) hb.2.1 i hb.1; omega
      · rw [depN_r (by omega) hi]; have := ih (n - hf n) (by omega) (i - hf n) (by omega); omega
theorem dep_00 {n i : Nat} (h1 : 1 ≤ n) (h : depN n i = 0) : n = 1 := by
  by_cases h2 : n < 2
  · omega
  · by_cases hi : i < hf n
    · rw [depN_l (by omega) hi] at h; omega
    · rw [depN_r (by omega) hi] at h; omega
theorem least (p : Nat → Prop) : ∀ d, (∃ K, K < d ∧ p K ∧ ∀ j, j < K → ¬ p j) ∨ ∀ j, j < d → ¬ p j
  | 0 => .inr fun j hj => absurd hj (Nat.not_lt_zero _)
  | d + 1 => by
    rcases least p d with ⟨K, h1, h2, h3⟩ | h
    · exact .inl ⟨K, by omega, h2, h3⟩
    · by_cases hp : p d
      · exact .inl ⟨d, by omega, hp, h⟩
      · refine .inr fun j hj => ?_
        by_cases e : j = d
        · rw [e]; exact hp
        · exact h j (by omega)

section
variable {I : InT} (h : I.Ok) (hm : I.m = 60)
include h hm
theorem b_nA : @Is0 I.R (nA 60) (.int .i64 I.n) := by have := t_nA h; rw [hm] at this; exact this
theorem b_iA : @Is0 I.R (iA 60) (.int .i64 I.i) := by have := t_iA h; rw [hm] at this; exact this
theorem op_hold (hd0 : 0 < I.d) : @Fct.Holds I.R Try.prog 40 opL := by
  have h0 := t_open h (k := 50) (.inl rfl)
  have hd := t_d h
  obtain ⟨c1, c2, c3⟩ := t_cells h hd
  have hPL := t_PL h
  have e19 : @SX.eval I.R dpL = (I.d : Int) := t_num (by omega)
  have ok19 : @SX.ok I.R dpL := by
    show (1 : Int) ≤ @Rho.ρ I.R 19 ∧ @Rho.ρ I.R 19 ≤ 9
    rw [show @Rho.ρ I.R 19 = (I.d : Int) from e19]; omega
  have hP : LetL I.R 54 I.P := t_let (by omega) rfl
  rw [hm] at h0
  generalize I.d = d at *
  cases d with
  | zero => omega
  | succ d =>
    refine Fct.move1 h0 (by kernel_rfl) rfl (fun B π w hw => hw) (fun π vs hl => hl) (fun π π2 lm c hπ hb r => ?_) (by simp [beqB, tlSame, beqL, EK.no]) rfl rfl (fun π π2 lm c hπ hb hl ht => ?_)
    · letI := I.R
      obtain ⟨vs, rfl, hl⟩ := VR.tup_inv r
      obtain ⟨c0, w0, hvs, r0, hl1⟩ := LR.uncons hl
      obtain ⟨c1, w1, rfl, r1, hl2⟩ := LR.uncons hl1
      obtain rfl := LR.nil_inv hl2
      obtain ⟨b', m, cap', hp, rfl, hex⟩ := VR.slice_inv r0
      have r1' : VR π2 [] (.int .i64 0) c1 := by cases r1; exact .int _ _
      rcases hex with ⟨h, _⟩ | ⟨_, h3, h4⟩
      · cases h
      · have so : SlOk (.lit 0) dpL dpL := ⟨trivial, ok19, ok19, Int.le_refl _, by rw [e19]; omega, Int.le_refl _⟩
        have hs := VR.slsIn (π := π2) (lm := []) (cap' := cap') so (hb.trans hp) (by rw [e19]; exact h3) (by simpa [SX.eval] using h4)
        rw [e19] at hs
        refine VR.tup' ?_
        rw [hvs]
        exact LR.cons hs (LR.cons r1' LR.nil)
    · refine ⟨@LR.nil I.R _ _, fun k2 d2 hk2 u hu => ?_⟩
      simp only [Option.some.injEq, Prod.mk.injEq] at hk2
      obtain ⟨rfl, rfl⟩ := hk2
      rw [hP.n, hPL] at hu
      rw [hP.s, hP.v]
      have hlen := hl.1
      have e0 : (pRow (d + 1)).cells = cells4 (d + 1) := rfl
      rw [e0] at hl hlen
      simp only [List.length_take, Array.length_toList] at hlen
      have hr := hl.2 u (by omega) (by simp; omega)
      have := @vl0_eq I.R _ _ _ _ (List.all_eq_true.1 c1 _ (List.getElem_mem _)) hr
      rw [c3 u (by omega)] at this
      rw [← this, List.getElem_take, Nat.zero_add, ← Array.getElem?_toList]
      exact List.getElem?_eq_getElem _

theorem bQ_le : (bQ I).length = min I.l.length I.d := by unfold bQ; rw [List.length_take]; omega
theorem cl_sls {len : SX} {ok : Bool} (hlen : @SX.eval I.R len = ((bQ I).length : Int)) (hok : ok = (climbL I.n I.i I.v (bQ I)).2) : @Fct.Holds I.R Try.prog 48 (Fct.mk [nA 60, iA 60, dA 17, .sls 0 (.free 2) len (.free 1) true] [rowD 0] (.tup [dA 27, .bool ok]) [] []) := by
  have hn := t_n h
  have hi := t_i h
  have hd := t_d h
  have hq := bQ_le h hm
  have e2 : @SX.eval I.R (.free 2) = (I.off : Int) := t_num (by omega)
  have s0 : @lskip I.R 0 = I.off := mk_skip (by omega)
  have n0 : @llen I.R 0 = I.l.length := mk_len (by omega)
  refine climb_fct (climb_c I.n hn.1 (by omega)) hi h.v (bQ_u h) (by omega) (b_nA h hm) (b_iA h hm) (@Is0.dig I.R _ _ (t_num (by omega)) h.v) hlen ?_ ?_ (fun t ht => ?_) (@Is0.dig I.R _ _ (t_num (by omega)) (climb_u64 h.v)) hok
  · rw [e2, s0]; omega
  · rw [e2, s0, n0]; omega
  · rw [e2, s0]
    show @lval I.R 0 (.int .u64) (I.off - I.off + t) = _
    rw [Nat.sub_self, Nat.zero_add, mk_val (by omega)]
    have e : (bQ I).getD t 0 = I.l.getD t 0 := by
      rw [hq] at ht
      unfold bQ
      simp [List.getD, List.getElem?_take_of_lt ht]
    rw [e]; rfl
theorem cl_hold {z ok : Bool} {a q : Nat} (ha : ClsT I a) (hz : z = true → I.d = 0) (hpt : z = false → 2 ≤ a → @SX.eval I.R (ptX a q) = ((bQ I).length : Int)) (hok : ok = (climbL I.n I.i I.v (bQ I)).2) : @Fct.Holds I.R Try.prog 48 (clF z a q ok) := by
  have hn := t_n h
  have hi := t_i h
  have hq := bQ_le h hm
  rcases ha with ⟨rfl, e⟩ | ⟨rfl, e⟩ | ⟨rfl, e, e'⟩ | ⟨rfl, e⟩
  · have hQ : bQ I = [] := by unfold bQ; rw [e]; simp
    rw [hQ] at hok
    exact climb_none hn.1 (by omega) hi h.v (b_nA h hm) (b_iA h hm) (@Is0.dig I.R _ _ (t_num (by omega)) h.v) (@Is0.dig I.R _ _ (by rw [t_num (by omega), ← hQ]; rfl) (climb_u64 h.v)) hok
  · exact cl_sls h hm (len := .lit 0) (by rw [hq, e]; simp [SX.eval]) hok
  · cases z
    · exact cl_sls h hm (hpt rfl (by omega)) hok
    · exact cl_sls h hm (len := .lit 0) (by rw [hq, hz rfl]; simp [SX.eval]) hok
  · cases z
    · exact cl_sls h hm (hpt rfl (by omega)) hok
    · exact cl_sls h hm (len := .lit 0) (by rw [hq, hz rfl]; simp [SX.eval]) hok

theorem bFacts_ok {z ok : Bool} {a q : Nat} (ha : ClsT I a) (hz : z = true ↔ I.d = 0) (hpt : z = false → 2 ≤ a → @SX.eval I.R (ptX a q) = ((bQ I).length : Int)) (hok : ok = (climbL I.n I.i I.v (bQ I)).2) : @FactsOk I.R Try.prog (bFacts z a q ok) := by
  have hn := t_n h
  have hd := t_d h
  have o1 := t_open h (k := 50) (.inl rfl)
  have r1 := t_rootG h
  have g1 := grown_fct (t_grow h ha)
  rw [hm] at o1 r1 g1
  obtain ⟨s1, s2⟩ := sides_ok I.n I.i hn.1 (by omega) (t_i h) I.R (nA 60) (iA 60) (b_nA h hm) (b_iA h hm)
  refine ⟨fun F hF => ?_, fun F hF => ?_, fun F hF => ?_, fun F hF => ?_, fun F hF => ?_, fun F hF => ?_, trivial⟩
  · obtain rfl := List.mem_singleton.1 hF; exact ex_hold
  · obtain rfl := List.mem_singleton.1 hF; exact g1
  · obtain rfl := List.mem_singleton.1 hF
    cases z
    · exact op_hold h hm (by
        have : ¬ I.d = 0 := fun e => by have := hz.2 e; cases this
        omega)
    · rw [hz.1 rfl] at o1; exact o1
  · obtain rfl := List.mem_singleton.1 hF; exact r1
  · obtain rfl := List.mem_singleton.1 hF; exact cl_hold h hm ha hz.1 hpt hok
  · obtain rfl := List.mem_singleton.1 hF
    cases z
    · have h0 : ¬ I.d = 0 := fun e => by have := hz.2 e; cases this
      have e19 : @SX.eval I.R dpL = (I.d : Int) := t_num (by omega)
      refine s2 dpL 55 (by show 0 < I.d; omega) ?_ e19 ⟨mk_skip (by omega), mk_len (by omega), fun t => mk_val (by omega) _ t⟩
      show (1 : Int) ≤ @Rho.ρ I.R 19 ∧ @Rho.ρ I.R 19 ≤ 9
      rw [show @Rho.ρ I.R 19 = (I.d : Int) from e19]; omega
    · exact s1 (hz.1 rfl)

theorem bKnow {z c e m : Bool} {a q : Nat} (hc : c = true ↔ (climbL I.n I.i I.v (bQ I)).1 = rootL I.G) (he : e = true ↔ I.G.getD I.i 0 = I.v)
    (hl : z = false → 2 ≤ a → @SX.eval I.R (lnB a) = (I.l.length : Int) ∧ (Nat.beq q 1 = true ↔ I.d < I.l.length) ∧ @SX.eval I.R (ptX a q) ≤ (I.l.length : Int) ∧ (m = true ↔ I.l.length = I.d)) : @KnowOk I.R (bTab z a q c e m).know := by
  have hn := t_n h
  have hi := t_i h
  have hGL := t_GL h
  have eN := t_nE h
  have eI := t_iE h
  rw [hm] at eN eI
  have lG : LetL I.R 50 I.G := t_let (by omega) rfl
  have e17 : @Rho.ρ I.R 17 = I.v := t_num (by omega)
  have e20 : @Rho.ρ I.R 20 = rootL I.G := t_num (by omega)
  have e21 : @Rho.ρ I.R 21 = I.G.getD I.i 0 := t_num (by omega)
  have e27 : @Rho.ρ I.R 27 = (climbL I.n I.i I.v (bQ I)).1 := t_num (by omega)
  have e19 : @SX.eval I.R dpL = (I.d : Int) := t_num (by omega)
  refine KTab.ok { cmps := ?_, cells := ?_ }
  · intro x hx
    simp only [bTab] at hx
    rcases List.mem_append.1 hx with hx | hx
    · simp only [List.mem_cons, List.not_mem_nil, or_false] at hx
      rcases hx with rfl | rfl | rfl | rfl
      · refine ⟨by simp [cmpNo], fun _ _ => ?_⟩
        show some (decide (@SX.eval I.R (iX 60) < @SX.eval I.R (gX 60))) = some true
        rw [eN, eI]; simp only [Option.some.injEq, decide_eq_true_eq]; omega
      · refine ⟨by simp [cmpNo], fun _ _ => ?_⟩
        show some (decide (@SX.eval I.R (iX 60) ≥ @SX.eval I.R (gX 60))) = some false
        rw [eN, eI]; simp only [Option.some.injEq, decide_eq_false_iff_not]; omega
      · refine ⟨by simp [cmpNo], fun _ _ => neN ?_⟩
        show c = true ↔ @Rho.ρ I.R 27 = @Rho.ρ I.R 20
        rw [e20, e27]; exact hc
      · refine ⟨by simp [cmpNo], fun _ _ => eqN ?_⟩
        show e = true ↔ @Rho.ρ I.R 21 = @Rho.ρ I.R 17
        rw [e17, e21]; exact he
    · by_cases hza : (z || Nat.ble a 1) = true
      · rw [if_pos hza] at hx; cases hx
      · rw [if_neg hza] at hx
        rw [Bool.or_eq_true, Nat.ble_eq] at hza
        have hz0 : z = false := by cases z; rfl; exact absurd (.inl rfl) hza
        obtain ⟨l1, l2, l3, l4⟩ := hl hz0 (by omega)
        simp only [List.mem_cons, List.not_mem_nil, or_false] at hx
        rcases hx with rfl | rfl | rfl
        · refine ⟨by simp [cmpNo], fun _ _ => ?_⟩
          show some (decide (@SX.eval I.R dpL < @SX.eval I.R (lnB a))) = _
          rw [e19, l1]
          exact congrArg some (bool_iff (p := I.d < I.l.length) (by simp) l2)
        · refine ⟨by simp [cmpNo], fun _ _ => ?_⟩
          show some (decide (@SX.eval I.R (ptX a q) ≤ @SX.eval I.R (lnB a))) = some true
          rw [l1, decide_eq_true l3]
        · refine ⟨by simp [cmpNo], fun _ _ => neN ?_⟩
          rw [e19, l1, l4]; omega
  · intro x hx _
    obtain rfl := List.mem_singleton.1 hx
    exact t_cell h I.R lG (by omega) eI e21 (t_lA h)

theorem b_early {z ok c e m : Bool} {a q : Nat} (hg : bGot z a q ok c e m = true) (hk : @KnowOk I.R (bTab z a q c e m).know) (hf : @FactsOk I.R Try.prog (bFacts z a q ok)) : @Fct.Holds I.R Try.prog 8 (bLaw a) := by
  unfold bGot at hg
  rw [Bool.and_eq_true] at hg
  exact @Fct.holds I.R Try.prog (orcOf (bFacts z a q ok)) (bTab z a q c e m).know hk (@fit I.R) (@orcOf_ok I.R _ _ hf) 5000 8 (bLaw a) hg.1 hg.2

theorem bHold {a : Nat} (ha : ClsT I a) (hl63 : I.l.length ≤ 9223372036854775807) : @Fct.Holds I.R Try.prog 8 (bLaw a) := by
  have hn := t_n h
  have hi := t_i h
  have hd := t_d h
  have hGL := t_GL h
  have hq := bQ_le h hm
  have e0 : @Rho.ρ I.R 0 = (I.l.length : Int) := t_num (by omega)
  have e19 : @SX.eval I.R dpL = (I.d : Int) := t_num (by omega)
  have hok0 : (climbL I.n I.i I.v (bQ I)).2 = decide ((bQ I).length = I.d) := climb_ok hn.1
  obtain ⟨c, hc⟩ : ∃ c : Bool, c = true ↔ (climbL I.n I.i I.v (bQ I)).1 = rootL I.G := ⟨decide ((climbL I.n I.i I.v (bQ I)).1 = rootL I.G), by rw [decide_eq_true_iff]⟩
  obtain ⟨e, he⟩ : ∃ e : Bool, e = true ↔ I.G.getD I.i 0 = I.v := ⟨decide (I.G.getD I.i 0 = I.v), by rw [decide_eq_true_iff]⟩
  by_cases hz : I.d = 0
  · -- one digest
    have hn1 : I.n = 1 := dep_00 hn.1 hz
    have hQ : bQ I = [] := List.length_eq_zero_iff.1 (by rw [hq, hz]; simp)
    have hce : c = e := by
      rw [Bool.eq_iff_iff, hc, he, hQ, climb_1 (.inr rfl), rootL_1 (by omega), show I.i = 0 by omega]
      exact eq_comm
    have hg := List.all_eq_true.1 bGot_z a (by rcases ha with ⟨rfl, _⟩ | ⟨rfl, _⟩ | ⟨rfl, _⟩ | ⟨rfl, _⟩ <;> simp)
    rw [Bool.and_eq_true] at hg
    have hg' : bGot true a 1 true c e false = true := by
      rw [hce]
      cases e
      · exact hg.2
      · exact hg.1
    exact b_early h hm hg' (bKnow h hm hc he (fun h0 => by cases h0)) (bFacts_ok h hm ha ⟨fun _ => hz, fun _ => rfl⟩ (fun h0 => by cases h0) (by rw [hok0, hQ, hz]; rfl))
  · have hzf : (false = true) ↔ I.d = 0 := ⟨fun h0 => (by cases h0), fun h0 => absurd h0 hz⟩
    by_cases ha1 : a < 2
    · -- no list
      have hle : I.l = [] := by rcases ha with ⟨_, h1⟩ | ⟨_, h1⟩ | ⟨rfl, _⟩ | ⟨rfl, _⟩ <;> first | exact h1 | omega
      have hg := List.all_eq_true.1 bGot_a a (by rcases (show a = 0 ∨ a = 1 by omega) with rfl | rfl <;> simp)
      simp only [Bool.and_eq_true] at hg
      have hg' : bGot false a 0 false c e false = true := by
        cases c <;> cases e
        · exact hg.2.2.2
        · exact hg.2.2.1
        · exact hg.2.1
        · exact hg.1
      refine b_early h hm hg' (bKnow h hm hc he (fun _ h2 => by omega)) (bFacts_ok h hm ha hzf (fun _ h2 => by omega) ?_)
      rw [hok0]
      refine (decide_eq_false ?_).symm
      rw [hq, hle]
      simp; omega
    · have ha23 : (a = 2 ∧ 0 < I.l.length ∧ I.l.length ≤ I.n) ∨ (a = 3 ∧ I.n < I.l.length) := by rcases ha with ⟨rfl, _⟩ | ⟨rfl, _⟩ | h1 | h1 <;> first | omega | exact .inl h1 | exact .inr h1
      have hln : @SX.eval I.R (lnB a) = (I.l.length : Int) := by rcases ha23 with ⟨rfl, _⟩ | ⟨rfl, _⟩ <;> exact e0
      have hdn : I.d < I.n := dep_lt I.n I.i hn.1
      by_cases hlt : I.l.length < I.d
      · -- a path that is too short
        obtain rfl : a = 2 := by omega
        have hg := bGot_l
        simp only [Bool.and_eq_true] at hg
        have hg' : bGot false 2 0 false c e false = true := by
          cases c <;> cases e
          · exact hg.2.2
          · exact hg.2.1
          · exact hg.1.2
          · exact hg.1.1
        refine b_early h hm hg' (bKnow h hm hc he (fun _ _ => ⟨hln, ?_, ?_, ?_⟩)) (bFacts_ok h hm ha hzf (fun _ _ => ?_) ?_)
        · rw [Nat.beq_eq]; omega
        · exact Int.le_of_eq hln
        · exact ⟨fun h0 => (by cases h0), fun h0 => (by omega)⟩
        · rw [hq, show min I.l.length I.d = I.l.length by omega]; exact hln
        · rw [hok0]
          refine (decide_eq_false ?_).symm
          omega
      · have hQ : (bQ I).length = I.d := by omega
        have hokT : true = (climbL I.n I.i I.v (bQ I)).2 := by rw [hok0, decide_eq_true hQ]
        obtain ⟨p, m, hcfg, hp, hptd, hpk, hm'⟩ : ∃ (p : Nat) (m : Bool), cfgOk a p m ∧ (Nat.beq p 1 = true ↔ I.d < I.l.length) ∧ @SX.eval I.R (ptX a p) = (I.d : Int) ∧ (∀ j, @SX.eval (bK I j) (ptX a p) = @SX.eval I.R (ptX a p)) ∧ (m = true ↔ I.l.length = I.d) := by
          by_cases hgt : I.d < I.l.length
          · refine ⟨1, false, ?_, by simp [hgt], e19, fun j => ?_, ⟨fun h0 => (by cases h0), fun h0 => (by omega)⟩⟩
            · rcases ha23 with ⟨h1, _⟩ | ⟨h1, _⟩
              · exact .inr (.inl ⟨h1, rfl, rfl⟩)
              · exact .inr (.inr ⟨h1, rfl, rfl⟩)
            · show @Rho.ρ (bK I j) 19 = @Rho.ρ I.R 19
              exact bJ_ne (by omega)
          · obtain rfl : a = 2 := by omega
            refine ⟨0, true, .inl ⟨rfl, rfl, rfl⟩, ?_, ?_, fun j => ?_, ⟨fun _ => (by omega), fun _ => rfl⟩⟩
            · rw [Nat.beq_eq]; omega
            · show @Rho.ρ I.R 0 = _
              rw [e0]; omega
            · show @Rho.ρ (bK I j) 0 = @Rho.ρ I.R 0
              exact bJ_ne (by omega)
        have hk := bKnow h hm (z := false) (a := a) (q := p) (m := m) hc he (fun _ _ => ⟨hln, hp, by rw [hptd]; omega, hm'⟩)
        have hf := bFacts_ok h hm (q := p) ha hzf (fun _ _ => by rw [hptd, hQ]) hokT
        cases c with
        | false =>
          -- it is not accepted
          have hg' : bGot false a p true false e m = true := by
            have h1 := bGot_m
            have h2 := List.all_eq_true.1 bGot_n a (by rcases ha23 with ⟨rfl, _⟩ | ⟨rfl, _⟩ <;> simp)
            rw [Bool.and_eq_true] at h1 h2
            rcases hcfg with ⟨rfl, rfl, rfl⟩ | ⟨rfl, rfl, rfl⟩ | ⟨rfl, rfl, rfl⟩
            · cases e
              · exact h1.2
              · exact h1.1
            · cases e
              · exact h2.2
              · exact h2.1
            · cases e
              · exact h2.2
              · exact h2.1
          exact b_early h hm hg' hk hf
        | true =>
          rcases least (bC I) I.d with ⟨K, hK, hcol, hno⟩ | hno
          · have hs := sideN_lt (S := bS I) K
            by_cases hgh : bG I K = bH I K
            · have hf6 : 6 + sideN (bS I) K = 6 ∨ 6 + sideN (bS I) K = 7 := by omega
              refine bLoop_hold h hm (f := 6 + sideN (bS I) K) hcfg e he hk hf hQ hptd hpk (Nat.le_of_lt hK) hno ?_ (.inr (.inl ⟨hf6, hgh⟩))
              refine rKnow h (by omega) hQ hptd (hpk K) hK (by rw [show (6 + sideN (bS I) K) % 2 = sideN (bS I) K by omega]; exact bside K) ?_ ?_ ?_
              · exact ⟨fun h1 => by omega, fun h1 => absurd hgh h1⟩
              · intro _
                refine ⟨fun h1 => by omega, fun h1 => ?_⟩
                rcases hcol.1 with h2 | h2
                · exact absurd hgh h2
                · exact absurd h1 h2
              · intro _
                exact ⟨fun _ => hcol.2, fun _ => by omega⟩
            · have hf8 : 8 + sideN (bS I) K = 8 ∨ 8 + sideN (bS I) K = 9 := by omega
              refine bLoop_hold h hm (f := 8 + sideN (bS I) K) hcfg e he hk hf hQ hptd hpk (Nat.le_of_lt hK) hno ?_ (.inr (.inr ⟨hf8, hgh⟩))
              refine rKnow h (by omega) hQ hptd (hpk K) hK (by rw [show (8 + sideN (bS I) K) % 2 = sideN (bS I) K by omega]; exact bside K) ?_ ?_ ?_
              · exact ⟨fun _ => hgh, fun _ => by omega⟩
              · intro h1; omega
              · intro _
                exact ⟨fun _ => hcol.2, fun _ => by omega⟩
          · refine bLoop_hold h hm (f := 10) hcfg e he hk hf hQ hptd hpk (Nat.le_refl _) hno (rKnow10 h) (.inl ⟨rfl, ?_⟩)
            have a1 := climb_ups (n := I.n) (i := I.i) (v := I.G.getD I.i 0) (P := I.P) hn.1 (t_PL h)
            have a2 := climb_ups (n := I.n) (i := I.i) (v := I.v) (P := bQ I) hn.1 hQ
            have a3 := climb_path I.G I.i (by omega)
            rw [hGL] at a3
            have a3' : climbL I.n I.i (I.G.getD I.i 0) I.P = (rootL I.G, true) := a3
            rw [a3'] at a1
            rw [hc.1 rfl] at a2
            show upsF (I.G.getD I.i 0) I.P (sideL I.n I.i) (depN I.n I.i) = upsF I.v (bQ I) (sideL I.n I.i) (depN I.n I.i)
            rw [← a1, ← a2]

theorem binds_c (hx : -9223372036854775808 ≤ I.xi ∧ I.xi ≤ 9223372036854775807) (hl : I.l.length ≤ 9223372036854775807) {W : World} {nl : Bool} {v0 : Value} (hv : GivenT W I.off I.cap I.l nl v0) :
    Calls Try.prog 8 #[v0, .agg #[.int .u16 I.k0, .int .u16 I.k1], .agg #[.int .i64 I.xi, .int .u64 I.v]] W fun e W' => e = .returned (.bool true) ∧ Below W.heap.size W W' := by
  obtain ⟨a, ha, hnl⟩ := cls_of I nl (fun e => by subst e; cases hv with | nil hn => exact hn)
  obtain ⟨π, hw, hr⟩ := g_arg h ha hl hv hnl
  have hF := bHold h hm ha hl
  letI := I.R
  have hagg : VR π [] (.agg [k16 3, k16 15]) (.agg #[.int .u16 I.k0, .int .u16 I.k1]) := by
    have hl2 : LR π [] [k16 3, k16 15] [.int .u16 I.k0, .int .u16 I.k1] := LR.cons (k16_rel (I := I) (a := 3) (by omega) rfl h.k0 π) (LR.cons (k16_rel (I := I) (a := 15) (by omega) rfl h.k1 π) LR.nil)
    exact .agg hl2.1 hl2.2
  have hx0 : VR π [] xIA (.int .i64 I.xi) := by
    have h0 : Is0 xIA (.int .i64 I.xi) := Is0.var (t_num (by omega)) hx.1 hx.2
    have := vl0_rel (π := π) (lm := []) h0.l h0.f
    rw [h0.v] at this; exact this
  have hagg2 : VR π [] (.agg [xIA, dA 17]) (.agg #[.int .i64 I.xi, .int .u64 I.v]) := by
    have hl2 : LR π [] [xIA, dA 17] [.int .i64 I.xi, .int .u64 I.v] := LR.cons hx0 (LR.cons (dA_rel (I := I) (a := 17) (by omega) rfl h.v π) LR.nil)
    exact .agg hl2.1 hl2.2
  exact Fct.calls hF rfl (π := π) (vs := #[v0, .agg #[.int .u16 I.k0, .int .u16 I.k1], .agg #[.int .i64 I.xi, .int .u64 I.v]]) hw (LR.cons hr (LR.cons hagg (LR.cons hagg2 LR.nil)))
end
end Go.Proofs.Ytdenpaifjpmkgaa
