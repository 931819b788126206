/- SealOpens: what it answers, whatever it is given. -/
import Derived.Test.YtdenpaifjpmkgaaTk
import Derived.Test.YtdenpaifjpmkgaaTp0
import Derived.Test.YtdenpaifjpmkgaaTp1
import Derived.Test.YtdenpaifjpmkgaaTp2
import Derived.Test.YtdenpaifjpmkgaaTp3
namespace Go.Proofs.Ytdenpaifjpmkgaa
open Go.Ev
open Go.RowKit (Below)
set_option maxRecDepth 100000
set_option linter.unusedVariables false
set_option linter.unusedSectionVars false

theorem oGot_D {a d : Nat} (ha : a < 4) (hd : d < 10) : oGotD a d = true := by
  match a, ha, d, hd with
  | 0, _, 0, _ => exact oGot_0_0
  | 0, _, 1, _ => exact oGot_0_1
  | 0, _, 2, _ => exact oGot_0_2
  | 0, _, 3, _ => exact oGot_0_3
  | 0, _, 4, _ => exact oGot_0_4
  | 0, _, 5, _ => exact oGot_0_5
  | 0, _, 6, _ => exact oGot_0_6
  | 0, _, 7, _ => exact oGot_0_7
  | 0, _, 8, _ => exact oGot_0_8
  | 0, _, 9, _ => exact oGot_0_9
  | 1, _, 0, _ => exact oGot_1_0
  | 1, _, 1, _ => exact oGot_1_1
  | 1, _, 2, _ => exact oGot_1_2
  | 1, _, 3, _ => exact oGot_1_3
  | 1, _, 4, _ => exact oGot_1_4
  | 1, _, 5, _ => exact oGot_1_5
  | 1, _, 6, _ => exact oGot_1_6
  | 1, _, 7, _ => exact oGot_1_7
  | 1, _, 8, _ => exact oGot_1_8
  | 1, _, 9, _ => exact oGot_1_9
  | 2, _, 0, _ => exact oGot_2_0
  | 2, _, 1, _ => exact oGot_2_1
  | 2, _, 2, _ => exact oGot_2_2
  | 2, _, 3, _ => exact oGot_2_3
  | 2, _, 4, _ => exact oGot_2_4
  | 2, _, 5, _ => exact oGot_2_5
  | 2, _, 6, _ => exact oGot_2_6
  | 2, _, 7, _ => exact oGot_2_7
  | 2, _, 8, _ => exact oGot_2_8
  | 2, _, 9, _ => exact oGot_2_9
  | 3, _, 0, _ => exact oGot_3_0
  | 3, _, 1, _ => exact oGot_3_1
  | 3, _, 2, _ => exact oGot_3_2
  | 3, _, 3, _ => exact oGot_3_3
  | 3, _, 4, _ => exact oGot_3_4
  | 3, _, 5, _ => exact oGot_3_5
  | 3, _, 6, _ => exact oGot_3_6
  | 3, _, 7, _ => exact oGot_3_7
  | 3, _, 8, _ => exact oGot_3_8
  | 3, _, 9, _ => exact oGot_3_9
theorem oGot_get {a d t : Nat} (ha : a < 4) (hd : d < 10) (ht : t < max d 1) (s r : Bool) : oGotS a d t s r = true := by
  have h := oGot_D ha hd
  unfold oGotD at h
  have h2 := List.all_eq_true.1 h t (List.mem_range.2 ht)
  simp only [oGotT, Bool.and_eq_true] at h2
  cases s <;> cases r
  · exact h2.2.2
  · exact h2.2.1
  · exact h2.1.2
  · exact h2.1.1

theorem neB {x y : Int} {p : Prop} [Decidable p] (e : x = y ↔ p) : cmpI .neq x y = some (!decide p) := by
  show some (x != y) = _
  congr 1
  by_cases hp : p
  · rw [decide_eq_true hp]; simpa using e.2 hp
  · rw [decide_eq_false hp]; simpa using fun e' => hp (e.1 e')
theorem dep_0 {n i : Nat} (h1 : 1 ≤ n) (h : depN n i = 0) : n = 1 := by
  by_cases h2 : n < 2
  · omega
  · by_cases hi : i < hf n
    · rw [depN_l (by omega) hi] at h; omega
    · rw [depN_r (by omega) hi] at h; omega
theorem set_self {l : List Int} {t : Nat} (h : t < l.length) : l.set t (l.getD t 0) = l := by
  apply List.ext_getElem (by simp)
  intro j h1 h2
  rw [List.getElem_set]; split
  · rename_i e; subst e; simp [List.getD, h]
  · rfl

theorem opens_c {I : InT} (h : I.Ok) (hm : I.m = 300) (hl : I.l.length ≤ 9223372036854775807) {W : World} {nl : Bool} {v0 : Value} (hv : GivenT W I.off I.cap I.l nl v0) :
    Calls Try.prog 6 #[v0, .agg #[.int .u16 I.k0, .int .u16 I.k1, .int .u16 I.k2], .int .u64 I.v] W fun e W' => e = .returned (.bool true) ∧ Below W.heap.size W W' := by
  obtain ⟨a, ha, hnl⟩ := cls_of I nl (fun e => by subst e; cases hv with | nil hn => exact hn)
  obtain ⟨π, hw, hr⟩ := g_arg h ha hl hv hnl
  have hn := t_n h
  have hi := t_i h
  have hd := t_d h
  have hPL := t_PL h
  have hPu := t_Pu h
  have ha4 : a < 4 := by rcases ha with e | e | e | e <;> omega
  letI := I.R
  have eN := t_nE h
  have eI := t_iE h
  rw [hm] at eN eI
  have lG : LetL I.R 50 I.G := t_let (by omega) rfl
  have e17 : Rho.ρ 17 = I.v := t_num (by omega)
  have e20 : Rho.ρ 20 = rootL I.G := t_num (by omega)
  have e21 : Rho.ρ 21 = I.G.getD I.i 0 := t_num (by omega)
  have e22 : Rho.ρ 22 = rootL I.O := t_num (by omega)
  have e24 : Rho.ρ 24 = (climbL I.n I.i (I.G.getD I.i 0) (I.P.set I.at' I.v)).1 := t_num (by omega)
  have e25 : Rho.ρ 25 = (climbL I.n I.i (I.G.getD I.i 0) (I.P ++ [I.v])).1 := t_num (by omega)
  have e26 : Rho.ρ 26 = (climbL I.n I.i (I.G.getD I.i 0) (I.P.take (I.d - 1))).1 := t_num (by omega)
  have hGL := t_GL h
  have hlA := t_lA h
  have hcl : climbL I.n I.i (I.G.getD I.i 0) I.P = (rootL I.G, true) := by
    have := climb_path I.G I.i (by omega)
    rw [hGL] at this; exact this
  have hcs : (climbL I.n I.i I.v I.P).1 = rootL I.O ∧ (climbL I.n I.i I.v I.P).2 = true := by
    have := climb_set I.G I.i I.v (by omega)
    rw [hGL] at this
    show (climbL I.n I.i I.v (pathL I.G I.i)).1 = rootL (I.G.set I.i I.v) ∧ (climbL I.n I.i I.v (pathL I.G I.i)).2 = true
    rw [this]; exact ⟨rfl, rfl⟩
  have hat : 0 < I.d → I.at' < I.d := fun h0 => by
    unfold InT.at'
    rw [if_neg (by omega)]
    have := Int.emod_lt_of_pos I.k2 (show (0 : Int) < I.d by omega)
    have := Int.emod_nonneg I.k2 (show (I.d : Int) ≠ 0 by omega)
    omega
  have hat1 : I.at' < max I.d 1 := by
    by_cases h0 : 0 < I.d
    · have := hat h0; omega
    · unfold InT.at'
      rw [if_pos (by omega)]; omega
  have hk : ∀ d, I.d = d → @KnowOk I.R (oTabL d I.at' (decide (I.v = I.G.getD I.i 0)) (decide (I.v = I.P.getD I.at' 0))).know := by
    intro d hdd
    refine KTab.ok { cmps := ?_, cells := ?_ }
    · intro x hx
      simp only [oTabL] at hx
      rcases List.mem_append.1 hx with hx | hx
      · simp only [List.mem_cons, List.not_mem_nil, or_false] at hx
        rcases hx with rfl | rfl | rfl | rfl
        · refine ⟨by simp [cmpNo], fun _ _ => ?_⟩
          show some (decide ((iX 300).eval < (gX 300).eval)) = some true
          rw [eN, eI]; simp only [Option.some.injEq, decide_eq_true_eq]; omega
        · refine ⟨by simp [cmpNo], fun _ _ => ?_⟩
          show some (decide ((iX 300).eval ≥ (gX 300).eval)) = some false
          rw [eN, eI]; simp only [Option.some.injEq, decide_eq_false_iff_not]; omega
        · refine ⟨by simp [cmpNo], fun _ _ => neB ?_⟩
          show Rho.ρ 22 = Rho.ρ 20 ↔ _
          rw [e20, e22]
          exact eq_comm.trans (root_set (by omega) (t_Gu h) h.v)
        · refine ⟨by simp [cmpNo], fun _ _ => eqB h ?_⟩
          show Rho.ρ 17 = Rho.ρ 21 ↔ _
          rw [e17, e21]
      · cases d with
        | zero =>
          obtain rfl := List.mem_singleton.1 hx
          refine ⟨by simp [cmpNo], fun _ _ => ?_⟩
          show some ((gX 300).eval == 1) = some true
          rw [eN, dep_0 hn.1 hdd]; rfl
        | succ d =>
          have hat' := hat (by omega)
          simp only [List.mem_cons, List.not_mem_nil, or_false] at hx
          rcases hx with rfl | rfl
          · refine ⟨by simp [cmpNo], fun _ _ => neB ?_⟩
            show Rho.ρ 24 = Rho.ρ 20 ↔ _
            rw [e20, e24]
            constructor
            · intro e
              refine climb_at hn.1 hlA h.v hPu (by rw [hPL]; exact Nat.le_refl _) (by omega) ?_
              rw [e, hcl]
            · intro e
              rw [e, set_self (by omega), hcl]
          · refine ⟨by simp [cmpNo], fun _ _ => eqB h ?_⟩
            show Rho.ρ 17 = Rho.ρ (4 + I.at') ↔ _
            rw [e17, t_path h (by omega)]
    · intro x hx _
      obtain rfl := List.mem_singleton.1 hx
      exact t_cell h I.R lG (by omega) eI e21 hlA
  have nI : Is0 (nA 300) (.int .i64 I.n) := by have := t_nA h; rw [hm] at this; exact this
  have iI : Is0 (iA 300) (.int .i64 I.i) := by have := t_iA h; rw [hm] at this; exact this
  have lI : Is0 (dA 21) (.int .u64 (I.G.getD I.i 0)) := Is0.dig e21 hlA
  obtain ⟨c1, c2, c3⟩ := t_cells h hd
  have vI : (dA 17).vl0 = .int .u64 I.v := by show Value.int .u64 (Rho.ρ 17) = _; rw [e17]
  have fLong : (longF I.d).Holds Try.prog 48 := by
    refine climb_cells (P := I.P ++ [I.v]) hn.1 (by omega) hi hlA (fun x hx => ?_) (by simp [hPL]) (by omega) (Nat.le_refl _) nI iI lI ?_ (by simp [c2]) (fun t ht _ => ?_) (Is0.dig e25 (climb_u64 hlA)) ?_
    · rcases List.mem_append.1 hx with e | e
      · exact hPu x e
      · rw [List.mem_singleton.1 e]; exact h.v
    · rw [List.all_append, c1]; rfl
    · by_cases ht2 : t < (cells4 I.d).length
      · rw [List.getElem_append_left ht2, c3 t ht2]
        simp [List.getD, List.getElem?_append_left (show t < I.P.length by omega)]
      · have ht3 : t = I.P.length := by simp [c2] at ht; omega
        subst ht3
        rw [List.getElem_append_right (by omega)]
        simp only [List.getElem_singleton]
        rw [vI]; simp [List.getD]
    · rw [climb_ok hn.1]
      refine (decide_eq_false ?_).symm
      show ¬ (I.P ++ [I.v]).length = I.d
      simp [hPL]
  have fOdd : 0 < I.d → (oddF I.d I.at').Holds Try.prog 48 := fun h0 => by
    have hat' := hat h0
    refine climb_cells (P := I.P.set I.at' I.v) hn.1 (by omega) hi hlA (fun x hx => ?_) (by simp [hPL]) (by omega) (Nat.le_refl _) nI iI lI ?_ (by simp [c2]) (fun t ht _ => ?_) (Is0.dig e24 (climb_u64 hlA)) ?_
    · rcases List.mem_or_eq_of_mem_set hx with e | e
      · exact hPu x e
      · exact e ▸ h.v
    · rw [List.all_eq_true]
      intro x hx
      rcases List.mem_or_eq_of_mem_set hx with e | e
      · exact List.all_eq_true.1 c1 x e
      · rw [e]; rfl
    · rw [List.getElem_set]
      split
      · rename_i e; subst e
        rw [vI]; simp [List.getD, hPL, hat']
      · rename_i e
        rw [c3 t (by simpa using ht)]
        simp [List.getD, List.getElem?_set_ne e]
    · rw [climb_ok hn.1]
      refine (decide_eq_true ?_).symm
      show (I.P.set I.at' I.v).length = I.d
      simp [hPL]
  have fShort : 0 < I.d → (shortF I.d).Holds Try.prog 48 := fun h0 => by
    refine climb_cells (P := I.P.take (I.d - 1)) hn.1 (by omega) hi hlA (fun x hx => hPu x (List.mem_of_mem_take hx)) (by rw [List.length_take, hPL]; omega) (by omega) (by omega) nI iI lI c1 (by omega) (fun t ht ht2 => ?_) (Is0.dig e26 (climb_u64 hlA)) ?_
    · rw [c3 t ht]
      simp [List.getD, List.getElem?_take_of_lt ht2]
    · rw [climb_ok hn.1]
      refine (decide_eq_false ?_).symm
      show ¬ (I.P.take (I.d - 1)).length = I.d
      simp [hPL]; omega
  have hf : FactsOk Try.prog (oFacts a I.d I.at') := by
    have o1 := t_open h (k := 50) (.inl rfl)
    have r1 := t_rootG h
    have k1 := t_climb h (leaf := 21) (r := 20) e21 hlA (by rw [e20, hcl]) (by rw [hcl])
    have k2 := t_climb h (leaf := 17) (r := 22) e17 h.v (by rw [e22]; exact hcs.1.symm) hcs.2.symm
    have g1 := grown_fct (t_grow h ha)
    rw [hm] at o1 r1 k1 k2 g1
    refine ⟨fun F hF => ?_, fun F hF => ?_, fun F hF => ?_, fun F hF => ?_, fun F hF => ?_, trivial⟩
    · obtain rfl := List.mem_singleton.1 hF; exact ex_hold
    · obtain rfl := List.mem_singleton.1 hF; exact g1
    · obtain rfl := List.mem_singleton.1 hF; exact o1
    · obtain rfl := List.mem_singleton.1 hF; exact r1
    · rcases List.mem_append.1 hF with hF | hF
      · simp only [List.mem_cons, List.not_mem_nil, or_false] at hF
        rcases hF with rfl | rfl | rfl
        · exact k1
        · exact k2
        · exact fLong
      · clear k1 k2 fLong o1 hk c1 c2 c3
        have go : ∀ d, I.d = d → F ∈ (match d with | 0 => [] | d + 1 => [oddF (d + 1) I.at', shortF (d + 1)] : List Fct) → F.Holds Try.prog 48 := fun d hdd hF => by
          cases d with
          | zero => cases hF
          | succ d =>
            rw [hdd] at fOdd fShort
            simp only [List.mem_cons, List.not_mem_nil, or_false] at hF
            rcases hF with rfl | rfl
            · exact fOdd (by omega)
            · exact fShort (by omega)
        exact go I.d rfl hF
  have hg := oGot_get ha4 hd hat1 (decide (I.v = I.G.getD I.i 0)) (decide (I.v = I.P.getD I.at' 0))
  unfold oGotS at hg
  rw [Bool.and_eq_true] at hg
  have hF : Fct.Holds Try.prog 6 (oLaw a I.d I.at') := @Fct.holds I.R Try.prog (orcOf (oFacts a I.d I.at')) (oTabL I.d I.at' (decide (I.v = I.G.getD I.i 0)) (decide (I.v = I.P.getD I.at' 0))).know (hk I.d rfl) fit (orcOf_ok hf) 5000 6 _ hg.1 hg.2
  have h2A : VR π [] (k2A I.d I.at') (.int .u16 I.k2) := by
    have go : ∀ d, I.d = d → VR π [] (k2A d I.at') (.int .u16 I.k2) := fun d hdd => by
      cases d with
      | zero => exact k16_rel (I := I) (a := 18) (by omega) rfl h.k2 π
      | succ d =>
        have e16 : Rho.ρ 16 = I.k2 / I.d := t_num (by omega)
        have hq : 0 ≤ I.k2 / I.d ∧ I.k2 / I.d ≤ 65535 := by
          refine ⟨Int.ediv_nonneg h.k2.1 (by omega), ?_⟩
          have := Int.ediv_le_self (I.d : Int) h.k2.1
          have := h.k2.2; omega
        have he : (SX.bin .add (.bin .mul (.lit ((d + 1 : Nat) : Int)) (.var 16 0 65535)) (.lit (I.at' : Int))).eval = I.k2 := by
          show ((d + 1 : Nat) : Int) * Rho.ρ 16 + (I.at' : Int) = _
          rw [e16, ← hdd]
          unfold InT.at'
          rw [if_neg (by omega)]
          have := Int.emod_nonneg I.k2 (show (I.d : Int) ≠ 0 by omega)
          have := Int.mul_ediv_add_emod I.k2 (I.d : Int)
          omega
        have h0 : Is0 (k2A (d + 1) I.at') (.int .u16 I.k2) := Is0.sym ⟨⟨trivial, by show 0 ≤ Rho.ρ 16 ∧ Rho.ρ 16 ≤ 65535; rw [e16]; exact hq⟩, trivial⟩ he h.k2.1 h.k2.2
        have := vl0_rel (π := π) (lm := []) h0.l h0.f
        rw [h0.v] at this; exact this
    exact go I.d rfl
  have hagg : VR π [] (.agg [k16 3, k16 15, k2A I.d I.at']) (.agg #[.int .u16 I.k0, .int .u16 I.k1, .int .u16 I.k2]) := by
    have hl2 : LR π [] [k16 3, k16 15, k2A I.d I.at'] [.int .u16 I.k0, .int .u16 I.k1, .int .u16 I.k2] := LR.cons (k16_rel (I := I) (a := 3) (by omega) rfl h.k0 π) (LR.cons (k16_rel (I := I) (a := 15) (by omega) rfl h.k1 π) (LR.cons h2A LR.nil))
    exact .agg hl2.1 hl2.2
  exact Fct.calls hF rfl (π := π) (vs := #[v0, .agg #[.int .u16 I.k0, .int .u16 I.k1, .int .u16 I.k2], .int .u64 I.v]) hw (LR.cons hr (LR.cons hagg (LR.cons (dA_rel (I := I) (a := 17) (by omega) rfl h.v π) LR.nil)))
end Go.Proofs.Ytdenpaifjpmkgaa
