/- RatLimits: what it answers, for all numbers. -/
import Derived.Test.YtieabeodommbiaaQj
import Derived.Test.YtieabeodommbiaaQn
import Derived.Test.YtieabeodommbiaaQn1
import Derived.Test.YtieabeodommbiaaQn2
import Derived.Test.YtieabeodommbiaaQn3
import Derived.Test.YtieabeodommbiaaQn4
namespace Go.Proofs.Ytieabeodommbiaa
open Go.RowKit (Below)
open Go.Ev

theorem pw_ok {n : Int} (h : -62 ≤ n ∧ n ≤ 62) : okQ (pw n) ∧ (pw n).num = (pwN n : Nat) ∧ (pw n).den = pwD n ∧ (pw n).num ≠ 0 := by
  have := List.all_eq_true.1 pws_ok n (mem125 h)
  simp only [pwOk, Bool.and_eq_true, okB_eq, decide_eq_true_eq, Nat.beq_eq, Bool.not_eq_true', decide_eq_false_iff_not] at this
  exact ⟨this.1, this.2.1, this.2.2.1, this.2.2.2⟩
theorem pw_frac {n : Int} (h : -62 ≤ n ∧ n ≤ 62) : frac (pw n) = .agg #[.int .i64 (pwN n : Nat), .int .i64 (pwD n : Nat)] := by
  unfold frac; rw [(pw_ok h).2.1, (pw_ok h).2.2.1]

section
variable [Rho]
theorem fx_mkA {k : IntKind} {e : SX} {lo hi n : Int} (h1 : e.ok) (h2 : e.eval = n) (h3 : lo ≤ n ∧ n ≤ hi) : FX (mkA k e lo hi) n k := by
  unfold mkA
  split
  · obtain rfl : n = lo := by omega
    exact fx_int
  · exact fx_sym h1 h2 h3
theorem cP_f {n : Int} (h : -62 ≤ n ∧ n ≤ 62) : FA (cP n) (frac (pw n)) ∧ FV (cP n) (frac (pw n)) := by
  rw [pw_frac h]
  exact ⟨fa_pair fx_int fx_int rfl, fv_pair fx_int fx_int rfl⟩
theorem PV_f {c : Bool} {n b : Int} {i : Nat} (hc : c = true → n = b) (hb : -62 ≤ b ∧ b ≤ 62) (h1 : Rho.ρ i = (pw b).num) (h2 : Rho.ρ (i + 1) = (pw b).den) : FA (PV c n i) (frac (pw b)) ∧ FV (PV c n i) (frac (pw b)) := by
  cases c with
  | false => exact ⟨fa_fr h1 h2, fv_fr (pw_ok hb).1 h1 h2⟩
  | true => rw [hc rfl]; exact cP_f hb
theorem PR_f {c : Bool} {n b : Int} {i : Nat} (hc : c = true → n = b) (hb : -62 ≤ b ∧ b ≤ 62) (h1 : Rho.ρ i = (pw b).num) (h2 : Rho.ρ (i + 1) = (pw b).den) : FV (PR c n i) (resV (pw b)) := by
  cases c with
  | false => exact fv_R (c := true) (decide_eq_true (pw_ok hb).1).symm h1 h2
  | true =>
    rw [hc rfl]
    refine ⟨rfl, rfl, ⟨trivial, trivial, trivial, trivial⟩, ?_⟩
    have := pw_ok hb
    unfold resV rN rD rE
    rw [if_pos this.1, if_pos this.1, if_pos this.1, this.2.1, this.2.2.1]; rfl
theorem big_f {x : Rat} (h : ¬ okQ x) : FV bigA (resV x) := by
  refine ⟨rfl, rfl, ⟨trivial, trivial, trivial, trivial⟩, ?_⟩
  unfold resV rN rD rE
  rw [if_neg h, if_neg h, if_neg h]; rfl
theorem rs_f {m : Bool} {v : AV} {x : Rat} (hm : m = decide (okQ x)) (h : m = true → FV v (resV x)) : FV (rs m v) (resV x) := by
  cases m with
  | true => exact h rfl
  | false => exact big_f (of_decide_eq_false hm.symm)
theorem res_f {z : Int} (h : -4611686018427387904 ≤ z ∧ z ≤ 4611686018427387904) : FV (.agg [.int .i64 z, .int .i64 1, .int .i64 0]) (resV (z : Rat)) := by
  refine ⟨rfl, rfl, ⟨trivial, trivial, trivial, trivial⟩, ?_⟩
  have hn := okI h
  unfold resV rN rD rE
  rw [if_pos hn, if_pos hn, if_pos hn, Rat.num_intCast, Rat.den_intCast]; rfl
theorem int_f (z : Int) : FA (.agg [.int .i64 z, .int .i64 1]) (frac (z : Rat)) := by rw [fracI]; exact fa_pair fx_int fx_int rfl
end

theorem power_c (n : Int) (h : -62 ≤ n ∧ n ≤ 62) (w : World) : Calls Try.prog 36 #[.int .i64 n] w fun e w' => e = .returned (frac (pw n)) ∧ Below w.heap.size w w' := by
  letI := rho []
  have hr := List.all_eq_true.1 power_run n (mem125 h)
  have := run_open fit (orcOf_ok (L := []) trivial) hr ⟨trivial, trivial⟩ w
  rw [(cP_f h).2.vl] at this
  exact this

theorem hlf_frac : frac (mkRat 1 2) = .agg #[.int .i64 1, .int .i64 2] := by
  unfold frac
  rw [show (mkRat 1 2).num = 1 by kernel_rfl, show (mkRat 1 2).den = 2 by kernel_rfl]; rfl
theorem hlf_ok : okQ (mkRat 1 2) := of_decide_eq_true (by rw [← okB_eq]; kernel_rfl)
theorem hlf_big : (bools.all fun neg => !okB (((sgB neg * 4611686018427387904 : Int) : Rat) - mkRat 1 2)) = true := by kernel_rfl

theorem lim_run (a : Int) (h : -62 ≤ a ∧ a ≤ 62) {I : Int × Int} (hI : I ∈ ivs a) (neg : Bool) : limRun a I.1 I.2 neg = true := by
  have e : Int.ofNat (a + 62).toNat - 62 = a := by simp only [Int.ofNat_eq_natCast]; omega
  have g : ∀ i n, limRuns i n = true → i ≤ (a + 62).toNat → (a + 62).toNat < i + n → limRun a I.1 I.2 neg = true := fun i n h1 h2 h3 => by
    have := List.all_eq_true.1 h1 (a + 62).toNat (by rw [List.mem_range'_1]; omega)
    rw [e] at this
    exact all_bools (List.all_eq_true.1 this I hI) neg
  have hj : (a + 62).toNat < 125 := by omega
  generalize (a + 62).toNat = j at *
  have hc : j / 8 = 0 ∨ j / 8 = 1 ∨ j / 8 = 2 ∨ j / 8 = 3 ∨ j / 8 = 4 ∨ j / 8 = 5 ∨ j / 8 = 6 ∨ j / 8 = 7 ∨ j / 8 = 8 ∨ j / 8 = 9 ∨ j / 8 = 10 ∨ j / 8 = 11 ∨ j / 8 = 12 ∨ j / 8 = 13 ∨ j / 8 = 14 ∨ j / 8 = 15 := by omega
  rcases hc with h0 | h0 | h0 | h0 | h0 | h0 | h0 | h0 | h0 | h0 | h0 | h0 | h0 | h0 | h0 | h0
  · exact g 0 8 lim0 (by omega) (by omega)
  · exact g 8 8 lim1 (by omega) (by omega)
  · exact g 16 8 lim2 (by omega) (by omega)
  · exact g 24 8 lim3 (by omega) (by omega)
  · exact g 32 8 lim4 (by omega) (by omega)
  · exact g 40 8 lim5 (by omega) (by omega)
  · exact g 48 8 lim6 (by omega) (by omega)
  · exact g 56 8 lim7 (by omega) (by omega)
  · exact g 64 8 lim8 (by omega) (by omega)
  · exact g 72 8 lim9 (by omega) (by omega)
  · exact g 80 8 lim10 (by omega) (by omega)
  · exact g 88 8 lim11 (by omega) (by omega)
  · exact g 96 8 lim12 (by omega) (by omega)
  · exact g 104 8 lim13 (by omega) (by omega)
  · exact g 112 8 lim14 (by omega) (by omega)
  · exact g 120 5 lim15 (by omega) (by omega)

theorem limits_c (P Q : Int) (neg : Bool) (hP : 0 ≤ P ∧ P ≤ 255) (hQ : 0 ≤ Q ∧ Q ≤ 255) (w : World) :
    Calls Try.prog 9 #[.int .u8 P, .int .u8 Q, .bool neg] w fun e w' => e = .returned (.bool true) ∧ Below w.heap.size w w' := by
  obtain ⟨a, ea⟩ : ∃ a, a = P % 125 - 62 := ⟨_, rfl⟩
  obtain ⟨b, eb⟩ : ∃ b, b = Q % 125 - 62 := ⟨_, rfl⟩
  have ha : -62 ≤ a ∧ a ≤ 62 := by omega
  have hb : -62 ≤ b ∧ b ≤ 62 := by omega
  obtain ⟨I, hI, hin⟩ := List.any_eq_true.1 (List.all_eq_true.1 (List.all_eq_true.1 ivs_ok a (mem125 ha)) b (mem125 hb))
  have run := lim_run a ha hI neg
  obtain ⟨lo, hi⟩ := I
  simp only [inIv, Bool.and_eq_true, decide_eq_true_eq, beq_iff_eq] at hin
  obtain ⟨⟨l1, l2, l3, l4⟩, f1, f2, f3⟩ := hin
  obtain ⟨p1, p2, p3, p4, p5⟩ := pair_ok ha hb
  rw [f1] at p1 p4
  rw [f2] at p2 p5
  rw [f3] at p3
  have rM : fitM a lo = true → -62 ≤ a + b ∧ a + b ≤ 62 := fun h => by rw [← f1] at h; simpa [fitM] using h
  have rD' : fitD a lo = true → -62 ≤ a - b ∧ a - b ≤ 62 := fun h => by rw [← f2] at h; simpa [fitD] using h
  letI := rho [P / 125, Q / 125, Q % 125, 0, 0, (pw b).num, (pw b).den, (pw (a + b)).num, (pw (a + b)).den, (pw (a - b)).num, (pw (a - b)).den, (pw a + pw b).num, (pw a + pw b).den]
  have i1 : Rho.ρ (iS a) = (pw (a + b)).num := by
    unfold iS
    split
    · rename_i h; rw [h, Int.zero_add]; rfl
    · rfl
  have i2 : Rho.ρ (iS a + 1) = (pw (a + b)).den := by
    unfold iS
    split
    · rename_i h; rw [h, Int.zero_add]; rfl
    · rfl
  have hc : decide (lo = hi) = true → lo = b := fun h => by have := of_decide_eq_true h; omega
  have bok : (bX lo hi).ok := ⟨show lo + 62 ≤ Q % 125 ∧ Q % 125 ≤ hi + 62 by omega, trivial⟩
  have bev : (bX lo hi).eval = b := by show Q % 125 - 62 = b; omega
  have XP : FX (pA a) P .u8 := fx_sym ⟨⟨trivial, show 0 ≤ P / 125 ∧ P / 125 ≤ 2 by omega⟩, trivial⟩ (show 125 * (P / 125) + (a + 62) = P by omega) hP
  have XQ : FX (qA lo hi) Q .u8 := fx_sym ⟨⟨trivial, show 0 ≤ Q / 125 ∧ Q / 125 ≤ 2 by omega⟩, show lo + 62 ≤ Q % 125 ∧ Q % 125 ≤ hi + 62 by omega⟩ (show 125 * (Q / 125) + Q % 125 = Q by omega) hQ
  have XB : FX (bS lo hi) b .i64 := fx_mkA bok bev ⟨l3, l4⟩
  have ax := addX_ok (.lit a) (bX lo hi) trivial bok
  have XS : FX (sumA a lo hi) (a + b) .i64 := fx_mkA ax.1 (by rw [ax.2, bev]; rfl) (by omega)
  have XD : FX (difA a lo hi) (a - b) .i64 := fx_mkA ⟨trivial, bok⟩ (by show a - (bX lo hi).eval = _; rw [bev]) (by omega)
  have A := cP_f ha
  have B := PV_f hc hb (i := 5) rfl rfl
  have oa := (pw_ok ha).1
  have ob := (pw_ok hb).1
  have ev : #[Value.int .u8 P, Value.int .u8 Q, Value.bool neg] = ([pA a, qA lo hi, AV.bool neg].map AV.vl1).toArray := by
    simp only [List.map_cons, List.map_nil, XP.vl1, XQ.vl1]; rfl
  have hs : sgB neg = 1 ∨ sgB neg = -1 := by cases neg <;> simp [sgB]
  have oe : okQ ((sgB neg * 4611686018427387904 : Int) : Rat) := okI (by rcases hs with h | h <;> rw [h] <;> omega)
  have o1 : okQ ((sgB neg : Int) : Rat) := okI (by rcases hs with h | h <;> rw [h] <;> omega)
  have ol : okQ ((sgB neg * 4611686018427387903 : Int) : Rat) := okI (by rcases hs with h | h <;> rw [h] <;> omega)
  rw [ev]
  refine run_open fit (orcOf_ok (L := limFacts a lo hi neg) ⟨?_, ?_, ?_, ?_, ?_, ?_, trivial⟩) run ⟨XP.fine1, XQ.fine1, trivial, trivial⟩ w
  · exact one (fct_flat rfl rfl rfl trivial body10 ex_c)
  · refine two (holds1 fx_int.fa A.2 body36 (power_c a ha)) (two (holds1 XB.fa B.2 body36 (power_c b hb)) (appH (cifH fun h => holds1 XS.fa (PV_f (fun h' => by rw [hc h']) (rM h) i1 i2).2 body36 (power_c (a + b) (rM h)))
      (cifH fun h => holds1 XD.fa (PV_f (fun h' => by rw [hc h']) (rD' h) rfl rfl).2 body36 (power_c (a - b) (rD' h)))))
  · exact one (holds2 A.1 B.1 (rs_f p1 (fun h => by rw [p4 h]; exact PR_f (fun h' => by rw [hc h']) (rM h) i1 i2)) body20 (mulL (pw a) (pw b) oa ob))
  · exact one (holds2 A.1 B.1 (rs_f p2 (fun h => by rw [p5 h]; exact PR_f (fun h' => by rw [hc h']) (rD' h) rfl rfl)) body22 (divL (pw a) (pw b) oa ob (pw_ok hb).2.2.2))
  · refine two (holds2 A.1 B.1 (fv_R p3 rfl rfl) body16 (addL (pw a) (pw b) oa ob)) (two (holds2 (int_f _) (int_f _) (big_f (x := ((sgB neg * 4611686018427387904 : Int) : Rat) + ((sgB neg : Int) : Rat)) ?_) body16 (addL _ _ oe o1))
      (one (holds2 (int_f _) (int_f _) (vv := resV (((sgB neg * 4611686018427387903 : Int) : Rat) + ((sgB neg : Int) : Rat))) ?_ body16 (addL _ _ ol o1))))
    · rw [← Rat.intCast_add]; unfold okQ; rw [Rat.num_intCast]; rcases hs with h | h <;> rw [h] <;> omega
    · rw [← Rat.intCast_add, show sgB neg * 4611686018427387903 + sgB neg = sgB neg * 4611686018427387904 by omega]
      exact res_f (by rcases hs with h | h <;> rw [h] <;> omega)
  · refine two (holds2 (int_f _) (int_f _) (vv := resV (((sgB neg * 4611686018427387904 : Int) : Rat) - ((sgB neg : Int) : Rat))) ?_ body18 (subL _ _ oe o1)) (one (holds2 (int_f _) (vy := frac (mkRat 1 2)) ?_ (big_f (x := ((sgB neg * 4611686018427387904 : Int) : Rat) - mkRat 1 2) ?_) body18 (subL _ _ oe hlf_ok)))
    · rw [← Rat.intCast_sub, show sgB neg * 4611686018427387904 - sgB neg = sgB neg * 4611686018427387903 by omega]
      exact res_f (by rcases hs with h | h <;> rw [h] <;> omega)
    · rw [hlf_frac]; exact fa_pair fx_int fx_int rfl
    · have := all_bools (f := fun neg => !okB (((sgB neg * 4611686018427387904 : Int) : Rat) - mkRat 1 2)) hlf_big neg
      rw [okB_eq, Bool.not_eq_true'] at this
      exact of_decide_eq_false this

end Go.Proofs.Ytieabeodommbiaa
