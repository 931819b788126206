/- Trees of digests: what the reference's path answers. -/
import Derived.Test.YtdenpaifjpmkgaaUa
import Derived.Test.YtdenpaifjpmkgaaVa
namespace Go.Proofs.Ytdenpaifjpmkgaa
open Go.Ev
open Go.RowKit (Below)
set_option maxRecDepth 100000
set_option linter.unusedVariables false
set_option linter.unusedSectionVars false

theorem rroot_at {R : Rho} {k : Nat} {L : List Int} {sk o n : Nat} (hR : RowOk R k L sk) (ho : o + n ≤ L.length) (h1 : 1 ≤ n) (hn : n ≤ 512) {off len cap : SX} {ex : Bool} {v : AV} (e1 : @SX.eval R off = ((sk + o : Nat) : Int)) (e2 : @SX.eval R len = (n : Int))
    (hv : @Is0 R v (.int .u64 (rootL (sub L o n)))) : @Fct.Holds R Try.prog 24 (Fct.mk [.sls 0 off len cap ex] [rowD k] v [] []) := by
  have hl := sub_len ho
  refine rroot_fct (l := sub L o n) (rroot_c n hn _ hl h1) (sub_u64 hR.u) (by rw [hl]; exact e2) (by rw [e1, hR.skip]; omega) (by rw [e1, hR.skip, hR.len, hl]; omega) (fun i hi => ?_) hv.l hv.v hv.f
  rw [hl] at hi
  rw [e1, hR.skip, hR.val, sub_get hi]
  congr 2; omega

noncomputable abbrev pL (j : Nat) : AV := .sls 0 (.free 102) (.lit (pw j)) (lenX j) false
noncomputable abbrev pR (j : Nat) : AV := .sls 0 (.bin .add (.free 102) (.lit (pw j))) (.bin .sub (lenX j) (.lit (pw j))) (.bin .sub (lenX j) (.lit (pw j))) false
noncomputable def pY (j : Nat) : AV := .sls 0 (.free 102) (lenX j) (lenX j) false
noncomputable def pS (j : Nat) (sd : Bool) : AV := if sd then pL j else pR j
noncomputable abbrev pt0 (y x : AV) : Fct := ⟨[y, x], [rowD 50], .slice 1 0 0 0 true 1, [1], [{ elem := 24, cells := [], ro := false }]⟩
noncomputable abbrev ptC (y x : AV) : Fct := ⟨[y, x], [rowD 50], .slice 3 0 1 1 false 1, [3], [{ elem := 24, cells := [dA 107], ro := false }]⟩
noncomputable abbrev rowPt (k : Nat) : ABlk := { elem := 24, cells := [], ro := false, tl := some (k, .int .u64) }
noncomputable abbrev ptF (y x : AV) (len : SX) (k : Nat) : Fct := ⟨[y, x], [rowD 50], .sls 3 (.lit 0) len len false, [3], [rowPt k]⟩
noncomputable def rtO (j : Nat) (sd : Bool) : Fct := ⟨[if sd then pR j else pL j], [rowD 50], dA 107, [], []⟩
noncomputable def ptTab : KTab := { apps := [(.int .u64, .lst 60 (.lit 0) dpX, .cells [dA 107], 61)] }
theorem pt_1 : ((pt0 (.sls 0 (.free 102) (.lit 1) (.lit 1) false) (.int .i64 0)).good && (pt0 (.sls 0 (.free 102) (.lit 1) (.lit 1) false) (.int .i64 0)).got ((@evF noKnow Try.prog noOrc 5000).call 41 [.sls 0 (.free 102) (.lit 1) (.lit 1) false, .int .i64 0] (pt0 (.sls 0 (.free 102) (.lit 1) (.lit 1) false) (.int .i64 0)).st)) = true := by kernel_rfl
noncomputable def ptG0 (j : Nat) (sd : Bool) : Bool := (ptC (pY j) (ciA j sd)).good && (ptC (pY j) (ciA j sd)).got ((@evF noKnow Try.prog (orcOf [(41, [pt0 (pS j sd) (subI j sd)]), (24, [rtO j sd])]) 5000).call 41 [pY j, ciA j sd] (ptC (pY j) (ciA j sd)).st)
noncomputable def ptG1 (j : Nat) (sd : Bool) : Bool := (ptF (pY j) (ciA j sd) (.bin .add dpX (.lit 1)) 61).good &&
  (ptF (pY j) (ciA j sd) (.bin .add dpX (.lit 1)) 61).got ((@evF ptTab.know Try.prog (orcOf [(41, [ptF (pS j sd) (subI j sd) dpX 60]), (24, [rtO j sd])]) 5000).call 41 [pY j, ciA j sd] (ptF (pY j) (ciA j sd) (.bin .add dpX (.lit 1)) 61).st)
theorem ptG_all : (List.range 9).all (fun j => (ptG0 j true && ptG0 j false) && (ptG1 j true && ptG1 j false)) = true := by kernel_rfl

theorem goodP {off len cap : SX} {x v : AV} {sel : List Nat} {new : List ABlk} (hx : x.lone = true) (h : (Fct.mk [.sls 0 (.lit 0) (.lit 0) (.lit 0) false, .int .i64 0] [rowD 50] v sel new).good = true) : (Fct.mk [.sls 0 off len cap false, x] [rowD 50] v sel new).good = true := by
  simp only [Fct.good, Bool.and_eq_true, List.all_cons, List.all_nil] at h ⊢
  exact ⟨h.1, ⟨rfl, lone_all1 hx, trivial⟩, h.2.2⟩

def overF (n o i d : Nat) (r : Int) (a : Nat) : Int := if a = 100 then n else if a = 102 then o else if a = 103 then i else if a = 106 then d else if a = 107 then r else 0
@[reducible] def overP (R : Rho) (f : Nat → Int) : Rho := ⟨fun a => if 100 ≤ a ∧ a < 108 then f a else @Rho.ρ R a⟩
@[reducible] def rP (R : Rho) (f : Nat → Int) (l60 l61 : List Int) : Rho := setL (setL (overP R f) 60 l60) 61 l61
section
variable {R : Rho} {f : Nat → Int} {l60 l61 : List Int}
theorem rP_at {a : Nat} (h : 100 ≤ a ∧ a < 108) : @Rho.ρ (rP R f l60 l61) a = f a := by
  unfold rP; rw [setL_num (by omega), setL_num (by omega)]; exact if_pos h
theorem rP_lst {k t : Nat} (hk : k < 60) : @Rho.ρ (rP R f l60 l61) (lix k t) = @Rho.ρ R (lix k t) := by
  unfold rP; rw [setL_ne (by omega) (by omega), setL_ne (by omega) (by omega)]; exact if_neg (by unfold lix; omega)
theorem rP_agree : Agree 60 R (rP R f l60 l61) := ⟨fun a ha => by
    unfold rP; rw [setL_num (by omega), setL_num (by omega)]; exact (if_neg (by omega)).symm, fun k t hk => (rP_lst hk).symm⟩
theorem rP_60 : LetL (rP R f l60 l61) 60 l60 := (LetL.set (by omega)).keepL (by omega) (by omega)
theorem rP_61 : LetL (rP R f l60 l61) 61 l61 := LetL.set (by omega)
theorem rP_row {L : List Int} {sk : Nat} (h : RowOk R 50 L sk) : RowOk (rP R f l60 l61) 50 L sk :=
  ⟨by rw [← h.skip]; unfold lskip; rw [rP_lst (by omega)], by rw [← h.len]; unfold llen; rw [rP_lst (by omega)], fun t => by rw [← h.val t]; unfold lval lel; rw [rP_lst (by omega)], h.u⟩
end
theorem overF_at (n o i d : Nat) (r : Int) : overF n o i d r 100 = n ∧ overF n o i d r 102 = o ∧ overF n o i d r 103 = i ∧ overF n o i d r 106 = d ∧ overF n o i d r 107 = r := by
  refine ⟨?_, ?_, ?_, ?_, ?_⟩ <;> simp [overF]

def RPathOk (n i : Nat) : Prop := ∀ (R : Rho) (L : List Int) (sk o : Nat) (off len cap : SX) (x : AV), RowOk R 50 L sk → o + n ≤ L.length → @SX.eval R off = ((sk + o : Nat) : Int) → @SX.eval R len = (n : Int) → @Is0 R x (.int .i64 i) →
  (depN n i = 0 → @Fct.Holds R Try.prog 41 (pt0 (.sls 0 off len cap false) x)) ∧
  (∀ (ln : SX) (k : Nat), 0 < depN n i → @SX.ok R ln → @SX.eval R ln = (depN n i : Int) → LetL R k (pathL (sub L o n) i) → @Fct.Holds R Try.prog 41 (ptF (.sls 0 off len cap false) x ln k))

theorem pargs {R1 R2 : Rho} {π : Inj} {off len cap off1 len1 : SX} {x x1 : AV} {o n i : Nat} (e1 : @SX.eval R2 off = (o : Int)) (e2 : @SX.eval R2 len = (n : Int)) (hx : @Is0 R2 x (.int .i64 i))
    (k0 : @SX.ok R1 off1) (k1 : @SX.ok R1 len1) (e3 : @SX.eval R1 off1 = (o : Int)) (e4 : @SX.eval R1 len1 = (n : Int)) (hx1 : @Is0 R1 x1 (.int .i64 i)) {vs : List Value} (h : @LR R2 π [] [.sls 0 off len cap false, x] vs) : @LR R1 π [] [.sls 0 off1 len1 len1 false, x1] vs := by
  obtain ⟨c0, w0, rfl, r1, r2⟩ := @LR.uncons R2 _ _ _ _ _ h
  obtain ⟨c1, w1, rfl, r3, r4⟩ := @LR.uncons R2 _ _ _ _ _ r2
  obtain rfl := @LR.nil_inv R2 _ _ _ r4
  obtain rfl := @Is0.eq R2 _ _ _ _ _ hx r3
  obtain ⟨so, b', m, cap', hp, rfl, hex⟩ := (letI := R2; VR.sls_inv r1)
  have n3 := @SlOk.n3 R2 _ _ _ so
  letI := R1
  have b := vl0_rel (π := π) (lm := []) hx1.l hx1.f
  rw [hx1.v] at b
  rcases hex with ⟨h, _⟩ | ⟨_, h3, h4⟩
  · cases h
  · have so1 : SlOk off1 len1 len1 := ⟨k0, k1, k1, by rw [e3]; omega, by rw [e4]; omega, Int.le_refl _⟩
    rw [e2] at n3
    have a := VR.slsIn (π := π) (lm := []) (cap' := cap') so1 hp (by rw [e4]; omega) (by rw [e3, ← e1]; exact h4)
    rw [e3, e4, ← e1, ← e2] at a
    exact LR.cons a (LR.cons b LR.nil)

theorem stP {y x v : AV} {sel : List Nat} {new : List ABlk} : (Fct.mk [y, x] [rowD 50] v sel new).st = (pt0 y x).st := rfl
theorem st_stab {y x v : AV} {sel : List Nat} {new : List ABlk} : (Fct.mk [y, x] [rowD 50] v sel new).st.heap.all (fun b => match b with | some A => stabL 60 A.cells && (match A.tl with | some (k, _) => Nat.blt k 60 | none => true) | none => true) = true := rfl
theorem stP_move {R1 R2 : Rho} (hA : Agree 60 R2 R1) {B : Nat} {π : Inj} {w : World} {y x v y' x' v' : AV} {sel sel' : List Nat} {new new' : List ABlk} (h : @WR R2 B π [] (Fct.mk [y, x] [rowD 50] v sel new).st w) : @WR R1 B π [] (Fct.mk [y', x'] [rowD 50] v' sel' new').st w :=
  WR.stab (m := 60) hA rfl st_stab h

theorem rpath_ok : ∀ (n i : Nat), 1 ≤ n → n ≤ 512 → i < n → RPathOk n i := by
  intro n
  induction n using Nat.strongRecOn with
  | ind n ih =>
    intro i h1 hn hi R L sk o off len cap x hrow hol e1 e2 hx
    by_cases h2 : n < 2
    · obtain rfl : n = 1 := by omega
      obtain rfl : i = 0 := by omega
      refine ⟨fun _ => ?_, fun ln k h0 => by rw [depN_1 h2] at h0; omega⟩
      have hg := pt_1
      rw [Bool.and_eq_true] at hg
      let R0 := rP R (overF 1 (sk + o) 0 0 0) [] []
      have e102 : @SX.eval R0 (.free 102) = ((sk + o : Nat) : Int) := (rP_at (by omega)).trans (overF_at _ _ _ _ _).2.1
      have hF : @Fct.Holds R0 Try.prog 41 (pt0 (.sls 0 (.free 102) (.lit 1) (.lit 1) false) (.int .i64 0)) := by
        letI := R0
        exact @Fct.holds R0 Try.prog noOrc noKnow noKnow_ok fit (noOrc_ok _) 5000 41 _ hg.1 hg.2
      refine Fct.move hF (goodP (@Is0.l R _ _ hx) (by rfl)) rfl rfl (fun B π w h => stP_move rP_agree h) (fun π vs h => pargs (off1 := .free 102) (len1 := .lit 1) e1 e2 hx trivial trivial e102 rfl (@Is0.int R0 .i64 0) h) (fun π lm c r => ?_) rfl rfl (fun t A1 A2 e1 e2 => ?_)
      · cases r with
        | sliceEx h => exact @VR.sliceEx R _ _ _ _ _ _ _ _ _ h
      · match t, e1, e2 with
        | 0, e1, e2 =>
          obtain rfl := Option.some.inj e1
          obtain rfl := Option.some.inj e2
          exact ⟨rfl, rfl, fun π lm c _ _ => ⟨@LR.nil R _ _, @TailOk.none R _ _ rfl⟩⟩
    · obtain ⟨j, hj, hj1, hj2, hj3⟩ := hf_class (show 2 ≤ n by omega) hn
      have hb := hf_bd (show 2 ≤ n by omega)
      have ew : pw j = ((hf n : Nat) : Int) := by rw [hj3]
      have ew2 : pw (j + 1) = ((2 ^ (j + 1) : Nat) : Int) := rfl
      have hj2' : (n : Int) ≤ pw (j + 1) := by rw [ew2]; exact_mod_cast hj2
      have hsl : (sub L o n).length = n := sub_len hol
      have side : ∀ (sd : Bool) (n' i' o' : Nat) (l0 : Int), (sd = true → n' = hf n ∧ i' = i ∧ i < hf n ∧ o' = o ∧ l0 = rootL (sub L (o + hf n) (n - hf n))) → (sd = false → n' = n - hf n ∧ i' = i - hf n ∧ ¬ i < hf n ∧ o' = o + hf n ∧ l0 = rootL (sub L o (hf n))) →
          depN n i = depN n' i' + 1 → pathL (sub L o n) i = pathL (sub L o' n') i' ++ [l0] →
          ∀ (ln : SX) (k : Nat), @SX.ok R ln → @SX.eval R ln = (depN n i : Int) → LetL R k (pathL (sub L o n) i) → @Fct.Holds R Try.prog 41 (ptF (.sls 0 off len cap false) x ln k) := by
        intro sd n' i' o' l0 ht hf' hdep hpl ln k hlo hle hk
        have hn' : n' < n ∧ 1 ≤ n' ∧ i' < n' ∧ o' + n' ≤ L.length := by
          cases sd
          · have := hf' rfl; omega
          · have := ht rfl; omega
        have hd9 : depN n' i' ≤ 9 := by have := dep_le 9 n' i' (by omega); omega
        have hsub := ih n' hn'.1 i' hn'.2.1 (by omega) hn'.2.2.1
        have hg := List.all_eq_true.1 ptG_all j (List.mem_range.2 hj)
        simp only [Bool.and_eq_true] at hg
        have g0 : ptG0 j sd = true := by cases sd; exact hg.1.2; exact hg.1.1
        have g1 : ptG1 j sd = true := by cases sd; exact hg.2.2; exact hg.2.1
        unfold ptG0 at g0
        unfold ptG1 at g1
        rw [Bool.and_eq_true] at g0 g1
        let l60 := pathL (sub L o' n') i'
        let l61 := pathL (sub L o n) i
        let R0 := rP R (overF n (sk + o) i (depN n' i') l0) l60 l61
        have hl60 : l60.length = depN n' i' := by show (pathL _ _).length = _; rw [path_len, sub_len hn'.2.2.2]
        have e100 : @Rho.ρ R0 100 = (n : Int) := (rP_at (by omega)).trans (overF_at _ _ _ _ _).1
        have e102 : @Rho.ρ R0 102 = ((sk + o : Nat) : Int) := (rP_at (by omega)).trans (overF_at _ _ _ _ _).2.1
        have e103 : @Rho.ρ R0 103 = (i : Int) := (rP_at (by omega)).trans (overF_at _ _ _ _ _).2.2.1
        have e106 : @Rho.ρ R0 106 = (depN n' i' : Int) := (rP_at (by omega)).trans (overF_at _ _ _ _ _).2.2.2.1
        have e107 : @Rho.ρ R0 107 = l0 := (rP_at (by omega)).trans (overF_at _ _ _ _ _).2.2.2.2
        have q60 : LetL R0 60 l60 := rP_60
        have q61 : LetL R0 61 l61 := rP_61
        have hrow0 : RowOk R0 50 L sk := rP_row hrow
        have okN : @SX.ok R0 (lenX j) := by
          show pw j + 1 ≤ @Rho.ρ R0 100 ∧ @Rho.ρ R0 100 ≤ pw (j + 1)
          rw [e100]; omega
        have iOk : @Is0 R0 (ciA j sd) (.int .i64 i) := by
          cases sd
          · have := hf' rfl
            exact @Is0.var R0 _ _ _ _ _ e103 (by omega) (by omega)
          · have := ht rfl
            exact @Is0.var R0 _ _ _ _ _ e103 (by omega) (by omega)
        have sI : @Is0 R0 (subI j sd) (.int .i64 i') := by
          cases sd
          · have := hf' rfl
            refine @Is0.made R0 _ _ _ _ _ ⟨(@Is0.f R0 _ _ iOk).1, trivial⟩ ?_ (by omega) (by omega)
            show @Rho.ρ R0 103 - pw j = _
            rw [e103, ew]; omega
          · have := ht rfl
            rw [this.2.1]; exact iOk
        have u0 : u64 l0 := by
          cases sd
          · rw [(hf' rfl).2.2.2.2]; exact rootL_u64 (sub_u64 hrow.u)
          · rw [(ht rfl).2.2.2.2]; exact rootL_u64 (sub_u64 hrow.u)
        have e107' : @Is0 R0 (dA 107) (.int .u64 l0) := @Is0.dig R0 _ _ e107 u0
        have hq : ∀ (F : Fct), F = pt0 (pS j sd) (subI j sd) ∧ depN n' i' = 0 ∨ F = ptF (pS j sd) (subI j sd) dpX 60 ∧ 0 < depN n' i' → @Fct.Holds R0 Try.prog 41 F := by
          intro F hF
          have hgen : ∀ (of' ln' cp' : SX), pS j sd = .sls 0 of' ln' cp' false → @SX.eval R0 of' = ((sk + o' : Nat) : Int) → @SX.eval R0 ln' = (n' : Int) → @Fct.Holds R0 Try.prog 41 F := by
            intro of' ln' cp' hs a1 a2
            obtain ⟨p0, p1⟩ := hsub R0 L sk o' of' ln' cp' (subI j sd) hrow0 hn'.2.2.2 a1 a2 sI
            rcases hF with ⟨rfl, hz⟩ | ⟨rfl, hz⟩
            · rw [hs]; exact p0 hz
            · rw [hs]; exact p1 dpX 60 hz (by show (1 : Int) ≤ @Rho.ρ R0 106 ∧ @Rho.ρ R0 106 ≤ 9; rw [e106]; omega) e106 q60
          cases sd
          · have := hf' rfl
            refine hgen _ _ _ rfl ?_ ?_
            · show @Rho.ρ R0 102 + pw j = _
              rw [e102, ew, this.2.2.2.1]; omega
            · show @Rho.ρ R0 100 - pw j = _
              rw [e100, ew, this.1]; omega
          · have := ht rfl
            refine hgen _ _ _ rfl ?_ ?_
            · show @Rho.ρ R0 102 = _
              rw [e102, this.2.2.2.1]
            · show pw j = _
              rw [ew, this.1]
        have hr : @Fct.Holds R0 Try.prog 24 (rtO j sd) := by
          cases sd
          · have := hf' rfl
            refine rroot_at (o := o) (n := hf n) hrow0 (by omega) hb.1 (by omega) e102 ?_ (by rw [← this.2.2.2.2]; exact e107')
            show pw j = _
            exact ew
          · have := ht rfl
            refine rroot_at (o := o + hf n) (n := n - hf n) hrow0 (by omega) (by omega) (by omega) ?_ ?_ (by rw [← this.2.2.2.2]; exact e107')
            · show @Rho.ρ R0 102 + pw j = _
              rw [e102, ew]; omega
            · show @Rho.ρ R0 100 - pw j = _
              rw [e100, ew]; omega
        have hgd : (ptF (.sls 0 off len cap false) x ln k).good = true := goodP (@Is0.l R _ _ hx) (by rfl)
        have hbb : (ptF (.sls 0 off len cap false) x ln k).new.all (fun A => beqB A A) = true := by
          show (beqB (rowPt k) (rowPt k) && true) = true
          simp [beqB, tlSame, beqL, EK.no]
        have hargs : ∀ π vs, @LR R π [] [.sls 0 off len cap false, x] vs → @LR R0 π [] [pY j, ciA j sd] vs := fun π vs h => pargs (off1 := .free 102) (len1 := lenX j) e1 e2 hx trivial okN e102 e100 iOk h
        by_cases hd0 : depN n' i' = 0
        · have hF : @Fct.Holds R0 Try.prog 41 (ptC (pY j) (ciA j sd)) :=
            @Fct.holds R0 Try.prog (orcOf [(41, [pt0 (pS j sd) (subI j sd)]), (24, [rtO j sd])]) noKnow (@noKnow_ok R0) (@fit R0) (@orcOf_ok R0 _ _ ⟨fun F hF => hq F (.inl ⟨List.mem_singleton.1 hF, hd0⟩), fun F hF => by obtain rfl := List.mem_singleton.1 hF; exact hr, trivial⟩) 5000 41 _ g0.1 g0.2
          have hs1 : pathL (sub L o n) i = [l0] := by
            have : pathL (sub L o' n') i' = [] := List.length_eq_zero_iff.1 (by show l60.length = 0; omega)
            rw [hpl, this]; rfl
          rw [hdep, hd0] at hle
          refine Fct.move hF hgd rfl rfl (fun B π w h => stP_move rP_agree h) hargs (fun π lm c r => ?_) rfl hbb (fun t A1 A2 e1 e2 => ?_)
          · letI := R
            obtain ⟨b', m, cap', hp, rfl, hex⟩ := @VR.slice_inv R0 _ _ _ _ _ _ _ _ _ r
            rcases hex with ⟨h, _⟩ | ⟨_, h3, h4⟩
            · cases h
            · have so : SlOk (.lit 0) ln ln := ⟨trivial, hlo, hlo, Int.le_refl _, by rw [hle]; decide, Int.le_refl _⟩
              have := VR.slsIn (π := π) (lm := []) (cap' := cap') so hp (by rw [hle]; exact h3) (by simpa [SX.eval] using h4)
              rw [hle] at this
              exact this
          · match t, e1, e2 with
            | 0, e1, e2 =>
              obtain rfl := Option.some.inj e1
              obtain rfl := Option.some.inj e2
              refine ⟨rfl, rfl, fun π lm c hl _ => ⟨@LR.nil R _ _, fun k2 d2 hk2 u hu => ?_⟩⟩
              simp only [Option.some.injEq, Prod.mk.injEq] at hk2
              obtain ⟨rfl, rfl⟩ := hk2
              rw [hk.n, hs1] at hu
              have hu0 : u = 0 := by simp at hu; exact hu
              subst hu0
              rw [hk.s, hk.v, hs1]
              obtain ⟨c0, ws, hcs, r0, _⟩ := @LR.uncons R0 _ _ _ _ _ hl
              obtain rfl := @Is0.eq R0 _ _ _ _ _ e107' r0
              have : c.toList[0]? = some (.int .u64 l0) := by
                have h5 : (c.toList.take 1)[0]? = some (.int .u64 l0) := by
                  show (c.toList.take [dA 107].length)[0]? = _
                  rw [hcs]; rfl
                rwa [List.getElem?_take_of_lt (by omega)] at h5
              rw [Array.getElem?_toList] at this
              rw [this]; rfl
        · have hk0 : @KnowOk R0 ptTab.know := by
            refine KTab.ok { apps := ?_ }
            intro z hz _ _
            obtain rfl := List.mem_singleton.1 hz
            refine app_snoc (l := l60) (x := l0) q60.s q60.n q60.v (by rw [hl60]; exact e106) q61.s (by rw [q61.n]; show (pathL (sub L o n) i).length = _; rw [hpl]; simp; rfl) (fun t => ?_) (by show Value.int .u64 (@Rho.ρ R0 107) = _; rw [e107])
            rw [q61.v]
            show Value.int .u64 ((pathL (sub L o n) i).getD t 0) = _
            rw [hpl]
          have hF : @Fct.Holds R0 Try.prog 41 (ptF (pY j) (ciA j sd) (.bin .add dpX (.lit 1)) 61) :=
            @Fct.holds R0 Try.prog (orcOf [(41, [ptF (pS j sd) (subI j sd) dpX 60]), (24, [rtO j sd])]) ptTab.know hk0 (@fit R0) (@orcOf_ok R0 _ _ ⟨fun F hF => hq F (.inr ⟨List.mem_singleton.1 hF, by omega⟩), fun F hF => by obtain rfl := List.mem_singleton.1 hF; exact hr, trivial⟩) 5000 41 _ g1.1 g1.2
          have eL : @SX.eval R0 (.bin .add dpX (.lit 1)) = (depN n i : Int) := by
            show @Rho.ρ R0 106 + 1 = _
            rw [e106, hdep]; omega
          refine Fct.move hF hgd rfl rfl (fun B π w h => stP_move rP_agree h) hargs (fun π lm c r => ?_) rfl hbb (fun t A1 A2 e1 e2 => ?_)
          · obtain ⟨so0, b', m, cap', hp, rfl, hex⟩ := (letI := R0; VR.sls_inv r)
            letI := R
            rcases hex with ⟨h, _⟩ | ⟨_, h3, h4⟩
            · cases h
            · have so : SlOk (.lit 0) ln ln := ⟨trivial, hlo, hlo, Int.le_refl _, by rw [hle]; omega, Int.le_refl _⟩
              have := VR.slsIn (π := π) (lm := []) (cap' := cap') so hp (by rw [hle, ← eL]; exact h3) (by simpa [SX.eval] using h4)
              rw [hle, ← eL] at this
              exact this
          · match t, e1, e2 with
            | 0, e1, e2 =>
              obtain rfl := Option.some.inj e1
              obtain rfl := Option.some.inj e2
              refine ⟨rfl, rfl, fun π lm c _ ht2 => ⟨@LR.nil R _ _, fun k2 d2 hk2 u hu => ?_⟩⟩
              simp only [Option.some.injEq, Prod.mk.injEq] at hk2
              obtain ⟨rfl, rfl⟩ := hk2
              rw [hk.n] at hu
              have := ht2 61 (.int .u64) rfl u (by rw [q61.n]; exact hu)
              rw [q61.s, q61.v] at this
              rw [hk.s, hk.v]; exact this
      by_cases hlt : i < hf n
      · refine ⟨fun h0 => by rw [depN_l (by omega) hlt] at h0; omega, fun ln k _ hlo hle hk => ?_⟩
        refine side true (hf n) i o _ (fun _ => ⟨rfl, rfl, hlt, rfl, rfl⟩) (fun h => by cases h) (depN_l (by omega) hlt) ?_ ln k hlo hle hk
        rw [pathL_l (by omega) (by rw [hsl]; exact hlt), hsl, sub_take (by omega), sub_drop]
      · refine ⟨fun h0 => by rw [depN_r (by omega) hlt] at h0; omega, fun ln k _ hlo hle hk => ?_⟩
        refine side false (n - hf n) (i - hf n) (o + hf n) _ (fun h => by cases h) (fun _ => ⟨rfl, rfl, hlt, rfl, rfl⟩) (depN_r (by omega) hlt) ?_ ln k hlo hle hk
        rw [pathL_r (by omega) (by rw [hsl]; exact hlt), hsl, sub_take (by omega), sub_drop]
end Go.Proofs.Ytdenpaifjpmkgaa
