/- The reference's powers: by induction over the rounds of its loop. -/
import Derived.Test.YtjphnpbknaedcaaGa
namespace Go.Proofs.Ytjphnpbknaedcaa
open Go.Ev Go.Fl
open Go.RowKit (Below)
set_option linter.unusedSectionVars false
set_option linter.unusedVariables false

theorem f30_at : Try.prog.funcs[30]? = some Try.f30 := by kernel_rfl
theorem f30_body : Try.f30.body = some pBody := by kernel_rfl
theorem f30_tmps : Try.f30.ntmps = 39 := by kernel_rfl
theorem f30_res : Try.f30.results.toList = [.tmp 6, .tmp 7] := by kernel_rfl
theorem p_rest : (splitSeq 6 pBody).2 = .seq (.seq (loopOf (splitSeq 6 pBody).2).1 (.block 0 (.loop pLoop))) pEnd := by kernel_rfl
theorem p_in : codeIn 39 pLoop = true ∧ codeIn 39 pEnd = true := ⟨by kernel_rfl, by kernel_rfl⟩

theorem runList_app {code : Code → List AV → St → Option (AExit × List AV × St)} {c : Code} : ∀ {l : List Code} {ts ts' : List AV} {s s' : St}, runList code (l ++ [c]) ts s = some (ts', s') → ∃ ts1 s1, runList code l ts s = some (ts1, s1) ∧ code c ts1 s1 = some (.normal, ts', s')
  | [], ts, ts', s, s', h => by
    simp only [List.nil_append, runList] at h
    split at h
    · rename_i t1 s1 e
      simp only [Option.some.injEq, Prod.mk.injEq] at h
      obtain ⟨rfl, rfl⟩ := h
      exact ⟨ts, s, rfl, e⟩
    · cases h
  | d :: l, ts, ts', s, s', h => by
    simp only [List.cons_append, runList] at h
    split at h
    · rename_i t1 s1 e
      obtain ⟨ts2, s2, h1, h2⟩ := runList_app h
      exact ⟨ts2, s2, by simp only [runList]; rw [e]; exact h1, h2⟩
    · cases h

theorem genL_len : ∀ {k : List (Nat × AV)} {i : Nat} {l m : List AV}, genL k i l m = true → l.length = m.length
  | _, _, [], [], _ => rfl
  | k, i, a :: l, t :: m, h => by simp only [genL, Bool.and_eq_true] at h; simp [genL_len h.2]
  | _, _, [], _ :: _, h => by cases h
  | _, _, _ :: _, [], h => by cases h

section
variable {F : Gf}
theorem sameSt_ok {s : St} (h : sameSt F s = true) : s = sP F := by
  letI : Rho := rhoN (fun _ => 0)
  unfold sameSt at h
  split at h
  · rename_i A B hh
    simp only [Bool.and_eq_true, Nat.beq_eq, List.isEmpty_iff] at h
    obtain ⟨h1, h2, h3, h4, h5⟩ := h
    obtain ⟨heap, lo, loops, nd⟩ := s
    simp only at hh h3 h4 h5
    rw [hh, h3, h4, h5, beqB_ok h1, beqB_ok h2]; rfl
  · cases h

theorem sP_swap {R1 R2 : Rho} {B : Nat} {π : Inj} {lm : List Nat} {w : World} (h : @WR R1 B π lm (sP F) w) : @WR R2 B π lm (sP F) w := by
  refine WR.swapX rfl (fun i A hA => ?_) h
  match i with
  | 0 =>
    have : A = { elem := 3, cells := F.mod.map I, ro := true } := by simpa [sP] using hA.symm
    subst this
    refine ⟨fun v hv => ?_, fun c _ => @TailOk.none R2 _ _ rfl⟩
    obtain ⟨n, _, rfl⟩ := List.mem_map.1 hv
    rfl
  | 1 =>
    have : A = { elem := 26, cells := [I F.p, I F.e, .slice 0 0 F.e F.e false 1], ro := false } := by simpa [sP] using hA.symm
    subst this
    refine ⟨fun v hv => ?_, fun c _ => @TailOk.none R2 _ _ rfl⟩
    simp only [List.mem_cons, List.not_mem_nil, or_false] at hv
    rcases hv with rfl | rfl | rfl <;> rfl
  | i + 2 => simp [sP] at hA

/-- slots with the letters of the next round -/
theorem slots_X {R1 R2 : Rho} {π : Inj} {lm : List Nat} {ts l : List AV} {vs : List Value} {k k' o o' i i' : AV} {a K O J : Int} (h : genL (keepP F k o i) 0 ts l = true) (hl : @LR R1 π lm ts vs)
    (a1 : @Nu R1 (pA F) a) (a2 : @Nu R2 (pA F) a) (k1 : @Nu R1 k K) (k2 : @Nu R2 k' K) (o1 : @Nu R1 o O) (o2 : @Nu R2 o' O) (i1 : @Nu R1 i J) (i2 : @Nu R2 i' J) : @LR R2 π lm (setP F l k' o' i') vs := by
  refine genL_relX (new := newP F k' o' i') ?_ ?_ h hl
  · intro x hx c hc t
    simp only [keepP, List.mem_cons, List.not_mem_nil, or_false] at hx
    rcases hx with rfl | rfl | rfl | rfl | rfl
    · rw [@Nu.rel R1 _ _ _ _ _ a1 hc]; exact @Nu.rel' R2 _ _ _ _ a2
    · cases hc with
      | ptr e => exact @VR.ptr R2 _ _ _ _ _ _ e
    · rw [@Nu.rel R1 _ _ _ _ _ k1 hc]; exact @Nu.rel' R2 _ _ _ _ k2
    · rw [@Nu.rel R1 _ _ _ _ _ o1 hc]; exact @Nu.rel' R2 _ _ _ _ o2
    · rw [@Nu.rel R1 _ _ _ _ _ i1 hc]; exact @Nu.rel' R2 _ _ _ _ i2
  · intro j t hj
    have key : ∀ m, m = 1 ∨ m = 3 ∨ m = 8 ∨ m = 9 ∨ m = 10 → Nat.beq j m = false := fun m hm => by
      cases h : Nat.beq j m with
      | false => rfl
      | true =>
        rw [Nat.beq_eq] at h
        subst h
        rcases hm with rfl | rfl | rfl | rfl | rfl <;> cases hj
    unfold newP
    rw [key 1 (by simp), key 3 (by simp), key 8 (by simp), key 9 (by simp), key 10 (by simp)]
    rfl

def jN (F : Gf) (a K j k : Nat) : Nat := if k = 0 then a else if k = 50 then j else if k = 51 then K - j else if k = 52 then F.pow a j else if k = 53 then F.pow a (j + 1) else 0

noncomputable def tsP (F : Gf) (c K j : Nat) : List AV := setP F (if j = 0 then tP0 F c else tP1 F c) (if j < K then pM else pI) (pO F 52) pI

theorem pI_nu {R : Rho} {j : Nat} (h : @Rho.ρ R 50 = (j : Int)) (hj : j ≤ 62) : @Nu R pI (j : Nat) := @Nu.var R _ _ _ _ h (by omega) (by omega)
theorem pM_nu {R : Rho} {j K : Nat} (h : @Rho.ρ R 50 = (j : Int)) (h1 : @Rho.ρ R 51 = ((K - j : Nat) : Int)) (hj : j < K) (hK : K ≤ 62) : @Nu R pM (K : Nat) := by
  letI := R
  have hv : (SX.bin .add (.var 50 0 62) (.var 51 1 62)).eval = (K : Int) := by
    show Rho.ρ 50 + Rho.ρ 51 = _
    rw [h, h1]; omega
  refine ⟨rfl, ?_, ⟨⟨?_, ?_⟩, ?_, ?_⟩⟩
  · show Value.int .i64 _ = _; rw [hv]
  · show (0 : Int) ≤ Rho.ρ 50 ∧ Rho.ρ 50 ≤ 62; rw [h]; omega
  · show (1 : Int) ≤ Rho.ρ 51 ∧ Rho.ρ 51 ≤ 62; rw [h1]; omega
  · rw [hv]; omega
  · rw [hv]; omega
theorem pI1_nu {R : Rho} {j : Nat} (h : @Rho.ρ R 50 = (j : Int)) (hj : j ≤ 62) : @Nu R pI1 ((j + 1 : Nat) : Int) := by
  letI := R
  have hv : (SX.bin .add (.var 50 0 62) (.lit 1)).eval = ((j + 1 : Nat) : Int) := by
    show Rho.ρ 50 + 1 = _
    rw [h]; omega
  refine ⟨rfl, ?_, ⟨⟨?_, trivial⟩, ?_, ?_⟩⟩
  · show Value.int .i64 _ = _; rw [hv]
  · show (0 : Int) ≤ Rho.ρ 50 ∧ Rho.ρ 50 ≤ 62; rw [h]; omega
  · rw [hv]; omega
  · rw [hv]; omega

theorem rpow_holds (hF : Ok F) (hm : ∀ (R : Rho) (x y v : AV) (a b : Nat), a < F.q → b < F.q → @Nu R x a → @Nu R y b → @Nu R v (F.mul a b : Nat) → @Fct.Holds R Try.prog 24 (f2 F x y v)) {c : Nat} (hc : chkPw F c = true) {a K : Nat} (ha : a < F.q) (hz : a ≠ 0) (hK : K ≤ 62)
    {R : Rho} (hA : @Nu R (pA F) a) (hk : @Nu R (pK F c) K) (h41 : @Nu R (pO F 41) (F.pow a K : Nat)) (hN : (pN F c).lone = true) : @Fct.Holds R Try.prog 30 ⟨pArgs F c, fOld F, .tup [pO F 41, I 0], [], []⟩ := by
  simp only [chkPw, Bool.and_eq_true] at hc
  obtain ⟨c1, c2, c3, c4, c5⟩ := hc
  have p1 : ∀ k, 1 ≤ F.pow a k ∧ F.pow a k ≤ F.q - 1 := fun k => by
    have h1 := hF.pow_ne hz k
    have h2 := hF.pow_lt a k
    omega
  let J : Nat → Rho := fun j => rhoN (jN F a K j)
  have jA : ∀ j, @Nu (J j) (pA F) a := fun j => @lv_nu (J j) _ _ _ _ rfl (Nat.pos_of_ne_zero hz) (by omega)
  have jI : ∀ j, j ≤ K → @Nu (J j) pI (j : Nat) := fun j hj => pI_nu rfl (by omega)
  have jM : ∀ j, j < K → @Nu (J j) pM (K : Nat) := fun j hj => pM_nu (j := j) rfl rfl hj hK
  have j1 : ∀ j, j < K → @Nu (J j) pI1 ((j + 1 : Nat) : Int) := fun j hj => pI1_nu rfl (by omega)
  have jO : ∀ j, @Nu (J j) (pO F 52) (F.pow a j : Nat) := fun j => @lv_nu (J j) _ _ _ _ rfl (p1 j).1 (p1 j).2
  have jO1 : ∀ j, @Nu (J j) (pO F 53) (F.pow a (j + 1) : Nat) := fun j => @lv_nu (J j) _ _ _ _ rfl (p1 _).1 (p1 _).2
  have jK : ∀ j, j ≤ K → @Nu (J j) (if j < K then pM else pI) (K : Nat) := fun j hj => by
    by_cases h : j < K
    · rw [if_pos h]; exact jM j h
    · have : j = K := by omega
      subst this
      rw [if_neg (by omega)]; exact jI _ (Nat.le_refl _)
  -- one round
  have facts : ∀ j, @FactsOk (J j) Try.prog (pFacts F) := fun j => ⟨fun G hG => by
    rw [List.mem_singleton.1 hG]
    refine hm (J j) _ _ _ _ _ (hF.pow_lt a j) ha (jO j) (jA j) ?_
    rw [show F.mul (F.pow a j) a = F.pow a (j + 1) by rw [← hF.pow_add hz j 1, hF.pow_one hz ha]]
    exact jO1 j, trivial⟩
  have round : ∀ (j : Nat) (l : List AV), l.length = 39 → j < K → chkRd F c l = true → SAtX Try.prog pLoop (J j) (setP F l pM (pO F 52) pI) (sP F) .normal (J (j + 1)) (tsP F c K (j + 1)) (sP F) := fun j l hl hj hr => by
    unfold chkRd at hr
    split at hr
    case h_2 => cases hr
    rename_i t s e
    simp only [Bool.and_eq_true] at hr
    obtain ⟨g1, g2⟩ := hr
    obtain rfl := sameSt_ok g2
    have rel : Rel 39 (ofL (setP F l pM (pO F 52) pI)) (setP F l pM (pO F 52) pI) := Rel.ofL (by omega) (by simp [setP, hl])
    obtain ⟨ts1, r1, e1⟩ := (@evF_sim (J j) _ (@noKnow_ok (J j)) Try.prog (orcOf (pFacts F)) 5000).code 39 _ _ _ _ p_in.1 rel _ _ _ e
    have hs : @SAt (J j) Try.prog pLoop (setP F l pM (pO F 52) pI) (sP F) .normal ts1 (sP F) := by
      obtain ⟨_, _, k3, _⟩ := @ev_sound (J j) _ _ (@noKnow_ok (J j)) _ (@orcOf_ok (J j) _ _ (facts j)) fit.mix fit.name 5000
      exact k3 _ _ _ _ _ _ e1
    refine SAtX.post (SAtX.of hs) (fun B π lm w vs hw hlr => ⟨?_, sP_swap hw, Tr.refl π lm w (@WR.dom (J j) _ _ _ _ _ hw)⟩)
    rw [r1.toL] at g1
    have := slots_X g1 hlr (jA j) (jA (j + 1)) (jM j hj) (jK (j + 1) (by omega)) (jO1 j) (jO (j + 1)) (j1 j hj) (jI (j + 1) (by omega))
    unfold tsP
    rw [if_neg (by omega)]
    exact this
  -- the last one, and what comes behind the loop
  have last : ∀ l : List AV, l.length = 39 → chkLt F l = true → ∃ ts2 s2 ts3 s3 tt, SAtX Try.prog pLoop (J K) (setP F l pI (pO F 52) pI) (sP F) (.exit 0) (J K) ts2 s2 ∧ SAtX Try.prog pEnd (J K) ts2 s2 .ret (J K) ts3 s3 ∧
      genL [(6, pO F 52), (7, I 0)] 0 ts3 tt = true ∧ s3.loops = [] ∧ s3.nd = 0 ∧ ts3.length = 39 := fun l hl hr => by
    unfold chkLt at hr
    split at hr
    case h_2 => cases hr
    rename_i t s e
    split at hr
    case h_2 => cases hr
    rename_i t2 s2 e2
    simp only [Bool.and_eq_true, List.isEmpty_iff, Nat.beq_eq] at hr
    obtain ⟨g1, g2, g3⟩ := hr
    have rel : Rel 39 (ofL (setP F l pI (pO F 52) pI)) (setP F l pI (pO F 52) pI) := Rel.ofL (by omega) (by simp [setP, hl])
    obtain ⟨ts1, r1, e1⟩ := (@evF_sim (J K) _ (@noKnow_ok (J K)) Try.prog noOrc 5000).code 39 _ _ _ _ p_in.1 rel _ _ _ e
    obtain ⟨ts3, r3, e3⟩ := (@evF_sim (J K) _ (@noKnow_ok (J K)) Try.prog noOrc 5000).code 39 _ _ _ _ p_in.2 r1 _ _ _ e2
    obtain ⟨_, _, k3, _⟩ := @ev_sound (J K) _ _ (@noKnow_ok (J K)) _ (@noOrc_ok (J K) Try.prog) fit.mix fit.name 5000
    rw [r3.toL] at g1
    exact ⟨ts1, s, ts3, s2, _, SAtX.of (k3 _ _ _ _ _ _ e1), SAtX.of (k3 _ _ _ _ _ _ e3), g1, g2, g3, r3.len⟩
  -- what comes before the loop
  unfold chkPre at c1
  split at c1
  case h_2 => cases c1
  rename_i t0 s0 eP
  simp only [Bool.and_eq_true] at c1
  obtain ⟨g1, g2⟩ := c1
  obtain rfl := sameSt_ok g2
  have toLen : ∀ (t : T3) (n i : Nat), (toLFrom t i n).length = n := fun t n => by
    induction n with
    | zero => intro i; rfl
    | succ n ih => intro i; simp [toLFrom, ih]
  have len0 : (tP0 F c).length = 39 := by unfold tP0; rw [eP]; simp [toL, toLen]
  have len1 : (tP1 F c).length = 39 := by
    unfold chkRd at c2
    unfold tP1
    cases hr : rP F (tP0 F c) with
    | none => rw [hr] at c2; cases c2
    | some y => obtain ⟨y1, y2, y3⟩ := y; simp [toL, toLen]
  have rel0 : Rel 39 (ofL (pArgs F c ++ List.replicate 36 undefA)) (pArgs F c ++ List.replicate 36 undefA) := Rel.ofL (by omega) (by rw [List.length_append, List.length_replicate]; rfl)
  obtain ⟨rA, runA⟩ := runListF_sim (@evF_sim R _ (@noKnow_ok R) Try.prog noOrc 5000) rel0 eP
  obtain ⟨ts6, s6, h6, hr11⟩ := runList_app runA
  obtain ⟨_, _, kR, _⟩ := @ev_sound R _ _ (@noKnow_ok R) _ (@noOrc_ok R Try.prog) fit.mix fit.name 5000
  have x1 : SAtX Try.prog (loopOf (splitSeq 6 pBody).2).1 R ts6 s6 .normal (J 0) (tsP F c K 0) (sP F) := by
    refine SAtX.post (SAtX.of (kR _ _ _ _ _ _ hr11)) (fun B π lm w vs hw hlr => ⟨?_, sP_swap hw, Tr.refl π lm w (@WR.dom R _ _ _ _ _ hw)⟩)
    have := slots_X (R2 := J 0) g1 hlr hA (jA 0) hk (jK 0 (by omega)) (@Nu.int R 1) (show @Nu (J 0) (pO F 52) 1 by have := jO 0; rw [hF.pow_zero hz] at this; exact this) (@Nu.int R 0) (show @Nu (J 0) pI 0 from jI 0 (by omega))
    unfold tsP
    rw [if_pos rfl]
    exact this
  -- the rounds
  have lst : ∀ j, (if j = 0 then tP0 F c else tP1 F c).length = 39 := fun j => by split; exact len0; exact len1
  obtain ⟨ts2, s2, ts3, s3, tt, y1, y2, y3, y4, y5, y6⟩ := last (if K = 0 then tP0 F c else tP1 F c) (lst K) (by split; exact c4; exact c5)
  have step : ∀ j, j < K → SAtX Try.prog pLoop (J j) (tsP F c K j) (sP F) .normal (J (j + 1)) (tsP F c K (j + 1)) (sP F) := fun j hj => by
    have := round j (if j = 0 then tP0 F c else tP1 F c) (lst j) hj (by split; exact c2; exact c3)
    unfold tsP at this ⊢
    rw [if_pos hj]
    exact this
  have lastX : SAtX Try.prog pLoop (J K) (tsP F c K K) (sP F) (.exit 0) (J K) ts2 s2 := by
    unfold tsP
    rw [if_neg (show ¬ K < K by omega)]
    exact y1
  have lp := ((rounds_of step lastX (by simp) K 0 (by omega)).loop).block
  have whole : SAtX Try.prog (splitSeq 6 pBody).2 R ts6 s6 .ret (J K) ts3 s3 := by
    rw [p_rest]
    exact (x1.seq lp).seq y2
  -- the letters of the beginning again
  have fin : SAtX Try.prog (splitSeq 6 pBody).2 R ts6 s6 .ret R ((tt.zipIdx 0).map fun y => if Nat.beq y.2 6 then pO F 41 else if Nat.beq y.2 7 then I 0 else y.1) { heap := List.replicate s3.heap.length none, lo := 0, loops := [], nd := 0 } := by
    refine SAtX.post whole (fun B π lm w vs hw hlr => ⟨?_, ?_⟩)
    · refine genL_relX (R1 := J K) (R2 := R) (new := fun i t => if Nat.beq i 6 then pO F 41 else if Nat.beq i 7 then I 0 else t) ?_ ?_ y3 hlr
      · intro x hx cv hcv t
        simp only [List.mem_cons, List.not_mem_nil, or_false] at hx
        rcases hx with rfl | rfl
        · rw [@Nu.rel (J K) _ _ _ _ _ (jO K) hcv]; exact @Nu.rel' R _ _ _ _ h41
        · rw [@Nu.rel (J K) _ _ _ _ _ (@I_nu (J K) 0) hcv]; exact @Nu.rel' R _ _ _ _ (@I_nu R 0)
      · intro j t hj
        have h6 : Nat.beq j 6 = false := by
          cases h : Nat.beq j 6 with
          | false => rfl
          | true => rw [Nat.beq_eq] at h; subst h; cases hj
        have h7 : Nat.beq j 7 = false := by
          cases h : Nat.beq j 7 with
          | false => rfl
          | true => rw [Nat.beq_eq] at h; subst h; cases hj
        rw [h6, h7]; rfl
    · have hno : ∀ (i : Nat) (A : ABlk), (List.replicate s3.heap.length (none : Option ABlk))[i]? ≠ some (some A) := fun i A h => by
        rw [List.getElem?_replicate] at h
        split at h <;> simp at h
      obtain ⟨w1, w2⟩ := @WR.less (J K) π lm B w s3 { heap := List.replicate s3.heap.length none, lo := 0, loops := [], nd := 0 } hw (by simp) y4.symm y5.symm rfl (fun i A h => absurd h (hno i A))
      exact ⟨WR.swapX rfl (fun i A h => absurd h (hno i A)) w1, w2⟩
  have body : @SAt R Try.prog pBody (pArgs F c ++ List.replicate 36 undefA) { heap := (fOld F).map some, lo := 1, loops := [], nd := 0 } .ret _ _ := @SAt.split R Try.prog _ kR _ _ _ 6 pBody _ _ _ _ h6 fin.to
  have tl : tt.length = 39 := by rw [← genL_len y3, y6]
  have slot : ∀ (j : Nat) (v : AV), j < 39 → (∀ t : AV, (if Nat.beq j 6 then pO F 41 else if Nat.beq j 7 then I 0 else t) = v) → nthD undefA ((tt.zipIdx 0).map fun y => if Nat.beq y.2 6 then pO F 41 else if Nat.beq y.2 7 then I 0 else y.1) j = v := fun j v hj h => by
    rw [nthD_eq, List.getElem?_map, List.getElem?_zipIdx, List.getElem?_eq_getElem (by omega)]
    simp only [Option.map_some, Option.getD_some, Nat.zero_add]
    exact h _
  refine @at_holds Try.prog R 30 Try.f30 pBody (pArgs F c) (fOld F) .ret _ _ (.tup [pO F 41, I 0]) f30_at f30_body (by rw [f30_tmps]; exact body) (.inr rfl) ?_ (good_n (by show (true && ((pN F c).lone && true)) = true; rw [hN]; rfl) rfl)
  unfold resultsA
  rw [f30_res]
  simp only [optMap, resultA]
  rw [slot 6 (pO F 41) (by omega) (fun _ => rfl), slot 7 (I 0) (by omega) (fun _ => rfl)]
end
end Go.Proofs.Ytjphnpbknaedcaa
