/- Distance, words and what the statements compare. -/
import Derived.Test.YtdafhhojiioifaaCr
import Derived.Test.YtdafhhojiioifaaNy
namespace Go.Proofs.Ytdafhhojiioifaa
open Go.RowKit Go.Fl
set_option maxRecDepth 100000
set_option linter.unusedVariables false
set_option linter.unusedSimpArgs false
set_option linter.unusedSectionVars false

/-- the least weight other than 0 -/
def DsP (n : Nat) (C : List Nat) (d : Nat) (e : Int) : Prop := (1 ≤ d ∧ d ≤ n ∧ C.getD d 0 ≠ 0 ∧ (∀ j, 1 ≤ j → j < d → C.getD j 0 = 0) ∧ e = 0) ∨ (d = 0 ∧ (∀ j, 1 ≤ j → j ≤ n → C.getD j 0 = 0) ∧ e = 4)
set_option maxHeartbeats 3200000 in
theorem dist_c {F : Gf} {n m cg : Nat} {G : List (List Nat)} {L : List (Nat × Cf)} {ga : Option Addr} {W : World} (hC : VC F n m G L) (hk : cnK F.q m ≤ 4096) (hk2 : F.q ^ m ≤ 4096) (ng : MM G W (.slice ga m cg)) :
  Calls Try.prog 31 #[DV F.q n (.slice ga m cg)] W fun e w' => ∃ d x, DsP n (cwL n (wdK F n G m)) d x ∧ e = .returned (.tuple #[.int .i64 (d : Nat), .int .i64 x]) ∧ Below W.heap.size W w' := by
 obtain ⟨W1, hW1⟩ : ∃ W1, W.alloc (.cells #[.int .i64 (F.q : Nat), .int .i64 (n : Nat), .slice ga m cg] 32) = W1 := ⟨_, rfl⟩
 have HB1 : Hid (Below W.heap.size W W1) := Lib.hid (by rw [← hW1]; exact (Below.refl _ _).alloc (Nat.le_refl _) _)
 have HC1 : Hid (BC W.heap.size [.int .i64 (F.q : Nat), .int .i64 (n : Nat), .slice ga m cg] 32 W1) := Lib.hid (by rw [← hW1]; exact BC.new W [.int .i64 (F.q : Nat), .int .i64 (n : Nat), .slice ga m cg] 32 rfl)
 have HS1 : Hid (W1.heap.size = W.heap.size + 1) := Lib.hid (by rw [← hW1]; simp)
 have HA : Hid (Calls Try.prog 28 #[DV F.q n (.slice ga m cg)] W1 fun e w' => ∃ g, W1.heap.size ≤ g ∧ e = .returned (.tuple #[.slice (some ⟨g, 0, none⟩) (n + 1) (n + 1), .int .i64 0]) ∧ Row (cwL n (wdK F n G m)) g w' ∧ Below W1.heap.size W1 w') := Lib.hid (weights_c hC hk hk2 (ng.below HB1.out))
 have HCL : Hid ((cwL n (wdK F n G m)).length = n + 1) := Lib.hid (cwL_len _ _)
 have HCB : Hid (∀ t, t < n + 1 → (cwL n (wdK F n G m)).getD t 0 ≤ 4096) := Lib.hid fun t ht => Nat.le_trans (cwL_le _ ht) (by rw [wdK_len]; exact hk2)
 have hn2 := hC.gc.n2
 obtain ⟨C, hCC⟩ : ∃ C, Hid (cwL n (wdK F n G m) = C) := ⟨_, Lib.hid rfl⟩
 rw [hCC.out] at HA HCL HCB ⊢
 have HW1 := Lib.hid hW1
 obtain ⟨q, hqq⟩ : ∃ q, Hid (F.q = q) := ⟨_, Lib.hid rfl⟩
 rw [hqq.out] at HA HC1 HW1 ⊢
 have c0 := HC1.out.cell (i := 0) rfl
 have c1 := HC1.out.cell (i := 1) rfl
 have c2 := HC1.out.cell (i := 2) rfl
 clear hW1 hC ng hk hk2 hCC
 go_enter Try.func31, Try.ntmps31
 go_wp2_with fail
 rw [HW1.out]
 go_wp2_with fail
 with_reducible refine HA.out.mono ?_
 rintro e w2 ⟨g, hg, rfl, hr, hb⟩
 have HB2 := Lib.hid hb
 have HR := Lib.hid hr
 have HC2 := Lib.hid (HC1.out.below hb)
 clear hg hr hb c0 c1 c2 HA
 go_wp2
 go_loopw [6] (fun i wr => ∃ k : Nat, 1 ≤ k ∧ k ≤ n + 1 ∧ i = .int .i64 (k : Nat) ∧ Hid (∀ j, 1 ≤ j → j < k → C.getD j 0 = 0) ∧ wr = w2) (fun i _ => n + 1 - (intOf i).toNat)
 case atStart => exact ⟨1, Nat.le_refl _, by omega, rfl, Lib.hid (fun j h1 h2 => by omega), rfl⟩
 case round =>
  obtain ⟨k, hk1, hk, rfl, KZ, rfl⟩ := hrel
  have HBF : Hid (Below W.heap.size W wr) := Lib.hid (HB1.out.trans (HB2.out.mono HB1.out.size))
  have c1 := HC2.out.cell (i := 1) rfl
  by_cases hlt : k ≤ n
  ·obtain ⟨y, hy⟩ : ∃ y, Hid (C.getD k 0 = y) := ⟨_, Lib.hid rfl⟩
   have hyb : y ≤ 4096 := by rw [← hy.out]; exact HCB.out k (by omega)
   have hcc : wr.cell? ⟨g, k, none⟩ = some (.int .i64 (y : Nat)) := by have := HR.out.cell (t := k) (by rw [HCL.out]; omega); rw [hy.out] at this; exact this
   have hki : (k : Int) < (n : Int) + 1 := by omega
   by_cases h0 : y = 0
   ·have h0i : ¬ (0 : Int) < (y : Int) := by omega
    go_wp2
    go_roundw
    case rel => exact ⟨k + 1, by omega, by omega, by go_num, Lib.hid (fun j h1 h2 => by
     by_cases e : j = k
     ·rw [e, hy.out, h0]
     ·exact KZ.out j h1 (by omega)), trivial⟩
    case measure => simp [intOf]; omega
   ·have h0i : (0 : Int) < (y : Int) := by omega
    go_wp2
    refine bodyPost_ret (results_tmp2 rfl _ _ _) rfl ?_
    exact ⟨k, 0, .inl ⟨hk1, hlt, by rw [hy.out]; exact h0, KZ.out, rfl⟩, rfl, HBF.out⟩
  ·have hlt1 : ¬ (k : Int) ≤ (n : Int) := by omega
   go_wp2
   refine bodyPost_ret (results_tmp2 rfl _ _ _) rfl ?_
   exact ⟨0, 4, .inr ⟨rfl, fun j h1 h2 => KZ.out j h1 (by omega), rfl⟩, rfl, HBF.out⟩
theorem ldist_c {F : Gf} {n m cg : Nat} {G : List (List Nat)} {L : List (Nat × Cf)} {ga : Option Addr} {W : World} (hC : VC F n m G L) (hk : cnK F.q m ≤ 4096) (hk2 : F.q ^ m ≤ 4096) (ng : MM G W (.slice ga m cg)) :
  Calls Try.prog 45 #[DV F.q n (.slice ga m cg)] W fun e w' => ∃ d x, DsP n (cwL n (wdK F n G m)) d x ∧ e = .returned (.int .i64 (if x = 0 then (d : Int) else -1)) ∧ Below W.heap.size W w' := by
 obtain ⟨W1, hW1⟩ : ∃ W1, W.alloc (.cells #[.int .i64 (F.q : Nat), .int .i64 (n : Nat), .slice ga m cg] 32) = W1 := ⟨_, rfl⟩
 have HB1 : Hid (Below W.heap.size W W1) := Lib.hid (by rw [← hW1]; exact (Below.refl _ _).alloc (Nat.le_refl _) _)
 have HC1 : Hid (BC W.heap.size [.int .i64 (F.q : Nat), .int .i64 (n : Nat), .slice ga m cg] 32 W1) := Lib.hid (by rw [← hW1]; exact BC.new W [.int .i64 (F.q : Nat), .int .i64 (n : Nat), .slice ga m cg] 32 rfl)
 have HS1 : Hid (W1.heap.size = W.heap.size + 1) := Lib.hid (by rw [← hW1]; simp)
 have HA : Hid (Calls Try.prog 31 #[DV F.q n (.slice ga m cg)] W1 fun e w' => ∃ d x, DsP n (cwL n (wdK F n G m)) d x ∧ e = .returned (.tuple #[.int .i64 (d : Nat), .int .i64 x]) ∧ Below W1.heap.size W1 w') := Lib.hid (dist_c hC hk hk2 (ng.below HB1.out))
 obtain ⟨C, hCC⟩ : ∃ C, Hid (cwL n (wdK F n G m) = C) := ⟨_, Lib.hid rfl⟩
 rw [hCC.out] at HA ⊢
 have HW1 := Lib.hid hW1
 obtain ⟨q, hqq⟩ : ∃ q, Hid (F.q = q) := ⟨_, Lib.hid rfl⟩
 rw [hqq.out] at HA HC1 HW1 ⊢
 have c0 := HC1.out.cell (i := 0) rfl
 have c1 := HC1.out.cell (i := 1) rfl
 have c2 := HC1.out.cell (i := 2) rfl
 clear hW1 hC ng hk hk2 hCC
 go_enter Try.func45, Try.ntmps45
 go_wp2_with fail
 rw [HW1.out]
 go_wp2_with fail
 with_reducible refine HA.out.mono ?_
 rintro e w2 ⟨d, x, hd, rfl, hb⟩
 have HBF : Hid (Below W.heap.size W w2) := Lib.hid (HB1.out.trans (hb.mono HB1.out.size))
 have HD := Lib.hid hd
 have hx : x = 0 ∨ x = 4 := by rcases hd with h | h; exact .inl h.2.2.2.2; exact .inr h.2.2
 clear hd hb c0 c1 c2 HA
 rcases hx with rfl | rfl
 ·go_wp2
  go_ret
  exact ⟨d, 0, HD.out, by rw [if_pos rfl]; rfl, HBF.out⟩
 ·go_wp2
  go_ret
  exact ⟨d, 4, HD.out, by rw [if_neg (by decide)]; rfl, HBF.out⟩
set_option maxHeartbeats 3200000 in
theorem rword_c {q n c : Nat} {L : List Nat} {a : Option Addr} {W : World} (hn : n ≤ 10000) (hq : q ≤ 10000) (hl : L.length = n) (he : ∀ x ∈ L, x < q) (h : NN L W (.slice a n c)) :
  Calls Try.prog 47 #[.int .i64 (q : Nat), .int .i64 (n : Nat), .slice a n c] W fun e w' => e = .returned (.bool true) ∧ Below W.heap.size W w' := by
 have HN : Hid (NN L W (.slice a L.length c)) := Lib.hid (by rw [hl]; exact h)
 have HL := Lib.hid hl
 have HE := Lib.hid he
 clear h hl he
 go_enter Try.func47, Try.ntmps47
 go_wp2
 go_loopw [7] (fun i wr => ∃ k : Nat, k ≤ n ∧ i = .int .i64 (k : Nat) ∧ wr = W) (fun i _ => n - (intOf i).toNat)
 case atStart => exact ⟨0, Nat.zero_le _, rfl, rfl⟩
 case round =>
  obtain ⟨k, hk, rfl, rfl⟩ := hrel
  by_cases hlt : k < n
  ·obtain ⟨x, hx⟩ : ∃ x, L.getD k 0 = x := ⟨_, rfl⟩
   obtain ⟨b1, o1, rfl, hc⟩ := HN.out.at (k := k) (by rw [HL.out]; exact hlt)
   rw [hx] at hc
   have hxq : x < q := by rw [← hx, List.getD_eq_getElem?_getD, List.getElem?_eq_getElem (by rw [HL.out]; exact hlt)]; exact HE.out _ (List.getElem_mem _)
   have hx0 : ¬ (x : Int) < 0 := by omega
   have hx1 : ¬ (q : Int) ≤ (x : Int) := by omega
   clear hx
   go_wp2
   go_roundw
   case rel => exact ⟨k + 1, by omega, by go_num, trivial⟩
   case measure => simp [intOf]; omega
  ·have hlt1 : ¬ (k : Int) < (n : Int) := by omega
   go_wp2
   go_ret
   exact ⟨rfl, Below.refl _ _⟩
set_option maxHeartbeats 3200000 in
theorem rrows_c {R : List (List Nat)} {m c d : Nat} {a b : Option Addr} {W : World} (hm : R.length = m) (hm5 : m ≤ 10000) (hl : ∀ t, t < R.length → (R.getD t []).length ≤ 100000) (h1 : MM R W (.slice a m c)) (h2 : MM R W (.slice b m d)) :
  Calls Try.prog 32 #[.slice a m c, .slice b m d] W fun e w' => e = .returned (.bool true) ∧ Below W.heap.size W w' := by
 have H1 := Lib.hid h1
 have H2 := Lib.hid h2
 have HM := Lib.hid hm
 have HL := Lib.hid hl
 clear h1 h2 hm hl
 go_enter Try.func32, Try.ntmps32
 go_wp2
 go_loopw [5] (fun i wr => ∃ k : Nat, k ≤ m ∧ i = .int .i64 (k : Nat) ∧ Hid (Below W.heap.size W wr)) (fun i _ => m - (intOf i).toNat)
 case atStart => exact ⟨0, Nat.zero_le _, rfl, Below.refl _ _⟩
 case round =>
  obtain ⟨k, hk, rfl, KB⟩ := hrel
  by_cases hlt : k < m
  ·have HKM : Hid (k < R.length) := Lib.hid (by rw [HM.out]; exact hlt)
   obtain ⟨b1, o1, rfl, a2, c2, hc1, hn1⟩ := (show MM R wr (.slice a R.length c) from by rw [HM.out]; exact H1.out.below KB.out).at HKM.out
   obtain ⟨b3, o3, rfl, a4, c4, hc2, hn2⟩ := (show MM R wr (.slice b R.length d) from by rw [HM.out]; exact H2.out.below KB.out).at HKM.out
   have HC : Hid (∀ w', Below wr.heap.size wr w' → Calls Try.prog 25 #[.slice a2 (R.getD k []).length c2, .slice a4 (R.getD k []).length c4] w' fun e w'' => e = .returned (.bool true) ∧ Below w'.heap.size w' w'') := Lib.hid fun w' hb' => rints_c (HL.out k HKM.out) (hn1.below hb') (hn2.below hb')
   obtain ⟨l, hll⟩ : ∃ l, Hid ((R.getD k []).length = l) := ⟨_, Lib.hid rfl⟩
   rw [hll.out] at HC hc1 hc2
   have hS6 : wr.drew.cell? ⟨b1, o1 + k, none⟩ = some (.slice a2 l c2) ∧ wr.drew.cell? ⟨b3, o3 + k, none⟩ = some (.slice a4 l c4) ∧ Hid (Below wr.heap.size wr wr.drew ∧ b1 < wr.heap.size ∧ b3 < wr.heap.size) := ⟨hc1, hc2, Lib.hid ⟨(Below.refl _ _).drew, World.block_lt_of_cell? _ _ hc1, World.block_lt_of_cell? _ _ hc2⟩⟩
   have hlti : (k : Int) < (m : Int) := by omega
   clear hn1 hn2 hc1 hc2
   go_wp2
   refine wp_region_held_drew (S := fun w' => w'.cell? ⟨b1, o1 + k, none⟩ = some (.slice a2 l c2) ∧ w'.cell? ⟨b3, o3 + k, none⟩ = some (.slice a4 l c4) ∧ Hid (Below wr.heap.size wr w' ∧ b1 < wr.heap.size ∧ b3 < wr.heap.size)) (by kernel_rfl) (by with_reducible exact hS6) (fun hHeld => ?_)
   refine Rg.tk 0 ⟨some 17,.move (.tmp 0),22,"ref.go:124",#[],none⟩ ?_
   try simp only [Rg.gp]
   refine Rg.tk 1 ⟨some 18,.move (.tmp 5),3,"ref.go:124",#[],none⟩ ?_
   try simp only [Rg.gp]
   refine Rg.tk 2 ⟨some 19,.indexAddr 22 (.tmp 17) (.tmp 18),0,"ref.go:124",#[⟨0,.data⟩,⟨1,.data⟩],none⟩ ?_
   try simp only [Rg.gp]
   refine Rg.tk 3 ⟨some 20,.load 39 (.tmp 19),39,"ref.go:124",#[⟨2,.data⟩],none⟩ ?_
   try simp only [Rg.gp]
   refine Rg.tk 4 ⟨some 21,.move (.tmp 1),22,"ref.go:124",#[],none⟩ ?_
   try simp only [Rg.gp]
   refine Rg.tk 5 ⟨some 22,.move (.tmp 5),3,"ref.go:124",#[],none⟩ ?_
   try simp only [Rg.gp]
   refine Rg.tk 6 ⟨some 23,.indexAddr 22 (.tmp 21) (.tmp 22),0,"ref.go:124",#[⟨4,.data⟩,⟨5,.data⟩],none⟩ ?_
   try simp only [Rg.gp]
   refine Rg.tk 7 ⟨some 24,.load 39 (.tmp 23),39,"ref.go:124",#[⟨6,.data⟩],none⟩ ?_
   try simp only [Rg.gp]
   refine Rg.rd1 8 ⟨some 25,.call ⟨.value (.func 25),#[.tmp 20,.tmp 24],#[39,39]⟩,4,"ref.go:124",#[⟨3,.data⟩,⟨7,.data⟩],none⟩ fun K hK => ?_
   go_simp
   go_at_call 25
   with_reducible refine (HC.out _ hHeld.2.2.out.1).mono ?_
   rintro e7 v7 ⟨rfl, hb7⟩
   refine hK.out _ _ ?_ (fun hHeld => ?_)
   ·(try dsimp only)
    exact ⟨(hb7.cell (p := ⟨b1, o1 + k, none⟩) (by have := hHeld.2.2.out; have := this.1.size; show b1 < _; omega)).trans hHeld.1, (hb7.cell (p := ⟨b3, o3 + k, none⟩) (by have := hHeld.2.2.out; have := this.1.size; show b3 < _; omega)).trans hHeld.2.1, Lib.hid ⟨hHeld.2.2.out.1.trans (hb7.mono hHeld.2.2.out.1.size), hHeld.2.2.out.2⟩⟩
   clear hK K
   try simp only [Rg.gp]
   refine Rg.tk 9 ⟨some 26,.unOp UnOp.not 4 (.tmp 25),4,"ref.go:124",#[⟨8,.data⟩],none⟩ ?_
   try simp only [Rg.gp]
   refine wpAnyH_done (by kernel_rfl) ?_ _
   have HB3 : Hid (Below W.heap.size W v7) := Lib.hid (KB.out.trans (hHeld.2.2.out.1.mono KB.out.size))
   clear hHeld hS6 hb7
   go_wp2
   go_roundw
   case rel => exact ⟨k + 1, by omega, by go_num, HB3⟩
   case measure => simp [intOf]; omega
  ·have hlt1 : ¬ (k : Int) < (m : Int) := by omega
   go_wp2
   go_ret
   exact ⟨rfl, KB.out⟩
set_option maxHeartbeats 3200000 in
theorem lwords_c {F : Gf} {n m cg : Nat} {G : List (List Nat)} {L : List (Nat × Cf)} {ga : Option Addr} {W : World} (hC : VC F n m G L) (hk : cnK F.q m ≤ 4096) (hk2 : F.q ^ m ≤ 4096) (ng : MM G W (.slice ga m cg)) :
  Calls Try.prog 33 #[DV F.q n (.slice ga m cg)] W fun e w' => ∃ us a c, e = .returned (.slice a (wdK F n G m).length c) ∧ OL (wdK F n G m) us W.heap.size w' (.slice a (wdK F n G m).length c) ∧ Below W.heap.size W w' := by
 obtain ⟨W1, hW1⟩ : ∃ W1, W.alloc (.cells #[.int .i64 (F.q : Nat), .int .i64 (n : Nat), .slice ga m cg] 32) = W1 := ⟨_, rfl⟩
 have HB1 : Hid (Below W.heap.size W W1) := Lib.hid (by rw [← hW1]; exact (Below.refl _ _).alloc (Nat.le_refl _) _)
 have HC1 : Hid (BC W.heap.size [.int .i64 (F.q : Nat), .int .i64 (n : Nat), .slice ga m cg] 32 W1) := Lib.hid (by rw [← hW1]; exact BC.new W [.int .i64 (F.q : Nat), .int .i64 (n : Nat), .slice ga m cg] 32 rfl)
 have HS1 : Hid (W1.heap.size = W.heap.size + 1) := Lib.hid (by rw [← hW1]; simp)
 have HA : Hid (Calls Try.prog 48 #[DV F.q n (.slice ga m cg)] W1 fun e w' => ∃ us a c, e = .returned (.tuple #[.slice a (wdK F n G m).length c, .int .i64 0]) ∧ OL (wdK F n G m) us W1.heap.size w' (.slice a (wdK F n G m).length c) ∧ Below W1.heap.size W1 w') := Lib.hid (words_c hC hk hk2 (ng.below HB1.out))
 have HMN : Hid (Mn F n (wdK F n G m)) := Lib.hid (wdK_mn hC.ok m)
 have hn2 := hC.gc.n2
 have hq64 : F.q ≤ 64 := (fd_small F hC.gc.mem).2.2.2.2.2.1
 have HDL : Hid ((wdK F n G m).length ≤ 4096) := Lib.hid (by rw [wdK_len]; exact hk2)
 obtain ⟨D, hDD⟩ : ∃ D, Hid (wdK F n G m = D) := ⟨_, Lib.hid rfl⟩
 rw [hDD.out] at HA HMN HDL ⊢
 obtain ⟨dl, hdl⟩ : ∃ l, Hid (D.length = l) := ⟨_, Lib.hid rfl⟩
 rw [hdl.out] at HA HDL ⊢
 have hdl4 : dl ≤ 4096 := HDL.out
 have HW1 := Lib.hid hW1
 obtain ⟨q, hqq⟩ : ∃ q, Hid (F.q = q) := ⟨_, Lib.hid rfl⟩
 rw [hqq.out] at HA HC1 HW1 hq64 ⊢
 have c0 := HC1.out.cell (i := 0) rfl
 have c1 := HC1.out.cell (i := 1) rfl
 have c2 := HC1.out.cell (i := 2) rfl
 clear hW1 hC ng hk hk2
 go_enter Try.func33, Try.ntmps33
 go_wp2_with fail
 rw [HW1.out]
 go_wp2_with fail
 with_reducible refine HA.out.mono ?_
 rintro e w2 ⟨us, a, c, rfl, ho, hb⟩
 have HB2 := Lib.hid hb
 have HO := Lib.hid ho
 have HC2 := Lib.hid (HC1.out.below hb)
 have HBF2 : Hid (Below W.heap.size W w2) := Lib.hid (HB1.out.trans (hb.mono HB1.out.size))
 clear ho hb c0 c1 c2 HA
 go_wp2
 go_loopw [5] (fun i wr => ∃ k : Nat, k ≤ dl ∧ i = .int .i64 (k : Nat) ∧ Hid (Below w2.heap.size w2 wr)) (fun i _ => dl - (intOf i).toNat)
 case atStart => exact ⟨0, Nat.zero_le _, rfl, Below.refl _ _⟩
 case round =>
  obtain ⟨k, hk, rfl, KB⟩ := hrel
  have HBF : Hid (Below W.heap.size W wr) := Lib.hid (HBF2.out.trans (KB.out.mono HBF2.out.size))
  by_cases hlt : k < dl
  ·have HKM : Hid (k < D.length) := Lib.hid (by rw [hdl.out]; exact hlt)
   have HCR := Lib.hid (HC2.out.below KB.out)
   obtain ⟨b1, o1, rfl, a2, c2, hc1, hn1⟩ := (show MM D wr (.slice a D.length c) from by have := (HO.out.below KB.out).mm; rw [hdl.out]; exact this).at HKM.out
   have HVD : Hid (Vn F n (D.getD k [])) := Lib.hid (mrow HMN.out HKM.out)
   rw [HVD.out.len] at hc1 hn1
   have HC : Hid (∀ w', Below wr.heap.size wr w' → Calls Try.prog 47 #[.int .i64 (q : Nat), .int .i64 (n : Nat), .slice a2 n c2] w' fun e w'' => e = .returned (.bool true) ∧ Below w'.heap.size w' w'') := Lib.hid fun w' hb' => rword_c (by omega) (by omega) HVD.out.len (by rw [← hqq.out]; exact HVD.out.el) (hn1.below hb')
   have hS7 : wr.drew.cell? ⟨W.heap.size, 0, none⟩ = some (.int .i64 (q : Nat)) ∧ wr.drew.cell? ⟨W.heap.size, 1, none⟩ = some (.int .i64 (n : Nat)) ∧ wr.drew.cell? ⟨b1, o1 + k, none⟩ = some (.slice a2 n c2) ∧ Hid (Below wr.heap.size wr wr.drew ∧ W.heap.size < wr.heap.size ∧ b1 < wr.heap.size) := ⟨HCR.out.cell (i := 0) rfl, HCR.out.cell (i := 1) rfl, hc1, Lib.hid ⟨(Below.refl _ _).drew, HCR.out.lt, World.block_lt_of_cell? _ _ hc1⟩⟩
   have hlti : (k : Int) < (dl : Int) := by omega
   clear hn1 hc1
   go_wp2
   refine wp_region_held_drew (S := fun w' => w'.cell? ⟨W.heap.size, 0, none⟩ = some (.int .i64 (q : Nat)) ∧ w'.cell? ⟨W.heap.size, 1, none⟩ = some (.int .i64 (n : Nat)) ∧ w'.cell? ⟨b1, o1 + k, none⟩ = some (.slice a2 n c2) ∧ Hid (Below wr.heap.size wr w' ∧ W.heap.size < wr.heap.size ∧ b1 < wr.heap.size)) (by kernel_rfl) (by with_reducible exact hS7) (fun hHeld => ?_)
   refine Rg.tk 0 ⟨some 19,.fieldAddr 32 (.tmp 1) 0,0,"law.go:18",#[],none⟩ ?_
   try simp only [Rg.gp]
   refine Rg.tk 1 ⟨some 20,.load 3 (.tmp 19),3,"law.go:18",#[⟨0,.data⟩],none⟩ ?_
   try simp only [Rg.gp]
   refine Rg.tk 2 ⟨some 21,.fieldAddr 32 (.tmp 1) 1,0,"law.go:18",#[],none⟩ ?_
   try simp only [Rg.gp]
   refine Rg.tk 3 ⟨some 22,.load 3 (.tmp 21),3,"law.go:18",#[⟨2,.data⟩],none⟩ ?_
   try simp only [Rg.gp]
   refine Rg.tk 4 ⟨some 23,.move (.tmp 3),22,"law.go:18",#[],none⟩ ?_
   try simp only [Rg.gp]
   refine Rg.tk 5 ⟨some 24,.move (.tmp 5),3,"law.go:18",#[],none⟩ ?_
   try simp only [Rg.gp]
   refine Rg.tk 6 ⟨some 25,.indexAddr 22 (.tmp 23) (.tmp 24),0,"law.go:18",#[⟨4,.data⟩,⟨5,.data⟩],none⟩ ?_
   try simp only [Rg.gp]
   refine Rg.tk 7 ⟨some 26,.load 39 (.tmp 25),39,"law.go:18",#[⟨6,.data⟩],none⟩ ?_
   try simp only [Rg.gp]
   refine Rg.rd1 8 ⟨some 27,.call ⟨.value (.func 47),#[.tmp 20,.tmp 22,.tmp 26],#[3,3,39]⟩,4,"law.go:18",#[⟨1,.data⟩,⟨3,.data⟩,⟨7,.data⟩],none⟩ fun K hK => ?_
   go_simp
   go_at_call 47
   with_reducible refine (HC.out _ hHeld.2.2.2.out.1).mono ?_
   rintro e7 v7 ⟨rfl, hb7⟩
   refine hK.out _ _ ?_ (fun hHeld => ?_)
   ·(try dsimp only)
    have h8 := hHeld.2.2.2.out
    have h9 := h8.1.size
    exact ⟨(hb7.cell (p := ⟨W.heap.size, 0, none⟩) (show W.heap.size < _ by omega)).trans hHeld.1, (hb7.cell (p := ⟨W.heap.size, 1, none⟩) (show W.heap.size < _ by omega)).trans hHeld.2.1, (hb7.cell (p := ⟨b1, o1 + k, none⟩) (show b1 < _ by omega)).trans hHeld.2.2.1, Lib.hid ⟨hHeld.2.2.2.out.1.trans (hb7.mono hHeld.2.2.2.out.1.size), hHeld.2.2.2.out.2⟩⟩
   clear hK K
   try simp only [Rg.gp]
   refine Rg.tk 9 ⟨some 28,.unOp UnOp.not 4 (.tmp 27),4,"law.go:18",#[⟨8,.data⟩],none⟩ ?_
   try simp only [Rg.gp]
   refine wpAnyH_done (by kernel_rfl) ?_ _
   have HB3 : Hid (Below w2.heap.size w2 v7) := Lib.hid (KB.out.trans (hHeld.2.2.2.out.1.mono KB.out.size))
   clear hHeld hS7 hb7
   go_wp2
   go_roundw
   case rel => exact ⟨k + 1, by omega, by go_num, HB3⟩
   case measure => simp [intOf]; omega
  ·have hlt1 : ¬ (k : Int) < (dl : Int) := by omega
   go_wp2
   go_ret
   exact ⟨us, a, c, rfl, (HO.out.below KB.out).weak (by have := HS1.out; omega), HBF.out⟩

end Go.Proofs.Ytdafhhojiioifaa

/- The examples of the statements. -/
namespace Go.Proofs.Ytdafhhojiioifaa
open Go.RowKit Go.Fl
set_option maxRecDepth 100000
set_option linter.unusedVariables false
set_option linter.unusedSimpArgs false
set_option linter.unusedSectionVars false
theorem nn_new {w : World} {L : List Nat} {cs : Array Value} (hc : cs = (L.map N64).toArray) {n : Nat} (hn : n = L.length) : NN L (w.alloc (.cells cs 3)) (.slice (some ⟨w.heap.size, 0, none⟩) n n) := by
 subst hn hc
 refine .inr ⟨w.heap.size, 0, L.length, rfl, Nat.le_refl _, by simp, fun t ht => ?_⟩
 refine (World.cell?_alloc_at _ _ _ _ rfl).trans ?_
 rw [Nat.zero_add, List.getElem?_toArray, List.getElem?_map, List.getD_eq_getElem?_getD, List.getElem?_eq_getElem ht]; rfl
/-- a literal matrix: rows that are there -/
theorem mm_new {w : World} {A : List (List Nat)} {cs : Array Value} {n ty : Nat} (hn : n = A.length) (h : ∀ t, t < A.length → ∃ a c, cs[t]? = some (.slice a (A.getD t []).length c) ∧ NN (A.getD t []) w (.slice a (A.getD t []).length c)) : MM A (w.alloc (.cells cs ty)) (.slice (some ⟨w.heap.size, 0, none⟩) n n) := by
 subst hn
 refine .inr ⟨w.heap.size, 0, A.length, rfl, Nat.le_refl _, by simp, fun t ht => ?_⟩
 obtain ⟨a, c, h1, h2⟩ := h t ht
 exact ⟨a, c, (World.cell?_alloc_at _ _ _ _ rfl).trans (by rw [Nat.zero_add]; exact h1), h2.below ((Below.refl _ _).alloc (Nat.le_refl _) _)⟩
theorem vn_of {F : Gf} {n : Nat} {L : List Nat} (h : (decide (L.length = n) && L.all fun x => decide (x < F.q)) = true) : Vn F n L := by
 simp only [Bool.and_eq_true, decide_eq_true_eq, List.all_eq_true] at h
 exact ⟨h.1, h.2⟩
theorem mn_of {F : Gf} {n : Nat} {A : List (List Nat)} (h : (A.all fun L => decide (L.length = n) && L.all fun x => decide (x < F.q)) = true) : Mn F n A := fun r hr => vn_of (List.all_eq_true.1 h r hr)
section
variable {w : World} {L1 L2 L3 : List Nat} {c1 c2 c3 : Array Value} {n1 n2 n3 ty : Nat}
theorem lit0 (h1 : c1 = (L1.map N64).toArray) (e1 : n1 = L1.length) : NN L1 (w.alloc (.cells c1 3)) (.slice (some ⟨w.heap.size, 0, none⟩) n1 n1) ∧ Below w.heap.size w (w.alloc (.cells c1 3)) :=
 ⟨nn_new h1 e1, (Below.refl _ _).alloc (Nat.le_refl _) _⟩
theorem lit1 (h1 : c1 = (L1.map N64).toArray) (e1 : n1 = L1.length) : MM [L1] ((w.alloc (.cells c1 3)).alloc (.cells #[.slice (some ⟨w.heap.size, 0, none⟩) n1 n1] ty)) (.slice (some ⟨w.heap.size + 1, 0, none⟩) 1 1) ∧ Below w.heap.size w ((w.alloc (.cells c1 3)).alloc (.cells #[.slice (some ⟨w.heap.size, 0, none⟩) n1 n1] ty)) := by
 have es : (w.alloc (.cells c1 3)).heap.size = w.heap.size + 1 := by simp
 have n1' := nn_new (w := w) h1 e1
 constructor
 ·have t := mm_new (ty := ty) (w := w.alloc (.cells c1 3)) (A := [L1]) (cs := #[.slice (some ⟨w.heap.size, 0, none⟩) n1 n1]) (n := 1) rfl (fun t ht => by
   match t, ht with
   | 0, _ => subst e1; exact ⟨_, _, rfl, n1'⟩)
  rwa [es] at t
 ·exact ((Below.refl _ _).alloc (Nat.le_refl _) _).alloc (by simp) _
theorem lit2 (h1 : c1 = (L1.map N64).toArray) (e1 : n1 = L1.length) (h2 : c2 = (L2.map N64).toArray) (e2 : n2 = L2.length) : MM [L1, L2] (((w.alloc (.cells c1 3)).alloc (.cells c2 3)).alloc (.cells #[.slice (some ⟨w.heap.size, 0, none⟩) n1 n1, .slice (some ⟨w.heap.size + 1, 0, none⟩) n2 n2] ty)) (.slice (some ⟨w.heap.size + 1 + 1, 0, none⟩) 2 2) ∧ Below w.heap.size w (((w.alloc (.cells c1 3)).alloc (.cells c2 3)).alloc (.cells #[.slice (some ⟨w.heap.size, 0, none⟩) n1 n1, .slice (some ⟨w.heap.size + 1, 0, none⟩) n2 n2] ty)) := by
 have es : (w.alloc (.cells c1 3)).heap.size = w.heap.size + 1 := by simp
 have es2 : ((w.alloc (.cells c1 3)).alloc (.cells c2 3)).heap.size = w.heap.size + 1 + 1 := by simp
 have n1' := (nn_new (w := w) h1 e1).below ((Below.refl _ _).alloc (Nat.le_refl _) (.cells c2 3))
 have n2' := nn_new (w := w.alloc (.cells c1 3)) h2 e2
 rw [es] at n2'
 constructor
 ·have t := mm_new (ty := ty) (w := (w.alloc (.cells c1 3)).alloc (.cells c2 3)) (A := [L1, L2]) (cs := #[.slice (some ⟨w.heap.size, 0, none⟩) n1 n1, .slice (some ⟨w.heap.size + 1, 0, none⟩) n2 n2]) (n := 2) rfl (fun t ht => by
   match t, ht with
   | 0, _ => subst e1; exact ⟨_, _, rfl, n1'⟩
   | 1, _ => subst e2; exact ⟨_, _, rfl, n2'⟩)
  rwa [es2] at t
 ·exact (((Below.refl _ _).alloc (Nat.le_refl _) _).alloc (by simp) _).alloc (by simp; omega) _
theorem lit3 (h1 : c1 = (L1.map N64).toArray) (e1 : n1 = L1.length) (h2 : c2 = (L2.map N64).toArray) (e2 : n2 = L2.length) (h3 : c3 = (L3.map N64).toArray) (e3 : n3 = L3.length) : MM [L1, L2, L3] ((((w.alloc (.cells c1 3)).alloc (.cells c2 3)).alloc (.cells c3 3)).alloc (.cells #[.slice (some ⟨w.heap.size, 0, none⟩) n1 n1, .slice (some ⟨w.heap.size + 1, 0, none⟩) n2 n2, .slice (some ⟨w.heap.size + 1 + 1, 0, none⟩) n3 n3] ty)) (.slice (some ⟨w.heap.size + 1 + 1 + 1, 0, none⟩) 3 3) ∧ Below w.heap.size w ((((w.alloc (.cells c1 3)).alloc (.cells c2 3)).alloc (.cells c3 3)).alloc (.cells #[.slice (some ⟨w.heap.size, 0, none⟩) n1 n1, .slice (some ⟨w.heap.size + 1, 0, none⟩) n2 n2, .slice (some ⟨w.heap.size + 1 + 1, 0, none⟩) n3 n3] ty)) := by
 have es : (w.alloc (.cells c1 3)).heap.size = w.heap.size + 1 := by simp
 have es2 : ((w.alloc (.cells c1 3)).alloc (.cells c2 3)).heap.size = w.heap.size + 1 + 1 := by simp
 have es3 : (((w.alloc (.cells c1 3)).alloc (.cells c2 3)).alloc (.cells c3 3)).heap.size = w.heap.size + 1 + 1 + 1 := by simp
 have al := fun (W : World) (c : Array Value) => (Below.refl W.heap.size W).alloc (Nat.le_refl _) (.cells c 3)
 have n1' := ((nn_new (w := w) h1 e1).below (al _ c2)).below (al _ c3)
 have n2' := (nn_new (w := w.alloc (.cells c1 3)) h2 e2).below (al _ c3)
 have n3' := nn_new (w := (w.alloc (.cells c1 3)).alloc (.cells c2 3)) h3 e3
 rw [es] at n2'
 rw [es2] at n3'
 constructor
 ·have t := mm_new (ty := ty) (w := ((w.alloc (.cells c1 3)).alloc (.cells c2 3)).alloc (.cells c3 3)) (A := [L1, L2, L3]) (cs := #[.slice (some ⟨w.heap.size, 0, none⟩) n1 n1, .slice (some ⟨w.heap.size + 1, 0, none⟩) n2 n2, .slice (some ⟨w.heap.size + 1 + 1, 0, none⟩) n3 n3]) (n := 3) rfl (fun t ht => by
   match t, ht with
   | 0, _ => subst e1; exact ⟨_, _, rfl, n1'⟩
   | 1, _ => subst e2; exact ⟨_, _, rfl, n2'⟩
   | 2, _ => subst e3; exact ⟨_, _, rfl, n3'⟩)
  rwa [es3] at t
 ·exact ((((Below.refl _ _).alloc (Nat.le_refl _) _).alloc (by simp) _).alloc (by simp; omega) _).alloc (by simp; omega) _
end
theorem lit4 {w : World} {L1 L2 L3 L4 : List Nat} {c1 c2 c3 c4 : Array Value} {n1 n2 n3 n4 ty : Nat} (h1 : c1 = (L1.map N64).toArray) (e1 : n1 = L1.length) (h2 : c2 = (L2.map N64).toArray) (e2 : n2 = L2.length) (h3 : c3 = (L3.map N64).toArray) (e3 : n3 = L3.length) (h4 : c4 = (L4.map N64).toArray) (e4 : n4 = L4.length) : MM [L1, L2, L3, L4] (((((w.alloc (.cells c1 3)).alloc (.cells c2 3)).alloc (.cells c3 3)).alloc (.cells c4 3)).alloc (.cells #[.slice (some ⟨w.heap.size, 0, none⟩) n1 n1, .slice (some ⟨w.heap.size + 1, 0, none⟩) n2 n2, .slice (some ⟨w.heap.size + 1 + 1, 0, none⟩) n3 n3, .slice (some ⟨w.heap.size + 1 + 1 + 1, 0, none⟩) n4 n4] ty)) (.slice (some ⟨w.heap.size + 1 + 1 + 1 + 1, 0, none⟩) 4 4) ∧ Below w.heap.size w (((((w.alloc (.cells c1 3)).alloc (.cells c2 3)).alloc (.cells c3 3)).alloc (.cells c4 3)).alloc (.cells #[.slice (some ⟨w.heap.size, 0, none⟩) n1 n1, .slice (some ⟨w.heap.size + 1, 0, none⟩) n2 n2, .slice (some ⟨w.heap.size + 1 + 1, 0, none⟩) n3 n3, .slice (some ⟨w.heap.size + 1 + 1 + 1, 0, none⟩) n4 n4] ty)) := by
 have es1 : (w.alloc (.cells c1 3)).heap.size = w.heap.size + 1 := by simp
 have es2 : ((w.alloc (.cells c1 3)).alloc (.cells c2 3)).heap.size = w.heap.size + 1 + 1 := by simp
 have es3 : (((w.alloc (.cells c1 3)).alloc (.cells c2 3)).alloc (.cells c3 3)).heap.size = w.heap.size + 1 + 1 + 1 := by simp
 have es4 : ((((w.alloc (.cells c1 3)).alloc (.cells c2 3)).alloc (.cells c3 3)).alloc (.cells c4 3)).heap.size = w.heap.size + 1 + 1 + 1 + 1 := by simp
 have al := fun (W : World) (c : Array Value) => (Below.refl W.heap.size W).alloc (Nat.le_refl _) (.cells c 3)
 have n1' := (((nn_new (w := w) h1 e1).below (al _ c2)).below (al _ c3)).below (al _ c4)
 have n2' := ((nn_new (w := (w.alloc (.cells c1 3))) h2 e2).below (al _ c3)).below (al _ c4)
 rw [es1] at n2'
 have n3' := (nn_new (w := ((w.alloc (.cells c1 3)).alloc (.cells c2 3))) h3 e3).below (al _ c4)
 rw [es2] at n3'
 have n4' := nn_new (w := (((w.alloc (.cells c1 3)).alloc (.cells c2 3)).alloc (.cells c3 3))) h4 e4
 rw [es3] at n4'
 constructor
 ·have t := mm_new (ty := ty) (w := ((((w.alloc (.cells c1 3)).alloc (.cells c2 3)).alloc (.cells c3 3)).alloc (.cells c4 3))) (A := [L1, L2, L3, L4]) (cs := #[.slice (some ⟨w.heap.size, 0, none⟩) n1 n1, .slice (some ⟨w.heap.size + 1, 0, none⟩) n2 n2, .slice (some ⟨w.heap.size + 1 + 1, 0, none⟩) n3 n3, .slice (some ⟨w.heap.size + 1 + 1 + 1, 0, none⟩) n4 n4]) (n := 4) rfl (fun t ht => by
   match t, ht with
   | 0, _ => subst e1; exact ⟨_, _, rfl, n1'⟩
   | 1, _ => subst e2; exact ⟨_, _, rfl, n2'⟩
   | 2, _ => subst e3; exact ⟨_, _, rfl, n3'⟩
   | 3, _ => subst e4; exact ⟨_, _, rfl, n4'⟩)
  rwa [es4] at t
 ·exact (((((Below.refl _ _).alloc (Nat.le_refl _) _).alloc (by simp) _).alloc (by simp; omega) _).alloc (by simp; omega) _).alloc (by simp; omega) _

def XA2 : List (List Nat) := [[1,0,1],[0,1,1]]
def XS2 : List (List Nat) := [[1,1,0],[0,1,1]]
def XW4 : List (List Nat) := [[0,0,0],[0,1,1],[1,0,1],[1,1,0]]
/-- the values of the examples -/
structure EV (F : Gf) : Prop where
 mem : F ∈ fds
 q2 : F.q = 2
 v1 : redM F 3 XS2 = XA2
 v2 : kerM F 3 XA2 = [[1,1,1]]
 v3 : wdK F 3 XA2 2 = XW4
 v4 : cwL 3 XW4 = [1,0,3,0]
 v5 : arB 2 [[1,1],[0,1]] = false
 v6 : arB 3 XA2 = true
theorem ev_ok : EV (fdB 0) := ⟨fdB_fds 0, by kernel_rfl, by kernel_rfl, by kernel_rfl, by kernel_rfl, by kernel_rfl, by kernel_rfl, by kernel_rfl⟩
theorem EV.mn {F : Gf} (h : EV F) {n : Nat} {A : List (List Nat)} (ha : (A.all fun L => decide (L.length = n) && L.all fun x => decide (x < 2)) = true) : Mn F n A := mn_of (by rw [h.q2]; exact ha)
theorem EV.vc {F : Gf} (h : EV F) : VC F 3 2 XA2 (redL F 3 (XS2.map Go.Fl.fn)) := ⟨⟨h.mem, by rw [h.q2]; decide, by decide, by decide, by decide, rfl, h.mn (by decide)⟩, by rw [← h.v1]; exact RM.of (ok_mem h.mem) (h.mn (by decide))⟩
theorem EV.k1 {F : Gf} (h : EV F) : cnK F.q 2 ≤ 4096 := by rw [h.q2]; decide
theorem EV.k2 {F : Gf} (h : EV F) : F.q ^ 2 ≤ 4096 := by rw [h.q2]; decide
section
variable {F : Gf} (hE : EV F) {W : World} {a : Option Addr} {c : Nat}
include hE
theorem x_make (ns : MM XS2 W (.slice a 2 c)) : Calls Try.prog 12 #[.int .i64 2, .int .i64 3, .slice a 2 c] W fun e w' => ∃ a c, e = .returned (.tuple #[.agg #[.int .i64 2, .int .i64 3, .slice a 2 c], .int .i64 0]) ∧ MM XA2 w' (.slice a 2 c) ∧ Below W.heap.size W w' := by
 have h := make_c (F := F) (n := 3) (m := 2) ⟨hE.mem, by rw [hE.q2]; decide, by decide, by decide, by decide, rfl, hE.mn (by decide)⟩ (by decide) (by rw [hE.v1]; exact hE.k1) ns
 rw [hE.v1, hE.q2] at h
 exact h.mono fun e w' ⟨us, a, c, h1, h2, h3⟩ => ⟨a, c, h1, h2.mm, h3⟩
theorem x_weights (ns : MM XA2 W (.slice a 2 c)) : Calls Try.prog 28 #[.agg #[.int .i64 2, .int .i64 3, .slice a 2 c]] W fun e w' => ∃ g, e = .returned (.tuple #[.slice (some ⟨g, 0, none⟩) 4 4, .int .i64 0]) ∧ NN [1,0,3,0] w' (.slice (some ⟨g, 0, none⟩) 4 4) ∧ Below W.heap.size W w' := by
 have h := weights_c hE.vc hE.k1 hE.k2 ns
 rw [hE.v3, hE.v4, hE.q2] at h
 exact h.mono fun e w' ⟨g, h0, h1, h2, h3⟩ => ⟨g, h1, h2.nn, h3⟩
theorem x_dual (ns : MM XA2 W (.slice a 2 c)) : Calls Try.prog 26 #[.agg #[.int .i64 2, .int .i64 3, .slice a 2 c]] W fun e w' => ∃ a c, e = .returned (.agg #[.int .i64 2, .int .i64 3, .slice a 1 c]) ∧ MM [[1,1,1]] w' (.slice a 1 c) ∧ Below W.heap.size W w' := by
 have h := dual_c hE.vc ns
 rw [hE.v2, hE.q2] at h
 exact h.mono fun e w' ⟨us, a, c, h1, h2, h3⟩ => ⟨a, c, h1, h2.mm, h3⟩
theorem x_words (ns : MM XA2 W (.slice a 2 c)) : Calls Try.prog 33 #[.agg #[.int .i64 2, .int .i64 3, .slice a 2 c]] W fun e w' => ∃ a c, e = .returned (.slice a 4 c) ∧ MM XW4 w' (.slice a 4 c) ∧ Below W.heap.size W w' := by
 have h := lwords_c hE.vc hE.k1 hE.k2 ns
 rw [hE.v3, hE.q2] at h
 exact h.mono fun e w' ⟨us, a, c, h1, h2, h3⟩ => ⟨a, c, h1, h2.mm, h3⟩
theorem x_dist (ns : MM XA2 W (.slice a 2 c)) : Calls Try.prog 45 #[.agg #[.int .i64 2, .int .i64 3, .slice a 2 c]] W fun e w' => e = .returned (.int .i64 2) ∧ Below W.heap.size W w' := by
 have h := ldist_c hE.vc hE.k1 hE.k2 ns
 rw [hE.v3, hE.v4, hE.q2] at h
 refine h.mono fun e w' ⟨d, x, h1, h2, h3⟩ => ⟨?_, h3⟩
 rcases h1 with ⟨g1, g2, g3, g4, rfl⟩ | ⟨-, g2, -⟩
 ·have hd : d = 2 := by
   have h5 : d = 1 ∨ d = 2 ∨ d = 3 := by omega
   rcases h5 with rfl | rfl | rfl
   ·exact absurd rfl g3
   ·rfl
   ·exact absurd (g4 2 (by decide) (by decide)) (by decide)
  subst hd
  rw [h2, if_pos rfl]; rfl
 ·exact absurd (g2 2 (by decide) (by decide)) (by decide)
theorem x_dim (ns : MM XA2 W (.slice a 2 c)) : Calls Try.prog 37 #[.agg #[.int .i64 2, .int .i64 3, .slice a 2 c]] W fun e w' => e = .returned (.int .i64 2) ∧ Below W.heap.size W w' := by
 have h := dim_c hE.vc ns
 rw [hE.q2] at h
 exact h
theorem x_count (ns : MM XA2 W (.slice a 2 c)) : Calls Try.prog 35 #[.agg #[.int .i64 2, .int .i64 3, .slice a 2 c]] W fun e w' => e = .returned (.int .i64 4) ∧ Below W.heap.size W w' := by
 have h := count_c hE.vc ns
 rw [hE.q2] at h
 exact h
theorem x_valid (ns : MM XA2 W (.slice a 2 c)) : Calls Try.prog 15 #[.agg #[.int .i64 2, .int .i64 3, .slice a 2 c]] W fun e w' => e = .returned (.bool true) ∧ Below W.heap.size W w' := by
 have h := valid_c hE.vc.gc ns
 rw [hE.q2, hE.v6] at h
 exact h
theorem x_bad (ns : MM [[1,1],[0,1]] W (.slice a 2 c)) : Calls Try.prog 15 #[.agg #[.int .i64 2, .int .i64 2, .slice a 2 c]] W fun e w' => e = .returned (.bool false) ∧ Below W.heap.size W w' := by
 have h := valid_c (F := F) (n := 2) (m := 2) ⟨hE.mem, by rw [hE.q2]; decide, by decide, by decide, by decide, rfl, hE.mn (by decide)⟩ ns
 rw [hE.q2, hE.v5] at h
 exact h
omit hE in
theorem x_no : Calls Try.prog 12 #[.int .i64 6, .int .i64 3, .slice none 0 0] W fun e w' => e = .returned (.tuple #[.agg #[.int .i64 0, .int .i64 0, .slice none 0 0], .int .i64 1]) ∧ Below W.heap.size W w' :=
 make_no (q := 6) (n := 3) ⟨_, _, _, rfl⟩ fun w => fmake_no (q := 6) (r := 2) (a := 3) (b := 1) (by decide) (by decide) (by kernel_rfl) (by decide) (by decide) (by kernel_rfl) (by decide) (by decide)
end
set_option maxHeartbeats 6400000 in
theorem ex_c {W : World} : Calls Try.prog 10 #[] W fun e w' => e = .returned (.bool true) ∧ Below W.heap.size W w' := by
 have HE := Lib.hid ev_ok
 go_enter Try.func10, Try.ntmps10
 obtain ⟨v1, hv1⟩ : ∃ x, x = (((W.alloc (.cells #[.int .i64 1, .int .i64 1, .int .i64 0] 3)).alloc (.cells #[.int .i64 0, .int .i64 1, .int .i64 1] 3)).alloc (.cells #[.slice (some ⟨W.heap.size, 0, none⟩) 3 3, .slice (some ⟨W.heap.size + 1, 0, none⟩) 3 3] 39)) := ⟨_, rfl⟩
 have hl := lit2 (w := W) (L1 := [1, 1, 0]) (c1 := #[.int .i64 1, .int .i64 1, .int .i64 0]) (n1 := 3) (L2 := [0, 1, 1]) (c2 := #[.int .i64 0, .int .i64 1, .int .i64 1]) (n2 := 3) (ty := 39) rfl rfl rfl rfl
 rw [← hv1] at hl
 have HVv1 := Lib.hid hv1
 have HLT := Lib.hid hl.1
 have hbl := hl.2
 have HB_v1 := Lib.hid hbl
 clear hl hbl hv1
 have HC : Hid (Calls Try.prog 12 #[.int .i64 2, .int .i64 3, .slice (some ⟨W.heap.size + 1 + 1, 0, none⟩) 2 2] v1 (fun e w' => ∃ a c, e = .returned (.tuple #[.agg #[.int .i64 2, .int .i64 3, .slice a 2 c], .int .i64 0]) ∧ MM XA2 w' (.slice a 2 c) ∧ Below v1.heap.size v1 w')) := Lib.hid (by
  exact x_make HE.out HLT.out)
 go_wp2_with fail
 rw [← HVv1.out]
 with_reducible refine HC.out.mono ?_
 rintro e w1 ⟨aC, cC, rfl, hm, hb⟩
 have HM := Lib.hid hm
 have HB_w1 : Hid (Below W.heap.size W w1) := Lib.hid (HB_v1.out.trans (hb.mono HB_v1.out.size))
 clear HB_v1
 clear HC hb HLT HVv1 hm
 obtain ⟨u1, hu1⟩ : ∃ x, x = w1.alloc (.cells #[.int .i64 2, .int .i64 3, .slice aC 2 cC] 32) := ⟨_, rfl⟩
 have hbl : Below w1.heap.size w1 u1 := by rw [hu1]; exact (Below.refl _ _).alloc (Nat.le_refl _) _
 have HVu1 := Lib.hid hu1
 have HM_u1 := Lib.hid (HM.out.below hbl)
 clear HM
 have HB_u1 : Hid (Below W.heap.size W u1) := Lib.hid (HB_w1.out.trans (hbl.mono HB_w1.out.size))
 clear HB_w1
 clear hu1 hbl
 have HX : Hid (BC w1.heap.size [.int .i64 2, .int .i64 3, .slice aC 2 cC] 32 u1) := Lib.hid (by rw [HVu1.out]; exact BC.new _ [.int .i64 2, .int .i64 3, .slice aC 2 cC] 32 rfl)
 have HC : Hid (Calls Try.prog 12 #[.int .i64 6, .int .i64 3, .slice none 0 0] u1 (fun e w' => e = .returned (.tuple #[.agg #[.int .i64 0, .int .i64 0, .slice none 0 0], .int .i64 1]) ∧ Below u1.heap.size u1 w')) := Lib.hid (by
  exact x_no)
 go_wp2_with fail
 rw [← HVu1.out]
 with_reducible refine HC.out.mono ?_
 rintro e w2 ⟨rfl, hb⟩
 have HM_w2 := Lib.hid (HM_u1.out.below hb)
 clear HM_u1
 have HX_w2 := Lib.hid (HX.out.below hb)
 clear HX
 have HB_w2 : Hid (Below W.heap.size W w2) := Lib.hid (HB_u1.out.trans (hb.mono HB_u1.out.size))
 clear HB_u1
 clear HC hb
 obtain ⟨u2, hu2⟩ : ∃ x, x = w2.alloc (.cells #[.int .i64 0, .int .i64 0, .slice none 0 0] 32) := ⟨_, rfl⟩
 have hbl : Below w2.heap.size w2 u2 := by rw [hu2]; exact (Below.refl _ _).alloc (Nat.le_refl _) _
 have HVu2 := Lib.hid hu2
 have HM_u2 := Lib.hid (HM_w2.out.below hbl)
 clear HM_w2
 have HX_u2 := Lib.hid (HX_w2.out.below hbl)
 clear HX_w2
 have HB_u2 : Hid (Below W.heap.size W u2) := Lib.hid (HB_w2.out.trans (hbl.mono HB_w2.out.size))
 clear HB_w2
 clear hu2 hbl
 have HZ : Hid (BC w2.heap.size [.int .i64 0, .int .i64 0, .slice none 0 0] 32 u2) := Lib.hid (by rw [HVu2.out]; exact BC.new _ [.int .i64 0, .int .i64 0, .slice none 0 0] 32 rfl)
 have lHX0 := HX_u2.out.cell (i := 0) rfl
 have lHX1 := HX_u2.out.cell (i := 1) rfl
 have lHX2 := HX_u2.out.cell (i := 2) rfl
 rw [HVu2.out] at lHX0 lHX1 lHX2
 have HC : Hid (Calls Try.prog 28 #[.agg #[.int .i64 2, .int .i64 3, .slice aC 2 cC]] u2 (fun e w' => ∃ g, e = .returned (.tuple #[.slice (some ⟨g, 0, none⟩) 4 4, .int .i64 0]) ∧ NN [1,0,3,0] w' (.slice (some ⟨g, 0, none⟩) 4 4) ∧ Below u2.heap.size u2 w')) := Lib.hid (by
  exact x_weights HE.out HM_u2.out)
 go_wp2_with fail
 rw [← HVu2.out]
 with_reducible refine HC.out.mono ?_
 rintro e w3 ⟨g, rfl, hw, hb⟩
 have HW := Lib.hid hw
 have HM_w3 := Lib.hid (HM_u2.out.below hb)
 clear HM_u2
 have HX_w3 := Lib.hid (HX_u2.out.below hb)
 clear HX_u2
 have HZ_w3 := Lib.hid (HZ.out.below hb)
 clear HZ
 have HB_w3 : Hid (Below W.heap.size W w3) := Lib.hid (HB_u2.out.trans (hb.mono HB_u2.out.size))
 clear HB_u2
 clear HC hb lHX0 lHX1 lHX2 hw
 have lHX0 := HX_w3.out.cell (i := 0) rfl
 have lHX1 := HX_w3.out.cell (i := 1) rfl
 have lHX2 := HX_w3.out.cell (i := 2) rfl
 have HC : Hid (Calls Try.prog 26 #[.agg #[.int .i64 2, .int .i64 3, .slice aC 2 cC]] w3 (fun e w' => ∃ a c, e = .returned (.agg #[.int .i64 2, .int .i64 3, .slice a 1 c]) ∧ MM [[1,1,1]] w' (.slice a 1 c) ∧ Below w3.heap.size w3 w')) := Lib.hid (by
  exact x_dual HE.out HM_w3.out)
 go_wp2_with fail
 with_reducible refine HC.out.mono ?_
 rintro e w4 ⟨aD, cD, rfl, hm, hb⟩
 have HD := Lib.hid hm
 have HM_w4 := Lib.hid (HM_w3.out.below hb)
 clear HM_w3
 have HX_w4 := Lib.hid (HX_w3.out.below hb)
 clear HX_w3
 have HW_w4 := Lib.hid (HW.out.below hb)
 clear HW
 have HB_w4 : Hid (Below W.heap.size W w4) := Lib.hid (HB_w3.out.trans (hb.mono HB_w3.out.size))
 clear HB_w3
 clear HC hb lHX0 lHX1 lHX2 hm
 obtain ⟨u4, hu4⟩ : ∃ x, x = w4.alloc (.cells #[.int .i64 2, .int .i64 3, .slice aD 1 cD] 32) := ⟨_, rfl⟩
 have hbl : Below w4.heap.size w4 u4 := by rw [hu4]; exact (Below.refl _ _).alloc (Nat.le_refl _) _
 have HVu4 := Lib.hid hu4
 have HM_u4 := Lib.hid (HM_w4.out.below hbl)
 clear HM_w4
 have HX_u4 := Lib.hid (HX_w4.out.below hbl)
 clear HX_w4
 have HW_u4 := Lib.hid (HW_w4.out.below hbl)
 clear HW_w4
 have HD_u4 := Lib.hid (HD.out.below hbl)
 clear HD
 have HB_u4 : Hid (Below W.heap.size W u4) := Lib.hid (HB_w4.out.trans (hbl.mono HB_w4.out.size))
 clear HB_w4
 clear hu4 hbl
 have HY : Hid (BC w4.heap.size [.int .i64 2, .int .i64 3, .slice aD 1 cD] 32 u4) := Lib.hid (by rw [HVu4.out]; exact BC.new _ [.int .i64 2, .int .i64 3, .slice aD 1 cD] 32 rfl)
 have lHX2 := HX_u4.out.cell (i := 2) rfl
 rw [HVu4.out] at lHX2
 obtain ⟨v5, hv5⟩ : ∃ x, x = (((u4.alloc (.cells #[.int .i64 1, .int .i64 0, .int .i64 1] 3)).alloc (.cells #[.int .i64 0, .int .i64 1, .int .i64 1] 3)).alloc (.cells #[.slice (some ⟨u4.heap.size, 0, none⟩) 3 3, .slice (some ⟨u4.heap.size + 1, 0, none⟩) 3 3] 39)) := ⟨_, rfl⟩
 have hl := lit2 (w := u4) (L1 := [1, 0, 1]) (c1 := #[.int .i64 1, .int .i64 0, .int .i64 1]) (n1 := 3) (L2 := [0, 1, 1]) (c2 := #[.int .i64 0, .int .i64 1, .int .i64 1]) (n2 := 3) (ty := 39) rfl rfl rfl rfl
 rw [← hv5] at hl
 have HVv5 := Lib.hid hv5
 have HLT := Lib.hid hl.1
 have hbl := hl.2
 have HM_v5 := Lib.hid (HM_u4.out.below hbl)
 clear HM_u4
 have HX_v5 := Lib.hid (HX_u4.out.below hbl)
 clear HX_u4
 have HW_v5 := Lib.hid (HW_u4.out.below hbl)
 clear HW_u4
 have HD_v5 := Lib.hid (HD_u4.out.below hbl)
 clear HD_u4
 have HY_v5 := Lib.hid (HY.out.below hbl)
 clear HY
 have HB_v5 : Hid (Below W.heap.size W v5) := Lib.hid (HB_u4.out.trans (hbl.mono HB_u4.out.size))
 clear HB_u4
 clear hl hbl hv5
 have HC : Hid (Calls Try.prog 32 #[.slice aC 2 cC, .slice (some ⟨u4.heap.size + 1 + 1, 0, none⟩) 2 2] v5 (fun e w' => e = .returned (.bool true) ∧ Below v5.heap.size v5 w')) := Lib.hid (by
  exact rrows_c (R := XA2) (m := 2) rfl (by decide) (by decide) HM_v5.out HLT.out)
 have hz : u4.heap.size = w4.heap.size + 1 := by rw [HVu4.out]; simp
 rw [hz] at HVv5 HC
 clear hz
 go_wp2_with fail
 rw [← HVu4.out]
 rw [← HVv5.out]
 with_reducible refine HC.out.mono ?_
 rintro e w5 ⟨rfl, hb⟩
 have HM_w5 := Lib.hid (HM_v5.out.below hb)
 clear HM_v5
 have HX_w5 := Lib.hid (HX_v5.out.below hb)
 clear HX_v5
 have HW_w5 := Lib.hid (HW_v5.out.below hb)
 clear HW_v5
 have HD_w5 := Lib.hid (HD_v5.out.below hb)
 clear HD_v5
 have HY_w5 := Lib.hid (HY_v5.out.below hb)
 clear HY_v5
 have HB_w5 : Hid (Below W.heap.size W w5) := Lib.hid (HB_v5.out.trans (hb.mono HB_v5.out.size))
 clear HB_v5
 clear HC hb lHX2 HLT HVv5
 have lHX0 := HX_w5.out.cell (i := 0) rfl
 have lHX1 := HX_w5.out.cell (i := 1) rfl
 have lHX2 := HX_w5.out.cell (i := 2) rfl
 have HC : Hid (Calls Try.prog 33 #[.agg #[.int .i64 2, .int .i64 3, .slice aC 2 cC]] w5 (fun e w' => ∃ a c, e = .returned (.slice a 4 c) ∧ MM XW4 w' (.slice a 4 c) ∧ Below w5.heap.size w5 w')) := Lib.hid (by
  exact x_words HE.out HM_w5.out)
 go_wp2_with fail
 with_reducible refine HC.out.mono ?_
 rintro e w6 ⟨aW, cW, rfl, hm, hb⟩
 have HQ := Lib.hid hm
 have HM_w6 := Lib.hid (HM_w5.out.below hb)
 clear HM_w5
 have HX_w6 := Lib.hid (HX_w5.out.below hb)
 clear HX_w5
 have HW_w6 := Lib.hid (HW_w5.out.below hb)
 clear HW_w5
 have HD_w6 := Lib.hid (HD_w5.out.below hb)
 clear HD_w5
 have HY_w6 := Lib.hid (HY_w5.out.below hb)
 clear HY_w5
 have HB_w6 : Hid (Below W.heap.size W w6) := Lib.hid (HB_w5.out.trans (hb.mono HB_w5.out.size))
 clear HB_w5
 clear HC hb lHX0 lHX1 lHX2 hm
 obtain ⟨v7, hv7⟩ : ∃ x, x = (((((w6.alloc (.cells #[.int .i64 0, .int .i64 0, .int .i64 0] 3)).alloc (.cells #[.int .i64 0, .int .i64 1, .int .i64 1] 3)).alloc (.cells #[.int .i64 1, .int .i64 0, .int .i64 1] 3)).alloc (.cells #[.int .i64 1, .int .i64 1, .int .i64 0] 3)).alloc (.cells #[.slice (some ⟨w6.heap.size, 0, none⟩) 3 3, .slice (some ⟨w6.heap.size + 1, 0, none⟩) 3 3, .slice (some ⟨w6.heap.size + 1 + 1, 0, none⟩) 3 3, .slice (some ⟨w6.heap.size + 1 + 1 + 1, 0, none⟩) 3 3] 39)) := ⟨_, rfl⟩
 have hl := lit4 (w := w6) (L1 := [0, 0, 0]) (c1 := #[.int .i64 0, .int .i64 0, .int .i64 0]) (n1 := 3) (L2 := [0, 1, 1]) (c2 := #[.int .i64 0, .int .i64 1, .int .i64 1]) (n2 := 3) (L3 := [1, 0, 1]) (c3 := #[.int .i64 1, .int .i64 0, .int .i64 1]) (n3 := 3) (L4 := [1, 1, 0]) (c4 := #[.int .i64 1, .int .i64 1, .int .i64 0]) (n4 := 3) (ty := 39) rfl rfl rfl rfl rfl rfl rfl rfl
 rw [← hv7] at hl
 have HVv7 := Lib.hid hv7
 have HLT := Lib.hid hl.1
 have hbl := hl.2
 have HM_v7 := Lib.hid (HM_w6.out.below hbl)
 clear HM_w6
 have HX_v7 := Lib.hid (HX_w6.out.below hbl)
 clear HX_w6
 have HW_v7 := Lib.hid (HW_w6.out.below hbl)
 clear HW_w6
 have HD_v7 := Lib.hid (HD_w6.out.below hbl)
 clear HD_w6
 have HY_v7 := Lib.hid (HY_w6.out.below hbl)
 clear HY_w6
 have HQ_v7 := Lib.hid (HQ.out.below hbl)
 clear HQ
 have HB_v7 : Hid (Below W.heap.size W v7) := Lib.hid (HB_w6.out.trans (hbl.mono HB_w6.out.size))
 clear HB_w6
 clear hl hbl hv7
 have HC : Hid (Calls Try.prog 32 #[.slice aW 4 cW, .slice (some ⟨w6.heap.size + 1 + 1 + 1 + 1, 0, none⟩) 4 4] v7 (fun e w' => e = .returned (.bool true) ∧ Below v7.heap.size v7 w')) := Lib.hid (by
  exact rrows_c (R := XW4) (m := 4) rfl (by decide) (by decide) HQ_v7.out HLT.out)
 go_wp2_with fail
 rw [← HVv7.out]
 with_reducible refine HC.out.mono ?_
 rintro e w7 ⟨rfl, hb⟩
 have HM_w7 := Lib.hid (HM_v7.out.below hb)
 clear HM_v7
 have HX_w7 := Lib.hid (HX_v7.out.below hb)
 clear HX_v7
 have HW_w7 := Lib.hid (HW_v7.out.below hb)
 clear HW_v7
 have HD_w7 := Lib.hid (HD_v7.out.below hb)
 clear HD_v7
 have HY_w7 := Lib.hid (HY_v7.out.below hb)
 clear HY_v7
 have HQ_w7 := Lib.hid (HQ_v7.out.below hb)
 clear HQ_v7
 have HB_w7 : Hid (Below W.heap.size W w7) := Lib.hid (HB_v7.out.trans (hb.mono HB_v7.out.size))
 clear HB_v7
 clear HC hb HLT HVv7
 have lHX0 := HX_w7.out.cell (i := 0) rfl
 have lHX1 := HX_w7.out.cell (i := 1) rfl
 have lHX2 := HX_w7.out.cell (i := 2) rfl
 have HC : Hid (Calls Try.prog 45 #[.agg #[.int .i64 2, .int .i64 3, .slice aC 2 cC]] w7 (fun e w' => e = .returned (.int .i64 2) ∧ Below w7.heap.size w7 w')) := Lib.hid (by
  exact x_dist HE.out HM_w7.out)
 go_wp2_with fail
 with_reducible refine HC.out.mono ?_
 rintro e w8 ⟨rfl, hb⟩
 have HM_w8 := Lib.hid (HM_w7.out.below hb)
 clear HM_w7
 have HX_w8 := Lib.hid (HX_w7.out.below hb)
 clear HX_w7
 have HW_w8 := Lib.hid (HW_w7.out.below hb)
 clear HW_w7
 have HD_w8 := Lib.hid (HD_w7.out.below hb)
 clear HD_w7
 have HY_w8 := Lib.hid (HY_w7.out.below hb)
 clear HY_w7
 have HB_w8 : Hid (Below W.heap.size W w8) := Lib.hid (HB_w7.out.trans (hb.mono HB_w7.out.size))
 clear HB_w7
 clear HC hb lHX0 lHX1 lHX2
 obtain ⟨v9, hv9⟩ : ∃ x, x = (w8.alloc (.cells #[.int .i64 1, .int .i64 0, .int .i64 3, .int .i64 0] 3)) := ⟨_, rfl⟩
 have hl := lit0 (w := w8) (L1 := [1, 0, 3, 0]) (c1 := #[.int .i64 1, .int .i64 0, .int .i64 3, .int .i64 0]) (n1 := 4) rfl rfl
 rw [← hv9] at hl
 have HVv9 := Lib.hid hv9
 have HLT := Lib.hid hl.1
 have hbl := hl.2
 have HM_v9 := Lib.hid (HM_w8.out.below hbl)
 clear HM_w8
 have HX_v9 := Lib.hid (HX_w8.out.below hbl)
 clear HX_w8
 have HW_v9 := Lib.hid (HW_w8.out.below hbl)
 clear HW_w8
 have HD_v9 := Lib.hid (HD_w8.out.below hbl)
 clear HD_w8
 have HY_v9 := Lib.hid (HY_w8.out.below hbl)
 clear HY_w8
 have HB_v9 : Hid (Below W.heap.size W v9) := Lib.hid (HB_w8.out.trans (hbl.mono HB_w8.out.size))
 clear HB_w8
 clear hl hbl hv9
 have HC : Hid (Calls Try.prog 25 #[.slice (some ⟨g, 0, none⟩) 4 4, .slice (some ⟨w8.heap.size, 0, none⟩) 4 4] v9 (fun e w' => e = .returned (.bool true) ∧ Below v9.heap.size v9 w')) := Lib.hid (by
  exact rints_c (L := [1,0,3,0]) (by decide) HW_v9.out HLT.out)
 go_wp2_with fail
 rw [← HVv9.out]
 with_reducible refine HC.out.mono ?_
 rintro e w9 ⟨rfl, hb⟩
 have HM_w9 := Lib.hid (HM_v9.out.below hb)
 clear HM_v9
 have HX_w9 := Lib.hid (HX_v9.out.below hb)
 clear HX_v9
 have HW_w9 := Lib.hid (HW_v9.out.below hb)
 clear HW_v9
 have HD_w9 := Lib.hid (HD_v9.out.below hb)
 clear HD_v9
 have HY_w9 := Lib.hid (HY_v9.out.below hb)
 clear HY_v9
 have HB_w9 : Hid (Below W.heap.size W w9) := Lib.hid (HB_v9.out.trans (hb.mono HB_v9.out.size))
 clear HB_v9
 clear HC hb HLT HVv9
 have lHY2 := HY_w9.out.cell (i := 2) rfl
 obtain ⟨v10, hv10⟩ : ∃ x, x = ((w9.alloc (.cells #[.int .i64 1, .int .i64 1, .int .i64 1] 3)).alloc (.cells #[.slice (some ⟨w9.heap.size, 0, none⟩) 3 3] 39)) := ⟨_, rfl⟩
 have hl := lit1 (w := w9) (L1 := [1, 1, 1]) (c1 := #[.int .i64 1, .int .i64 1, .int .i64 1]) (n1 := 3) (ty := 39) rfl rfl
 rw [← hv10] at hl
 have HVv10 := Lib.hid hv10
 have HLT := Lib.hid hl.1
 have hbl := hl.2
 have HM_v10 := Lib.hid (HM_w9.out.below hbl)
 clear HM_w9
 have HX_v10 := Lib.hid (HX_w9.out.below hbl)
 clear HX_w9
 have HW_v10 := Lib.hid (HW_w9.out.below hbl)
 clear HW_w9
 have HD_v10 := Lib.hid (HD_w9.out.below hbl)
 clear HD_w9
 have HY_v10 := Lib.hid (HY_w9.out.below hbl)
 clear HY_w9
 have HB_v10 : Hid (Below W.heap.size W v10) := Lib.hid (HB_w9.out.trans (hbl.mono HB_w9.out.size))
 clear HB_w9
 clear hl hbl hv10
 have HC : Hid (Calls Try.prog 32 #[.slice aD 1 cD, .slice (some ⟨w9.heap.size + 1, 0, none⟩) 1 1] v10 (fun e w' => e = .returned (.bool true) ∧ Below v10.heap.size v10 w')) := Lib.hid (by
  exact rrows_c (R := [[1,1,1]]) (m := 1) rfl (by decide) (by decide) HD_v10.out HLT.out)
 go_wp2_with fail
 rw [← HVv10.out]
 with_reducible refine HC.out.mono ?_
 rintro e w10 ⟨rfl, hb⟩
 have HM_w10 := Lib.hid (HM_v10.out.below hb)
 clear HM_v10
 have HX_w10 := Lib.hid (HX_v10.out.below hb)
 clear HX_v10
 have HW_w10 := Lib.hid (HW_v10.out.below hb)
 clear HW_v10
 have HD_w10 := Lib.hid (HD_v10.out.below hb)
 clear HD_v10
 have HY_w10 := Lib.hid (HY_v10.out.below hb)
 clear HY_v10
 have HB_w10 : Hid (Below W.heap.size W w10) := Lib.hid (HB_v10.out.trans (hb.mono HB_v10.out.size))
 clear HB_v10
 clear HC hb lHY2 HLT HVv10
 have lHX0 := HX_w10.out.cell (i := 0) rfl
 have lHX1 := HX_w10.out.cell (i := 1) rfl
 have lHX2 := HX_w10.out.cell (i := 2) rfl
 have HC : Hid (Calls Try.prog 37 #[.agg #[.int .i64 2, .int .i64 3, .slice aC 2 cC]] w10 (fun e w' => e = .returned (.int .i64 2) ∧ Below w10.heap.size w10 w')) := Lib.hid (by
  exact x_dim HE.out HM_w10.out)
 go_wp2_with fail
 with_reducible refine HC.out.mono ?_
 rintro e w11 ⟨rfl, hb⟩
 have HM_w11 := Lib.hid (HM_w10.out.below hb)
 clear HM_w10
 have HX_w11 := Lib.hid (HX_w10.out.below hb)
 clear HX_w10
 have HW_w11 := Lib.hid (HW_w10.out.below hb)
 clear HW_w10
 have HD_w11 := Lib.hid (HD_w10.out.below hb)
 clear HD_w10
 have HY_w11 := Lib.hid (HY_w10.out.below hb)
 clear HY_w10
 have HB_w11 : Hid (Below W.heap.size W w11) := Lib.hid (HB_w10.out.trans (hb.mono HB_w10.out.size))
 clear HB_w10
 clear HC hb lHX0 lHX1 lHX2
 have lHX0 := HX_w11.out.cell (i := 0) rfl
 have lHX1 := HX_w11.out.cell (i := 1) rfl
 have lHX2 := HX_w11.out.cell (i := 2) rfl
 have HC : Hid (Calls Try.prog 35 #[.agg #[.int .i64 2, .int .i64 3, .slice aC 2 cC]] w11 (fun e w' => e = .returned (.int .i64 4) ∧ Below w11.heap.size w11 w')) := Lib.hid (by
  exact x_count HE.out HM_w11.out)
 go_wp2_with fail
 with_reducible refine HC.out.mono ?_
 rintro e w12 ⟨rfl, hb⟩
 have HM_w12 := Lib.hid (HM_w11.out.below hb)
 clear HM_w11
 have HX_w12 := Lib.hid (HX_w11.out.below hb)
 clear HX_w11
 have HW_w12 := Lib.hid (HW_w11.out.below hb)
 clear HW_w11
 have HD_w12 := Lib.hid (HD_w11.out.below hb)
 clear HD_w11
 have HY_w12 := Lib.hid (HY_w11.out.below hb)
 clear HY_w11
 have HB_w12 : Hid (Below W.heap.size W w12) := Lib.hid (HB_w11.out.trans (hb.mono HB_w11.out.size))
 clear HB_w11
 clear HC hb lHX0 lHX1 lHX2
 have lHX0 := HX_w12.out.cell (i := 0) rfl
 have lHX1 := HX_w12.out.cell (i := 1) rfl
 have lHX2 := HX_w12.out.cell (i := 2) rfl
 have HC : Hid (Calls Try.prog 15 #[.agg #[.int .i64 2, .int .i64 3, .slice aC 2 cC]] w12 (fun e w' => e = .returned (.bool true) ∧ Below w12.heap.size w12 w')) := Lib.hid (by
  exact x_valid HE.out HM_w12.out)
 go_wp2_with fail
 with_reducible refine HC.out.mono ?_
 rintro e w13 ⟨rfl, hb⟩
 have HM_w13 := Lib.hid (HM_w12.out.below hb)
 clear HM_w12
 have HX_w13 := Lib.hid (HX_w12.out.below hb)
 clear HX_w12
 have HW_w13 := Lib.hid (HW_w12.out.below hb)
 clear HW_w12
 have HD_w13 := Lib.hid (HD_w12.out.below hb)
 clear HD_w12
 have HY_w13 := Lib.hid (HY_w12.out.below hb)
 clear HY_w12
 have HB_w13 : Hid (Below W.heap.size W w13) := Lib.hid (HB_w12.out.trans (hb.mono HB_w12.out.size))
 clear HB_w12
 clear HC hb lHX0 lHX1 lHX2
 obtain ⟨v14, hv14⟩ : ∃ x, x = (((w13.alloc (.cells #[.int .i64 1, .int .i64 1] 3)).alloc (.cells #[.int .i64 0, .int .i64 1] 3)).alloc (.cells #[.slice (some ⟨w13.heap.size, 0, none⟩) 2 2, .slice (some ⟨w13.heap.size + 1, 0, none⟩) 2 2] 39)) := ⟨_, rfl⟩
 have hl := lit2 (w := w13) (L1 := [1, 1]) (c1 := #[.int .i64 1, .int .i64 1]) (n1 := 2) (L2 := [0, 1]) (c2 := #[.int .i64 0, .int .i64 1]) (n2 := 2) (ty := 39) rfl rfl rfl rfl
 rw [← hv14] at hl
 have HVv14 := Lib.hid hv14
 have HLT := Lib.hid hl.1
 have hbl := hl.2
 have HM_v14 := Lib.hid (HM_w13.out.below hbl)
 clear HM_w13
 have HX_v14 := Lib.hid (HX_w13.out.below hbl)
 clear HX_w13
 have HW_v14 := Lib.hid (HW_w13.out.below hbl)
 clear HW_w13
 have HD_v14 := Lib.hid (HD_w13.out.below hbl)
 clear HD_w13
 have HY_v14 := Lib.hid (HY_w13.out.below hbl)
 clear HY_w13
 have HB_v14 : Hid (Below W.heap.size W v14) := Lib.hid (HB_w13.out.trans (hbl.mono HB_w13.out.size))
 clear HB_w13
 clear hl hbl hv14
 have HC : Hid (Calls Try.prog 15 #[.agg #[.int .i64 2, .int .i64 2, .slice (some ⟨w13.heap.size + 1 + 1, 0, none⟩) 2 2]] v14 (fun e w' => e = .returned (.bool false) ∧ Below v14.heap.size v14 w')) := Lib.hid (by
  exact x_bad HE.out HLT.out)
 go_wp2_with fail
 rw [← HVv14.out]
 with_reducible refine HC.out.mono ?_
 rintro e w14 ⟨rfl, hb⟩
 have HM_w14 := Lib.hid (HM_v14.out.below hb)
 clear HM_v14
 have HX_w14 := Lib.hid (HX_v14.out.below hb)
 clear HX_v14
 have HW_w14 := Lib.hid (HW_v14.out.below hb)
 clear HW_v14
 have HD_w14 := Lib.hid (HD_v14.out.below hb)
 clear HD_v14
 have HY_w14 := Lib.hid (HY_v14.out.below hb)
 clear HY_v14
 have HB_w14 : Hid (Below W.heap.size W w14) := Lib.hid (HB_v14.out.trans (hb.mono HB_v14.out.size))
 clear HB_v14
 clear HC hb HLT HVv14
 go_wp2
 go_ret
 exact ⟨rfl, HB_w14.out⟩

end Go.Proofs.Ytdafhhojiioifaa
