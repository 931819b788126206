/- Weights, distances, words that are given, syndromes. -/
import Derived.Test.YtdafhhojiioifaaEa
namespace Go.Proofs.Ytdafhhojiioifaa
open Go.RowKit Go.Fl
set_option maxRecDepth 100000
set_option linter.unusedVariables false
set_option linter.unusedSimpArgs false
set_option linter.unusedSectionVars false

set_option maxHeartbeats 3200000 in
theorem rweight_c {L : List Nat} {n c : Nat} {a : Option Addr} {W : World} (hl : L.length = n) (hn : n ≤ 100000) (h : NN L W (.slice a n c)) :
  Calls Try.prog 44 #[.slice a n c] W fun e w' => e = .returned (.int .i64 (wtV L : Nat)) ∧ Below W.heap.size W w' := by
 have HN := Lib.hid h
 have HL := Lib.hid hl
 clear h hl
 go_enter Try.func44, Try.ntmps44
 go_wp2
 go_loopw [3, 4] (fun s i wr => ∃ k t : Nat, k ≤ n ∧ t ≤ k ∧ s = .int .i64 (t : Nat) ∧ i = .int .i64 k ∧ Hid (wtK L k = t) ∧ Hid (Below W.heap.size W wr)) (fun _ i _ => n - (intOf i).toNat)
 case atStart => exact ⟨0, 0, Nat.zero_le _, Nat.zero_le _, rfl, rfl, Lib.hid rfl, Below.refl _ _⟩
 case round =>
  obtain ⟨k, t, hk, ht, rfl, rfl, KT, KB⟩ := hrel
  have HBF := Lib.hid KB.out
  by_cases hlt : k < n
  ·obtain ⟨x, hx⟩ : ∃ x, L.getD k 0 = x := ⟨_, rfl⟩
   obtain ⟨b1, o1, rfl, _, hc⟩ := (HN.out.below KB.out).at' hlt
   rw [hx] at hc
   have hk5 : k < 100000 := by omega
   have HST := Lib.hid (wtK_succ (L := L) (k := k) (by rw [HL.out]; exact hlt))
   rw [hx, KT.out] at HST
   clear hx
   by_cases h0 : x = 0
   ·subst h0
    have HS : Hid (wtK L (k + 1) = t) := Lib.hid (by have := HST.out; rw [if_pos rfl] at this; exact this)
    go_wp2
    go_roundw
    case rel => exact ⟨k + 1, t, by omega, by omega, rfl, by go_num, HS, HBF⟩
    case measure => simp [intOf]; omega
   ·have hx0 : ((x : Int) != 0) = true := by simpa using h0
    have HS : Hid (wtK L (k + 1) = t + 1) := Lib.hid (by have := HST.out; rw [if_neg h0] at this; exact this)
    go_wp2
    go_roundw
    case rel => exact ⟨k + 1, t + 1, by omega, by omega, by go_num, by go_num, HS, HBF⟩
    case measure => simp [intOf]; omega
  ·obtain rfl : k = n := by omega
   have hlt1 : ¬ (k : Int) < (k : Int) := by omega
   have HE : Hid (wtV L = t) := Lib.hid (by have := KT.out; unfold wtK at this; rw [← HL.out, List.take_length] at this; exact this)
   go_wp2
   go_ret
   exact ⟨by rw [HE.out]; rfl, HBF.out⟩

/-- in how many of the first k places two words differ -/
def apK (V X : List Nat) (k : Nat) : Nat := (List.range k).countP fun j => V.getD j 0 != X.getD j 0
theorem apK_succ (V X : List Nat) (k : Nat) : apK V X (k + 1) = apK V X k + if V.getD k 0 = X.getD k 0 then 0 else 1 := by
 unfold apK
 rw [List.range_succ, List.countP_append, List.countP_cons, List.countP_nil]
 by_cases h : V.getD k 0 = X.getD k 0
 ·rw [if_pos h, h]; simp
 ·rw [if_neg h, if_pos (by simpa using h)]
theorem apK_le (V X : List Nat) (k : Nat) : apK V X k ≤ k := by
 unfold apK
 exact Nat.le_trans List.countP_le_length (by simp)
set_option maxHeartbeats 3200000 in
theorem rapart_c {V X : List Nat} {n c d : Nat} {a b : Option Addr} {W : World} (hn : n ≤ 100000) (h1 : NN V W (.slice a n c)) (h2 : NN X W (.slice b n d)) :
  Calls Try.prog 46 #[.slice a n c, .slice b n d] W fun e w' => e = .returned (.int .i64 (apK V X n : Nat)) ∧ Below W.heap.size W w' := by
 have HN := Lib.hid h1
 have HX := Lib.hid h2
 clear h1 h2
 go_enter Try.func46, Try.ntmps46
 go_wp2
 go_loopw [5, 6] (fun s i wr => ∃ k t : Nat, k ≤ n ∧ t ≤ k ∧ s = .int .i64 (t : Nat) ∧ i = .int .i64 k ∧ Hid (apK V X k = t) ∧ Hid (Below W.heap.size W wr)) (fun _ i _ => n - (intOf i).toNat)
 case atStart => exact ⟨0, 0, Nat.zero_le _, Nat.zero_le _, rfl, rfl, Lib.hid rfl, Lib.hid (Below.refl _ _)⟩
 case round =>
  obtain ⟨k, t, hk, ht, rfl, rfl, KT, KB⟩ := hrel
  have HBF : Hid (Below W.heap.size W wr.drew) := Lib.hid KB.out.drew
  by_cases hlt : k < n
  ·obtain ⟨x, hx⟩ : ∃ x, V.getD k 0 = x := ⟨_, rfl⟩
   obtain ⟨y, hy⟩ : ∃ y, X.getD k 0 = y := ⟨_, rfl⟩
   obtain ⟨b1, o1, rfl, _, hc⟩ := (HN.out.below KB.out).at' hlt
   obtain ⟨b2, o2, rfl, _, hc2⟩ := (HX.out.below KB.out).at' hlt
   rw [hx] at hc
   rw [hy] at hc2
   have hlti : (k : Int) < (n : Int) := by omega
   have hk5 : k < 100000 := by omega
   have HST := Lib.hid (apK_succ V X k)
   rw [hx, hy, KT.out] at HST
   have hS0 : wr.drew.cell? ⟨b1, o1 + k, none⟩ = some (.int .i64 (x : Nat)) ∧ wr.drew.cell? ⟨b2, o2 + k, none⟩ = some (.int .i64 (y : Nat)) := ⟨hc, hc2⟩
   clear hx hy hc hc2
   by_cases h0 : x = y
   ·have hxy : ((x : Int) != (y : Int)) = false := by rw [h0]; simp
    have hxy2 : (x : Int) = (y : Int) := by omega
    have HS : Hid (apK V X (k + 1) = t) := Lib.hid (by have := HST.out; rw [if_pos h0] at this; exact this)
    go_wp2
    refine wp_region_held_drew (S := fun w' => w'.cell? ⟨b1, o1 + k, none⟩ = some (.int .i64 (x : Nat)) ∧ w'.cell? ⟨b2, o2 + k, none⟩ = some (.int .i64 (y : Nat))) (by kernel_rfl) (by with_reducible exact hS0) (fun hHeld => ?_)
    refine Rg.tk 0 ⟨some 13,.move (.tmp 0),39,"ref.go:82",#[],none⟩ ?_
    try simp only [Rg.gp]
    refine Rg.tk 1 ⟨some 14,.move (.tmp 6),3,"ref.go:82",#[],none⟩ ?_
    try simp only [Rg.gp]
    refine Rg.tk 2 ⟨some 15,.indexAddr 39 (.tmp 13) (.tmp 14),0,"ref.go:82",#[⟨0,.data⟩,⟨1,.data⟩],none⟩ ?_
    try simp only [Rg.gp]
    refine Rg.tk 3 ⟨some 16,.load 3 (.tmp 15),3,"ref.go:82",#[⟨2,.data⟩],none⟩ ?_
    try simp only [Rg.gp]
    refine Rg.tk 4 ⟨some 17,.move (.tmp 1),39,"ref.go:82",#[],none⟩ ?_
    try simp only [Rg.gp]
    refine Rg.tk 5 ⟨some 18,.move (.tmp 6),3,"ref.go:82",#[],none⟩ ?_
    try simp only [Rg.gp]
    refine Rg.tk 6 ⟨some 19,.indexAddr 39 (.tmp 17) (.tmp 18),0,"ref.go:82",#[⟨4,.data⟩,⟨5,.data⟩],none⟩ ?_
    try simp only [Rg.gp]
    refine Rg.tk 7 ⟨some 20,.load 3 (.tmp 19),3,"ref.go:82",#[⟨6,.data⟩],none⟩ ?_
    try simp only [Rg.gp]
    refine Rg.tk 8 ⟨some 21,.binOp BinOp.neq 3 (.tmp 16) (.tmp 20) 3,4,"ref.go:82",#[⟨3,.data⟩,⟨7,.data⟩],none⟩ ?_
    try simp only [Rg.gp]
    refine wpAnyH_done (by kernel_rfl) ?_ _
    clear hHeld hS0
    go_wp2
    go_roundw
    case rel => exact ⟨k + 1, t, by omega, by omega, rfl, by go_num, HS, HBF⟩
    case measure => (try simp [intOf]); (try omega)
   ·have hxy : ((x : Int) != (y : Int)) = true := by simp; omega
    have hxy2 : ¬ (x : Int) = (y : Int) := by omega
    have HS : Hid (apK V X (k + 1) = t + 1) := Lib.hid (by have := HST.out; rw [if_neg h0] at this; exact this)
    go_wp2
    refine wp_region_held_drew (S := fun w' => w'.cell? ⟨b1, o1 + k, none⟩ = some (.int .i64 (x : Nat)) ∧ w'.cell? ⟨b2, o2 + k, none⟩ = some (.int .i64 (y : Nat))) (by kernel_rfl) (by with_reducible exact hS0) (fun hHeld => ?_)
    refine Rg.tk 0 ⟨some 13,.move (.tmp 0),39,"ref.go:82",#[],none⟩ ?_
    try simp only [Rg.gp]
    refine Rg.tk 1 ⟨some 14,.move (.tmp 6),3,"ref.go:82",#[],none⟩ ?_
    try simp only [Rg.gp]
    refine Rg.tk 2 ⟨some 15,.indexAddr 39 (.tmp 13) (.tmp 14),0,"ref.go:82",#[⟨0,.data⟩,⟨1,.data⟩],none⟩ ?_
    try simp only [Rg.gp]
    refine Rg.tk 3 ⟨some 16,.load 3 (.tmp 15),3,"ref.go:82",#[⟨2,.data⟩],none⟩ ?_
    try simp only [Rg.gp]
    refine Rg.tk 4 ⟨some 17,.move (.tmp 1),39,"ref.go:82",#[],none⟩ ?_
    try simp only [Rg.gp]
    refine Rg.tk 5 ⟨some 18,.move (.tmp 6),3,"ref.go:82",#[],none⟩ ?_
    try simp only [Rg.gp]
    refine Rg.tk 6 ⟨some 19,.indexAddr 39 (.tmp 17) (.tmp 18),0,"ref.go:82",#[⟨4,.data⟩,⟨5,.data⟩],none⟩ ?_
    try simp only [Rg.gp]
    refine Rg.tk 7 ⟨some 20,.load 3 (.tmp 19),3,"ref.go:82",#[⟨6,.data⟩],none⟩ ?_
    try simp only [Rg.gp]
    refine Rg.tk 8 ⟨some 21,.binOp BinOp.neq 3 (.tmp 16) (.tmp 20) 3,4,"ref.go:82",#[⟨3,.data⟩,⟨7,.data⟩],none⟩ ?_
    try simp only [Rg.gp]
    refine wpAnyH_done (by kernel_rfl) ?_ _
    clear hHeld hS0
    go_wp2
    go_roundw
    case rel => exact ⟨k + 1, t + 1, by omega, by omega, by go_num, by go_num, HS, HBF⟩
    case measure => (try simp [intOf]); (try omega)
  ·obtain rfl : k = n := by omega
   have hlt1 : ¬ (k : Int) < (k : Int) := by omega
   have HE : Hid (apK V X k = t) := KT
   have HB2 := Lib.hid KB.out
   go_wp2
   go_ret
   exact ⟨by rw [HE.out]; rfl, HB2.out⟩
/-- a word is answered -/
def GvP (F : Gf) (n : Nat) (W : World) (e : Ending) (w' : World) : Prop := ∃ g V, W.heap.size ≤ g ∧ e = .returned (.slice (some ⟨g, 0, none⟩) n n) ∧ Vn F n V ∧ Row V g w' ∧ Below W.heap.size W w'
theorem set_lt' {q : Nat} {V : List Nat} (h : ∀ x ∈ V, x < q) {k x : Nat} (hx : x < q) : ∀ y ∈ V.set k x, y < q := fun y hy => by
 rcases List.mem_or_eq_of_mem_set hy with h1 | h1
 ·exact h y h1
 ·rw [h1]; exact hx
set_option maxHeartbeats 3200000 in
theorem given_c {F : Gf} {n l cl : Nat} {aa : Option Addr} {W : World} (hF : Ok F) (hq : 1 ≤ F.q ∧ F.q ≤ 64) (hn : n ≤ 1000) (hl : l ≤ maxLen) (na : N8 l W (.slice aa l cl)) :
  Calls Try.prog 18 #[.int .i64 (F.q : Nat), .int .i64 (n : Nat), .slice aa l cl] W (GvP F n W) := by
 have HNA := Lib.hid na
 have HFF := Lib.hid hF
 have HZ : Hid (Calls Try.prog 39 #[.int .i64 (n : Nat)] W (RPost (List.replicate n 0) W)) := Lib.hid (rzero0_c (by omega))
 obtain ⟨q, hqq⟩ : ∃ q, Hid (F.q = q) := ⟨_, Lib.hid rfl⟩
 rw [hqq.out] at hq ⊢
 have hq1 := hq.1
 have hq2 := hq.2
 clear na hF hq
 go_enter Try.func18, Try.ntmps18
 go_wp2_with fail
 with_reducible refine HZ.out.mono ?_
 rintro e w2 ⟨g, hg, rfl, hr, hb⟩
 rw [List.length_replicate]
 have HR := Lib.hid hr
 have HB2 := Lib.hid hb
 have HG := Lib.hid hg
 clear hr hb hg HZ
 go_wp2
 go_loopw [8] (fun i wr => ∃ (k : Nat) (V : List Nat), k ≤ n ∧ i = .int .i64 (k : Nat) ∧ Hid (Vn F n V) ∧ Hid (Row V g wr) ∧ Hid (Below W.heap.size W wr)) (fun i _ => n - (intOf i).toNat)
 case atStart => exact ⟨0, List.replicate n 0, Nat.zero_le _, rfl, Lib.hid ⟨by simp, fun x hx => by rw [List.eq_of_mem_replicate hx]; exact HFF.out.zero_lt⟩, HR, HB2⟩
 case round =>
  obtain ⟨k, V, hk, rfl, KV, KR, KB⟩ := hrel
  have HVN := Lib.hid KV.out
  have HRR := Lib.hid KR.out
  have HBB := Lib.hid KB.out
  by_cases hlt : k < n
  ·have hlti : (k : Int) < (n : Int) := by omega
   by_cases hll : k < l
   ·have hlli : (k : Int) < (l : Int) := by omega
    obtain ⟨bl, ol, bb, hae, hbl, hbb, hcb⟩ := (HNA.out.below HBB.out).at hll
    subst hae
    obtain ⟨rb, hrb⟩ : ∃ r, Hid (bb % q = r) := ⟨_, Lib.hid rfl⟩
    have hrbq : rb < q := by rw [← hrb.out]; exact Nat.mod_lt _ (by omega)
    have hrbi : (bb : Int).tmod (q : Int) = (rb : Int) := by rw [← hrb.out]; exact (Int.ofNat_tmod bb q).symm
    have hqz : ((q : Int) == 0) = false := by simp; omega
    have hqz2 : ¬ (q : Int) = 0 := by omega
    have hqz3 : ¬ q = 0 := by omega
    have hbw : IntKind.i64.wrap (bb : Int) = (bb : Int) := Go.IntWalk.i64_in _ (by omega)
    have hrw : IntKind.i64.wrap (rb : Int) = (rb : Int) := Go.IntWalk.i64_in _ (by omega)
    have hcc := HRR.out.cell (t := k) (by rw [HVN.out.len]; exact hlt)
    have hff := HRR.out.frozen k
    have HROW2 : Hid (Row (V.set k rb) g (wr.setCell ⟨g, k, none⟩ (.int .i64 (rb : Nat)))) := Lib.hid (HRR.out.set k rb)
    have HRV2 : Hid (Vn F n (V.set k rb)) := Lib.hid ⟨by rw [List.length_set, HVN.out.len], set_lt' HVN.out.el (by rw [hqq.out]; exact hrbq)⟩
    have HB9 : Hid (Below W.heap.size W (wr.setCell ⟨g, k, none⟩ (.int .i64 (rb : Nat)))) := Lib.hid (HBB.out.setCell (p := ⟨g, k, none⟩) (by exact HG.out) _)
    clear hbl
    go_wp2
    go_roundw
    case rel => exact ⟨k + 1, _, by omega, by go_num, HRV2, HROW2, HB9⟩
    case measure => simp [intOf]; omega
   ·have hlli : ¬ (k : Int) < (l : Int) := by omega
    go_wp2
    go_ret
    exact ⟨g, V, HG.out, rfl, HVN.out, HRR.out, HBB.out⟩
  ·have hlti : ¬ (k : Int) < (n : Int) := by omega
   go_wp2
   go_ret
   exact ⟨g, V, HG.out, rfl, HVN.out, HRR.out, HBB.out⟩
set_option maxHeartbeats 3200000 in
theorem lsyn_c {F : Gf} {n m cg cv ld : Nat} {G : List (List Nat)} {L : List (Nat × Cf)} {V : List Nat} {ga av : Option Addr} {W : World} (hC : VC F n m G L) (ng : MM G W (.slice ga m cg)) (mv : Vn F n V) (nv : NN V W (.slice av n cv)) (hl : (kerM F n G).length = ld) :
  Calls Try.prog 43 #[DV F.q n (.slice ga m cg), .slice av n cv] W fun e w' => ∃ a c, e = .returned (.tuple #[.slice a ld c, .bool true]) ∧ NN (syV F n G V) w' (.slice a ld c) ∧ Below W.heap.size W w' := by
 obtain ⟨W1, hW1⟩ : ∃ W1, W.alloc (.cells #[.int .i64 (F.q : Nat), .int .i64 (n : Nat), .slice ga m cg] 32) = W1 := ⟨_, rfl⟩
 have HB1 : Hid (Below W.heap.size W W1) := Lib.hid (by rw [← hW1]; exact (Below.refl _ _).alloc (Nat.le_refl _) _)
 have HC1 : Hid (BC W.heap.size [.int .i64 (F.q : Nat), .int .i64 (n : Nat), .slice ga m cg] 32 W1) := Lib.hid (by rw [← hW1]; exact BC.new W [.int .i64 (F.q : Nat), .int .i64 (n : Nat), .slice ga m cg] 32 rfl)
 have HS1 : Hid (W1.heap.size = W.heap.size + 1) := Lib.hid (by rw [← hW1]; simp)
 have HS : Hid (Calls Try.prog 23 #[DV F.q n (.slice ga m cg), .slice av n cv] W1 fun e w' => ∃ a c, e = .returned (.tuple #[.slice a ld c, .int .i64 0]) ∧ NN (syV F n G V) w' (.slice a ld c) ∧ Below W1.heap.size W1 w') := Lib.hid (by
  refine (syndrome_c hC (ng.below HB1.out) mv (nv.below HB1.out)).mono fun e w' ⟨a, c, h1, h2, h3⟩ => ?_
  rw [hl] at h1 h2
  exact ⟨a, c, h1, NN.of_owns (L := syV F n G V) (by rw [hC.sy_len, hl]; exact h2), h3⟩)
 obtain ⟨q, hqq⟩ : ∃ q, Hid (F.q = q) := ⟨_, Lib.hid rfl⟩
 rw [hqq.out] at HS HC1 hW1 ⊢
 have HW1 := Lib.hid hW1
 have c0 := HC1.out.cell (i := 0) rfl
 have c1 := HC1.out.cell (i := 1) rfl
 have c2 := HC1.out.cell (i := 2) rfl
 clear hW1 hC ng nv mv
 go_enter Try.func43, Try.ntmps43
 go_wp2_with fail
 rw [HW1.out]
 go_wp2_with fail
 with_reducible refine HS.out.mono ?_
 rintro e w2 ⟨a, c, rfl, hn, hb⟩
 have HN := Lib.hid hn
 have HB2 : Hid (Below W.heap.size W w2) := Lib.hid (HB1.out.trans (hb.mono HB1.out.size))
 clear hn hb HS c0 c1 c2
 go_wp2
 refine bodyPost_ret (results_tmp2 rfl _ _ _) rfl ?_
 exact ⟨a, c, rfl, HN.out, HB2.out⟩

end Go.Proofs.Ytdafhhojiioifaa
