/- Words. -/
import Derived.Test.YtdafhhojiioifaaCp
import Derived.Test.YtdafhhojiioifaaEvRm
import Derived.RangeFuncNested
import Derived.RangeFuncBound
import Derived.RangeFuncCalls
import Derived.RangeFuncLeaves
import Derived.RangeFuncFrom
import Derived.Shelf.Abstract
import Derived.Shelf.RegionOpen
import Derived.OwnWalkIn
import Derived.TacticsInMore
import Derived.LoopNIn
import Derived.LoopIn
import Derived.Maps.OwnIn
namespace Go.Proofs.Ytdafhhojiioifaa
open Go.RowKit Go.Fl
set_option maxRecDepth 100000
set_option linter.unusedVariables false
set_option linter.unusedSimpArgs false
set_option linter.unusedSectionVars false

open Go.Sq Go.Shelf
attribute [local go_sem] Oper.semAt_some
/-- a loop that collects: its box and what that holds -/
def OwB (B : Nat) (W : World) (q : Nat) : Prop := q = B ∨ ∃ v, W.cell? ⟨B, 0, none⟩ = some v ∧ v.ownBlock = some q
theorem BC.kept {g : Nat} {vs : List Value} {ty : TypeId} {w w' : World} {row : Option Nat} (h : BC g vs ty w) (hg : w.grownBy w' row) (hr : row ≠ some g) : BC g vs ty w' := (hg.block g h.lt fun e => hr e.symm).trans h
set_option maxHeartbeats 6400000 in
theorem words_c {F : Gf} {n m cg : Nat} {G : List (List Nat)} {L : List (Nat × Cf)} {ga : Option Addr} {W : World} (hC : VC F n m G L) (hk : cnK F.q m ≤ 4096) (hk2 : F.q ^ m ≤ 4096) (ng : MM G W (.slice ga m cg)) :
  Calls Try.prog 48 #[DV F.q n (.slice ga m cg)] W fun e w' => ∃ us a c, e = .returned (.tuple #[.slice a (wdK F n G m).length c, .int .i64 0]) ∧ OL (wdK F n G m) us W.heap.size w' (.slice a (wdK F n G m).length c) ∧ Below W.heap.size W w' := by
 obtain ⟨j0, ji, jz0, jz1, jz2⟩ := info_parts info22
 refine (callsIn_wide (n := 3)).1 ?_
 refine callsIn_of_wp_marks Try.func48 rfl trivial ?_ rfl
 simp only [Try.ntmps48, List.size_toArray, List.length_cons, List.length_nil, Nat.reduceAdd, Nat.reduceSub, Array.replicate_succ, Array.replicate_zero, List.push_toArray, List.append_toArray, List.nil_append, List.cons_append]
 obtain ⟨W1, hW1⟩ : ∃ W1, W.alloc (.cells #[.int .i64 (F.q : Nat), .int .i64 (n : Nat), .slice ga m cg] 32) = W1 := ⟨_, rfl⟩
 have HB1 : Hid (Below W.heap.size W W1) := Lib.hid (by rw [← hW1]; exact (Below.refl _ _).alloc (Nat.le_refl _) _)
 have HC1 : Hid (BC W.heap.size [.int .i64 (F.q : Nat), .int .i64 (n : Nat), .slice ga m cg] 32 W1) := Lib.hid (by rw [← hW1]; exact BC.new W [.int .i64 (F.q : Nat), .int .i64 (n : Nat), .slice ga m cg] 32 rfl)
 have HS1 : Hid (W1.heap.size = W.heap.size + 1) := Lib.hid (by rw [← hW1]; simp)
 have HF4 : Hid (Calls Try.prog 68 #[DV F.q n (.slice ga m cg)] W1 fun e w' => ∃ b cap, e = .returned (.tuple #[XV F b cap n, .int .i64 0]) ∧ FldAt F b cap w' ∧ Below W1.heap.size W1 w' ∧ W1.heap.size ≤ b) := Lib.hid (few_c hC hk (ng.below HB1.out))
 have HGL := Lib.hid hC.gc.len
 have HMG := Lib.hid hC.gc.mn
 have hn2 := hC.gc.n2
 have hm := hC.gc.hm
 have HNG := Lib.hid ng
 have HK2 := Lib.hid hk2
 have HWL : Hid ((wdK F n G m).length ≤ 4096) := Lib.hid (by rw [wdK_len]; exact hk2)
 obtain ⟨q, hqq⟩ : ∃ q, Hid (F.q = q) := ⟨_, Lib.hid rfl⟩
 rw [hqq.out] at HF4 HC1 hW1 ⊢
 have HW1 := Lib.hid hW1
 have c0 := HC1.out.cell (i := 0) rfl
 have c1 := HC1.out.cell (i := 1) rfl
 have c2 := HC1.out.cell (i := 2) rfl
 clear hW1 hC ng hk hk2
 gi_wp2_with fail
 rw [HW1.out]
 gi_wp2_with fail
 refine ⟨trivial, ?_⟩
 refine CallsIn.mono (callsIn_wide.2 HF4.out) ?_
 rintro e w2 ⟨b, cap, rfl, hfa, hb2, hbl⟩
 obtain ⟨w3, hw3⟩ : ∃ w3, w3 = (w2.alloc (.cells (XC F b cap n) 73)).alloc (.cells #[.slice none 0 0] 22) := ⟨_, rfl⟩
 obtain ⟨x, hx⟩ : ∃ x, x = w2.heap.size := ⟨_, rfl⟩
 have HAL : Hid (Below w2.heap.size w2 w3) := Lib.hid (by rw [hw3]; exact ((Below.refl _ _).alloc (Nat.le_refl _) _).alloc (by simp) _)
 have HXB : Hid (XB x F b cap n w3) := Lib.hid (by rw [hw3, hx]; exact (xb_new w2 rfl).below ((Below.refl (w2.heap.size + 1) _).alloc (by simp) _) (Nat.lt_succ_self _))
 have HL3 : Hid (BC (x + 1) [.slice none 0 0] 22 w3) := Lib.hid (by rw [hw3, hx]; exact BC.new _ [.slice none 0 0] 22 (by simp))
 have HSX : Hid (W.heap.size < x ∧ w3.heap.size = x + 2) := Lib.hid ⟨by have := hb2.size; have := HS1.out; omega, by rw [hw3, hx]; simp⟩
 have HFA3 := Lib.hid (hfa.below HAL.out)
 have HFB : Hid (b < x) := Lib.hid (by rw [hx]; obtain ⟨c, e, fz, h1, _⟩ := hfa.blk; exact (Array.getElem?_eq_some_iff.1 h1).1)
 have HC3 := Lib.hid ((HC1.out.below hb2).below HAL.out)
 have HB13 : Hid (Below W1.heap.size W1 w3) := Lib.hid (hb2.trans (HAL.out.mono hb2.size))
 have HB3 : Hid (Below W.heap.size W w3) := Lib.hid (HB1.out.trans (HB13.out.mono HB1.out.size))
 have HW3 := Lib.hid hw3
 have HXX := Lib.hid hx
 clear hfa hb2 hbl HF4 c0 c1 c2
 obtain ⟨x0, x1, x2, x3⟩ := HXB.out
 have c2 := HC3.out.cell (i := 2) rfl
 rw [hx] at x0 x1 x2 x3
 rw [hw3] at x0 x1 x2 x3 c2
 clear hw3 hx
 gi_wp2_with fail
 rw [← HW3.out, ← HXX.out]
 refine ⟨trivial, ?_⟩
 refine CallsIn.mono (callsIn_wide.2 (words_mk (F := F) (b := b) (cap := cap) (n := n))) ?_
 rintro e w6 ⟨rfl, hx6, hc6, hs6, hb6⟩
 obtain ⟨y, hy⟩ : ∃ y, w3.heap.size = y := ⟨_, rfl⟩
 rw [hy] at hx6 hc6 hs6 ⊢
 have HY : Hid (y = x + 2) := Lib.hid (by rw [← hy]; exact HSX.out.2)
 have HX6 := Lib.hid hx6
 have HC6 := Lib.hid hc6
 have HS6 := Lib.hid hs6
 have HB36 := Lib.hid hb6
 have HL6 := Lib.hid (HL3.out.below hb6)
 have HB6 : Hid (Below W.heap.size W w6) := Lib.hid (HB3.out.trans (hb6.mono HB3.out.size))
 have HOW0 : Hid (∀ k, OwB (x + 1) w6 k → k = x + 1) := Lib.hid fun k hk => by
  rcases hk with h | ⟨v, h1, h2⟩
  ·exact h
  ·rw [HL6.out.cell (i := 0) rfl] at h1
   cases h1
   cases h2
 have HIT : Hid (IT F b cap n m G (y + 1) y ga cg (fun k => k = x + 1) w6) := Lib.hid fun w' hw' => by
  have hbl : Below (x + 1) w6 w' := hw'.below (by have := HS6.out; have := HY.out; omega) (fun k hk => by omega)
  have hxc : ∀ i, w'.cell? ⟨y, i, none⟩ = w6.cell? ⟨y, i, none⟩ := fun i => hw'.cell (p := ⟨y, i, none⟩) (show y < w6.heap.size by have := HS6.out; omega) (show ¬ y = x + 1 by have := HY.out; omega)
  have hz := HX6.out
  refine ⟨(hw'.cell (p := ⟨y + 1, 0, none⟩) (show y + 1 < w6.heap.size by have := HS6.out; omega) (show ¬ y + 1 = x + 1 by have := HY.out; omega)).trans HC6.out, ⟨(hxc 0).trans hz.1, (hxc 1).trans hz.2.1, (hxc 2).trans hz.2.2.1, (hxc 3).trans hz.2.2.2⟩, (HFA3.out.below HB36.out).bx hw' (by have := HFB.out; show ¬ b = x + 1; omega), ?_⟩
  rw [show G.take m = G from by rw [← HGL.out]; exact List.take_length]
  exact HNG.out.below (HB6.out.trans (hbl.mono (by have := HSX.out.1; omega)))
 have HOK : Hid (OwOk (OwB (x + 1)) (fun (pre : List Wl) Wr => ∃ us v, BC (x + 1) [v] 22 Wr ∧ OL (pre.map Prod.fst) us (x + 2) Wr v ∧ Below (x + 1) w6 Wr)) := Lib.hid ⟨fun s A k ⟨us, v, h1, h2, h3⟩ hk => by
  rcases hk with rfl | ⟨u, hu, hq⟩
  ·exact ⟨_, _, _, h1⟩
  ·rw [h1.cell (i := 0) rfl] at hu
   injection hu with hu
   subst hu
   rcases h2.own.2 with ⟨rfl, _⟩ | ⟨g, c, cur, rfl, _, h5, _⟩
   ·cases hq
   ·injection hq with hq
    have hq2 : g = k := hq
    rw [← hq2]
    exact ⟨_, _, _, h5⟩, fun s A A' row ⟨us, v, h1, h2, h3⟩ hg hr k hk => by
  have hne : row ≠ some (x + 1) := fun e => hr _ e (.inl rfl)
  rcases hk with rfl | ⟨u, hu, hq⟩
  ·exact .inl rfl
  ·refine .inr ⟨u, ?_, hq⟩
   rw [(h1.kept hg hne).cell (i := 0) rfl] at hu
   rw [h1.cell (i := 0) rfl]
   exact hu⟩
 clear hx6 hc6 hs6 hb6 x0 x1 x2 x3 c2 hy
 gi_wp2_with fail
 refine Go.Sq.wpIn_rangeFunc_W (n := 3) rfl rfl (by decide) (gf := 86) (lb := #[.pointer (some ⟨y + 1, 0, none⟩), .pointer (some ⟨y, 0, none⟩)]) rfl trivial (enters_of Try.func86 (by kernel_rfl) rfl) (words_in (by omega) HMG.out m (by rw [HGL.out]; exact Nat.le_refl _) hm _ _ _ _ _ _ HIT.out _) (Below.refl _ _) (fun _ => rfl) (OwB (x + 1))
  (fun (pre : List Wl) Wr => ∃ us v, BC (x + 1) [v] 22 Wr ∧ OL (pre.map Prod.fst) us (x + 2) Wr v ∧ Below (x + 1) w6 Wr)
  (fun _ _ _ => False)
  (fun s A A' row ⟨us, v, h1, h2, h3⟩ hg hr => by
   have hbx : Bx (fun k => some k = row) A A' := ⟨hg.os, hg.tape, hg.output, hg.size, hg.block⟩
   have nocell : ∀ k c e f, A.heap[k]? = some (Obj.cells c e f) → ¬ some k = row := fun k c e f hk he => by
    obtain ⟨_, o, ho, hc⟩ := hr k he.symm
    rw [hk] at ho; cases ho; cases hc
   refine ⟨us, v, h1.bx hbx (nocell _ _ _ _ h1), OL.bx h2 hbx (fun k hk => ?_) (fun i hi k hk => ?_), h3.grown hg (Nat.le_trans (by have := HS6.out; have := HY.out; omega) h3.size) fun k hk => ?_⟩
   ·rcases h2.own.2 with ⟨rfl, _⟩ | ⟨g, c, cur, rfl, _, h5, _⟩
    ·cases hk
    ·injection hk with hk; have hk2 : g = k := hk; rw [← hk2]; exact nocell _ _ _ _ h5
   ·rcases (h2.row i hi).2 with ⟨e, _⟩ | ⟨g, c, cur, e, _, h5, _⟩
    ·rw [e] at hk; cases hk
    ·rw [e] at hk; injection hk with hk; have hk2 : g = k := hk; rw [← hk2]; exact nocell _ _ _ _ h5
   ·have := (hr k hk).1; have := HS6.out; have := HY.out; omega)
  (fun _ _ _ _ _ hs _ _ => hs)
  HOK.out (fun k _ e => HOW0.out k e)
  (fun s x' A A' row hs he hg hr => he.grow hg hr (HOK.out.mono s A A' row hs hg fun r er => by obtain ⟨o, h4, h5⟩ := hr r er; exact HOK.out.not hs h4 h5))
  ⟨[], .slice none 0 0, HL6.out, OL.emp _ _, Below.refl _ _⟩ ?a1 ?assign ?body ?done ?stop
 case assign =>
  intro l x' A K hK
  gi_wp2
  exact hK
 case stop =>
  rintro D c pre A _ _ h _
  exact h.elim
 case body =>
  rintro l2 pre x' Wr hl2 ⟨us, v, h1, h2, h3⟩ ⟨hvx, hrx, hox⟩ hlen
  have HL1 := Lib.hid h1
  have HO1 := Lib.hid h2
  have HB1' := Lib.hid h3
  have HRX : Hid (Wr.ownsRow 0 3 1 (.slice (some ⟨x'.2, 0, none⟩) n n) n (x'.1.map N64)) := Lib.hid (by unfold Row at hrx; rw [hvx.len] at hrx; exact hrx)
  have HVX := Lib.hid hvx
  have HLN := Lib.hid hlen
  have HSW : Hid (x + 2 ≤ Wr.heap.size) := Lib.hid (by have := h3.size; have := HS6.out; have := HY.out; omega)
  obtain ⟨lp, hlp⟩ : ∃ lp, Hid (pre.length = lp) := ⟨_, Lib.hid rfl⟩
  obtain ⟨av, cv, hv⟩ := h2.shape
  rw [List.length_map, hlp.out] at hv
  subst hv
  have HLB : Hid (lp ≤ 4096) := Lib.hid (by have h9 := HLN.out; have := HWL.out; rw [hlp.out] at h9; omega)
  have HLp : Hid ((pre.map Prod.fst).length = lp) := Lib.hid (by rw [List.length_map, hlp.out])
  obtain ⟨w7, hw7⟩ : ∃ w7, w7 = Wr.alloc (.cells #[.slice (some ⟨x'.2, 0, none⟩) n n] 39) := ⟨_, rfl⟩
  have HA7 : Hid (Below Wr.heap.size Wr w7) := Lib.hid (by rw [hw7]; exact (Below.refl _ _).alloc (Nat.le_refl _) _)
  have l0 := h1.cell (i := 0) rfl
  clear h1 h2 h3 hvx hrx hox hlen hl2 hw7
  gi_wp2_with (gi_at_builtin; refine wpListIn_append_own_at _ rfl _ _ 22 rfl (x + 2) 39 j0 (.slice none 0 0) 1 24 Try.underlying22 ji jz0 jz1 jz2 rfl (by decide) (.slice av lp cv) lp us rfl (by have := HO1.out.own.alloc (.cells #[.slice (some ⟨x'.2, 0, none⟩) n n] 39); rw [HLp.out] at this; exact this) ⟨Wr.heap.size, 0, none⟩ 1 1 [.slice (some ⟨x'.2, 0, none⟩) n n] rfl rfl (cell_one_new _ _ _) (fun u hu => by simp at hu; subst hu; rfl) ?d3 ?d4 ?d5 ?_)
  case d3 => have := HLB.out; unfold maxLen; omega
  case d4 => have := HLB.out; omega
  case d5 => have := HSW.out; simp; omega
  intro v' w8 hown' hgrow hnil hat
  have hal2 : Below Wr.heap.size Wr (Wr.alloc (.cells #[.slice (some ⟨x'.2, 0, none⟩) n n] 39)) := (Below.refl _ _).alloc (Nat.le_refl _) _
  have HOA := Lib.hid (HO1.out.below hal2)
  have HLA := Lib.hid (HL1.out.below hal2)
  have hneq : (Value.slice av lp cv).ownBlock ≠ some (x + 1) := fun e => by
   have := (HO1.out.own.lt _ e).1
   omega
  have HO8 : Hid (OL ((pre ++ [x']).map Prod.fst) (us ++ [.slice (some ⟨x'.2, 0, none⟩) n n]) (x + 2) w8 v') := Lib.hid (by
   rw [List.map_append]
   exact OL.push HOA.out (L := x'.1) (by rw [HVX.out.len]; exact own_belowK HRX.out hal2) (by rw [HLp.out]) hown' hgrow)
  have HL8 : Hid (BC (x + 1) [.slice av lp cv] 22 w8) := Lib.hid (HLA.out.kept hgrow hneq)
  have HB8 : Hid (Below (x + 1) w6 w8) := Lib.hid (HB1'.out.trans ((hal2.mono (by have := HSW.out; omega)).trans ((Below.refl _ _).grown hgrow (by have := HSW.out; have := hal2.size; omega) fun k hk => by have := (HO1.out.own.lt k hk).1; omega)))
  have HG8 : Hid ((Wr.alloc (.cells #[.slice (some ⟨x'.2, 0, none⟩) n n] 39)).grownBy w8 (Value.slice av lp cv).ownBlock) := Lib.hid hgrow
  have HAT8 : Hid (v'.ownBlock = (Value.slice av lp cv).ownBlock ∨ v'.ownBlock = some (Wr.heap.size + 1)) := Lib.hid (by have := hat; simpa using this)
  obtain ⟨a8, c8, hv8⟩ := HO8.out.shape
  obtain ⟨l8, hl8⟩ : ∃ l, Hid (((pre ++ [x']).map Prod.fst).length = l) := ⟨_, Lib.hid rfl⟩
  rw [hl8.out] at hv8
  subst hv8
  have l0 := HL8.out.cell (i := 0) rfl
  have g0 := HL8.out.fz 0
  have HL9 : Hid (BC (x + 1) [.slice a8 l8 c8] 22 (w8.setCell ⟨x + 1, 0, none⟩ (.slice a8 l8 c8))) := Lib.hid (HL8.out.set 0 _)
  have HO9 : Hid (OL ((pre ++ [x']).map Prod.fst) (us ++ [.slice (some ⟨x'.2, 0, none⟩) n n]) (x + 2) (w8.setCell ⟨x + 1, 0, none⟩ (.slice a8 l8 c8)) (.slice a8 l8 c8)) := Lib.hid (OL.bc HO8.out HL8.out (by decide) (by decide) (Bx.set (S := fun k => k = x + 1) rfl _))
  have HB9 : Hid (Below (x + 1) w6 (w8.setCell ⟨x + 1, 0, none⟩ (.slice a8 l8 c8))) := Lib.hid (HB8.out.setCell (p := ⟨x + 1, 0, none⟩) (Nat.le_refl _) _)
  have HKB : Hid (KB (OwB (x + 1)) Wr (w8.setCell ⟨x + 1, 0, none⟩ (.slice a8 l8 c8))) := Lib.hid (by
   have hb9 : Bx (fun k => k = x + 1) w8 (w8.setCell ⟨x + 1, 0, none⟩ (.slice a8 l8 c8)) := Bx.set (S := fun k => k = x + 1) rfl _
   have hg := HG8.out
   refine ⟨hb9.os.trans (hg.os.trans hal2.os), hb9.tape.trans (hg.tape.trans hal2.tape), hb9.output.trans (hg.output.trans hal2.output), Nat.le_trans hal2.size (Nat.le_trans hg.size hb9.size), fun k hk ho => ?_, fun k hk => ?_⟩
   ·have h1 : k ≠ x + 1 := fun e => ho (.inl e)
    have h2 : some k ≠ (Value.slice av lp cv).ownBlock := fun e => ho (.inr ⟨_, HL1.out.cell (i := 0) rfl, e.symm⟩)
    have hka := Nat.lt_of_lt_of_le hk hal2.size
    exact (hb9.block k (Nat.lt_of_lt_of_le hka hg.size) h1).trans ((hg.block k hka h2).trans (hal2.block k hk))
   ·rcases hk with rfl | ⟨u, hu, hq⟩
    ·exact .inl (.inl rfl)
    ·rw [HL9.out.cell (i := 0) rfl] at hu
     injection hu with hu
     subst hu
     rcases HAT8.out with e | e
     ·exact .inl (.inr ⟨_, HL1.out.cell (i := 0) rfl, by rw [← e]; exact hq⟩)
     ·rw [e] at hq; injection hq with hq; exact .inr (by omega))
  clear hown' hgrow hnil hat hal2 hneq
  gi_wp2
  exact ⟨HKB.out, _, _, HL9.out, HO9.out, HB9.out⟩
 case done =>
  rintro D ys A hD hys ⟨us, v, h1, h2, h3⟩ hK
  rw [hys] at h2
  obtain ⟨av, cv, hv⟩ := h2.shape
  subst hv
  have HL1 := Lib.hid h1
  have HO1 := Lib.hid h2
  have HB1' := Lib.hid (HB6.out.trans (h3.mono (by have := HSX.out.1; omega)))
  have HKD := Lib.hid hK
  have HDD := Lib.hid hD
  have l0 := h1.cell (i := 0) rfl
  clear h1 h2 h3 hys hK hD
  gi_wp2
  refine ⟨by simp, .inl ⟨_, _, rfl, run_takeDeferred HKD.out, ?_⟩⟩
  have hg : A.grownBy (A.putObj D (.deferred none)) (some D) := grownBy_putObj' _ _ _
  have hbx : Bx (fun k => some k = some D) A (A.putObj D (.deferred none)) := ⟨hg.os, hg.tape, hg.output, hg.size, hg.block⟩
  have nocell : ∀ k c e f, A.heap[k]? = some (Obj.cells c e f) → ¬ some k = some D := fun k c e f hk he => by
   injection he with he
   rw [he, HKD.out] at hk
   cases hk
  refine ⟨_, results_tmp2 rfl _ _ _, ⟨us, av, cv, rfl, ?_, ?_⟩⟩
  ·refine (OL.bx HO1.out hbx (fun k hk => ?_) (fun i hi k hk => ?_)).weak (by have := HSX.out.1; omega)
   ·rcases HO1.out.own.2 with ⟨e, _⟩ | ⟨g, c, cur, e, _, h5, _⟩
    ·rw [e] at hk; cases hk
    ·rw [e] at hk; injection hk with hk; have hk2 : g = k := hk; rw [← hk2]; exact nocell _ _ _ _ h5
   ·rcases (HO1.out.row i hi).2 with ⟨e, _⟩ | ⟨g, c, cur, e, _, h5, _⟩
    ·rw [e] at hk; cases hk
    ·rw [e] at hk; injection hk with hk; have hk2 : g = k := hk; rw [← hk2]; exact nocell _ _ _ _ h5
  ·exact HB1'.out.grown hg HB1'.out.size (fun k hk => by injection hk with hk; have := HDD.out; have := HB6.out.size; omega)

end Go.Proofs.Ytdafhhojiioifaa

/- Weights. -/
namespace Go.Proofs.Ytdafhhojiioifaa
open Go.RowKit Go.Fl
set_option maxRecDepth 100000
set_option linter.unusedVariables false
set_option linter.unusedSimpArgs false
set_option linter.unusedSectionVars false

open Go.Sq Go.Shelf
attribute [local go_sem] Oper.semAt_some
theorem wpListIn_make_full {F : Fence} {n : Nat} {P : Program} (w : World) {ops : Array Oper} {rest : List Oper} {o : Oper} {a : Act} {Q : Exit → Act → World → Prop}
  (hg : o.guard = none) (l c : Operand) (t : TypeId) (hop : o.op = Op.makeSlice t l c)
  (base : Nat) (e : TypeId) (i : TypeInfo) (z : Value) (size : Nat) (h1 : P.underlying t = some (.slice e)) (h2 : P.info? e = some i) (h3 : i.zero = some z) (h4 : i.size = size)
  (kl kc : IntKind) (L C : Int) (m : Nat) (hl : a.eval l = .int kl L) (hc : a.eval c = .int kc C) (hL : L = (m : Int)) (hC : C = (m : Int)) (b2 : i.bytes * m ≤ 281474976710656) (b3 : m ≤ maxLen) (b4 : base ≤ w.heap.size)
  (hK : ∀ w', w'.ownsRow base e size (.slice (some ⟨w.heap.size, 0, none⟩) m m) m (madeCells z.cells (m * size)).toList → w.grownBy w' none → wpListIn F n P ops Q rest (a.put o.dst (.slice (some ⟨w.heap.size, 0, none⟩) m m)) w') :
  wpListIn F n P ops Q (o :: rest) a w := by
 refine wpListIn_plain hg fun K hK' => ?_
 obtain ⟨w', hrun, r1, r2⟩ := run_make_full (P := P) w base t e i z size h1 h2 h3 h4 kl kc m b2 b3 b4
 subst hL
 subst hC
 unfold Oper.wpIn
 refine ⟨?_, ?_⟩
 ·simp [Oper.about, hop]
 ·rw [Oper.semAt_plain F _ _ (by rw [hop]; intro c hc'; cases hc')]
  simp [execOp, hop, hl, hc, hrun, Result.andThen]
  exact hK' _ _ (hK w' r1 r2)
/-- how many words have each weight -/
def cwL (n : Nat) (l : List (List Nat)) : List Nat := (List.range (n + 1)).map fun t => l.countP fun w => wtV w == t
theorem cwL_len (n : Nat) (l : List (List Nat)) : (cwL n l).length = n + 1 := by simp [cwL]
theorem cwL_nil (n : Nat) : cwL n [] = List.replicate (n + 1) 0 := by simp [cwL, List.map_const']
theorem cwL_get {n : Nat} (l : List (List Nat)) {t : Nat} (ht : t < n + 1) : (cwL n l).getD t 0 = l.countP fun w => wtV w == t := by
 unfold cwL
 rw [List.getD_eq_getElem?_getD, List.getElem?_map, List.getElem?_range ht]; rfl
theorem cwL_le {n : Nat} (l : List (List Nat)) {t : Nat} (ht : t < n + 1) : (cwL n l).getD t 0 ≤ l.length := by rw [cwL_get l ht]; exact List.countP_le_length
theorem cwL_snoc {n : Nat} (l : List (List Nat)) {x : List Nat} (hx : wtV x < n + 1) : cwL n (l ++ [x]) = (cwL n l).set (wtV x) ((cwL n l).getD (wtV x) 0 + 1) := by
 refine List.ext_getElem (by simp [cwL]) fun i h1 h2 => ?_
 have hi : i < n + 1 := by rw [cwL_len] at h1; exact h1
 have e1 : ∀ (l : List (List Nat)) (h : i < (cwL n l).length), (cwL n l)[i] = l.countP fun w => wtV w == i := fun l h => by
  have := cwL_get l hi
  rw [List.getD_eq_getElem?_getD, List.getElem?_eq_getElem h] at this; exact this
 rw [e1, List.getElem_set, List.countP_append]
 by_cases e : wtV x = i
 ·subst e
  rw [if_pos rfl, cwL_get l hi]; simp
 ·rw [if_neg e, e1]; simp [e]
theorem wtV_le (L : List Nat) : wtV L ≤ L.length := List.countP_le_length
set_option maxHeartbeats 6400000 in
theorem weights_c {F : Gf} {n m cg : Nat} {G : List (List Nat)} {L : List (Nat × Cf)} {ga : Option Addr} {W : World} (hC : VC F n m G L) (hk : cnK F.q m ≤ 4096) (hk2 : F.q ^ m ≤ 4096) (ng : MM G W (.slice ga m cg)) :
  Calls Try.prog 28 #[DV F.q n (.slice ga m cg)] W fun e w' => ∃ g, W.heap.size ≤ g ∧ e = .returned (.tuple #[.slice (some ⟨g, 0, none⟩) (n + 1) (n + 1), .int .i64 0]) ∧ Row (cwL n (wdK F n G m)) g w' ∧ Below W.heap.size W w' := by
 obtain ⟨i0, hi, hz0, hz1, hz2⟩ := info_parts info3
 refine (callsIn_wide (n := 3)).1 ?_
 refine callsIn_of_wp_marks Try.func28 rfl trivial ?_ rfl
 simp only [Try.ntmps28, List.size_toArray, List.length_cons, List.length_nil, Nat.reduceAdd, Nat.reduceSub, Array.replicate_succ, Array.replicate_zero, List.push_toArray, List.append_toArray, List.nil_append, List.cons_append]
 obtain ⟨W1, hW1⟩ : ∃ W1, W.alloc (.cells #[.int .i64 (F.q : Nat), .int .i64 (n : Nat), .slice ga m cg] 32) = W1 := ⟨_, rfl⟩
 have HB1 : Hid (Below W.heap.size W W1) := Lib.hid (by rw [← hW1]; exact (Below.refl _ _).alloc (Nat.le_refl _) _)
 have HC1 : Hid (BC W.heap.size [.int .i64 (F.q : Nat), .int .i64 (n : Nat), .slice ga m cg] 32 W1) := Lib.hid (by rw [← hW1]; exact BC.new W [.int .i64 (F.q : Nat), .int .i64 (n : Nat), .slice ga m cg] 32 rfl)
 have HS1 : Hid (W1.heap.size = W.heap.size + 1) := Lib.hid (by rw [← hW1]; simp)
 have HF4 : Hid (Calls Try.prog 68 #[DV F.q n (.slice ga m cg)] W1 fun e w' => ∃ b cap, e = .returned (.tuple #[XV F b cap n, .int .i64 0]) ∧ FldAt F b cap w' ∧ Below W1.heap.size W1 w' ∧ W1.heap.size ≤ b) := Lib.hid (few_c hC hk (ng.below HB1.out))
 have HGL := Lib.hid hC.gc.len
 have HMG := Lib.hid hC.gc.mn
 have hn2 := hC.gc.n2
 have hm := hC.gc.hm
 have HNG := Lib.hid ng
 have HK2 := Lib.hid hk2
 have HWL : Hid ((wdK F n G m).length ≤ 4096) := Lib.hid (by rw [wdK_len]; exact hk2)
 obtain ⟨q, hqq⟩ : ∃ q, Hid (F.q = q) := ⟨_, Lib.hid rfl⟩
 rw [hqq.out] at HF4 HC1 hW1 ⊢
 have HW1 := Lib.hid hW1
 have c0 := HC1.out.cell (i := 0) rfl
 have c1 := HC1.out.cell (i := 1) rfl
 have c2 := HC1.out.cell (i := 2) rfl
 clear hW1 hC ng hk hk2
 gi_wp2_with fail
 rw [HW1.out]
 gi_wp2_with fail
 refine ⟨trivial, ?_⟩
 refine CallsIn.mono (callsIn_wide.2 HF4.out) ?_
 rintro e w2 ⟨b, cap, rfl, hfa, hb2, hbl⟩
 obtain ⟨w3, hw3⟩ : ∃ w3, w3 = w2.alloc (.cells (XC F b cap n) 73) := ⟨_, rfl⟩
 obtain ⟨x, hx⟩ : ∃ x, x = w2.heap.size := ⟨_, rfl⟩
 have HAL : Hid (Below w2.heap.size w2 w3) := Lib.hid (by rw [hw3]; exact (Below.refl _ _).alloc (Nat.le_refl _) _)
 have HXB : Hid (XB x F b cap n w3) := Lib.hid (by rw [hw3, hx]; exact xb_new w2 rfl)
 have HSX : Hid (W.heap.size < x ∧ w3.heap.size = x + 1) := Lib.hid ⟨by have := hb2.size; have := HS1.out; omega, by rw [hw3, hx]; simp⟩
 have HFA3 := Lib.hid (hfa.below HAL.out)
 have HFB : Hid (b < x) := Lib.hid (by rw [hx]; obtain ⟨c, e, fz, h1, _⟩ := hfa.blk; exact (Array.getElem?_eq_some_iff.1 h1).1)
 have HC3 := Lib.hid ((HC1.out.below hb2).below HAL.out)
 have HB13 : Hid (Below W1.heap.size W1 w3) := Lib.hid (hb2.trans (HAL.out.mono hb2.size))
 have HB3 : Hid (Below W.heap.size W w3) := Lib.hid (HB1.out.trans (HB13.out.mono HB1.out.size))
 have HW3 := Lib.hid hw3
 have HXX := Lib.hid hx
 clear hfa hb2 hbl HF4 c0 c1 c2
 obtain ⟨x0, x1, x2, x3⟩ := HXB.out
 have c1 := HC3.out.cell (i := 1) rfl
 rw [hx] at x0 x1 x2 x3
 rw [hw3] at x0 x1 x2 x3 c1
 clear hw3 hx
 gi_wp2_with (gi_at_make; refine wpListIn_make_full _ rfl _ _ 39 rfl 0 3 i0 (.int .i64 0) 1 Try.underlying39 hi hz0 hz1 .i64 .i64 ((n : Int) + 1) ((n : Int) + 1) (n + 1) rfl rfl (by push_cast; rfl) (by push_cast; rfl) (by rw [hz2]; omega) (by unfold maxLen; omega) (Nat.zero_le _) ?_)
 intro w4 hown hgrow
 rw [← HW3.out] at hgrow
 rw [← HXX.out] at hown ⊢
 obtain ⟨g, hg⟩ : ∃ g, g = x + 1 := ⟨_, rfl⟩
 rw [← hg] at hown ⊢
 have HGX : Hid (g = x + 1) := Lib.hid hg
 have HR4 : Hid (Row (List.replicate (n + 1) 0) g w4) := Lib.hid (Row.of_own (n := n + 1) (base := 0) (by
   have e := toList_madeCells_one (Value.int .i64 0) (n + 1)
   rw [List.map_replicate, show N64 0 = Value.int .i64 0 from rfl, ← e]
   simpa using hown) (by simp))
 have HB34 : Hid (Below w3.heap.size w3 w4) := Lib.hid ((Below.refl _ _).grown hgrow (Nat.le_refl _) (fun k hk => by cases hk))
 obtain ⟨w5, hw5⟩ : ∃ w5, w5 = w4.alloc (.cells #[.slice (some ⟨g, 0, none⟩) (n + 1) (n + 1)] 39) := ⟨_, rfl⟩
 obtain ⟨z, hz⟩ : ∃ z, z = w4.heap.size := ⟨_, rfl⟩
 have HA5 : Hid (Below w4.heap.size w4 w5) := Lib.hid (by rw [hw5]; exact (Below.refl _ _).alloc (Nat.le_refl _) _)
 have HB35 : Hid (Below w3.heap.size w3 w5) := Lib.hid (HB34.out.trans (HA5.out.mono HB34.out.size))
 have HB5 : Hid (Below W.heap.size W w5) := Lib.hid (HB3.out.trans (HB35.out.mono HB3.out.size))
 have HZ5 : Hid (BC z [.slice (some ⟨g, 0, none⟩) (n + 1) (n + 1)] 39 w5) := Lib.hid (by rw [hw5, hz]; exact BC.new _ [.slice (some ⟨g, 0, none⟩) (n + 1) (n + 1)] 39 rfl)
 have HR5 := Lib.hid (HR4.out.below HA5.out)
 have HZX : Hid (g < z ∧ z < w5.heap.size) := Lib.hid ⟨by rw [hz]; exact HR4.out.lt, HZ5.out.lt⟩
 obtain ⟨x0, x1, x2, x3⟩ := HXB.out.below HB35.out (by rw [HSX.out.2]; exact Nat.lt_succ_self _)
 have c2 := (HC3.out.below HB35.out).cell (i := 2) rfl
 have HW5 := Lib.hid hw5
 have HZZ := Lib.hid hz
 rw [hw5] at x0 x1 x2 x3 c2
 clear hown hgrow hg hw5 hz c1
 gi_wp2_with fail
 rw [← HW5.out, ← HZZ.out]
 refine ⟨trivial, ?_⟩
 refine CallsIn.mono (callsIn_wide.2 (words_mk (F := F) (b := b) (cap := cap) (n := n))) ?_
 rintro e w6 ⟨rfl, hx6, hc6, hs6, hb6⟩
 obtain ⟨y, hy⟩ : ∃ y, w5.heap.size = y := ⟨_, rfl⟩
 rw [hy] at hx6 hc6 hs6 ⊢
 have HY : Hid (z < y) := Lib.hid (by rw [← hy]; exact HZX.out.2)
 have HX6 := Lib.hid hx6
 have HC6 := Lib.hid hc6
 have HS6 := Lib.hid hs6
 have HB56 := Lib.hid hb6
 have HZ6 := Lib.hid (HZ5.out.below hb6)
 have HR6 := Lib.hid (HR5.out.below hb6)
 have HB36 : Hid (Below w3.heap.size w3 w6) := Lib.hid (HB35.out.trans (hb6.mono HB35.out.size))
 have HB6 : Hid (Below W.heap.size W w6) := Lib.hid (HB5.out.trans (hb6.mono HB5.out.size))
 have HIT : Hid (IT F b cap n m G (y + 1) y ga cg (fun k => k = g) w6) := Lib.hid fun w' hw' => by
  have hbl : Below g w6 w' := hw'.below (by have := HS6.out; have := HY.out; have := HZX.out; omega) (fun k hk => by omega)
  have hxc : ∀ i, w'.cell? ⟨y, i, none⟩ = w6.cell? ⟨y, i, none⟩ := fun i => hw'.cell (p := ⟨y, i, none⟩) (show y < w6.heap.size by have := HS6.out; omega) (show ¬ y = g by have := HY.out; have := HZX.out; omega)
  have hz := HX6.out
  refine ⟨(hw'.cell (p := ⟨y + 1, 0, none⟩) (show y + 1 < w6.heap.size by have := HS6.out; omega) (show ¬ y + 1 = g by have := HY.out; have := HZX.out; omega)).trans HC6.out, ⟨(hxc 0).trans hz.1, (hxc 1).trans hz.2.1, (hxc 2).trans hz.2.2.1, (hxc 3).trans hz.2.2.2⟩, (HFA3.out.below HB36.out).bx hw' (by have := HFB.out; have := HGX.out; show ¬ b = g; omega), ?_⟩
  rw [show G.take m = G from by rw [← HGL.out]; exact List.take_length]
  exact HNG.out.below (HB6.out.trans (hbl.mono (by have := HSX.out.1; have := HGX.out; omega)))
 have HOK : Hid (OwOk (fun _ k => k = g) (fun (pre : List Wl) Wr => Row (cwL n (pre.map Prod.fst)) g Wr ∧ Bx (fun k => k = g) w6 Wr)) := Lib.hid ⟨fun s A k ⟨h1, h2⟩ hk => by
  subst hk
  exact ⟨_, _, _, h1.heap⟩, fun s A A' row _ _ _ k hk => hk⟩
 clear hx6 hc6 hs6 hb6 x0 x1 x2 x3 c2 hy
 gi_wp2_with fail
 refine Go.Sq.wpIn_rangeFunc_W (n := 3) rfl rfl (by decide) (gf := 86) (lb := #[.pointer (some ⟨y + 1, 0, none⟩), .pointer (some ⟨y, 0, none⟩)]) rfl trivial (enters_of Try.func86 (by kernel_rfl) rfl) (words_in (by omega) HMG.out m (by rw [HGL.out]; exact Nat.le_refl _) hm _ _ _ _ _ _ HIT.out _) (Below.refl _ _) (fun _ => rfl) (fun _ k => k = g)
  (fun (pre : List Wl) Wr => Row (cwL n (pre.map Prod.fst)) g Wr ∧ Bx (fun k => k = g) w6 Wr)
  (fun _ _ _ => False)
  (fun s A A' row ⟨h1, h2⟩ hg hr => by
   have hne : ∀ r, row = some r → r ≠ g := fun r e => by have := (hr r e).1; have := HS6.out; have := HY.out; have := HZX.out; omega
   refine ⟨own_bx2 h1 (S := fun q => some q = row) ⟨hg.os, hg.tape, hg.output, hg.size, fun q hq hs => hg.block q hq fun e => hs e⟩ (fun q hq hs => by injection hq with hq; have hq2 : g = q := hq; exact hne q hs.symm hq2.symm), ⟨hg.os.trans h2.os, hg.tape.trans h2.tape, hg.output.trans h2.output, Nat.le_trans h2.size hg.size, fun k hk hk2 => (hg.block k (Nat.lt_of_lt_of_le hk h2.size) fun e => by have := (hr k e.symm).1; omega).trans (h2.block k hk hk2)⟩⟩)
  (fun _ _ _ _ _ hs _ _ => hs)
  HOK.out (fun k _ e => e)
  (fun s x' A A' row hs he hg hr => he.grow hg hr (fun _ h => h))
  ⟨by rw [List.map_nil, cwL_nil]; exact HR6.out, Bx.refl _ _⟩ ?a1 ?assign ?body ?done ?stop
 case assign =>
  intro l x' A K hK
  gi_wp2
  exact hK
 case stop =>
  rintro D c pre A _ _ h _
  exact h.elim
 case body =>
  rintro l2 pre x' Wr hl2 ⟨h1, h2⟩ ⟨hvx, hrx, hox⟩ hlen
  have HRR := Lib.hid h1
  have HBX := Lib.hid h2
  have HVX := Lib.hid hvx
  have HLN := Lib.hid hlen
  have HNX : Hid (NN x'.1 Wr (.slice (some ⟨x'.2, 0, none⟩) n n)) := Lib.hid (by have := hrx.nn; rw [hvx.len] at this; exact this)
  obtain ⟨wx, hwx⟩ : ∃ wx, Hid (wtV x'.1 = wx) := ⟨_, Lib.hid rfl⟩
  have hwn : wx < n + 1 := by have := wtV_le x'.1; rw [hwx.out, hvx.len] at this; omega
  have hwi : (wx : Int) < (n : Int) + 1 := by omega
  obtain ⟨cx, hcx⟩ : ∃ cx, Hid ((cwL n (pre.map Prod.fst)).getD wx 0 = cx) := ⟨_, Lib.hid rfl⟩
  have hc4 : cx ≤ 4096 := by
   have h3 := cwL_le (n := n) (pre.map Prod.fst) hwn
   rw [hcx.out, List.length_map] at h3
   have h9 := HLN.out; have := HWL.out; omega
  have HCS : Hid (cwL n ((pre ++ [x']).map Prod.fst) = (cwL n (pre.map Prod.fst)).set wx (cx + 1)) := Lib.hid (by
   rw [List.map_append, show [x'].map Prod.fst = [x'.1] from rfl, cwL_snoc _ (by rw [hwx.out]; exact hwn), hwx.out, hcx.out])
  have HWT : Hid (∀ w', Below Wr.heap.size Wr w' → Calls Try.prog 61 #[.slice (some ⟨x'.2, 0, none⟩) n n] w' fun e w'' => e = .returned (.int .i64 (wx : Nat)) ∧ Below w'.heap.size w' w'') := Lib.hid fun w' hb' => by rw [← hwx.out]; exact weight_c HVX.out.len (by omega) (HNX.out.below hb')
  have hgz : g < Wr.heap.size ∧ z < Wr.heap.size := by have := h2.size; have := HS6.out; have := HY.out; have := HZX.out; omega
  have hcz : Wr.cell? ⟨z, 0, none⟩ = some (.slice (some ⟨g, 0, none⟩) (n + 1) (n + 1)) := (h2.cell (p := ⟨z, 0, none⟩) (show z < w6.heap.size by have := HS6.out; have := HY.out; omega) (show ¬ z = g by have := HZX.out; omega)).trans (HZ6.out.cell (i := 0) rfl)
  have hcw : Wr.cell? ⟨g, wx, none⟩ = some (.int .i64 (cx : Nat)) := by have := h1.cell (t := wx) (by rw [cwL_len]; exact hwn); rw [hcx.out] at this; exact this
  have hS7 : Wr.drew.cell? ⟨z, 0, none⟩ = some (.slice (some ⟨g, 0, none⟩) (n + 1) (n + 1)) ∧ Wr.drew.cell? ⟨g, wx, none⟩ = some (.int .i64 (cx : Nat)) ∧ Hid (Below Wr.heap.size Wr Wr.drew ∧ z < Wr.heap.size ∧ g < Wr.heap.size) := ⟨hcz, hcw, Lib.hid ⟨(Below.refl _ _).drew, hgz.2, hgz.1⟩⟩
  clear h1 h2 hvx hrx hox hlen hl2 hgz
  gi_wp2_with fail
  refine Go.Rg.in_region_yield (S := fun w' => w'.cell? ⟨z, 0, none⟩ = some (.slice (some ⟨g, 0, none⟩) (n + 1) (n + 1)) ∧ w'.cell? ⟨g, wx, none⟩ = some (.int .i64 (cx : Nat)) ∧ Hid (Below Wr.heap.size Wr w' ∧ z < Wr.heap.size ∧ g < Wr.heap.size)) (y := 7) (r := 1) (Rs := [[false, false, false, false, false, false, false], [false, true, false, false, false, false, false], [false, true, true, false, false, false, false], [true, true, true, false, false, false, false], [true, true, true, true, false, false, false], [true, true, true, true, true, false, false], [true, true, true, true, true, true, false], [true, true, true, true, true, true, true], [true, true, false, false, false, false, false], [true, false, false, false, false, false, false]]) (pre := #[⟨some 25,.load 39 (.tmp 6),39,"code.go:142",#[],none⟩, ⟨some 26,.move (.tmp 7),39,"code.go:142",#[],none⟩, ⟨some 27,.call ⟨.value (.func 61),#[.tmp 26],#[39]⟩,3,"code.go:142",#[⟨1,.data⟩],none⟩, ⟨some 28,.indexAddr 39 (.tmp 25) (.tmp 27),0,"code.go:142",#[⟨0,.data⟩,⟨2,.data⟩],none⟩, ⟨some 29,.load 3 (.tmp 28),3,"code.go:142",#[⟨3,.data⟩],none⟩, ⟨some 30,.binOp BinOp.add 3 (.tmp 29) (.const (Value.int IntKind.i64 1)) 3,3,"code.go:142",#[⟨4,.data⟩],none⟩, ⟨some 31,.indexAddr 39 (.tmp 25) (.tmp 27),0,"code.go:142",#[⟨0,.data⟩,⟨2,.data⟩,⟨0,.phase⟩,⟨1,.phase⟩,⟨2,.phase⟩,⟨3,.phase⟩,⟨4,.phase⟩,⟨5,.phase⟩],none⟩]) (.inr ⟨_, rfl⟩) (by kernel_rfl) (by kernel_rfl) (by kernel_rfl) (by with_reducible exact hS7) (fun hHeld => ?_)
  refine Rg.tk 0 ⟨some 25,.load 39 (.tmp 6),39,"code.go:142",#[],none⟩ ?_
  try simp only [Rg.gp]
  refine Rg.tk 1 ⟨some 26,.move (.tmp 7),39,"code.go:142",#[],none⟩ ?_
  try simp only [Rg.gp]
  refine Rg.rd1 2 ⟨some 27,.call ⟨.value (.func 61),#[.tmp 26],#[39]⟩,3,"code.go:142",#[⟨1,.data⟩],none⟩ fun K hK => ?_
  go_simp
  go_at_call 61
  with_reducible refine (HWT.out _ hHeld.2.2.out.1).mono ?_
  rintro e7 v7 ⟨rfl, hb7⟩
  refine hK.out _ _ ?_ (fun hHeld => ?_)
  ·(try dsimp only)
   exact ⟨(hb7.cell (p := ⟨z, 0, none⟩) (by have := hHeld.2.2.out; have := this.1.size; show z < _; omega)).trans hHeld.1, (hb7.cell (p := ⟨g, wx, none⟩) (by have := hHeld.2.2.out; have := this.1.size; show g < _; omega)).trans hHeld.2.1, Lib.hid ⟨hHeld.2.2.out.1.trans (hb7.mono hHeld.2.2.out.1.size), hHeld.2.2.out.2⟩⟩
  clear hK K
  try simp only [Rg.gp]
  refine Rg.tk 3 ⟨some 28,.indexAddr 39 (.tmp 25) (.tmp 27),0,"code.go:142",#[⟨0,.data⟩,⟨2,.data⟩],none⟩ ?_
  try simp only [Rg.gp]
  refine Rg.tk 4 ⟨some 29,.load 3 (.tmp 28),3,"code.go:142",#[⟨3,.data⟩],none⟩ ?_
  try simp only [Rg.gp]
  refine Rg.tk 5 ⟨some 30,.binOp BinOp.add 3 (.tmp 29) (.const (Value.int IntKind.i64 1)) 3,3,"code.go:142",#[⟨4,.data⟩],none⟩ ?_
  try simp only [Rg.gp]
  refine Rg.tk 6 ⟨some 31,.indexAddr 39 (.tmp 25) (.tmp 27),0,"code.go:142",#[⟨0,.data⟩,⟨2,.data⟩,⟨0,.phase⟩,⟨1,.phase⟩,⟨2,.phase⟩,⟨3,.phase⟩,⟨4,.phase⟩,⟨5,.phase⟩],none⟩ ?_
  try simp only [Rg.gp]
  refine wpAnyH_done (by kernel_rfl) ?_ _
  have HB7 : Hid (Below Wr.heap.size Wr v7) := Lib.hid hHeld.2.2.out.1
  have HR7 := Lib.hid (HRR.out.below HB7.out)
  have hcc := hHeld.2.1
  have hff := HR7.out.frozen wx
  refine Go.Rg.last_step (i := 7) (o := ⟨none,.store 3 (.tmp 31) (.tmp 30),0,"code.go:142",#[⟨6,.data⟩,⟨5,.data⟩,⟨2,.chain⟩,⟨0,.phase⟩,⟨1,.phase⟩,⟨2,.phase⟩,⟨3,.phase⟩,⟨4,.phase⟩,⟨5,.phase⟩],none⟩) (by kernel_rfl) rfl rfl (Go.Rg.oper_pre (.inr ⟨_, rfl⟩) (fun c e => by cases e) (T := fun _ _ => True) ?_)
  clear hS7
  go_simp
  refine Go.Rg.last_done (by kernel_rfl) ?_
  have HR8 := HR7.out.set wx (cx + 1)
  rw [← HCS.out] at HR8
  have hwr : IntKind.i64.wrap ((cx : Int) + 1) = ((cx + 1 : Nat) : Int) := (Go.IntWalk.i64_in _ (by omega)).trans (by omega)
  rw [hwr]
  have hb8 : Bx (fun k => k = g) v7 (v7.setCell ⟨g, wx, none⟩ (.int .i64 ((cx + 1 : Nat) : Int))) := Bx.set (S := fun k => k = g) rfl _
  have hb9 : Bx (fun k => k = g) Wr (v7.setCell ⟨g, wx, none⟩ (.int .i64 ((cx + 1 : Nat) : Int))) := Bx.trans (Bx.of HB7.out) hb8
  refine ⟨?_, HR8, HBX.out.trans hb9⟩
  exact ⟨hb9.os, hb9.tape, hb9.output, hb9.size, hb9.block, fun k hk => .inl hk⟩
 case done =>
  rintro D ys A hD hys ⟨h1, h2⟩ hK
  rw [hys] at h1
  have HR9 := Lib.hid h1
  have HB9 := Lib.hid h2
  have hcz : A.cell? ⟨z, 0, none⟩ = some (.slice (some ⟨g, 0, none⟩) (n + 1) (n + 1)) := (h2.cell (p := ⟨z, 0, none⟩) (show z < w6.heap.size by have := HS6.out; have := HY.out; omega) (show ¬ z = g by have := HZX.out; omega)).trans (HZ6.out.cell (i := 0) rfl)
  have HKD := Lib.hid hK
  have HDD := Lib.hid hD
  clear h1 h2 hys hK hD
  gi_wp2
  refine ⟨by simp, .inl ⟨_, _, rfl, run_takeDeferred HKD.out, ?_⟩⟩
  have hg : A.grownBy (A.putObj D (.deferred none)) (some D) := grownBy_putObj' _ _ _
  have hgD : g ≠ D := by have := HDD.out; have := HS6.out; have := HY.out; have := HZX.out; omega
  refine ⟨_, results_tmp2 rfl _ _ _, ⟨g, by have := HSX.out.1; have := HGX.out; omega, rfl, own_bx2 HR9.out (S := fun q => some q = some D) ⟨hg.os, hg.tape, hg.output, hg.size, fun q hq hs => hg.block q hq fun e => hs e⟩ (fun q hq hs => by injection hq with hq; have hq2 : g = q := hq; injection hs with hs; exact hgD (hq2.trans hs)), ?_⟩⟩
  have hbb : Below g w6 A := HB9.out.below (by have := HS6.out; have := HY.out; have := HZX.out; omega) (fun k hk => by omega)
  have hba : Below W.heap.size W A := HB6.out.trans (hbb.mono (by have := HSX.out.1; have := HGX.out; omega))
  exact hba.grown hg hba.size (fun k hk => by injection hk with hk; have := HDD.out; have := HB6.out.size; omega)

end Go.Proofs.Ytdafhhojiioifaa
