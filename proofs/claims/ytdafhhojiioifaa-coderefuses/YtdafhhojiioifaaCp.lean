/- Multiples of a word; the words in the order of their messages. -/
import Derived.Test.YtdafhhojiioifaaCl
import Derived.Test.YtdafhhojiioifaaEvRq
import Derived.Test.YtdafhhojiioifaaEvRm
import Derived.RangeFuncNested
import Derived.RangeFuncBound
import Derived.RangeFuncCalls
import Derived.RangeFuncLeaves
import Derived.RangeFuncFrom
import Derived.Shelf.Abstract
import Derived.Shelf.RegionOpen
import Derived.OwnWalkIn
import Derived.TacticsInMore
import Derived.LoopNIn
import Derived.LoopIn
namespace Go.Proofs.Ytdafhhojiioifaa
open Go.RowKit Go.Fl
set_option maxRecDepth 100000
set_option linter.unusedVariables false
set_option linter.unusedSimpArgs false
set_option linter.unusedSectionVars false

def muK (F : Gf) (X : List Nat) (k : Nat) : List (List Nat) := (List.range k).map fun a => tiV F a X
theorem muK_succ (F : Gf) (X : List Nat) (k : Nat) : muK F X (k + 1) = muK F X k ++ [tiV F k X] := by unfold muK; rw [List.range_succ, List.map_append]; rfl
theorem muK_len (F : Gf) (X : List Nat) (k : Nat) : (muK F X k).length = k := by simp [muK]
theorem muK_at {F : Gf} {X : List Nat} {k t : Nat} (h : t < k) : (muK F X k).getD t [] = tiV F t X := range_get' _ h
/-- the rows lie in new blocks, too -/
def RLn (R : List (List Nat)) (W : World) (e : Ending) (w' : World) : Prop := ∃ us a c, e = .returned (.slice a R.length c) ∧ OL R us W.heap.size w' (.slice a R.length c) ∧ (∀ i, i < R.length → ∀ k, (us.getD i undef).ownBlock = some k → W.heap.size ≤ k) ∧ Below W.heap.size W w'
set_option maxHeartbeats 3200000 in
theorem multiples_c {F : Gf} {b cap n cx : Nat} {X : List Nat} {ax : Option Addr} {W : World} (hA : FldAt F b cap W) (hn : n ≤ 1000) (mx : Vn F n X) (nx : NN X W (.slice ax n cx)) :
  Calls Try.prog 87 #[XV F b cap n, .slice ax n cx] W (RLn (muK F X F.q) W) := by
 obtain ⟨j0, ji, jz0, jz1, jz2⟩ := info_parts info22
 obtain ⟨W0, hW0, hB0, hS, hX⟩ := set_head (F := F) (b := b) (cap := cap) (n := n) (W := W)
 have HB0 := Lib.hid hB0
 have HS0 := Lib.hid hS
 have HXB := Lib.hid hX
 have HA0 := Lib.hid (hA.below hB0)
 have HNX := Lib.hid (nx.below hB0)
 have HMX := Lib.hid mx
 have hq6 : F.q ≤ 64 := (fd_small F hA.mem).2.2.2.2.2.1
 have HSZ : Hid (Calls Try.prog 80 #[FV F b cap] W0 fun e w' => e = .returned (.int .i64 (F.q : Nat)) ∧ Below W0.heap.size W0 w') := Lib.hid (size_c hA.mem)
 obtain ⟨q, hqq⟩ : ∃ q, Hid (F.q = q) := ⟨_, Lib.hid rfl⟩
 rw [hqq.out] at HSZ hq6 ⊢
 have HW0 := Lib.hid hW0
 obtain ⟨x0, x1, x2, x3⟩ := HXB.out
 clear hW0 hB0 hS hX hA nx mx
 go_enter Try.func87, Try.ntmps87
 go_wp2_with fail
 rw [HW0.out]
 go_wp2_with fail
 with_reducible refine HSZ.out.mono ?_
 rintro e w1 ⟨rfl, hb1⟩
 have HB1 := Lib.hid hb1
 clear hb1 HSZ x0 x1 x2 x3
 go_wp2
 go_loopw [5, 10] (fun v i wr => ∃ k : Nat, k ≤ q ∧ i = .int .i64 k ∧ (∃ us a c, v = .slice a k c ∧ Hid (OL (muK F X k) us W0.heap.size wr (.slice a k c)) ∧ Hid (∀ i, i < k → ∀ t, (us.getD i undef).ownBlock = some t → W0.heap.size ≤ t)) ∧ Hid (Below W0.heap.size W0 wr)) (fun _ i _ => q - (intOf i).toNat)
 case atStart => exact ⟨0, Nat.zero_le _, rfl, ⟨[], none, 0, rfl, OL.emp _ _, Lib.hid fun i hi => absurd hi (by omega)⟩, HB1⟩
 case round =>
  obtain ⟨k, hk, rfl, ⟨us, a1, c1, rfl, KO, KN⟩, KB⟩ := hrel
  by_cases hlt : k < q
  ·have HT : Hid (Calls Try.prog 58 #[XV F b cap n, .int .i64 (k : Nat), .slice ax n cx] wr (RPost (tiV F k X) wr)) := Lib.hid (times_c (HA0.out.below KB.out) hn HMX.out (by rw [hqq.out]; exact hlt) (HNX.out.below KB.out))
   have HL : Hid ((tiV F k X).length = n) := Lib.hid (by rw [tiV_len, HMX.out.len])
   obtain ⟨x0, x1, x2, x3⟩ := HXB.out.below KB.out HS0.out
   go_wp2_with fail
   with_reducible refine HT.out.mono ?_
   rintro e w3 ⟨g, hg, rfl, hr, hb⟩
   rw [HL.out]
   have HR3 : Hid (w3.ownsRow 0 3 1 (.slice (some ⟨g, 0, none⟩) n n) n ((tiV F k X).map N64)) := Lib.hid (by unfold Row at hr; rw [HL.out] at hr; exact hr)
   have KO3 := Lib.hid (KO.out.below hb)
   have KB3 := Lib.hid (KB.out.trans (hb.mono KB.out.size))
   have HG : Hid (W0.heap.size ≤ g) := Lib.hid (Nat.le_trans KB.out.size hg)
   clear hg hr hb HT x0 x1 x2 x3
   go_wp2_with (at_builtin; refine wpList_append_own _ rfl _ _ 22 rfl W0.heap.size 39 j0 (.slice none 0 0) 1 24 Try.underlying22 ji jz0 jz1 jz2 rfl (by decide) (.slice a1 k c1) k us rfl (by have := KO3.out.own.alloc (.cells #[.slice (some ⟨g, 0, none⟩) n n] 39); rw [muK_len] at this; exact this) ⟨w3.heap.size, 0, none⟩ 1 1 [.slice (some ⟨g, 0, none⟩) n n] rfl rfl (cell_one_new _ _ _) (fun u hu => by simp at hu; subst hu; rfl) ?d3 ?d4 ?d5 ?_)
   case d3 => unfold maxLen; omega
   case d4 => omega
   case d5 => have := KB3.out.size; simp; omega
   intro v' w7 hown' hgrow hnil
   have hal2 : Below w3.heap.size w3 (w3.alloc (.cells #[.slice (some ⟨g, 0, none⟩) n n] 39)) := (Below.refl _ _).alloc (Nat.le_refl _) _
   have HO7 : Hid (OL (muK F X (k + 1)) (us ++ [.slice (some ⟨g, 0, none⟩) n n]) W0.heap.size w7 v') := Lib.hid (by
    rw [muK_succ]
    exact OL.push (KO3.out.below hal2) (by rw [HL.out]; exact own_belowK HR3.out hal2) (by rw [muK_len]) hown' hgrow)
   have HB7 : Hid (Below W0.heap.size W0 w7) := Lib.hid ((KB3.out.trans (hal2.mono KB3.out.size)).trans (OL.grown (m := 0) (xs := []) (KO3.out.below hal2) (Nat.le_trans KB3.out.size hal2.size) hgrow))
   obtain ⟨a7, c7, hv7⟩ := HO7.out.shape
   rw [muK_len] at hv7
   subst hv7
   have HN7 : Hid (∀ i, i < k + 1 → ∀ t, ((us ++ [Value.slice (some ⟨g, 0, none⟩) n n]).getD i undef).ownBlock = some t → W0.heap.size ≤ t) := Lib.hid fun i hi t ht => by
    rw [getD_snoc, KO3.out.ulen, muK_len] at ht
    by_cases e : i < k
    ·rw [if_pos e] at ht; exact KN.out i e t ht
    ·rw [if_neg e, if_pos (by omega)] at ht
     have ht2 : some g = some t := ht
     injection ht2 with ht2
     rw [← ht2]; exact HG.out
   clear hown' hgrow hnil hal2
   go_wp2
   go_roundw
   case rel => exact ⟨k + 1, by omega, by go_num, ⟨_, a7, c7, rfl, HO7, HN7⟩, HB7⟩
   case measure => simp [intOf]; omega
  ·obtain rfl : k = q := by omega
   have hlt1 : ¬ (k : Int) < (k : Int) := by omega
   have HBF := Lib.hid (HB0.out.trans (KB.out.mono HB0.out.size))
   have HOF := Lib.hid (KO.out.weak HB0.out.size)
   go_wp2
   go_ret
   exact ⟨us, a1, c1, by rw [muK_len]; rfl, by rw [muK_len]; exact HOF.out, fun i hi t ht => Nat.le_trans HB0.out.size (KN.out i (by rw [muK_len] at hi; exact hi) t ht), HBF.out⟩
theorem words_mk {F : Gf} {b cap n l c : Nat} {a : Option Addr} {W : World} : Calls Try.prog 69 #[XV F b cap n, .slice a l c] W fun e w' => e = .returned (.func (.func 86) #[] #[.pointer (some ⟨W.heap.size + 1, 0, none⟩), .pointer (some ⟨W.heap.size, 0, none⟩)]) ∧ XB W.heap.size F b cap n w' ∧ w'.cell? ⟨W.heap.size + 1, 0, none⟩ = some (.slice a l c) ∧ w'.heap.size = W.heap.size + 2 ∧ Below W.heap.size W w' := by
 go_enter Try.func69, Try.ntmps69
 go_wp2
 refine bodyPost_ret (v := .func (.func 86) #[] #[.pointer (some ⟨W.heap.size + 1, 0, none⟩), .pointer (some ⟨W.heap.size, 0, none⟩)]) (by simp [results, Try.results69, go_sem]) rfl ⟨rfl, ?_, ?_, ?_, ?_⟩
 ·exact (xb_new W rfl).below ((Below.refl (W.heap.size + 1) _).alloc (by simp) _) (Nat.lt_succ_self _)
 ·exact World.cell?_alloc_at _ _ _ _ (by simp)
 ·simp
 ·exact ((Below.refl _ _).alloc (Nat.le_refl _) _).alloc (by simp) _
/-- the words that the first k rows make, in the order of their messages -/
def wdK (F : Gf) (n : Nat) (G : List (List Nat)) : Nat → List (List Nat)
 | 0 => [List.replicate n 0]
 | k + 1 => (wdK F n G k).flatMap fun w => (muK F (G.getD k []) F.q).map fun m => plV F w m
theorem wdK_len (F : Gf) (n : Nat) (G : List (List Nat)) : ∀ k, (wdK F n G k).length = F.q ^ k
 | 0 => rfl
 | k + 1 => by
  show (List.flatMap _ _).length = _
  rw [List.length_flatMap, Nat.pow_succ, ← wdK_len F n G k]
  induction wdK F n G k with
  | nil => simp
  | cons w l ih => rw [List.map_cons, List.sum_cons, ih, List.length_cons, List.length_map, muK_len, Nat.succ_mul]; omega
theorem wdK_mn {F : Gf} (hF : Ok F) {n : Nat} {G : List (List Nat)} : ∀ k, Mn F n (wdK F n G k)
 | 0 => fun r hr => by
  rw [show r = List.replicate n 0 from List.mem_singleton.1 hr]
  exact ⟨by simp, fun x hx => by rw [List.eq_of_mem_replicate hx]; exact hF.zero_lt⟩
 | k + 1 => fun r hr => by
  obtain ⟨w, hw, h⟩ := List.mem_flatMap.1 hr
  obtain ⟨m, _, rfl⟩ := List.mem_map.1 h
  exact plV_vn hF (wdK_mn hF k w hw)

end Go.Proofs.Ytdafhhojiioifaa

/- The iterator of words. -/
namespace Go.Proofs.Ytdafhhojiioifaa
open Go.RowKit Go.Fl
set_option maxRecDepth 100000
set_option linter.unusedVariables false
set_option linter.unusedSimpArgs false
set_option linter.unusedSectionVars false

open Go.Sq Go.Shelf
attribute [local go_sem] Oper.semAt_some
theorem rep_vn {F : Gf} (hF : Ok F) (n : Nat) : Vn F n (List.replicate n 0) := ⟨by simp, fun x hx => by rw [List.eq_of_mem_replicate hx]; exact hF.zero_lt⟩
abbrev Wl : Type := List Nat × Nat
abbrev encW (n : Nat) (x : Wl) : Array Value := #[.slice (some ⟨x.2, 0, none⟩) n n]
def EW (F : Gf) (n : Nat) (Ow : World → Nat → Prop) (x : Wl) (W : World) : Prop := Vn F n x.1 ∧ Row x.1 x.2 W ∧ ¬ Ow W x.2
/-- what the iterator reads, as long as only blocks of X change -/
structure ITf (F : Gf) (b cap n k : Nat) (G : List (List Nat)) (gr gs : Nat) (ga : Option Addr) (cg : Nat) (w : World) : Prop where
 rb : w.cell? ⟨gr, 0, none⟩ = some (.slice ga k cg)
 xb : XB gs F b cap n w
 fa : FldAt F b cap w
 mm : MM (G.take k) w (.slice ga k cg)
def IT (F : Gf) (b cap n k : Nat) (G : List (List Nat)) (gr gs : Nat) (ga : Option Addr) (cg : Nat) (X : Nat → Prop) (w : World) : Prop := ∀ w', Bx X w w' → ITf F b cap n k G gr gs ga cg w'
abbrev PY (W0 : World) (gs : Nat) (F : Gf) (b cap n gy l : Nat) (w : World) : Prop := w.cell? ⟨gy, 0, none⟩ = some (.func (.yield l) #[] #[]) ∧ XB gs F b cap n w ∧ Hid (Below W0.heap.size W0 w ∧ gy < W0.heap.size ∧ gs < W0.heap.size)
theorem PY.go {W0 : World} {gs : Nat} {F : Gf} {b cap n gy l : Nat} {w w' : World} (h : PY W0 gs F b cap n gy l w) (hb : Below W0.heap.size w w') : PY W0 gs F b cap n gy l w' :=
 ⟨(hb.cell (p := ⟨gy, 0, none⟩) h.2.2.out.2.1).trans h.1, h.2.1.below hb h.2.2.out.2.2, Lib.hid ⟨h.2.2.out.1.trans hb, h.2.2.out.2⟩⟩
set_option maxHeartbeats 3200000 in
theorem words_in0 {F : Gf} {b cap n : Nat} {G : List (List Nat)} {gr gs : Nat} {ga : Option Addr} {cg : Nat} {X : Nat → Prop} {w : World} (hn : n ≤ 100) (hI : IT F b cap n 0 G gr gs ga cg X w) (nf : Nat) :
  SeqW Fence.wide nf Try.prog 86 #[.pointer (some ⟨gr, 0, none⟩), .pointer (some ⟨gs, 0, none⟩)] (encW n) (EW F n) X (fun ys => ys.map Prod.fst = wdK F n G 0) (fun pre => pre.map Prod.fst <+: wdK F n G 0) (wdK F n G 0).length w := by
 intro l Ow J Jx W hb hJ hJx hO hX hY h0
 refine callsIn_wide.2 ((callsIn_wide (n := 3)).1 ?_)
 refine callsIn_of_wp Try.func86 rfl trivial ?_ rfl
 have hal : Below W.heap.size W (W.alloc (.cells #[.func (.yield l) #[] #[]] 81)) := (Below.refl _ _).alloc (Nat.le_refl _) _
 have hb0 : Below w.heap.size w (W.alloc (.cells #[.func (.yield l) #[] #[]] 81)) := hb.trans (hal.mono hb.size)
 obtain ⟨c1, hxb, hfa, hmm⟩ := hI _ ⟨hb0.os, hb0.tape, hb0.output, hb0.size, fun k hk _ => hb0.block k hk⟩
 have HGS : Hid (gs < (W.alloc (.cells #[.func (.yield l) #[] #[]] 81)).heap.size) := Lib.hid (World.block_lt_of_cell? _ _ hxb.1)
 have HFF : Hid (Ok F) := Lib.hid (ok_mem hfa.mem)
 have HXB := Lib.hid hxb
 obtain ⟨x0, x1, x2, x3⟩ := hxb
 have y0 : (W.alloc (.cells #[.func (.yield l) #[] #[]] 81)).cell? ⟨W.heap.size, 0, none⟩ = some (.func (.yield l) #[] #[]) := World.cell?_alloc_at _ _ _ _ rfl
 have HZ : Hid (∀ w, Calls Try.prog 56 #[XV F b cap n] w (RPost (List.replicate n 0) w)) := Lib.hid fun w => zero_c (by omega)
 simp only [Try.ntmps86, List.size_toArray, List.length_cons, List.length_nil, Nat.reduceAdd, Nat.reduceSub, Array.replicate_succ, Array.replicate_zero, List.push_toArray, List.append_toArray, List.nil_append, List.cons_append]
 have HY := Lib.hid hY
 have HJ := Lib.hid hJ
 have HO := Lib.hid hO
 have H0 := Lib.hid h0
 obtain ⟨W0, hW0⟩ : ∃ W0, W0 = W.alloc (.cells #[.func (.yield l) #[] #[]] 81) := ⟨_, rfl⟩
 have HW0 := Lib.hid hW0
 rw [← hW0] at HXB HGS
 have hAL : Hid (Below W.heap.size W W0) := Lib.hid (by rw [hW0]; exact hal)
 have hS0 : PY W0 gs F b cap n W.heap.size l W0.drew := ⟨by rw [hW0]; exact y0, HXB.out, Lib.hid ⟨(Below.refl _ _).drew, by rw [hW0]; simp, HGS.out⟩⟩
 clear hY hJ hJx hO hX h0 hmm hW0 hal hb0 hb hI hfa
 gi_wp2_with fail
 rw [← HW0.out]
 clear x0 x1 x2 x3 y0 c1
 refine Go.Rg.in_region_yield (S := fun w' => PY W0 gs F b cap n W.heap.size l w') (y := 3) (r := 1) (Rs := [[false, false, false], [false, true, false], [false, true, true], [true, true, true], [true, true, false], [true, false, false]]) (pre := #[⟨some 14,.load 81 (.tmp 3),81,"space.go:167",#[],none⟩, ⟨some 15,.load 73 (.tmp 2),73,"space.go:167",#[],none⟩, ⟨some 16,.call ⟨.value (.func 56),#[.tmp 15],#[73]⟩,39,"space.go:167",#[⟨1,.data⟩],none⟩]) (.inl rfl) (by kernel_rfl) (by kernel_rfl) (by kernel_rfl) (by with_reducible exact hS0) (fun hHeld => ?_)
 refine Rg.tk 0 ⟨some 14,.load 81 (.tmp 3),81,"space.go:167",#[],none⟩ ?_
 try simp only [Rg.gp]
 refine Rg.tk 1 ⟨some 15,.load 73 (.tmp 2),73,"space.go:167",#[],none⟩ ?_
 try simp only [Rg.gp]
 refine Rg.rd1 2 ⟨some 16,.call ⟨.value (.func 56),#[.tmp 15],#[73]⟩,39,"space.go:167",#[⟨1,.data⟩],none⟩ fun K hK => ?_
 go_simp
 go_at_call 56
 with_reducible refine (HZ.out _).mono ?_
 rintro z v1 ⟨g, hg, rfl, hr1, hb3⟩
 rw [List.length_replicate]
 refine hK.out _ _ ?_ (fun hHeld => ?_)
 ·(try dsimp only)
  exact PY.go hHeld (hb3.mono hHeld.2.2.out.1.size)
 clear hK K
 try simp only [Rg.gp]
 refine wpAnyH_done (by kernel_rfl) ?_ _
 have HB3 := Lib.hid (hAL.out.trans (hHeld.2.2.out.1.mono hAL.out.size))
 have HJ3 : Hid (J [] v1) := Lib.hid (HJ.out [] W v1 none H0.out (below_none HB3.out) (fun r e => by cases e))
 have HE3 : Hid (EW F n Ow (List.replicate n 0, g) v1) := Lib.hid ⟨rep_vn HFF.out n, hr1, fun e => by
  have h1 := HO.out.mono [] W v1 none H0.out (below_none HB3.out) (fun r e => by cases e) g e
  have h2 := HO.out.lt H0.out h1
  have h3 := hHeld.2.2.out.1.size
  have h4 := hAL.out.size
  have h5 := hb3.size
  exact absurd hg (by show ¬ W0.heap.size ≤ g; omega)⟩
 have hY := HY.out 3 [] (List.replicate n 0, g) v1 HJ3.out HE3.out (by show 0 < 1; omega)
 refine Go.Rg.last_step (i := 3) (o := ⟨some 17,.call ⟨.value (.tmp 14),#[.tmp 16],#[39]⟩,4,"space.go:167",#[⟨0,.data⟩,⟨2,.data⟩,⟨2,.chain⟩],none⟩) (by kernel_rfl) rfl rfl ?_
 refine Go.Rg.yield_step (.inl rfl) rfl rfl rfl hY ?_
 rintro e w5 (⟨rfl, hj, hk⟩ | ⟨rfl, hj, hk⟩)
 ·refine ⟨_, rfl, Go.Rg.last_done (by kernel_rfl) ?_⟩
  have HJ5 := Lib.hid hj
  clear hHeld hS0 hY hj hk hr1 hg hb3
  gi_wp2
  refine bodyPost_ret (results_none rfl _ _ _) rfl ?_
  exact ⟨⟨_, rfl⟩, .inl ⟨_, rfl, HJ5.out⟩⟩
 ·refine ⟨_, rfl, Go.Rg.last_done (by kernel_rfl) ?_⟩
  have HJ5 := Lib.hid hj
  clear hHeld hS0 hY hj hk hr1 hg hb3
  gi_wp2
  refine bodyPost_ret (results_none rfl _ _ _) rfl ?_
  exact ⟨⟨_, rfl⟩, .inr ⟨_, List.prefix_refl _, HJ5.out⟩⟩

end Go.Proofs.Ytdafhhojiioifaa

/- The iterator of words, with rows. -/
namespace Go.Proofs.Ytdafhhojiioifaa
open Go.RowKit Go.Fl
set_option maxRecDepth 100000
set_option linter.unusedVariables false
set_option linter.unusedSimpArgs false
set_option linter.unusedSectionVars false

open Go.Sq Go.Shelf
attribute [local go_sem] Oper.semAt_some
/-- what the first region reads -/
abbrev PZ (W0 : World) (gs : Nat) (F : Gf) (b cap n gr : Nat) (vr : Value) (bg ok : Nat) (vk : Value) (w : World) : Prop := w.cell? ⟨gr, 0, none⟩ = some vr ∧ w.cell? ⟨bg, ok, none⟩ = some vk ∧ XB gs F b cap n w ∧ Hid (Below W0.heap.size W0 w ∧ gr < W0.heap.size ∧ bg < W0.heap.size ∧ gs < W0.heap.size)
theorem PZ.go {W0 : World} {gs : Nat} {F : Gf} {b cap n gr : Nat} {vr : Value} {bg ok : Nat} {vk : Value} {w w' : World} (h : PZ W0 gs F b cap n gr vr bg ok vk w) (hb : Below W0.heap.size w w') : PZ W0 gs F b cap n gr vr bg ok vk w' :=
 ⟨(hb.cell (p := ⟨gr, 0, none⟩) h.2.2.2.out.2.1).trans h.1, (hb.cell (p := ⟨bg, ok, none⟩) h.2.2.2.out.2.2.1).trans h.2.1, h.2.2.1.below hb h.2.2.2.out.2.2.2, Lib.hid ⟨h.2.2.2.out.1.trans hb, h.2.2.2.out.2⟩⟩
def flW (F : Gf) (X : List Nat) (L : List (List Nat)) : List (List Nat) := L.flatMap fun w => (muK F X F.q).map fun m => plV F w m
theorem flW_len (F : Gf) (X : List Nat) : ∀ L, (flW F X L).length = L.length * F.q
 | [] => by simp [flW]
 | w :: L => by
  have := flW_len F X L
  unfold flW at this ⊢
  rw [List.flatMap_cons, List.length_append, this, List.length_map, muK_len, List.length_cons, Nat.succ_mul]; omega
theorem flW_snoc (F : Gf) (X : List Nat) (L : List (List Nat)) (w : List Nat) : flW F X (L ++ [w]) = flW F X L ++ (muK F X F.q).map fun m => plV F w m := by unfold flW; rw [List.flatMap_append]; simp
theorem flW_pre {F : Gf} {X : List Nat} {L M : List (List Nat)} (h : L <+: M) : flW F X L <+: flW F X M := by
 obtain ⟨t, rfl⟩ := h
 unfold flW
 rw [List.flatMap_append]
 exact List.prefix_append _ _
set_option maxHeartbeats 6400000 in
theorem words_inS {F : Gf} {b cap n k : Nat} {G : List (List Nat)}
  (IH : ∀ (gr gs : Nat) (ga : Option Addr) (cg : Nat) (X : Nat → Prop) (w : World), IT F b cap n k G gr gs ga cg X w → ∀ nf, SeqW Fence.wide nf Try.prog 86 #[.pointer (some ⟨gr, 0, none⟩), .pointer (some ⟨gs, 0, none⟩)] (encW n) (EW F n) X (fun ys => ys.map Prod.fst = wdK F n G k) (fun pre => pre.map Prod.fst <+: wdK F n G k) (wdK F n G k).length w)
  {gr gs : Nat} {ga : Option Addr} {cg : Nat} {X : Nat → Prop} {w : World} (hn : n ≤ 100) (hG : Mn F n G) (hk : k < G.length) (hk5 : k ≤ 1000) (hI : IT F b cap n (k + 1) G gr gs ga cg X w) (nf : Nat) :
  SeqW Fence.wide nf Try.prog 86 #[.pointer (some ⟨gr, 0, none⟩), .pointer (some ⟨gs, 0, none⟩)] (encW n) (EW F n) X (fun ys => ys.map Prod.fst = wdK F n G (k + 1)) (fun pre => pre.map Prod.fst <+: wdK F n G (k + 1)) (wdK F n G (k + 1)).length w := by
 intro l Ow J Jx W hb hJ hJx hO hX hY h0
 refine callsIn_wide.2 ((callsIn_wide (n := 3)).1 ?_)
 refine callsIn_of_wp_marks Try.func86 rfl trivial ?_ rfl
 have hal : Below W.heap.size W (W.alloc (.cells #[.func (.yield l) #[] #[]] 81)) := (Below.refl _ _).alloc (Nat.le_refl _) _
 have hb0 : Below w.heap.size w (W.alloc (.cells #[.func (.yield l) #[] #[]] 81)) := hb.trans (hal.mono hb.size)
 obtain ⟨c1, hxb, hfa, hmm⟩ := hI _ ⟨hb0.os, hb0.tape, hb0.output, hb0.size, fun k hk _ => hb0.block k hk⟩
 have HGS : Hid (gs < (W.alloc (.cells #[.func (.yield l) #[] #[]] 81)).heap.size) := Lib.hid (World.block_lt_of_cell? _ _ hxb.1)
 have HGR : Hid (gr < (W.alloc (.cells #[.func (.yield l) #[] #[]] 81)).heap.size) := Lib.hid (World.block_lt_of_cell? _ _ c1)
 have HFF : Hid (Ok F) := Lib.hid (ok_mem hfa.mem)
 have HFA := Lib.hid hfa
 have HXB := Lib.hid hxb
 have HT1 : Hid ((G.take (k + 1)).length = k + 1) := Lib.hid (by rw [List.length_take]; omega)
 have HTG : Hid ((G.take (k + 1)).getD k [] = G.getD k []) := Lib.hid (by simp [List.getD_eq_getElem?_getD, List.getElem?_take])
 have HVG : Hid (Vn F n (G.getD k [])) := Lib.hid (mrow hG hk)
 obtain ⟨bg, og, hga, ar, cr, hcr, hnr⟩ := hmm.at' (n := n) (fun t ht => by
  rw [HT1.out] at ht
  have e2 : (G.take (k + 1)).getD t [] = G.getD t [] := by simp [List.getD_eq_getElem?_getD, List.getElem?_take, ht]
  rw [e2]; exact (mrow hG (by omega)).len) (Nat.lt_succ_self k)
 subst hga
 have hkcg : k + 1 ≤ cg := by
  rcases hmm with ⟨e, h⟩ | ⟨b', off', cap', h, g1, g2, g3⟩
  ·cases h
  ·injection h with h1 h2 h3; rw [HT1.out] at g1; omega
 rw [HTG.out] at hnr
 have HNR := Lib.hid hnr
 have HBG : Hid (bg < (W.alloc (.cells #[.func (.yield l) #[] #[]] 81)).heap.size) := Lib.hid (World.block_lt_of_cell? _ _ hcr)
 have HCR := Lib.hid hcr
 have HC1 := Lib.hid c1
 obtain ⟨x0, x1, x2, x3⟩ := hxb
 have y0 : (W.alloc (.cells #[.func (.yield l) #[] #[]] 81)).cell? ⟨W.heap.size, 0, none⟩ = some (.func (.yield l) #[] #[]) := World.cell?_alloc_at _ _ _ _ rfl
 simp only [Try.ntmps86, List.size_toArray, List.length_cons, List.length_nil, Nat.reduceAdd, Nat.reduceSub, Array.replicate_succ, Array.replicate_zero, List.push_toArray, List.append_toArray, List.nil_append, List.cons_append]
 have HY := Lib.hid hY
 have HJ := Lib.hid hJ
 have HJX := Lib.hid hJx
 have HO := Lib.hid hO
 have H0 := Lib.hid h0
 have HI := Lib.hid hI
 have HBW := Lib.hid hb
 have HXX := Lib.hid hX
 have HKG := Lib.hid hk
 have HMG := Lib.hid hG
 have HIH := Lib.hid IH
 obtain ⟨W0, hW0⟩ : ∃ W0, W0 = W.alloc (.cells #[.func (.yield l) #[] #[]] 81) := ⟨_, rfl⟩
 have HW0 := Lib.hid hW0
 rw [← hW0] at HXB HGS HGR HBG HFA HNR HCR HC1
 have hAL : Hid (Below W.heap.size W W0) := Lib.hid (by rw [hW0]; exact hal)
 have HY0 : Hid (W0.cell? ⟨W.heap.size, 0, none⟩ = some (.func (.yield l) #[] #[]) ∧ W.heap.size < W0.heap.size) := Lib.hid ⟨by rw [hW0]; exact y0, by rw [hW0]; simp⟩
 have hS4 : PZ W0 gs F b cap n gr (.slice (some ⟨bg, og, none⟩) (k + 1) cg) bg (og + k) (.slice ar n cr) W0.drew := ⟨HC1.out, HCR.out, HXB.out, Lib.hid ⟨(Below.refl _ _).drew, HGR.out, HBG.out, HGS.out⟩⟩
 have HKC : Hid (k + 1 ≤ cg) := Lib.hid hkcg
 have hk1 : ((k + 1 : Nat) : Int) - 1 = (k : Int) := by omega
 have hk3 : (k : Int) < (k : Int) + 1 := by omega
 have hk2 : ¬ (k : Int) < 0 := by omega
 clear hY hJ hJx hO hX h0 hmm hW0 hal hb0 hb hI hfa hnr IH hG hk hkcg
 gi_wp2_with fail
 rw [← HW0.out]
 clear x0 x1 x2 x3 y0 c1 hcr
 refine Go.Rg.share5 (H := fun (xm : Nat) (us : List Value) (a1 : Option Addr) (c1 : Nat) (w5 : World) => (w5.cell? ⟨xm, 0, none⟩ = some (.slice a1 F.q c1) ∧ W0.heap.size ≤ xm ∧ xm < w5.heap.size) ∧ OL (muK F (G.getD k []) F.q) us W0.heap.size w5 (.slice a1 F.q c1) ∧ (∀ i, i < F.q → ∀ k, (us.getD i undef).ownBlock = some k → W0.heap.size ≤ k) ∧ Below W0.heap.size W0 w5) (T := ?T) (fun hrest => ?ways) ?rest
 case ways =>
  refine Go.Rg.in_region_yield (S := fun w' => PZ W0 gs F b cap n gr (.slice (some ⟨bg, og, none⟩) (k + 1) cg) bg (og + k) (.slice ar n cr) w') (y := 8) (r := 0) (Rs := [[false, false, false, false, false, false, false, false], [false, false, false, false, false, false, true, false], [false, false, true, false, false, false, true, false], [false, true, true, false, false, false, true, false], [false, true, true, true, false, false, true, false], [false, true, true, true, true, false, true, false], [true, true, true, true, true, false, true, false], [true, true, true, true, true, true, true, false], [true, true, true, true, true, true, true, true], [true, true, true, true, false, false, true, false], [true, true, true, false, false, false, true, false], [true, false, true, false, false, false, true, false], [false, true, false, false, false, false, true, false], [true, true, false, false, false, false, true, false], [true, false, false, false, false, false, true, false], [false, false, true, false, false, false, false, false], [false, true, true, false, false, false, false, false], [false, true, true, true, false, false, false, false], [false, true, true, true, true, false, false, false], [true, true, true, true, true, false, false, false], [true, true, true, true, true, true, false, false], [true, true, true, true, false, false, false, false], [true, true, true, false, false, false, false, false], [true, false, true, false, false, false, false, false], [false, true, false, false, false, false, false, false], [true, true, false, false, false, false, false, false], [true, false, false, false, false, false, false, false]]) (pre := #[⟨some 18,.load 73 (.tmp 2),73,"space.go:170",#[],none⟩, ⟨some 19,.load 22 (.tmp 1),22,"space.go:170",#[],none⟩, ⟨some 20,.move (.tmp 4),3,"space.go:170",#[],none⟩, ⟨some 21,.indexAddr 22 (.tmp 19) (.tmp 20),0,"space.go:170",#[⟨1,.data⟩,⟨2,.data⟩],none⟩, ⟨some 22,.load 39 (.tmp 21),39,"space.go:170",#[⟨3,.data⟩],none⟩, ⟨some 23,.call ⟨.value (.func 87),#[.tmp 18,.tmp 22],#[73,39]⟩,22,"space.go:170",#[⟨0,.data⟩,⟨4,.data⟩],none⟩, ⟨some 5,.alloc 22,0,"space.go:170",#[],none⟩, ⟨none,.store 22 (.tmp 5) (.tmp 23),0,"space.go:170",#[⟨6,.data⟩,⟨5,.data⟩,⟨5,.chain⟩,⟨0,.phase⟩,⟨1,.phase⟩,⟨2,.phase⟩,⟨3,.phase⟩,⟨4,.phase⟩,⟨5,.phase⟩,⟨6,.phase⟩],none⟩]) (.inl rfl) (by kernel_rfl) (by kernel_rfl) (by kernel_rfl) (by with_reducible exact hS4) (fun hHeld => ?_)
  refine Rg.tk 0 ⟨some 18,.load 73 (.tmp 2),73,"space.go:170",#[],none⟩ ?_
  try simp only [Rg.gp]
  refine Rg.tk 1 ⟨some 19,.load 22 (.tmp 1),22,"space.go:170",#[],none⟩ ?_
  try simp only [Rg.gp]
  refine Rg.tk 2 ⟨some 20,.move (.tmp 4),3,"space.go:170",#[],none⟩ ?_
  try simp only [Rg.gp]
  refine Rg.tk 3 ⟨some 21,.indexAddr 22 (.tmp 19) (.tmp 20),0,"space.go:170",#[⟨1,.data⟩,⟨2,.data⟩],none⟩ ?_
  try simp only [Rg.gp]
  refine Rg.tk 4 ⟨some 22,.load 39 (.tmp 21),39,"space.go:170",#[⟨3,.data⟩],none⟩ ?_
  try simp only [Rg.gp]
  refine wpAnyH_ready (rs := [5, 6]) (by kernel_rfl) (by simp) ?_
  refine (AllReadyH.cons (o := ⟨some 23,.call ⟨.value (.func 87),#[.tmp 18,.tmp 22],#[73,39]⟩,22,"space.go:170",#[⟨0,.data⟩,⟨4,.data⟩],none⟩) rfl (fun K hK => ?_) (AllReadyH.cons (o := ⟨some 5,.alloc 22,0,"space.go:170",#[],none⟩) rfl (fun K hK => ?_) AllReadyH.nil))
  ·go_simp
   go_at_call 87
   with_reducible refine (multiples_c (HFA.out.below hHeld.2.2.2.out.1) (by omega) HVG.out (HNR.out.below hHeld.2.2.2.out.1)).mono ?_
   rintro z v1 ⟨us1, a1, c1, rfl, ho1, hn1, hb3⟩
   rw [muK_len] at ho1 hn1 ⊢
   have HN1 := Lib.hid (fun i hi t ht => Nat.le_trans hHeld.2.2.2.out.1.size (hn1 i hi t ht))
   have HO1 := Lib.hid (ho1.weak hHeld.2.2.2.out.1.size)
   have HBV1 := Lib.hid (hHeld.2.2.2.out.1.trans (hb3.mono hHeld.2.2.2.out.1.size))
   have HSB1 := Lib.hid (Nat.le_trans hHeld.2.2.2.out.1.size hb3.size)
   try have HBX := Lib.hid (show BC W0.heap.size [.slice none 0 0] 22 v1 from (BC.new W0.drew [.slice none 0 0] 22 rfl).below hb3)
   have HSS1 := Lib.hid (PZ.go hHeld (hb3.mono hHeld.2.2.2.out.1.size))
   refine hK.out _ _ ?_ (fun hHeld => ?_)
   ·(try dsimp only)
    exact PZ.go hHeld (hb3.mono hHeld.2.2.2.out.1.size)
   clear hK K
   try simp only [Rg.gp]
   refine Rg.rd1 6 ⟨some 5,.alloc 22,0,"space.go:170",#[],none⟩ fun K hK => ?_
   go_simp
   refine hK.out _ _ ?_ (fun hHeld => ?_)
   ·(try dsimp only)
    exact PZ.go hHeld ((Below.refl _ _).alloc hHeld.2.2.2.out.1.size _)
   clear hK K
   try simp only [Rg.gp]
   refine Rg.rd1 7 ⟨none,.store 22 (.tmp 5) (.tmp 23),0,"space.go:170",#[⟨6,.data⟩,⟨5,.data⟩,⟨5,.chain⟩,⟨0,.phase⟩,⟨1,.phase⟩,⟨2,.phase⟩,⟨3,.phase⟩,⟨4,.phase⟩,⟨5,.phase⟩,⟨6,.phase⟩],none⟩ fun K hK => ?_
   first | have HB7 := HBX | have HB7 := Lib.hid (BC.new v1 [.slice none 0 0] 22 rfl)
   have r0 := HB7.out.cell (i := 0) rfl
   have g0 := HB7.out.fz 0
   go_simp
   refine hK.out _ _ ?_ (fun hHeld => ?_)
   ·(try dsimp only)
    first | exact PZ.go HSS1.out ((Below.refl _ _).alloc HSB1.out _) | exact PZ.go HSS1.out ((Below.refl _ _).setCell (p := ⟨W0.heap.size, 0, none⟩) (Nat.le_refl _) _)
   clear hK K
   try simp only [Rg.gp]
   refine wpAnyH_done (by kernel_rfl) ?_ _
   show Go.wpAnyIn _ _ _ _ _ _ _ _ _ _
   refine Go.Rg.last_done (by kernel_rfl) ?_
   first
    | (obtain ⟨w5, hw5⟩ : ∃ w, w = v1.alloc (.cells #[.slice a1 F.q c1] 22) := ⟨_, rfl⟩
       obtain ⟨xm, hxm⟩ : ∃ x, x = v1.heap.size := ⟨_, rfl⟩
       rw [← hw5, ← hxm]
       have hA5 : Below v1.heap.size v1 w5 := by rw [hw5]; exact (Below.refl _ _).alloc (Nat.le_refl _) _
       refine hrest xm us1 a1 c1 w5 ⟨⟨by rw [hw5, hxm]; exact World.cell?_alloc_at _ _ _ _ rfl, by rw [hxm]; exact HSB1.out, by rw [hw5, hxm]; simp⟩, HO1.out.below hA5, HN1.out, HBV1.out.trans (hA5.mono HSB1.out)⟩)
    | (obtain ⟨w5, hw5⟩ : ∃ w, w = v1.setCell ⟨W0.heap.size, 0, none⟩ (.slice a1 F.q c1) := ⟨_, rfl⟩
       obtain ⟨xm, hxm⟩ : ∃ x, x = W0.heap.size := ⟨_, rfl⟩
       rw [← hw5, ← hxm]
       have hB8 := HBX.out.set 0 (.slice a1 F.q c1)
       rw [← hw5] at hB8
       refine hrest xm us1 a1 c1 w5 ⟨⟨by rw [hxm]; exact hB8.cell rfl, by rw [hxm]; exact Nat.le_refl _, by rw [hxm]; exact hB8.lt⟩, by rw [hw5]; exact OL.bc HO1.out HBX.out (by decide) (by decide) (Bx.set (S := fun k => k = W0.heap.size) rfl _), HN1.out, by rw [hw5]; exact HBV1.out.setCell (p := ⟨W0.heap.size, 0, none⟩) (Nat.le_refl _) _⟩)
  ·go_simp
   refine hK.out _ _ ?_ (fun hHeld => ?_)
   ·(try dsimp only)
    exact PZ.go hHeld ((Below.refl _ _).alloc hHeld.2.2.2.out.1.size _)
   clear hK K
   try simp only [Rg.gp]
   refine Rg.rd1 5 ⟨some 23,.call ⟨.value (.func 87),#[.tmp 18,.tmp 22],#[73,39]⟩,22,"space.go:170",#[⟨0,.data⟩,⟨4,.data⟩],none⟩ fun K hK => ?_
   go_simp
   go_at_call 87
   with_reducible refine (multiples_c (HFA.out.below hHeld.2.2.2.out.1) (by omega) HVG.out (HNR.out.below hHeld.2.2.2.out.1)).mono ?_
   rintro z v1 ⟨us1, a1, c1, rfl, ho1, hn1, hb3⟩
   rw [muK_len] at ho1 hn1 ⊢
   have HN1 := Lib.hid (fun i hi t ht => Nat.le_trans hHeld.2.2.2.out.1.size (hn1 i hi t ht))
   have HO1 := Lib.hid (ho1.weak hHeld.2.2.2.out.1.size)
   have HBV1 := Lib.hid (hHeld.2.2.2.out.1.trans (hb3.mono hHeld.2.2.2.out.1.size))
   have HSB1 := Lib.hid (Nat.le_trans hHeld.2.2.2.out.1.size hb3.size)
   try have HBX := Lib.hid (show BC W0.heap.size [.slice none 0 0] 22 v1 from (BC.new W0.drew [.slice none 0 0] 22 rfl).below hb3)
   have HSS1 := Lib.hid (PZ.go hHeld (hb3.mono hHeld.2.2.2.out.1.size))
   refine hK.out _ _ ?_ (fun hHeld => ?_)
   ·(try dsimp only)
    exact PZ.go hHeld (hb3.mono hHeld.2.2.2.out.1.size)
   clear hK K
   try simp only [Rg.gp]
   refine Rg.rd1 7 ⟨none,.store 22 (.tmp 5) (.tmp 23),0,"space.go:170",#[⟨6,.data⟩,⟨5,.data⟩,⟨5,.chain⟩,⟨0,.phase⟩,⟨1,.phase⟩,⟨2,.phase⟩,⟨3,.phase⟩,⟨4,.phase⟩,⟨5,.phase⟩,⟨6,.phase⟩],none⟩ fun K hK => ?_
   first | have HB7 := HBX | have HB7 := Lib.hid (BC.new v1 [.slice none 0 0] 22 rfl)
   have r0 := HB7.out.cell (i := 0) rfl
   have g0 := HB7.out.fz 0
   go_simp
   refine hK.out _ _ ?_ (fun hHeld => ?_)
   ·(try dsimp only)
    first | exact PZ.go HSS1.out ((Below.refl _ _).alloc HSB1.out _) | exact PZ.go HSS1.out ((Below.refl _ _).setCell (p := ⟨W0.heap.size, 0, none⟩) (Nat.le_refl _) _)
   clear hK K
   try simp only [Rg.gp]
   refine wpAnyH_done (by kernel_rfl) ?_ _
   show Go.wpAnyIn _ _ _ _ _ _ _ _ _ _
   refine Go.Rg.last_done (by kernel_rfl) ?_
   first
    | (obtain ⟨w5, hw5⟩ : ∃ w, w = v1.alloc (.cells #[.slice a1 F.q c1] 22) := ⟨_, rfl⟩
       obtain ⟨xm, hxm⟩ : ∃ x, x = v1.heap.size := ⟨_, rfl⟩
       rw [← hw5, ← hxm]
       have hA5 : Below v1.heap.size v1 w5 := by rw [hw5]; exact (Below.refl _ _).alloc (Nat.le_refl _) _
       refine hrest xm us1 a1 c1 w5 ⟨⟨by rw [hw5, hxm]; exact World.cell?_alloc_at _ _ _ _ rfl, by rw [hxm]; exact HSB1.out, by rw [hw5, hxm]; simp⟩, HO1.out.below hA5, HN1.out, HBV1.out.trans (hA5.mono HSB1.out)⟩)
    | (obtain ⟨w5, hw5⟩ : ∃ w, w = v1.setCell ⟨W0.heap.size, 0, none⟩ (.slice a1 F.q c1) := ⟨_, rfl⟩
       obtain ⟨xm, hxm⟩ : ∃ x, x = W0.heap.size := ⟨_, rfl⟩
       rw [← hw5, ← hxm]
       have hB8 := HBX.out.set 0 (.slice a1 F.q c1)
       rw [← hw5] at hB8
       refine hrest xm us1 a1 c1 w5 ⟨⟨by rw [hxm]; exact hB8.cell rfl, by rw [hxm]; exact Nat.le_refl _, by rw [hxm]; exact hB8.lt⟩, by rw [hw5]; exact OL.bc HO1.out HBX.out (by decide) (by decide) (Bx.set (S := fun k => k = W0.heap.size) rfl _), HN1.out, by rw [hw5]; exact HBV1.out.setCell (p := ⟨W0.heap.size, 0, none⟩) (Nat.le_refl _) _⟩)
 case rest =>
  rintro xm us1 a1 c1 w5 ⟨⟨hm1, hm2, hm3⟩, ho5, hn5, hb5⟩
  have HM5 := Lib.hid (show w5.cell? ⟨xm, 0, none⟩ = some (.slice a1 F.q c1) ∧ W0.heap.size ≤ xm ∧ xm < w5.heap.size from ⟨hm1, hm2, hm3⟩)
  have HO5 := Lib.hid ho5
  have HN5 := Lib.hid hn5
  have HB5 := Lib.hid hb5
  have hS5 : PZ W0 gs F b cap n gr (.slice (some ⟨bg, og, none⟩) (k + 1) cg) bg (og + k) (.slice ar n cr) w5.drew := PZ.go hS4 (show Below W0.heap.size W0.drew w5.drew from ⟨hb5.os, hb5.tape, hb5.output, hb5.size, hb5.block⟩)
  have hkc : (k : Int) ≤ (cg : Int) := by have := HKC.out; omega
  have hk0 : (0 : Int) ≤ (k : Int) := by omega
  clear hm1 hm2 hm3 ho5 hn5 hb5 hS4
  gi_wp2_with fail
  refine Go.Rg.in_region_yield (S := fun w' => PZ W0 gs F b cap n gr (.slice (some ⟨bg, og, none⟩) (k + 1) cg) bg (og + k) (.slice ar n cr) w') (y := 5) (r := 0) (Rs := [[false, false, false, false, false], [false, false, true, false, false], [false, true, true, false, false], [false, true, true, true, false], [true, true, true, true, false], [true, true, true, true, true], [true, true, true, false, false], [true, false, true, false, false], [false, true, false, false, false], [true, true, false, false, false], [true, false, false, false, false]]) (pre := #[⟨some 24,.load 73 (.tmp 2),73,"space.go:171",#[],none⟩, ⟨some 25,.load 22 (.tmp 1),22,"space.go:171",#[],none⟩, ⟨some 26,.move (.tmp 4),3,"space.go:171",#[],none⟩, ⟨some 27,.slice 22 (.tmp 25) none (some (.tmp 26)) none,22,"space.go:171",#[⟨1,.data⟩,⟨2,.data⟩],none⟩, ⟨some 28,.call ⟨.value (.func 69),#[.tmp 24,.tmp 27],#[73,22]⟩,90,"space.go:171",#[⟨0,.data⟩,⟨3,.data⟩],none⟩]) (.inl rfl) (by kernel_rfl) (by kernel_rfl) (by kernel_rfl) (by with_reducible exact hS5) (fun hHeld => ?_)
  refine Rg.tk 0 ⟨some 24,.load 73 (.tmp 2),73,"space.go:171",#[],none⟩ ?_
  try simp only [Rg.gp]
  refine Rg.tk 1 ⟨some 25,.load 22 (.tmp 1),22,"space.go:171",#[],none⟩ ?_
  try simp only [Rg.gp]
  refine Rg.tk 2 ⟨some 26,.move (.tmp 4),3,"space.go:171",#[],none⟩ ?_
  try simp only [Rg.gp]
  refine Rg.tk 3 ⟨some 27,.slice 22 (.tmp 25) none (some (.tmp 26)) none,22,"space.go:171",#[⟨1,.data⟩,⟨2,.data⟩],none⟩ ?_
  try simp only [Rg.gp]
  refine Rg.rd1 4 ⟨some 28,.call ⟨.value (.func 69),#[.tmp 24,.tmp 27],#[73,22]⟩,90,"space.go:171",#[⟨0,.data⟩,⟨3,.data⟩],none⟩ fun K hK => ?_
  go_simp
  go_at_call 69
  with_reducible refine (words_mk (F := F) (b := b) (cap := cap) (n := n)).mono ?_
  rintro z v6 ⟨rfl, hx6, hc6, hs6, hb6⟩
  refine hK.out _ _ ?_ (fun hHeld => ?_)
  ·(try dsimp only)
   exact PZ.go hHeld (hb6.mono hHeld.2.2.2.out.1.size)
  clear hK K
  try simp only [Rg.gp]
  refine wpAnyH_done (by kernel_rfl) ?_ _
  show Go.wpAnyIn _ _ _ _ _ _ _ _ _ _
  refine Go.Rg.last_done (by kernel_rfl) ?_
  have HB6 := Lib.hid (hHeld.2.2.2.out.1)
  have HX6 := Lib.hid hx6
  have HC6 := Lib.hid hc6
  have HS6 : Hid (v6.heap.size = w5.heap.size + 2) := Lib.hid hs6
  have HB56 : Hid (Below w5.heap.size w5 v6) := Lib.hid ((Below.refl _ _).drew.trans hb6)
  clear hHeld hS5 hx6 hc6 hs6 hb6
  have HBV6 := Lib.hid (hAL.out.trans (HB6.out.mono hAL.out.size))
  have HOW : Hid (∀ q, Ow v6 q → Ow W q) := Lib.hid (HO.out.mono [] W v6 none H0.out (below_none HBV6.out) (fun r e => by cases e))
  have HOL : Hid (∀ q, Ow v6 q → q < W.heap.size) := Lib.hid fun q e => HO.out.lt H0.out (HOW.out q e)
  have HJ6 : Hid (J [] v6) := Lib.hid (HJ.out [] W v6 none H0.out (below_none HBV6.out) (fun r e => by cases e))
  have HWS : Hid (W.heap.size ≤ W0.heap.size ∧ W0.heap.size ≤ w5.heap.size ∧ w5.heap.size ≤ v6.heap.size) := Lib.hid ⟨hAL.out.size, HB5.out.size, HB56.out.size⟩
  have HIT : Hid (∀ w', Bx (Ow v6) v6 w' → ITf F b cap n (k + 1) G gr gs (some ⟨bg, og, none⟩) cg w') := Lib.hid fun w' hw' => HI.out w' ⟨hw'.os.trans (HBV6.out.os.trans HBW.out.os), hw'.tape.trans (HBV6.out.tape.trans HBW.out.tape), hw'.output.trans (HBV6.out.output.trans HBW.out.output), Nat.le_trans HBW.out.size (Nat.le_trans HBV6.out.size hw'.size), fun q hq hx => by
   have hqW := Nat.lt_of_lt_of_le hq HBW.out.size
   refine (hw'.block q (Nat.lt_of_lt_of_le hqW HBV6.out.size) fun e => hx (HXX.out q hq (HOW.out q e))).trans ?_
   exact (HBV6.out.block q hqW).trans (HBW.out.block q hq)⟩
  have HIK : Hid (IT F b cap n k G (w5.heap.size + 1) w5.heap.size (some ⟨bg, og, none⟩) cg (Ow v6) v6) := Lib.hid fun w' hw' => by
   have hf := HIT.out w' hw'
   have hn1 : ∀ q, W.heap.size ≤ q → ¬ Ow v6 q := fun q hq e => by have := HOL.out q e; omega
   have hws := HWS.out
   have hcell : ∀ i, w'.cell? ⟨w5.heap.size, i, none⟩ = v6.cell? ⟨w5.heap.size, i, none⟩ := fun i => hw'.cell (p := ⟨w5.heap.size, i, none⟩) (show w5.heap.size < v6.heap.size by have := HS6.out; omega) (hn1 _ (by show W.heap.size ≤ w5.heap.size; omega))
   have hx := HX6.out
   refine ⟨(hw'.cell (p := ⟨w5.heap.size + 1, 0, none⟩) (show w5.heap.size + 1 < v6.heap.size by have := HS6.out; omega) (hn1 _ (by show W.heap.size ≤ w5.heap.size + 1; omega))).trans HC6.out, ⟨(hcell 0).trans hx.1, (hcell 1).trans hx.2.1, (hcell 2).trans hx.2.2.1, (hcell 3).trans hx.2.2.2⟩, hf.fa, ?_⟩
   have := hf.mm.take HT1.out (Nat.le_succ k)
   rwa [List.take_take, Nat.min_eq_left (Nat.le_succ k)] at this
  have HOI : Hid (OwOk Ow (fun (pre : List Wl) Wr => ∃ ys : List Wl, ys.map Prod.fst = flW F (G.getD k []) (pre.map Prod.fst) ∧ J ys Wr ∧ KB Ow v6 Wr)) := Lib.hid ⟨fun s A q ⟨ys, _, hj, _⟩ e => HO.out.cells ys A q hj e, fun s A A' row ⟨ys, _, hj, _⟩ => HO.out.mono ys A A' row hj⟩
  gi_wp2_with fail
  refine Go.Sq.wpIn_rangeFunc_W (n := 3) rfl rfl (by decide) (gf := 86) (lb := #[.pointer (some ⟨w5.heap.size + 1, 0, none⟩), .pointer (some ⟨w5.heap.size, 0, none⟩)]) rfl trivial (enters_of Try.func86 (by kernel_rfl) rfl) (HIH.out _ _ _ _ (Ow v6) v6 HIK.out _) (Below.refl _ _) (fun _ => rfl) Ow
   (fun pre Wr => ∃ ys : List Wl, ys.map Prod.fst = flW F (G.getD k []) (pre.map Prod.fst) ∧ J ys Wr ∧ KB Ow v6 Wr)
   (fun c pre Wr => c = .ret ∧ ∃ ys : List Wl, ys.map Prod.fst <+: flW F (G.getD k []) (pre.map Prod.fst) ∧ Jx ys Wr)
   (fun s A A' row ⟨ys, h1, h2, h3⟩ hg hr => ⟨ys, h1, HJ.out ys A A' row h2 hg (fun r e => ⟨by have := (hr r e).1; have := HWS.out; omega, (hr r e).2⟩), h3.grow HO.out h2 hg hr⟩)
   (fun c s A A' row ⟨hc, ys, h1, h2⟩ hg hr => ⟨hc, ys, h1, HJX.out ys A A' row h2 hg (fun r e => ⟨by have := (hr r e).1; have := HWS.out; omega, (hr r e).2⟩)⟩)
   HOI.out (fun q hq e => e)
   (fun s x A A' row ⟨ys, h1, h2, h3⟩ ⟨e1, e2, e3⟩ hg hr => ⟨e1, own_bx2 e2 (S := fun q => some q = row) ⟨hg.os, hg.tape, hg.output, hg.size, fun q hq hs => hg.block q hq fun e => hs e⟩ (fun q hq hs => by
     obtain ⟨o, ho, hc⟩ := hr q hs.symm
     have hh := e2.heap
     injection hq with hq
     have hq2 : x.2 = q := hq
     rw [hq2, ho] at hh
     injection hh with hh
     rw [hh] at hc
     cases hc), fun e => e3 (HO.out.mono ys A A' row h2 hg (fun r er => by obtain ⟨o, h4, h5⟩ := hr r er; exact HO.out.not h2 h4 h5) _ e)⟩)
   ⟨[], rfl, HJ6.out, KB.refl _ _⟩
   (fun x : Wl => ({ tmps := #[.func (.yield l) #[] #[], .pointer (some ⟨gr, 0, none⟩), .pointer (some ⟨gs, 0, none⟩), .pointer (some ⟨W.heap.size, 0, none⟩), .int .i64 (k : Nat), .pointer (some ⟨xm, 0, none⟩), .slice (some ⟨x.2, 0, none⟩) n n, undef, undef, .slice (some ⟨bg, og, none⟩) (k + 1) cg, .int .i64 ((k : Int) + 1), .int .i64 (k : Nat), .int .i64 (k : Nat), .bool false, undef, undef, undef, undef, XV F b cap n, .slice (some ⟨bg, og, none⟩) (k + 1) cg, .int .i64 (k : Nat), .pointer (some ⟨bg, og + k, none⟩), .slice ar n cr, .slice a1 F.q c1, XV F b cap n, .slice (some ⟨bg, og, none⟩) (k + 1) cg, .int .i64 (k : Nat), .slice (some ⟨bg, og, none⟩) k cg, .func (.func 86) #[] #[.pointer (some ⟨w5.heap.size + 1, 0, none⟩), .pointer (some ⟨w5.heap.size, 0, none⟩)], .slice (some ⟨x.2, 0, none⟩) n n, undef, undef, undef, undef, undef, undef, undef, undef, undef, undef, undef, undef, undef, undef], defers := [] } : Act)) ?assign ?body ?done ?stop
  case assign =>
   intro l x W K hK
   gi_wp2
   exact hK
  case done =>
   rintro D xs Wd hD hxs ⟨ys, h1, h2, h3⟩ hK
   have HE : Hid (ys.map Prod.fst = wdK F n G (k + 1)) := Lib.hid (by rw [h1, hxs]; rfl)
   have HJE := Lib.hid h2
   have HKK := Lib.hid hK
   clear h1 h2 h3 hxs
   gi_wp2
   refine ⟨by simp, .inl ⟨_, _, rfl, run_takeDeferred HKK.out, ?_⟩⟩
   exact ⟨_, results_none rfl _ _ _, ⟨_, rfl⟩, .inl ⟨ys, HE.out, HJ.out ys Wd _ (some D) HJE.out (grownBy_putObj' _ _ _) (fun r e => by cases e; exact ⟨by have := HWS.out; omega, _, HKK.out, rfl⟩)⟩⟩
  case stop =>
   rintro D c pre Wd hD hSp ⟨rfl, ys, h1, h2⟩ hK
   have HE : Hid (ys.map Prod.fst <+: wdK F n G (k + 1)) := Lib.hid (h1.trans (flW_pre hSp))
   have HJE := Lib.hid h2
   have HKK := Lib.hid hK
   clear h1 h2 hSp
   gi_wp2
   refine ⟨by simp, .inl ⟨_, _, rfl, run_takeDeferred HKK.out, ?_⟩⟩
   exact ⟨_, results_none rfl _ _ _, ⟨_, rfl⟩, .inr ⟨ys, HE.out, HJX.out ys Wd _ (some D) HJE.out (grownBy_putObj' _ _ _) (fun r e => by cases e; exact ⟨by have := HWS.out; omega, _, HKK.out, rfl⟩)⟩⟩
  case body =>
   rintro l2 pre x Wr hl2 ⟨ys, hys, hj, hkb⟩ ⟨hvx, hrx, hox⟩ hlen
   have HYS := Lib.hid hys
   have HJR := Lib.hid hj
   have HKB := Lib.hid hkb
   have HVX := Lib.hid hvx
   have HRX := Lib.hid hrx
   have HOX := Lib.hid hox
   have HLN := Lib.hid hlen
   have HL2 := Lib.hid hl2
   have HAT : Hid (∀ w', KB Ow v6 w' → w'.cell? ⟨xm, 0, none⟩ = some (.slice a1 F.q c1) ∧ w'.cell? ⟨W.heap.size, 0, none⟩ = some (.func (.yield l) #[] #[]) ∧ W.heap.size < w'.heap.size ∧ XB gs F b cap n w' ∧ gs < w'.heap.size ∧ FldAt F b cap w' ∧ OL (muK F (G.getD k []) F.q) us1 W0.heap.size w' (.slice a1 F.q c1)) := Lib.hid fun w' hk' => by
    have hbx : Bx (Ow v6) v6 w' := ⟨hk'.os, hk'.tape, hk'.output, hk'.size, hk'.same⟩
    have hf := HIT.out w' hbx
    have hws := HWS.out
    have hn1 : ∀ q, W.heap.size ≤ q → ¬ Ow v6 q := fun q hq e => by have := HOL.out q e; omega
    refine ⟨?_, ?_, ?_, hf.xb, World.block_lt_of_cell? _ _ hf.xb.1, hf.fa, ?_⟩
    ·exact (hbx.cell (p := ⟨xm, 0, none⟩) (show xm < v6.heap.size by have := HM5.out.2.2; omega) (hn1 _ (by have := HM5.out.2.1; show W.heap.size ≤ xm; omega))).trans ((HB56.out.cell (p := ⟨xm, 0, none⟩) HM5.out.2.2).trans HM5.out.1)
    ·refine (hbx.cell (p := ⟨W.heap.size, 0, none⟩) (show W.heap.size < v6.heap.size by have := HY0.out.2; omega) (hn1 _ (Nat.le_refl _))).trans ((HB6.out.cell (p := ⟨W.heap.size, 0, none⟩) HY0.out.2).trans HY0.out.1)
    ·have := HY0.out.2; have := hk'.size; omega
    ·exact OL.bx (HO5.out.below HB56.out) hbx (fun q hq => hn1 q (by have := (HO5.out.own.lt q hq).1; omega)) (fun i hi q hq => hn1 q (by have := HN5.out i (by rw [muK_len] at hi; exact hi) q hq; omega))
   obtain ⟨m1, y1, -, -, -, -, -⟩ := HAT.out Wr HKB.out
   clear hys hj hkb hvx hrx hox hlen hl2
   gi_wp2
   gi_loopw [32] (fun i wr => ∃ j : Nat, j ≤ F.q ∧ i = .int .i64 (j : Nat) ∧ ∃ ys2 : List Wl, Hid (ys2.map Prod.fst = flW F (G.getD k []) (pre.map Prod.fst) ++ ((muK F (G.getD k []) F.q).take j).map (fun m => plV F x.1 m)) ∧ Hid (J ys2 wr) ∧ Hid (KB Ow Wr wr)) (fun i _ => F.q - (intOf i).toNat)
   case atStart => exact ⟨0, Nat.zero_le _, rfl, ys, Lib.hid (by rw [List.take_zero, List.map_nil, List.append_nil]; exact HYS.out), HJR, Lib.hid (KB.refl _ _)⟩
   case round =>
    obtain ⟨j, hjq, rfl, ys2, HY2, HJ2, HK2⟩ := hrel
    have HK6 : Hid (KB Ow v6 wr) := Lib.hid (HKB.out.trans HK2.out)
    clear m1 y1
    by_cases hlt : j < F.q
    ·obtain ⟨m1, y1, y2, hx1, hx2, hfa1, hol1⟩ := HAT.out wr HK6.out
     have HXW := Lib.hid hx1
     have HFW := Lib.hid hfa1
     have HJL : Hid (j < (muK F (G.getD k []) F.q).length) := Lib.hid (by rw [muK_len]; exact hlt)
     obtain ⟨gf, cf, hvf, -, -⟩ := hol1.sl HJL.out
     injection hvf with e1 e2 e3
     subst e1
     have hol2 : OL (muK F (G.getD k []) F.q) us1 W0.heap.size wr (.slice (some ⟨gf, 0, none⟩) (muK F (G.getD k []) F.q).length c1) := by rw [muK_len]; exact hol1
     have hcj := hol2.cell HJL.out
     obtain ⟨aj, cj, hus⟩ := hol2.usl HJL.out
     have hnj := hol2.nn HJL.out
     rw [hus] at hcj hnj
     have HVM : Hid (Vn F n (tiV F j (G.getD k []))) := Lib.hid (tiV_vn HFF.out HVG.out)
     rw [muK_at hlt, HVM.out.len] at hcj hnj
     have HRW : Hid (Row x.1 x.2 wr) := Lib.hid (own_bx2 HRX.out (S := Ow Wr) ⟨HK2.out.os, HK2.out.tape, HK2.out.output, HK2.out.size, HK2.out.same⟩ (fun q hq => by injection hq with hq; have hq2 : x.2 = q := hq; rw [← hq2]; exact HOX.out))
     have HNX : Hid (NN x.1 wr (.slice (some ⟨x.2, 0, none⟩) n n)) := Lib.hid (by have := HRW.out.nn; rw [HVX.out.len] at this; exact this)
     have HNJ := Lib.hid hnj
     have HPL : Hid (∀ w', Below wr.heap.size wr w' → Calls Try.prog 57 #[XV F b cap n, .slice (some ⟨x.2, 0, none⟩) n n, .slice aj n cj] w' (RPost (plV F x.1 (tiV F j (G.getD k []))) w')) := Lib.hid fun w' hb' => plus_c (HFW.out.below hb') (by omega) HVX.out HVM.out (HNX.out.below hb') (HNJ.out.below hb')
     obtain ⟨Y, HYY⟩ : ∃ Y, Hid (plV F x.1 (tiV F j (G.getD k [])) = Y) := ⟨_, Lib.hid rfl⟩
     have HVY : Hid (Vn F n Y) := Lib.hid (by rw [← HYY.out]; exact plV_vn HFF.out HVX.out)
     rw [HYY.out] at HPL
     have hS10 : PY wr gs F b cap n W.heap.size l wr.drew := ⟨y1, hx1, Lib.hid ⟨(Below.refl _ _).drew, y2, hx2⟩⟩
     have HQ6 : Hid (F.q ≤ 64) := Lib.hid (fd_small F HFA.out.mem).2.2.2.2.2.1
     have hq6 : F.q ≤ 64 := HQ6.out
     obtain ⟨z0, z1, z2, z3⟩ := hx1
     clear e2 e3 hus hnj hol1 hol2 hfa1 y2 hx2
     gi_wp2_with fail
     refine Go.Rg.in_region_yield (S := fun w' => PY wr gs F b cap n W.heap.size l w') (y := 5) (r := 2) (Rs := [[false, false, false, false, false], [false, false, false, true, false], [false, false, true, true, false], [false, true, true, true, false], [false, true, true, true, true], [true, true, true, true, true], [true, true, true, true, false], [true, false, true, true, false], [false, true, false, true, false], [true, true, false, true, false], [true, false, false, true, false], [false, false, true, false, false], [false, true, true, false, false], [true, true, true, false, false], [true, false, true, false, false], [false, true, false, false, false], [true, true, false, false, false], [true, false, false, false, false]]) (pre := #[⟨some 36,.load 81 (.tmp 3),81,"space.go:173",#[],none⟩, ⟨some 37,.load 73 (.tmp 2),73,"space.go:173",#[],none⟩, ⟨some 38,.move (.tmp 6),39,"space.go:173",#[],none⟩, ⟨some 39,.move (.tmp 8),39,"space.go:173",#[],none⟩, ⟨some 40,.call ⟨.value (.func 57),#[.tmp 37,.tmp 38,.tmp 39],#[73,39,39]⟩,39,"space.go:173",#[⟨1,.data⟩,⟨2,.data⟩,⟨3,.data⟩],none⟩]) (.inr ⟨_, rfl⟩) (by kernel_rfl) (by kernel_rfl) (by kernel_rfl) (by with_reducible exact hS10) (fun hHeld => ?_)
     refine Rg.tk 0 ⟨some 36,.load 81 (.tmp 3),81,"space.go:173",#[],none⟩ ?_
     try simp only [Rg.gp]
     refine Rg.tk 1 ⟨some 37,.load 73 (.tmp 2),73,"space.go:173",#[],none⟩ ?_
     try simp only [Rg.gp]
     refine Rg.tk 2 ⟨some 38,.move (.tmp 6),39,"space.go:173",#[],none⟩ ?_
     try simp only [Rg.gp]
     refine Rg.tk 3 ⟨some 39,.move (.tmp 8),39,"space.go:173",#[],none⟩ ?_
     try simp only [Rg.gp]
     refine Rg.rd1 4 ⟨some 40,.call ⟨.value (.func 57),#[.tmp 37,.tmp 38,.tmp 39],#[73,39,39]⟩,39,"space.go:173",#[⟨1,.data⟩,⟨2,.data⟩,⟨3,.data⟩],none⟩ fun K hK => ?_
     go_simp
     go_at_call 57
     with_reducible refine (HPL.out _ hHeld.2.2.out.1).mono ?_
     rintro z v7 ⟨g7, hg7, rfl, hr7, hb7⟩
     rw [HVY.out.len]
     refine hK.out _ _ ?_ (fun hHeld => ?_)
     ·(try dsimp only)
      exact PY.go hHeld (hb7.mono hHeld.2.2.out.1.size)
     clear hK K
     try simp only [Rg.gp]
     refine wpAnyH_done (by kernel_rfl) ?_ _
     have HB7 : Hid (Below wr.heap.size wr v7) := Lib.hid hHeld.2.2.out.1
     have HJ7 : Hid (J ys2 v7) := Lib.hid (HJ.out ys2 wr v7 none HJ2.out (below_none HB7.out) (fun r e => by cases e))
     have HG7 : Hid (wr.heap.size ≤ g7) := Lib.hid hg7
     have HE7 : Hid (EW F n Ow (Y, g7) v7) := Lib.hid ⟨HVY.out, hr7, fun e => by
      have h1 := HO.out.mono ys2 wr v7 none HJ2.out (below_none HB7.out) (fun r e => by cases e) g7 e
      have h2 := HO.out.lt HJ2.out h1
      have h3 := HG7.out
      omega⟩
     have HL7 : Hid (ys2.length < (wdK F n G (k + 1)).length) := Lib.hid (by
      have h1 : ys2.length = pre.length * F.q + j := by
       have := congrArg List.length HY2.out
       rw [List.length_append, flW_len, List.length_map, List.length_map, List.length_map, List.length_take, muK_len] at this
       omega
      have h2 : (wdK F n G (k + 1)).length = (wdK F n G k).length * F.q := flW_len F (G.getD k []) (wdK F n G k)
      have h3 : (pre.length + 1) * F.q ≤ (wdK F n G k).length * F.q := Nat.mul_le_mul_right _ HLN.out
      rw [Nat.succ_mul] at h3
      omega)
     have HK7 : Hid (KB Ow Wr v7) := Lib.hid (HK2.out.trans (KB.own HO.out HJ2.out HB7.out))
     have HY7 : Hid ((ys2 ++ [(Y, g7)]).map Prod.fst = flW F (G.getD k []) (pre.map Prod.fst) ++ ((muK F (G.getD k []) F.q).take (j + 1)).map (fun m => plV F x.1 m)) := Lib.hid (by
      rw [List.take_succ_eq_append_getElem HJL.out, List.map_append, List.map_append, ← List.append_assoc, ← HY2.out]
      congr 1
      have := muK_at (F := F) (X := G.getD k []) hlt
      rw [List.getD_eq_getElem?_getD, List.getElem?_eq_getElem HJL.out] at this
      rw [List.map_cons, List.map_nil, List.map_cons, List.map_nil, show (muK F (G.getD k []) F.q)[j]'HJL.out = tiV F j (G.getD k []) from this, HYY.out])
     have hY := HY.out 3 ys2 (Y, g7) v7 HJ7.out HE7.out HL7.out
     refine Go.Rg.last_step (i := 5) (o := ⟨some 41,.call ⟨.value (.tmp 36),#[.tmp 40],#[39]⟩,4,"space.go:173",#[⟨0,.data⟩,⟨4,.data⟩,⟨4,.chain⟩],none⟩) (by kernel_rfl) rfl rfl ?_
     refine Go.Rg.yield_step (.inr ⟨_, rfl⟩) rfl rfl rfl hY ?_
     clear hY hHeld hS10 hr7 hg7 hb7
     rintro e w8 (⟨rfl, hj8, hk8⟩ | ⟨rfl, hj8, hk8⟩)
     ·refine ⟨_, rfl, Go.Rg.last_step (i := 6) (o := ⟨some 42,.unOp UnOp.not 4 (.tmp 41),4,"space.go:173",#[⟨5,.data⟩],none⟩) (by kernel_rfl) rfl rfl (Go.Rg.oper_pre (.inr ⟨_, rfl⟩) (fun c e => by cases e) (T := fun _ _ => True) ?_)⟩
      have HJ8 := Lib.hid hj8
      have HK8 := Lib.hid (HK7.out.trans hk8)
      clear hj8 hk8
      go_simp
      refine Go.Rg.last_done (by kernel_rfl) ?_
      gi_wp2
      go_roundw
      case rel => exact ⟨j + 1, by omega, by go_num, ys2 ++ [(Y, g7)], HY7, HJ8, HK8⟩
      case measure => simp [intOf]; omega
     ·refine ⟨_, rfl, Go.Rg.last_step (i := 6) (o := ⟨some 42,.unOp UnOp.not 4 (.tmp 41),4,"space.go:173",#[⟨5,.data⟩],none⟩) (by kernel_rfl) rfl rfl (Go.Rg.oper_pre (.inr ⟨_, rfl⟩) (fun c e => by cases e) (T := fun _ _ => True) ?_)⟩
      have HJ8 := Lib.hid hj8
      have HK8 := Lib.hid (HK7.out.kx (hk8.mono (B := v6.heap.size) (by have := HWS.out; omega)))
      have HP8 : Hid ((ys2 ++ [(Y, g7)]).map Prod.fst <+: flW F (G.getD k []) ((pre ++ [x]).map Prod.fst)) := Lib.hid (by
       rw [HY7.out, List.map_append]
       refine List.IsPrefix.trans ?_ (by rw [show (pre.map Prod.fst ++ [x].map Prod.fst) = pre.map Prod.fst ++ [x.1] from rfl, flW_snoc]; exact List.prefix_refl _)
       rw [List.prefix_append_right_inj]
       exact (List.take_prefix _ _).map _)
      clear hj8 hk8
      go_simp
      refine Go.Rg.last_done (by kernel_rfl) ?_
      gi_wp2
      exact ⟨HK8.out, rfl, _, HP8.out, HJ8.out⟩
    ·have HE : Hid (j = F.q) := Lib.hid (by omega)
     have hlt1 : ¬ (j : Int) < (F.q : Int) := by omega
     have HFL : Hid (ys2.map Prod.fst = flW F (G.getD k []) ((pre ++ [x]).map Prod.fst)) := Lib.hid (by
      rw [HY2.out, HE.out, List.take_of_length_le (by rw [muK_len]; exact Nat.le_refl _), List.map_append]
      exact (flW_snoc F (G.getD k []) (pre.map Prod.fst) x.1).symm)
     gi_wp2
     exact ⟨HK2.out, ys2, HFL.out, HJ2.out, HK6.out⟩

end Go.Proofs.Ytdafhhojiioifaa

/- The iterator of words; small codes. -/
namespace Go.Proofs.Ytdafhhojiioifaa
open Go.RowKit Go.Fl
set_option maxRecDepth 100000
set_option linter.unusedVariables false
set_option linter.unusedSimpArgs false
set_option linter.unusedSectionVars false

open Go.Sq Go.Shelf
attribute [local go_sem] Oper.semAt_some
/-- THE ITERATOR OF WORDS -/
theorem words_in {F : Gf} {b cap n : Nat} {G : List (List Nat)} (hn : n ≤ 100) (hG : Mn F n G) : ∀ (k : Nat), k ≤ G.length → k ≤ 1000 → ∀ (gr gs : Nat) (ga : Option Addr) (cg : Nat) (X : Nat → Prop) (w : World), IT F b cap n k G gr gs ga cg X w → ∀ nf,
  SeqW Fence.wide nf Try.prog 86 #[.pointer (some ⟨gr, 0, none⟩), .pointer (some ⟨gs, 0, none⟩)] (encW n) (EW F n) X (fun ys => ys.map Prod.fst = wdK F n G k) (fun pre => pre.map Prod.fst <+: wdK F n G k) (wdK F n G k).length w
 | 0, _, _, gr, gs, ga, cg, X, w, hI, nf => words_in0 hn hI nf
 | k + 1, hk, h5, gr, gs, ga, cg, X, w, hI, nf => words_inS (words_in hn hG k (by omega) (by omega)) hn hG hk (by omega) hI nf
theorem EW.grow {F : Gf} {n : Nat} {Ow : World → Nat → Prop} {x : Wl} {A A' : World} {row : Option Nat} (h : EW F n Ow x A) (hg : A.grownBy A' row) (hr : ∀ r, row = some r → ∃ o : Obj, A.heap[r]? = some o ∧ o.isCells = false) (hm : ∀ q, Ow A' q → Ow A q) : EW F n Ow x A' := by
 obtain ⟨e1, e2, e3⟩ := h
 refine ⟨e1, own_bx2 e2 (S := fun q => some q = row) ⟨hg.os, hg.tape, hg.output, hg.size, fun q hq hs => hg.block q hq fun e => hs e⟩ (fun q hq hs => ?_), fun e => e3 (hm _ e)⟩
 obtain ⟨o, ho, hc⟩ := hr q hs.symm
 have hh := e2.heap
 injection hq with hq
 have hq2 : x.2 = q := hq
 rw [hq2, ho] at hh
 injection hh with hh
 rw [hh] at hc
 cases hc
set_option maxHeartbeats 3200000 in
theorem few_c {F : Gf} {n m cg : Nat} {G : List (List Nat)} {L : List (Nat × Cf)} {ga : Option Addr} {W : World} (hC : VC F n m G L) (hk : cnK F.q m ≤ 4096) (ng : MM G W (.slice ga m cg)) :
  Calls Try.prog 68 #[DV F.q n (.slice ga m cg)] W fun e w' => ∃ b cap, e = .returned (.tuple #[XV F b cap n, .int .i64 0]) ∧ FldAt F b cap w' ∧ Below W.heap.size W w' ∧ W.heap.size ≤ b := by
 obtain ⟨W1, hW1⟩ : ∃ W1, (W.alloc (.cells #[.int .i64 (F.q : Nat), .int .i64 (n : Nat), .slice ga m cg] 32)).alloc (.cells ZX 73) = W1 := ⟨_, rfl⟩
 have HB1 : Hid (Below W.heap.size W W1) := Lib.hid (by rw [← hW1]; exact ((Below.refl _ _).alloc (Nat.le_refl _) _).alloc (by simp) _)
 have HR1 : Hid (BC (W.heap.size + 1) ZX.toList 73 W1) := Lib.hid (by rw [← hW1]; exact BC.new _ ZX.toList 73 (by simp))
 have HC1 : Hid (BC W.heap.size [.int .i64 (F.q : Nat), .int .i64 (n : Nat), .slice ga m cg] 32 W1) := Lib.hid (by rw [← hW1]; exact (BC.new W [.int .i64 (F.q : Nat), .int .i64 (n : Nat), .slice ga m cg] 32 rfl).alloc _)
 have HS1 : Hid (W1.heap.size = W.heap.size + 2) := Lib.hid (by rw [← hW1]; simp)
 have HA : Hid (Calls Try.prog 54 #[DV F.q n (.slice ga m cg)] W1 fun e w' => ∃ b cap, e = .returned (.tuple #[XV F b cap n, .bool true]) ∧ FldAt F b cap w' ∧ Below W1.heap.size W1 w' ∧ W1.heap.size ≤ b) := Lib.hid (by have := around_c hC.gc (ng.below HB1.out); rw [hC.ar] at this; exact this)
 have HCO : Hid (∀ w, MM G w (.slice ga m cg) → Calls Try.prog 35 #[DV F.q n (.slice ga m cg)] w fun e w' => e = .returned (.int .i64 (cnK F.q m : Nat)) ∧ Below w.heap.size w w') := Lib.hid fun w h => count_c hC h
 have HNG := Lib.hid (ng.below HB1.out)
 obtain ⟨q, hqq⟩ : ∃ q, Hid (F.q = q) := ⟨_, Lib.hid rfl⟩
 rw [hqq.out] at HA HC1 hW1 HCO hk ⊢
 obtain ⟨k5, hk5⟩ : ∃ k, Hid (cnK q m = k) := ⟨_, Lib.hid rfl⟩
 rw [hk5.out] at hk HCO
 have hk4 : (k5 : Int) ≤ 4096 := by omega
 have HW1 := Lib.hid hW1
 have c0 := HC1.out.cell (i := 0) rfl
 have c1 := HC1.out.cell (i := 1) rfl
 have c2 := HC1.out.cell (i := 2) rfl
 clear hW1 hC ng hk
 go_enter Try.func68, Try.ntmps68
 go_upto_region 1 with fail
 rw [HW1.out]
 go_wp2_with fail
 with_reducible refine HA.out.mono ?_
 rintro e w2 ⟨b, cap, rfl, hfa, hb2, hbl⟩
 obtain ⟨w3, hw3⟩ : ∃ w3, w3 = w2.alloc (.cells (XC F b cap n) 73) := ⟨_, rfl⟩
 obtain ⟨x, hx⟩ : ∃ x, x = w2.heap.size := ⟨_, rfl⟩
 have HAL : Hid (Below w2.heap.size w2 w3) := Lib.hid (by rw [hw3]; exact (Below.refl _ _).alloc (Nat.le_refl _) _)
 have HXB : Hid (XB x F b cap n w3) := Lib.hid (by rw [hw3, hx]; exact xb_new w2 rfl)
 have HSX : Hid (W.heap.size + 1 < x ∧ x < w3.heap.size) := Lib.hid ⟨by have := hb2.size; have := HS1.out; omega, by rw [hw3, hx]; simp⟩
 have HFA3 := Lib.hid (hfa.below HAL.out)
 have HR3 := Lib.hid ((HR1.out.below hb2).below HAL.out)
 have HC3 := Lib.hid ((HC1.out.below hb2).below HAL.out)
 have HB13 : Hid (Below W1.heap.size W1 w3) := Lib.hid (hb2.trans (HAL.out.mono hb2.size))
 have HCC : Hid (Calls Try.prog 35 #[DV q n (.slice ga m cg)] w3 fun e w' => e = .returned (.int .i64 (k5 : Nat)) ∧ Below w3.heap.size w3 w') := Lib.hid (HCO.out w3 (HNG.out.below HB13.out))
 have HBB : Hid (W.heap.size + 1 < b) := Lib.hid (by have := HS1.out; omega)
 have HBB0 : Hid (W.heap.size ≤ b) := Lib.hid (by have := HS1.out; omega)
 have HW3 := Lib.hid hw3
 have HXX := Lib.hid hx
 clear hfa hb2 hbl HA c0 c1 c2 hw3 hx
 have c0 := HC3.out.cell (i := 0) rfl
 have c1 := HC3.out.cell (i := 1) rfl
 have c2 := HC3.out.cell (i := 2) rfl
 go_upto_region 4 with fail
 rw [← HW3.out, ← HXX.out]
 go_wp2_with fail
 with_reducible refine HCC.out.mono ?_
 rintro e w6 ⟨rfl, hb6⟩
 have HR6 := Lib.hid (HR3.out.below hb6)
 have HX6 := Lib.hid (HXB.out.below hb6 HSX.out.2)
 have HFA6 := Lib.hid (HFA3.out.below hb6)
 have HB6 : Hid (Below W.heap.size W w6) := Lib.hid (HB1.out.trans ((HB13.out.trans (hb6.mono HB13.out.size)).mono HB1.out.size))
 have HS6 : Hid (W.heap.size + 1 < w6.heap.size) := Lib.hid (by have := hb6.size; have := HSX.out; omega)
 clear hb6 HCC c0 c1 c2
 obtain ⟨x0, x1, x2, x3⟩ := HX6.out
 have r0 := HR6.out.cell (i := 0) rfl
 have g0 := HR6.out.fz 0
 have r1 := HR6.out.cell (i := 1) rfl
 have g1 := HR6.out.fz 1
 have r2 := HR6.out.cell (i := 2) rfl
 have g2 := HR6.out.fz 2
 have r3 := HR6.out.cell (i := 3) rfl
 have g3 := HR6.out.fz 3
 have HFX : Hid (∀ w', w' = ((((w6.setCell ⟨W.heap.size + 1, 0, none⟩ (.int .i64 F.p)).setCell ⟨W.heap.size + 1, 1, none⟩ (.int .i64 F.e)).setCell ⟨W.heap.size + 1, 2, none⟩ (FM F b cap)).setCell ⟨W.heap.size + 1, 3, none⟩ (.int .i64 (n : Nat))) → w'.cell? ⟨W.heap.size + 1, 0, none⟩ = some (.int .i64 F.p) ∧ w'.cell? ⟨W.heap.size + 1, 1, none⟩ = some (.int .i64 F.e) ∧ w'.cell? ⟨W.heap.size + 1, 2, none⟩ = some (FM F b cap) ∧ w'.cell? ⟨W.heap.size + 1, 3, none⟩ = some (.int .i64 (n : Nat)) ∧ FldAt F b cap w' ∧ Below W.heap.size W w') := Lib.hid (by
  intro w' hw
  have hB := HR6.out.set4 (.int .i64 F.p) (.int .i64 F.e) (FM F b cap) (.int .i64 (n : Nat))
  have hX : Bx (fun k => k = W.heap.size + 1) w6 ((((w6.setCell ⟨W.heap.size + 1, 0, none⟩ (.int .i64 F.p)).setCell ⟨W.heap.size + 1, 1, none⟩ (.int .i64 F.e)).setCell ⟨W.heap.size + 1, 2, none⟩ (FM F b cap)).setCell ⟨W.heap.size + 1, 3, none⟩ (.int .i64 (n : Nat))) := bx4 _ _ _ _
  rw [← hw] at hB hX
  exact ⟨hB.cell rfl, hB.cell rfl, hB.cell rfl, hB.cell rfl, HFA6.out.bx hX (fun e => by have := HBB.out; omega), HB6.out.trans (hX.below HB6.out.size fun k hk => by omega)⟩)
 go_wp2
 obtain ⟨d0, d1, d2, d3, hfz, hbz⟩ := HFX.out _ rfl
 exact bodyPost_ret (v := .tuple #[XV F b cap n, .int .i64 0]) (by simp [results, Try.results68, go_sem, d0, d1, d2, d3]) rfl ⟨b, cap, rfl, hfz, hbz, HBB0.out⟩

end Go.Proofs.Ytdafhhojiioifaa
