/- What is left of a word, weights, products, rows that are words. -/
import Derived.Test.YtdafhhojiioifaaCc
import Derived.Maps.AppendAt
namespace Go.Proofs.Ytdafhhojiioifaa
open Go.RowKit Go.Fl
set_option maxRecDepth 100000
set_option linter.unusedVariables false
set_option linter.unusedSimpArgs false
set_option linter.unusedSectionVars false

theorem set_head {F : Gf} {b cap n : Nat} {W : World} : ∃ W0, W.alloc (.cells (XC F b cap n) 73) = W0 ∧ Below W.heap.size W W0 ∧ W.heap.size < W0.heap.size ∧ XB W.heap.size F b cap n W0 :=
 ⟨_, rfl, (Below.refl _ _).alloc (Nat.le_refl _) _, by simp, xb_new W rfl⟩
theorem rsV_succ {F : Gf} {n : Nat} {D : List (List Nat)} {V : List Nat} {k : Nat} (hk : k < D.length) : rsV F n (D.take (k + 1)) V = clV F n (rsV F n (D.take k) V) (D.getD k []) := by
 rw [List.take_succ_eq_append_getElem hk, List.getD_eq_getElem?_getD, List.getElem?_eq_getElem hk]
 unfold rsV; rw [List.foldl_append]; rfl
theorem MM.at' {R : List (List Nat)} {w : World} {a : Option Addr} {m c n : Nat} (h : MM R w (.slice a m c)) (hw : ∀ t, t < R.length → (R.getD t []).length = n) {k : Nat} (hk : k < m) : ∃ b o, a = some ⟨b, o, none⟩ ∧ ∃ a' c', w.cell? ⟨b, o + k, none⟩ = some (.slice a' n c') ∧ NN (R.getD k []) w (.slice a' n c') := by
 rcases h with ⟨e, h⟩ | ⟨b', off', cap', h, g1, g2, g3⟩
 ·injection h with h1 h2; omega
 ·injection h with h1 h2 h3
  obtain ⟨a', c', h4, h5⟩ := g3 k (by omega)
  rw [hw k (by omega)] at h4 h5
  exact ⟨b', off', h1, a', c', h4, h5⟩
theorem mrow {F : Gf} {n : Nat} {D : List (List Nat)} (hD : Mn F n D) {t : Nat} (ht : t < D.length) : Vn F n (D.getD t []) := by
 rw [List.getD_eq_getElem?_getD, List.getElem?_eq_getElem ht]; exact hD _ (List.getElem_mem ht)
/-- a word is answered -/
def VQ (n : Nat) (L : List Nat) (W : World) (e : Ending) (w' : World) : Prop := ∃ a c, e = .returned (.slice a n c) ∧ NN L w' (.slice a n c) ∧ Below W.heap.size W w'
set_option maxHeartbeats 3200000 in
theorem krest_c {F : Gf} {b cap n m cv cd : Nat} {V : List Nat} {D : List (List Nat)} {av ad : Option Addr} {W : World} (hA : FldAt F b cap W) (hn : n ≤ 1000) (hm : m ≤ 1000) (mv : Vn F n V) (md : Mn F n D) (ld : D.length = m) (hp : ∀ t, t < m → pvt (fn (D.getD t [])) n < n) (nv : NN V W (.slice av n cv)) (nd : MM D W (.slice ad m cd)) :
  Calls Try.prog 62 #[XV F b cap n, .slice av n cv, .slice ad m cd] W (VQ n (rsV F n D V) W) := by
 have HFF : Hid (Ok F) := Lib.hid (ok_mem hA.mem)
 obtain ⟨W0, hW0, hB0, hS, hX⟩ := set_head (F := F) (b := b) (cap := cap) (n := n) (W := W)
 have HB0 := Lib.hid hB0
 have HS0 := Lib.hid hS
 have HXB := Lib.hid hX
 have HA0 := Lib.hid (hA.below hB0)
 have HNV := Lib.hid (nv.below hB0)
 have HND := Lib.hid (nd.below hB0)
 have HMV := Lib.hid mv
 have HMD := Lib.hid md
 have HLD := Lib.hid ld
 have HPP := Lib.hid hp
 have HW0 := Lib.hid hW0
 obtain ⟨x0, x1, x2, x3⟩ := HXB.out
 clear hW0 hB0 hS hX hA nv nd mv md ld hp
 go_enter Try.func62, Try.ntmps62
 go_wp2_with fail
 rw [HW0.out]
 go_wp2
 go_loopw [1, 11] (fun v i wr => ∃ k : Nat, k ≤ m ∧ i = .int .i64 k ∧ (∃ a c, v = .slice a n c ∧ Hid (NN (rsV F n (D.take k) V) wr (.slice a n c))) ∧ Hid (Below W0.heap.size W0 wr)) (fun _ i _ => m - (intOf i).toNat)
 case atStart => exact ⟨0, Nat.zero_le _, rfl, ⟨_, _, rfl, HNV⟩, Below.refl _ _⟩
 case round =>
  obtain ⟨k, hk, rfl, ⟨a1, c1, rfl, KN⟩, KB⟩ := hrel
  clear x0 x1 x2 x3
  have HNK := Lib.hid KN.out
  by_cases hlt : k < m
  ·obtain ⟨bd, od, had, a2, c2, hc2, hn2⟩ := (HND.out.below KB.out).at' (fun t ht => (mrow HMD.out ht).len) hlt
   subst had
   have HC : Hid (Calls Try.prog 76 #[XV F b cap n, .slice a1 n c1, .slice a2 n c2] wr (RPost (clV F n (rsV F n (D.take k) V) (D.getD k [])) wr)) := Lib.hid (cleared_c (HA0.out.below KB.out) hn (rsV_vn HFF.out HMV.out) (mrow HMD.out (by rw [HLD.out]; exact hlt)) (HPP.out k hlt) KN.out hn2)
   obtain ⟨x0, x1, x2, x3⟩ := HXB.out.below KB.out HS0.out
   have HE : Hid (rsV F n (D.take (k + 1)) V = clV F n (rsV F n (D.take k) V) (D.getD k [])) := Lib.hid (rsV_succ (by rw [HLD.out]; exact hlt))
   have HL : Hid ((rsV F n (D.take (k + 1)) V).length = n) := Lib.hid (rsV_vn HFF.out HMV.out).len
   clear hn2
   go_wp2_with fail
   with_reducible refine HC.out.mono ?_
   rintro e w3 ⟨g, hg, rfl, hr, hb⟩
   rw [← HE.out] at hr
   rw [← HE.out, HL.out]
   have HN3 : Hid (NN (rsV F n (D.take (k + 1)) V) w3 (.slice (some ⟨g, 0, none⟩) n n)) := Lib.hid (by have := hr.nn; rw [HL.out] at this; exact this)
   have HB3 := Lib.hid (KB.out.trans (hb.mono KB.out.size))
   clear hg hr hb HC x0 x1 x2 x3 hc2
   go_wp2
   go_roundw
   case rel => exact ⟨k + 1, by omega, by go_num, ⟨_, _, rfl, HN3⟩, HB3⟩
   case measure => simp [intOf]; omega
  ·obtain rfl : k = m := by omega
   have hlt1 : ¬ (k : Int) < (k : Int) := by omega
   have HNF : Hid (NN (rsV F n D V) wr (.slice a1 n c1)) := Lib.hid (by have := KN.out; rw [← HLD.out, List.take_length] at this; exact this)
   have HBF := Lib.hid (HB0.out.trans (KB.out.mono HB0.out.size))
   clear KN HNK
   go_wp2
   go_ret
   exact ⟨a1, c1, rfl, HNF.out, HBF.out⟩
/-- the number of elements other than 0 -/
def wtK (L : List Nat) (k : Nat) : Nat := (L.take k).countP (· != 0)
def wtV (L : List Nat) : Nat := L.countP (· != 0)
theorem wtK_succ {L : List Nat} {k : Nat} (hk : k < L.length) : wtK L (k + 1) = wtK L k + if L.getD k 0 = 0 then 0 else 1 := by
 unfold wtK
 rw [List.take_succ_eq_append_getElem hk, List.countP_append, List.getD_eq_getElem?_getD, List.getElem?_eq_getElem hk]
 simp only [Option.getD_some, List.countP_cons, List.countP_nil]
 by_cases h : L[k] = 0 <;> simp [h]
theorem wtK_le (L : List Nat) (k : Nat) : wtK L k ≤ k := by
 unfold wtK
 refine Nat.le_trans List.countP_le_length ?_
 rw [List.length_take]; omega
theorem weight_c {L : List Nat} {n c : Nat} {a : Option Addr} {W : World} (hl : L.length = n) (hn : n ≤ 100000) (h : NN L W (.slice a n c)) :
  Calls Try.prog 61 #[.slice a n c] W fun e w' => e = .returned (.int .i64 (wtV L : Nat)) ∧ Below W.heap.size W w' := by
 have HN := Lib.hid h
 have HL := Lib.hid hl
 clear h hl
 go_enter Try.func61, Try.ntmps61
 go_wp2
 go_loopw [3, 8] (fun s i wr => ∃ k t : Nat, k ≤ n ∧ t ≤ k ∧ s = .int .i64 (t : Nat) ∧ i = .int .i64 k ∧ Hid (wtK L k = t) ∧ Hid (Below W.heap.size W wr)) (fun _ i _ => n - (intOf i).toNat)
 case atStart => exact ⟨0, 0, Nat.zero_le _, Nat.zero_le _, rfl, rfl, Lib.hid rfl, Below.refl _ _⟩
 case round =>
  obtain ⟨k, t, hk, ht, rfl, rfl, KT, KB⟩ := hrel
  have HBF := Lib.hid KB.out
  by_cases hlt : k < n
  ·obtain ⟨x, hx⟩ : ∃ x, L.getD k 0 = x := ⟨_, rfl⟩
   obtain ⟨b1, o1, rfl, _, hc⟩ := (HN.out.below KB.out).at' hlt
   rw [hx] at hc
   have hk5 : k < 100000 := by omega
   have HST := Lib.hid (wtK_succ (L := L) (k := k) (by rw [HL.out]; exact hlt))
   rw [hx, KT.out] at HST
   clear hx
   by_cases h0 : x = 0
   ·subst h0
    have HS : Hid (wtK L (k + 1) = t) := Lib.hid (by have := HST.out; rw [if_pos rfl] at this; exact this)
    go_wp2
    go_roundw
    case rel => exact ⟨k + 1, t, by omega, by omega, rfl, by go_num, HS, HBF⟩
    case measure => simp [intOf]; omega
   ·have hx0 : ((x : Int) != 0) = true := by simpa using h0
    have HS : Hid (wtK L (k + 1) = t + 1) := Lib.hid (by have := HST.out; rw [if_neg h0] at this; exact this)
    go_wp2
    go_roundw
    case rel => exact ⟨k + 1, t + 1, by omega, by omega, by go_num, by go_num, HS, HBF⟩
    case measure => simp [intOf]; omega
  ·obtain rfl : k = n := by omega
   have hlt1 : ¬ (k : Int) < (k : Int) := by omega
   have HE : Hid (wtV L = t) := Lib.hid (by have := KT.out; unfold wtK at this; rw [← HL.out, List.take_length] at this; exact this)
   go_wp2
   go_ret
   exact ⟨by rw [HE.out]; rfl, HBF.out⟩
set_option maxHeartbeats 3200000 in
theorem product_c {F : Gf} {b cap n cv cx : Nat} {V X : List Nat} {av ax : Option Addr} {W : World} (hA : FldAt F b cap W) (hn : n ≤ 1000) (mv : Vn F n V) (mx : Vn F n X) (nv : NN V W (.slice av n cv)) (nx : NN X W (.slice ax n cx)) :
  Calls Try.prog 65 #[XV F b cap n, .slice av n cv, .slice ax n cx] W fun e w' => e = .returned (.int .i64 (dt F n (fn V) (fn X) : Nat)) ∧ Below W.heap.size W w' := by
 have HFF : Hid (Ok F) := Lib.hid (ok_mem hA.mem)
 obtain ⟨W0, hW0, hB0, hS, hX⟩ := set_head (F := F) (b := b) (cap := cap) (n := n) (W := W)
 have HB0 := Lib.hid hB0
 have HS0 := Lib.hid hS
 have HXB := Lib.hid hX
 have HA0 := Lib.hid (hA.below hB0)
 have HNV := Lib.hid (nv.below hB0)
 have HNX := Lib.hid (nx.below hB0)
 have HMV := Lib.hid mv
 have HMX := Lib.hid mx
 have HW0 := Lib.hid hW0
 rw [← dK_end]
 clear hW0 hB0 hS hX hA nv nx mv mx
 go_enter Try.func65, Try.ntmps65
 go_wp2_with fail
 rw [HW0.out]
 go_wp2
 go_loopw [7, 12] (fun s i wr => ∃ k : Nat, k ≤ n ∧ s = .int .i64 (dK F (fn V) (fn X) k : Nat) ∧ i = .int .i64 k ∧ Hid (Below W0.heap.size W0 wr)) (fun _ i _ => n - (intOf i).toNat)
 case atStart => exact ⟨0, Nat.zero_le _, rfl, rfl, Below.refl _ _⟩
 case round =>
  obtain ⟨k, hk, hs, rfl, KB⟩ := hrel
  obtain ⟨ss, HSS⟩ : ∃ x, Hid (dK F (fn V) (fn X) k = x) := ⟨_, Lib.hid rfl⟩
  rw [HSS.out] at hs
  subst hs
  by_cases hlt : k < n
  ·obtain ⟨bv, ov, hav, hbv, hcv⟩ := (HNV.out.below KB.out).at' hlt
   obtain ⟨bx, ox, hax, hbx, hcx⟩ := (HNX.out.below KB.out).at' hlt
   have hbx0 : bx < W0.heap.size := by obtain ⟨_, _, e, h, _⟩ := HNX.out.at' hlt; rw [hax] at e; cases e; exact h
   subst hav hax
   obtain ⟨vv, hvv⟩ : ∃ x, Hid (V.getD k 0 = x) := ⟨_, rfl⟩
   obtain ⟨xx, hxx⟩ : ∃ x, Hid (X.getD k 0 = x) := ⟨_, rfl⟩
   have HV : Hid (vv < F.q) := Lib.hid (by rw [← hvv.out]; exact HMV.out.el.get HFF.out k)
   have HX : Hid (xx < F.q) := Lib.hid (by rw [← hxx.out]; exact HMX.out.el.get HFF.out k)
   have HS : Hid (ss < F.q) := Lib.hid (by rw [← HSS.out]; exact dK_lt HFF.out _ _ _)
   rw [hvv.out] at hcv
   rw [hxx.out] at hcx
   have HLT : Hid (W.heap.size < W0.heap.size ∧ bx < W0.heap.size) := Lib.hid ⟨HS0.out, hbx0⟩
   have hS0 : PB W0 W.heap.size F b cap n bx (ox + k) xx wr.drew := ⟨HXB.out.below (KB.out.trans (Below.refl _ _).drew) HS0.out, hcx, Lib.hid (KB.out.trans (Below.refl _ _).drew)⟩
   clear hbv hbx hbx0
   go_wp2_with fail
   refine wp_region_held_drew (S := fun w' => PB W0 W.heap.size F b cap n bx (ox + k) xx w') (by kernel_rfl) (by with_reducible exact hS0) (fun hHeld => ?_)
   refine Rg.tk 0 ⟨some 17,.fieldAddr 73 (.tmp 3) 0,0,"space.go:82",#[],none⟩ ?_
   try simp only [Rg.gp]
   refine Rg.tk 1 ⟨some 18,.load 53 (.tmp 17),53,"space.go:82",#[⟨0,.data⟩],none⟩ ?_
   try simp only [Rg.gp]
   refine Rg.tk 2 ⟨some 19,.move (.tmp 7),3,"space.go:82",#[],none⟩ ?_
   try simp only [Rg.gp]
   refine Rg.tk 3 ⟨some 20,.fieldAddr 73 (.tmp 3) 0,0,"space.go:82",#[],none⟩ ?_
   try simp only [Rg.gp]
   refine Rg.tk 4 ⟨some 21,.load 53 (.tmp 20),53,"space.go:82",#[⟨3,.data⟩],none⟩ ?_
   try simp only [Rg.gp]
   refine Rg.tk 5 ⟨some 22,.move (.tmp 9),3,"space.go:82",#[],none⟩ ?_
   try simp only [Rg.gp]
   refine Rg.tk 6 ⟨some 23,.move (.tmp 2),39,"space.go:82",#[],none⟩ ?_
   try simp only [Rg.gp]
   refine Rg.tk 7 ⟨some 24,.move (.tmp 8),3,"space.go:82",#[],none⟩ ?_
   try simp only [Rg.gp]
   refine Rg.tk 8 ⟨some 25,.indexAddr 39 (.tmp 23) (.tmp 24),0,"space.go:82",#[⟨6,.data⟩,⟨7,.data⟩],none⟩ ?_
   try simp only [Rg.gp]
   refine Rg.tk 9 ⟨some 26,.load 3 (.tmp 25),3,"space.go:82",#[⟨8,.data⟩],none⟩ ?_
   try simp only [Rg.gp]
   refine Rg.rd1 10 ⟨some 27,.call ⟨.value (.func 82),#[.tmp 21,.tmp 22,.tmp 26],#[53,3,3]⟩,3,"space.go:82",#[⟨4,.data⟩,⟨5,.data⟩,⟨9,.data⟩],none⟩ fun K hK => ?_
   go_simp
   go_at_call 82
   with_reducible refine (fmul_c HV.out HX.out (HA0.out.below hHeld.2.2.out)).mono ?_
   rintro z v1 ⟨rfl, hb3⟩
   replace hb3 := hb3.mono hHeld.2.2.out.size
   refine hK.out _ _ ?_ (fun hHeld => ?_)
   ·(try dsimp only)
    exact PB.go hHeld hb3 HLT.out
   clear hK K
   try simp only [Rg.gp]
   refine Rg.rd1 11 ⟨some 28,.call ⟨.value (.func 81),#[.tmp 18,.tmp 19,.tmp 27],#[53,3,3]⟩,3,"space.go:82",#[⟨1,.data⟩,⟨2,.data⟩,⟨10,.data⟩,⟨10,.chain⟩],none⟩ fun K hK => ?_
   go_simp
   go_at_call 81
   with_reducible refine (fadd_c HS.out (HFF.out.mul_lt _ _) (HA0.out.below hHeld.2.2.out)).mono ?_
   rintro z v2 ⟨rfl, hb4⟩
   replace hb4 := hb4.mono hHeld.2.2.out.size
   refine hK.out _ _ ?_ (fun hHeld => ?_)
   ·(try dsimp only)
    exact PB.go hHeld hb4 HLT.out
   clear hK K
   try simp only [Rg.gp]
   refine Rg.tk 12 ⟨some 7,.assign (.tmp 28),3,"space.go:82",#[⟨11,.data⟩,⟨11,.chain⟩,⟨0,.phase⟩,⟨1,.phase⟩,⟨2,.phase⟩,⟨3,.phase⟩,⟨4,.phase⟩,⟨5,.phase⟩,⟨6,.phase⟩,⟨7,.phase⟩,⟨8,.phase⟩,⟨9,.phase⟩,⟨10,.phase⟩,⟨11,.phase⟩],none⟩ ?_
   try simp only [Rg.gp]
   refine wpAnyH_done (by kernel_rfl) ?_ _
   have HB3 := Lib.hid hHeld.2.2.out
   clear hHeld hS0 hb3 hb4
   go_wp2
   go_roundw
   case rel => exact ⟨k + 1, by omega, by rw [dK_succ HFF.out (HMV.out.fn HFF.out) (HMX.out.fn HFF.out) k, HSS.out, show fn V k = vv from hvv.out, show fn X k = xx from hxx.out], by go_num, HB3⟩
   case measure => simp [intOf]; omega
  ·obtain rfl : k = n := by omega
   have hlt1 : ¬ (k : Int) < (k : Int) := by omega
   have HBF := Lib.hid (HB0.out.trans (KB.out.mono HB0.out.size))
   go_wp2
   go_ret
   exact ⟨by rw [HSS.out]; rfl, HBF.out⟩
/-- the rows are words -/
def MI (R : List (List Int)) (w : World) (v : Value) : Prop := (R = [] ∧ v = .slice none 0 0) ∨ ∃ b off cap, v = .slice (some ⟨b, off, none⟩) R.length cap ∧ R.length ≤ cap ∧ b < w.heap.size ∧
 ∀ t, t < R.length → ∃ a c, w.cell? ⟨b, off + t, none⟩ = some (.slice a (R.getD t []).length c) ∧ NI (R.getD t []) w (.slice a (R.getD t []).length c)
theorem MI.below {R : List (List Int)} {w w' : World} {v : Value} (h : MI R w v) (hb : Below w.heap.size w w') : MI R w' v := by
 rcases h with h | ⟨b, off, cap, h1, h2, h3, h4⟩
 ·exact .inl h
 ·refine .inr ⟨b, off, cap, h1, h2, Nat.lt_of_lt_of_le h3 hb.size, fun t ht => ?_⟩
  obtain ⟨a, c, g1, g2⟩ := h4 t ht
  exact ⟨a, c, (hb.cell h3).trans g1, g2.below hb⟩
theorem MI.at {R : List (List Int)} {w : World} {a : Option Addr} {c : Nat} (h : MI R w (.slice a R.length c)) {k : Nat} (hk : k < R.length) : ∃ b o, a = some ⟨b, o, none⟩ ∧ ∃ a' c', w.cell? ⟨b, o + k, none⟩ = some (.slice a' (R.getD k []).length c') ∧ NI (R.getD k []) w (.slice a' (R.getD k []).length c') := by
 rcases h with ⟨e, h⟩ | ⟨b', off', cap', h, g1, g2, g3⟩
 ·rw [e] at hk; simp at hk
 ·injection h with h1 h2 h3; exact ⟨b', off', h1, g3 k hk⟩
theorem MM.mi {R : List (List Nat)} {w : World} {v : Value} (h : MM R w v) : MI (R.map ints) w v := by
 rcases h with ⟨rfl, h⟩ | ⟨b, off, cap, h1, h2, h3, h4⟩
 ·exact .inl ⟨rfl, h⟩
 ·refine .inr ⟨b, off, cap, by rw [List.length_map]; exact h1, by rw [List.length_map]; exact h2, h3, fun t ht => ?_⟩
  rw [List.length_map] at ht
  obtain ⟨a, c, g1, g2⟩ := h4 t ht
  have e : (R.map ints).getD t [] = ints (R.getD t []) := by
   simp only [List.getD_eq_getElem?_getD, List.getElem?_map, List.getElem?_eq_getElem ht]; rfl
  rw [e, ints_len]
  exact ⟨a, c, g1, by have := g2.ni; exact this⟩
def allW (q n : Nat) (R : List (List Int)) : Bool := R.all fun r => decide (r.length = n) && elI q r
theorem allW_no {q n : Nat} {R : List (List Int)} {k : Nat} (hk : k < R.length) (h : (decide ((R.getD k []).length = n) && elI q (R.getD k [])) = false) : allW q n R = false := by
 unfold allW
 rw [List.all_eq_false]
 refine ⟨R[k], List.getElem_mem hk, ?_⟩
 rw [List.getD_eq_getElem?_getD, List.getElem?_eq_getElem hk] at h
 rw [show (some R[k]).getD [] = R[k] from rfl] at h
 rw [h]; simp
theorem allW_yes {q n : Nat} {R : List (List Int)} (h : ∀ j, j < R.length → (decide ((R.getD j []).length = n) && elI q (R.getD j [])) = true) : allW q n R = true := by
 unfold allW
 rw [List.all_eq_true]
 intro x hx
 obtain ⟨i, hi, rfl⟩ := List.getElem_of_mem hx
 have := h i hi
 rw [List.getD_eq_getElem?_getD, List.getElem?_eq_getElem hi] at this
 exact this
theorem allW_mn {F : Gf} {n : Nat} {R : List (List Nat)} (h : Mn F n R) : allW F.q n (R.map ints) = true := by
 unfold allW
 rw [List.all_eq_true]
 intro x hx
 obtain ⟨r, hr, rfl⟩ := List.mem_map.1 hx
 rw [ints_len, (h r hr).len, elI_in (h r hr).el]; simp
theorem hasall_c {F : Gf} {b cap n c : Nat} {R : List (List Int)} {a : Option Addr} {W : World} (hF : F ∈ fds) (hm : R.length ≤ 1000) (hl : ∀ t, t < R.length → (R.getD t []).length ≤ 100000) (h : MI R W (.slice a R.length c)) :
  Calls Try.prog 50 #[XV F b cap n, .slice a R.length c] W fun e w' => e = .returned (.bool (allW F.q n R)) ∧ Below W.heap.size W w' := by
 obtain ⟨W0, hW0, hB0, hS, hX⟩ := set_head (F := F) (b := b) (cap := cap) (n := n) (W := W)
 have HB0 := Lib.hid hB0
 have HS0 := Lib.hid hS
 have HXB := Lib.hid hX
 have HN := Lib.hid (h.below hB0)
 have HL := Lib.hid hl
 have HF := Lib.hid hF
 have HW0 := Lib.hid hW0
 obtain ⟨x0, x1, x2, x3⟩ := HXB.out
 obtain ⟨B, hB⟩ : ∃ B, Hid (allW F.q n R = B) := ⟨_, Lib.hid rfl⟩
 rw [hB.out]
 obtain ⟨m, hmm⟩ : ∃ m, Hid (R.length = m) := ⟨_, Lib.hid rfl⟩
 rw [hmm.out] at hm ⊢
 clear hW0 hB0 hS hX h hl hF
 go_enter Try.func50, Try.ntmps50
 go_wp2_with fail
 rw [HW0.out]
 go_wp2
 go_loopw [9] (fun i wr => ∃ k : Nat, k ≤ m ∧ i = .int .i64 k ∧ Hid (∀ j, j < k → (decide ((R.getD j []).length = n) && elI F.q (R.getD j [])) = true) ∧ Hid (Below W0.heap.size W0 wr)) (fun i _ => m - (intOf i).toNat)
 case atStart => exact ⟨0, Nat.zero_le _, rfl, Lib.hid (fun j hj => by omega), Below.refl _ _⟩
 case round =>
  obtain ⟨k, hk, rfl, KZ, KB⟩ := hrel
  have HBF := Lib.hid (HB0.out.trans (KB.out.mono HB0.out.size))
  clear x0 x1 x2 x3
  by_cases hlt : k < m
  ·have HKM : Hid (k < R.length) := Lib.hid (by rw [hmm.out]; exact hlt)
   obtain ⟨b1, o1, hab, a2, c2, hc, hn⟩ := (show MI R wr (.slice a R.length c) from by rw [hmm.out]; have := HN.out.below KB.out; rw [hmm.out] at this; exact this).at HKM.out
   subst hab
   have HC : Hid (Calls Try.prog 60 #[XV F b cap n, .slice a2 (R.getD k []).length c2] wr fun e w' => e = .returned (.bool (decide ((R.getD k []).length = n) && elI F.q (R.getD k []))) ∧ Below wr.heap.size wr w') := Lib.hid (has_c HF.out (HL.out k HKM.out) hn)
   obtain ⟨T, hT⟩ : ∃ T, Hid ((decide ((R.getD k []).length = n) && elI F.q (R.getD k [])) = T) := ⟨_, Lib.hid rfl⟩
   rw [hT.out] at HC
   obtain ⟨l2, hl2⟩ : ∃ l, Hid ((R.getD k []).length = l) := ⟨_, Lib.hid rfl⟩
   rw [hl2.out] at HC hc
   obtain ⟨x0, x1, x2, x3⟩ := HXB.out.below KB.out HS0.out
   clear hn
   go_wp2_with fail
   with_reducible refine HC.out.mono ?_
   rintro e w3 ⟨rfl, hb⟩
   have HB3 := Lib.hid (KB.out.trans (hb.mono KB.out.size))
   have HBF3 := Lib.hid (HB0.out.trans (HB3.out.mono HB0.out.size))
   clear hb HC hc x0 x1 x2 x3
   cases T with
   | true =>
    go_wp2
    go_roundw
    case rel => exact ⟨k + 1, by omega, by go_num, Lib.hid (fun j hj => by
     by_cases e : j = k
     ·rw [e]; exact hT.out
     ·exact KZ.out j (by omega)), HB3⟩
    case measure => simp [intOf]; omega
   | false =>
    have HR : Hid (B = false) := Lib.hid (by rw [← hB.out]; exact allW_no HKM.out hT.out)
    go_wp2
    go_ret
    exact ⟨by rw [HR.out]; rfl, HBF3.out⟩
  ·have HR : Hid (B = true) := Lib.hid (by rw [← hB.out]; exact allW_yes fun j hj => KZ.out j (by rw [hmm.out] at hj; omega))
   have hlt1 : ¬ (k : Int) < (m : Int) := by omega
   go_wp2
   go_ret
   exact ⟨by rw [HR.out]; rfl, HBF.out⟩

end Go.Proofs.Ytdafhhojiioifaa

/- Lists of rows of the call own; rows put in order. -/
namespace Go.Proofs.Ytdafhhojiioifaa
open Go.RowKit Go.Fl
set_option maxRecDepth 100000
set_option linter.unusedVariables false
set_option linter.unusedSimpArgs false
set_option linter.unusedSectionVars false

/-- all blocks but those of S are as they were -/
structure Bx (S : Nat → Prop) (w w' : World) : Prop where
 os : w'.os = w.os
 tape : w'.tape = w.tape
 output : w'.output = w.output
 size : w.heap.size ≤ w'.heap.size
 block : ∀ k, k < w.heap.size → ¬ S k → w'.heap[k]? = w.heap[k]?
theorem Bx.refl (S : Nat → Prop) (w : World) : Bx S w w := ⟨rfl, rfl, rfl, Nat.le_refl _, fun _ _ _ => rfl⟩
theorem Bx.trans {S : Nat → Prop} {a b c : World} (h : Bx S a b) (k : Bx S b c) : Bx S a c :=
 ⟨k.os.trans h.os, k.tape.trans h.tape, k.output.trans h.output, Nat.le_trans h.size k.size, fun i hi hs => (k.block i (Nat.lt_of_lt_of_le hi h.size) hs).trans (h.block i hi hs)⟩
theorem Bx.of {S : Nat → Prop} {a b : World} (h : Below a.heap.size a b) : Bx S a b := ⟨h.os, h.tape, h.output, h.size, fun k hk _ => h.block k hk⟩
theorem Bx.mono {S T : Nat → Prop} {a b : World} (h : Bx S a b) (hs : ∀ k, S k → T k) : Bx T a b := ⟨h.os, h.tape, h.output, h.size, fun k hk ht => h.block k hk fun e => ht (hs k e)⟩
theorem Bx.drew {S : Nat → Prop} {a b : World} (h : Bx S a b) : Bx S a b.drew := ⟨h.os, h.tape, h.output, h.size, h.block⟩
theorem Bx.set {S : Nat → Prop} {w : World} {r t : Nat} (h : S r) (x : Value) : Bx S w (w.setCell ⟨r, t, none⟩ x) :=
 ⟨rfl, rfl, rfl, by simp [World.setCell], fun k _ hs => Below.heap_setCell _ _ _ _ fun e => hs (by rw [show k = r from e]; exact h)⟩
theorem Bx.below {S : Nat → Prop} {a b : World} (h : Bx S a b) {B : Nat} (hB : B ≤ a.heap.size) (hs : ∀ k, S k → B ≤ k) : Below B a b :=
 ⟨h.os, h.tape, h.output, h.size, fun k hk => h.block k (by omega) fun e => by have := hs k e; omega⟩
theorem Bx.cell {S : Nat → Prop} {a b : World} (h : Bx S a b) {p : Addr} (hp : p.block < a.heap.size) (hs : ¬ S p.block) : b.cell? p = a.cell? p := World.cell?_of_block (w := a) (h.block p.block hp hs)
theorem NN.bx {L : List Nat} {w w' : World} {v : Value} (h : NN L w v) {S : Nat → Prop} (hb : Bx S w w') (hs : ∀ r o n c, v = .slice (some ⟨r, o, none⟩) n c → ¬ S r) : NN L w' v := by
 rcases h with h | ⟨b, off, cap, h1, h2, h3, h4⟩
 ·exact .inl h
 ·exact .inr ⟨b, off, cap, h1, h2, Nat.lt_of_lt_of_le h3 hb.size, fun t ht => (hb.cell h3 (hs _ _ _ _ h1)).trans (h4 t ht)⟩
theorem getD_snoc {α : Type} {d x : α} {l : List α} {i : Nat} : (l ++ [x]).getD i d = if i < l.length then l.getD i d else if i = l.length then x else d := by
 simp only [List.getD_eq_getElem?_getD]
 by_cases h : i < l.length
 ·rw [if_pos h, List.getElem?_append_left h]
 ·rw [if_neg h, List.getElem?_append_right (by omega)]
  by_cases e : i = l.length
  ·rw [if_pos e, e]; simp
  ·rw [if_neg e, List.getElem?_eq_none (by simp; omega)]; rfl
/-- rows that are answered by calls, appended one by one -/
structure OL (D : List (List Nat)) (us : List Value) (base : Nat) (w : World) (v : Value) : Prop where
 own : w.ownsRow base 39 1 v D.length us
 row : ∀ i, i < D.length → w.ownsRow 0 3 1 (us.getD i undef) (D.getD i []).length ((D.getD i []).map N64)
section
variable {D : List (List Nat)} {us : List Value} {n base : Nat} {w w' : World} {v v' : Value}
theorem OL.nil (base : Nat) (w : World) (hb : base ≤ w.heap.size) : OL [] [] base (w.alloc (.cells #[] 39)) (.slice (some ⟨w.heap.size, 0, none⟩) 0 0) :=
 ⟨World.ownsRow_made w #[] 0 hb (Nat.zero_le _) rfl, fun i hi => absurd hi (by simp)⟩
theorem OL.ulen (h : OL D us base w v) : us.length = D.length := by have := h.own.1; omega
theorem OL.shape (h : OL D us base w v) : ∃ a c, v = .slice a D.length c := by
 rcases h.own.2 with ⟨e, e2⟩ | ⟨g, cap, cur, e, _⟩
 ·exact ⟨none, 0, by rw [e, e2]⟩
 ·exact ⟨_, _, e⟩
theorem own_bx2 {S : Nat → Prop} {e : TypeId} {size m : Nat} {xs : List Value} (h : w.ownsRow base e size v m xs) (hb : Bx S w w') (hs : ∀ k, v.ownBlock = some k → ¬ S k) : w'.ownsRow base e size v m xs := by
 obtain ⟨h1, h2⟩ := h
 refine ⟨h1, h2.imp_right ?_⟩
 rintro ⟨g, cap, cur, rfl, a2, a3, a4⟩
 have hg : g < w.heap.size := by
  rcases Nat.lt_or_ge g w.heap.size with h | h
  ·exact h
  ·rw [Array.getElem?_eq_none h] at a3; cases a3
 exact ⟨g, cap, cur, rfl, a2, (hb.block g hg (hs g rfl)).trans a3, a4⟩
/-- rows of two types lie in two blocks -/
theorem own_ty {b1 b2 : Nat} {e1 e2 : TypeId} {s1 s2 m1 m2 : Nat} {x1 x2 : List Value} (h1 : w.ownsRow b1 e1 s1 v m1 x1) (h2 : w.ownsRow b2 e2 s2 v' m2 x2) (hne : e1 ≠ e2) : ∀ k, v.ownBlock = some k → ¬ (some k = v'.ownBlock) := by
 intro k hk he
 rcases h1.2 with ⟨rfl, _⟩ | ⟨g, cap, cur, rfl, _, g3, _⟩
 ·cases hk
 ·injection hk with hk
  rcases h2.2 with ⟨rfl, _⟩ | ⟨g', cap', cur', rfl, _, g3', _⟩
  ·cases he
  ·injection he with he
   have e : g = g' := hk.trans he
   rw [e, g3'] at g3
   injection g3 with g3
   injection g3 with _ g3 _
   exact hne g3.symm
theorem OL.below (h : OL D us base w v) (hb : Below w.heap.size w w') : OL D us base w' v :=
 ⟨own_belowK h.own hb, fun i hi => own_belowK (h.row i hi) hb⟩
theorem OL.push (h : OL D us base w v) {L : List Nat} {u : Value} (hr : w.ownsRow 0 3 1 u L.length (L.map N64)) {m : Nat} (hm : m = D.length + 1) (hown : w'.ownsRow base 39 1 v' m (us ++ [u])) (hg : w.grownBy w' v.ownBlock) : OL (D ++ [L]) (us ++ [u]) base w' v' := by
 subst hm
 have hbx : Bx (fun k => some k = v.ownBlock) w w' := ⟨hg.os, hg.tape, hg.output, hg.size, hg.block⟩
 refine ⟨by rw [List.length_append, List.length_singleton]; exact hown, fun i hi => ?_⟩
 rw [List.length_append, List.length_singleton] at hi
 rw [getD_snoc, getD_snoc, h.ulen]
 by_cases e : i < D.length
 ·rw [if_pos e, if_pos e]; exact own_bx2 (h.row i e) hbx (own_ty (h.row i e) h.own (by decide))
 ·have e2 : i = D.length := by omega
  rw [if_neg e, if_neg e, if_pos e2, if_pos e2]; exact own_bx2 hr hbx (own_ty hr h.own (by decide))
theorem OL.mm (h : OL D us base w v) : MM D w v := by
 rcases h.own.2 with ⟨e, e2⟩ | ⟨g, cap, cur, rfl, h3, h4, h5, h6, h7, h8⟩
 ·exact .inl ⟨List.eq_nil_of_length_eq_zero e2, e⟩
 ·have hlt : g < w.heap.size := by
   rcases Nat.lt_or_ge g w.heap.size with h | h
   ·exact h
   ·rw [Array.getElem?_eq_none h] at h4; cases h4
  refine .inr ⟨g, 0, cap, rfl, h5, hlt, fun t ht => ?_⟩
  have hc := h.own.cells (g := g) rfl t (us.getD t undef) (by
   rw [List.getD_eq_getElem?_getD, List.getElem?_eq_getElem (by rw [h.ulen]; exact ht)]; rfl)
  have hadd : (⟨g, 0, none⟩ : Addr).add t = ⟨g, t, none⟩ := by unfold Addr.add; split <;> simp_all
  rw [hadd] at hc
  have hn := NN.of_owns (h.row t ht)
  have hsh : ∃ a c, us.getD t undef = .slice a (D.getD t []).length c := by
   rcases (h.row t ht).2 with ⟨e, e2⟩ | ⟨_, _, _, e, _⟩
   ·exact ⟨none, 0, by rw [e, e2]⟩
   ·exact ⟨_, _, e⟩
  obtain ⟨a, c, hs⟩ := hsh
  rw [hs] at hc hn
  exact ⟨a, c, by rw [Nat.zero_add]; exact hc, hn⟩
end

section
variable {D : List (List Nat)} {us : List Value} {n base : Nat} {w w' : World} {v v' : Value}
theorem OL.emp (base : Nat) (w : World) : OL [] [] base w (.slice none 0 0) := ⟨⟨rfl, .inl ⟨rfl, rfl⟩⟩, fun i hi => absurd hi (by simp)⟩
theorem OL.weak (h : OL D us base w v) {b' : Nat} (hb : b' ≤ base) : OL D us b' w v :=
 ⟨⟨h.own.1, h.own.2.imp_right fun ⟨g, cap, cur, h1, h2, h3⟩ => ⟨g, cap, cur, h1, Nat.le_trans hb h2, h3⟩⟩, h.row⟩
theorem OL.grown {m : Nat} {xs : List Value} (h : OL D us base w v) (hb : base ≤ w.heap.size) (hg : w.grownBy w' v.ownBlock) : Below base w w' :=
 (Below.refl base w).grown hg hb fun k hk => (h.own.lt k hk).1
theorem OL.sl (h : OL D us base w v) {i : Nat} (hi : i < D.length) : ∃ g c, v = .slice (some ⟨g, 0, none⟩) D.length c ∧ base ≤ g ∧ g < w.heap.size := by
 rcases h.own.2 with ⟨e, e2⟩ | ⟨g, cap, cur, e, _⟩
 ·omega
 ·exact ⟨g, _, e, h.own.lt g (by rw [e]; rfl)⟩
theorem OL.usl (h : OL D us base w v) {i : Nat} (hi : i < D.length) : ∃ a c, us.getD i undef = .slice a (D.getD i []).length c := by
 rcases (h.row i hi).2 with ⟨e, e2⟩ | ⟨_, _, _, e, _⟩
 ·exact ⟨_, 0, by rw [e, e2]⟩
 ·exact ⟨_, _, e⟩
theorem OL.cell {g c : Nat} (h : OL D us base w (.slice (some ⟨g, 0, none⟩) D.length c)) {i : Nat} (hi : i < D.length) : w.cell? ⟨g, i, none⟩ = some (us.getD i undef) := by
 rw [World.ownsRow.cellAt h.own i (by omega), List.getD_eq_getElem?_getD, List.getElem?_eq_getElem (by rw [h.ulen]; exact hi)]; rfl
theorem OL.frozen {g c : Nat} (h : OL D us base w (.slice (some ⟨g, 0, none⟩) D.length c)) (i : Nat) : w.frozen? ⟨g, i, none⟩ = false := World.ownsRow.frozenAt h.own i
theorem OL.nn (h : OL D us base w v) {i : Nat} (hi : i < D.length) : NN (D.getD i []) w (us.getD i undef) := NN.of_owns (h.row i hi)
theorem OL.set {g c : Nat} (h : OL D us base w (.slice (some ⟨g, 0, none⟩) D.length c)) {i : Nat} (hi : i < D.length) {L : List Nat} {u : Value} (hr : w.ownsRow 0 3 1 u L.length (L.map N64)) : OL (D.set i L) (us.set i u) base (w.setCell ⟨g, i, none⟩ u) (.slice (some ⟨g, 0, none⟩) D.length c) := by
 have hlu : i < us.length := by rw [h.ulen]; exact hi
 have gu : ∀ k, k < us.length → (us.set i u).getD k undef = if k = i then u else us.getD k undef := fun k hk => by
  simp only [List.getD_eq_getElem?_getD, List.getElem?_set]
  by_cases e : i = k
  ·subst e; rw [if_pos rfl, if_pos rfl, if_pos hk]; rfl
  ·rw [if_neg e, if_neg fun h => e h.symm]
 have gd : ∀ k, k < D.length → (D.set i L).getD k [] = if k = i then L else D.getD k [] := fun k hk => by
  simp only [List.getD_eq_getElem?_getD, List.getElem?_set]
  by_cases e : i = k
  ·subst e; rw [if_pos rfl, if_pos rfl, if_pos hk]; rfl
  ·rw [if_neg e, if_neg fun h => e h.symm]
 have hbx : Bx (fun k => k = g) w (w.setCell ⟨g, i, none⟩ u) := Bx.set (S := fun k => k = g) rfl u
 have key : ∀ {x : Value} {R : List Nat}, w.ownsRow 0 3 1 x R.length (R.map N64) → (w.setCell ⟨g, i, none⟩ u).ownsRow 0 3 1 x R.length (R.map N64) := fun {x R} hx =>
  own_bx2 hx hbx fun k hk e => own_ty hx h.own (by decide) k hk (by rw [show k = g from e]; rfl)
 refine ⟨by rw [List.length_set]; exact (World.ownsRow.stored h.own i u).1, fun k hk => ?_⟩
 rw [List.length_set] at hk
 rw [gu k (by rw [h.ulen]; exact hk), gd k hk]
 by_cases e : k = i
 ·rw [if_pos e, if_pos e]; exact key hr
 ·rw [if_neg e, if_neg e]; exact key (h.row k hk)
end
theorem info22 : (Try.prog.info? 39).map (fun i => (i.zero, i.size, i.bytes)) = some (some (.slice none 0 0), 1, 24) := by kernel_rfl
/-- rows of the call's own are answered -/
def RL (R : List (List Nat)) (W : World) (e : Ending) (w' : World) : Prop := ∃ us a c, e = .returned (.slice a R.length c) ∧ OL R us W.heap.size w' (.slice a R.length c) ∧ Below W.heap.size W w'
/-- the rows of D with their pivot at t, the first j of D -/
def fiK (n t : Nat) (D : List (List Nat)) (j : Nat) : List (List Nat) := (D.take j).filter fun r => pvt (fn r) n == t
theorem fiK_yes {n t : Nat} {D : List (List Nat)} {j : Nat} (hj : j < D.length) (h : pvt (fn (D.getD j [])) n = t) : fiK n t D (j + 1) = fiK n t D j ++ [D.getD j []] := by
 unfold fiK
 rw [List.take_succ_eq_append_getElem hj, List.filter_append]
 rw [List.getD_eq_getElem?_getD, List.getElem?_eq_getElem hj] at h ⊢
 rw [show (some D[j]).getD [] = D[j] from rfl] at h ⊢
 simp [h]
theorem fiK_no {n t : Nat} {D : List (List Nat)} {j : Nat} (hj : j < D.length) (h : pvt (fn (D.getD j [])) n ≠ t) : fiK n t D (j + 1) = fiK n t D j := by
 unfold fiK
 rw [List.take_succ_eq_append_getElem hj, List.filter_append]
 rw [List.getD_eq_getElem?_getD, List.getElem?_eq_getElem hj] at h
 rw [show (some D[j]).getD [] = D[j] from rfl] at h
 simp [h]
theorem fiK_len (n t : Nat) (D : List (List Nat)) (j : Nat) : (fiK n t D j).length ≤ D.length := by
 unfold fiK
 refine Nat.le_trans (List.length_filter_le _ _) ?_
 rw [List.length_take]; omega
theorem ioK_len (n : Nat) (D : List (List Nat)) : ∀ m, (ioK n D m).length ≤ m * D.length
 | 0 => by simp [ioK]
 | m + 1 => by
  rw [ioK_succ, List.length_append]
  have := ioK_len n D m
  have := List.length_filter_le (fun r => pvt (fn r) n == m) D
  rw [Nat.succ_mul]; omega
set_option maxHeartbeats 3200000 in
theorem inorder_c {F : Gf} {b cap n m cd base0 : Nat} {D : List (List Nat)} {vs : List Value} {ad : Option Addr} {W : World} (hn : n ≤ 100) (hm : m ≤ 1000) (ld : D.length = m) (hw : ∀ t, t < m → (D.getD t []).length = n) (nd : OL D vs base0 W (.slice ad m cd)) :
  Calls Try.prog 77 #[XV F b cap n, .slice ad m cd] W (RL (ioK n D n) W) := by
 obtain ⟨j0, ji, jz0, jz1, jz2⟩ := info_parts info22
 obtain ⟨W0, hW0, hB0, hS, hX⟩ := set_head (F := F) (b := b) (cap := cap) (n := n) (W := W)
 have HB0 := Lib.hid hB0
 have HS0 := Lib.hid hS
 have HXB := Lib.hid hX
 have HND := Lib.hid (nd.below hB0)
 have HLD := Lib.hid ld
 have HWD := Lib.hid hw
 have HW0 := Lib.hid hW0
 obtain ⟨x0, x1, x2, x3⟩ := HXB.out
 clear hW0 hB0 hS hX nd hw ld
 go_enter Try.func77, Try.ntmps77
 go_wp2_with fail
 rw [HW0.out]
 go_wp2
 go_loopw [5, 11] (fun v i wr => ∃ k : Nat, k ≤ n ∧ i = .int .i64 k ∧ (∃ us a l c, v = .slice a l c ∧ l ≤ n * m ∧ Hid (l = (ioK n D k).length) ∧ Hid (OL (ioK n D k) us W0.heap.size wr (.slice a l c))) ∧ Hid (Below W0.heap.size W0 wr)) (fun _ i _ => n - (intOf i).toNat)
 case atStart => exact ⟨0, Nat.zero_le _, rfl, ⟨[], none, 0, 0, rfl, Nat.zero_le _, rfl, OL.emp _ _⟩, Below.refl _ _⟩
 case round =>
  obtain ⟨k, hk, rfl, ⟨us, a1, l1, c1, rfl, hl1, KL, KO⟩, KB⟩ := hrel
  clear x0 x1 x2 x3
  by_cases hlt : k < n
  ·obtain ⟨wo, hwo⟩ : ∃ w, w = wr := ⟨_, rfl⟩
   subst hwo
   have hmn : n * m ≤ 100000 := Nat.mul_le_mul hn hm
   go_wp2
   go_loopw [5, 16] (fun v i wr => ∃ j : Nat, j ≤ m ∧ i = .int .i64 j ∧ (∃ us a l c, v = .slice a l c ∧ l ≤ n * m + m ∧ Hid (l = (ioK n D k ++ fiK n k D j).length) ∧ Hid (OL (ioK n D k ++ fiK n k D j) us W0.heap.size wr (.slice a l c))) ∧ Hid (Below W0.heap.size W0 wr)) (fun _ i _ => m - (intOf i).toNat)
   case atStart => exact ⟨0, Nat.zero_le _, rfl, ⟨us, a1, l1, c1, rfl, by omega, by rw [show fiK n k D 0 = [] from rfl, List.append_nil]; exact KL, by rw [show fiK n k D 0 = [] from rfl, List.append_nil]; exact KO⟩, KB⟩
   case round =>
    obtain ⟨j, hj, rfl, ⟨us2, a2, l2, c2, rfl, hl2, JL, JO⟩, JB⟩ := hrel
    have HLL : Hid (l2 ≤ n * m) := Lib.hid (by
     have h1 := JL.out
     have h2 : (ioK n D k ++ fiK n k D j).length ≤ (ioK n D (k + 1)).length := by
      rw [ioK_succ, List.length_append, List.length_append]
      have : (fiK n k D j).length ≤ (D.filter fun r => pvt (fn r) n == k).length := ((List.take_sublist j D).filter _).length_le
      omega
     have h3 := ioK_len n D (k + 1)
     rw [HLD.out] at h3
     have h4 : (k + 1) * m ≤ n * m := Nat.mul_le_mul_right m hlt
     omega)
    by_cases hjt : j < m
    ·have HJD : Hid (j < D.length) := Lib.hid (by rw [HLD.out]; exact hjt)
     have HNW := Lib.hid (HND.out.below JB.out)
     obtain ⟨gd, cd', hvd, -, hgd⟩ := (show OL D vs base0 _ (.slice ad D.length cd) from by rw [HLD.out]; exact HNW.out).sl HJD.out
     injection hvd with e1 e2 e3
     subst e1
     obtain ⟨aj, cj, hus⟩ := HNW.out.usl HJD.out
     rw [HWD.out j hjt] at hus
     have hcj := (show OL D vs base0 _ (.slice (some ⟨gd, 0, none⟩) D.length cd) from by rw [HLD.out]; exact HNW.out).cell HJD.out
     rw [hus] at hcj
     have hnj := HNW.out.nn HJD.out
     rw [hus] at hnj
     have HP : Hid (Calls Try.prog 63 #[.slice aj n cj] _ fun e w' => e = .returned (.int .i64 (pvt (fn (D.getD j [])) n : Nat)) ∧ Below _ _ w') := Lib.hid (pivot_n (HWD.out j hjt) (by omega) hnj)
     obtain ⟨p, hp⟩ : ∃ p, Hid (pvt (fn (D.getD j [])) n = p) := ⟨_, Lib.hid rfl⟩
     rw [hp.out] at HP
     have HRJ : Hid (wr.ownsRow 0 3 1 (.slice aj n cj) n ((D.getD j []).map N64)) := Lib.hid (by have := HNW.out.row j HJD.out; rw [hus, HWD.out j hjt] at this; exact this)
     clear hnj e2 e3 hgd hus
     go_wp2_with fail
     with_reducible refine HP.out.mono ?_
     rintro e w3 ⟨rfl, hb3⟩
     have JO3 := Lib.hid (JO.out.below hb3)
     have JB3 := Lib.hid (JB.out.trans (hb3.mono JB.out.size))
     have HRJ3 := Lib.hid (own_belowK HRJ.out hb3)
     clear hb3 HP hcj
     by_cases hpk : p = k
     ·have hpe : ((p : Int) == (k : Int)) = true := by simp [hpk]
      have HE : Hid (ioK n D k ++ fiK n k D (j + 1) = (ioK n D k ++ fiK n k D j) ++ [D.getD j []]) := Lib.hid (by rw [fiK_yes HJD.out (by rw [hp.out]; exact hpk), List.append_assoc])
      go_wp2_with (at_builtin; refine wpList_append_own _ rfl _ _ 22 rfl W0.heap.size 39 j0 (.slice none 0 0) 1 24 Try.underlying22 ji jz0 jz1 jz2 rfl (by decide) (.slice a2 l2 c2) l2 us2 rfl (by have := JO3.out.own.alloc (.cells #[.slice aj n cj] 39); rw [← JL.out] at this; exact this) ⟨w3.heap.size, 0, none⟩ 1 1 [.slice aj n cj] rfl rfl (cell_one_new _ _ _) (fun u hu => by simp at hu; subst hu; rfl) ?d3 ?d4 ?d5 ?_)
      case d3 => have := HLL.out; unfold maxLen; omega
      case d4 => have := HLL.out; omega
      case d5 => have := JB3.out.size; simp; omega
      intro v' w7 hown' hgrow hnil
      have hal2 : Below w3.heap.size w3 (w3.alloc (.cells #[.slice aj n cj] 39)) := (Below.refl _ _).alloc (Nat.le_refl _) _
      have HO7 : Hid (OL (ioK n D k ++ fiK n k D (j + 1)) (us2 ++ [.slice aj n cj]) W0.heap.size w7 v') := Lib.hid (by
       rw [HE.out]
       exact OL.push (JO3.out.below hal2) (by rw [HWD.out j hjt]; exact own_belowK HRJ3.out hal2) (by rw [JL.out]) hown' hgrow)
      have HB7 : Hid (Below W0.heap.size W0 w7) := Lib.hid ((JB3.out.trans (hal2.mono JB3.out.size)).trans (OL.grown (m := 0) (xs := []) (JO3.out.below hal2) (Nat.le_trans JB3.out.size hal2.size) hgrow))
      have HL7 : Hid (l2 + 1 = (ioK n D k ++ fiK n k D (j + 1)).length) := Lib.hid (by rw [HE.out]; have := JL.out; simp only [List.length_append, List.length_singleton] at this ⊢; omega)
      obtain ⟨a7, c7, hv7⟩ := HO7.out.shape
      rw [← HL7.out] at hv7
      subst hv7
      have hl7 : l2 + 1 ≤ n * m + m := by have := HLL.out; omega
      clear hown' hgrow hnil hal2 hpe
      go_wp2
      go_roundw
      case rel => exact ⟨j + 1, by omega, by go_num, ⟨_, a7, _, c7, rfl, hl7, HL7, HO7⟩, HB7⟩
      case measure => simp [intOf]; omega
     ·have hpe : ((p : Int) == (k : Int)) = false := beq_eq_false_iff_ne.2 (by omega)
      have HE : Hid (ioK n D k ++ fiK n k D (j + 1) = (ioK n D k ++ fiK n k D j)) := Lib.hid (by rw [fiK_no HJD.out (by rw [hp.out]; exact hpk)])
      go_wp2
      go_roundw
      case rel => exact ⟨j + 1, by omega, by go_num, ⟨us2, a2, _, c2, rfl, hl2, by rw [HE.out]; exact JL, by rw [HE.out]; exact JO3⟩, JB3⟩
      case measure => simp [intOf]; omega
    ·obtain rfl : j = m := by omega
     have hjt1 : ¬ (j : Int) < (j : Int) := by omega
     have HE : Hid (ioK n D k ++ fiK n k D j = ioK n D (k + 1)) := Lib.hid (by rw [ioK_succ]; unfold fiK; rw [← HLD.out, List.take_length])
     have hl3 : l2 ≤ n * j := HLL.out
     go_wp2
     go_roundw
     case rel => exact ⟨k + 1, by omega, by go_num, ⟨us2, a2, _, c2, rfl, hl3, by rw [← HE.out]; exact JL, by rw [← HE.out]; exact JO⟩, JB⟩
     case measure => simp [intOf]; omega
  ·obtain rfl : k = n := by omega
   have hlt1 : ¬ (k : Int) < (k : Int) := by omega
   have HBF := Lib.hid (HB0.out.trans (KB.out.mono HB0.out.size))
   have HOF := Lib.hid (KO.out.weak HB0.out.size)
   go_wp2
   go_ret
   exact ⟨us, a1, c1, by rw [← KL.out]; rfl, by rw [← KL.out]; exact HOF.out, HBF.out⟩

end Go.Proofs.Ytdafhhojiioifaa
