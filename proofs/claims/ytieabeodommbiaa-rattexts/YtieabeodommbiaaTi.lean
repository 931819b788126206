/- The law RatTexts over what it calls: one walk. -/
import Derived.Test.YtieabeodommbiaaTg
import Derived.Test.YtieabeodommbiaaTh
import Derived.Deep.RegionHeld3
namespace Go.Proofs.Ytieabeodommbiaa
open Go.RowKit
set_option maxRecDepth 100000
set_option linter.unusedVariables false
set_option linter.unusedSimpArgs false

set_option maxHeartbeats 1600000 in
theorem is_c (n d : Int) (W : World) : Calls Try.prog 32 #[.int .i64 n, .int .i64 d] W fun z W' => z = .returned (.agg #[.int .i64 n, .int .i64 d, .int .i64 0]) ∧ Below W.heap.size W W' := by
  go_enter Try.func32, Try.ntmps32
  go_wp2
  exact bodyPost_ret (v := .agg #[.int .i64 n, .int .i64 d, .int .i64 0]) (by simp [results, Try.results32, go_sem]) rfl ⟨rfl, by
    repeat (first | exact Below.refl _ _ | refine Below.setCell ?_ (by simp) _ | refine Below.alloc ?_ (by simp) _)⟩
/-- what the law calls -/
structure TH (x0 x1 z0 z1 z2 an ad : Int) (t : List UInt8) : Prop where
  ex : ∀ w : World, Calls Try.prog 10 #[] w fun z w' => z = .returned (.bool true) ∧ Below w.heap.size w w'
  ma : ∀ w : World, Calls Try.prog 15 #[.int .i64 x0, .int .i64 x1] w fun z w' => z = .returned (.agg #[.int .i64 an, .int .i64 ad]) ∧ Below w.heap.size w w'
  t1 : ∀ w : World, Calls Try.prog 30 #[.agg #[.int .i64 an, .int .i64 ad]] w fun z w' => z = .returned (strV t) ∧ Below w.heap.size w w'
  ps : ∀ w : World, Calls Try.prog 33 #[strV t] w fun z w' => z = .returned (.agg #[.int .i64 an, .int .i64 ad, .int .i64 0]) ∧ Below w.heap.size w w'
  is : ∀ w : World, Calls Try.prog 32 #[.int .i64 an, .int .i64 ad] w fun z w' => z = .returned (.agg #[.int .i64 an, .int .i64 ad, .int .i64 0]) ∧ Below w.heap.size w w'
  e1 : ∀ w : World, Calls Try.prog 34 #[strV t, .agg #[.int .u8 z0, .int .u8 z1, .int .u8 z2]] w (EdPost t w)
  e2 : ∀ l : List UInt8, l.length ≤ 400 → ∀ w : World, Calls Try.prog 34 #[strV l, .agg #[.int .u8 z1, .int .u8 z2, .int .u8 z0]] w (EdPost l w)
  pp : ∀ l : List UInt8, l.length ≤ 1000 → ∀ w : World, Calls Try.prog 33 #[strV l] w fun z w' => z = .returned (.agg #[.int .i64 (psN l), .int .i64 (psD l), .int .i64 (psE l)]) ∧ Below w.heap.size w w'
  pr : ∀ l : List UInt8, l.length ≤ 1000 → ∀ w : World, Calls Try.prog 35 #[strV l] w fun z w' => z = .returned (.agg #[.int .i64 (psN l), .int .i64 (psD l), .int .i64 (psE l)]) ∧ Below w.heap.size w w'
  tx : ∀ l : List UInt8, psE l = 0 → ∀ w : World, Calls Try.prog 30 #[.agg #[.int .i64 (psN l), .int .i64 (psD l)]] w fun z w' => z = .returned (strV l) ∧ Below w.heap.size w w'
/-- the boxes of the numbers and of the edit -/
abbrev BX (B : Nat) (x0 x1 z0 z1 z2 : Int) (w : World) : Prop := w.cell? ⟨B, 0, none⟩ = some (.int .i64 x0) ∧ w.cell? ⟨B, 1, none⟩ = some (.int .i64 x1) ∧ w.cell? ⟨B + 1, 0, none⟩ = some (.int .u8 z0) ∧ w.cell? ⟨B + 1, 1, none⟩ = some (.int .u8 z1) ∧ w.cell? ⟨B + 1, 2, none⟩ = some (.int .u8 z2) ∧ B + 1 < w.heap.size
theorem keepBX {B : Nat} {x0 x1 z0 z1 z2 : Int} {w w' : World} (h : BX B x0 x1 z0 z1 z2 w) (hb : Below w.heap.size w w') : BX B x0 x1 z0 z1 z2 w' := by
  obtain ⟨h1, h2, h3, h4, h5, h6⟩ := h
  exact ⟨(hb.cell (by show B < _; omega)).trans h1, (hb.cell (by show B < _; omega)).trans h2, (hb.cell h6).trans h3, (hb.cell h6).trans h4, (hb.cell h6).trans h5, Nat.lt_of_lt_of_le h6 hb.size⟩
/-- with the fraction's box -/
abbrev SA (W : World) (B A : Nat) (x0 x1 z0 z1 z2 an ad : Int) (w : World) : Prop := Below W.heap.size W w ∧ BX B x0 x1 z0 z1 z2 w ∧ w.cell? ⟨A, 0, none⟩ = some (.int .i64 an) ∧ w.cell? ⟨A, 1, none⟩ = some (.int .i64 ad) ∧ A < w.heap.size
theorem keepSA {W w w' : World} {B A : Nat} {x0 x1 z0 z1 z2 an ad : Int} (h : SA W B A x0 x1 z0 z1 z2 an ad w) (hb : Below w.heap.size w w') : SA W B A x0 x1 z0 z1 z2 an ad w' := by
  obtain ⟨h1, h2, h3, h4, h5⟩ := h
  exact ⟨h1.trans (hb.mono h1.size), keepBX h2 hb, (hb.cell h5).trans h3, (hb.cell h5).trans h4, Nat.lt_of_lt_of_le h5 hb.size⟩
theorem drewSA {W w : World} {B A : Nat} {x0 x1 z0 z1 z2 an ad : Int} (h : SA W B A x0 x1 z0 z1 z2 an ad w) : SA W B A x0 x1 z0 z1 z2 an ad w.drew := ⟨h.1.drew, h.2⟩
/-- in the loop: the text, and the box of what was read -/
abbrev SL (W : World) (g k Q n : Nat) (v : Value) (X : List (List UInt8)) (l : List UInt8) (a b e : Int) (w : World) : Prop := Below W.heap.size W w ∧ Hid (w.ownsRow W.heap.size 9 1 v n (X.map strV)) ∧ w.cell? ⟨g, k, none⟩ = some (strV l) ∧ g < w.heap.size ∧
  w.cell? ⟨Q, 0, none⟩ = some (.int .i64 a) ∧ w.cell? ⟨Q, 1, none⟩ = some (.int .i64 b) ∧ w.cell? ⟨Q, 2, none⟩ = some (.int .i64 e) ∧ Q < w.heap.size
theorem own_belowG {w w' : World} {base : Nat} {e : TypeId} {size : Nat} {v : Value} {n : Nat} {xs : List Value} (h : w.ownsRow base e size v n xs) (hb : Below w.heap.size w w') : w'.ownsRow base e size v n xs := by
  obtain ⟨h1, h2⟩ := h
  refine ⟨h1, h2.imp_right ?_⟩
  rintro ⟨g, cap, cur, a1, a2, a3, a4⟩
  have hg : g < w.heap.size := by
    rcases Nat.lt_or_ge g w.heap.size with h | h
    · exact h
    · rw [Array.getElem?_eq_none h] at a3; cases a3
  exact ⟨g, cap, cur, a1, a2, (hb.block g hg).trans a3, a4⟩
theorem keepSL {W w w' : World} {g k Q n : Nat} {v : Value} {X : List (List UInt8)} {l : List UInt8} {a b e : Int} (h : SL W g k Q n v X l a b e w) (hb : Below w.heap.size w w') : SL W g k Q n v X l a b e w' := by
  obtain ⟨h1, h2, h3, h4, h5, h6, h7, h8⟩ := h
  exact ⟨h1.trans (hb.mono h1.size), Lib.hid (own_belowG h2.out hb), (hb.cell h4).trans h3, Nat.lt_of_lt_of_le h4 hb.size, (hb.cell h8).trans h5, (hb.cell h8).trans h6, (hb.cell h8).trans h7, Nat.lt_of_lt_of_le h8 hb.size⟩
theorem drewSL {W w : World} {g k Q n : Nat} {v : Value} {X : List (List UInt8)} {l : List UInt8} {a b e : Int} (h : SL W g k Q n v X l a b e w) : SL W g k Q n v X l a b e w.drew := ⟨h.1.drew, h.2⟩
theorem info9 : (Try.prog.info? 9).map (fun i => (i.zero, i.size, i.bytes)) = some (some (.string ⟨#[]⟩), 1, 16) := by kernel_rfl
theorem u44 : Try.prog.underlying 44 = some (.slice 9) := by kernel_rfl
theorem own_someG {w : World} {base : Nat} {e : TypeId} {v : Value} {n : Nat} {xs : List Value} (h : w.ownsRow base e 1 v n xs) (hne : 0 < n) : ∃ g cap, v = .slice (some ⟨g, 0, none⟩) n cap := by
  rcases h.2 with ⟨_, h⟩ | ⟨g, cap, cur, h, _⟩
  · omega
  · exact ⟨g, cap, h⟩
set_option maxHeartbeats 25600000 in
theorem texts_w {x0 x1 z0 z1 z2 an ad : Int} {t s : List UInt8} (ht : t.length ≤ 100) (H : TH x0 x1 z0 z1 z2 an ad t) (W : World) :
    Calls Try.prog 8 #[.agg #[.int .i64 x0, .int .i64 x1], .agg #[.int .u8 z0, .int .u8 z1, .int .u8 z2], strV s] W fun z W' => z = .returned (.bool true) ∧ Below W.heap.size W W' := by
  have HH := Lib.hid H
  clear H
  obtain ⟨i9, hi, hz0, hz1, hz2⟩ := info_parts info9
  go_enter Try.func8, Try.ntmps8
  go_wp2_with fail
  refine (HH.out.ex _).mono ?_
  rintro z w1 ⟨rfl, hb1⟩
  have hs1 : BX W.heap.size x0 x1 z0 z1 z2 w1 := keepBX (w := (W.alloc (.cells #[.int .i64 x0, .int .i64 x1] 22)).alloc (.cells #[.int .u8 z0, .int .u8 z1, .int .u8 z2] 41)) (by
    refine ⟨?_, ?_, ?_, ?_, ?_, by simp⟩
    · rw [World.cell?_alloc_past _ _ _ (by simp)]; exact World.cell?_alloc_at _ _ _ _ rfl
    · rw [World.cell?_alloc_past _ _ _ (by simp)]; exact World.cell?_alloc_at _ _ _ _ rfl
    · exact World.cell?_alloc_at _ _ _ _ (by simp)
    · exact World.cell?_alloc_at _ _ _ _ (by simp)
    · exact World.cell?_alloc_at _ _ _ _ (by simp)) hb1
  have hal : Below W.heap.size W ((W.alloc (.cells #[.int .i64 x0, .int .i64 x1] 22)).alloc (.cells #[.int .u8 z0, .int .u8 z1, .int .u8 z2] 41)) := ((Below.refl _ _).alloc (Nat.le_refl _) _).alloc (by simp) _
  have K1 : Hid (Below W.heap.size W w1) := Lib.hid (hal.trans (hb1.mono hal.size))
  clear hb1 hal
  obtain ⟨b0, b1, b2, b3, b4, b5⟩ := hs1
  go_wp2_with fail
  refine (HH.out.ma _).mono ?_
  rintro z w2 ⟨rfl, hb2⟩
  have hb2' : Below w1.heap.size w1 (w2.alloc (.cells #[.int .i64 an, .int .i64 ad] 25)) := hb2.alloc hb2.size _
  have hS2 : SA W W.heap.size w2.heap.size x0 x1 z0 z1 z2 an ad (w2.alloc (.cells #[.int .i64 an, .int .i64 ad] 25)) :=
    ⟨K1.out.trans (hb2'.mono K1.out.size), keepBX ⟨b0, b1, b2, b3, b4, b5⟩ hb2', World.cell?_alloc_at _ _ _ _ rfl, World.cell?_alloc_at _ _ _ _ rfl, by simp⟩
  have HS2 := Lib.hid hS2
  clear hb2 hb2' hS2 K1 b0 b1 b2 b3 b4 b5
  go_wp2_with fail
  refine (HH.out.t1 _).mono ?_
  rintro z w3 ⟨rfl, hb3⟩
  have hS0 := drewSA (keepSA HS2.out hb3)
  clear hb3 HS2
  go_wp2_with fail
  go_region_held3 (fun w' => SA W W.heap.size w2.heap.size x0 x1 z0 z1 z2 an ad w') (first | (with_reducible exact hS0) | (refine keepSA ?_ hb3; assumption)) (first | (go_at_call 33; with_reducible refine (HH.out.ps _).mono ?_; rintro z v' ⟨rfl, hb3⟩) | (go_at_call 32; with_reducible refine (HH.out.is _).mono ?_; rintro z v' ⟨rfl, hb3⟩))
  rename_i hHeld
  obtain ⟨k1, ⟨b0, b1, b2, b3, b4, b5⟩, a0, a1, a2⟩ := hHeld
  have K1 := Lib.hid k1
  clear k1 hb3 hS0
  go_wp2_with fail
  refine (HH.out.e1 _).mono ?_
  rintro z w5 ⟨m1, hl1, rfl, hb5⟩
  have K5 := Lib.hid (K1.out.trans (hb5.mono K1.out.size))
  obtain ⟨c0, c1, c2, c3, c4, c5⟩ := keepBX ⟨b0, b1, b2, b3, b4, b5⟩ hb5
  clear hb5 K1 b0 b1 b2 b3 b4 b5 a0 a1 a2
  go_wp2_with fail
  refine (HH.out.e2 m1 (by omega) _).mono ?_
  rintro z w6 ⟨m2, hl2, rfl, hb6⟩
  have K6 := Lib.hid (K5.out.trans (hb6.mono K5.out.size))
  have hal : Below w6.heap.size w6 (w6.alloc (.cells #[strV m1, strV m2] 9)) := (Below.refl _ _).alloc (Nat.le_refl _) _
  have K7 : Hid (Below W.heap.size W (w6.alloc (.cells #[strV m1, strV m2] 9))) := Lib.hid (K6.out.alloc K6.out.size _)
  have HLIT : Hid ((w6.alloc (.cells #[strV m1, strV m2] 9)).ownsRow W.heap.size 9 1 (.slice (some ⟨w6.heap.size, 0, none⟩) 2 2) 2 [strV m1, strV m2]) := Lib.hid (World.ownsRow_lit w6 #[strV m1, strV m2] 2 K6.out.size (by decide) rfl)
  clear hb6 hal K5 c0 c1 c2 c3 c4 c5
  by_cases hs : s.length ≤ 100
  case' pos =>
    have hd : decide ((s.length : Int) ≤ 100) = true := by simp; omega
    have HLEN : Hid (∀ l ∈ [m1, m2, s], l.length ≤ 1000) := Lib.hid (by
      intro l hl
      simp only [List.mem_cons, List.not_mem_nil, or_false] at hl
      rcases hl with rfl | rfl | rfl <;> omega)
    go_wp2_with (at_builtin; refine wpList_append_own _ rfl _ _ 44 rfl W.heap.size 9 i9 (.string ⟨#[]⟩) 1 16 u44 hi hz0 hz1 hz2 rfl (by decide) _ _ _ rfl (HLIT.out.alloc _) ⟨w6.heap.size + 1, 0, none⟩ 1 1 [strV s] rfl rfl ?c1 ?c2 ?c3 ?c4 ?c5 ?_)
    case c1 =>
      intro j u hj
      match j, hj with
      | 0, hj => simp at hj; subst hj; simp [Addr.add]
    case c2 => intro u hu; simp at hu; subst hu; rfl
    case c3 => unfold maxLen; omega
    case c4 => omega
    case c5 => have := K6.out.size; simp; omega
    intro v' w7 hown' hgrow _
    have KB : Hid (Below W.heap.size W w7) := Lib.hid ((K7.out.alloc K7.out.size _).grown hgrow (by have := K6.out.size; simp; omega) fun k hk => by simp [Value.ownBlock] at hk; have := K6.out.size; omega)
    obtain ⟨n, X, g, cs, rfl, hX, hn3, hown, HLX⟩ : ∃ (n : Nat) (X : List (List UInt8)) (g cs : Nat), v' = .slice (some ⟨g, 0, none⟩) n cs ∧ Hid (X.length = n) ∧ n ≤ 3 ∧ Hid (w7.ownsRow W.heap.size 9 1 (.slice (some ⟨g, 0, none⟩) n cs) n (X.map strV)) ∧ Hid (∀ l ∈ X, l.length ≤ 1000) := by
      obtain ⟨g, cs, rfl⟩ := own_someG hown' (by omega)
      exact ⟨_, [m1, m2, s], g, cs, rfl, rfl, by simp, Lib.hid (by simpa using hown'), HLEN⟩
    clear hown' hgrow hd K7 HLIT HLEN K6
    go_wp2
  case' neg =>
    have hd : decide ((s.length : Int) ≤ 100) = false := by simp; omega
    have HLEN : Hid (∀ l ∈ [m1, m2], l.length ≤ 1000) := Lib.hid (by
      intro l hl
      simp only [List.mem_cons, List.not_mem_nil, or_false] at hl
      rcases hl with rfl | rfl <;> omega)
    have KB := K7
    clear K7
    go_wp2
    have hl1' := HLIT.out
    clear HLIT
    generalize hw7 : w6.alloc (.cells #[strV m1, strV m2] 9) = w7 at *
    generalize hv : Value.slice (some ⟨w6.heap.size, 0, none⟩) 2 2 = v' at *
    obtain ⟨n, X, g, cs, rfl, hX, hn3, hown, HLX⟩ : ∃ (n : Nat) (X : List (List UInt8)) (g cs : Nat), v' = .slice (some ⟨g, 0, none⟩) n cs ∧ Hid (X.length = n) ∧ n ≤ 3 ∧ Hid (w7.ownsRow W.heap.size 9 1 (.slice (some ⟨g, 0, none⟩) n cs) n (X.map strV)) ∧ Hid (∀ l ∈ X, l.length ≤ 1000) := by
      subst hv
      exact ⟨_, [m1, m2], _, _, rfl, rfl, by simp, Lib.hid hl1', HLEN⟩
    clear hv hw7 hd hl1' HLEN K6
  all_goals
    go_loopw [12] (fun i wr => ∃ k : Nat, k ≤ n ∧ i = .int .i64 k ∧ Hid (wr.ownsRow W.heap.size 9 1 (.slice (some ⟨g, 0, none⟩) n cs) n (X.map strV)) ∧ Hid (Below W.heap.size W wr)) (fun i _ => n - (intOf i).toNat)
    case atStart => exact ⟨0, Nat.zero_le _, rfl, hown, KB⟩
    case round =>
      obtain ⟨k, hk, rfl, HO, KW⟩ := hrel
      by_cases hlt : k < n
      · have hc : wr.cell? ⟨g, k, none⟩ = some (strV (X.getD k [])) := by
          have := hX.out
          rw [HO.out.cellAt k (by omega), List.getElem?_map, List.getElem?_eq_getElem (by omega)]
          simp [List.getD, show k < X.length by omega]
        have hgs : g < wr.heap.size := (HO.out.lt g rfl).2
        have hln : (X.getD k []).length ≤ 1000 := by
          have := hX.out
          rw [List.getD_eq_getElem?_getD, List.getElem?_eq_getElem (by omega)]
          exact HLX.out _ (List.getElem_mem _)
        generalize X.getD k [] = l at *
        have HP := Lib.hid (HH.out.pp l hln)
        have HR := Lib.hid (HH.out.pr l hln)
        have HT := Lib.hid (HH.out.tx l)
        have HE := Lib.hid (psE_cases l)
        clear hln
        generalize psN l = pn at *
        generalize psD l = pd at *
        generalize psE l = pe at *
        rcases HE.out with rfl | rfl
        · clear HE
          have h50 : ((5 : Int) == 0) = false := by decide
          have h51 : ((0 : Int) == 0) = true := by decide
          go_wp2_with fail
          with_reducible refine (HP.out _).mono ?_
          rintro z w8 ⟨rfl, hb8⟩
          have hb8' : Below wr.heap.size wr (w8.alloc (.cells #[.int .i64 pn, .int .i64 pd, .int .i64 0] 28)) := hb8.alloc hb8.size _
          have hSL : SL W g k w8.heap.size n (.slice (some ⟨g, 0, none⟩) n cs) X l pn pd 0 (w8.alloc (.cells #[.int .i64 pn, .int .i64 pd, .int .i64 0] 28)) :=
            ⟨KW.out.trans (hb8'.mono KW.out.size), Lib.hid (own_belowG HO.out hb8'), (hb8'.cell hgs).trans hc, Nat.lt_of_lt_of_le hgs hb8'.size, World.cell?_alloc_at _ _ _ _ rfl, World.cell?_alloc_at _ _ _ _ rfl, World.cell?_alloc_at _ _ _ _ rfl, by simp⟩
          have hS0 := drewSL hSL
          clear hb8 hb8' hSL hc hgs
          go_wp2_with fail
          go_region_held3 (fun w' => SL W g k w8.heap.size n (.slice (some ⟨g, 0, none⟩) n cs) X l pn pd 0 w') (first | (with_reducible exact hS0) | (refine keepSL ?_ hb3; assumption)) (first | (go_at_call 35; with_reducible refine (HR.out _).mono ?_; rintro z v' ⟨rfl, hb3⟩) | (go_at_call 30; with_reducible refine (HT.out (by trivial) _).mono ?_; rintro z v' ⟨rfl, hb3⟩))
          rename_i hHeld
          obtain ⟨q1, q2, q3, q4, q5, q6, q7, q8⟩ := hHeld
          have KW2 := Lib.hid q1
          clear q1 hS0 q3 q5 q6 q7
          go_wp2
          go_roundw
          case rel => exact ⟨k + 1, by omega, by go_num, q2, KW2⟩
          case measure => simp [intOf]; omega
        · clear HE
          have h50 : ((5 : Int) == 0) = false := by decide
          have h51 : ((0 : Int) == 0) = true := by decide
          go_wp2_with fail
          with_reducible refine (HP.out _).mono ?_
          rintro z w8 ⟨rfl, hb8⟩
          have hb8' : Below wr.heap.size wr (w8.alloc (.cells #[.int .i64 pn, .int .i64 pd, .int .i64 5] 28)) := hb8.alloc hb8.size _
          have hSL : SL W g k w8.heap.size n (.slice (some ⟨g, 0, none⟩) n cs) X l pn pd 5 (w8.alloc (.cells #[.int .i64 pn, .int .i64 pd, .int .i64 5] 28)) :=
            ⟨KW.out.trans (hb8'.mono KW.out.size), Lib.hid (own_belowG HO.out hb8'), (hb8'.cell hgs).trans hc, Nat.lt_of_lt_of_le hgs hb8'.size, World.cell?_alloc_at _ _ _ _ rfl, World.cell?_alloc_at _ _ _ _ rfl, World.cell?_alloc_at _ _ _ _ rfl, by simp⟩
          have hS0 := drewSL hSL
          clear hb8 hb8' hSL hc hgs
          go_wp2_with fail
          refine wp_region_held_drew (S := fun w' => SL W g k w8.heap.size n (.slice (some ⟨g, 0, none⟩) n cs) X l pn pd 5 w') (by kernel_rfl) (by with_reducible exact hS0) (fun hHeld => ?_)
          refine wpAnyH_take (i := 0) (oi := { dst := some 64, op := Op.load 28 (Operand.tmp 13), type := 28, pos := "law.go:218", after := #[], guard := none }) (v := ?_) rfl (by kernel_rfl) (by kernel_rfl) (by kernel_rfl) (fun _ _ _ h => h) (Or.inl ⟨by first | with_reducible rfl | go_simp, ?_⟩) (by assumption) ?_
          rotate_left
          · (intro w hSw; (try dsimp only at hSw); go_simp; try (with_reducible rfl))
          try simp only [Act.put, List.setIfInBounds_toArray, List.set_cons_zero, List.set_cons_succ]
          refine wpAnyH_take (i := 1) (oi := { dst := some 65, op := Op.move (Operand.tmp 11), type := 44, pos := "law.go:218", after := #[], guard := none }) (v := ?_) rfl (by kernel_rfl) (by kernel_rfl) (by kernel_rfl) (fun _ _ _ h => h) (Or.inl ⟨by first | with_reducible rfl | go_simp, ?_⟩) (by assumption) ?_
          rotate_left
          · (intro w hSw; (try dsimp only at hSw); go_simp; try (with_reducible rfl))
          try simp only [Act.put, List.setIfInBounds_toArray, List.set_cons_zero, List.set_cons_succ]
          refine wpAnyH_take (i := 2) (oi := { dst := some 66, op := Op.move (Operand.tmp 12), type := 3, pos := "law.go:218", after := #[], guard := none }) (v := ?_) rfl (by kernel_rfl) (by kernel_rfl) (by kernel_rfl) (fun _ _ _ h => h) (Or.inl ⟨by first | with_reducible rfl | go_simp, ?_⟩) (by assumption) ?_
          rotate_left
          · (intro w hSw; (try dsimp only at hSw); go_simp; try (with_reducible rfl))
          try simp only [Act.put, List.setIfInBounds_toArray, List.set_cons_zero, List.set_cons_succ]
          refine wpAnyH_take (i := 3) (oi := { dst := some 67, op := Op.indexAddr 44 (Operand.tmp 65) (Operand.tmp 66), type := 0, pos := "law.go:218", after := #[{ on := 1, ground := Ground.data }, { on := 2, ground := Ground.data }], guard := none }) (v := ?_) rfl (by kernel_rfl) (by kernel_rfl) (by kernel_rfl) (fun _ _ _ h => h) (Or.inl ⟨by first | with_reducible rfl | go_simp, ?_⟩) (by assumption) ?_
          rotate_left
          · (intro w hSw; (try dsimp only at hSw); go_simp; try (with_reducible rfl))
          try simp only [Act.put, List.setIfInBounds_toArray, List.set_cons_zero, List.set_cons_succ]
          refine wpAnyH_take (i := 4) (oi := { dst := some 68, op := Op.load 9 (Operand.tmp 67), type := 9, pos := "law.go:218", after := #[{ on := 3, ground := Ground.data }], guard := none }) (v := ?_) rfl (by kernel_rfl) (by kernel_rfl) (by kernel_rfl) (fun _ _ _ h => h) (Or.inl ⟨by first | with_reducible rfl | go_simp, ?_⟩) (by assumption) ?_
          rotate_left
          · (intro w hSw; (try dsimp only at hSw); go_simp; try (with_reducible rfl))
          try simp only [Act.put, List.setIfInBounds_toArray, List.set_cons_zero, List.set_cons_succ]
          refine wpAnyH_ready (rs := [5]) (by kernel_rfl) (by simp) ?_
          refine AllReadyH.cons (o := { dst := some 69, op := Op.call { callee := Callee.value (Operand.func 35), args := #[Operand.tmp 68], argTypes := #[9] }, type := 28, pos := "law.go:218", after := #[{ on := 4, ground := Ground.data }], guard := none }) rfl (fun K hK => ?_) ?_
          rotate_left
          · exact AllReadyH.nil
          go_simp
          go_at_call 35
          with_reducible refine (HR.out _).mono ?_
          rintro z v' ⟨rfl, hb3⟩
          refine hK.out _ _ ?_ (fun hHeld => ?_)
          · (try dsimp only); refine keepSL ?_ hb3; assumption
          clear hK K
          try simp only [Act.put, List.setIfInBounds_toArray, List.set_cons_zero, List.set_cons_succ]
          refine wpAnyH_take (i := 6) (oi := { dst := some 70, op := Op.binOp BinOp.neq 28 (Operand.tmp 64) (Operand.tmp 69) 28, type := 4, pos := "law.go:218", after := #[{ on := 0, ground := Ground.data }, { on := 5, ground := Ground.data }], guard := none }) (v := ?_) rfl (by kernel_rfl) (by kernel_rfl) (by kernel_rfl) (fun _ _ _ h => h) (Or.inl ⟨by first | with_reducible rfl | go_simp, ?_⟩) (by assumption) ?_
          rotate_left
          · (intro w hSw; (try dsimp only at hSw); go_simp; try (with_reducible rfl))
          try simp only [Act.put, List.setIfInBounds_toArray, List.set_cons_zero, List.set_cons_succ]
          refine wpAnyH_take (i := 7) (oi := { dst := some 71, op := Op.move (Operand.tmp 70), type := 4, pos := "law.go:218", after := #[{ on := 6, ground := Ground.data }, { on := 5, ground := Ground.chain }], guard := none }) (v := ?_) rfl (by kernel_rfl) (by kernel_rfl) (by kernel_rfl) (fun _ _ _ h => h) (Or.inl ⟨by first | with_reducible rfl | go_simp, ?_⟩) (by assumption) ?_
          rotate_left
          · (intro w hSw; (try dsimp only at hSw); go_simp; try (with_reducible rfl))
          try simp only [Act.put, List.setIfInBounds_toArray, List.set_cons_zero, List.set_cons_succ]
          refine wpAnyH_take (i := 8) (oi := { dst := some 72, op := Op.fieldAddr 28 (Operand.tmp 13) 1, type := 0, pos := "law.go:218", after := #[{ on := 7, ground := Ground.guard }], guard := some (7, false) }) (v := ?_) rfl (by kernel_rfl) (by kernel_rfl) (by kernel_rfl) (fun _ _ _ h => h) (Or.inl ⟨by first | with_reducible rfl | go_simp, ?_⟩) (by assumption) ?_
          rotate_left
          · (intro w hSw; (try dsimp only at hSw); go_simp; try (with_reducible rfl))
          try simp only [Act.put, List.setIfInBounds_toArray, List.set_cons_zero, List.set_cons_succ]
          refine wpAnyH_take (i := 9) (oi := { dst := some 73, op := Op.load 26 (Operand.tmp 72), type := 26, pos := "law.go:218", after := #[{ on := 8, ground := Ground.data }, { on := 7, ground := Ground.guard }], guard := some (7, false) }) (v := ?_) rfl (by kernel_rfl) (by kernel_rfl) (by kernel_rfl) (fun _ _ _ h => h) (Or.inl ⟨by first | with_reducible rfl | go_simp, ?_⟩) (by assumption) ?_
          rotate_left
          · (intro w hSw; (try dsimp only at hSw); go_simp; try (with_reducible rfl))
          try simp only [Act.put, List.setIfInBounds_toArray, List.set_cons_zero, List.set_cons_succ]
          refine wpAnyH_take (i := 10) (oi := { dst := some 74, op := Op.binOp BinOp.eql 26 (Operand.tmp 73) (Operand.const (Value.int IntKind.i64 0)) 26, type := 4, pos := "law.go:218", after := #[{ on := 9, ground := Ground.data }, { on := 7, ground := Ground.guard }], guard := some (7, false) }) (v := ?_) rfl (by kernel_rfl) (by kernel_rfl) (by kernel_rfl) (fun _ _ _ h => h) (Or.inl ⟨by first | with_reducible rfl | go_simp, ?_⟩) (by assumption) ?_
          rotate_left
          · (intro w hSw; (try dsimp only at hSw); go_simp; try (with_reducible rfl))
          try simp only [Act.put, List.setIfInBounds_toArray, List.set_cons_zero, List.set_cons_succ]
          refine wpAnyH_take (i := 11) (oi := { dst := some 75, op := Op.move (Operand.tmp 74), type := 4, pos := "law.go:218", after := #[{ on := 10, ground := Ground.data }, { on := 7, ground := Ground.chain }, { on := 7, ground := Ground.guard }], guard := some (7, false) }) (v := ?_) rfl (by kernel_rfl) (by kernel_rfl) (by kernel_rfl) (fun _ _ _ h => h) (Or.inl ⟨by first | with_reducible rfl | go_simp, ?_⟩) (by assumption) ?_
          rotate_left
          · (intro w hSw; (try dsimp only at hSw); go_simp; try (with_reducible rfl))
          try simp only [Act.put, List.setIfInBounds_toArray, List.set_cons_zero, List.set_cons_succ]
          refine wpAnyH_take (i := 12) (oi := { dst := some 76, op := Op.fieldAddr 28 (Operand.tmp 13) 0, type := 0, pos := "law.go:218", after := #[{ on := 11, ground := Ground.guard }], guard := some (11, true) }) (v := undef) rfl (by kernel_rfl) (by kernel_rfl) (by kernel_rfl) (fun _ _ _ h => h) (Or.inr ⟨by go_simp, rfl⟩) (by assumption) ?_
          try simp only [Act.put, List.setIfInBounds_toArray, List.set_cons_zero, List.set_cons_succ]
          refine wpAnyH_take (i := 13) (oi := { dst := some 77, op := Op.load 25 (Operand.tmp 76), type := 25, pos := "law.go:218", after := #[{ on := 12, ground := Ground.data }, { on := 11, ground := Ground.guard }], guard := some (11, true) }) (v := undef) rfl (by kernel_rfl) (by kernel_rfl) (by kernel_rfl) (fun _ _ _ h => h) (Or.inr ⟨by go_simp, rfl⟩) (by assumption) ?_
          try simp only [Act.put, List.setIfInBounds_toArray, List.set_cons_zero, List.set_cons_succ]
          refine wpAnyH_take (i := 14) (oi := { dst := some 78, op := Op.call { callee := Callee.value (Operand.func 30), args := #[Operand.tmp 77], argTypes := #[25] }, type := 9, pos := "law.go:218", after := #[{ on := 13, ground := Ground.data }, { on := 11, ground := Ground.chain }, { on := 11, ground := Ground.guard }], guard := some (11, true) }) (v := undef) rfl (by kernel_rfl) (by kernel_rfl) (by kernel_rfl) (fun _ _ _ h => h) (Or.inr ⟨by go_simp, rfl⟩) (by assumption) ?_
          try simp only [Act.put, List.setIfInBounds_toArray, List.set_cons_zero, List.set_cons_succ]
          refine wpAnyH_take (i := 15) (oi := { dst := some 79, op := Op.move (Operand.tmp 11), type := 44, pos := "law.go:218", after := #[{ on := 11, ground := Ground.guard }], guard := some (11, true) }) (v := undef) rfl (by kernel_rfl) (by kernel_rfl) (by kernel_rfl) (fun _ _ _ h => h) (Or.inr ⟨by go_simp, rfl⟩) (by assumption) ?_
          try simp only [Act.put, List.setIfInBounds_toArray, List.set_cons_zero, List.set_cons_succ]
          refine wpAnyH_take (i := 16) (oi := { dst := some 80, op := Op.move (Operand.tmp 12), type := 3, pos := "law.go:218", after := #[{ on := 11, ground := Ground.guard }], guard := some (11, true) }) (v := undef) rfl (by kernel_rfl) (by kernel_rfl) (by kernel_rfl) (fun _ _ _ h => h) (Or.inr ⟨by go_simp, rfl⟩) (by assumption) ?_
          try simp only [Act.put, List.setIfInBounds_toArray, List.set_cons_zero, List.set_cons_succ]
          refine wpAnyH_take (i := 17) (oi := { dst := some 81, op := Op.indexAddr 44 (Operand.tmp 79) (Operand.tmp 80), type := 0, pos := "law.go:218", after := #[{ on := 15, ground := Ground.data }, { on := 16, ground := Ground.data }, { on := 11, ground := Ground.guard }], guard := some (11, true) }) (v := undef) rfl (by kernel_rfl) (by kernel_rfl) (by kernel_rfl) (fun _ _ _ h => h) (Or.inr ⟨by go_simp, rfl⟩) (by assumption) ?_
          try simp only [Act.put, List.setIfInBounds_toArray, List.set_cons_zero, List.set_cons_succ]
          refine wpAnyH_take (i := 18) (oi := { dst := some 82, op := Op.load 9 (Operand.tmp 81), type := 9, pos := "law.go:218", after := #[{ on := 17, ground := Ground.data }, { on := 11, ground := Ground.guard }], guard := some (11, true) }) (v := undef) rfl (by kernel_rfl) (by kernel_rfl) (by kernel_rfl) (fun _ _ _ h => h) (Or.inr ⟨by go_simp, rfl⟩) (by assumption) ?_
          try simp only [Act.put, List.setIfInBounds_toArray, List.set_cons_zero, List.set_cons_succ]
          refine wpAnyH_take (i := 19) (oi := { dst := some 83, op := Op.binOp BinOp.neq 9 (Operand.tmp 78) (Operand.tmp 82) 9, type := 4, pos := "law.go:218", after := #[{ on := 14, ground := Ground.data }, { on := 18, ground := Ground.data }, { on := 11, ground := Ground.guard }], guard := some (11, true) }) (v := undef) rfl (by kernel_rfl) (by kernel_rfl) (by kernel_rfl) (fun _ _ _ h => h) (Or.inr ⟨by go_simp, rfl⟩) (by assumption) ?_
          try simp only [Act.put, List.setIfInBounds_toArray, List.set_cons_zero, List.set_cons_succ]
          refine wpAnyH_take (i := 20) (oi := { dst := some 84, op := Op.pick (Operand.tmp 75) (Operand.tmp 83) (Operand.const (Value.bool false)), type := 4, pos := "law.go:218", after := #[{ on := 11, ground := Ground.data }, { on := 19, ground := Ground.data }, { on := 7, ground := Ground.guard }], guard := some (7, false) }) (v := ?_) rfl (by kernel_rfl) (by kernel_rfl) (by kernel_rfl) (fun _ _ _ h => h) (Or.inl ⟨by first | with_reducible rfl | go_simp, ?_⟩) (by assumption) ?_
          rotate_left
          · (intro w hSw; (try dsimp only at hSw); go_simp; try (with_reducible rfl))
          try simp only [Act.put, List.setIfInBounds_toArray, List.set_cons_zero, List.set_cons_succ]
          refine wpAnyH_take (i := 21) (oi := { dst := some 85, op := Op.pick (Operand.tmp 71) (Operand.const (Value.bool true)) (Operand.tmp 84), type := 4, pos := "law.go:218", after := #[{ on := 7, ground := Ground.data }, { on := 20, ground := Ground.data }], guard := none }) (v := ?_) rfl (by kernel_rfl) (by kernel_rfl) (by kernel_rfl) (fun _ _ _ h => h) (Or.inl ⟨by first | with_reducible rfl | go_simp, ?_⟩) (by assumption) ?_
          rotate_left
          · (intro w hSw; (try dsimp only at hSw); go_simp; try (with_reducible rfl))
          try simp only [Act.put, List.setIfInBounds_toArray, List.set_cons_zero, List.set_cons_succ]
          refine wpAnyH_done (by kernel_rfl) ?_ _
          obtain ⟨q1, q2, q3, q4, q5, q6, q7, q8⟩ := hHeld
          have KW2 := Lib.hid q1
          clear q1 hS0 q3 q5 q6 q7
          go_wp2
          go_roundw
          case rel => exact ⟨k + 1, by omega, by go_num, q2, KW2⟩
          case measure => simp [intOf]; omega
      · obtain rfl : k = n := by omega
        go_wp2
        go_ret
        exact ⟨rfl, KW.out⟩
end Go.Proofs.Ytieabeodommbiaa
