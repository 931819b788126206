/- Numbers as lists of bits: times. -/
import Derived.Test.YtieabeodommbiaaNd
import Derived.Laws.AppendOwnNone
namespace Go.Proofs.Ytieabeodommbiaa
open Go.RowKit
set_option maxRecDepth 100000
set_option linter.unusedVariables false

theorem num_cells {L : List Int} {w : World} {b off : Nat} (hc : ∀ t, t < L.length → w.cell? ⟨b, off + t, none⟩ = some (.int .i64 (L.getD t 0))) : ∀ (j : Nat) (u : Value), (L.map (Value.int .i64))[j]? = some u → w.cell? ((⟨b, off, none⟩ : Addr).add j) = some u := by
  intro j u hj
  rw [List.getElem?_map, Option.map_eq_some_iff] at hj
  obtain ⟨x, hx, rfl⟩ := hj
  have hl : j < L.length := by
    rcases Nat.lt_or_ge j L.length with h | h
    · exact h
    · rw [List.getElem?_eq_none h] at hx; cases hx
  have := hc j hl
  rw [List.getD_eq_getElem?_getD, hx] at this
  simp only [Option.getD_some] at this
  unfold Addr.add
  split
  · rename_i h0; have h0 : j = 0 := by simpa using h0
    subst h0; simpa using this
  · exact this
theorem ints_one (L : List Int) : ∀ u ∈ L.map (Value.int .i64), u.oneCell' = true := by
  intro u hu
  obtain ⟨x, _, rfl⟩ := List.mem_map.1 hu
  rfl
theorem nplus_any {A B : List Int} {va vb : Value} {W : World} (hA : Bits A) (hB : Bits B) (ha : A.length ≤ 1000) (hb : B.length ≤ 1000) (na : Num A W va) (nb : Num B W vb) (w : World) (hw : Below W.heap.size W w) :
    Calls Try.prog 67 #[va, vb] w (CPost (vl A + vl B) (max A.length B.length + 1) w) := by
  have na' := na.below hw
  have nb' := nb.below hw
  obtain ⟨aa, ca, rfl⟩ := na.shape
  obtain ⟨ab, cb, rfl⟩ := nb.shape
  exact nplus_c hA hB ha hb rfl rfl na' nb'
/-- a row of the call's own, at an address -/
theorem own_some {w : World} {base : Nat} {v : Value} {n : Nat} {xs : List Value} (h : w.ownsRow base 3 1 v n xs) (hne : v ≠ .slice none 0 0) : ∃ g cap, v = .slice (some ⟨g, 0, none⟩) n cap := by
  rcases h.2 with ⟨h, _⟩ | ⟨g, cap, cur, h, _⟩
  · exact absurd h hne
  · exact ⟨g, cap, h⟩
structure TF (A B : List Int) (k : Nat) (R S : List Int) : Prop where
  r : vl R = vl A * vl (B.take k)
  rb : Bits R
  rc : Can R
  rl : R.length ≤ A.length + k + 1
  s : vl S = 2 ^ k * vl A
  sb : Bits S
  sl : S.length = A.length + k
theorem TF.zero {A B : List Int} (hA : Bits A) : TF A B 0 [] A := ⟨by simp [vl], by simp [Bits], can_nil, by simp, by simp, hA, rfl⟩
theorem TF.step0 {A B R S : List Int} {k : Nat} (h : TF A B k R S) (e : B.getD k 0 = 0) : TF A B (k + 1) R (0 :: S) := by
  refine ⟨by rw [h.r, vl_take_succ, e]; simp, h.rb, h.rc, by have := h.rl; omega, by rw [vl, h.s, Int.pow_succ]; grind, ?_, by rw [List.length_cons, h.sl]; omega⟩
  intro x hx
  rcases List.mem_cons.1 hx with rfl | hx
  · exact .inl rfl
  · exact h.sb x hx
theorem TF.step1 {A B R S K : List Int} {k : Nat} (h : TF A B k R S) (e : B.getD k 0 = 1) (h1 : vl K = vl R + vl S) (h2 : Bits K) (h3 : Can K) (h4 : K.length ≤ max R.length S.length + 1) : TF A B (k + 1) K (0 :: S) := by
  refine ⟨by rw [h1, h.r, h.s, vl_take_succ, e]; grind, h2, h3, by have := h.rl; have := h.sl; omega, by rw [vl, h.s, Int.pow_succ]; grind, ?_, by rw [List.length_cons, h.sl]; omega⟩
  intro x hx
  rcases List.mem_cons.1 hx with rfl | hx
  · exact .inl rfl
  · exact h.sb x hx
set_option maxHeartbeats 12800000 in
theorem times_c {A B : List Int} {la lb ca cb : Nat} {aa ab : Option Addr} {W : World} (hA : Bits A) (hB : Bits B) (ha : A.length ≤ 200) (hb : B.length ≤ 200) (ea : la = A.length) (eb : lb = B.length) (na : Num A W (.slice aa la ca)) (nb : Num B W (.slice ab lb cb)) :
    Calls Try.prog 47 #[.slice aa la ca, .slice ab lb cb] W (CPost (vl A * vl B) (la + lb + 1) W) := by
  have hla : la ≤ 200 := by omega
  have hlb : lb ≤ 200 := by omega
  have EA := Lib.hid ea
  have EB := Lib.hid eb
  have HA := Lib.hid hA
  have HB := Lib.hid hB
  have NB := Lib.hid nb
  have T0 : Hid (TF A B 0 [] A) := Lib.hid (TF.zero hA)
  obtain ⟨i0, hi, hz0, hz1, hz2⟩ := info_parts info3
  have hcase : (A = [] ∧ aa = none ∧ la = 0 ∧ ca = 0) ∨ (A = [] ∧ (∃ b off, aa = some ⟨b, off, none⟩) ∧ la = 0) ∨ (0 < A.length ∧ ∃ b off, aa = some ⟨b, off, none⟩ ∧ b < W.heap.size ∧ ∀ t, t < A.length → W.cell? ⟨b, off + t, none⟩ = some (.int .i64 (A.getD t 0))) := by
    rcases na with ⟨e, h⟩ | ⟨b, off, cap, h, h1, h2, h3⟩
    · cases h; exact .inl ⟨e, rfl, rfl, rfl⟩
    · cases h
      by_cases e : A = []
      · exact .inr (.inl ⟨e, ⟨b, off, rfl⟩, by rw [e]; rfl⟩)
      · exact .inr (.inr ⟨List.length_pos_iff.2 e, b, off, rfl, h2, h3⟩)
  have hown0 : ((W.alloc (.cells #[] 3)).alloc (.cells #[] 3)).ownsRow W.heap.size 3 1 (.slice (some ⟨W.heap.size + 1, 0, none⟩) 0 0) 0 [] := by
    have := World.ownsRow_made (base := W.heap.size) (e := 3) (size := 1) (W.alloc (.cells #[] 3)) #[] 0 (by simp) (Nat.zero_le _) rfl
    simpa using this
  have hbel0 : Below W.heap.size W ((W.alloc (.cells #[] 3)).alloc (.cells #[] 3)) := ((Below.refl W.heap.size W).alloc (Nat.le_refl _) _).alloc (by simp) _
  clear hA hB nb na eb hb
  rcases hcase with ⟨eA, rfl, rfl, rfl⟩ | ⟨eA, ⟨b, off, rfl⟩, rfl⟩ | ⟨hpos, b, off, rfl, h2, h3⟩
  case' inl =>
    have EA0 := Lib.hid eA
    clear ea eA
    have HO := Lib.hid hown0
    have HBE := Lib.hid hbel0
    clear hown0 hbel0
    go_enter Try.func47, Try.ntmps47
    go_wp2_with (at_builtin; refine wpList_append_own_none rfl _ _ 54 rfl W.heap.size 3 i0 1 Try.underlying54 hi _ _ _ rfl HO.out rfl ?_)
    have hstart : ((W.alloc (.cells #[] 3)).alloc (.cells #[] 3)).ownsRow W.heap.size 3 1 (.slice (some ⟨W.heap.size + 1, 0, none⟩) 0 0) A.length (A.map (.int .i64)) := by rw [EA0.out]; simpa using HO.out
    have hz : W.heap.size < ((W.alloc (.cells #[] 3)).alloc (.cells #[] 3)).heap.size := by simp; omega
    have hbs := HBE.out
    have hns : (Value.slice (some ⟨W.heap.size + 1, 0, none⟩) 0 0) ≠ .slice none 0 0 := by simp
  case' inr.inl =>
    have EA0 := Lib.hid eA
    clear ea eA
    have HO := Lib.hid hown0
    have HBE := Lib.hid hbel0
    clear hown0 hbel0
    go_enter Try.func47, Try.ntmps47
    go_wp2
    have hstart : ((W.alloc (.cells #[] 3)).alloc (.cells #[] 3)).ownsRow W.heap.size 3 1 (.slice (some ⟨W.heap.size + 1, 0, none⟩) 0 0) A.length (A.map (.int .i64)) := by rw [EA0.out]; simpa using HO.out
    have hz : W.heap.size < ((W.alloc (.cells #[] 3)).alloc (.cells #[] 3)).heap.size := by simp; omega
    have hbs := HBE.out
    have hns : (Value.slice (some ⟨W.heap.size + 1, 0, none⟩) 0 0) ≠ .slice none 0 0 := by simp
  case' inr.inr =>
    have hcells := num_cells (w := (W.alloc (.cells #[] 3)).alloc (.cells #[] 3)) (L := A) (b := b) (off := off) fun t ht => by
      rw [← h3 t ht]
      exact hbel0.cell h2
    have HN := Lib.hid hcells
    have HO := Lib.hid hown0
    have HBE := Lib.hid hbel0
    subst ea
    clear hown0 hbel0 hcells h3
    go_enter Try.func47, Try.ntmps47
    go_wp2_with (at_builtin; refine wpList_append_own _ rfl _ _ 54 rfl W.heap.size 3 i0 (.int .i64 0) 1 8 Try.underlying54 hi hz0 hz1 hz2 rfl (by decide) _ _ _ rfl HO.out ⟨b, off, none⟩ A.length ca (A.map (.int .i64)) rfl (by simp) HN.out (ints_one A) (by unfold maxLen; omega) (by omega) (by simp; omega) ?_)
    intro v6 w1 hown hgrow hnil
    have hstart : w1.ownsRow W.heap.size 3 1 v6 A.length (A.map (.int .i64)) := by simpa using hown
    have hbs : Below W.heap.size W w1 := HBE.out.grown hgrow (by simp; omega) fun k hk => (HO.out.lt k hk).1
    have hns : v6 ≠ .slice none 0 0 := hnil
    have hz : W.heap.size < w1.heap.size := by have := hgrow.size; simp at this; omega
    clear hown hgrow hnil
    go_wp2
  all_goals
    have HS := Lib.hid hstart
    have HNS := Lib.hid hns
    clear hstart hns
    go_loopw [5, 6, 7] (fun r s i wr => ∃ (k : Nat) (R S : List Int), k ≤ lb ∧ i = .int .i64 k ∧ Hid (TF A B k R S) ∧ Hid (Num R wr r) ∧ Hid (wr.ownsRow W.heap.size 3 1 s S.length (S.map (.int .i64))) ∧ s ≠ .slice none 0 0 ∧ Below W.heap.size W wr) (fun _ _ i _ => lb - (intOf i).toNat)
    case atStart => exact ⟨0, [], A, Nat.zero_le _, rfl, T0, .inr ⟨W.heap.size, 0, 0, rfl, Nat.zero_le _, hz, fun t ht => by simp at ht⟩, HS, HNS.out, hbs⟩
    case round =>
      obtain ⟨k, R, S, hk, rfl, HT, NR, HOW, hsn, hbl⟩ := hrel
      have hSl : S.length ≤ 400 := by have := HT.out.sl; omega
      have hRl : R.length ≤ 401 := by have := HT.out.rl; omega
      obtain ⟨g, cs, rfl⟩ := own_some HOW.out hsn
      obtain ⟨ar, cr, rfl⟩ := NR.out.shape
      clear hsn
      by_cases hlt : k < lb
      · obtain ⟨b', off', rfl, hc⟩ : ∃ b' off', ab = some ⟨b', off', none⟩ ∧ wr.cell? ⟨b', off' + k, none⟩ = some (.int .i64 (B.getD k 0)) := by
          rcases NB.out.below hbl with ⟨e, h⟩ | ⟨b', off', cap', h, g1, g2, g3⟩
          · cases h; omega
          · cases h; exact ⟨b', off', rfl, g3 k (by have := EB.out; omega)⟩
        have hx := bits_get HB.out k
        by_cases hx1 : B.getD k 0 = 1
        · rw [hx1] at hc
          have T1 := Lib.hid (fun K => HT.out.step1 (K := K) hx1)
          have HP := Lib.hid (nplus_any HT.out.rb HT.out.sb (by omega) (by omega) NR.out (Num.of_owns HOW.out) wr (Below.refl _ _))
          clear hx hx1
          go_wp2_with fail
          refine HP.out.mono ?_
          rintro e w2 ⟨K, q1, q2, q3, q4, v, rfl, q5, q6⟩
          have hbl2 := hbl.trans (q6.mono hbl.size)
          have HO2 := Lib.hid (own_below HOW.out q6)
          have HLIT : Hid ((w2.alloc (.cells #[.int .i64 0] 3)).ownsRow W.heap.size 3 1 (.slice (some ⟨w2.heap.size, 0, none⟩) 1 1) 1 [.int .i64 0]) := Lib.hid (World.ownsRow_lit w2 #[.int .i64 0] 1 hbl2.size (by decide) rfl)
          have T2 := Lib.hid (T1.out K q1 q2 q3 q4)
          have Q5 := Lib.hid q5
          clear q1 q2 q3 q5 q6 HP T1
          go_wp2_with (at_builtin; refine wpList_append_own _ rfl _ _ 54 rfl W.heap.size 3 i0 (.int .i64 0) 1 8 Try.underlying54 hi hz0 hz1 hz2 rfl (by decide) _ _ _ rfl HLIT.out ⟨g, 0, none⟩ S.length cs (S.map (.int .i64)) rfl (by simp) ((HO2.out.alloc _).cells rfl) (ints_one S) (by unfold maxLen; omega) (by omega) (by have := hbl2.size; simp; omega) ?_)
          intro v' w3 hown' hgrow hnil
          have hb3 : Below w2.heap.size w2 w3 := ((Below.refl _ _).alloc (Nat.le_refl _) _).grown hgrow (by simp) fun k hk => by simp [Value.ownBlock] at hk; omega
          have HO3 : Hid (w3.ownsRow W.heap.size 3 1 v' (0 :: S).length ((0 :: S).map (.int .i64))) := Lib.hid (by simpa [Nat.add_comm] using hown')
          have HN3 : Hid (v' ≠ .slice none 0 0) := Lib.hid (by first | exact hnil | (intro h; have := hnil.1 h; simp at this))
          have N5 := Lib.hid (Q5.out.below hb3)
          have hbl3 := hbl2.trans (hb3.mono hbl2.size)
          clear hown' hgrow hnil hb3
          go_wp2
          go_roundw
          case rel => exact ⟨k + 1, K, 0 :: S, by omega, by go_num, T2, N5, HO3, HN3.out, hbl3⟩
          case measure => simp [intOf]; omega
        · have hx0 : B.getD k 0 = 0 := by omega
          rw [hx0] at hc
          have T2 := Lib.hid (HT.out.step0 hx0)
          have HLIT : Hid ((wr.alloc (.cells #[.int .i64 0] 3)).ownsRow W.heap.size 3 1 (.slice (some ⟨wr.heap.size, 0, none⟩) 1 1) 1 [.int .i64 0]) := Lib.hid (World.ownsRow_lit wr #[.int .i64 0] 1 hbl.size (by decide) rfl)
          clear hx hx1 hx0
          go_wp2_with (at_builtin; refine wpList_append_own _ rfl _ _ 54 rfl W.heap.size 3 i0 (.int .i64 0) 1 8 Try.underlying54 hi hz0 hz1 hz2 rfl (by decide) _ _ _ rfl HLIT.out ⟨g, 0, none⟩ S.length cs (S.map (.int .i64)) rfl (by simp) ((HOW.out.alloc _).cells rfl) (ints_one S) (by unfold maxLen; omega) (by omega) (by have := hbl.size; simp; omega) ?_)
          intro v' w3 hown' hgrow hnil
          have hb3 : Below wr.heap.size wr w3 := ((Below.refl _ _).alloc (Nat.le_refl _) _).grown hgrow (by simp) fun k hk => by simp [Value.ownBlock] at hk; omega
          have HO3 : Hid (w3.ownsRow W.heap.size 3 1 v' (0 :: S).length ((0 :: S).map (.int .i64))) := Lib.hid (by simpa [Nat.add_comm] using hown')
          have HN3 : Hid (v' ≠ .slice none 0 0) := Lib.hid (by first | exact hnil | (intro h; have := hnil.1 h; simp at this))
          have N5 := Lib.hid (NR.out.below hb3)
          have hbl3 := hbl.trans (hb3.mono hbl.size)
          clear hown' hgrow hnil hb3
          go_wp2
          go_roundw
          case rel => exact ⟨k + 1, R, 0 :: S, by omega, by go_num, T2, N5, HO3, HN3.out, hbl3⟩
          case measure => simp [intOf]; omega
      · obtain rfl : k = lb := by omega
        go_wp2
        go_ret
        exact ⟨R, by have := HT.out.r; rw [EB.out, List.take_of_length_le (Nat.le_refl _)] at this; exact this, HT.out.rb, HT.out.rc, by have := HT.out.rl; have := EA.out; omega, _, rfl, NR.out, hbl⟩
end Go.Proofs.Ytieabeodommbiaa

/- Numbers as lists of bits: divide. -/
namespace Go.Proofs.Ytieabeodommbiaa
open Go.RowKit
set_option maxRecDepth 100000
set_option linter.unusedVariables false

/-- what cut leaves of a list that stands at an address -/
def APost (L : List Int) (b off cap : Nat) (w : World) (e : Ending) (w' : World) : Prop := ∃ k, k ≤ L.length ∧ e = .returned (.slice (some ⟨b, off, none⟩) k cap) ∧ vl (L.take k) = vl L ∧ Can (L.take k) ∧ w' = w
set_option maxHeartbeats 1600000 in
theorem cut_at {L : List Int} (b off cap : Nat) (W : World) (hb : Bits L) (hl : L.length ≤ 1000000) (hcap : L.length ≤ cap) (hbb : b < W.heap.size) (hc : ∀ t, t < L.length → W.cell? ⟨b, off + t, none⟩ = some (.int .i64 (L.getD t 0))) :
    Calls Try.prog 70 #[.slice (some ⟨b, off, none⟩) L.length cap] W (APost L b off cap W) := by
  have HC := Lib.hid hc
  have HB := Lib.hid hb
  clear hc hb
  go_enter Try.func70, Try.ntmps70
  go_wp2
  go_loopw [3] (fun i wr => ∃ k : Nat, k ≤ L.length ∧ i = .int .i64 k ∧ vl (L.take k) = vl L ∧ wr = W) (fun i _ => (intOf i).toNat)
  case atStart => exact ⟨L.length, Nat.le_refl _, rfl, by simp, rfl⟩
  case round =>
    obtain ⟨k, hk, rfl, hv, rfl⟩ := hrel
    have HV := Lib.hid hv
    clear hv
    rcases k with _ | k
    · go_wp2
      go_ret
      exact ⟨0, Nat.zero_le _, rfl, HV.out, by simp [Can], rfl⟩
    · have hc := HC.out k (by omega)
      have hbt : Bits (L.take (k + 1)) := fun x hx => HB.out x (List.mem_of_mem_take hx)
      have HT := Lib.hid hbt
      clear hbt
      have h3 : (((k + 1 : Nat) : Int) - 1) = (k : Int) := by omega
      by_cases h0 : L.getD k 0 = 0
      · have HV2 := Lib.hid ((vl_take hk h0).trans HV.out)
        rw [h0] at hc
        clear h0
        go_wp2
        go_roundw
        case rel => exact ⟨k, by omega, rfl, HV2.out, trivial⟩
        case measure => simp [intOf]
      · have HK := Lib.hid (can_take HB.out hk h0)
        generalize L.getD k 0 = x at *
        have hn : (x == 0) = false := by simpa using h0
        go_wp2
        go_ret
        exact ⟨k + 1, hk, rfl, HV.out, HK.out, rfl⟩

structure NDF (A Q : List Int) (k : Nat) (r m : Int) : Prop where
  len : Q.length = A.length
  bits : Bits Q
  low : ∀ t, t < k → Q.getD t 0 = 0
  val : vl (Q.drop k) * m + r = vl (A.drop k)
theorem NDF.start (A : List Int) (m : Int) : NDF A (List.replicate A.length 0) A.length 0 m := by
  refine ⟨by simp, fun x hx => .inl (List.eq_of_mem_replicate hx), fun t ht => by simp [List.getD, ht], ?_⟩
  rw [List.drop_of_length_le (by simp), List.drop_of_length_le (by simp)]
  simp [vl]
theorem NDF.step0 {A Q : List Int} {k : Nat} {r m : Int} (h : NDF A Q (k + 1) r m) (hk : k < A.length) : NDF A Q k (2 * r + A.getD k 0) m := by
  refine ⟨h.len, h.bits, fun t ht => h.low t (by omega), ?_⟩
  rw [vl_drop (L := A) hk, vl_drop (L := Q) (by rw [h.len]; exact hk), h.low k (by omega), ← h.val]
  grind
theorem NDF.step1 {A Q : List Int} {k : Nat} {r m : Int} (h : NDF A Q (k + 1) r m) (hk : k < A.length) : NDF A (Q.set k 1) k (2 * r + A.getD k 0 - m) m := by
  have hq : k < (Q.set k 1).length := by rw [List.length_set, h.len]; exact hk
  have hq' : k < Q.length := by rw [h.len]; exact hk
  refine ⟨by rw [List.length_set]; exact h.len, fun x hx => ?_, fun t ht => ?_, ?_⟩
  · rcases List.mem_or_eq_of_mem_set hx with hx | rfl
    · exact h.bits x hx
    · exact .inr rfl
  · have := h.low t (by omega)
    simp only [List.getD_eq_getElem?_getD] at this ⊢
    rw [List.getElem?_set_ne (by omega)]; exact this
  · have e1 : (Q.set k 1).getD k 0 = 1 := by simp [List.getD, hq']
    have e2 : (Q.set k 1).drop (k + 1) = Q.drop (k + 1) := by rw [List.drop_set_of_lt (by omega)]
    rw [vl_drop (L := A) hk, vl_drop (L := Q.set k 1) hq, e1, e2, ← h.val]
    grind
def DPost (A : List Int) (m : Int) (w : World) (e : Ending) (w' : World) : Prop := ∃ K v, e = .returned (.agg #[v, .int .i64 (vl A % m)]) ∧ vl K = vl A / m ∧ Bits K ∧ Can K ∧ K.length ≤ A.length ∧ Num K w' v ∧ Below w.heap.size w w'
theorem num_after {Q : List Int} {j la g c base : Nat} {w : World} {x y : Value} (hQ : Q.length = la) (hown : w.ownsRow base 3 1 (.slice (some ⟨g, 0, none⟩) la la) la (Q.map (.int .i64))) (hj : j ≤ la) (hg : g ≠ c) :
    Num (Q.take j) ((w.setCell ⟨c, 0, none⟩ x).setCell ⟨c, 1, none⟩ y) (.slice (some ⟨g, 0, none⟩) j la) := by
  have e : (Q.take j).length = j := by rw [List.length_take]; omega
  have hs := (hown.lt g rfl).2
  refine .inr ⟨g, 0, la, by rw [e], by omega, by simpa using hs, fun t ht => ?_⟩
  rw [e] at ht
  have h1 : w.cell? ⟨g, t, none⟩ = some (.int .i64 (Q.getD t 0)) := by
    rw [hown.cellAt t (by omega), List.getElem?_map, List.getElem?_eq_getElem (by omega)]
    simp [List.getD, show t < Q.length by omega]
  rw [Nat.zero_add, World.cell?_of_block (w := w) (by rw [Below.heap_setCell _ _ _ _ (by exact hg), Below.heap_setCell _ _ _ _ (by exact hg)]), h1]
  simp [List.getD, List.getElem?_take_of_lt ht]
theorem NDF.fin {A Q : List Int} {r m : Int} (h : NDF A Q 0 r m) (hr : 0 ≤ r) (hm : r < m) : vl Q = vl A / m ∧ r = vl A % m := by
  have := h.val
  simp only [List.drop_zero] at this
  have h1 := (Int.ediv_emod_unique (a := vl A) (b := m) (r := r) (q := vl Q) (by omega)).2 ⟨by rw [← this]; grind, hr, hm⟩
  exact ⟨h1.1.symm, h1.2.symm⟩
set_option maxHeartbeats 6400000 in
theorem ndivide_c {A : List Int} {la ca : Nat} {aa : Option Addr} {W : World} {m : Int} (hm : 1 ≤ m) (hm2 : m ≤ 4611686018427387904) (hA : Bits A) (ha : A.length ≤ 1000) (ea : la = A.length) (na : Num A W (.slice aa la ca)) :
    Calls Try.prog 45 #[.slice aa la ca, .int .i64 m] W (DPost A m W) := by
  have hla : la ≤ 1000 := by omega
  have EA := Lib.hid ea
  have HA := Lib.hid hA
  have NA := Lib.hid na
  clear hA na ea ha
  obtain ⟨i0, hi, hz0, hz1, hz2⟩ := info_parts info3
  go_enter Try.func45, Try.ntmps45
  go_wp2_with (refine wpList_make_full _ rfl _ _ 54 rfl (W.heap.size + 1) 3 i0 (.int .i64 0) 1 Try.underlying54 hi hz0 hz1 .i64 .i64 (la : Int) (la : Int) la rfl rfl rfl rfl (by rw [hz2]; omega) (by unfold maxLen; omega) (by simp) ?_)
  intro w1 hown hgrow
  have hb1 : Below (W.heap.size + 1) (W.alloc (.cells #[.slice none 0 0, .int .i64 0] 60)) w1 := (Below.refl _ _).grown hgrow (by simp) (fun k hk => by cases hk)
  have q0 : w1.cell? ⟨W.heap.size, 0, none⟩ = some (.slice none 0 0) := by rw [hb1.cell (by simp)]; simp
  have q1 : w1.cell? ⟨W.heap.size, 1, none⟩ = some (.int .i64 0) := by rw [hb1.cell (by simp)]; simp
  have p0 : w1.frozen? ⟨W.heap.size, 0, none⟩ = false := by rw [hb1.frozen (by simp)]; exact World.frozen?_alloc_at _ _ _ _ (by simp)
  have p1 : w1.frozen? ⟨W.heap.size, 1, none⟩ = false := by rw [hb1.frozen (by simp)]; exact World.frozen?_alloc_at _ _ _ _ (by simp)
  have HW : Hid (Below W.heap.size W w1) := Lib.hid (((Below.refl _ _).alloc (Nat.le_refl _) _).trans (hb1.mono (by omega)))
  have HO : Hid (w1.ownsRow (W.heap.size + 1) 3 1 (.slice (some ⟨W.heap.size + 1, 0, none⟩) la la) la ((List.replicate A.length (0 : Int)).map (.int .i64))) := by
    have e := toList_madeCells_one (Value.int .i64 0) la
    show w1.ownsRow _ _ _ _ _ _
    rw [← EA.out, List.map_replicate, ← e]
    simpa using hown
  have HQ : Hid (∀ wr, Below (W.heap.size + 1) w1 wr → wr.cell? ⟨W.heap.size, 0, none⟩ = some (.slice none 0 0) ∧ wr.cell? ⟨W.heap.size, 1, none⟩ = some (.int .i64 0) ∧ wr.frozen? ⟨W.heap.size, 0, none⟩ = false ∧ wr.frozen? ⟨W.heap.size, 1, none⟩ = false) := Lib.hid fun wr h =>
    ⟨(h.cell (Nat.lt_succ_self _)).trans q0, (h.cell (Nat.lt_succ_self _)).trans q1, (h.frozen (Nat.lt_succ_self _)).trans p0, (h.frozen (Nat.lt_succ_self _)).trans p1⟩
  clear hown hgrow hb1 q0 q1 p0 p1
  go_wp2
  go_loopw [6, 7] (fun r i wr => ∃ (k : Nat) (Q : List Int) (rv : Int), k ≤ la ∧ i = .int .i64 ((k : Int) - 1) ∧ r = .int .i64 rv ∧ 0 ≤ rv ∧ rv < m ∧ Hid (NDF A Q k rv m) ∧ Hid (wr.ownsRow (W.heap.size + 1) 3 1 (.slice (some ⟨W.heap.size + 1, 0, none⟩) la la) la (Q.map (.int .i64))) ∧ Hid (Below (W.heap.size + 1) w1 wr)) (fun _ i _ => (intOf i + 1).toNat)
  case atStart => exact ⟨la, List.replicate A.length 0, 0, Nat.le_refl _, rfl, rfl, by omega, by omega, by have := NDF.start A m; rw [← EA.out] at this ⊢; exact this, HO, Below.refl _ _⟩
  case round =>
    obtain ⟨k, Q, rv, hk, rfl, rfl, hr0, hr1, HD, HOW, HBL⟩ := hrel
    have HWR : Hid (Below W.heap.size W wr) := Lib.hid (HW.out.trans (HBL.out.mono (by omega)))
    rcases k with _ | k
    · have h0 := HBL.out
      obtain ⟨q0, q1, p0, p1⟩ := HQ.out wr h0
      clear h0
      have hQl : Q.length = la := by rw [HD.out.len, EA.out]
      have HQl := Lib.hid hQl
      clear hQl
      have HCU : Hid (Calls Try.prog 70 #[.slice (some ⟨W.heap.size + 1, 0, none⟩) la la] wr (APost Q (W.heap.size + 1) 0 la wr)) := by
        have n := Num.of_owns (L := Q) (by rw [HQl.out]; exact HOW.out)
        rcases n with ⟨_, h⟩ | ⟨b, off, cap, h, h1, h2, h3⟩
        · cases h
        · simp at h
          obtain ⟨⟨rfl, rfl⟩, hl, rfl⟩ := h
          have := cut_at (L := Q) (W.heap.size + 1) 0 la wr HD.out.bits (by omega) (by omega) h2 (fun t ht => h3 t ht)
          rw [HQl.out] at this
          exact this
      have HN : Hid (∀ j x y, j ≤ la → Num (Q.take j) ((wr.setCell ⟨W.heap.size, 0, none⟩ x).setCell ⟨W.heap.size, 1, none⟩ y) (.slice (some ⟨W.heap.size + 1, 0, none⟩) j la)) := Lib.hid fun j x y hj => num_after HQl.out HOW.out hj (by omega)
      have HF := Lib.hid (HD.out.fin hr0 hr1)
      go_wp2_with fail
      refine HCU.out.mono ?_
      rintro e w2 ⟨j, hj, rfl, v1, v2, rfl⟩
      have V1 := Lib.hid v1
      have V2 := Lib.hid v2
      have hj' : j ≤ la := by have := HQl.out; omega
      clear v1 v2 hj HCU
      go_wp2
      exact bodyPost_ret (v := .agg #[.slice (some ⟨W.heap.size + 1, 0, none⟩) j la, .int .i64 rv]) (by simp [results, Try.results45, go_sem, q0, q1]) rfl
        ⟨Q.take j, _, by rw [← HF.out.2], V1.out.trans HF.out.1, bits_take HD.out.bits j, V2.out, by rw [List.length_take, HD.out.len]; omega, HN.out j _ _ hj', (HWR.out.setCell (Nat.le_refl _) _).setCell (Nat.le_refl _) _⟩
    · have h3 : (((k + 1 : Nat) : Int) - 1) = (k : Int) := by omega
      have hx := bits_get HA.out k
      have HS0 := Lib.hid (HD.out.step0 (by have := EA.out; omega))
      have HS1 := Lib.hid (HD.out.step1 (by have := EA.out; omega))
      have hc1 : wr.cell? ⟨W.heap.size + 1, k, none⟩ = some (.int .i64 (Q.getD k 0)) := by
        have := HD.out.len
        have := EA.out
        rw [HOW.out.cellAt k (by omega), List.getElem?_map, List.getElem?_eq_getElem (by omega)]
        simp [List.getD, show k < Q.length by omega]
      have hf1 : wr.frozen? ⟨W.heap.size + 1, k, none⟩ = false := HOW.out.frozenAt k
      obtain ⟨b', off', rfl, hc⟩ : ∃ b' off', aa = some ⟨b', off', none⟩ ∧ wr.cell? ⟨b', off' + k, none⟩ = some (.int .i64 (A.getD k 0)) := by
        rcases NA.out.below HWR.out with ⟨e, h⟩ | ⟨b', off', cap', h, g1, g2, g3⟩
        · cases h; omega
        · cases h; exact ⟨b', off', rfl, g3 k (by have := EA.out; omega)⟩
      generalize A.getD k 0 = x at *
      generalize Q.getD k 0 = z at *
      have hx0 : 0 ≤ x ∧ x ≤ 1 := by omega
      clear hx
      by_cases hge : m ≤ 2 * rv + x
      · have hst := HOW.out.stored k (.int .i64 1)
        have HO2 : Hid ((wr.setCell ⟨W.heap.size + 1, k, none⟩ (.int .i64 1)).ownsRow (W.heap.size + 1) 3 1 (.slice (some ⟨W.heap.size + 1, 0, none⟩) la la) la ((Q.set k 1).map (.int .i64))) := Lib.hid (by rw [List.map_set]; exact hst.1)
        have HB2 : Hid (Below (W.heap.size + 1) w1 (wr.setCell ⟨W.heap.size + 1, k, none⟩ (.int .i64 1))) := Lib.hid (HBL.out.setCell (Nat.le_refl _) _)
        clear hst
        go_wp2
        go_roundw
        case rel => exact ⟨k, Q.set k 1, 2 * rv + x - m, by omega, rfl, rfl, by omega, by omega, HS1, HO2, HB2⟩
        case measure => simp [intOf]
      · go_wp2
        go_roundw
        case rel => exact ⟨k, Q, 2 * rv + x, by omega, rfl, rfl, by omega, by omega, HS0, HOW, HBL⟩
        case measure => simp [intOf]
end Go.Proofs.Ytieabeodommbiaa
