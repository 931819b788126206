/- Numbers as lists of bits (package plexusref02): the lists, and what bits, at and cut answer. -/
import Derived.Test.YtieabeodommbiaaProg
import Derived.WalkKit
import Derived.Deep.QuietTactic
import Derived.BigQuiet
import Derived.Lib.Hide
import Derived.OwnWalk
import Derived.Deep.RegionWith
import Derived.Deep.RegionHeld3
namespace Go.Proofs.Ytieabeodommbiaa
open Go.RowKit
set_option maxRecDepth 100000
set_option linter.unusedVariables false

/-! ### lists of bits -/
def vl : List Int → Int
  | [] => 0
  | b :: l => b + 2 * vl l
def Bits (l : List Int) : Prop := ∀ x ∈ l, x = 0 ∨ x = 1
def Can (l : List Int) : Prop := ∀ b ∈ l.getLast?, b = 1
theorem p2 (n : Nat) : (1 : Int) ≤ 2 ^ n := by
  induction n with
  | zero => decide
  | succ n ih => rw [Int.pow_succ]; omega
theorem vl_app (l : List Int) (b : Int) : vl (l ++ [b]) = vl l + 2 ^ l.length * b := by
  induction l with
  | nil => simp [vl]
  | cons x l ih => simp only [List.cons_append, vl, ih, List.length_cons, Int.pow_succ]; grind
theorem vl_bd {l : List Int} (h : Bits l) : 0 ≤ vl l ∧ vl l < 2 ^ l.length := by
  induction l with
  | nil => simp [vl]
  | cons x l ih =>
    have := ih fun y hy => h y (by simp [hy])
    have hx := h x (by simp)
    simp only [vl, List.length_cons, Int.pow_succ]
    omega
theorem can_nil : Can [] := by simp [Can]
theorem can_app {l : List Int} {b : Int} : Can (l ++ [b]) ↔ b = 1 := by simp [Can]
theorem bits_app {l : List Int} {b : Int} (h : Bits l) (hb : b = 0 ∨ b = 1) : Bits (l ++ [b]) := by
  intro x hx
  rcases List.mem_append.1 hx with hx | hx
  · exact h x hx
  · simp at hx; rw [hx]; exact hb
theorem snoc_cases (l : List Int) : l = [] ∨ ∃ k b, l = k ++ [b] := by
  rcases List.eq_nil_or_concat l with h | ⟨k, b, h⟩
  · exact .inl h
  · exact .inr ⟨k, b, by simpa using h⟩
/-- a list without zeros at its end that says nothing is empty -/
theorem can_zero {l : List Int} (hb : Bits l) (hc : Can l) : vl l = 0 ↔ l = [] := by
  rcases snoc_cases l with rfl | ⟨k, b, rfl⟩
  · simp [vl]
  · have h1 := can_app.1 hc
    have := (vl_bd (l := k) fun y hy => hb y (by simp [hy])).1
    have := p2 k.length
    rw [vl_app, h1]
    constructor
    · intro h; omega
    · intro h; simp at h
theorem bits_get {l : List Int} (h : Bits l) (t : Nat) : l.getD t 0 = 0 ∨ l.getD t 0 = 1 := by
  by_cases ht : t < l.length
  · rw [List.getD_eq_getElem?_getD, List.getElem?_eq_getElem ht]; exact h _ (List.getElem_mem _)
  · rw [List.getD_eq_getElem?_getD, List.getElem?_eq_none (by omega)]; exact .inl rfl

/-! ### slices that read as lists -/
def Num (L : List Int) (w : World) (v : Value) : Prop := (L = [] ∧ v = .slice none 0 0) ∨ ∃ b off cap, v = .slice (some ⟨b, off, none⟩) L.length cap ∧ L.length ≤ cap ∧ b < w.heap.size ∧ ∀ t, t < L.length → w.cell? ⟨b, off + t, none⟩ = some (.int .i64 (L.getD t 0))
theorem Num.below {L : List Int} {w w' : World} {v : Value} (h : Num L w v) (hb : Below w.heap.size w w') : Num L w' v := by
  rcases h with h | ⟨b, off, cap, h4, h2, h5, h6⟩
  · exact .inl h
  · exact .inr ⟨b, off, cap, h4, h2, Nat.lt_of_lt_of_le h5 hb.size, fun t ht => (hb.cell h5).trans (h6 t ht)⟩
theorem Num.of_owns {L : List Int} {w : World} {v : Value} {base : Nat} (h : w.ownsRow base 3 1 v L.length (L.map (.int .i64))) : Num L w v := by
  obtain ⟨h1, h2⟩ := h
  rcases h2 with ⟨rfl, h2⟩ | ⟨g, cap, cur, rfl, h3, h4, h5, h6, h7, h8⟩
  · exact .inl ⟨List.length_eq_zero_iff.1 h2, rfl⟩
  · refine .inr ⟨g, 0, cap, rfl, h5, ?_, fun t ht => ?_⟩
    · rcases Nat.lt_or_ge g w.heap.size with h | h
      · exact h
      · rw [Array.getElem?_eq_none h] at h4; cases h4
    · have e : (L.map (Value.int .i64))[t]? = some (.int .i64 (L.getD t 0)) := by rw [List.getElem?_map, List.getElem?_eq_getElem ht]; simp [List.getD, ht]
      rw [← h8] at e
      rw [Nat.mul_one, List.getElem?_take_of_lt ht] at e
      rw [Array.getElem?_toList] at e
      simp only [World.cell?, h4]
      simpa using e
abbrev NPost (L : List Int) (w : World) (e : Ending) (w' : World) : Prop := ∃ v, e = .returned v ∧ Num L w' v ∧ Below w.heap.size w w'

/-! ### at -/
set_option maxHeartbeats 800000 in
theorem at_none (a : Option Addr) (n c : Nat) (i : Int) (W : World) (h : (n : Int) ≤ i) : Calls Try.prog 75 #[.slice a n c, .int .i64 i] W fun e W' => e = .returned (.int .i64 0) ∧ Below W.heap.size W W' := by
  go_enter Try.func75, Try.ntmps75
  go_wp2
  go_ret
  exact ⟨rfl, Below.refl _ _⟩
set_option maxHeartbeats 800000 in
theorem at_some (b off n c i : Nat) (x : Int) (W : World) (h : i < n) (hn : n ≤ 1000000) (hc : W.cell? ⟨b, off + i, none⟩ = some (.int .i64 x)) : Calls Try.prog 75 #[.slice (some ⟨b, off, none⟩) n c, .int .i64 i] W fun e W' => e = .returned (.int .i64 x) ∧ Below W.heap.size W W' := by
  go_enter Try.func75, Try.ntmps75
  go_wp2
  go_ret
  exact ⟨rfl, Below.refl _ _⟩
theorem at_c {L : List Int} {v : Value} (i : Nat) {W : World} (hL : L.length ≤ 1000000) (h : Num L W v) : Calls Try.prog 75 #[v, .int .i64 i] W fun e W' => e = .returned (.int .i64 (L.getD i 0)) ∧ Below W.heap.size W W' := by
  have e : ¬ i < L.length → L.getD i 0 = 0 := fun hi => by rw [List.getD_eq_getElem?_getD, List.getElem?_eq_none (by omega)]; rfl
  rcases h with ⟨rfl, rfl⟩ | ⟨b, off, cap, rfl, _, _, h6⟩
  · rw [e (by simp)]
    exact at_none _ _ _ _ W (by simp)
  · by_cases hi : i < L.length
    · exact at_some b off _ _ i _ W hi hL (h6 i hi)
    · rw [e hi]
      exact at_none _ _ _ _ W (by omega)

/-! ### cut -/
theorem nbelow_drewN {B : Nat} {a w : World} (h : Below B a w) (k : Nat) : Below B a (w.drewN k) := ⟨h.os, h.tape, h.output, h.size, h.block⟩
theorem vl_take {L : List Int} {k : Nat} (hk : k + 1 ≤ L.length) (h0 : L.getD k 0 = 0) : vl (L.take k) = vl (L.take (k + 1)) := by
  rw [List.take_add_one, List.getElem?_eq_getElem (by omega)]
  rw [List.getD_eq_getElem?_getD, List.getElem?_eq_getElem (by omega)] at h0
  simp at h0
  simp [vl_app, h0]
theorem can_take {L : List Int} {k : Nat} (hb : Bits L) (hk : k + 1 ≤ L.length) (h0 : L.getD k 0 ≠ 0) : Can (L.take (k + 1)) := by
  have := bits_get hb k
  rw [List.take_add_one, List.getElem?_eq_getElem (by omega)]
  rw [List.getD_eq_getElem?_getD, List.getElem?_eq_getElem (by omega)] at h0 this
  simp at h0 this
  exact can_app.2 (by omega)
def CPost (n : Int) (l : Nat) (w : World) (e : Ending) (w' : World) : Prop := ∃ K, vl K = n ∧ Bits K ∧ Can K ∧ K.length ≤ l ∧ NPost K w e w'
set_option maxHeartbeats 1600000 in
theorem cut_none (W : World) : Calls Try.prog 70 #[.slice none 0 0] W (CPost 0 0 W) := by
  go_enter Try.func70, Try.ntmps70
  go_wp2
  go_loopw [3] (fun i wr => i = .int .i64 0 ∧ wr = W) (fun i _ => 0)
  case atStart => exact ⟨rfl, rfl⟩
  case round =>
    obtain ⟨rfl, rfl⟩ := hrel
    go_wp2
    go_ret
    exact ⟨[], rfl, by simp [Bits], can_nil, Nat.le_refl _, _, rfl, .inl ⟨rfl, rfl⟩, Below.refl _ _⟩
set_option maxHeartbeats 1600000 in
theorem ncut_some {L : List Int} (b off cap : Nat) (W : World) (hb : Bits L) (hl : L.length ≤ 1000000) (hcap : L.length ≤ cap) (hbb : b < W.heap.size) (hc : ∀ t, t < L.length → W.cell? ⟨b, off + t, none⟩ = some (.int .i64 (L.getD t 0))) :
    Calls Try.prog 70 #[.slice (some ⟨b, off, none⟩) L.length cap] W (CPost (vl L) L.length W) := by
  have HC := Lib.hid hc
  have HB := Lib.hid hb
  clear hc hb
  go_enter Try.func70, Try.ntmps70
  go_wp2
  go_loopw [3] (fun i wr => ∃ k : Nat, k ≤ L.length ∧ i = .int .i64 k ∧ vl (L.take k) = vl L ∧ wr = W) (fun i _ => (intOf i).toNat)
  case atStart => exact ⟨L.length, Nat.le_refl _, rfl, by simp, rfl⟩
  case round =>
    obtain ⟨k, hk, rfl, hv, rfl⟩ := hrel
    have HV := Lib.hid hv
    clear hv
    have fin : ∀ k, k ≤ L.length → Num (L.take k) wr (.slice (some ⟨b, off, none⟩) k cap) := fun k hk => by
      have e : (L.take k).length = k := by rw [List.length_take]; omega
      refine .inr ⟨b, off, cap, by rw [e], by omega, hbb, fun t ht => ?_⟩
      rw [e] at ht
      rw [HC.out t (by omega)]
      simp [List.getD, List.getElem?_take_of_lt ht]
    have HF := Lib.hid fin
    clear fin
    rcases k with _ | k
    · go_wp2
      go_ret
      exact ⟨L.take 0, HV.out, by simp [Bits], by simp [Can], by simp, _, rfl, HF.out 0 (Nat.zero_le _), Below.refl _ _⟩
    · have hc := HC.out k (by omega)
      have hbt : Bits (L.take (k + 1)) := fun x hx => HB.out x (List.mem_of_mem_take hx)
      have HT := Lib.hid hbt
      clear hbt
      have h3 : (((k + 1 : Nat) : Int) - 1) = (k : Int) := by omega
      by_cases h0 : L.getD k 0 = 0
      · have HV2 := Lib.hid ((vl_take hk h0).trans HV.out)
        rw [h0] at hc
        clear h0
        go_wp2
        go_roundw
        case rel => exact ⟨k, by omega, rfl, HV2.out, trivial⟩
        case measure => simp [intOf]
      · have HK := Lib.hid (can_take HB.out hk h0)
        generalize L.getD k 0 = x at *
        have hn : (x == 0) = false := by simpa using h0
        go_wp2
        go_ret
        exact ⟨L.take (k + 1), HV.out, HT.out, HK.out, by rw [List.length_take]; omega, _, rfl, HF.out _ hk, Below.refl _ _⟩
theorem cut_c {L : List Int} {v : Value} {W : World} (hb : Bits L) (hl : L.length ≤ 1000000) (h : Num L W v) : Calls Try.prog 70 #[v] W (CPost (vl L) L.length W) := by
  rcases h with ⟨rfl, rfl⟩ | ⟨b, off, cap, rfl, h1, h2, h3⟩
  · exact cut_none W
  · exact ncut_some b off cap W hb hl h1 h2 h3

/-! ### bits -/
theorem info3 : (Try.prog.info? 3).map (fun i => (i.zero, i.size, i.bytes)) = some (some (.int .i64 0), 1, 8) := by kernel_rfl
theorem bits_len {L : List Int} {m n : Int} (h : vl L + 2 ^ L.length * m = n) (hb : Bits L) (hm : 1 ≤ m) (hn : n ≤ 9223372036854775807) : L.length ≤ 62 := by
  by_cases hl : L.length ≤ 62
  · exact hl
  · exfalso
    obtain ⟨k, hk⟩ : ∃ k, L.length = 63 + k := ⟨L.length - 63, by omega⟩
    have h0 := (vl_bd hb).1
    rw [hk, Int.pow_add] at h
    have h1 := p2 k
    have h2 : (2 : Int) ^ 63 * 1 ≤ 2 ^ 63 * 2 ^ k := Int.mul_le_mul_of_nonneg_left h1 (by decide)
    have h3 : 2 ^ 63 * 2 ^ k * 1 ≤ (2 : Int) ^ 63 * 2 ^ k * m := Int.mul_le_mul_of_nonneg_left hm (by omega)
    omega
theorem bits_step {L : List Int} {m n : Int} (h : vl L + 2 ^ L.length * m = n) (hm : 0 ≤ m) : vl (L ++ [m % 2]) + 2 ^ (L ++ [m % 2]).length * (m / 2) = n := by
  rw [vl_app, List.length_append, List.length_singleton, Int.pow_succ, ← h]
  have : m = m % 2 + 2 * (m / 2) := by omega
  generalize (2 : Int) ^ L.length = p
  generalize m % 2 = r at *
  generalize m / 2 = q at *
  subst this
  grind
def BPost (n : Int) (w : World) (e : Ending) (w' : World) : Prop := ∃ L, vl L = n ∧ Bits L ∧ Can L ∧ L.length ≤ 63 ∧ NPost L w e w'
set_option maxHeartbeats 1600000 in
theorem bits_c (n : Int) (h0 : 0 ≤ n) (hn : n ≤ 9223372036854775807) (W : World) : Calls Try.prog 48 #[.int .i64 n] W (BPost n W) := by
  obtain ⟨i0, hi, hz0, hz1, hz2⟩ := info_parts info3
  go_enter Try.func48, Try.ntmps48
  go_wp2
  go_loopw [0, 3] (fun nv v wr => ∃ (m : Int) (L : List Int), nv = .int .i64 m ∧ 0 ≤ m ∧ m ≤ n ∧ vl L + 2 ^ L.length * m = n ∧ Bits L ∧ (m = 0 → Can L) ∧ L.length ≤ 63 ∧ wr.ownsRow W.heap.size 3 1 v L.length (L.map (.int .i64)) ∧ Below W.heap.size W wr) (fun nv _ _ => (intOf nv).toNat)
  case atStart => exact ⟨n, [], rfl, h0, Int.le_refl _, by simp [vl], by simp [Bits], fun _ => can_nil, by simp, World.ownsRow_made W #[] 0 (Nat.le_refl _) (Nat.zero_le _) rfl, (Below.refl _ _).alloc (Nat.le_refl _) _⟩
  case round =>
    obtain ⟨m, L, rfl, hm0, hmn, hv, hb, hc, hl, hown, hbl⟩ := hrel
    by_cases hpos : 0 < m
    · have hlen : L.length ≤ 62 := bits_len hv hb (by omega) (by omega)
      have HV := Lib.hid (bits_step hv hm0)
      have HB := Lib.hid hb
      have HL := Lib.hid hbl
      clear hv hb hc
      go_wp2_with (first
        | (at_builtin; refine wpList_append_own _ rfl _ _ 54 rfl W.heap.size 3 i0 (.int .i64 0) 1 8 Try.underlying54 hi hz0 hz1 hz2 rfl (by decide) _ _ _ rfl (hown.alloc _) ⟨wr.heap.size, 0, none⟩ 1 1 [.int .i64 (m % 2)] rfl rfl ?c1 ?c2 ?c3 ?c4 ?c5 ?_)
        | go_in)
      case c1 =>
        intro j u hj
        match j, hj with
        | 0, hj => simp at hj; subst hj; simp [Addr.add]
      case c2 => intro u hu; simp at hu; subst hu; rfl
      case c3 => unfold maxLen; omega
      case c4 => omega
      case c5 => have := hbl.size; simp; omega
      · intro v' w1 hown' hgrow _
        have hB' : Below W.heap.size W w1 := (hbl.alloc hbl.size _).grown hgrow (by have := hbl.size; simp; omega) fun k hk => (hown.lt k hk).1
        have e : L.map (Value.int .i64) ++ [.int .i64 (m % 2)] = (L ++ [m % 2]).map (.int .i64) := by simp
        rw [e] at hown'
        have HO := Lib.hid hown'
        clear hown' hgrow hown e
        go_wp2
        go_roundw
        case rel =>
          refine ⟨m / 2, L ++ [m % 2], by go_num, by omega, by omega, HV.out, bits_app HB.out (by omega), fun h => can_app.2 (by omega), by simp; omega, by simpa using HO.out, hB'⟩
        case measure =>
          simp [intOf]; omega
    · obtain rfl : m = 0 := by omega
      have HV := Lib.hid hv
      have HB := Lib.hid hb
      have HC := Lib.hid (hc rfl)
      have HO := Lib.hid hown
      clear hv hb hc hown
      go_wp2
      go_ret
      exact ⟨L, by have := HV.out; simpa using this, HB.out, HC.out, hl, _, rfl, Num.of_owns HO.out, hbl⟩
end Go.Proofs.Ytieabeodommbiaa

/- Numbers as lists of bits: plus. -/
namespace Go.Proofs.Ytieabeodommbiaa
open Go.RowKit
set_option maxRecDepth 100000
set_option linter.unusedVariables false

theorem vl_take_succ (L : List Int) (k : Nat) : vl (L.take (k + 1)) = vl (L.take k) + 2 ^ k * L.getD k 0 := by
  by_cases hk : k < L.length
  · rw [List.take_add_one, List.getElem?_eq_getElem hk]
    have e : (L.take k).length = k := by rw [List.length_take]; omega
    rw [Option.toList_some, vl_app, e]
    simp [List.getD, hk]
  · rw [List.take_of_length_le (by omega), List.take_of_length_le (by omega), List.getD_eq_getElem?_getD, List.getElem?_eq_none (by omega)]; simp
theorem p2_le {a b : Nat} (h : a ≤ b) : (2 : Int) ^ a ≤ 2 ^ b := by
  obtain ⟨k, rfl⟩ : ∃ k, b = a + k := ⟨b - a, by omega⟩
  have h1 := p2 a
  have h2 := p2 k
  rw [Int.pow_add]
  have := Int.mul_le_mul_of_nonneg_left h2 (show (0 : Int) ≤ 2 ^ a by omega)
  omega
theorem plus_step {A B R : List Int} {k : Nat} {c : Int} (hR : R.length = k) (h : vl R + 2 ^ k * c = vl (A.take k) + vl (B.take k)) :
    vl (R ++ [(A.getD k 0 + B.getD k 0 + c) % 2]) + 2 ^ (k + 1) * ((A.getD k 0 + B.getD k 0 + c) / 2) = vl (A.take (k + 1)) + vl (B.take (k + 1)) := by
  rw [vl_app, vl_take_succ, vl_take_succ, hR, Int.pow_succ]
  generalize A.getD k 0 = x at *
  generalize B.getD k 0 = y at *
  generalize (2 : Int) ^ k = p at *
  have : x + y + c = (x + y + c) % 2 + 2 * ((x + y + c) / 2) := by omega
  generalize (x + y + c) % 2 = r at *
  generalize (x + y + c) / 2 = q at *
  grind
theorem plus_end {A B R : List Int} {k : Nat} {c : Int} (hA : Bits A) (hB : Bits B) (hR : Bits R) (ha : A.length < k) (hb : B.length < k) (hc : c = 0 ∨ c = 1) (h : vl R + 2 ^ k * c = vl (A.take k) + vl (B.take k)) : vl R = vl A + vl B := by
  rw [List.take_of_length_le (by omega), List.take_of_length_le (by omega)] at h
  obtain ⟨j, rfl⟩ : ∃ j, k = j + 1 := ⟨k - 1, by omega⟩
  have h1 := (vl_bd hA).2
  have h2 := (vl_bd hB).2
  have h3 := p2_le (show A.length ≤ j by omega)
  have h4 := p2_le (show B.length ≤ j by omega)
  have h5 := (vl_bd hR).1
  rw [Int.pow_succ] at h
  rcases hc with rfl | rfl <;> omega
theorem own_below {w w' : World} {base : Nat} {e : TypeId} {size : Nat} {v : Value} {n : Nat} {xs : List Value} (h : w.ownsRow base e size v n xs) (hb : Below w.heap.size w w') : w'.ownsRow base e size v n xs := by
  obtain ⟨h1, h2⟩ := h
  refine ⟨h1, h2.imp_right ?_⟩
  rintro ⟨g, cap, cur, a1, a2, a3, a4⟩
  have hg : g < w.heap.size := by
    rcases Nat.lt_or_ge g w.heap.size with h | h
    · exact h
    · rw [Array.getElem?_eq_none h] at a3; cases a3
  exact ⟨g, cap, cur, a1, a2, (hb.block g hg).trans a3, a4⟩
/-- a digit of a list, in every world that comes of this one -/
theorem at_any {L : List Int} {v : Value} {W : World} (k : Nat) (hL : L.length ≤ 1000000) (h : Num L W v) (w : World) (hw : Below W.heap.size W w) : Calls Try.prog 75 #[v, .int .i64 k] w fun e w' => e = .returned (.int .i64 (L.getD k 0)) ∧ Below w.heap.size w w' := at_c k hL (h.below hw)
set_option maxHeartbeats 6400000 in
theorem nplus_c {A B : List Int} {la lb ca cb : Nat} {aa ab : Option Addr} {W : World} (hA : Bits A) (hB : Bits B) (ha : A.length ≤ 1000) (hb : B.length ≤ 1000) (ea : la = A.length) (eb : lb = B.length) (na : Num A W (.slice aa la ca)) (nb : Num B W (.slice ab lb cb)) :
    Calls Try.prog 67 #[.slice aa la ca, .slice ab lb cb] W (CPost (vl A + vl B) (max la lb + 1) W) := by
  have hla : la ≤ 1000 := by omega
  have hlb : lb ≤ 1000 := by omega
  have EA := Lib.hid ea
  have EB := Lib.hid eb
  have HA := Lib.hid hA
  have HB := Lib.hid hB
  have NA := Lib.hid (fun k => at_any k (by omega) na)
  have NB := Lib.hid (fun k => at_any k (by omega) nb)
  clear hA hB na nb ea eb ha hb
  obtain ⟨i0, hi, hz0, hz1, hz2⟩ := info_parts info3
  go_enter Try.func67, Try.ntmps67
  go_wp2
  go_loopw [5, 6, 7] (fun o c i wr => ∃ (k : Nat) (R : List Int) (cv : Int), k ≤ max la lb + 1 ∧ i = .int .i64 k ∧ c = .int .i64 cv ∧ 0 ≤ cv ∧ cv ≤ 1 ∧ Hid (R.length = k ∧ vl R + 2 ^ k * cv = vl (A.take k) + vl (B.take k) ∧ Bits R) ∧ wr.ownsRow W.heap.size 3 1 o k (R.map (.int .i64)) ∧ Below W.heap.size W wr) (fun _ _ i _ => max la lb + 1 - (intOf i).toNat)
  case atStart => exact ⟨0, [], 0, by omega, rfl, rfl, by omega, by omega, ⟨rfl, rfl, by simp [Bits]⟩, World.ownsRow_made W #[] 0 (Nat.le_refl _) (Nat.zero_le _) rfl, (Below.refl _ _).alloc (Nat.le_refl _) _⟩
  case round =>
    obtain ⟨k, R, cv, hk, rfl, rfl, hc0, hc1, HR, hown, hbl⟩ := hrel
    by_cases hin : k ≤ max la lb
    · have hx := bits_get HA.out k
      have hy := bits_get HB.out k
      have HS := Lib.hid (plus_step (A := A) (B := B) HR.out.1 HR.out.2.1)
      have G1 := Lib.hid (NA.out k)
      have G2 := Lib.hid (NB.out k)
      generalize A.getD k 0 = x at *
      generalize B.getD k 0 = y at *
      have hx0 : 0 ≤ x ∧ x ≤ 1 := by omega
      have hy0 : 0 ≤ y ∧ y ≤ 1 := by omega
      clear hx hy
      have hcase : (k : Int) ≤ la ∨ (¬ (k : Int) ≤ la ∧ (k : Int) ≤ lb) := by omega
      rcases hcase with h | ⟨h, h'⟩
      all_goals
        go_wp2_with fail
        refine (G1.out _ hbl).mono ?_
        rintro e w1 ⟨rfl, hb1⟩
        have hbl1 := hbl.trans (hb1.mono hbl.size)
        have hown1 := own_below hown hb1
        clear hb1 hown
        go_wp2_with fail
        refine (G2.out _ hbl1).mono ?_
        rintro e w2 ⟨rfl, hb2⟩
        have hbl2 := hbl1.trans (hb2.mono hbl1.size)
        have hown2 := own_below hown1 hb2
        clear hb2 hown1
        go_wp2_with (at_builtin; refine wpList_append_own _ rfl _ _ 54 rfl W.heap.size 3 i0 (.int .i64 0) 1 8 Try.underlying54 hi hz0 hz1 hz2 rfl (by decide) _ _ _ rfl (hown2.alloc _) ⟨w2.heap.size, 0, none⟩ 1 1 [.int .i64 ((x + y + cv) % 2)] rfl rfl (by intro j u hj; match j, hj with | 0, hj => simp at hj; subst hj; simp [Addr.add]) (by intro u hu; simp at hu; subst hu; rfl) (by unfold maxLen; omega) (by omega) (by have := hbl2.size; simp; omega) ?_)
        intro v' w3 hown' hgrow _
        have hB' : Below W.heap.size W w3 := (hbl2.alloc hbl2.size _).grown hgrow (by have := hbl2.size; simp; omega) fun k hk => (hown2.lt k hk).1
        have e : R.map (Value.int .i64) ++ [.int .i64 ((x + y + cv) % 2)] = (R ++ [(x + y + cv) % 2]).map (.int .i64) := by simp
        rw [e] at hown'
        have HO := Lib.hid hown'
        clear hown' hgrow hown2 e
        go_wp2
        go_roundw
        case rel => exact ⟨k + 1, R ++ [(x + y + cv) % 2], (x + y + cv) / 2, by omega, by go_num, rfl, by omega, by omega, ⟨by simp [HR.out.1], HS.out, bits_app HR.out.2.2 (by omega)⟩, HO.out, hB'⟩
        case measure => simp [intOf]; omega
    · obtain rfl : k = max la lb + 1 := by omega
      have hn1 : ¬ ((max la lb + 1 : Nat) : Int) ≤ la := by omega
      have hn2 : ¬ ((max la lb + 1 : Nat) : Int) ≤ lb := by omega
      have hR := HR.out.1
      have hown1 : wr.ownsRow W.heap.size 3 1 u5 R.length (R.map (.int .i64)) := by rw [hR]; exact hown
      have hcut := cut_c HR.out.2.2 (by omega) (Num.of_owns hown1)
      have HCU := Lib.hid hcut
      clear hcut hown hown1 hR
      generalize max la lb + 1 = k at *
      go_wp2_with fail
      refine HCU.out.mono ?_
      rintro e w1 ⟨K, e1, e2, e3, e4, v, rfl, e6, e7⟩
      have E1 := Lib.hid e1
      have E2 := Lib.hid e2
      have E3 := Lib.hid e3
      have E6 := Lib.hid e6
      have E7 := Lib.hid (hbl.trans (e7.mono hbl.size))
      clear e1 e2 e3 e6 e7
      go_wp2
      go_ret
      exact ⟨K, E1.out.trans (plus_end HA.out HB.out HR.out.2.2 (by have := EA.out; omega) (by have := EB.out; omega) (by omega) HR.out.2.1), E2.out, E3.out, by have := HR.out.1; omega, v, rfl, E6.out, E7.out⟩
end Go.Proofs.Ytieabeodommbiaa

/- Numbers as lists of bits: minus, compare. -/
namespace Go.Proofs.Ytieabeodommbiaa
open Go.RowKit
set_option maxRecDepth 100000
set_option linter.unusedVariables false

/-! ### minus -/
theorem minus_step {A B R : List Int} {k : Nat} {c r c' : Int} (hR : R.length = k) (h : vl R - 2 ^ k * c = vl (A.take k) - vl (B.take k)) (hr : r - 2 * c' = A.getD k 0 - B.getD k 0 - c) :
    vl (R ++ [r]) - 2 ^ (k + 1) * c' = vl (A.take (k + 1)) - vl (B.take (k + 1)) := by
  rw [vl_app, vl_take_succ, vl_take_succ, hR, Int.pow_succ]
  generalize A.getD k 0 = x at *
  generalize B.getD k 0 = y at *
  generalize (2 : Int) ^ k = p at *
  grind
theorem minus_end {A B R : List Int} {c : Int} (hR : Bits R) (hl : R.length = A.length) (hb : B.length ≤ A.length) (hle : vl B ≤ vl A) (hc : c = 0 ∨ c = 1) (h : vl R - 2 ^ A.length * c = vl (A.take A.length) - vl (B.take A.length)) : vl R = vl A - vl B := by
  rw [List.take_of_length_le (by omega), List.take_of_length_le (by omega)] at h
  have h1 := (vl_bd hR).2
  rw [hl] at h1
  rcases hc with rfl | rfl <;> omega
set_option maxHeartbeats 6400000 in
theorem nminus_c {A B : List Int} {la lb ca cb : Nat} {aa ab : Option Addr} {W : World} (hA : Bits A) (hB : Bits B) (ha : A.length ≤ 1000) (hbl : B.length ≤ A.length) (hle : vl B ≤ vl A) (ea : la = A.length) (eb : lb = B.length) (na : Num A W (.slice aa la ca)) (nb : Num B W (.slice ab lb cb)) :
    Calls Try.prog 69 #[.slice aa la ca, .slice ab lb cb] W (CPost (vl A - vl B) la W) := by
  have hla : la ≤ 1000 := by omega
  have EA := Lib.hid ea
  have EB := Lib.hid hbl
  have EL := Lib.hid hle
  have HA := Lib.hid hA
  have HB := Lib.hid hB
  have NA := Lib.hid (fun k => at_any k (by omega) na)
  have NB := Lib.hid (fun k => at_any k (by omega) nb)
  clear hA hB na nb ea eb ha hbl hle
  obtain ⟨i0, hi, hz0, hz1, hz2⟩ := info_parts info3
  go_enter Try.func69, Try.ntmps69
  go_wp2
  go_loopw [5, 6, 7] (fun o c i wr => ∃ (k : Nat) (R : List Int) (cv : Int), k ≤ la ∧ i = .int .i64 k ∧ c = .int .i64 cv ∧ 0 ≤ cv ∧ cv ≤ 1 ∧ Hid (R.length = k ∧ vl R - 2 ^ k * cv = vl (A.take k) - vl (B.take k) ∧ Bits R) ∧ wr.ownsRow W.heap.size 3 1 o k (R.map (.int .i64)) ∧ Below W.heap.size W wr) (fun _ _ i _ => la - (intOf i).toNat)
  case atStart => exact ⟨0, [], 0, by omega, rfl, rfl, by omega, by omega, ⟨rfl, rfl, by simp [Bits]⟩, World.ownsRow_made W #[] 0 (Nat.le_refl _) (Nat.zero_le _) rfl, (Below.refl _ _).alloc (Nat.le_refl _) _⟩
  case round =>
    obtain ⟨k, R, cv, hk, rfl, rfl, hc0, hc1, HR, hown, hbl⟩ := hrel
    by_cases hin : k < la
    · have hx := bits_get HA.out k
      have hy := bits_get HB.out k
      have HS := Lib.hid (fun r c' => minus_step (A := A) (B := B) (r := r) (c' := c') HR.out.1 HR.out.2.1)
      have G1 := Lib.hid (NA.out k)
      have G2 := Lib.hid (NB.out k)
      generalize A.getD k 0 = x at *
      generalize B.getD k 0 = y at *
      have hx0 : 0 ≤ x ∧ x ≤ 1 := by omega
      have hy0 : 0 ≤ y ∧ y ≤ 1 := by omega
      clear hx hy
      go_wp2_with fail
      refine (G1.out _ hbl).mono ?_
      rintro e w1 ⟨rfl, hb1⟩
      have hbl1 := hbl.trans (hb1.mono hbl.size)
      have hown1 := own_below hown hb1
      clear hb1 hown
      go_wp2_with fail
      refine (G2.out _ hbl1).mono ?_
      rintro e w2 ⟨rfl, hb2⟩
      have hbl2 := hbl1.trans (hb2.mono hbl1.size)
      have hown2 := own_below hown1 hb2
      clear hb2 hown1
      by_cases hs : x - y - cv < 0
      · go_wp2_with (at_builtin; refine wpList_append_own _ rfl _ _ 54 rfl W.heap.size 3 i0 (.int .i64 0) 1 8 Try.underlying54 hi hz0 hz1 hz2 rfl (by decide) _ _ _ rfl (hown2.alloc _) ⟨w2.heap.size, 0, none⟩ 1 1 [.int .i64 (x - y - cv + 2)] rfl rfl (by intro j u hj; match j, hj with | 0, hj => simp at hj; subst hj; simp [Addr.add]) (by intro u hu; simp at hu; subst hu; rfl) (by unfold maxLen; omega) (by omega) (by have := hbl2.size; simp; omega) ?_)
        intro v' w3 hown' hgrow _
        have hB' : Below W.heap.size W w3 := (hbl2.alloc hbl2.size _).grown hgrow (by have := hbl2.size; simp; omega) fun k hk => (hown2.lt k hk).1
        have e : R.map (Value.int .i64) ++ [.int .i64 (x - y - cv + 2)] = (R ++ [x - y - cv + 2]).map (.int .i64) := by simp
        rw [e] at hown'
        have HO := Lib.hid hown'
        clear hown' hgrow hown2 e
        go_wp2
        go_roundw
        case rel => exact ⟨k + 1, R ++ [x - y - cv + 2], 1, by omega, by go_num, rfl, by omega, by omega, ⟨by simp [HR.out.1], HS.out _ _ (by omega), bits_app HR.out.2.2 (by omega)⟩, HO.out, hB'⟩
        case measure => simp [intOf]; omega
      · go_wp2_with (at_builtin; refine wpList_append_own _ rfl _ _ 54 rfl W.heap.size 3 i0 (.int .i64 0) 1 8 Try.underlying54 hi hz0 hz1 hz2 rfl (by decide) _ _ _ rfl (hown2.alloc _) ⟨w2.heap.size, 0, none⟩ 1 1 [.int .i64 (x - y - cv)] rfl rfl (by intro j u hj; match j, hj with | 0, hj => simp at hj; subst hj; simp [Addr.add]) (by intro u hu; simp at hu; subst hu; rfl) (by unfold maxLen; omega) (by omega) (by have := hbl2.size; simp; omega) ?_)
        intro v' w3 hown' hgrow _
        have hB' : Below W.heap.size W w3 := (hbl2.alloc hbl2.size _).grown hgrow (by have := hbl2.size; simp; omega) fun k hk => (hown2.lt k hk).1
        have e : R.map (Value.int .i64) ++ [.int .i64 (x - y - cv)] = (R ++ [x - y - cv]).map (.int .i64) := by simp
        rw [e] at hown'
        have HO := Lib.hid hown'
        clear hown' hgrow hown2 e
        go_wp2
        go_roundw
        case rel => exact ⟨k + 1, R ++ [x - y - cv], 0, by omega, by go_num, rfl, by omega, by omega, ⟨by simp [HR.out.1], HS.out _ _ (by omega), bits_app HR.out.2.2 (by omega)⟩, HO.out, hB'⟩
        case measure => simp [intOf]; omega
    · obtain rfl : k = la := by omega
      have hR := HR.out.1
      have hown1 : wr.ownsRow W.heap.size 3 1 u5 R.length (R.map (.int .i64)) := by rw [hR]; exact hown
      have hcut := cut_c HR.out.2.2 (by omega) (Num.of_owns hown1)
      have HCU := Lib.hid hcut
      clear hcut hown hown1 hR
      go_wp2_with fail
      refine HCU.out.mono ?_
      rintro e w1 ⟨K, e1, e2, e3, e4, v, rfl, e6, e7⟩
      have E1 := Lib.hid e1
      have E2 := Lib.hid e2
      have E3 := Lib.hid e3
      have E6 := Lib.hid e6
      have E7 := Lib.hid (hbl.trans (e7.mono hbl.size))
      clear e1 e2 e3 e6 e7
      go_wp2
      go_ret
      exact ⟨K, E1.out.trans (minus_end (c := cv) HR.out.2.2 (HR.out.1.trans EA.out) EB.out EL.out (by omega) (by have := HR.out.2.1; rw [EA.out] at this; exact this)), E2.out, E3.out, by have := HR.out.1; omega, v, rfl, E6.out, E7.out⟩

/-! ### compare -/
theorem cmp_step {A B : List Int} {k : Nat} (h : vl (A.take (k + 1)) - vl (B.take (k + 1)) = vl A - vl B) (e : A.getD k 0 = B.getD k 0) : vl (A.take k) - vl (B.take k) = vl A - vl B := by
  rw [vl_take_succ, vl_take_succ, e] at h
  omega
theorem bits_take {A : List Int} (h : Bits A) (k : Nat) : Bits (A.take k) := fun x hx => h x (List.mem_of_mem_take hx)
theorem cmp_diff {A B : List Int} {k : Nat} (hA : Bits A) (hB : Bits B) (h : vl (A.take (k + 1)) - vl (B.take (k + 1)) = vl A - vl B) (ne : A.getD k 0 ≠ B.getD k 0) : (0 < A.getD k 0 - B.getD k 0 ↔ vl B < vl A) ∧ (A.getD k 0 - B.getD k 0 < 0 ↔ vl A < vl B) := by
  rw [vl_take_succ, vl_take_succ] at h
  have h1 := vl_bd (bits_take hA k)
  have h2 := vl_bd (bits_take hB k)
  have h3 := p2_le (show (A.take k).length ≤ k by rw [List.length_take]; omega)
  have h4 := p2_le (show (B.take k).length ≤ k by rw [List.length_take]; omega)
  have hx := bits_get hA k
  have hy := bits_get hB k
  rcases hx with hx | hx <;> rcases hy with hy | hy <;> rw [hx, hy] at h ne ⊢ <;> first | exact absurd rfl ne | omega
def OrdPost (a b : Int) (w : World) (e : Ending) (w' : World) : Prop := ∃ d : Int, e = .returned (.int .i64 d) ∧ (0 < d ↔ b < a) ∧ (d < 0 ↔ a < b) ∧ Below w.heap.size w w'
set_option maxHeartbeats 6400000 in
theorem compare_c {A B : List Int} {la lb ca cb : Nat} {aa ab : Option Addr} {W : World} (hA : Bits A) (hB : Bits B) (ha : A.length ≤ 1000) (hb : B.length ≤ 1000) (ea : la = A.length) (eb : lb = B.length) (na : Num A W (.slice aa la ca)) (nb : Num B W (.slice ab lb cb)) :
    Calls Try.prog 68 #[.slice aa la ca, .slice ab lb cb] W (OrdPost (vl A) (vl B) W) := by
  have hla : la ≤ 1000 := by omega
  have hlb : lb ≤ 1000 := by omega
  have HT : Hid (vl (A.take (max la lb)) - vl (B.take (max la lb)) = vl A - vl B) := by
    show _ = _
    rw [List.take_of_length_le (by omega), List.take_of_length_le (by omega)]
  have HA := Lib.hid hA
  have HB := Lib.hid hB
  have NA := Lib.hid (fun k => at_any k (by omega) na)
  have NB := Lib.hid (fun k => at_any k (by omega) nb)
  clear hA hB na nb ea eb ha hb
  go_enter Try.func68, Try.ntmps68
  go_wp2
  all_goals
    go_loopw [5] (fun i wr => ∃ (k : Nat), k ≤ max la lb ∧ i = .int .i64 ((k : Int) - 1) ∧ Hid (vl (A.take k) - vl (B.take k) = vl A - vl B) ∧ Below W.heap.size W wr) (fun i _ => (intOf i + 1).toNat)
    case atStart => exact ⟨max la lb, Nat.le_refl _, by congr 1; omega, HT, Below.refl _ _⟩
    case round =>
      obtain ⟨k, hk, rfl, HV, hbl⟩ := hrel
      rcases k with _ | k
      · go_wp2
        go_ret
        have := HV.out
        simp [vl] at this
        exact ⟨0, rfl, by omega, by omega, hbl⟩
      · have hx := bits_get HA.out k
        have hy := bits_get HB.out k
        have G1 := Lib.hid (NA.out k)
        have G2 := Lib.hid (NB.out k)
        have h3 : (((k + 1 : Nat) : Int) - 1) = (k : Int) := by omega
        have HS := Lib.hid (fun e => cmp_step HV.out e)
        have HD := Lib.hid (fun e => cmp_diff HA.out HB.out HV.out e)
        generalize A.getD k 0 = x at *
        generalize B.getD k 0 = y at *
        have hx0 : 0 ≤ x ∧ x ≤ 1 := by omega
        have hy0 : 0 ≤ y ∧ y ≤ 1 := by omega
        clear hx hy
        go_wp2_with fail
        refine (G1.out _ hbl).mono ?_
        rintro e w1 ⟨rfl, hb1⟩
        have hbl1 := hbl.trans (hb1.mono hbl.size)
        clear hb1
        go_wp2_with fail
        refine (G2.out _ hbl1).mono ?_
        rintro e w2 ⟨rfl, hb2⟩
        have hbl2 := hbl1.trans (hb2.mono hbl1.size)
        clear hb2
        by_cases he : x = y
        · have HV2 := Lib.hid (HS.out he)
          have hn : (x != y) = false := by simp [he]
          clear he
          go_wp2
          go_roundw
          case rel => exact ⟨k, by omega, rfl, HV2, hbl2⟩
          case measure => simp [intOf]
        · have HD2 := Lib.hid (HD.out he)
          have hn : (x != y) = true := by simp [he]
          go_wp2_with fail
          refine (G1.out _ hbl2).mono ?_
          rintro e w3 ⟨rfl, hb3⟩
          have hbl3 := hbl2.trans (hb3.mono hbl2.size)
          clear hb3
          go_wp2_with fail
          refine (G2.out _ hbl3).mono ?_
          rintro e w4 ⟨rfl, hb4⟩
          have hbl4 := hbl3.trans (hb4.mono hbl3.size)
          clear hb4
          go_wp2
          go_ret
          exact ⟨x - y, rfl, HD2.out.1, HD2.out.2, hbl4⟩
end Go.Proofs.Ytieabeodommbiaa

/- Numbers as lists of bits: fits. -/
namespace Go.Proofs.Ytieabeodommbiaa
open Go.RowKit
set_option maxRecDepth 100000
set_option linter.unusedVariables false

theorem vl_drop {L : List Int} {k : Nat} (h : k < L.length) : vl (L.drop k) = 2 * vl (L.drop (k + 1)) + L.getD k 0 := by
  rw [List.drop_eq_getElem_cons h, vl, List.getD_eq_getElem?_getD, List.getElem?_eq_getElem h]
  simp only [Option.getD_some]
  omega
theorem vl_drop_le {L : List Int} (hb : Bits L) (k : Nat) : 0 ≤ vl (L.drop k) ∧ vl (L.drop k) ≤ vl L := by
  induction k with
  | zero => exact ⟨(vl_bd hb).1, by simp⟩
  | succ k ih =>
    have hd : 0 ≤ vl (L.drop (k + 1)) := (vl_bd (fun x hx => hb x (List.mem_of_mem_drop hx))).1
    refine ⟨hd, ?_⟩
    by_cases hk : k < L.length
    · have h1 := vl_drop hk
      have h2 := bits_get hb k
      omega
    · rw [List.drop_of_length_le (by omega)]
      have := (vl_bd hb).1
      simpa [vl] using this
def FitPost (a : Int) (w : World) (e : Ending) (w' : World) : Prop := e = .returned (.tuple #[.int .i64 (if a ≤ 4611686018427387904 then a else 0), .bool (decide (a ≤ 4611686018427387904))]) ∧ Below w.heap.size w w'
theorem nmost_c (W : World) : Calls Try.prog 37 #[] W fun e W' => e = .returned (.int .i64 4611686018427387904) ∧ Below W.heap.size W W' := by
  go_enter Try.func37, Try.ntmps37
  go_wp2
  go_ret
  exact ⟨rfl, Below.refl _ _⟩
theorem Num.shape {L : List Int} {w : World} {v : Value} (h : Num L w v) : ∃ a c, v = .slice a L.length c := by
  rcases h with ⟨rfl, rfl⟩ | ⟨b, off, cap, rfl, _⟩
  · exact ⟨none, 0, rfl⟩
  · exact ⟨_, cap, rfl⟩
/-- compare, in every world that comes of this one -/
theorem compare_any {A B : List Int} {va vb : Value} {W : World} (hA : Bits A) (hB : Bits B) (ha : A.length ≤ 1000) (hb : B.length ≤ 1000) (na : Num A W va) (nb : Num B W vb) (w : World) (hw : Below W.heap.size W w) :
    Calls Try.prog 68 #[va, vb] w (OrdPost (vl A) (vl B) w) := by
  have na' := na.below hw
  have nb' := nb.below hw
  obtain ⟨aa, ca, rfl⟩ := na.shape
  obtain ⟨ab, cb, rfl⟩ := nb.shape
  exact compare_c hA hB ha hb rfl rfl na' nb'
set_option maxHeartbeats 6400000 in
theorem nfits_c {A : List Int} {la ca : Nat} {aa : Option Addr} {W : World} (hA : Bits A) (ha : A.length ≤ 1000) (ea : la = A.length) (na : Num A W (.slice aa la ca)) :
    Calls Try.prog 71 #[.slice aa la ca] W (FitPost (vl A) W) := by
  have hla : la ≤ 1000 := by omega
  have EA := Lib.hid ea
  have HA := Lib.hid hA
  have NA := Lib.hid na
  have HL := Lib.hid ha
  have HD := Lib.hid (fun k => vl_drop_le hA k)
  clear hA na ea ha
  have HBT := Lib.hid (bits_c 4611686018427387904 (by decide) (by decide))
  go_enter Try.func71, Try.ntmps71
  go_wp2_with fail
  refine (nmost_c _).mono ?_
  rintro e w1 ⟨rfl, hb1⟩
  go_wp2_with fail
  refine (HBT.out _).mono ?_
  rintro e w2 ⟨M, m1, m2, m3, m4, v, rfl, m5, m6⟩
  have hb2 := hb1.trans (m6.mono hb1.size)
  obtain ⟨am, cm, rfl⟩ := m5.shape
  have HC := Lib.hid (compare_any HA.out m2 HL.out (by omega) (NA.out.below hb2) m5 w2 (Below.refl _ _))
  rw [m1] at HC
  clear m1 m2 m3 m4 m5 m6 hb1
  go_wp2_with fail
  refine HC.out.mono ?_
  rintro e w3 ⟨d, rfl, d1, d2, hb3⟩
  have hbl := hb2.trans (hb3.mono hb2.size)
  clear hb3 HC
  by_cases hd : 0 < d
  · have hv := Lib.hid (d1.1 hd)
    clear d1 d2
    go_wp2
    go_ret2
    exact ⟨by have := hv.out; rw [if_neg (by omega), decide_eq_false (by omega)]; rfl, hbl⟩
  · have hv : vl A ≤ 4611686018427387904 := by omega
    have HV := Lib.hid hv
    clear d1 d2 hv
    go_wp2
    go_loopw [4, 5] (fun n i wr => ∃ (k : Nat), k ≤ la ∧ i = .int .i64 ((k : Int) - 1) ∧ n = .int .i64 (vl (A.drop k)) ∧ wr = w3) (fun _ i _ => (intOf i + 1).toNat)
    case atStart => exact ⟨la, Nat.le_refl _, rfl, by rw [List.drop_of_length_le (by rw [EA.out]; exact Nat.le_refl _)]; rfl, rfl⟩
    case round =>
      obtain ⟨k, hk, rfl, rfl, rfl⟩ := hrel
      rcases k with _ | k
      · have hz : vl (A.drop 0) = vl A := by simp
        rw [hz]
        clear hz
        go_wp2
        go_ret2
        exact ⟨by have := HV.out; rw [if_pos this, decide_eq_true this]; rfl, hbl⟩
      · have h3 : (((k + 1 : Nat) : Int) - 1) = (k : Int) := by omega
        have h4 := vl_drop (L := A) (k := k) (by have := EA.out; omega)
        have h5 := HD.out k
        have h6 := HV.out
        have h7 := HD.out (k + 1)
        have hx := bits_get HA.out k
        rcases NA.out.below hbl with ⟨e, h⟩ | ⟨b, off, cap, h, h8, h9, h10⟩
        · exfalso
          have := EA.out
          rw [e] at this
          simp at this
          omega
        · cases h
          have hc := h10 k (by omega)
          clear h10
          generalize A.getD k 0 = x at *
          generalize vl (A.drop (k + 1)) = y at *
          have hxy : 0 ≤ 2 * y + x ∧ 2 * y + x ≤ 4611686018427387904 := by omega
          have H4 := Lib.hid h4
          clear h4 h5 h6
          go_wp2
          go_roundw
          case rel => exact ⟨k, by omega, rfl, by rw [H4.out], trivial⟩
          case measure => simp [intOf]
end Go.Proofs.Ytieabeodommbiaa
