/- SealMatchesReference: openings, and the comparison of lists, walked. -/
import Derived.Test.YtdenpaifjpmkgaaYd
import Derived.Test.YtdenpaifjpmkgaaYb
import Derived.Test.YtdenpaifjpmkgaaYa
import Derived.Test.YtdenpaifjpmkgaaVc
import Derived.Test.YtdenpaifjpmkgaaYe
import Derived.Test.YtdenpaifjpmkgaaSb
namespace Go.Proofs.Ytdenpaifjpmkgaa
open Go.Ev
open Go.RowKit
set_option maxRecDepth 100000
set_option linter.unusedVariables false
set_option linter.unusedSectionVars false

/-- a store into a block that is not the row's -/
theorem Vp.set2 {L : List Int} {B c : Nat} {w : World} {v x y : Value} (h : Vp L B w v) (hc : c < B) : Vp L 0 ((w.setCell ⟨c, 0, none⟩ x).setCell ⟨c, 1, none⟩ y) v := by
  rcases h with h | ⟨b, off, cap, h0, h1, h2, h3⟩
  · exact .inl h
  · refine .inr ⟨b, off, cap, Nat.zero_le _, h1, by simpa using h2, fun t ht => ?_⟩
    rw [← h3 t ht]
    exact World.cell?_of_block (by rw [Below.heap_setCell _ _ _ _ (show b ≠ c by omega), Below.heap_setCell _ _ _ _ (show b ≠ c by omega)])
set_option maxHeartbeats 800000 in
theorem opened_bad {a : Option Addr} {n c : Nat} {i : Int} {w : World} {V : World → Value → Prop} (hn : n ≤ 1000) (h : i < 0 ∨ (0 ≤ i ∧ (n : Int) ≤ i)) (hV : ∀ w, V w (.slice none 0 0)) : Calls Try.prog 25 #[.slice a n c, .int .i64 i] w (OPost V 1 w) := by
  have h40 : ∀ w1 : World, Calls Try.prog 40 #[.slice a n c, .int .i64 i] w1 fun e w' => e = .returned (.tuple #[.slice none 0 0, .int .i64 1]) ∧ w' = w1 := by
    intro w1
    rcases h with h | ⟨h0, h⟩
    all_goals
      go_enter Try.func40, Try.ntmps40
      go_wp2
      go_ret2
      exact ⟨rfl, rfl⟩
  have H := Lib.hid h40
  have HV := Lib.hid hV
  clear h h40 hV
  go_enter Try.func25, Try.ntmps25
  go_wp2_with fail
  refine (H.out _).mono ?_
  rintro e w1 ⟨rfl, rfl⟩
  go_wp2
  exact bodyPost_ret (v := .agg #[.slice none 0 0, .int .i64 1]) (by simp [results, Try.results25, go_sem]) rfl ⟨none, 0, 0, rfl, HV.out _, (Below.refl _ _).alloc (Nat.le_refl _) _⟩
set_option maxHeartbeats 800000 in
theorem opened_good {a : Option Addr} {n c : Nat} {i : Int} {L : List Int} {w : World} (h40 : ∀ w1 : World, Below w.heap.size w w1 → Calls Try.prog 40 #[.slice a n c, .int .i64 i] w1 (TPost L w1)) : Calls Try.prog 25 #[.slice a n c, .int .i64 i] w (OPost (Vp L 0) 0 w) := by
  have H := Lib.hid h40
  clear h40
  go_enter Try.func25, Try.ntmps25
  go_wp2_with fail
  refine (H.out _ ((Below.refl _ _).alloc (Nat.le_refl _) _)).mono ?_
  rintro e w1 ⟨a1, l1, c1, rfl, hV, hb⟩
  have HV := Lib.hid hV
  have hz : w.heap.size < w1.heap.size := by have := hb.size; simp at this; omega
  have q0 : w1.cell? ⟨w.heap.size, 0, none⟩ = some (.slice none 0 0) := by rw [hb.cell (by simp)]; simp
  have q1 : w1.cell? ⟨w.heap.size, 1, none⟩ = some (.int .i64 0) := by rw [hb.cell (by simp)]; simp
  have p0 : w1.frozen? ⟨w.heap.size, 0, none⟩ = false := by rw [hb.frozen (by simp)]; exact World.frozen?_alloc_at _ _ _ _ (by simp)
  have p1 : w1.frozen? ⟨w.heap.size, 1, none⟩ = false := by rw [hb.frozen (by simp)]; exact World.frozen?_alloc_at _ _ _ _ (by simp)
  have HB := Lib.hid hb
  clear hV hb
  go_wp2
  have hB : Below w.heap.size w w1 := ((Below.refl _ _).alloc (Nat.le_refl _) _).trans (HB.out.mono (by simp))
  exact bodyPost_ret (v := .agg #[.slice a1 l1 c1, .int .i64 0]) (by simp [results, Try.results25, go_sem, q0, q1]) rfl ⟨a1, l1, c1, rfl, HV.out.set2 (by simp), (hB.setCell (Nat.le_refl _) _).setCell (Nat.le_refl _) _⟩
set_option maxHeartbeats 800000 in
theorem openin_bad {a : Option Addr} {n c : Nat} {i : Int} {w : World} {V : World → Value → Prop} (hn : n ≤ 1000) (h : i < 0 ∨ (0 ≤ i ∧ (n : Int) ≤ i)) (hV : ∀ w, V w (.slice none 0 0)) : Calls Try.prog 26 #[.slice a n c, .int .i64 i] w (OPost V 1 w) := by
  have HV := Lib.hid hV
  clear hV
  rcases h with h | ⟨h0, h⟩
  all_goals
    go_enter Try.func26, Try.ntmps26
    go_wp2
    exact bodyPost_ret (v := .agg #[.slice none 0 0, .int .i64 1]) (by simp [results, Try.results26, go_sem]) rfl ⟨none, 0, 0, rfl, HV.out _, (Below.refl _ _).alloc (Nat.le_refl _) _⟩
set_option maxHeartbeats 800000 in
theorem openin_good {a : Option Addr} {n c : Nat} {i : Int} {L : List Int} {w : World} (h0 : 0 ≤ i) (h1 : i < n) (hn : n ≤ 1000) (h41 : ∀ w1 : World, Below w.heap.size w w1 → Calls Try.prog 41 #[.slice a n c, .int .i64 i] w1 (SPost L w1)) : Calls Try.prog 26 #[.slice a n c, .int .i64 i] w (OPost (Vp L 0) 0 w) := by
  have H := Lib.hid h41
  clear h41
  go_enter Try.func26, Try.ntmps26
  go_wp2_with fail
  refine (H.out _ ((Below.refl _ _).alloc (Nat.le_refl _) _)).mono ?_
  rintro e w1 ⟨a1, l1, c1, rfl, hV, hb⟩
  have HV := Lib.hid hV
  have hz : w.heap.size < w1.heap.size := by have := hb.size; simp at this; omega
  have q0 : w1.cell? ⟨w.heap.size, 0, none⟩ = some (.slice none 0 0) := by rw [hb.cell (by simp)]; simp
  have q1 : w1.cell? ⟨w.heap.size, 1, none⟩ = some (.int .i64 0) := by rw [hb.cell (by simp)]; simp
  have p0 : w1.frozen? ⟨w.heap.size, 0, none⟩ = false := by rw [hb.frozen (by simp)]; exact World.frozen?_alloc_at _ _ _ _ (by simp)
  have p1 : w1.frozen? ⟨w.heap.size, 1, none⟩ = false := by rw [hb.frozen (by simp)]; exact World.frozen?_alloc_at _ _ _ _ (by simp)
  have HB := Lib.hid hb
  clear hV hb
  go_wp2
  have hB : Below w.heap.size w w1 := ((Below.refl _ _).alloc (Nat.le_refl _) _).trans (HB.out.mono (by simp))
  exact bodyPost_ret (v := .agg #[.slice a1 l1 c1, .int .i64 0]) (by simp [results, Try.results26, go_sem, q0, q1]) rfl ⟨a1, l1, c1, rfl, HV.out.set2 (by simp), (hB.setCell (Nat.le_refl _) _).setCell (Nat.le_refl _) _⟩

/-! ### two lists that are the same -/
theorem below_drewN {B : Nat} {a w : World} (h : Below B a w) (k : Nat) : Below B a (w.drewN k) := ⟨h.os, h.tape, h.output, h.size, h.block⟩
set_option maxHeartbeats 800000 in
theorem same_nil (a a' : Option Addr) (c c' : Nat) (W : World) : Calls Try.prog 27 #[.slice a 0 c, .slice a' 0 c'] W fun e W' => e = .returned (.bool true) ∧ Below W.heap.size W W' := by
  go_enter Try.func27, Try.ntmps27
  go_wp2
  go_loopw [5] (fun i wr => i = .int .i64 0 ∧ wr = W) (fun i _ => 0)
  case atStart => exact ⟨rfl, rfl⟩
  case round =>
    obtain ⟨rfl, rfl⟩ := hrel
    go_wp2
    go_ret
    exact ⟨rfl, Below.refl _ _⟩
set_option maxHeartbeats 800000 in
theorem same_eq (b1 o1 c1 b2 o2 c2 n : Nat) (l : List Int) (W : World) (hn : n ≤ 1000000) (h1 : ∀ t, t < n → W.cell? ⟨b1, o1 + t, none⟩ = some (.int .u64 (l.getD t 0))) (h2 : ∀ t, t < n → W.cell? ⟨b2, o2 + t, none⟩ = some (.int .u64 (l.getD t 0))) :
    Calls Try.prog 27 #[.slice (some ⟨b1, o1, none⟩) n c1, .slice (some ⟨b2, o2, none⟩) n c2] W fun e W' => e = .returned (.bool true) ∧ ∃ k, W' = W.drewN k := by
  go_enter Try.func27, Try.ntmps27
  go_wp2
  go_loopw [5] (fun i wr => ∃ k : Nat, k ≤ n ∧ i = .int .i64 k ∧ ∃ j, wr = W.drewN j) (fun i _ => n - (intOf i).toNat)
  case atStart => exact ⟨0, Nat.zero_le _, rfl, 0, rfl⟩
  case round =>
    obtain ⟨k, hk, rfl, j, rfl⟩ := hrel
    by_cases hlt : k < n
    · have g1 := h1 k hlt
      have g2 := h2 k hlt
      clear h1 h2
      go_wp2
      go_quiet (fail)
      go_wp2
      go_roundw
      case rel => exact ⟨k + 1, by omega, by go_num, _, rfl⟩
      case measure => simp [intOf]; omega
    · go_wp2
      go_ret
      exact ⟨rfl, j, rfl⟩
theorem same27 {L : List Int} {B B' : Nat} {w : World} {a a' : Option Addr} {n c n' c' : Nat} (hL : L.length ≤ 1000000) (h1 : Vp L B w (.slice a n c)) (h2 : Vp L B' w (.slice a' n' c')) : Calls Try.prog 27 #[.slice a n c, .slice a' n' c'] w fun e w' => e = .returned (.bool true) ∧ Below w.heap.size w w' := by
  have z : ∀ {B a n c}, L = [] → Vp L B w (.slice a n c) → n = 0 := fun e h => by
    subst e
    rcases h with ⟨_, a, cap, h⟩ | ⟨b, off, cap, _, h, _⟩ <;> cases h <;> rfl
  by_cases e : L = []
  · obtain rfl := z e h1
    obtain rfl := z e h2
    exact same_nil _ _ _ _ _
  · rcases h1 with ⟨h, _⟩ | ⟨b1, o1, p1, _, g1, _, k1⟩
    · exact absurd h e
    · rcases h2 with ⟨h, _⟩ | ⟨b2, o2, p2, _, g2, _, k2⟩
      · exact absurd h e
      · cases g1
        cases g2
        refine (same_eq b1 o1 _ b2 o2 _ L.length L w hL k1 k2).mono ?_
        rintro e w' ⟨rfl, k, rfl⟩
        exact ⟨rfl, below_drewN (Below.refl _ _) k⟩
end Go.Proofs.Ytdenpaifjpmkgaa

/- SealMatchesReference: the checks. -/
namespace Go.Proofs.Ytdenpaifjpmkgaa
open Go.Ev
open Go.RowKit
set_option maxRecDepth 100000
set_option linter.unusedVariables false
set_option linter.unusedSectionVars false

def Badly (n i : Int) : Prop := i < 0 ∨ (0 ≤ i ∧ n ≤ i) ∨ (0 ≤ i ∧ i < n ∧ 4096 < n)
set_option maxHeartbeats 800000 in
theorem check_bad (r n i leaf : Int) (a : Option Addr) (len cap : Nat) (W : World) (h : Badly n i) : Calls Try.prog 42 #[.int .u64 r, .int .i64 n, .agg #[.int .i64 i, .int .u64 leaf], .slice a len cap] W fun e W' => e = .returned (.int .i64 1) ∧ Below W.heap.size W W' := by
  rcases h with h | h | h
  all_goals
    go_enter Try.func42, Try.ntmps42
    go_wp2
    go_ret
    exact ⟨rfl, (Below.refl _ _).alloc (Nat.le_refl _) _⟩
def chkB (ok : Bool) (h r : Int) : Int := if ok = true ∧ h = r then 0 else 6
set_option maxHeartbeats 800000 in
theorem check_good (r n i leaf h : Int) (ok : Bool) (a : Option Addr) (len cap : Nat) (W : World) (h0 : 0 ≤ i) (h1 : i < n) (h2 : n ≤ 4096)
    (hc : ∀ w : World, Below W.heap.size W w → Calls Try.prog 48 #[.int .i64 n, .int .i64 i, .int .u64 leaf, .slice a len cap] w fun e w' => e = .returned (.tuple #[.int .u64 h, .bool ok]) ∧ Below w.heap.size w w') :
    Calls Try.prog 42 #[.int .u64 r, .int .i64 n, .agg #[.int .i64 i, .int .u64 leaf], .slice a len cap] W fun e W' => e = .returned (.int .i64 (chkB ok h r)) ∧ Below W.heap.size W W' := by
  have H := Lib.hid hc
  clear hc
  go_enter Try.func42, Try.ntmps42
  go_wp2_with fail
  refine (H.out _ ((Below.refl _ _).alloc (Nat.le_refl _) _)).mono ?_
  rintro e w1 ⟨rfl, hb⟩
  have hB := ((Below.refl W.heap.size W).alloc (Nat.le_refl _) _).trans (hb.mono (by simp))
  clear hb
  by_cases he : h = r
  · subst he
    cases ok
    all_goals
      go_wp2
      go_ret
      exact ⟨by simp [chkB], hB⟩
  · cases ok
    all_goals
      go_wp2
      go_ret
      exact ⟨by simp [chkB, he], hB⟩
set_option maxHeartbeats 800000 in
theorem check28 (r n i leaf c : Int) (a : Option Addr) (len cap : Nat) (W : World)
    (hc : ∀ w : World, Below W.heap.size W w → Calls Try.prog 42 #[.int .u64 r, .int .i64 n, .agg #[.int .i64 i, .int .u64 leaf], .slice a len cap] w fun e w' => e = .returned (.int .i64 c) ∧ Below w.heap.size w w') :
    Calls Try.prog 28 #[.int .u64 r, .agg #[.int .i64 n, .slice a len cap], .agg #[.int .i64 i, .int .u64 leaf]] W fun e W' => e = .returned (.int .i64 c) ∧ Below W.heap.size W W' := by
  have H := Lib.hid hc
  clear hc
  go_enter Try.func28, Try.ntmps28
  go_wp2_with fail
  refine (H.out _ (((Below.refl _ _).alloc (Nat.le_refl _) _).alloc (by simp) _)).mono ?_
  rintro e w1 ⟨rfl, hb⟩
  have hB := (((Below.refl W.heap.size W).alloc (Nat.le_refl _) _).alloc (by simp) _).trans (hb.mono (by simp; omega))
  clear hb
  go_wp2
  go_ret
  exact ⟨rfl, hB⟩
set_option maxHeartbeats 800000 in
theorem rcheck_bad (r n i leaf : Int) (a : Option Addr) (len cap : Nat) (W : World) (h : Badly n i) : Calls Try.prog 29 #[.int .u64 r, .agg #[.int .i64 n, .slice a len cap], .agg #[.int .i64 i, .int .u64 leaf]] W fun e W' => e = .returned (.int .i64 1) ∧ Below W.heap.size W W' := by
  rcases h with h | h | h
  all_goals
    go_enter Try.func29, Try.ntmps29
    go_wp2
    go_ret
    exact ⟨rfl, ((Below.refl _ _).alloc (Nat.le_refl _) _).alloc (by simp) _⟩
set_option maxHeartbeats 800000 in
theorem rcheck_nil (r n i leaf : Int) (S : List Int) (W : World) (h0 : 0 ≤ i) (h1 : i < n) (h2 : n ≤ 4096)
    (hs : ∀ w : World, Calls Try.prog 30 #[.int .i64 n, .int .i64 i] w (SidesPost S w)) :
    Calls Try.prog 29 #[.int .u64 r, .agg #[.int .i64 n, .slice none 0 0], .agg #[.int .i64 i, .int .u64 leaf]] W fun e W' => e = .returned (.int .i64 (if S.length = 0 then ckV leaf r else 6)) ∧ Below W.heap.size W W' := by
  have H := Lib.hid hs
  clear hs
  have hcs : (S.length = 0 ∧ leaf = r) ∨ (S.length = 0 ∧ leaf ≠ r) ∨ S.length ≠ 0 := by by_cases h : S.length = 0 <;> by_cases h' : leaf = r <;> simp [h, h']
  have fin : ∀ (x : Int) (k : Nat), (x = if S.length = 0 then ckV leaf r else 6) → S.length = k → Calls Try.prog 29 #[.int .u64 r, .agg #[.int .i64 n, .slice none 0 0], .agg #[.int .i64 i, .int .u64 leaf]] W (fun e W' => e = .returned (.int .i64 x) ∧ Below W.heap.size W W') → Calls Try.prog 29 #[.int .u64 r, .agg #[.int .i64 n, .slice none 0 0], .agg #[.int .i64 i, .int .u64 leaf]] W fun e W' => e = .returned (.int .i64 (if S.length = 0 then ckV leaf r else 6)) ∧ Below W.heap.size W W' := fun x k e _ h => by rw [← e]; exact h
  rcases hcs with ⟨h3, h4⟩ | ⟨h3, h4⟩ | h3
  · refine fin 0 0 (by rw [if_pos h3, ckV, if_pos h4]) h3 ?_
    subst h4
    clear fin
    go_enter Try.func29, Try.ntmps29
    go_wp2_with fail
    refine (H.out _).mono ?_
    rintro e w1 ⟨sb, cap', rfl, hsb, hsc, hb⟩
    have HB : Hid (Below W.heap.size W w1) := Lib.hid ((((Below.refl _ _).alloc (Nat.le_refl _) _).alloc (by simp) _).trans (hb.mono (by simp; omega)))
    have c1 : w1.cell? ⟨W.heap.size, 1, none⟩ = some (.slice none 0 0) := by rw [hb.cell (by simp; omega)]; simp
    have c2 : w1.cell? ⟨W.heap.size + 1, 1, none⟩ = some (.int .u64 leaf) := by rw [hb.cell (by simp)]; simp
    clear hb hsc
    rw [h3]
    go_wp2
    go_loopw [8, 9] (fun h j wr => h = .int .u64 leaf ∧ j = .int .i64 0 ∧ wr = w1) (fun _ j _ => 0)
    case atStart => exact ⟨rfl, rfl, rfl⟩
    case round =>
      obtain ⟨rfl, rfl, rfl⟩ := hrel
      go_wp2
      go_ret
      exact ⟨rfl, HB.out⟩
  · refine fin 6 0 (by rw [if_pos h3, ckV, if_neg h4]) h3 ?_
    clear fin
    have hn : (leaf != r) = true := by rw [bne_iff_ne]; exact h4
    go_enter Try.func29, Try.ntmps29
    go_wp2_with fail
    refine (H.out _).mono ?_
    rintro e w1 ⟨sb, cap', rfl, hsb, hsc, hb⟩
    have HB : Hid (Below W.heap.size W w1) := Lib.hid ((((Below.refl _ _).alloc (Nat.le_refl _) _).alloc (by simp) _).trans (hb.mono (by simp; omega)))
    have c1 : w1.cell? ⟨W.heap.size, 1, none⟩ = some (.slice none 0 0) := by rw [hb.cell (by simp; omega)]; simp
    have c2 : w1.cell? ⟨W.heap.size + 1, 1, none⟩ = some (.int .u64 leaf) := by rw [hb.cell (by simp)]; simp
    clear hb hsc
    rw [h3]
    go_wp2
    go_loopw [8, 9] (fun h j wr => h = .int .u64 leaf ∧ j = .int .i64 0 ∧ wr = w1) (fun _ j _ => 0)
    case atStart => exact ⟨rfl, rfl, rfl⟩
    case round =>
      obtain ⟨rfl, rfl, rfl⟩ := hrel
      go_wp2
      go_ret
      exact ⟨rfl, HB.out⟩
  · refine fin 6 S.length (by rw [if_neg h3]) rfl ?_
    clear fin
    have hne : ((S.length : Int) != ((0 : Nat) : Int)) = true := by rw [bne_iff_ne]; omega
    have hne' : ((S.length : Int) != 0) = true := by rw [bne_iff_ne]; omega
    go_enter Try.func29, Try.ntmps29
    go_wp2_with fail
    refine (H.out _).mono ?_
    rintro e w1 ⟨sb, cap', rfl, hsb, hsc, hb⟩
    have hB : Below W.heap.size W w1 := (((Below.refl _ _).alloc (Nat.le_refl _) _).alloc (by simp) _).trans (hb.mono (by simp; omega))
    have c1 : w1.cell? ⟨W.heap.size, 1, none⟩ = some (.slice none 0 0) := by rw [hb.cell (by simp; omega)]; simp
    clear hb hsc
    go_wp2
    go_ret
    exact ⟨rfl, hB⟩

/-! ### what comes of a leaf, a path and its sides -/
theorem upsG_app (v : Int) (P S : List Int) (y z : Int) : ∀ j, j ≤ P.length → j ≤ S.length → upsG upI v (P ++ [y]) (S ++ [z]) j = upsG upI v P S j
  | 0, _, _ => rfl
  | j + 1, h1, h2 => by
    have e1 : (P ++ [y]).getD j 0 = P.getD j 0 := by simp [List.getD, List.getElem?_append_left (show j < P.length by omega)]
    have e2 : (S ++ [z]).getD j 0 = S.getD j 0 := by simp [List.getD, List.getElem?_append_left (show j < S.length by omega)]
    simp only [upsG]
    rw [upsG_app v P S y z j (by omega) (by omega), e1, e2]
theorem climb_upsG {n i : Nat} {v : Int} {P : List Int} (h1 : 1 ≤ n) (hl : P.length = depN n i) : (climbL n i v P).1 = upsG upI v P (sideL n i) (depN n i) := by
  induction n using Nat.strongRecOn generalizing i P with
  | ind n ih =>
    by_cases h2 : n < 2
    · rw [depN_1 h2, climb_1 (.inl h2)]; rfl
    · have hb := hf_bd (show 2 ≤ n by omega)
      have hne : P ≠ [] := fun e => by
        rw [e] at hl
        by_cases hi : i < hf n
        · rw [depN_l (by omega) hi] at hl; simp at hl
        · rw [depN_r (by omega) hi] at hl; simp at hl
      obtain ⟨X, y, rfl⟩ := snoc_of hne
      rw [List.length_append, List.length_singleton] at hl
      by_cases hi : i < hf n
      · rw [depN_l (by omega) hi] at hl ⊢
        rw [climb_l (by omega) hi, side_l (by omega) hi, ih (hf n) hb.2.1 hb.1 (P := X) (by omega)]
        have hs := side_len (hf n) i
        simp only [upsG]
        rw [upsG_app _ _ _ _ _ _ (by omega) (by omega)]
        have e1 : (X ++ [y]).getD (depN (hf n) i) 0 = y := by rw [← show X.length = depN (hf n) i by omega]; simp [List.getD]
        have e2 : (sideL (hf n) i ++ [(1 : Int)]).getD (depN (hf n) i) 0 = 1 := by rw [← hs]; simp [List.getD]
        rw [e1, e2]; rfl
      · rw [depN_r (by omega) hi] at hl ⊢
        rw [climb_r (by omega) hi, side_r (by omega) hi, ih (n - hf n) (by omega) (by omega) (P := X) (by omega)]
        have hs := side_len (n - hf n) (i - hf n)
        simp only [upsG]
        rw [upsG_app _ _ _ _ _ _ (by omega) (by omega)]
        have e1 : (X ++ [y]).getD (depN (n - hf n) (i - hf n)) 0 = y := by rw [← show X.length = depN (n - hf n) (i - hf n) by omega]; simp [List.getD]
        have e2 : (sideL (n - hf n) (i - hf n) ++ [(0 : Int)]).getD (depN (n - hf n) (i - hf n)) 0 = 0 := by rw [← hs]; simp [List.getD]
        rw [e1, e2]; rfl


/-! ### both checks give one number -/
theorem Stands.below {W w : World} {b off cap : Nat} {l : List Int} {c : Array Value} (h : Stands W b off cap l c) (hb : Below W.heap.size W w) : Stands w b off cap l c := by
  obtain ⟨e, fz, h3⟩ := h.blk
  exact ⟨h.cap, ⟨e, fz, (hb.block _ (heap_in h3)).trans h3⟩, h.cell, h.u⟩
noncomputable def ckC (N i leaf : Int) (P : List Int) (r : Int) : Int := open Classical in if Badly N i then 1 else chkB (climbL N.toNat i.toNat leaf P).2 (climbL N.toNat i.toNat leaf P).1 r
theorem ckC_bad {N i leaf r : Int} {P : List Int} (h : Badly N i) : ckC N i leaf P r = 1 := if_pos h
theorem ckC_good {n i : Nat} {leaf r : Int} {P : List Int} (h1 : i < n) (h2 : n ≤ 4096) : ckC n i leaf P r = chkB (climbL n i leaf P).2 (climbL n i leaf P).1 r := by
  have : ¬ Badly (n : Int) i := by unfold Badly; omega
  rw [ckC, if_neg this, Int.toNat_natCast, Int.toNat_natCast]
theorem good_or (N i : Int) : Badly N i ∨ ∃ n j : Nat, N = n ∧ i = j ∧ j < n ∧ n ≤ 4096 := by
  by_cases h : Badly N i
  · exact .inl h
  · unfold Badly at h
    exact .inr ⟨N.toNat, i.toNat, by omega, by omega, by omega, by omega⟩
theorem c28 {W : World} {off cap : Nat} {P : List Int} {nl : Bool} {v : Value} {r N i leaf : Int} (hv : GivenT W off cap P nl v) (hl : P.length ≤ 100) (hu : u64 leaf) :
    Ans 28 #[.int .u64 r, .agg #[.int .i64 N, v], .agg #[.int .i64 i, .int .u64 leaf]] (.int .i64 (ckC N i leaf P r)) W := fun w hw => by
  have hv' := hv.below hw
  rcases good_or N i with hb | ⟨n, j, rfl, rfl, h1, h2⟩
  · rw [ckC_bad hb]
    cases hv' with
    | nil h => exact check28 _ _ _ _ _ _ _ _ _ fun w' _ => check_bad _ _ _ _ _ _ _ _ hb
    | «at» hS => exact check28 _ _ _ _ _ _ _ _ _ fun w' _ => check_bad _ _ _ _ _ _ _ _ hb
  · rw [ckC_good h1 h2]
    cases hv' with
    | nil h =>
      subst h
      exact check28 _ _ _ _ _ _ _ _ _ fun w' _ => check_good _ _ _ _ _ _ _ _ _ _ (by omega) (by omega) (by omega) fun w'' _ => wclimb_nil w'' (by omega) h2 h1 hu
    | «at» hS =>
      exact check28 _ _ _ _ _ _ _ _ _ fun w' hw' => check_good _ _ _ _ _ _ _ _ _ _ (by omega) (by omega) (by omega) fun w'' hw'' => wclimb_c n (by omega) h2 j leaf P w'' _ off cap _ h1 hu (by omega) ((hS.below hw').below hw'')
theorem get_u {P : List Int} (h : ∀ x ∈ P, u64 x) (t : Nat) : u64' (P.getD t 0) := by
  by_cases ht : t < P.length
  · rw [List.getD_eq_getElem?_getD, List.getElem?_eq_getElem ht]; exact h _ (List.getElem_mem _)
  · rw [List.getD_eq_getElem?_getD, List.getElem?_eq_none (by omega)]; exact ⟨by decide, by decide⟩
theorem c29 {W : World} {off cap : Nat} {P : List Int} {nl : Bool} {v : Value} {r N i leaf : Int} (hv : GivenT W off cap P nl v) (hl : P.length ≤ 100) (hu : u64 leaf) :
    Ans 29 #[.int .u64 r, .agg #[.int .i64 N, v], .agg #[.int .i64 i, .int .u64 leaf]] (.int .i64 (ckC N i leaf P r)) W := fun w hw => by
  have hv' := hv.below hw
  rcases good_or N i with hb | ⟨n, j, rfl, rfl, h1, h2⟩
  · rw [ckC_bad hb]
    cases hv' with
    | nil h => exact rcheck_bad _ _ _ _ _ _ _ _ hb
    | «at» hS => exact rcheck_bad _ _ _ _ _ _ _ _ hb
  · rw [ckC_good h1 h2]
    have hs : ∀ w : World, Calls Try.prog 30 #[.int .i64 n, .int .i64 j] w (SidesPost (sideL n j) w) := fun w => sides30 (by omega) h2 h1 w
    have hsl := side_len n j
    have hok := climb_ok (n := n) (i := j) (v := leaf) (P := P) (by omega)
    cases hv' with
    | nil h =>
      subst h
      have := rcheck_nil r n j leaf (sideL n j) w (by omega) (by omega) (by omega) hs
      rw [hsl] at this
      rw [hok]
      rw [show (climbL n j leaf []).1 = leaf by rw [climb_1 (.inr rfl)]]
      by_cases h0 : depN n j = 0
      · rw [if_pos h0] at this
        rw [h0]
        simpa [chkB, ckV] using this
      · rw [if_neg h0] at this
        have h0' : ¬ 0 = depN n j := fun e => h0 e.symm
        simpa [chkB, h0'] using this
    | @«at» b c hS =>
      obtain ⟨be, bfz, hblk⟩ := hS.blk
      by_cases he : P.length = depN n j
      · have := rcheck_loop upI upI_u64 r n j leaf b off cap P (sideL n j) w (by omega) (by omega) (by omega) (by rw [hsl, he]) (by rw [hsl, ← he]; omega) hu (get_u hS.u) (heap_in hblk) (fun t ht => cell_of hblk (hS.cell t ht)) hs (fun h o b w hh ho => up_c h o b hh ho w)
        rw [hok, climb_upsG (by omega) he, decide_eq_true he, ← he]
        simpa [chkB, ckV] using this
      · have := rcheck_len r n j leaf b off P.length cap (sideL n j) w (by omega) (by omega) (by omega) (by rw [hsl]; omega) hs
        rw [hok, decide_eq_false he]
        simpa [chkB] using this
end Go.Proofs.Ytdenpaifjpmkgaa

/- SealMatchesReference: the law. -/
namespace Go.Proofs.Ytdenpaifjpmkgaa
open Go.Ev
open Go.RowKit
set_option maxRecDepth 100000
set_option linter.unusedVariables false
set_option linter.unusedSectionVars false

/-! ### lists that are too long -/
def Long (ll bl pl : Nat) : Prop := 200 < ll ∨ (ll ≤ 200 ∧ 200 < bl) ∨ (ll ≤ 200 ∧ bl ≤ 200 ∧ 100 < pl)
set_option maxHeartbeats 3200000 in
theorem law_long {la ba pa : Option Addr} {ll lc bl bc pl pc : Nat} {h wd N pI lf : Int} {W : World} (hex : ∀ W : World, Calls Try.prog 9 #[] W fun e W' => e = .returned (.bool true) ∧ Below W.heap.size W W') (hL : Long ll bl pl) :
    Calls Try.prog 3 #[.slice la ll lc, .slice ba bl bc, .agg #[.int .u64 h, .int .u64 wd, .int .i64 N, .slice pa pl pc, .int .i64 pI, .int .u64 lf]] W fun e W' => e = .returned (.bool true) ∧ Below W.heap.size W W' := by
  have HX := Lib.hid hex
  clear hex
  rcases hL with k1 | ⟨k1, k2⟩ | ⟨k1, k2, k3⟩
  all_goals
    go_enter Try.func3, Try.ntmps3
    go_wp2_with fail
    refine (HX.out _).mono ?_
    rintro e w0 ⟨rfl, hb⟩
    have HB : Hid (Below W.heap.size W w0) := Lib.hid (((Below.refl _ _).alloc (Nat.le_refl _) _).trans (hb.mono (by simp)))
    have z3 : w0.cell? ⟨W.heap.size, 3, none⟩ = some (.slice pa pl pc) := by rw [hb.cell (by simp)]; simp
    clear hb
    go_wp2
    go_ret
    exact ⟨rfl, HB.out⟩

/-! ### the law -/
theorem GivenK.shape {W : World} {k : IntKind} {l : List Int} {v : Value} (h : GivenK W k l v) : ∃ a c, v = .slice a l.length c := by
  cases h with
  | nil h => subst h; exact ⟨none, 0, rfl⟩
  | «at» h1 h2 h3 => exact ⟨_, _, rfl⟩
theorem GivenT.shape {W : World} {off cap : Nat} {l : List Int} {n : Bool} {v : Value} (h : GivenT W off cap l n v) : ∃ a c, v = .slice a l.length c := by
  cases h with
  | nil h => subst h; exact ⟨none, 0, rfl⟩
  | «at» hS => exact ⟨_, _, rfl⟩
def eB (n k : Nat) : Int := if 1 ≤ k ∧ k ≤ n then 0 else 1
def pB (G : List Int) (n k : Nat) : List Int := if 1 ≤ k ∧ k ≤ n then pathL G (k - 1) else []
theorem pB_len {G : List Int} {n k : Nat} (hG : G.length = n) (hn : n < 300) : (pB G n k).length ≤ 1000000 := by
  unfold pB
  split
  · rename_i h
    rw [path_len]
    have := dep_le 9 G.length (k - 1) (by omega)
    omega
  · simp
theorem conv (x : Int) : ∃ n : Nat, n < 300 ∧ wrap64 ((IntKind.u64.wrap x).tmod 300) = n := by
  have h0 : 0 ≤ IntKind.u64.wrap x := by simp [IntKind.wrap, IntKind.bits, IntKind.signed]; omega
  have h1 : (IntKind.u64.wrap x).tmod 300 = IntKind.u64.wrap x % 300 := Int.tmod_eq_emod_of_nonneg h0
  refine ⟨(IntKind.u64.wrap x % 300).toNat, by omega, ?_⟩
  rw [h1]
  generalize IntKind.u64.wrap x = y at *
  unfold wrap64
  omega
section
variable {W : World} {l b P : List Int} {off cap : Nat} {nl : Bool} {lv bv pv : Value} {h wd N pI lf : Int}
theorem law_c (hl : GivenK W .i64 l lv) (hb : GivenK W .u8 b bv) (hP : GivenT W off cap P nl pv) (uP : ∀ x ∈ P, u64 x) (uh : u64 h) (uw : u64 wd) (uf : u64 lf) (il : ∀ x ∈ l, i64 x) (ib : ∀ x ∈ b, byt x) :
    Calls Try.prog 3 #[lv, bv, .agg #[.int .u64 h, .int .u64 wd, .int .i64 N, pv, .int .i64 pI, .int .u64 lf]] W fun e W' => e = .returned (.bool true) ∧ Below W.heap.size W W' := by
  obtain ⟨la, lc, rfl⟩ := hl.shape
  obtain ⟨ba, bc, rfl⟩ := hb.shape
  obtain ⟨pa, pc, rfl⟩ := hP.shape
  by_cases hL : Long l.length b.length P.length
  · exact law_long ex_c hL
  obtain ⟨k1, k2, k3⟩ : l.length ≤ 200 ∧ b.length ≤ 200 ∧ P.length ≤ 100 := by unfold Long at hL; omega
  obtain ⟨n, hn, hconv⟩ := conv pI
  have hG : (grownL P n).length = n := grown_len P n
  have h15 := words15 hl (by omega) il
  have h16 := words16 hl (by omega) il
  refine law3 (D := Dn (grownL P n)) (V := fun k => Vp (pB (grownL P n) n k) 0) (er := eB n) (n := n) (x1 := stepI h wd) (x2 := backI h wd) (x3 := wI l) (x4 := bI b) (x5 := joinI h wd) (x6 := stepI h (wI l)) (x7 := if n = 0 then wI [] else rootL (grownL P n)) (c1 := ckC N pI lf P h) (c2 := ckC n pI lf P h) ?_ k1 k2 k3 hn hconv
  refine { h9 := fun w _ => ex_c w, h10 := fun w hw => grown10 uP hn (by omega) hP w hw, h11 := step11 uh uw W, h12 := step12 uh uw W, h13 := back13 uh uw W, h14 := back14 uh uw W, h15 := h15, h16 := h16, h17 := bytes17 hb (by omega) ib, h18 := bytes18 hb (by omega) ib, h19 := join19 uh uw W, h20 := join20 uh uw W, h21 := tag21 h15 (step11 uh (stepI_u64 _ _) W), h22 := tag22 h16 (step12 uh (stepI_u64 _ _) W), h23 := ?_, h24 := ?_, h25 := ?_, h26 := ?_, h27 := fun k a len cap a' len' cap' w h1 h2 => same27 (pB_len hG hn) h1 h2, mono := fun k w w' v h1 h2 => Vp.below h1 h2, h28 := c28 hP k3 uf, h29 := c29 hP k3 uf, h28b := c28 hP k3 uf, h29b := c29 hP k3 uf }
  · intro db dc w1 w hD hw
    by_cases h0 : n = 0
    · subst h0; rw [if_pos rfl]; exact root23_0 _ _ _
    · rw [if_neg h0]; exact root23 hG (by omega) hn hD hw
  · intro db dc w1 w hD hw
    by_cases h0 : n = 0
    · subst h0; rw [if_pos rfl]; exact root24_0 _ _ _
    · rw [if_neg h0]; exact root24 hG (by omega) hn hD hw
  · intro db dc w1 w k hD hw hk _
    by_cases h0 : 1 ≤ k ∧ k ≤ n
    · rw [show eB n k = 0 from if_pos h0]
      simp only [pB, if_pos h0]
      rw [show (k : Int) - 1 = ((k - 1 : Nat) : Int) by omega]
      exact opened_good fun w2 hw2 => open40 (off := 0) (cap := 0) uP (by omega) hn (by omega) ((hD.below hw).below hw2)
    · rw [show eB n k = 1 from if_neg h0]
      simp only [pB, if_neg h0]
      exact opened_bad (by omega) (by omega) fun w => .inl ⟨rfl, none, 0, rfl⟩
  · intro db dc w1 w k hD hw hk _
    by_cases h0 : 1 ≤ k ∧ k ≤ n
    · rw [show eB n k = 0 from if_pos h0]
      simp only [pB, if_pos h0]
      rw [show (k : Int) - 1 = ((k - 1 : Nat) : Int) by omega]
      exact openin_good (by omega) (by omega) (by omega) fun w2 hw2 => path41 (off := 0) (cap := 0) uP (by omega) hn (by omega) ((hD.below hw).below hw2)
    · rw [show eB n k = 1 from if_neg h0]
      simp only [pB, if_neg h0]
      exact openin_bad (by omega) (by omega) fun w => .inl ⟨rfl, none, 0, rfl⟩
end
end Go.Proofs.Ytdenpaifjpmkgaa
