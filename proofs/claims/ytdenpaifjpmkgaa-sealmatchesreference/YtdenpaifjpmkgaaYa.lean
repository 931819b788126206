/- The reference's check, walked. -/
import Derived.Test.YtdenpaifjpmkgaaProg
import Derived.WalkKit
import Derived.Deep.QuietTactic
import Derived.Deep.RegionWith
import Derived.Deep.RegionHeld3
import Derived.BigQuiet
import Derived.Lib.Hide
namespace Go.Proofs.Ytdenpaifjpmkgaa
open Go.RowKit
def SidesPost (S : List Int) (w : World) (e : Ending) (w' : World) : Prop := ∃ sb cap', e = .returned (.slice (some ⟨sb, 0, none⟩) S.length cap') ∧ sb < w'.heap.size ∧ (∀ t, t < S.length → w'.cell? ⟨sb, t, none⟩ = some (.bool (decide (S.getD t 0 ≠ 0)))) ∧ Below w.heap.size w w'
def upsG (up : Int → Int → Bool → Int) (v : Int) (P S : List Int) : Nat → Int
  | 0 => v
  | j + 1 => up (upsG up v P S j) (P.getD j 0) (decide (S.getD j 0 ≠ 0))
def ckV (x r : Int) : Int := if x = r then 0 else 6
def u64' (n : Int) : Prop := 0 ≤ n ∧ n ≤ 18446744073709551615
set_option maxHeartbeats 800000 in
set_option maxRecDepth 100000 in
theorem rcheck_len (r n i leaf : Int) (b off len cap : Nat) (S : List Int) (W : World) (h0 : 0 ≤ i) (h1 : i < n) (h2 : n ≤ 4096) (hl : S.length ≠ len)
    (hs : ∀ w : World, Calls Try.prog 30 #[.int .i64 n, .int .i64 i] w (SidesPost S w)) :
    Calls Try.prog 29 #[.int .u64 r, .agg #[.int .i64 n, .slice (some ⟨b, off, none⟩) len cap], .agg #[.int .i64 i, .int .u64 leaf]] W fun e W' => e = .returned (.int .i64 6) ∧ Below W.heap.size W W' := by
  have H := Lib.hid hs
  clear hs
  have hne : ((S.length : Int) != (len : Int)) = true := by rw [bne_iff_ne]; omega
  go_enter Try.func29, Try.ntmps29
  go_wp2_with fail
  refine (H.out _).mono ?_
  rintro e w1 ⟨sb, cap', rfl, hsb, hsc, hb⟩
  have hB : Below W.heap.size W w1 := (((Below.refl _ _).alloc (Nat.le_refl _) _).alloc (by simp) _).trans (hb.mono (by simp; omega))
  have c1 : w1.cell? ⟨W.heap.size, 1, none⟩ = some (.slice (some ⟨b, off, none⟩) len cap) := by
    rw [hb.cell (by simp; omega)]
    simp
  clear hb hsc
  go_wp2
  go_ret
  exact ⟨rfl, hB⟩
theorem upsG_u {up : Int → Int → Bool → Int} (hu : ∀ h o b, u64' (up h o b)) {v : Int} {P S : List Int} (hv : u64' v) : ∀ j, u64' (upsG up v P S j)
  | 0 => hv
  | _ + 1 => hu _ _ _
theorem keep3 {w1 w w' : World} {p q r : Addr} {x y z : Value} (h : Below w1.heap.size w1 w ∧ w.cell? p = some x ∧ w.cell? q = some y ∧ w.cell? r = some z) (hb : Below w.heap.size w w') (hp : p.block < w1.heap.size) (hq : q.block < w1.heap.size) (hr : r.block < w1.heap.size) :
    Below w1.heap.size w1 w' ∧ w'.cell? p = some x ∧ w'.cell? q = some y ∧ w'.cell? r = some z := by
  obtain ⟨h1, h2, h3, h4⟩ := h
  have hs := h1.size
  exact ⟨h1.trans (hb.mono hs), by rw [hb.cell (by omega)]; exact h2, by rw [hb.cell (by omega)]; exact h3, by rw [hb.cell (by omega)]; exact h4⟩
set_option maxHeartbeats 1600000 in
set_option maxRecDepth 100000 in
theorem rcheck_loop (up : Int → Int → Bool → Int) (hu : ∀ h o b, u64' (up h o b)) (r n i leaf : Int) (b off cap : Nat) (P S : List Int) (W : World) (h0 : 0 ≤ i) (h1 : i < n) (h2 : n ≤ 4096) (hl : S.length = P.length) (hS : S.length ≤ 100) (hleaf : u64' leaf) (hP : ∀ t, u64' (P.getD t 0))
    (hbb : b < W.heap.size) (hc : ∀ t, t < P.length → W.cell? ⟨b, off + t, none⟩ = some (.int .u64 (P.getD t 0)))
    (hs : ∀ w : World, Calls Try.prog 30 #[.int .i64 n, .int .i64 i] w (SidesPost S w))
    (hup : ∀ (h o : Int) (b : Bool) (w : World), u64' h → u64' o → Calls Try.prog 31 #[.int .u64 h, .int .u64 o, .bool b] w fun e w' => e = .returned (.int .u64 (up h o b)) ∧ Below w.heap.size w w') :
    Calls Try.prog 29 #[.int .u64 r, .agg #[.int .i64 n, .slice (some ⟨b, off, none⟩) P.length cap], .agg #[.int .i64 i, .int .u64 leaf]] W fun e W' => e = .returned (.int .i64 (ckV (upsG up leaf P S P.length) r)) ∧ Below W.heap.size W W' := by
  have H := Lib.hid hs
  have HU := Lib.hid hup
  have HP := Lib.hid hP
  have HC := Lib.hid hc
  have HL := Lib.hid hl
  have Hu := Lib.hid hu
  clear hs hup hP hc hu
  have hne : ((S.length : Int) != (P.length : Int)) = false := by rw [hl]; simp
  clear hl
  go_enter Try.func29, Try.ntmps29
  go_wp2_with fail
  refine (H.out _).mono ?_
  rintro e w1 ⟨sb, cap', rfl, hsb, hsc, hb⟩
  have HB : Hid (Below W.heap.size W w1) := Lib.hid ((((Below.refl _ _).alloc (Nat.le_refl _) _).alloc (by simp) _).trans (hb.mono (by simp; omega)))
  have c1 : w1.cell? ⟨W.heap.size, 1, none⟩ = some (.slice (some ⟨b, off, none⟩) P.length cap) := by
    rw [hb.cell (by simp; omega)]
    simp
  have c2 : w1.cell? ⟨W.heap.size + 1, 1, none⟩ = some (.int .u64 leaf) := by
    rw [hb.cell (by simp)]
    simp
  have hz : W.heap.size + 2 ≤ w1.heap.size := by have := hb.size; simpa using this
  have HC1 : Hid (∀ t, t < P.length → w1.cell? ⟨b, off + t, none⟩ = some (.int .u64 (P.getD t 0))) := Lib.hid fun t ht => by
    rw [HB.out.cell hbb]; exact HC.out t ht
  have HS := Lib.hid hsc
  clear hb hsc
  go_wp2
  go_loopw [8, 9] (fun h j wr => ∃ k : Nat, k ≤ P.length ∧ j = .int .i64 k ∧ h = .int .u64 (upsG up leaf P S k) ∧ Below w1.heap.size w1 wr) (fun _ j _ => P.length - (intOf j).toNat)
  case atStart => exact ⟨0, Nat.zero_le _, rfl, rfl, Below.refl _ _⟩
  case round =>
    obtain ⟨k, hk, rfl, rfl, hbl⟩ := hrel
    have d1 : wr.cell? ⟨W.heap.size, 1, none⟩ = some (.slice (some ⟨b, off, none⟩) P.length cap) := by rw [hbl.cell (by simp; omega)]; exact c1
    by_cases hlt : k < P.length
    · have d2 := HC1.out k hlt
      have d3 := HS.out k (by rw [HL.out]; exact hlt)
      have hb1 := World.block_lt_of_cell? w1 _ d2
      have hb2 := World.block_lt_of_cell? w1 _ d3
      rw [← hbl.cell (p := ⟨b, off + k, none⟩) hb1] at d2
      rw [← hbl.cell (p := ⟨sb, k, none⟩) hb2] at d3
      have hlt2 : k < S.length := by rw [HL.out]; exact hlt
      clear c1 c2
      go_wp2
      have hq1 := upsG_u Hu.out (P := P) (S := S) hleaf k
      have hq2 := HP.out k
      have hz1 : W.heap.size < w1.heap.size := by omega
      have Hn : Hid (upsG up leaf P S (k + 1) = up (upsG up leaf P S k) (P.getD k 0) (decide (S.getD k 0 ≠ 0))) := Lib.hid rfl
      generalize upsG up leaf P S k = uk at *
      generalize P.getD k 0 = pk at *
      generalize decide (S.getD k 0 ≠ 0) = sk at *
      have hS0 : Below w1.heap.size w1 wr.drew ∧ wr.drew.cell? ⟨W.heap.size, 1, none⟩ = some (.slice (some ⟨b, off, none⟩) P.length cap) ∧ wr.drew.cell? ⟨b, off + k, none⟩ = some (.int .u64 pk) ∧ wr.drew.cell? ⟨sb, k, none⟩ = some (.bool sk) := ⟨hbl.drew, d1, d2, d3⟩
      go_region_held3 (fun w' => Below w1.heap.size w1 w' ∧ w'.cell? ⟨W.heap.size, 1, none⟩ = some (.slice (some ⟨b, off, none⟩) P.length cap) ∧ w'.cell? ⟨b, off + k, none⟩ = some (.int .u64 pk) ∧ w'.cell? ⟨sb, k, none⟩ = some (.bool sk)) (first | (with_reducible exact hS0) | (refine keep3 ?_ hb3 hz1 hb1 hb2; assumption))
        ((go_at_call 31; with_reducible refine (HU.out _ _ _ _ hq1 hq2).mono ?_; rintro e w2 ⟨rfl, hb3⟩))
      go_wp2
      obtain ⟨hB2, _, _, _⟩ := (by assumption : Below w1.heap.size w1 w2 ∧ w2.cell? ⟨W.heap.size, 1, none⟩ = some (.slice (some ⟨b, off, none⟩) P.length cap) ∧ w2.cell? ⟨b, off + k, none⟩ = some (.int .u64 pk) ∧ w2.cell? ⟨sb, k, none⟩ = some (.bool sk))
      go_roundw
      case rel => exact ⟨k + 1, by omega, by go_num, by rw [Hn.out], hB2⟩
      case measure => simp [intOf]; omega
    · obtain rfl : k = P.length := by omega
      have hlt2 : ¬ P.length < S.length := by rw [HL.out]; omega
      clear c1 c2
      generalize hx : upsG up leaf P S P.length = x
      by_cases he : x = r
      · subst he
        have hx' := Lib.hid hx
        clear hx
        go_wp2
        go_ret
        exact ⟨by rw [hx'.out]; simp [ckV], HB.out.trans (hbl.mono HB.out.size)⟩
      · have hx' := Lib.hid hx
        clear hx
        have hn : (x != r) = true := by rw [bne_iff_ne]; exact he
        go_wp2
        go_ret
        exact ⟨by rw [hx'.out]; simp [ckV, he], HB.out.trans (hbl.mono HB.out.size)⟩
end Go.Proofs.Ytdenpaifjpmkgaa
