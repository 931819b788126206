/- The codes that the statements speak of. -/
import Derived.Test.YtdafhhojiioifaaDb
namespace Go.Proofs.Ytdafhhojiioifaa
open Go.RowKit Go.Fl
set_option maxRecDepth 100000
set_option linter.unusedVariables false
set_option linter.unusedSimpArgs false
set_option linter.unusedSectionVars false

open Go.RowKit
/-- bytes that came in -/
def N8 (m : Nat) (w : World) (v : Value) : Prop := (m = 0 ∧ ∃ a c, v = .slice a 0 c) ∨ ∃ b off cap, v = .slice (some ⟨b, off, none⟩) m cap ∧ b < w.heap.size ∧ ∀ t, t < m → ∃ x : Nat, x ≤ 255 ∧ w.cell? ⟨b, off + t, none⟩ = some (.int .u8 (x : Nat))
theorem N8.below {m : Nat} {w w' : World} {v : Value} (h : N8 m w v) (hb : Below w.heap.size w w') : N8 m w' v := by
 rcases h with h | ⟨b, off, cap, h4, h5, h6⟩
 ·exact .inl h
 ·exact .inr ⟨b, off, cap, h4, Nat.lt_of_lt_of_le h5 hb.size, fun t ht => by obtain ⟨x, h7, h8⟩ := h6 t ht; exact ⟨x, h7, (hb.cell h5).trans h8⟩⟩
theorem N8.at {m : Nat} {w : World} {a : Option Addr} {c : Nat} (h : N8 m w (.slice a m c)) {k : Nat} (hk : k < m) : ∃ b o x, a = some ⟨b, o, none⟩ ∧ b < w.heap.size ∧ x ≤ 255 ∧ w.cell? ⟨b, o + k, none⟩ = some (.int .u8 (x : Nat)) := by
 rcases h with ⟨e, _⟩ | ⟨b, off, cap, h4, h5, h6⟩
 ·omega
 ·injection h4 with h1 h2 h3
  obtain ⟨x, h7, h8⟩ := h6 k hk
  exact ⟨b, off, x, h1, h5, h7, h8⟩
def qs6 : List Nat := [2, 3, 4, 5, 7, 8]
def ms6 : List Nat := [8, 5, 4, 3, 2, 2]
/-- what the first regions read -/
abbrev SD (x y z : Nat) (aa : Option Addr) (l ca B : Nat) (w0 w : World) : Prop := (w.cell? ⟨B, 0, none⟩ = some (.int .u8 (x : Nat)) ∧ w.cell? ⟨B, 1, none⟩ = some (.int .u8 (y : Nat)) ∧ w.cell? ⟨B, 2, none⟩ = some (.int .u8 (z : Nat)) ∧ w.cell? ⟨B, 3, none⟩ = some (.slice aa l ca)) ∧ Hid (Below w0.heap.size w0 w ∧ B < w0.heap.size)
theorem SD.go {x y z : Nat} {aa : Option Addr} {l ca B : Nat} {w0 w w' : World} (h : SD x y z aa l ca B w0 w) (hb : Below w0.heap.size w w') : SD x y z aa l ca B w0 w' := by
 obtain ⟨⟨h0, h1, h2, h3⟩, h4⟩ := h
 have hB := h4.out.2
 exact ⟨⟨(hb.cell (p := ⟨B, 0, none⟩) hB).trans h0, (hb.cell (p := ⟨B, 1, none⟩) hB).trans h1, (hb.cell (p := ⟨B, 2, none⟩) hB).trans h2, (hb.cell (p := ⟨B, 3, none⟩) hB).trans h3⟩, Lib.hid ⟨h4.out.1.trans hb, hB⟩⟩
/-- a valid code of few words is answered -/
def MC (W : World) (e : Ending) (w' : World) : Prop := ∃ (F : Gf) (n m : Nat) (G : List (List Nat)) (L : List (Nat × Cf)) (a : Option Addr) (c : Nat), e = .returned (DV F.q n (.slice a m c)) ∧ VC F n m G L ∧ n ≤ 10 ∧ F.q ^ m ≤ 256 ∧ MM G w' (.slice a m c) ∧ Below W.heap.size W w'
set_option maxHeartbeats 12800000 in
theorem made_c {x y z l ca : Nat} {aa : Option Addr} {W : World} (hx : x ≤ 255) (hy : y ≤ 255) (hz : z ≤ 255) (hl : l ≤ maxLen) (na : N8 l W (.slice aa l ca)) :
  Calls Try.prog 17 #[.agg #[.int .u8 (x : Nat), .int .u8 (y : Nat), .int .u8 (z : Nat), .slice aa l ca]] W (MC W) := by
 obtain ⟨j0, ji, jz0, jz1, jz2⟩ := info_parts info22
 obtain ⟨w0, hw0⟩ : ∃ w0, w0 = (W.alloc (.cells #[.int .u8 (x : Nat), .int .u8 (y : Nat), .int .u8 (z : Nat), .slice aa l ca] 27)).alloc (.cells #[.int .i64 0, .int .i64 0, .slice none 0 0] 32) := ⟨_, rfl⟩
 have HB0 : Hid (Below W.heap.size W w0) := Lib.hid (by rw [hw0]; exact ((Below.refl _ _).alloc (Nat.le_refl _) _).alloc (by simp) _)
 have HX : Hid (BC W.heap.size [.int .u8 (x : Nat), .int .u8 (y : Nat), .int .u8 (z : Nat), .slice aa l ca] 27 w0) := Lib.hid (by rw [hw0]; exact (BC.new W [.int .u8 (x : Nat), .int .u8 (y : Nat), .int .u8 (z : Nat), .slice aa l ca] 27 rfl).alloc _)
 have HR : Hid (BC (W.heap.size + 1) [.int .i64 0, .int .i64 0, .slice none 0 0] 32 w0) := Lib.hid (by rw [hw0]; exact BC.new _ [.int .i64 0, .int .i64 0, .slice none 0 0] 32 (by simp))
 have HNA := Lib.hid (na.below HB0.out)
 have HLM := Lib.hid hl
 obtain ⟨x6, hx6⟩ : ∃ k, Hid (x % 6 = k) := ⟨_, Lib.hid rfl⟩
 have hx6b : x6 < 6 := by have := hx6.out; omega
 obtain ⟨q, hq⟩ : ∃ k, Hid (qs6.getD x6 0 = k) := ⟨_, Lib.hid rfl⟩
 obtain ⟨ms, hms⟩ : ∃ k, Hid (ms6.getD x6 0 = k) := ⟨_, Lib.hid rfl⟩
 obtain ⟨n, hn⟩ : ∃ k, Hid (1 + y % 10 = k) := ⟨_, Lib.hid rfl⟩
 obtain ⟨y1, hy1⟩ : ∃ k, Hid (y % 10 = k) := ⟨_, Lib.hid rfl⟩
 have hy1b : y1 < 10 := by have := hy1.out; omega
 have hn' : (1 : Int) + (y1 : Int) = (n : Int) := by have := hn.out; have := hy1.out; omega
 have hn10 : 1 ≤ n ∧ n ≤ 10 := by have := hn.out; omega
 have hxt : (x : Int).tmod 6 = (x6 : Int) := by rw [← hx6.out]; exact (Int.ofNat_tmod x 6).symm
 have hyt : (y : Int).tmod 10 = (y1 : Int) := by rw [← hy1.out]; exact (Int.ofNat_tmod y 10).symm
 have hnw : IntKind.i64.wrap (1 + IntKind.i64.wrap (y1 : Int)) = (n : Int) := by
  have h1 : IntKind.i64.wrap (y1 : Int) = (y1 : Int) := Go.IntWalk.i64_in _ (by omega)
  rw [h1]; exact (Go.IntWalk.i64_in _ (by omega)).trans hn'
 have hms8 : ms ≤ 8 := by
  rw [← hms.out]
  match x6, hx6b with
  | 0, _ | 1, _ | 2, _ | 3, _ | 4, _ | 5, _ => decide
 obtain ⟨kk, hkk⟩ : ∃ k, Hid (z % (ms + 1) = k) := ⟨_, Lib.hid rfl⟩
 have hzw : IntKind.i64.wrap (z : Int) = (z : Int) := Go.IntWalk.i64_in _ (by omega)
 have hzt : (z : Int).tmod ((ms : Int) + 1) = (kk : Int) := by rw [← hkk.out]; exact_mod_cast (Int.ofNat_tmod z (ms + 1)).symm
 have hkk8 : kk ≤ ms := by have := hkk.out; have := Nat.mod_lt z (show 0 < ms + 1 by omega); omega
 obtain ⟨F, hF⟩ : ∃ F, Hid (fdB x6 = F) := ⟨_, Lib.hid rfl⟩
 have HFM : Hid (F ∈ fds) := Lib.hid (by rw [← hF.out]; exact fdB_fds x6)
 have HFF : Hid (Ok F) := Lib.hid (ok_mem HFM.out)
 have HFQ : Hid (F.q = q) := Lib.hid (by
  have h1 := szs_q x6 (by omega)
  rw [← hF.out, ← hq.out]
  unfold fdB
  rw [Nat.mod_eq_of_lt (by omega), ← h1]
  match x6, hx6b with
  | 0, _ | 1, _ | 2, _ | 3, _ | 4, _ | 5, _ => rfl)
 have hq28 : 2 ≤ q ∧ q ≤ 8 := by
  rw [← hq.out]
  match x6, hx6b with
  | 0, _ | 1, _ | 2, _ | 3, _ | 4, _ | 5, _ => decide
 have hqm : q ^ ms ≤ 256 := by
  rw [← hq.out, ← hms.out]
  match x6, hx6b with
  | 0, _ | 1, _ | 2, _ | 3, _ | 4, _ | 5, _ => decide
 have hS1 : SD x y z aa l ca W.heap.size w0 w0.drew := ⟨⟨HX.out.cell rfl, HX.out.cell rfl, HX.out.cell rfl, HX.out.cell rfl⟩, Lib.hid ⟨(Below.refl _ _).drew, HX.out.lt⟩⟩
 have HQ6 : Hid ((w0.alloc (.cells #[.int .i64 2, .int .i64 3, .int .i64 4, .int .i64 5, .int .i64 7, .int .i64 8] 3)).drew.cell? ⟨w0.heap.size, x6, none⟩ = some (.int .i64 (q : Nat))) := Lib.hid ((show (w0.alloc (.cells #[.int .i64 2, .int .i64 3, .int .i64 4, .int .i64 5, .int .i64 7, .int .i64 8] 3)).cell? ⟨w0.heap.size, x6, none⟩ = _ from World.cell?_alloc_at _ _ _ _ rfl).trans (by
  rw [← hq.out]
  match x6, hx6b with
  | 0, _ | 1, _ | 2, _ | 3, _ | 4, _ | 5, _ => rfl))
 have hx6i : (x6 : Int) < 6 := by omega
 have HW0 := Lib.hid hw0
 clear hw0 na hl
 go_enter Try.func17, Try.ntmps17
 go_wp2_with fail
 rw [← HW0.out]
 refine wp_region_held_drew (S := fun w' => SD x y z aa l ca W.heap.size w0 w') (by kernel_rfl) (by with_reducible exact hS1) (fun hHeld => ?_)
 refine Rg.tk 1 ⟨some 12,.fieldAddr 27 (.tmp 1) 0,0,"ref.go:314",#[],none⟩ ?_
 try simp only [Rg.gp]
 refine Rg.tk 2 ⟨some 13,.load 5 (.tmp 12),5,"ref.go:314",#[⟨1,.data⟩],none⟩ ?_
 try simp only [Rg.gp]
 refine Rg.tk 3 ⟨some 14,.binOp BinOp.rem 5 (.tmp 13) (.const (Value.int IntKind.u8 6)) 5,5,"ref.go:314",#[⟨2,.data⟩],none⟩ ?_
 try simp only [Rg.gp]
 refine Rg.tk 6 ⟨some 17,.fieldAddr 27 (.tmp 1) 1,0,"ref.go:314",#[⟨11,.gcOnly Go.Departure.lateStores⟩],none⟩ ?_
 try simp only [Rg.gp]
 refine Rg.tk 7 ⟨some 18,.load 5 (.tmp 17),5,"ref.go:314",#[⟨6,.data⟩,⟨11,.gcOnly Go.Departure.lateStores⟩],none⟩ ?_
 try simp only [Rg.gp]
 refine Rg.tk 8 ⟨some 19,.binOp BinOp.rem 5 (.tmp 18) (.const (Value.int IntKind.u8 10)) 5,5,"ref.go:314",#[⟨7,.data⟩,⟨11,.gcOnly Go.Departure.lateStores⟩],none⟩ ?_
 try simp only [Rg.gp]
 refine Rg.tk 9 ⟨some 20,.convert 5 3 (.tmp 19),3,"ref.go:314",#[⟨8,.data⟩,⟨11,.gcOnly Go.Departure.lateStores⟩],none⟩ ?_
 try simp only [Rg.gp]
 refine Rg.tk 10 ⟨some 21,.binOp BinOp.add 3 (.const (Value.int IntKind.i64 1)) (.tmp 20) 3,3,"ref.go:314",#[⟨9,.data⟩,⟨11,.gcOnly Go.Departure.lateStores⟩],none⟩ ?_
 try simp only [Rg.gp]
 refine Rg.rd1 0 ⟨some 11,.buildSlice 39 6 #[(0, .const (Value.int IntKind.i64 2)), (1, .const (Value.int IntKind.i64 3)), (2, .const (Value.int IntKind.i64 4)), (3, .const (Value.int IntKind.i64 5)), (4, .const (Value.int IntKind.i64 7)), (5, .const (Value.int IntKind.i64 8))],39,"ref.go:314",#[],none⟩ fun K hK => ?_
 go_simp
 refine hK.out _ _ ?_ (fun hHeld => ?_)
 ·(try dsimp only)
  exact SD.go hHeld (show Below w0.heap.size w0.drew (w0.drew.alloc (.cells #[.int .i64 2, .int .i64 3, .int .i64 4, .int .i64 5, .int .i64 7, .int .i64 8] 3)) from (Below.refl w0.heap.size w0.drew).alloc (Nat.le_refl _) _)
 clear hK K
 try simp only [Rg.gp]
 refine Rg.tk 4 ⟨some 15,.indexAddr 39 (.tmp 11) (.tmp 14),0,"ref.go:314",#[⟨0,.data⟩,⟨3,.data⟩],none⟩ ?_
 try simp only [Rg.gp]
 refine Rg.rd1 5 ⟨some 16,.load 3 (.tmp 15),3,"ref.go:314",#[⟨4,.data⟩],none⟩ fun K hK => ?_
 have hq6 := HQ6.out
 go_simp
 refine hK.out _ _ ?_ (fun hHeld => ?_)
 ·(try dsimp only)
  exact hHeld
 clear hK K
 try simp only [Rg.gp]
 refine Rg.tk 11 ⟨some 3,.assign (.tmp 16),3,"ref.go:314",#[⟨5,.data⟩,⟨0,.phase⟩,⟨1,.phase⟩,⟨2,.phase⟩,⟨3,.phase⟩,⟨4,.phase⟩,⟨5,.phase⟩,⟨6,.textOnly Go.Departure.lateStores⟩,⟨7,.textOnly Go.Departure.lateStores⟩,⟨8,.textOnly Go.Departure.lateStores⟩,⟨9,.textOnly Go.Departure.lateStores⟩,⟨10,.textOnly Go.Departure.lateStores⟩],none⟩ ?_
 try simp only [Rg.gp]
 refine Rg.tk 12 ⟨some 4,.assign (.tmp 21),3,"ref.go:314",#[⟨10,.data⟩,⟨11,.chain⟩,⟨0,.phase⟩,⟨1,.phase⟩,⟨2,.phase⟩,⟨3,.phase⟩,⟨4,.phase⟩,⟨5,.phase⟩,⟨6,.phase⟩,⟨7,.phase⟩,⟨8,.phase⟩,⟨9,.phase⟩,⟨10,.phase⟩,⟨11,.phase⟩],none⟩ ?_
 try simp only [Rg.gp]
 refine wpAnyH_done (by kernel_rfl) ?_ _
 clear hS1
 obtain ⟨w2, hw2⟩ : ∃ w, w = (w0.alloc (.cells #[.int .i64 2, .int .i64 3, .int .i64 4, .int .i64 5, .int .i64 7, .int .i64 8] 3)).drew := ⟨_, rfl⟩
 rw [← hw2] at hHeld ⊢
 have HB2 : Hid (Below w0.heap.size w0 w2) := Lib.hid hHeld.2.out.1
 obtain ⟨w3, hw3⟩ : ∃ w, w = (w2.alloc (.cells #[.int .i64 8, .int .i64 5, .int .i64 4, .int .i64 3, .int .i64 2, .int .i64 2] 3)) := ⟨_, rfl⟩
 have HB23 : Hid (Below w2.heap.size w2 w3) := Lib.hid (by rw [hw3]; exact (Below.refl _ _).alloc (Nat.le_refl _) _)
 have HB3 : Hid (Below w0.heap.size w0 w3) := Lib.hid (HB2.out.trans (HB23.out.mono HB2.out.size))
 obtain ⟨⟨c0, c1, c2, c3⟩, -⟩ := SD.go hHeld (HB23.out.mono HB2.out.size)
 have hm6 : w3.cell? ⟨w2.heap.size, x6, none⟩ = some (.int .i64 (ms : Nat)) := by
  rw [hw3]
  refine (World.cell?_alloc_at _ _ _ _ rfl).trans ?_
  rw [← hms.out]
  match x6, hx6b with
  | 0, _ | 1, _ | 2, _ | 3, _ | 4, _ | 5, _ => rfl
 have HW3 := Lib.hid hw3
 obtain ⟨w4, hw4⟩ : ∃ w, w = w3.alloc (.cells #[] 39) := ⟨_, rfl⟩
 have hs3 : w3.heap.size = w2.heap.size + 1 := by rw [hw3]; simp
 have HO4 : Hid (OL [] [] w0.heap.size w4 (.slice (some ⟨w2.heap.size + 1, 0, none⟩) 0 0)) := Lib.hid (by
  have h := OL.nil w0.heap.size w3 HB3.out.size
  rw [hs3] at h
  rw [hw4]; exact h)
 have HB4 : Hid (Below w0.heap.size w0 w4) := Lib.hid (by rw [hw4]; exact HB3.out.alloc HB3.out.size _)
 have HG4 : Hid (w0.heap.size ≤ w2.heap.size + 1) := Lib.hid (Nat.le_succ_of_le HB2.out.size)
 have HW4 := Lib.hid hw4
 rw [hw3] at c0 c1 c2 c3 hm6
 clear hw2 hw3 hw4 hHeld hq6 hs3
 go_wp2
 rw [← HW3.out, ← HW4.out]
 clear c0 c1 c2 c3 hm6 HW3 HW4 hx6i hxt hyt hzw hzt hnw hn'
 go_loopw [7, 8] (fun v i wr => ∃ (k : Nat) (D : List (List Nat)) (us : List Value) (g cg : Nat), k ≤ kk ∧ v = .slice (some ⟨g, 0, none⟩) k cg ∧ i = .int .i64 (k : Nat) ∧ Hid (D.length = k) ∧ Hid (Mn F n D) ∧ Hid (w0.heap.size ≤ g) ∧ Hid (OL D us w0.heap.size wr (.slice (some ⟨g, 0, none⟩) k cg)) ∧ Hid (Below w0.heap.size w0 wr)) (fun _ i _ => kk - (intOf i).toNat)
 case atStart => exact ⟨0, [], [], w2.heap.size + 1, 0, Nat.zero_le _, rfl, rfl, rfl, Lib.hid (fun r hr => by cases hr), HG4, HO4, HB4⟩
 case round =>
  obtain ⟨k, D, us, g, cg, hk, rfl, rfl, HDL, HMD, HGG, KO, KB⟩ := hrel
  by_cases hlt : k < kk
  ·have HZ : Hid (Calls Try.prog 39 #[.int .i64 (n : Nat)] wr (RPost (List.replicate n 0) wr)) := Lib.hid (rzero0_c (by omega))
   obtain ⟨wq, hwq⟩ : ∃ w, w = wr := ⟨_, rfl⟩
   subst hwq
   go_wp2_with fail
   with_reducible refine HZ.out.mono ?_
   rintro e w5 ⟨gr, hgr, rfl, hrow, hb5⟩
   rw [List.length_replicate]
   have HGQ := Lib.hid hgr
   have HGR : Hid (w0.heap.size ≤ gr) := Lib.hid (Nat.le_trans KB.out.size hgr)
   have HR5 := Lib.hid hrow
   have HB5 := Lib.hid hb5
   have HRV5 : Hid (Vn F n (List.replicate n 0)) := Lib.hid (rep_vn HFF.out n)
   clear hgr hrow hb5 HZ
   go_wp2
   go_loopw [10] (fun i wr => ∃ (j : Nat) (R : List Nat), j ≤ n ∧ i = .int .i64 (j : Nat) ∧ Hid (Vn F n R) ∧ Hid (Row R gr wr) ∧ Hid (Below wq.heap.size wq wr)) (fun i _ => n - (intOf i).toNat)
   case atStart => exact ⟨0, _, Nat.zero_le _, rfl, HRV5, HR5, HB5⟩
   case round =>
    obtain ⟨j, R, hj, rfl, HRV, HROW, KB2⟩ := hrel
    have HKB : Hid (Below w0.heap.size w0 wr) := Lib.hid (KB.out.trans (KB2.out.mono KB.out.size))
    by_cases hjn : j < n
    ·have hbx := HX.out.below HKB.out
     by_cases hl0 : 0 < l
     ·obtain ⟨kn, hkn⟩ : ∃ kn, Hid (k * n = kn) := ⟨_, Lib.hid rfl⟩
      have hkni : (k : Int) * (n : Int) = (kn : Int) := by rw [← hkn.out]; exact (Int.natCast_mul k n).symm
      have hknb : kn ≤ 80 := by
       rw [← hkn.out]
       exact Nat.le_trans (Nat.mul_le_mul (show k ≤ 8 by omega) hn10.2) (by decide)
      obtain ⟨t, ht⟩ : ∃ t, Hid ((kn + j) % l = t) := ⟨_, Lib.hid rfl⟩
      have htl : t < l := by rw [← ht.out]; exact Nat.mod_lt _ hl0
      have hti : ((kn : Int) + (j : Int)).tmod (l : Int) = (t : Int) := by rw [← ht.out]; exact_mod_cast (Int.ofNat_tmod (kn + j) l).symm
      have htli : (t : Int) < (l : Int) := by omega
      have hlz : ((l : Int) == 0) = false := by simp; omega
      have hlz2 : ¬ (l : Int) = 0 := by omega
      have hl0i : (0 : Int) < (l : Int) := by omega
      have hkj : IntKind.i64.wrap (IntKind.i64.wrap (kn : Int) + (j : Int)) = (kn : Int) + (j : Int) := by
       have h1 : IntKind.i64.wrap (kn : Int) = (kn : Int) := Go.IntWalk.i64_in _ (by omega)
       rw [h1]; exact Go.IntWalk.i64_in _ (by omega)
      have hlz3 : ¬ l = 0 := by omega
      obtain ⟨bl, ol, bb, hae, hbl, hbb, hcb⟩ := HNA.out.at htl
      subst hae
      have HBLT := Lib.hid hbl
      obtain ⟨rb, hrb⟩ : ∃ r, Hid (bb % q = r) := ⟨_, Lib.hid rfl⟩
      have hrbq : rb < q := by rw [← hrb.out]; exact Nat.mod_lt _ (by omega)
      have hrbi : (bb : Int).tmod (q : Int) = (rb : Int) := by rw [← hrb.out]; exact (Int.ofNat_tmod bb q).symm
      have hqz : ((q : Int) == 0) = false := by simp; omega
      have hqz2 : ¬ (q : Int) = 0 := by omega
      have hqz3 : ¬ q = 0 := by omega
      have hbw : IntKind.i64.wrap (bb : Int) = (bb : Int) := Go.IntWalk.i64_in _ (by omega)
      have c3 := hbx.cell (i := 3) rfl
      have hS13 : SD x y z (some ⟨bl, ol, none⟩) l ca W.heap.size w0 wr.drew ∧ wr.drew.cell? ⟨bl, ol + t, none⟩ = some (.int .u8 (bb : Nat)) := ⟨⟨⟨hbx.cell rfl, hbx.cell rfl, hbx.cell rfl, hbx.cell rfl⟩, Lib.hid ⟨HKB.out.trans (Below.refl _ _).drew, HX.out.lt⟩⟩, (HKB.out.cell (p := ⟨bl, ol + t, none⟩) hbl).trans hcb⟩
      clear hbx hbl hcb
      go_wp2_with fail
      refine wp_region_held_drew (S := fun w' => SD x y z (some ⟨bl, ol, none⟩) l ca W.heap.size w0 w' ∧ w'.cell? ⟨bl, ol + t, none⟩ = some (.int .u8 (bb : Nat))) (by kernel_rfl) (by with_reducible exact hS13) (fun hHeld => ?_)
      refine Rg.tk 0 ⟨some 51,.move (.tmp 9),39,"ref.go:322",#[],none⟩ ?_
      try simp only [Rg.gp]
      refine Rg.tk 1 ⟨some 52,.move (.tmp 10),3,"ref.go:322",#[],none⟩ ?_
      try simp only [Rg.gp]
      refine Rg.tk 2 ⟨some 53,.fieldAddr 27 (.tmp 1) 3,0,"ref.go:322",#[],none⟩ ?_
      try simp only [Rg.gp]
      refine Rg.tk 3 ⟨some 54,.load 25 (.tmp 53),25,"ref.go:322",#[⟨2,.data⟩],none⟩ ?_
      try simp only [Rg.gp]
      refine Rg.tk 4 ⟨some 55,.move (.tmp 8),3,"ref.go:322",#[],none⟩ ?_
      try simp only [Rg.gp]
      refine Rg.tk 5 ⟨some 56,.move (.tmp 4),3,"ref.go:322",#[],none⟩ ?_
      try simp only [Rg.gp]
      refine Rg.tk 6 ⟨some 57,.binOp BinOp.mul 3 (.tmp 55) (.tmp 56) 3,3,"ref.go:322",#[⟨4,.data⟩,⟨5,.data⟩],none⟩ ?_
      try simp only [Rg.gp]
      refine Rg.tk 7 ⟨some 58,.move (.tmp 10),3,"ref.go:322",#[],none⟩ ?_
      try simp only [Rg.gp]
      refine Rg.tk 8 ⟨some 59,.binOp BinOp.add 3 (.tmp 57) (.tmp 58) 3,3,"ref.go:322",#[⟨6,.data⟩,⟨7,.data⟩],none⟩ ?_
      try simp only [Rg.gp]
      refine Rg.tk 9 ⟨some 60,.fieldAddr 27 (.tmp 1) 3,0,"ref.go:322",#[],none⟩ ?_
      try simp only [Rg.gp]
      refine Rg.tk 10 ⟨some 61,.load 25 (.tmp 60),25,"ref.go:322",#[⟨9,.data⟩],none⟩ ?_
      try simp only [Rg.gp]
      refine Rg.tk 11 ⟨some 62,.call ⟨.builtin Builtin.len,#[.tmp 61],#[25]⟩,3,"ref.go:322",#[⟨10,.data⟩],none⟩ ?_
      try simp only [Rg.gp]
      refine Rg.tk 12 ⟨some 63,.binOp BinOp.rem 3 (.tmp 59) (.tmp 62) 3,3,"ref.go:322",#[⟨8,.data⟩,⟨11,.data⟩],none⟩ ?_
      try simp only [Rg.gp]
      refine Rg.tk 13 ⟨some 64,.indexAddr 25 (.tmp 54) (.tmp 63),0,"ref.go:322",#[⟨3,.data⟩,⟨12,.data⟩],none⟩ ?_
      try simp only [Rg.gp]
      refine Rg.tk 14 ⟨some 65,.load 5 (.tmp 64),5,"ref.go:322",#[⟨13,.data⟩],none⟩ ?_
      try simp only [Rg.gp]
      refine Rg.tk 15 ⟨some 66,.convert 5 3 (.tmp 65),3,"ref.go:322",#[⟨14,.data⟩],none⟩ ?_
      try simp only [Rg.gp]
      refine Rg.tk 16 ⟨some 67,.move (.tmp 3),3,"ref.go:322",#[],none⟩ ?_
      try simp only [Rg.gp]
      refine Rg.tk 17 ⟨some 68,.binOp BinOp.rem 3 (.tmp 66) (.tmp 67) 3,3,"ref.go:322",#[⟨15,.data⟩,⟨16,.data⟩],none⟩ ?_
      try simp only [Rg.gp]
      refine Rg.tk 18 ⟨some 69,.indexAddr 39 (.tmp 51) (.tmp 52),0,"ref.go:322",#[⟨0,.data⟩,⟨1,.data⟩,⟨0,.phase⟩,⟨1,.phase⟩,⟨2,.phase⟩,⟨3,.phase⟩,⟨4,.phase⟩,⟨5,.phase⟩,⟨6,.phase⟩,⟨7,.phase⟩,⟨8,.phase⟩,⟨9,.phase⟩,⟨10,.phase⟩,⟨11,.phase⟩,⟨12,.phase⟩,⟨13,.phase⟩,⟨14,.phase⟩,⟨15,.phase⟩,⟨16,.phase⟩,⟨17,.phase⟩],none⟩ ?_
      try simp only [Rg.gp]
      refine Rg.rd1 19 ⟨none,.store 3 (.tmp 69) (.tmp 68),0,"ref.go:322",#[⟨18,.data⟩,⟨17,.data⟩,⟨0,.phase⟩,⟨1,.phase⟩,⟨2,.phase⟩,⟨3,.phase⟩,⟨4,.phase⟩,⟨5,.phase⟩,⟨6,.phase⟩,⟨7,.phase⟩,⟨8,.phase⟩,⟨9,.phase⟩,⟨10,.phase⟩,⟨11,.phase⟩,⟨12,.phase⟩,⟨13,.phase⟩,⟨14,.phase⟩,⟨15,.phase⟩,⟨16,.phase⟩,⟨17,.phase⟩],none⟩ fun K hK => ?_
      have hff := HROW.out.frozen j
      have hcc := HROW.out.cell (t := j) (by rw [HRV.out.len]; exact hjn)
      go_simp
      refine hK.out _ _ ?_ (fun hHeld => ?_)
      ·(try dsimp only)
       exact ⟨SD.go hHeld.1 ((Below.refl _ _).setCell (p := ⟨gr, j, none⟩) (by exact HGR.out) _), (((Below.refl w0.heap.size _).setCell (p := ⟨gr, j, none⟩) (by exact HGR.out) _).cell (p := ⟨bl, ol + t, none⟩) HBLT.out).trans hHeld.2⟩
      clear hK K
      try simp only [Rg.gp]
      refine wpAnyH_done (by kernel_rfl) ?_ _
      clear hHeld hS13
      have HROW2 : Hid (Row (R.set j rb) gr (wr.drew.setCell ⟨gr, j, none⟩ (.int .i64 (rb : Nat)))) := Lib.hid (HROW.out.drew.set j rb)
      have HRV2 : Hid (Vn F n (R.set j rb)) := Lib.hid ⟨by rw [List.length_set, HRV.out.len], set_lt HRV.out.el (by rw [HFQ.out]; exact hrbq)⟩
      have HB9 : Hid (Below wq.heap.size wq (wr.drew.setCell ⟨gr, j, none⟩ (.int .i64 (rb : Nat)))) := Lib.hid ((KB2.out.trans (Below.refl _ _).drew).setCell (p := ⟨gr, j, none⟩) (by exact HGQ.out) _)
      go_wp2
      go_roundw
      case rel => exact ⟨j + 1, _, by omega, by go_num, HRV2, HROW2, HB9⟩
      case measure => simp [intOf]; omega
     ·have hl0e : l = 0 := by omega
      have hl0i : ¬ (0 : Int) < (l : Int) := by omega
      have c3 := hbx.cell (i := 3) rfl
      clear hbx hl0e
      go_wp2
      go_roundw
      case rel => exact ⟨j + 1, R, by omega, by go_num, HRV, HROW, KB2⟩
      case measure => simp [intOf]; omega
    ·have hjn1 : ¬ (j : Int) < (n : Int) := by omega
     have hk10 : k ≤ 8 := by omega
     by_cases hkn : k < n
     ·have hkni : (k : Int) < (n : Int) := by omega
      have hcc := HROW.out.cell (t := k) (by rw [HRV.out.len]; exact hkn)
      have hff := HROW.out.frozen k
      obtain ⟨w7, hw7⟩ : ∃ w, w = wr.setCell ⟨gr, k, none⟩ (.int .i64 1) := ⟨_, rfl⟩
      have HW7 := Lib.hid hw7
      have HROW7 : Hid (Row (R.set k 1) gr w7) := Lib.hid (by rw [hw7]; exact HROW.out.set k 1)
      have HRV7 : Hid (Vn F n (R.set k 1)) := Lib.hid ⟨by rw [List.length_set, HRV.out.len], set_lt HRV.out.el (by rw [HFQ.out]; omega)⟩
      have HB7 : Hid (Below wq.heap.size wq w7) := Lib.hid (by rw [hw7]; exact KB2.out.setCell (p := ⟨gr, k, none⟩) (by exact HGQ.out) _)
      clear hw7
      go_upto_region 16 with fail
      rw [← HW7.out]
      have HO6 := Lib.hid (KO.out.below HB7.out)
      go_wp2_with (at_builtin; refine wpList_append_own _ rfl _ _ 22 rfl w0.heap.size 39 j0 (.slice none 0 0) 1 24 Try.underlying22 ji jz0 jz1 jz2 rfl (by decide) (.slice (some ⟨g, 0, none⟩) k cg) k us rfl (by have := HO6.out.own.alloc (.cells #[.slice (some ⟨gr, 0, none⟩) n n] 39); rw [HDL.out] at this; exact this) ⟨(World.heap w7).size, 0, none⟩ 1 1 [.slice (some ⟨gr, 0, none⟩) n n] rfl rfl (cell_one_new w7 _ _) (fun u hu => by simp at hu; subst hu; rfl) ?d3 ?d4 ?d5 ?_)
      case d3 => unfold maxLen; omega
      case d4 => omega
      case d5 => have h1 := KB.out.size; have h2 := HB7.out.size; simp at h2 ⊢; omega
      intro v' w9 hown' hgrow hnil
      have hal2 : Below (World.heap w7).size w7 (World.alloc w7 (.cells #[.slice (some ⟨gr, 0, none⟩) n n] 39)) := (Below.refl _ _).alloc (Nat.le_refl _) _
      have HO9 : Hid (OL (D ++ [R.set k 1]) (us ++ [.slice (some ⟨gr, 0, none⟩) n n]) w0.heap.size w9 v') := Lib.hid (by
       refine OL.push (HO6.out.below hal2) ?_ (by rw [HDL.out]) hown' hgrow
       have := HROW7.out.below hal2
       unfold Row at this
       rw [HRV7.out.len] at this ⊢
       exact this)
      have hsz : w0.heap.size ≤ (World.heap w7).size := Nat.le_trans KB.out.size HB7.out.size
      have HB9 : Hid (Below w0.heap.size w0 w9) := Lib.hid (((KB.out.trans (HB7.out.mono KB.out.size)).trans (hal2.mono hsz)).trans (OL.grown (m := 0) (xs := []) (HO6.out.below hal2) (Nat.le_trans hsz hal2.size) hgrow))
      have HDL9 : Hid ((D ++ [R.set k 1]).length = k + 1) := Lib.hid (by rw [List.length_append, HDL.out]; rfl)
      have HMD9 : Hid (Mn F n (D ++ [R.set k 1])) := Lib.hid (fun r hr => by
       rcases List.mem_append.1 hr with h | h
       ·exact HMD.out r h
       ·rw [List.mem_singleton] at h; rw [h]; exact HRV7.out)
      obtain ⟨g9, c9, hv9, hg9, -⟩ := HO9.out.sl (i := 0) (by rw [HDL9.out]; omega)
      rw [HDL9.out] at hv9
      subst hv9
      have HG9 := Lib.hid hg9
      clear hown' hgrow hnil hal2 hg9 hsz
      go_wp2
      go_roundw
      case rel => exact ⟨k + 1, _, _, g9, c9, by omega, rfl, by go_num, HDL9, HMD9, HG9, HO9, HB9⟩
      case measure => simp [intOf]; omega
     ·have hkni : ¬ (k : Int) < (n : Int) := by omega
      have HO6 := Lib.hid (KO.out.below KB2.out)
      go_wp2_with (at_builtin; refine wpList_append_own _ rfl _ _ 22 rfl w0.heap.size 39 j0 (.slice none 0 0) 1 24 Try.underlying22 ji jz0 jz1 jz2 rfl (by decide) (.slice (some ⟨g, 0, none⟩) k cg) k us rfl (by have := HO6.out.own.alloc (.cells #[.slice (some ⟨gr, 0, none⟩) n n] 39); rw [HDL.out] at this; exact this) ⟨(World.heap wr).size, 0, none⟩ 1 1 [.slice (some ⟨gr, 0, none⟩) n n] rfl rfl (cell_one_new wr _ _) (fun u hu => by simp at hu; subst hu; rfl) ?d3 ?d4 ?d5 ?_)
      case d3 => unfold maxLen; omega
      case d4 => omega
      case d5 => have h1 := KB.out.size; have h2 := KB2.out.size; simp at h2 ⊢; omega
      intro v' w9 hown' hgrow hnil
      have hal2 : Below (World.heap wr).size wr (World.alloc wr (.cells #[.slice (some ⟨gr, 0, none⟩) n n] 39)) := (Below.refl _ _).alloc (Nat.le_refl _) _
      have HO9 : Hid (OL (D ++ [R]) (us ++ [.slice (some ⟨gr, 0, none⟩) n n]) w0.heap.size w9 v') := Lib.hid (by
       refine OL.push (HO6.out.below hal2) ?_ (by rw [HDL.out]) hown' hgrow
       have := HROW.out.below hal2
       unfold Row at this
       rw [HRV.out.len] at this ⊢
       exact this)
      have hsz : w0.heap.size ≤ (World.heap wr).size := Nat.le_trans KB.out.size KB2.out.size
      have HB9 : Hid (Below w0.heap.size w0 w9) := Lib.hid (((KB.out.trans (KB2.out.mono KB.out.size)).trans (hal2.mono hsz)).trans (OL.grown (m := 0) (xs := []) (HO6.out.below hal2) (Nat.le_trans hsz hal2.size) hgrow))
      have HDL9 : Hid ((D ++ [R]).length = k + 1) := Lib.hid (by rw [List.length_append, HDL.out]; rfl)
      have HMD9 : Hid (Mn F n (D ++ [R])) := Lib.hid (fun r hr => by
       rcases List.mem_append.1 hr with h | h
       ·exact HMD.out r h
       ·rw [List.mem_singleton] at h; rw [h]; exact HRV.out)
      obtain ⟨g9, c9, hv9, hg9, -⟩ := HO9.out.sl (i := 0) (by rw [HDL9.out]; omega)
      rw [HDL9.out] at hv9
      subst hv9
      have HG9 := Lib.hid hg9
      clear hown' hgrow hnil hal2 hg9 hsz
      go_wp2
      go_roundw
      case rel => exact ⟨k + 1, _, _, g9, c9, by omega, rfl, by go_num, HDL9, HMD9, HG9, HO9, HB9⟩
      case measure => simp [intOf]; omega
  ·have hke : k = kk := by omega
   have HDK : Hid (D.length = kk) := Lib.hid (by rw [HDL.out]; exact hke)
   have hki : ¬ (k : Int) < (kk : Int) := by omega
   have HOV : Hid (Calls Try.prog 38 #[.int .i64 (q : Nat)] wr fun e w' => ∃ b cap, e = .returned (FV F b cap) ∧ FldAt F b cap w' ∧ Below wr.heap.size wr w' ∧ wr.heap.size ≤ b) := Lib.hid (by rw [← HFQ.out]; exact rover_c HFM.out)
   clear hke
   go_wp2_with fail
   with_reducible refine HOV.out.mono ?_
   rintro e w5 ⟨b, cap, rfl, hfa, hb5, hbl⟩
   have HB5 : Hid (Below w0.heap.size w0 w5) := Lib.hid (KB.out.trans (hb5.mono KB.out.size))
   have HRD : Hid (Calls Try.prog 53 #[FV F b cap, .int .i64 (n : Nat), .slice (some ⟨g, 0, none⟩) k cg] w5 (RDP F n D w5)) := Lib.hid (rreduce_c hfa hn10.1 (by omega) (by omega) HMD.out HDL.out (KO.out.below hb5).mm)
   clear hfa hb5 hbl HOV
   obtain ⟨m, hm⟩ : ∃ m, Hid ((redM F n D).length = m) := ⟨_, Lib.hid rfl⟩
   go_wp2_with fail
   with_reducible refine HRD.out.mono ?_
   rintro e w6 ⟨g6, l6, c6, E, us6, rfl, ho6, he6, ht6, hl6, hb6⟩
   rw [hm.out] at ht6 hl6 ⊢
   obtain ⟨a6, ha6⟩ : ∃ a, a = some (⟨g6, 0, none⟩ : Addr) := ⟨_, rfl⟩
   have HE6 := Lib.hid (And.intro ho6 (And.intro he6 (And.intro ht6 hl6)))
   have HA6 := Lib.hid ha6
   rw [← ha6]
   have HB6 : Hid (Below w0.heap.size w0 w6) := Lib.hid (HB5.out.trans (hb6.mono HB5.out.size))
   have HR6 := Lib.hid (HR.out.below HB6.out)
   have HML : Hid (m ≤ kk) := Lib.hid (by
    rw [← hm.out, redM_len]
    have := (redL_ok HFF.out (Mn.vs HFF.out HMD.out)).2.2
    rw [List.length_map, HDK.out] at this; exact this)
   have r0 := HR6.out.cell (i := 0) rfl
   have g0 := HR6.out.fz 0
   have r1 := HR6.out.cell (i := 1) rfl
   have g1 := HR6.out.fz 1
   have r2 := HR6.out.cell (i := 2) rfl
   have g2 := HR6.out.fz 2
   have HFX : Hid (∀ w', w' = (((w6.setCell ⟨W.heap.size + 1, 0, none⟩ (.int .i64 (q : Nat))).setCell ⟨W.heap.size + 1, 1, none⟩ (.int .i64 (n : Nat))).setCell ⟨W.heap.size + 1, 2, none⟩ (.slice a6 m c6)) → w'.cell? ⟨W.heap.size + 1, 0, none⟩ = some (.int .i64 (q : Nat)) ∧ w'.cell? ⟨W.heap.size + 1, 1, none⟩ = some (.int .i64 (n : Nat)) ∧ w'.cell? ⟨W.heap.size + 1, 2, none⟩ = some (.slice a6 m c6) ∧ MM (redM F n D) w' (.slice a6 m c6) ∧ Below W.heap.size W w') := Lib.hid (by
    intro w' hw
    have hB := HR6.out.set3 (.int .i64 (q : Nat)) (.int .i64 (n : Nat)) (.slice a6 m c6)
    have hX : Bx (fun k => k = W.heap.size + 1) w6 (((w6.setCell ⟨W.heap.size + 1, 0, none⟩ (.int .i64 (q : Nat))).setCell ⟨W.heap.size + 1, 1, none⟩ (.int .i64 (n : Nat))).setCell ⟨W.heap.size + 1, 2, none⟩ (.slice a6 m c6)) := bx3 _ _ _
    rw [← hw] at hB hX
    exact ⟨hB.cell rfl, hB.cell rfl, hB.cell rfl, (by
     obtain ⟨h1, h2, h3, h4⟩ := HE6.out
     have h5 := (OL.bc h1 HR6.out (by decide) (by decide) hX).mm
     rw [HA6.out, ← h3]
     exact MM.take h5 h2 h4), HB0.out.trans ((HB6.out.mono HB0.out.size).trans (hX.below (Nat.le_trans HB0.out.size HB6.out.size) fun k hk => by omega))⟩)
   clear ha6 ho6 he6 ht6 hl6 hb6 HRD
   go_wp2
   obtain ⟨d0, d1, d2, hmz, hbz⟩ := HFX.out _ rfl
   exact bodyPost_ret (v := DV q n (.slice a6 m c6)) (by simp [results, Try.results17, go_sem, d0, d1, d2]) rfl ⟨F, n, m, redM F n D, redL F n (D.map Go.Fl.fn), a6, c6, by rw [HFQ.out], ⟨⟨HFM.out, by rw [HFQ.out]; omega, hn10.1, by omega, by have := HML.out; omega, hm.out, (redM_ok HFF.out HMD.out).1⟩, RM.of HFF.out HMD.out⟩, hn10.2, by rw [HFQ.out]; exact Nat.le_trans (Nat.pow_le_pow_right (by omega) (show m ≤ ms by have := HML.out; omega)) hqm, hmz, hbz⟩

end Go.Proofs.Ytdafhhojiioifaa
