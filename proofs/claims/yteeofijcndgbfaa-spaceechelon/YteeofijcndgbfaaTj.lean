/- Made of the reference: a problem out of what came in. -/
import Derived.Test.YteeofijcndgbfaaTh
namespace Go.Proofs.Yteeofijcndgbfaa
open Go.RowKit Go.Fl
set_option maxRecDepth 100000
set_option linter.unusedVariables false
set_option linter.unusedSimpArgs false
set_option linter.unusedSectionVars false
theorem heap_new (w : World) (o : Obj) : (w.alloc o).heap[w.heap.size]? = some o := heap_alloc_new w o
theorem heap_next (w : World) (o o' : Obj) : ((w.alloc o).alloc o').heap[w.heap.size + 1]? = some o' := by
 have t := heap_new (w.alloc o) o'
 have e : (w.alloc o).heap.size = w.heap.size + 1 := by simp
 rw [e] at t; exact t
theorem OL.bx {D : List (List Nat)} {us : List Value} {base B ty : Nat} {cur : Array Value} {w w' : World} {v : Value} (h : OL D us base w v) (hb : Bx (fun j => j = B) w w') (hB : w.heap[B]? = some (.cells cur ty (0, 0))) (h3 : ty ≠ 3) (h27 : ty ≠ 27) : OL D us base w' v := by
 have key : ∀ {b0 e s m : Nat} {u : Value} {xs : List Value}, w.ownsRow b0 e s u m xs → ty ≠ e → ∀ k, u.ownBlock = some k → ¬ k = B := by
  intro b0 e s m u xs h1 hne k hk hkB
  subst hkB
  rcases h1.2 with ⟨rfl, _⟩ | ⟨g, cap, cu, rfl, _, g3, _⟩
  ·cases hk
  ·injection hk with hk
   have hk' : g = k := hk
   subst hk'
   rw [hB] at g3
   injection g3 with g3
   injection g3 with _ g3 _
   exact hne g3
 exact ⟨own_bx2 h.own hb (key h.own h27), fun i hi => own_bx2 (h.row i hi) hb (key (h.row i hi) h3)⟩
/-- a problem: a field, a width, rows -/
def MadeP (x y z : Nat) (W : World) (e : Ending) (w' : World) : Prop := ∃ b cap R us a c, e = .returned (MV (fdB x) b cap (1 + y % 8) (.slice a (z % 7) c)) ∧ FldAt (fdB x) b cap w' ∧ Mn (fdB x) (1 + y % 8) R ∧ R.length = z % 7 ∧ OL R us W.heap.size w' (.slice a (z % 7) c) ∧ Below W.heap.size W w'
/-- what holds while a problem is made -/
abbrev SR (F : Gf) (b cap B z l R : Nat) (aa : Option Addr) (ca D : Nat) (w1 : World) (w : World) : Prop := FBx B F b cap w ∧ w.cell? ⟨D, 2, none⟩ = some (.int .u8 (z : Nat)) ∧ w.cell? ⟨D, 3, none⟩ = some (.slice aa l ca) ∧ Hid (FldAt F b cap w ∧ Bx (fun j => j = R) w1 w ∧ B < w.heap.size ∧ D < w.heap.size ∧ B ≠ R ∧ D ≠ R ∧ b ≠ R)
theorem SR.bx {F : Gf} {b cap B z l R : Nat} {aa : Option Addr} {ca D : Nat} {w1 w w' : World} (h : SR F b cap B z l R aa ca D w1 w) (hb : Bx (fun j => j = R) w w') : SR F b cap B z l R aa ca D w1 w' := by
 obtain ⟨h1, h2, h3, h4⟩ := h
 obtain ⟨k1, k2, k3, k4, k5, k6, k7⟩ := h4.out
 exact ⟨⟨(hb.cell k3 k5).trans h1.1, (hb.cell k3 k5).trans h1.2.1, (hb.cell k3 k5).trans h1.2.2⟩, (hb.cell k4 k6).trans h2, (hb.cell k4 k6).trans h3, Lib.hid ⟨k1.bx hb k7, k2.trans hb, Nat.lt_of_lt_of_le k3 hb.size, Nat.lt_of_lt_of_le k4 hb.size, k5, k6, k7⟩⟩
theorem SR.keep {F : Gf} {b cap B z l R : Nat} {aa : Option Addr} {ca D : Nat} {w1 w w' : World} (h : SR F b cap B z l R aa ca D w1 w) (hb : Below w.heap.size w w') : SR F b cap B z l R aa ca D w1 w' :=
 h.bx ⟨hb.os, hb.tape, hb.output, hb.size, fun k hk _ => hb.block k hk⟩
set_option maxHeartbeats 6400000 in
theorem made_c {x y z l ca : Nat} {aa : Option Addr} {W : World} (hx : x ≤ 255) (hy : y ≤ 255) (hz : z ≤ 255) (hl : l ≤ maxLen) (na : N16 l W (.slice aa l ca)) :
  Calls Try.prog 10 #[.agg #[.int .u8 (x : Nat), .int .u8 (y : Nat), .int .u8 (z : Nat), .slice aa l ca]] W (MadeP x y z W) := by
 obtain ⟨w0, hw0⟩ : ∃ w0, w0 = ((W.alloc (.cells #[.int .u8 (x : Nat), .int .u8 (y : Nat), .int .u8 (z : Nat), .slice aa l ca] 24)).alloc (.cells #[.int .i64 0, .int .i64 0, .slice none 0 0, .int .i64 0, .slice none 0 0] 32)) := ⟨_, rfl⟩
 have HAL : Hid (Below W.heap.size W w0) := Lib.hid (by rw [hw0]; exact ((Below.refl _ _).alloc (Nat.le_refl _) _).alloc (by simp) _)
 have HS0 : Hid (w0.heap.size = W.heap.size + 2) := Lib.hid (by rw [hw0]; simp)
 have hd : w0.cell? ⟨W.heap.size, 0, none⟩ = some (.int .u8 (x : Nat)) ∧ w0.cell? ⟨W.heap.size, 1, none⟩ = some (.int .u8 (y : Nat)) ∧ w0.cell? ⟨W.heap.size, 2, none⟩ = some (.int .u8 (z : Nat)) ∧ w0.cell? ⟨W.heap.size, 3, none⟩ = some (.slice aa l ca) := by
  rw [hw0]; exact ⟨(World.cell?_alloc_lt _ _ _ (by simp)).trans (World.cell?_alloc_at _ _ _ _ rfl), (World.cell?_alloc_lt _ _ _ (by simp)).trans (World.cell?_alloc_at _ _ _ _ rfl), (World.cell?_alloc_lt _ _ _ (by simp)).trans (World.cell?_alloc_at _ _ _ _ rfl), (World.cell?_alloc_lt _ _ _ (by simp)).trans (World.cell?_alloc_at _ _ _ _ rfl)⟩
 have HRZ : Hid (RZ (W.heap.size + 1) w0 ∧ ∃ cur, w0.heap[W.heap.size + 1]? = some (.cells cur 32 (0, 0))) := Lib.hid (by
  rw [hw0]
  refine ⟨⟨⟨World.cell?_alloc_at _ _ _ _ (by simp), World.cell?_alloc_at _ _ _ _ (by simp), World.cell?_alloc_at _ _ _ _ (by simp), World.cell?_alloc_at _ _ _ _ (by simp), World.cell?_alloc_at _ _ _ _ (by simp)⟩, fun t => World.frozen?_alloc_at _ _ _ _ (by simp), by simp⟩, #[.int .i64 0, .int .i64 0, .slice none 0 0, .int .i64 0, .slice none 0 0], heap_next _ _ _⟩)
 have HNA := Lib.hid (na.below HAL.out)
 have HFC : Hid (Calls Try.prog 47 #[.int .u8 (x : Nat)] w0 fun e w' => ∃ b cap, e = .returned (FV (fdB x) b cap) ∧ FldAt (fdB x) b cap w' ∧ Below w0.heap.size w0 w' ∧ w0.heap.size ≤ b) := Lib.hid (field_o x hx w0)
 have HW0 := Lib.hid hw0
 obtain ⟨d0, d1, d2, d3⟩ := hd
 have HD := Lib.hid (And.intro d1 (And.intro d2 d3))
 clear na hw0 d1 d2 d3
 go_enter Try.func10, Try.ntmps10
 go_wp2_with fail
 rw [← HW0.out]
 clear HW0
 with_reducible refine HFC.out.mono ?_
 rintro e w3 ⟨b, cap, rfl, hf, hb3, hbl⟩
 obtain ⟨F, hF⟩ : ∃ F, Hid (fdB x = F) := ⟨_, Lib.hid rfl⟩
 obtain ⟨d1, d2, d3⟩ := HD.out
 rw [hF.out] at hf ⊢
 have hz0 : W.heap.size < w0.heap.size := by rw [HS0.out]; omega
 have HFW := Lib.hid hf
 have HB3 := Lib.hid hb3
 obtain ⟨w4, hw4⟩ : ∃ w, w = w3.alloc (.cells #[.int .i64 F.p, .int .i64 F.e, FM F b cap] 29) := ⟨_, rfl⟩
 have HB4 : Hid (Below w0.heap.size w0 w4) := Lib.hid (hb3.trans ((Below.refl _ _).alloc hb3.size _) |> fun h => by rw [hw4]; exact h)
 have HB34 : Hid (Below w3.heap.size w3 w4) := Lib.hid (by rw [hw4]; exact (Below.refl _ _).alloc (Nat.le_refl _) _)
 have HS4 : Hid (w3.heap.size < w4.heap.size) := Lib.hid (by rw [hw4]; simp)
 have HFB : Hid (FBx w3.heap.size F b cap w4) := Lib.hid (by rw [hw4]; exact FBx.new w3 F b cap)
 have g1 := (HB4.out.cell (p := ⟨W.heap.size, 1, none⟩) hz0).trans d1
 have g2 := (HB4.out.cell (p := ⟨W.heap.size, 2, none⟩) hz0).trans d2
 have g3 := (HB4.out.cell (p := ⟨W.heap.size, 3, none⟩) hz0).trans d3
 have HW4 := Lib.hid hw4
 obtain ⟨n, hn⟩ : ∃ n, Hid (1 + y % 8 = n) := ⟨_, Lib.hid rfl⟩
 obtain ⟨m, hm⟩ : ∃ n, Hid (z % 7 = n) := ⟨_, Lib.hid rfl⟩
 have hy8 : (1 : Int) + (y : Int) % 8 = (n : Int) := by have := hn.out; omega
 have hz7 : (z : Int) % 7 = (m : Int) := by have := hm.out; omega
 have hmz : (IntKind.i64.wrap (z : Int)).tmod 7 = (m : Int) := by
  rw [IntWalk.i64_in _ (by omega), ← hm.out]; exact (Int.ofNat_tmod z 7).symm
 have HMZ := Lib.hid hmz
 clear hmz
 have HN1 : Hid (1 ≤ n ∧ n ≤ 8 ∧ m ≤ 6) := Lib.hid (by have := hn.out; have := hm.out; omega)
 have HM : Hid (MadeP x y z W = fun e w' => ∃ b cap R us a c, e = .returned (MV F b cap n (.slice a m c)) ∧ FldAt F b cap w' ∧ Mn F n R ∧ R.length = m ∧ OL R us W.heap.size w' (.slice a m c) ∧ Below W.heap.size W w') := Lib.hid (by unfold MadeP; rw [hF.out, hn.out, hm.out])
 have HR4 : Hid (RZ (W.heap.size + 1) w4 ∧ ∃ cur, w4.heap[W.heap.size + 1]? = some (.cells cur 32 (0, 0))) := Lib.hid ⟨RZ.bx (S := fun _ => False) HRZ.out.1 ⟨HB4.out.os, HB4.out.tape, HB4.out.output, HB4.out.size, fun k hk _ => HB4.out.block k hk⟩ id, by
  obtain ⟨cur, hc⟩ := HRZ.out.2
  exact ⟨cur, (HB4.out.block _ (by rw [HS0.out]; omega)).trans hc⟩⟩
 have HN4 : Hid (N16 l w4.drew (.slice aa l ca)) := Lib.hid (HNA.out.below (HB4.out.trans (Below.refl _ _).drew))
 have hS0 : SR F b cap w3.heap.size z l (W.heap.size + 1) aa ca W.heap.size w4 w4.drew := ⟨HFB.out, g2, g3, Lib.hid ⟨(HFW.out.below HB34.out).bx (Bx.refl (fun _ => False) _).drew id, (Bx.refl _ _).drew, HS4.out, Nat.lt_of_lt_of_le hz0 HB4.out.size, by have := HB3.out.size; have := HS0.out; omega, by omega, by have := HS0.out; omega⟩⟩
 clear d1 d2 d3 hf hb3 hbl HFC hw4 g2 g3 HD
 go_upto_region 2 with fail
 rw [← HW4.out]
 clear HW4
 go_wp2_with fail
 refine wp_region_held_drew (S := fun w' => SR F b cap w3.heap.size z l (W.heap.size + 1) aa ca W.heap.size w4 w') (by kernel_rfl) (by with_reducible exact hS0) (fun hHeld => ?_)
 refine Rg.tk 0 ⟨some 13,.load 29 (.tmp 3),29,"ref.go:310",#[],none⟩ ?_
 try simp only [Rg.gp]
 refine Rg.tk 1 ⟨some 14,.move (.tmp 4),3,"ref.go:310",#[],none⟩ ?_
 try simp only [Rg.gp]
 refine Rg.tk 2 ⟨some 15,.load 29 (.tmp 3),29,"ref.go:310",#[],none⟩ ?_
 try simp only [Rg.gp]
 refine Rg.tk 3 ⟨some 16,.move (.tmp 4),3,"ref.go:310",#[],none⟩ ?_
 try simp only [Rg.gp]
 refine Rg.tk 4 ⟨some 17,.fieldAddr 24 (.tmp 1) 2,0,"ref.go:310",#[],none⟩ ?_
 try simp only [Rg.gp]
 refine Rg.tk 5 ⟨some 18,.load 5 (.tmp 17),5,"ref.go:310",#[⟨4,.data⟩],none⟩ ?_
 try simp only [Rg.gp]
 refine Rg.tk 6 ⟨some 19,.convert 5 3 (.tmp 18),3,"ref.go:310",#[⟨5,.data⟩],none⟩ ?_
 try simp only [Rg.gp]
 refine Rg.tk 7 ⟨some 20,.binOp BinOp.rem 3 (.tmp 19) (.const (Value.int IntKind.i64 7)) 3,3,"ref.go:310",#[⟨6,.data⟩],none⟩ ?_
 try simp only [Rg.gp]
 refine Rg.tk 8 ⟨some 21,.fieldAddr 24 (.tmp 1) 3,0,"ref.go:310",#[],none⟩ ?_
 try simp only [Rg.gp]
 refine Rg.tk 9 ⟨some 22,.load 22 (.tmp 21),22,"ref.go:310",#[⟨8,.data⟩],none⟩ ?_
 try simp only [Rg.gp]
 refine Rg.rd1 10 ⟨some 23,.call ⟨.value (.func 11),#[.tmp 15,.tmp 16,.tmp 20,.tmp 22],#[29,3,3,22]⟩,30,"ref.go:310",#[⟨2,.data⟩,⟨3,.data⟩,⟨7,.data⟩,⟨9,.data⟩],none⟩ fun K hK => ?_
 go_simp
 go_at_call 11
 rw [HMZ.out]
 with_reducible refine (rows_o hHeld.2.2.2.out.1 HN1.out.1 HN1.out.2.1 HN1.out.2.2 hl HN4.out).mono ?_
 rintro e w5 ⟨R, us, aR, cR, hmn, hrl, rfl, hol, hb5⟩
 refine hK.out _ _ ?_ (fun hHeld => ?_)
 ·(try dsimp only)
  exact SR.keep hHeld hb5
 clear hK K
 try simp only [Rg.gp]
 refine Rg.tk 11 ⟨some 24,.build 32 #[(0, .tmp 13), (1, .tmp 14), (2, .tmp 23)],32,"ref.go:310",#[⟨0,.data⟩,⟨1,.data⟩,⟨10,.data⟩],none⟩ ?_
 try simp only [Rg.gp]
 refine Rg.rd1 12 ⟨none,.store 32 (.tmp 2) (.tmp 24),0,"ref.go:310",#[⟨11,.data⟩,⟨10,.chain⟩,⟨0,.phase⟩,⟨1,.phase⟩,⟨2,.phase⟩,⟨3,.phase⟩,⟨4,.phase⟩,⟨5,.phase⟩,⟨6,.phase⟩,⟨7,.phase⟩,⟨8,.phase⟩,⟨9,.phase⟩,⟨10,.phase⟩,⟨11,.phase⟩],none⟩ fun K hK => ?_
 have HRZ6 : Hid (RZ (W.heap.size + 1) w5) := Lib.hid (RZ.bx (S := fun _ => False) (RZ.bx (S := fun _ => False) HR4.out.1 (Bx.refl _ _).drew id) (Bx.of hb5) id)
 have HOL : Hid (OL R us W.heap.size w5 (.slice aR m cR)) := Lib.hid (hol.weak (by have := HB4.out.size; have := HS0.out; show W.heap.size ≤ w4.heap.size; omega))
 have HCU : Hid (∃ cur, w5.heap[W.heap.size + 1]? = some (.cells cur 32 (0, 0))) := Lib.hid (by
  obtain ⟨cur, hc⟩ := HR4.out.2
  exact ⟨cur, (hb5.block _ (by have := HB4.out.size; have := HS0.out; show W.heap.size + 1 < w4.heap.size; omega)).trans hc⟩)
 obtain ⟨⟨r0, r1, r2, r3, r4⟩, rf, rl⟩ := HRZ6.out
 have g0 := rf 0
 have g1 := rf 1
 have g2 := rf 2
 have g3 := rf 3
 have g4 := rf 4
 have HS10 := Lib.hid hHeld
 clear rf rl hol
 go_simp
 refine hK.out _ _ ?_ (fun hHeld => ?_)
 ·(try dsimp only)
  exact SR.bx HS10.out (five_bx _ _ _ _ _)
 clear hK K
 try simp only [Rg.gp]
 refine wpAnyH_done (by kernel_rfl) ?_ _
 have HFIN : Hid (BX (W.heap.size + 1) F b cap n (.slice aR m cR) (((((w5.setCell ⟨W.heap.size + 1, 0, none⟩ (.int .i64 F.p)).setCell ⟨W.heap.size + 1, 1, none⟩ (.int .i64 F.e)).setCell ⟨W.heap.size + 1, 2, none⟩ (FM F b cap)).setCell ⟨W.heap.size + 1, 3, none⟩ (.int .i64 (n : Nat))).setCell ⟨W.heap.size + 1, 4, none⟩ (.slice aR m cR))) := Lib.hid (RZ.five HRZ6.out F b cap (k := n) (.slice aR m cR) rfl)
 have h5 : Bx (fun j => j = W.heap.size + 1) w5 (((((w5.setCell ⟨W.heap.size + 1, 0, none⟩ (.int .i64 F.p)).setCell ⟨W.heap.size + 1, 1, none⟩ (.int .i64 F.e)).setCell ⟨W.heap.size + 1, 2, none⟩ (FM F b cap)).setCell ⟨W.heap.size + 1, 3, none⟩ (.int .i64 (n : Nat))).setCell ⟨W.heap.size + 1, 4, none⟩ (.slice aR m cR)) := five_bx _ _ _ _ _
 have HOLF := Lib.hid (by obtain ⟨cur, hc⟩ := HCU.out; exact HOL.out.bx h5 hc (by decide) (by decide))
 have HFF := Lib.hid hHeld.2.2.2.out.1
 have HBW := Lib.hid ((HAL.out.trans (HB4.out.mono HAL.out.size)).trans (Bx.below hHeld.2.2.2.out.2.1 (Nat.le_trans HAL.out.size HB4.out.size) fun k (hk : k = W.heap.size + 1) => by omega))
 have HMN := Lib.hid hmn
 clear hHeld hS0 h5 r0 r1 r2 r3 r4 g0 g1 g2 g3 g4 hmn hb5
 obtain ⟨w6, hw6⟩ : ∃ w, w = (((((w5.setCell ⟨W.heap.size + 1, 0, none⟩ (.int .i64 F.p)).setCell ⟨W.heap.size + 1, 1, none⟩ (.int .i64 F.e)).setCell ⟨W.heap.size + 1, 2, none⟩ (FM F b cap)).setCell ⟨W.heap.size + 1, 3, none⟩ (.int .i64 (n : Nat))).setCell ⟨W.heap.size + 1, 4, none⟩ (.slice aR m cR)) := ⟨_, rfl⟩
 rw [← hw6] at HFIN HOLF HFF HBW
 have HW6 := Lib.hid hw6
 clear hw6
 go_wp2_with fail
 rw [← HW6.out]
 obtain ⟨⟨q0, q1, q2, q3, q4⟩, qf, ql⟩ := HFIN.out
 refine bodyPost_ret (v := MV F b cap n (.slice aR m cR)) (by simp [results, Try.results10, go_sem, q0, q1, q2, q3, q4]) rfl ?_
 rw [HM.out]
 exact ⟨b, cap, R, us, aR, cR, rfl, HFF.out, HMN.out, hrl, HOLF.out, HBW.out⟩

end Go.Proofs.Yteeofijcndgbfaa

/- reduced of the law: a reduced matrix is one. -/
namespace Go.Proofs.Yteeofijcndgbfaa
open Go.RowKit Go.Fl
set_option maxRecDepth 100000
set_option linter.unusedVariables false
set_option linter.unusedSimpArgs false
set_option linter.unusedSectionVars false
theorem pvt_of {w : Cf} {n p : Nat} (hp : p < n) (h1 : w p ≠ 0) (h0 : ∀ j, j < p → w j = 0) : pvt w n = p := by
 obtain ⟨h2, h3, h4⟩ := pvt_spec w n
 rcases Nat.lt_trichotomy (pvt w n) p with h | h | h
 ·exact absurd (h0 _ h) (h4 (by omega))
 ·exact h
 ·exact absurd (h3 _ h) h1
theorem map_fn_getD {A : List (List Nat)} {i : Nat} (h : i < A.length) (d : Cf) : (A.map Go.Fl.fn).getD i d = Go.Fl.fn (A.getD i []) := by
 simp only [List.getD_eq_getElem?_getD, List.getElem?_map, List.getElem?_eq_getElem h]; rfl
/-- what reduced looks at -/
structure Rdd (n m : Nat) (A : List (List Nat)) (P : List Nat) : Prop where
 bd : ∀ i, i < m → P.getD i 0 < n
 pv : ∀ i, i < m → pvt (Go.Fl.fn (A.getD i [])) n = P.getD i 0
 one : ∀ i, i < m → (A.getD i []).getD (P.getD i 0) 0 = 1
 zero : ∀ i, i < m → ∀ k, k < m → k ≠ i → (A.getD k []).getD (P.getD i 0) 0 = 0
 up : ∀ i, i + 1 < m → P.getD i 0 < P.getD (i + 1) 0
theorem Rdd.of {F : Gf} {n m : Nat} {A : List (List Nat)} {P : List Nat} (la : A.length = m) (h : Red F n P (A.map Go.Fl.fn)) : Rdd n m A P := by
 have hl : P.length = m := by rw [h.len, List.length_map, la]
 have hb : ∀ i, i < m → P.getD i 0 < n := fun i hi => h.bd _ (by rw [List.getD_eq_getElem?_getD, List.getElem?_eq_getElem (by omega)]; exact List.getElem_mem _)
 have ho : ∀ i, i < m → ∀ k, k < m → (A.getD k []).getD (P.getD i 0) 0 = if k = i then 1 else 0 := fun i hi k hk => by
  have := h.pv i (by rw [List.length_map]; omega) k (by rw [List.length_map]; omega)
  rw [map_fn_getD (by omega)] at this
  exact this
 refine ⟨hb, fun i hi => pvt_of (hb i hi) ?_ fun j hj => ?_, fun i hi => by rw [ho i hi i hi, if_pos rfl], fun i hi k hk e => by rw [ho i hi k hk, if_neg e], fun i hi => ?_⟩
 ·have := ho i hi i hi
  rw [if_pos rfl] at this
  show (A.getD i []).getD (P.getD i 0) 0 ≠ 0
  rw [this]; decide
 ·have := h.lo i (by rw [List.length_map]; omega) j hj
  rw [map_fn_getD (by omega)] at this
  exact this
 ·have hs := List.pairwise_iff_getElem.1 h.lt i (i + 1) (by omega) (by omega) (Nat.lt_succ_self i)
  rw [List.getD_eq_getElem?_getD, List.getElem?_eq_getElem (by omega), List.getD_eq_getElem?_getD, List.getElem?_eq_getElem (by omega)]
  exact hs
/-- the pivot before row k -/
def prv (P : List Nat) : Nat → Int
 | 0 => -1
 | k + 1 => (P.getD k 0 : Nat)
set_option maxHeartbeats 6400000 in
theorem isreduced_c {F : Gf} {n m ca : Nat} {A : List (List Nat)} {P : List Nat} {aa : Option Addr} {W : World} (hn : n ≤ 1000) (hm : m ≤ 1000) (la : A.length = m) (ma : Mn F n A) (hr : Red F n P (A.map Go.Fl.fn)) (na : MM A W (.slice aa m ca)) :
  Calls Try.prog 36 #[.int .i64 (n : Nat), .slice aa m ca] W fun e w' => e = .returned (.bool true) ∧ Below W.heap.size W w' := by
 have HR : Hid (Rdd n m A P) := Lib.hid (Rdd.of la hr)
 have HLA := Lib.hid la
 have HMA := Lib.hid ma
 have HNA := Lib.hid na
 clear la ma hr na
 go_enter Try.func36, Try.ntmps36
 go_wp2
 go_loopw [5, 6] (fun v i wr => ∃ k : Nat, k ≤ m ∧ v = .int .i64 (prv P k) ∧ i = .int .i64 k ∧ Hid (Below W.heap.size W wr)) (fun _ i _ => m - (intOf i).toNat)
 case atStart => exact ⟨0, Nat.zero_le _, rfl, rfl, Below.refl _ _⟩
 case round =>
  obtain ⟨k, hk, hv, rfl, KB⟩ := hrel
  obtain ⟨q, hq⟩ : ∃ q, Hid (prv P k = q) := ⟨_, Lib.hid rfl⟩
  rw [hq.out] at hv
  subst hv
  by_cases hlt : k < m
  ·have hk5 : k < 1000 := by omega
   obtain ⟨p, hp⟩ : ∃ p, Hid (P.getD k 0 = p) := ⟨_, Lib.hid rfl⟩
   have hpn : p < n := by rw [← hp.out]; exact HR.out.bd k hlt
   have hqp : q < (p : Int) := by
    rw [← hq.out, ← hp.out]
    cases k with
    | zero => show (-1 : Int) < _; omega
    | succ j => show ((P.getD j 0 : Nat) : Int) < _; exact Int.ofNat_lt.2 (HR.out.up j hlt)
   obtain ⟨Y, hY⟩ : ∃ L, Hid (A.getD k [] = L) := ⟨_, Lib.hid rfl⟩
   have HVY : Hid (Vn F n Y) := Lib.hid (by rw [← hY.out]; exact mrow HMA.out (by rw [HLA.out]; exact hlt))
   have HMW : Hid (MM A wr (.slice aa m ca)) := Lib.hid (HNA.out.below KB.out)
   obtain ⟨b1, o1, rfl, a1, c1, hc1, hny⟩ := MM.at (R := A) (by rw [HLA.out]; exact HMW.out) (k := k) (by rw [HLA.out]; exact hlt)
   rw [hY.out, HVY.out.len] at hc1 hny
   have HNY := Lib.hid hny
   have HPV : Hid (Calls Try.prog 45 #[.slice a1 n c1] wr fun e w' => e = .returned (.int .i64 (p : Nat)) ∧ Below wr.heap.size wr w') := Lib.hid (by
    have t := pivot_c (L := Y) (a := a1) (c := c1) (W := wr) (by rw [HVY.out.len]; omega) (by rw [HVY.out.len]; exact HNY.out)
    rw [HVY.out.len, ← hY.out, HR.out.pv k hlt, hp.out] at t
    exact t)
   have hge : ¬ (n : Int) ≤ (p : Int) := by omega
   have hle : ¬ (p : Int) ≤ q := by omega
   have hone : Hid (Y.getD p 0 = 1) := Lib.hid (by rw [← hY.out, ← hp.out]; exact HR.out.one k hlt)
   clear hny
   go_wp2_with fail
   with_reducible refine HPV.out.mono ?_
   rintro e w2 ⟨rfl, hb2⟩
   have HB2 := Lib.hid hb2
   have hc2 := (hb2.cell (World.block_lt_of_cell? wr _ hc1)).trans hc1
   obtain ⟨b2, o2, rfl, hc3⟩ := (HNY.out.below hb2).atm HVY.out.len hpn
   rw [hone.out] at hc3
   have HM2 : Hid (MM A w2 (.slice (some ⟨b1, o1, none⟩) m ca)) := Lib.hid (HMW.out.below hb2)
   have KB2 : Hid (Below W.heap.size W w2) := Lib.hid (KB.out.trans (hb2.mono KB.out.size))
   clear hb2 HPV
   go_wp2_with fail
   go_loopw [8] (fun i wr => ∃ j : Nat, j ≤ m ∧ i = .int .i64 j ∧ Hid (wr = w2)) (fun i _ => m - (intOf i).toNat)
   case atStart => exact ⟨0, Nat.zero_le _, rfl, Lib.hid rfl⟩
   case round =>
    obtain ⟨j, hj, rfl, HWE⟩ := hrel
    obtain ⟨wo, hwo⟩ : ∃ w, w = wr := ⟨_, rfl⟩
    subst hwo
    have hwe := HWE.out
    subst hwe
    by_cases hjm : j < m
    ·have hj5 : j < 1000 := by omega
     obtain ⟨Z, hZ⟩ : ∃ L, Hid (A.getD j [] = L) := ⟨_, Lib.hid rfl⟩
     have HVZ : Hid (Vn F n Z) := Lib.hid (by rw [← hZ.out]; exact mrow HMA.out (by rw [HLA.out]; exact hjm))
     obtain ⟨b4, o4, e4, a4, c4, hc4, hnz⟩ := MM.at (R := A) (by rw [HLA.out]; exact HM2.out) (k := j) (by rw [HLA.out]; exact hjm)
     injection e4 with e4
     injection e4 with e4 e5 _
     subst e4 e5
     rw [hZ.out, HVZ.out.len] at hc4 hnz
     obtain ⟨b5, o5, rfl, hc5⟩ := hnz.atm HVZ.out.len hpn
     by_cases hjk : j = k
     ·have hjki : (j : Int) = (k : Int) := by omega
      subst hjk
      go_wp2_with fail
      go_roundw
      case rel => exact ⟨j + 1, by omega, by go_num, Lib.hid (by first | trivial | rfl)⟩
      case measure => simp [intOf]; omega
     ·have hjki : ¬ (j : Int) = (k : Int) := by omega
      have hz : Hid (Z.getD p 0 = 0) := Lib.hid (by rw [← hZ.out, ← hp.out]; exact HR.out.zero k hlt j hjm hjk)
      rw [hz.out] at hc5
      go_wp2_with fail
      go_roundw
      case rel => exact ⟨j + 1, by omega, by omega⟩
      case measure => simp [intOf]; omega
    ·obtain rfl : j = m := by omega
     have hlt1 : ¬ (j : Int) < (j : Int) := by omega
     go_wp2_with fail
     go_roundw
     case rel => exact ⟨k + 1, by omega, by rw [show prv P (k + 1) = ((P.getD k 0 : Nat) : Int) from rfl, hp.out], by go_num, KB2⟩
     case measure => simp [intOf]; omega
  ·obtain rfl : k = m := by omega
   have hlt1 : ¬ (k : Int) < (k : Int) := by omega
   go_wp2
   go_ret
   exact ⟨rfl, KB.out⟩
end Go.Proofs.Yteeofijcndgbfaa
