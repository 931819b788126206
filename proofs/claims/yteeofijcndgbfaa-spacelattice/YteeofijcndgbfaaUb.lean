/- SpaceLattice: the law's walk. -/
import Derived.Test.YteeofijcndgbfaaUa
import Derived.Test.YteeofijcndgbfaaTs
namespace Go.Proofs.Yteeofijcndgbfaa
open Go.RowKit Go.Fl
set_option maxRecDepth 100000
set_option linter.unusedVariables false
set_option linter.unusedSimpArgs false
set_option linter.unusedSectionVars false
theorem info70 : (Try.prog.info? 70).map (fun i => (i.zero, i.size, i.bytes)) = some (some (.int .u16 0), 1, 2) := by kernel_rfl
theorem redM_leN {F : Gf} (hF : Ok F) {n : Nat} {A : List (List Nat)} (h : Mn F n A) : (redM F n A).length ≤ n := by have := rank_null hF h; omega
/-- numbers of 16 bits as a list -/
theorem N16.list {m : Nat} {w : World} {b o c : Nat} (h : N16 m w (.slice (some ⟨b, o, none⟩) m c)) : ∃ L : List Nat, L.length = m ∧ (∀ x ∈ L, x ≤ 65535) ∧ ∀ t, t < m → w.cell? ⟨b, o + t, none⟩ = some (.int .u16 (L.getD t 0 : Nat)) := by
 have hk : ∀ t, ∃ x : Nat, x ≤ 65535 ∧ (t < m → w.cell? ⟨b, o + t, none⟩ = some (.int .u16 (x : Nat))) := fun t => by
  by_cases ht : t < m
  ·obtain ⟨b', o', x, e, h1, h2, h3⟩ := h.at ht
   injection e with e; injection e with e1 e2
   subst e1 e2
   exact ⟨x, h2, fun _ => h3⟩
  ·exact ⟨0, by decide, fun h => absurd h ht⟩
 refine ⟨(List.range m).map fun t => Classical.choose (hk t), by simp, fun x hx => ?_, fun t ht => ?_⟩
 ·obtain ⟨t, _, rfl⟩ := List.mem_map.1 hx
  exact (Classical.choose_spec (hk t)).1
 ·rw [List.getD_eq_getElem?_getD, List.getElem?_map, List.getElem?_range ht]
  exact (Classical.choose_spec (hk t)).2 ht
theorem N16.of_own {w : World} {base : Nat} {v : Value} {m : Nat} {L : List Nat} (h : w.ownsRow base 70 1 v m (L.map fun (n : Nat) => Value.int .u16 (n : Int))) (hl : L.length = m) (hb : ∀ x ∈ L, x ≤ 65535) : N16 m w v := by
 rcases h.2 with ⟨rfl, rfl⟩ | ⟨g, cap, cur, rfl, _, _⟩
 ·exact .inl ⟨rfl, none, 0, rfl⟩
 ·refine .inr ⟨g, 0, cap, rfl, (World.ownsRow.lt h g rfl).2, fun t ht => ⟨L.getD t 0, ?_, ?_⟩⟩
  ·rw [List.getD_eq_getElem?_getD, List.getElem?_eq_getElem (by omega)]; exact hb _ (List.getElem_mem _)
  ·rw [Nat.zero_add, World.ownsRow.cellAt h t (by omega), List.getElem?_map, List.getElem?_eq_getElem (by omega)]
   simp [List.getD_eq_getElem?_getD, List.getElem?_eq_getElem (show t < L.length by omega)]
theorem num_cells16 {L : List Nat} {w : World} {b off : Nat} (hc : ∀ t, t < L.length → w.cell? ⟨b, off + t, none⟩ = some (.int .u16 (L.getD t 0 : Nat))) : ∀ (j : Nat) (u : Value), (L.map fun (n : Nat) => Value.int .u16 (n : Int))[j]? = some u → w.cell? ((⟨b, off, none⟩ : Addr).add j) = some u := by
 intro j u hj
 rw [List.getElem?_map, Option.map_eq_some_iff] at hj
 obtain ⟨x, hx, rfl⟩ := hj
 have hl : j < L.length := by
  rcases Nat.lt_or_ge j L.length with h | h
  ·exact h
  ·rw [List.getElem?_eq_none h] at hx; cases hx
 have := hc j hl
 rw [List.getD_eq_getElem?_getD, hx] at this
 simp only [Option.getD_some] at this
 unfold Addr.add
 split
 ·rename_i h0; have h0 : j = 0 := by simpa using h0
  subst h0; simpa using this
 ·exact this
theorem step_append_src {P : Program} {ops : Array Oper} {o : Oper} {a : Act} {w : World} {K : Act → World → Prop} {Q : Exit → Act → World → Prop} {E : Prop}
  (hg : o.guard = none) (s x : Operand) (t : TypeId) (hop : o.op = Op.call { callee := Callee.builtin Builtin.append, args := #[s, x], argTypes := #[t, t] })
  (base : Nat) (e : TypeId) (i : TypeInfo) (z : Value) (size bytes : Nat) (ht : P.underlying t = some (.slice e)) (hi : P.info? e = some i) (hz : i.zero = some z)
  (hsize : i.size = size) (hby : i.bytes = bytes) (hzs : z.cells.size = size) (hsz : 0 < size)
  (v : Value) (n : Nat) (xs : List Value) (hv : a.eval s = v) (hown : w.ownsRow base e size v n xs)
  (ad : Option Addr) (m c : Nat) (news : List Value) (hx : a.eval x = .slice ad m c)
  (hs : (ad = none ∧ m = 0 ∧ c = 0 ∧ news = []) ∨ ∃ d, ad = some d ∧ news.length = m * size ∧ ∀ j u, news[j]? = some u → w.cell? (d.add j) = some u) (h1 : ∀ u ∈ news, u.oneCell' = true)
  (h63 : n + m ≤ maxLen) (hbytes : (n + m) * bytes ≤ 140737488355328) (hbase : base ≤ w.heap.size)
  (hK : ∀ v' w', w'.ownsRow base e size v' (n + m) (xs ++ news) → w.grownBy w' v.ownBlock → K (a.put o.dst v') w') :
  if Region.wanted o (yielded ops a.tmps) = true then Oper.wp P o a w K Q else E := by
 rcases hs with ⟨rfl, rfl, rfl, rfl⟩ | ⟨d, rfl, hl, hn⟩
 ·have hw : Region.wanted o (yielded ops a.tmps) = true := by simp [Region.wanted, hg]
  rw [if_pos hw]
  have hrun := run_append_owned_none (P := P) w base t o.type e i size ht hi v n xs hown
  unfold Oper.wp
  simp [execOp, hop, resolve, invoke, builtin, hv, hx, hrun, Result.andThen]
  exact hK v w (by simpa using hown) ⟨rfl, rfl, rfl, Nat.le_refl _, fun _ _ _ => rfl⟩
 ·exact step_append_own hg s x t hop base e i z size bytes ht hi hz hsize hby hzs hsz v n xs hv hown d m c news hx hl hn h1 h63 hbytes hbase hK
theorem N16.src {m : Nat} {w : World} {ab : Option Addr} {c W0 : Nat} (h : N16 m w (.slice ab m c)) (hsh : (ab = none ∧ m = 0 ∧ c = 0) ∨ ∃ bY oY, ab = some ⟨bY, oY, none⟩ ∧ bY < W0) : ∃ L : List Nat, L.length = m ∧ (∀ x ∈ L, x ≤ 65535) ∧ ∀ w' : World, Below w.heap.size w w' →
  ((ab = none ∧ m = 0 ∧ c = 0 ∧ L.map (fun (n : Nat) => Value.int .u16 (n : Int)) = []) ∨ ∃ d, ab = some d ∧ (L.map fun (n : Nat) => Value.int .u16 (n : Int)).length = m * 1 ∧ ∀ j u, (L.map fun (n : Nat) => Value.int .u16 (n : Int))[j]? = some u → w'.cell? (d.add j) = some u) := by
 rcases hsh with ⟨rfl, rfl, rfl⟩ | ⟨bY, oY, rfl, _⟩
 ·exact ⟨[], rfl, nofun, fun _ _ => .inl ⟨rfl, rfl, rfl, rfl⟩⟩
 ·obtain ⟨L, h1, h2, h3⟩ := h.list
  refine ⟨L, h1, h2, fun w' hb => .inr ⟨_, rfl, by rw [List.length_map, h1, Nat.mul_one], num_cells16 fun t ht => ?_⟩⟩
  have h4 := h3 t (h1 ▸ ht)
  exact (hb.cell (p := ⟨bY, oY + t, none⟩) (World.block_lt_of_cell? w _ h4)).trans h4
/-- .. and a number -/
abbrev SKZ (F : Gf) (b cap n B BM : Nat) (mv : Value) (GZ z1 : Nat) (w1 w : World) : Prop := SKL F b cap n B BM mv w1 w ∧ w.cell? ⟨GZ, 1, none⟩ = some (.int .u8 (z1 : Nat)) ∧ Hid (GZ < w.heap.size)
theorem SKZ.keep {F : Gf} {b cap n B BM GZ z1 : Nat} {mv : Value} {w1 w w' : World} (h : SKZ F b cap n B BM mv GZ z1 w1 w) (hb : Below w.heap.size w w') : SKZ F b cap n B BM mv GZ z1 w1 w' :=
 ⟨h.1.keep hb, (hb.cell (p := ⟨GZ, 1, none⟩) h.2.2.out).trans h.2.1, Lib.hid (Nat.lt_of_lt_of_le h.2.2.out hb.size)⟩
theorem SKZ.grown {F : Gf} {b cap n B BM GZ z1 base : Nat} {mv : Value} {w1 w w' : World} (h : SKZ F b cap n B BM mv GZ z1 w1 w) {row : Option Nat} (hg : w.grownBy w' row) (hr : ∀ k, row = some k → base ≤ k) (hb : base ≤ w.heap.size) (h2 : w1.heap.size ≤ base) (hx : B < base ∧ BM < base ∧ b < base ∧ GZ < base) : SKZ F b cap n B BM mv GZ z1 w1 w' := by
 have hl := below_own hg hr hb
 obtain ⟨⟨⟨f0, f1, f2⟩, ⟨m0, m1, m2, m3, m4⟩, h3⟩, hz, h4⟩ := h
 obtain ⟨k1, k2, k3, k4⟩ := h3.out
 exact ⟨⟨⟨(hl.cell hx.1).trans f0, (hl.cell hx.1).trans f1, (hl.cell hx.1).trans f2⟩, ⟨(hl.cell hx.2.1).trans m0, (hl.cell hx.2.1).trans m1, (hl.cell hx.2.1).trans m2, (hl.cell hx.2.1).trans m3, (hl.cell hx.2.1).trans m4⟩,
  Lib.hid ⟨k1.of (hl.block b hx.2.2.1), k2.trans (hl.mono h2), Nat.lt_of_lt_of_le k3 hl.size, Nat.lt_of_lt_of_le k4 hl.size⟩⟩, (hl.cell hx.2.2.2).trans hz, Lib.hid (Nat.lt_of_lt_of_le h4.out hl.size)⟩
set_option maxHeartbeats 25600000 in
theorem lattice_c {x y z l ca l2 ca2 z0 z1 : Nat} {aa ab : Option Addr} {W : World} (hx : x ≤ 255) (hy : y ≤ 255) (hz : z ≤ 255) (hz0' : z0 ≤ 255) (hz1' : z1 ≤ 255) (hl : l ≤ maxLen) (na : N16 l W (.slice aa l ca)) (hl2 : l2 + 1 ≤ maxLen ∧ (l2 + 1) * 2 ≤ 140737488355328) (nb : N16 l2 W (.slice ab l2 ca2)) (hsh : (ab = none ∧ l2 = 0 ∧ ca2 = 0) ∨ ∃ bY oY, ab = some ⟨bY, oY, none⟩ ∧ bY < W.heap.size) :
  Calls Try.prog 7 #[.agg #[.int .u8 (x : Nat), .int .u8 (y : Nat), .int .u8 (z : Nat), .slice aa l ca], .slice ab l2 ca2, .agg #[.int .u8 (z0 : Nat), .int .u8 (z1 : Nat)]] W fun e w' => e = .returned (.bool true) ∧ Below W.heap.size W w' := by
 obtain ⟨w1, hw1⟩ : ∃ w, w = (W.alloc (.cells #[.int .u8 (x : Nat), .int .u8 (y : Nat), .int .u8 (z : Nat), .slice aa l ca] 24)).alloc (.cells #[.int .u8 (z0 : Nat), .int .u8 (z1 : Nat)] 69) := ⟨_, rfl⟩
 have hal : Below W.heap.size W w1 := by rw [hw1]; exact ((Below.refl _ _).alloc (Nat.le_refl _) _).alloc (by simp) _
 have HAL := Lib.hid hal
 have hes0 : (W.alloc (.cells #[.int .u8 (x : Nat), .int .u8 (y : Nat), .int .u8 (z : Nat), .slice aa l ca] 24)).heap.size = W.heap.size + 1 := by simp
 have HD1 : Hid (w1.cell? ⟨W.heap.size, 0, none⟩ = some (.int .u8 (x : Nat)) ∧ w1.cell? ⟨W.heap.size, 1, none⟩ = some (.int .u8 (y : Nat)) ∧ w1.cell? ⟨W.heap.size, 2, none⟩ = some (.int .u8 (z : Nat)) ∧ w1.cell? ⟨W.heap.size, 3, none⟩ = some (.slice aa l ca) ∧ W.heap.size < w1.heap.size) := Lib.hid (by
  rw [hw1]; exact ⟨(World.cell?_alloc_lt _ _ _ (by simp)).trans (World.cell?_alloc_at _ _ _ _ rfl), (World.cell?_alloc_lt _ _ _ (by simp)).trans (World.cell?_alloc_at _ _ _ _ rfl), (World.cell?_alloc_lt _ _ _ (by simp)).trans (World.cell?_alloc_at _ _ _ _ rfl), (World.cell?_alloc_lt _ _ _ (by simp)).trans (World.cell?_alloc_at _ _ _ _ rfl), by simp; omega⟩)
 have HZB : Hid (w1.cell? ⟨W.heap.size + 1, 0, none⟩ = some (.int .u8 (z0 : Nat)) ∧ w1.cell? ⟨W.heap.size + 1, 1, none⟩ = some (.int .u8 (z1 : Nat)) ∧ W.heap.size + 1 < w1.heap.size) := Lib.hid (by
  rw [hw1, ← hes0]; exact ⟨World.cell?_alloc_at _ _ _ _ rfl, World.cell?_alloc_at _ _ _ _ rfl, by simp⟩)
 have HNA := Lib.hid (na.below hal)
 have HNB := Lib.hid (nb.below hal)
 have HEX : Hid (Calls Try.prog 9 #[] w1 fun e w' => e = .returned (.bool true) ∧ Below w1.heap.size w1 w') := Lib.hid (examples_c w1)
 have HW1 := Lib.hid hw1
 clear hal na nb hw1 hes0
 go_enter Try.func7, Try.ntmps7
 go_wp2_with fail
 rw [← HW1.out]
 clear HW1
 with_reducible refine HEX.out.mono ?_
 rintro e w2 ⟨rfl, hb2⟩
 obtain ⟨e0, e1, e2, e3, e4⟩ := HD1.out
 have d0 := (hb2.cell (p := ⟨W.heap.size, 0, none⟩) e4).trans e0
 have d1 := (hb2.cell (p := ⟨W.heap.size, 1, none⟩) e4).trans e1
 have d2 := (hb2.cell (p := ⟨W.heap.size, 2, none⟩) e4).trans e2
 have d3 := (hb2.cell (p := ⟨W.heap.size, 3, none⟩) e4).trans e3
 have HB2 : Hid (Below W.heap.size W w2) := Lib.hid (HAL.out.trans (hb2.mono HAL.out.size))
 have HNB2 := Lib.hid (HNB.out.below hb2)
 have HZB2 : Hid (w2.cell? ⟨W.heap.size + 1, 0, none⟩ = some (.int .u8 (z0 : Nat)) ∧ w2.cell? ⟨W.heap.size + 1, 1, none⟩ = some (.int .u8 (z1 : Nat)) ∧ W.heap.size + 1 < w2.heap.size) := Lib.hid ⟨(hb2.cell HZB.out.2.2).trans HZB.out.1, (hb2.cell HZB.out.2.2).trans HZB.out.2.1, Nat.lt_of_lt_of_le HZB.out.2.2 hb2.size⟩
 have HMD : Hid (Calls Try.prog 10 #[.agg #[.int .u8 (x : Nat), .int .u8 (y : Nat), .int .u8 (z : Nat), .slice aa l ca]] w2 (MadeP x y z w2)) := Lib.hid (made_c hx hy hz hl (HNA.out.below hb2))
 clear hb2 HEX e0 e1 e2 e3 e4 HD1
 go_wp2_with fail
 with_reducible refine HMD.out.mono ?_
 rintro e w3 ⟨b, cap, A, us, aA, cA, rfl, hf3, hmn, hla, hol, hb3⟩
 obtain ⟨F, hF⟩ : ∃ F, Hid (fdB x = F) := ⟨_, Lib.hid rfl⟩
 obtain ⟨n, hn⟩ : ∃ n, Hid (1 + y % 8 = n) := ⟨_, Lib.hid rfl⟩
 obtain ⟨m, hm⟩ : ∃ n, Hid (z % 7 = n) := ⟨_, Lib.hid rfl⟩
 rw [hF.out] at hf3 hmn ⊢
 rw [hn.out] at hmn ⊢
 rw [hm.out] at hla hol ⊢
 have HN1 : Hid (1 ≤ n ∧ n ≤ 8 ∧ m ≤ 6) := Lib.hid (by have := hn.out; have := hm.out; omega)
 have HTK : Hid (F ∈ fds.take 10) := Lib.hid (by rw [← hF.out]; exact fdB_take x)
 obtain ⟨w4, hw4⟩ : ∃ w, w = (w3.alloc (.cells #[.int .i64 F.p, .int .i64 F.e, FM F b cap, .int .i64 (n : Nat), .slice aA m cA] 32)).alloc (.cells #[.int .i64 F.p, .int .i64 F.e, FM F b cap] 29) := ⟨_, rfl⟩
 have h34 : Below w3.heap.size w3 w4 := by rw [hw4]; exact ((Below.refl _ _).alloc (Nat.le_refl _) _).alloc (by simp) _
 have hes : (w3.alloc (.cells #[.int .i64 F.p, .int .i64 F.e, FM F b cap, .int .i64 (n : Nat), .slice aA m cA] 32)).heap.size = w3.heap.size + 1 := by simp
 have HSK : Hid (SKL F b cap n (w3.heap.size + 1) w3.heap.size (.slice aA m cA) w4 w4) := Lib.hid ⟨by
   have t := FBx.new (w3.alloc (.cells #[.int .i64 F.p, .int .i64 F.e, FM F b cap, .int .i64 (n : Nat), .slice aA m cA] 32)) F b cap
   rw [hes, ← hw4] at t; exact t, by
   rw [hw4]; exact ⟨(World.cell?_alloc_lt _ _ _ (by simp)).trans (World.cell?_alloc_at _ _ _ _ rfl), (World.cell?_alloc_lt _ _ _ (by simp)).trans (World.cell?_alloc_at _ _ _ _ rfl), (World.cell?_alloc_lt _ _ _ (by simp)).trans (World.cell?_alloc_at _ _ _ _ rfl), (World.cell?_alloc_lt _ _ _ (by simp)).trans (World.cell?_alloc_at _ _ _ _ rfl), (World.cell?_alloc_lt _ _ _ (by simp)).trans (World.cell?_alloc_at _ _ _ _ rfl)⟩,
   Lib.hid ⟨hf3.below h34, Below.refl _ _, by rw [hw4]; simp, by rw [hw4]; simp; omega⟩⟩
 have HMA : Hid (MM A w4 (.slice aA m cA)) := Lib.hid (hol.mm.below h34)
 have HMN := Lib.hid hmn
 have HLA := Lib.hid hla
 have hb24 : Below w2.heap.size w2 w4 := hb3.trans (h34.mono hb3.size)
 have HB4 : Hid (Below W.heap.size W w4) := Lib.hid (HB2.out.trans (hb24.mono HB2.out.size))
 have HNB4 : Hid (N16 l2 w4 (.slice ab l2 ca2)) := Lib.hid (HNB2.out.below hb24)
 have HZB4 : Hid (w4.cell? ⟨W.heap.size + 1, 0, none⟩ = some (.int .u8 (z0 : Nat)) ∧ w4.cell? ⟨W.heap.size + 1, 1, none⟩ = some (.int .u8 (z1 : Nat)) ∧ W.heap.size + 1 < w4.heap.size) := Lib.hid ⟨(hb24.cell HZB2.out.2.2).trans HZB2.out.1, (hb24.cell HZB2.out.2.2).trans HZB2.out.2.1, Nat.lt_of_lt_of_le HZB2.out.2.2 hb24.size⟩
 have HFF : Hid (Ok F) := Lib.hid (ok_mem hf3.mem)
 have HW4 := Lib.hid hw4
 clear hw4 h34 hb24 hes hol hla hmn hf3 hb3 HMD d0 d1 d2 d3 HNB2 HNB HNA HZB HZB2
 go_upto_region 6 with fail
 rw [← HW4.out]
 clear HW4
 obtain ⟨GZ, hgz⟩ : ∃ g, g = W.heap.size + 1 := ⟨_, rfl⟩
 rw [← hgz] at HZB4
 generalize w3.heap.size + 1 = B at *
 generalize w3.heap.size = BM at *
 rw [← hgz]
 clear hgz
 obtain ⟨m2, hm2⟩ : ∃ k, Hid (z0 % 7 = k) := ⟨_, Lib.hid rfl⟩
 obtain ⟨m3, hm3⟩ : ∃ k, Hid (z1 % 4 = k) := ⟨_, Lib.hid rfl⟩
 have hm2i : (z0 : Int) % 7 = (m2 : Int) := by have := hm2.out; omega
 have hm2t : (z0 : Int).tmod 7 = (m2 : Int) := by rw [Int.tmod_eq_emod_of_nonneg (by omega)]; exact hm2i
 have hm3i : (z1 : Int) % 4 = (m3 : Int) := by have := hm3.out; omega
 have hm3t : (z1 : Int).tmod 4 = (m3 : Int) := by rw [Int.tmod_eq_emod_of_nonneg (by omega)]; exact hm3i
 have hn1 := HN1.out
 have hm26 : m2 ≤ 6 := by have := hm2.out; omega
 have hm36 : m3 ≤ 6 := by have := hm3.out; omega
 have HRW : Hid (Calls Try.prog 11 #[FV F b cap, .int .i64 (n : Nat), .int .i64 (m2 : Nat), .slice ab l2 ca2] w4 (RwsP F n m2 w4)) := Lib.hid (rows_c HSK.out.2.2.out.1 (by omega) (by omega) hm26 (by omega) HNB4.out)
 obtain ⟨x0, x1, x2⟩ := HSK.out.1
 obtain ⟨k0, k1, k2⟩ := HZB4.out
 obtain ⟨q0, q1, q2, q3, q4⟩ := HSK.out.2.1
 have hwz0 : IntKind.i64.wrap (z0 : Int) = (z0 : Int) := IntWalk.i64_in _ (by omega)
 clear k1
 go_wp2_with fail
 with_reducible refine HRW.out.mono ?_
 rintro e w5 ⟨Bm, hbn, hbl, aB, cB, rfl, hmb, hb5⟩
 rw [hbl] at hmb ⊢
 have HBN := Lib.hid hbn
 have HBL := Lib.hid hbl
 have HSK5 : Hid (SKL F b cap n B BM (.slice aA m cA) w4 w5) := Lib.hid (HSK.out.keep hb5)
 have HMB5 := Lib.hid hmb
 have HMA5 := Lib.hid (HMA.out.below hb5)
 clear hbn hbl hmb hb5 HRW x0 x1 x2 q0 q1 q2 q3 q4 k0 k2
 obtain ⟨J, hJ⟩ : ∃ J, Hid (joM F n A Bm = J) := ⟨_, Lib.hid rfl⟩
 obtain ⟨jl, hjl⟩ : ∃ k, Hid (J.length = k) := ⟨_, Lib.hid rfl⟩
 obtain ⟨M, hM⟩ : ∃ M, Hid (meM F n A Bm = M) := ⟨_, Lib.hid rfl⟩
 obtain ⟨ml, hml⟩ : ∃ k, Hid (M.length = k) := ⟨_, Lib.hid rfl⟩
 obtain ⟨ra, hra⟩ : ∃ k, Hid ((redM F n A).length = k) := ⟨_, Lib.hid rfl⟩
 obtain ⟨rb, hrb⟩ : ∃ k, Hid ((redM F n Bm).length = k) := ⟨_, Lib.hid rfl⟩
 have HJN : Hid (Mn F n J) := Lib.hid (by rw [← hJ.out]; exact (redM_ok HFF.out (mapp HMN.out HBN.out)).1)
 have HMM0 : Hid (Mn F n M) := Lib.hid (by rw [← hM.out]; exact meM_mn HFF.out HMN.out HBN.out)
 have hjl8 : jl ≤ 8 := by have := redM_leN HFF.out (mapp HMN.out HBN.out); have h2 := hJ.out; have h3 := hjl.out; rw [← h3, ← h2]; exact Nat.le_trans this (by omega)
 have hml8 : ml ≤ 8 := by have := kerM_le HFF.out (mapp (kerM_ok HFF.out HMN.out).1 (kerM_ok HFF.out HBN.out).1); have h2 := hM.out; have h3 := hml.out; rw [← h3, ← h2]; exact Nat.le_trans this (by omega)
 have hra8 : ra ≤ 8 := by have := redM_leN HFF.out HMN.out; have h3 := hra.out; rw [← h3]; exact Nat.le_trans this (by omega)
 have hrb8 : rb ≤ 8 := by have := redM_leN HFF.out HBN.out; have h3 := hrb.out; rw [← h3]; exact Nat.le_trans this (by omega)
 obtain ⟨rs, hrs⟩ : ∃ k, ra + rb = k := ⟨_, rfl⟩
 have hsum2 : (ra : Int) + (rb : Int) = (rs : Int) := by omega
 have hsum1 : (jl : Int) + (ml : Int) = (rs : Int) := by
  have h := rank_sum HFF.out HMN.out HBN.out
  rw [hJ.out, hM.out, hjl.out, hml.out, hra.out, hrb.out] at h
  omega
 have hwr1 : IntKind.i64.wrap ((jl : Int) + (ml : Int)) = (rs : Int) := by rw [IntWalk.i64_in _ (by omega)]; exact hsum1
 have hwr2 : IntKind.i64.wrap ((ra : Int) + (rb : Int)) = (rs : Int) := by rw [IntWalk.i64_in _ (by omega)]; exact hsum2
 have HW12 := Lib.hid (And.intro hwr1 hwr2)
 have HJP : Hid (∃ P, Red F n P (J.map Go.Fl.fn)) := Lib.hid (by rw [← hJ.out]; exact ⟨_, redM_red HFF.out (mapp HMN.out HBN.out)⟩)
 have HMP : Hid (∃ P, Red F n P (M.map Go.Fl.fn)) := Lib.hid (by rw [← hM.out]; exact ⟨_, kerM_red HFF.out (mapp (kerM_ok HFF.out HMN.out).1 (kerM_ok HFF.out HBN.out).1)⟩)
 clear hrs hsum1 hsum2 hwr1 hwr2
 have HJC : Hid (Calls Try.prog 28 #[FV F b cap, .slice aA m cA, .slice aB m2 cB] w5 (MPn J jl w5)) := Lib.hid (by
  have t := join_c (n := n) (A := A) (B := Bm) (aa := aA) (ca := cA) (ab := aB) (cb := cB) HSK5.out.2.2.out.1 (by omega) (by omega) (by rw [HLA.out]; omega) (by rw [HBL.out]; omega) HMN.out HBN.out (by rw [HLA.out]; exact HMA5.out) (by rw [HBL.out]; exact HMB5.out)
  rw [HLA.out, HBL.out, show redM F n (A ++ Bm) = J from hJ.out] at t
  exact t.mono fun _ _ h => h.n hjl.out)
 obtain ⟨x0, x1, x2⟩ := HSK5.out.1
 go_wp2_with fail
 with_reducible refine HJC.out.mono ?_
 rintro e w7 ⟨aJ, cJ, rfl, hmj, hb7⟩
 have HSK7 : Hid (SKL F b cap n B BM (.slice aA m cA) w4 w7) := Lib.hid (HSK5.out.keep hb7)
 have HMB7 := Lib.hid (HMB5.out.below hb7)
 have HMA7 := Lib.hid (HMA5.out.below hb7)
 have HMJ7 := Lib.hid hmj
 clear hmj hb7 HJC x0 x1 x2
 have HMC : Hid (Calls Try.prog 30 #[FV F b cap, .int .i64 (n : Nat), .slice aA m cA, .slice aB m2 cB] w7 (MPn M ml w7)) := Lib.hid (by
  have t := meet_c (n := n) (A := A) (B := Bm) (aa := aA) (ca := cA) (ab := aB) (cb := cB) HSK7.out.2.2.out.1 (by omega) (by omega) (by rw [HLA.out]; omega) (by rw [HBL.out]; omega) HMN.out HBN.out (by rw [HLA.out]; exact HMA7.out) (by rw [HBL.out]; exact HMB7.out)
  rw [HLA.out, HBL.out, show kerM F n (kerM F n A ++ kerM F n Bm) = M from hM.out] at t
  exact t.mono fun _ _ h => h.n hml.out)
 obtain ⟨x0, x1, x2⟩ := HSK7.out.1
 go_wp2_with fail
 with_reducible refine HMC.out.mono ?_
 rintro e w8 ⟨aM, cM, rfl, hmm, hb8⟩
 have HSK8 : Hid (SKL F b cap n B BM (.slice aA m cA) w4 w8) := Lib.hid (HSK7.out.keep hb8)
 have HMB8 := Lib.hid (HMB7.out.below hb8)
 have HMA8 := Lib.hid (HMA7.out.below hb8)
 have HMJ8 := Lib.hid (HMJ7.out.below hb8)
 have HMM8 := Lib.hid hmm
 clear hmm hb8 HMC x0 x1 x2
 have hS0 : SKL F b cap n B BM (.slice aA m cA) w8 w8.drew := SKL.draw HSK8.out
 go_wp2_with fail
 refine wp_region_held_drew (S := fun w' => SKL F b cap n B BM (.slice aA m cA) w8 w') (by kernel_rfl) (by with_reducible exact hS0) (fun hHeld => ?_)
 refine Rg.tk 0 ⟨some 49,.move (.tmp 10),3,"law.go:233",#[],none⟩ ?_
 try simp only [Rg.gp]
 refine Rg.tk 1 ⟨some 50,.move (.tmp 13),30,"law.go:233",#[],none⟩ ?_
 try simp only [Rg.gp]
 refine Rg.rd1 2 ⟨some 51,.call ⟨.value (.func 36),#[.tmp 49,.tmp 50],#[3,30]⟩,4,"law.go:233",#[⟨0,.data⟩,⟨1,.data⟩],none⟩ fun K hK => ?_
 go_simp
 go_at_call 36
 with_reducible refine ((show Calls Try.prog 36 #[.int .i64 (n : Nat), .slice aJ jl cJ] _ _ from by obtain ⟨P, hP⟩ := HJP.out; exact isreduced_c (by omega) (by omega) hjl.out HJN.out hP (HMJ8.out.below hHeld.2.2.out.2.1))).mono ?_
 rintro z v0 ⟨rfl, hb0⟩
 have ⟨hwr1, hwr2⟩ := HW12.out
 refine hK.out _ _ ?_ (fun hHeld => ?_)
 ·(try dsimp only)
  exact SKL.keep hHeld hb0
 clear hK K
 try simp only [Rg.gp]
 refine Rg.tk 3 ⟨some 52,.unOp UnOp.not 4 (.tmp 51),4,"law.go:233",#[⟨2,.data⟩],none⟩ ?_
 try simp only [Rg.gp]
 refine Rg.tk 4 ⟨some 53,.move (.tmp 52),4,"law.go:233",#[⟨3,.data⟩,⟨2,.chain⟩],none⟩ ?_
 try simp only [Rg.gp]
 refine Rg.tk 5 ⟨some 54,.move (.tmp 10),3,"law.go:233",#[⟨4,.guard⟩],some (4, false)⟩ ?_
 try simp only [Rg.gp]
 refine Rg.tk 6 ⟨some 55,.move (.tmp 14),30,"law.go:233",#[⟨4,.guard⟩],some (4, false)⟩ ?_
 try simp only [Rg.gp]
 refine Rg.rd1 7 ⟨some 56,.call ⟨.value (.func 36),#[.tmp 54,.tmp 55],#[3,30]⟩,4,"law.go:233",#[⟨5,.data⟩,⟨6,.data⟩,⟨4,.chain⟩,⟨4,.guard⟩],some (4, false)⟩ fun K hK => ?_
 go_simp
 go_at_call 36
 with_reducible refine ((show Calls Try.prog 36 #[.int .i64 (n : Nat), .slice aM ml cM] _ _ from by obtain ⟨P, hP⟩ := HMP.out; exact isreduced_c (by omega) (by omega) hml.out HMM0.out hP (HMM8.out.below hHeld.2.2.out.2.1))).mono ?_
 rintro z v1 ⟨rfl, hb1⟩
 refine hK.out _ _ ?_ (fun hHeld => ?_)
 ·(try dsimp only)
  exact SKL.keep hHeld hb1
 clear hK K
 try simp only [Rg.gp]
 refine Rg.tk 8 ⟨some 57,.unOp UnOp.not 4 (.tmp 56),4,"law.go:233",#[⟨7,.data⟩,⟨4,.guard⟩],some (4, false)⟩ ?_
 try simp only [Rg.gp]
 refine Rg.tk 9 ⟨some 58,.pick (.tmp 53) (.const (Value.bool true)) (.tmp 57),4,"law.go:233",#[⟨4,.data⟩,⟨8,.data⟩],none⟩ ?_
 try simp only [Rg.gp]
 refine Rg.tk 10 ⟨some 59,.move (.tmp 58),4,"law.go:233",#[⟨9,.data⟩,⟨7,.chain⟩],none⟩ ?_
 try simp only [Rg.gp]
 refine Rg.tk 11 ⟨some 60,.move (.tmp 13),30,"law.go:233",#[⟨10,.guard⟩],some (10, false)⟩ ?_
 try simp only [Rg.gp]
 refine Rg.tk 12 ⟨some 61,.call ⟨.builtin Builtin.len,#[.tmp 60],#[30]⟩,3,"law.go:233",#[⟨11,.data⟩,⟨10,.guard⟩],some (10, false)⟩ ?_
 try simp only [Rg.gp]
 refine Rg.tk 13 ⟨some 62,.move (.tmp 14),30,"law.go:233",#[⟨10,.guard⟩],some (10, false)⟩ ?_
 try simp only [Rg.gp]
 refine Rg.tk 14 ⟨some 63,.call ⟨.builtin Builtin.len,#[.tmp 62],#[30]⟩,3,"law.go:233",#[⟨13,.data⟩,⟨10,.guard⟩],some (10, false)⟩ ?_
 try simp only [Rg.gp]
 refine Rg.tk 15 ⟨some 64,.binOp BinOp.add 3 (.tmp 61) (.tmp 63) 3,3,"law.go:233",#[⟨12,.data⟩,⟨14,.data⟩,⟨10,.guard⟩],some (10, false)⟩ ?_
 try simp only [Rg.gp]
 refine Rg.tk 16 ⟨some 65,.load 29 (.tmp 9),29,"law.go:233",#[⟨10,.guard⟩],some (10, false)⟩ ?_
 try simp only [Rg.gp]
 refine Rg.tk 17 ⟨some 66,.move (.tmp 11),30,"law.go:233",#[⟨10,.guard⟩],some (10, false)⟩ ?_
 try simp only [Rg.gp]
 refine Rg.tk 19 ⟨some 68,.load 29 (.tmp 9),29,"law.go:233",#[⟨10,.guard⟩],some (10, false)⟩ ?_
 try simp only [Rg.gp]
 refine Rg.tk 20 ⟨some 69,.move (.tmp 12),30,"law.go:233",#[⟨10,.guard⟩],some (10, false)⟩ ?_
 try simp only [Rg.gp]
 refine Rg.rd1 18 ⟨some 67,.call ⟨.value (.func 17),#[.tmp 65,.tmp 66],#[29,30]⟩,3,"law.go:233",#[⟨16,.data⟩,⟨17,.data⟩,⟨10,.chain⟩,⟨10,.guard⟩],some (10, false)⟩ fun K hK => ?_
 go_simp
 go_at_call 17
 with_reducible refine ((show Calls Try.prog 17 #[FV F b cap, .slice aA m cA] _ (fun e w' => e = .returned (.int .i64 (ra : Nat)) ∧ Below _ _ w') from by have t := rank_c (n := n) (A := A) (aa := aA) (ca := cA) hHeld.2.2.out.1 (by omega) (by omega) (by rw [HLA.out]; omega) HMN.out (by rw [HLA.out]; exact HMA8.out.below hHeld.2.2.out.2.1); rw [HLA.out, hra.out] at t; exact t)).mono ?_
 rintro z v2 ⟨rfl, hb2⟩
 refine hK.out _ _ ?_ (fun hHeld => ?_)
 ·(try dsimp only)
  exact SKL.keep hHeld hb2
 clear hK K
 try simp only [Rg.gp]
 refine Rg.rd1 21 ⟨some 70,.call ⟨.value (.func 17),#[.tmp 68,.tmp 69],#[29,30]⟩,3,"law.go:233",#[⟨19,.data⟩,⟨20,.data⟩,⟨18,.chain⟩,⟨10,.guard⟩],some (10, false)⟩ fun K hK => ?_
 go_simp
 go_at_call 17
 with_reducible refine ((show Calls Try.prog 17 #[FV F b cap, .slice aB m2 cB] _ (fun e w' => e = .returned (.int .i64 (rb : Nat)) ∧ Below _ _ w') from by have t := rank_c (n := n) (A := Bm) (aa := aB) (ca := cB) hHeld.2.2.out.1 (by omega) (by omega) (by rw [HBL.out]; omega) HBN.out (by rw [HBL.out]; exact HMB8.out.below hHeld.2.2.out.2.1); rw [HBL.out, hrb.out] at t; exact t)).mono ?_
 rintro z v3 ⟨rfl, hb3⟩
 refine hK.out _ _ ?_ (fun hHeld => ?_)
 ·(try dsimp only)
  exact SKL.keep hHeld hb3
 clear hK K
 try simp only [Rg.gp]
 refine Rg.tk 22 ⟨some 71,.binOp BinOp.add 3 (.tmp 67) (.tmp 70) 3,3,"law.go:233",#[⟨18,.data⟩,⟨21,.data⟩,⟨10,.guard⟩],some (10, false)⟩ ?_
 try simp only [Rg.gp]
 refine Rg.tk 23 ⟨some 72,.binOp BinOp.neq 3 (.tmp 64) (.tmp 71) 3,4,"law.go:233",#[⟨15,.data⟩,⟨22,.data⟩,⟨10,.guard⟩],some (10, false)⟩ ?_
 try simp only [Rg.gp]
 refine Rg.tk 24 ⟨some 73,.pick (.tmp 59) (.const (Value.bool true)) (.tmp 72),4,"law.go:233",#[⟨10,.data⟩,⟨23,.data⟩],none⟩ ?_
 try simp only [Rg.gp]
 refine wpAnyH_done (by kernel_rfl) ?_ _
 have hb89 : Hid (Below w8.heap.size w8 v3) := Lib.hid hHeld.2.2.out.2.1
 have HSK9 : Hid (SKL F b cap n B BM (.slice aA m cA) w4 v3) := Lib.hid (HSK8.out.keep hb89.out)
 have HMA9 := Lib.hid (HMA8.out.below hb89.out)
 have HMB9 := Lib.hid (HMB8.out.below hb89.out)
 have HMJ9 := Lib.hid (HMJ8.out.below hb89.out)
 have HMM9 := Lib.hid (HMM8.out.below hb89.out)
 clear hHeld hS0 hb0 hb1 hb2 hb3
 obtain ⟨w9, hw9⟩ : ∃ w, w = v3 := ⟨_, rfl⟩
 subst hw9
 go_wp2
 go_loopw [15] (fun i wr => ∃ k : Nat, k ≤ m ∧ i = .int .i64 k ∧ Hid (Below w9.heap.size w9 wr)) (fun i _ => m - (intOf i).toNat)
 case atStart => exact ⟨0, Nat.zero_le _, rfl, Below.refl _ _⟩
 case round =>
  obtain ⟨k, hk, rfl, KB⟩ := hrel
  have HSKr : Hid (SKL F b cap n B BM (.slice aA m cA) w4 wr) := Lib.hid (HSK9.out.keep KB.out)
  have HSKw : Hid (SKL F b cap n B BM (.slice aA m cA) wr wr.drew) := Lib.hid (SKL.draw HSKr.out)
  have HMAr := Lib.hid (HMA9.out.below KB.out)
  have HMBr := Lib.hid (HMB9.out.below KB.out)
  have HMJr := Lib.hid (HMJ9.out.below KB.out)
  have HMMr := Lib.hid (HMM9.out.below KB.out)
  by_cases hlt : k < m
  ·have hkA : k < A.length := by rw [HLA.out]; exact hlt
   obtain ⟨Y, hY⟩ : ∃ L, Hid (A.getD k [] = L) := ⟨_, Lib.hid rfl⟩
   have HVY : Hid (Vn F n Y) := Lib.hid (by rw [← hY.out]; exact mrow HMN.out hkA)
   have HYM : Hid (Y ∈ A) := Lib.hid (by rw [← hY.out, List.getD_eq_getElem?_getD, List.getElem?_eq_getElem hkA]; exact List.getElem_mem _)
   have HHY : Hid (hasV F n J Y = true) := Lib.hid (by rw [← hJ.out]; exact in_join_l HFF.out HMN.out HBN.out HYM.out)
   obtain ⟨b1, o1, rfl, a1, c1, hc1, hny⟩ := MM.at (R := A) (by rw [HLA.out]; exact HMAr.out) hkA
   rw [hY.out, HVY.out.len] at hc1 hny
   have HNY := Lib.hid hny
   have hS0 : SKC F b cap n B BM (.slice (some ⟨b1, o1, none⟩) m cA) b1 (o1 + k) (.slice a1 n c1) wr wr.drew := ⟨HSKw.out, hc1, Lib.hid (World.block_lt_of_cell? wr _ hc1)⟩
   clear hny hc1 hkA
   go_wp2_with fail
   refine wp_region_held_drew (S := fun w' => SKC F b cap n B BM (.slice (some ⟨b1, o1, none⟩) m cA) b1 (o1 + k) (.slice a1 n c1) wr w') (by kernel_rfl) (by with_reducible exact hS0) (fun hHeld => ?_)
   refine Rg.tk 0 ⟨some 80,.load 29 (.tmp 9),29,"law.go:237",#[],none⟩ ?_
   try simp only [Rg.gp]
   refine Rg.tk 1 ⟨some 81,.move (.tmp 13),30,"law.go:237",#[],none⟩ ?_
   try simp only [Rg.gp]
   refine Rg.tk 2 ⟨some 82,.move (.tmp 11),30,"law.go:237",#[],none⟩ ?_
   try simp only [Rg.gp]
   refine Rg.tk 3 ⟨some 83,.move (.tmp 15),3,"law.go:237",#[],none⟩ ?_
   try simp only [Rg.gp]
   refine Rg.tk 4 ⟨some 84,.indexAddr 30 (.tmp 82) (.tmp 83),0,"law.go:237",#[⟨2,.data⟩,⟨3,.data⟩],none⟩ ?_
   try simp only [Rg.gp]
   refine Rg.tk 5 ⟨some 85,.load 27 (.tmp 84),27,"law.go:237",#[⟨4,.data⟩],none⟩ ?_
   try simp only [Rg.gp]
   refine Rg.rd1 6 ⟨some 86,.call ⟨.value (.func 26),#[.tmp 80,.tmp 81,.tmp 85],#[29,30,27]⟩,4,"law.go:237",#[⟨0,.data⟩,⟨1,.data⟩,⟨5,.data⟩],none⟩ fun K hK => ?_
   go_simp
   go_at_call 26
   with_reducible refine ((show Calls Try.prog 26 #[FV F b cap, .slice aJ jl cJ, .slice a1 n c1] _ (fun e w' => e = .returned (.bool true) ∧ Below _ _ w') from by have t := has_c (n := n) (A := J) (V := Y) (aa := aJ) (ca := cJ) hHeld.1.2.2.out.1 (by omega) (by omega) (by rw [hjl.out]; omega) HJN.out HVY.out (by rw [hjl.out]; exact HMJr.out.below hHeld.1.2.2.out.2.1) (HNY.out.below hHeld.1.2.2.out.2.1); rw [hjl.out, HHY.out] at t; exact t)).mono ?_
   rintro z v0 ⟨rfl, hb0⟩
   refine hK.out _ _ ?_ (fun hHeld => ?_)
   ·(try dsimp only)
    exact SKC.keep hHeld hb0
   clear hK K
   try simp only [Rg.gp]
   refine Rg.tk 7 ⟨some 87,.unOp UnOp.not 4 (.tmp 86),4,"law.go:237",#[⟨6,.data⟩],none⟩ ?_
   try simp only [Rg.gp]
   refine wpAnyH_done (by kernel_rfl) ?_ _
   have HB5 := Lib.hid (KB.out.trans (hHeld.1.2.2.out.2.1.mono KB.out.size))
   clear hHeld hS0
   go_wp2
   go_roundw
   case rel => exact ⟨k + 1, by omega, by go_num, HB5⟩
   case measure => simp [intOf]; omega
  ·obtain rfl : m = k := by omega
   have hlt1 : ¬ (m : Int) < (m : Int) := by omega
   obtain ⟨wz, hwz⟩ : ∃ w, w = wr := ⟨_, rfl⟩
   subst hwz
   have HSK9 : Hid (SKL F b cap n B BM (.slice aA m cA) w4 wz) := HSKr
   clear HSKr HSKw KB hlt hk
   have HMA9 := HMAr
   have HMB9 := HMBr
   have HMJ9 := HMJr
   have HMM9 := HMMr
   clear HMAr HMBr HMJr HMMr
   obtain ⟨w9, hw9⟩ : ∃ w, w = wz := ⟨_, rfl⟩
   subst hw9
   go_wp2
   go_loopw [16] (fun i wr => ∃ k : Nat, k ≤ m2 ∧ i = .int .i64 k ∧ Hid (Below w9.heap.size w9 wr)) (fun i _ => m2 - (intOf i).toNat)
   case atStart => exact ⟨0, Nat.zero_le _, rfl, Below.refl _ _⟩
   case round =>
    obtain ⟨k, hk, rfl, KB⟩ := hrel
    have HSKr : Hid (SKL F b cap n B BM (.slice aA m cA) w4 wr) := Lib.hid (HSK9.out.keep KB.out)
    have HSKw : Hid (SKL F b cap n B BM (.slice aA m cA) wr wr.drew) := Lib.hid (SKL.draw HSKr.out)
    have HMAr := Lib.hid (HMA9.out.below KB.out)
    have HMBr := Lib.hid (HMB9.out.below KB.out)
    have HMJr := Lib.hid (HMJ9.out.below KB.out)
    have HMMr := Lib.hid (HMM9.out.below KB.out)
    by_cases hlt : k < m2
    ·have hkA : k < Bm.length := by rw [HBL.out]; exact hlt
     obtain ⟨Y, hY⟩ : ∃ L, Hid (Bm.getD k [] = L) := ⟨_, Lib.hid rfl⟩
     have HVY : Hid (Vn F n Y) := Lib.hid (by rw [← hY.out]; exact mrow HBN.out hkA)
     have HYM : Hid (Y ∈ Bm) := Lib.hid (by rw [← hY.out, List.getD_eq_getElem?_getD, List.getElem?_eq_getElem hkA]; exact List.getElem_mem _)
     have HHY : Hid (hasV F n J Y = true) := Lib.hid (by rw [← hJ.out]; exact in_join_r HFF.out HMN.out HBN.out HYM.out)
     obtain ⟨b1, o1, rfl, a1, c1, hc1, hny⟩ := MM.at (R := Bm) (by rw [HBL.out]; exact HMBr.out) hkA
     rw [hY.out, HVY.out.len] at hc1 hny
     have HNY := Lib.hid hny
     have hS0 : SKC F b cap n B BM (.slice aA m cA) b1 (o1 + k) (.slice a1 n c1) wr wr.drew := ⟨HSKw.out, hc1, Lib.hid (World.block_lt_of_cell? wr _ hc1)⟩
     clear hny hc1 hkA
     go_wp2_with fail
     refine wp_region_held_drew (S := fun w' => SKC F b cap n B BM (.slice aA m cA) b1 (o1 + k) (.slice a1 n c1) wr w') (by kernel_rfl) (by with_reducible exact hS0) (fun hHeld => ?_)
     refine Rg.tk 0 ⟨some 94,.load 29 (.tmp 9),29,"law.go:242",#[],none⟩ ?_
     try simp only [Rg.gp]
     refine Rg.tk 1 ⟨some 95,.move (.tmp 13),30,"law.go:242",#[],none⟩ ?_
     try simp only [Rg.gp]
     refine Rg.tk 2 ⟨some 96,.move (.tmp 12),30,"law.go:242",#[],none⟩ ?_
     try simp only [Rg.gp]
     refine Rg.tk 3 ⟨some 97,.move (.tmp 16),3,"law.go:242",#[],none⟩ ?_
     try simp only [Rg.gp]
     refine Rg.tk 4 ⟨some 98,.indexAddr 30 (.tmp 96) (.tmp 97),0,"law.go:242",#[⟨2,.data⟩,⟨3,.data⟩],none⟩ ?_
     try simp only [Rg.gp]
     refine Rg.tk 5 ⟨some 99,.load 27 (.tmp 98),27,"law.go:242",#[⟨4,.data⟩],none⟩ ?_
     try simp only [Rg.gp]
     refine Rg.rd1 6 ⟨some 100,.call ⟨.value (.func 26),#[.tmp 94,.tmp 95,.tmp 99],#[29,30,27]⟩,4,"law.go:242",#[⟨0,.data⟩,⟨1,.data⟩,⟨5,.data⟩],none⟩ fun K hK => ?_
     go_simp
     go_at_call 26
     with_reducible refine ((show Calls Try.prog 26 #[FV F b cap, .slice aJ jl cJ, .slice a1 n c1] _ (fun e w' => e = .returned (.bool true) ∧ Below _ _ w') from by have t := has_c (n := n) (A := J) (V := Y) (aa := aJ) (ca := cJ) hHeld.1.2.2.out.1 (by omega) (by omega) (by rw [hjl.out]; omega) HJN.out HVY.out (by rw [hjl.out]; exact HMJr.out.below hHeld.1.2.2.out.2.1) (HNY.out.below hHeld.1.2.2.out.2.1); rw [hjl.out, HHY.out] at t; exact t)).mono ?_
     rintro z v0 ⟨rfl, hb0⟩
     refine hK.out _ _ ?_ (fun hHeld => ?_)
     ·(try dsimp only)
      exact SKC.keep hHeld hb0
     clear hK K
     try simp only [Rg.gp]
     refine Rg.tk 7 ⟨some 101,.unOp UnOp.not 4 (.tmp 100),4,"law.go:242",#[⟨6,.data⟩],none⟩ ?_
     try simp only [Rg.gp]
     refine wpAnyH_done (by kernel_rfl) ?_ _
     have HB5 := Lib.hid (KB.out.trans (hHeld.1.2.2.out.2.1.mono KB.out.size))
     clear hHeld hS0
     go_wp2
     go_roundw
     case rel => exact ⟨k + 1, by omega, by go_num, HB5⟩
     case measure => simp [intOf]; omega
    ·obtain rfl : m2 = k := by omega
     have hlt1 : ¬ (m2 : Int) < (m2 : Int) := by omega
     obtain ⟨wz, hwz⟩ : ∃ w, w = wr := ⟨_, rfl⟩
     subst hwz
     have HSK9 : Hid (SKL F b cap n B BM (.slice aA m cA) w4 wz) := HSKr
     clear HSKr HSKw KB hlt hk
     have HMA9 := HMAr
     have HMB9 := HMBr
     have HMJ9 := HMJr
     have HMM9 := HMMr
     clear HMAr HMBr HMJr HMMr
     obtain ⟨w9, hw9⟩ : ∃ w, w = wz := ⟨_, rfl⟩
     subst hw9
     go_wp2
     go_loopw [17] (fun i wr => ∃ k : Nat, k ≤ ml ∧ i = .int .i64 k ∧ Hid (Below w9.heap.size w9 wr)) (fun i _ => ml - (intOf i).toNat)
     case atStart => exact ⟨0, Nat.zero_le _, rfl, Below.refl _ _⟩
     case round =>
      obtain ⟨k, hk, rfl, KB⟩ := hrel
      have HSKr : Hid (SKL F b cap n B BM (.slice aA m cA) w4 wr) := Lib.hid (HSK9.out.keep KB.out)
      have HSKw : Hid (SKL F b cap n B BM (.slice aA m cA) wr wr.drew) := Lib.hid (SKL.draw HSKr.out)
      have HMAr := Lib.hid (HMA9.out.below KB.out)
      have HMBr := Lib.hid (HMB9.out.below KB.out)
      have HMJr := Lib.hid (HMJ9.out.below KB.out)
      have HMMr := Lib.hid (HMM9.out.below KB.out)
      by_cases hlt : k < ml
      ·have hkA : k < M.length := by rw [hml.out]; exact hlt
       obtain ⟨Y, hY⟩ : ∃ L, Hid (M.getD k [] = L) := ⟨_, Lib.hid rfl⟩
       have HVY : Hid (Vn F n Y) := Lib.hid (by rw [← hY.out]; exact mrow HMM0.out hkA)
       have HYM : Hid (Y ∈ M) := Lib.hid (by rw [← hY.out, List.getD_eq_getElem?_getD, List.getElem?_eq_getElem hkA]; exact List.getElem_mem _)
       have HHY : Hid (hasV F n A Y = true ∧ hasV F n Bm Y = true) := Lib.hid (of_meet HFF.out HMN.out HBN.out (by rw [hM.out]; exact HYM.out))
       obtain ⟨b1, o1, rfl, a1, c1, hc1, hny⟩ := MM.at (R := M) (by rw [hml.out]; exact HMMr.out) hkA
       rw [hY.out, HVY.out.len] at hc1 hny
       have HNY := Lib.hid hny
       have hS0 : SKC F b cap n B BM (.slice aA m cA) b1 (o1 + k) (.slice a1 n c1) wr wr.drew := ⟨HSKw.out, hc1, Lib.hid (World.block_lt_of_cell? wr _ hc1)⟩
       clear hny hc1 hkA
       go_wp2_with fail
       refine wp_region_held_drew (S := fun w' => SKC F b cap n B BM (.slice aA m cA) b1 (o1 + k) (.slice a1 n c1) wr w') (by kernel_rfl) (by with_reducible exact hS0) (fun hHeld => ?_)
       refine Rg.tk 0 ⟨some 108,.load 29 (.tmp 9),29,"law.go:247",#[],none⟩ ?_
       try simp only [Rg.gp]
       refine Rg.tk 1 ⟨some 109,.move (.tmp 11),30,"law.go:247",#[],none⟩ ?_
       try simp only [Rg.gp]
       refine Rg.tk 2 ⟨some 110,.move (.tmp 14),30,"law.go:247",#[],none⟩ ?_
       try simp only [Rg.gp]
       refine Rg.tk 3 ⟨some 111,.move (.tmp 17),3,"law.go:247",#[],none⟩ ?_
       try simp only [Rg.gp]
       refine Rg.tk 4 ⟨some 112,.indexAddr 30 (.tmp 110) (.tmp 111),0,"law.go:247",#[⟨2,.data⟩,⟨3,.data⟩],none⟩ ?_
       try simp only [Rg.gp]
       refine Rg.tk 5 ⟨some 113,.load 27 (.tmp 112),27,"law.go:247",#[⟨4,.data⟩],none⟩ ?_
       try simp only [Rg.gp]
       refine Rg.rd1 6 ⟨some 114,.call ⟨.value (.func 26),#[.tmp 108,.tmp 109,.tmp 113],#[29,30,27]⟩,4,"law.go:247",#[⟨0,.data⟩,⟨1,.data⟩,⟨5,.data⟩],none⟩ fun K hK => ?_
       go_simp
       go_at_call 26
       with_reducible refine ((show Calls Try.prog 26 #[FV F b cap, .slice aA m cA, .slice a1 n c1] _ (fun e w' => e = .returned (.bool true) ∧ Below _ _ w') from by have t := has_c (n := n) (A := A) (V := Y) (aa := aA) (ca := cA) hHeld.1.2.2.out.1 (by omega) (by omega) (by rw [HLA.out]; omega) HMN.out HVY.out (by rw [HLA.out]; exact HMAr.out.below hHeld.1.2.2.out.2.1) (HNY.out.below hHeld.1.2.2.out.2.1); rw [HLA.out, HHY.out.1] at t; exact t)).mono ?_
       rintro z v0 ⟨rfl, hb0⟩
       refine hK.out _ _ ?_ (fun hHeld => ?_)
       ·(try dsimp only)
        exact SKC.keep hHeld hb0
       clear hK K
       try simp only [Rg.gp]
       refine Rg.tk 7 ⟨some 115,.unOp UnOp.not 4 (.tmp 114),4,"law.go:247",#[⟨6,.data⟩],none⟩ ?_
       try simp only [Rg.gp]
       refine Rg.tk 8 ⟨some 116,.move (.tmp 115),4,"law.go:247",#[⟨7,.data⟩,⟨6,.chain⟩],none⟩ ?_
       try simp only [Rg.gp]
       refine Rg.tk 9 ⟨some 117,.load 29 (.tmp 9),29,"law.go:247",#[⟨8,.guard⟩],some (8, false)⟩ ?_
       try simp only [Rg.gp]
       refine Rg.tk 10 ⟨some 118,.move (.tmp 12),30,"law.go:247",#[⟨8,.guard⟩],some (8, false)⟩ ?_
       try simp only [Rg.gp]
       refine Rg.tk 11 ⟨some 119,.move (.tmp 14),30,"law.go:247",#[⟨8,.guard⟩],some (8, false)⟩ ?_
       try simp only [Rg.gp]
       refine Rg.tk 12 ⟨some 120,.move (.tmp 17),3,"law.go:247",#[⟨8,.guard⟩],some (8, false)⟩ ?_
       try simp only [Rg.gp]
       refine Rg.tk 13 ⟨some 121,.indexAddr 30 (.tmp 119) (.tmp 120),0,"law.go:247",#[⟨11,.data⟩,⟨12,.data⟩,⟨8,.guard⟩],some (8, false)⟩ ?_
       try simp only [Rg.gp]
       refine Rg.tk 14 ⟨some 122,.load 27 (.tmp 121),27,"law.go:247",#[⟨13,.data⟩,⟨8,.guard⟩],some (8, false)⟩ ?_
       try simp only [Rg.gp]
       refine Rg.rd1 15 ⟨some 123,.call ⟨.value (.func 26),#[.tmp 117,.tmp 118,.tmp 122],#[29,30,27]⟩,4,"law.go:247",#[⟨9,.data⟩,⟨10,.data⟩,⟨14,.data⟩,⟨8,.chain⟩,⟨8,.guard⟩],some (8, false)⟩ fun K hK => ?_
       go_simp
       go_at_call 26
       with_reducible refine ((show Calls Try.prog 26 #[FV F b cap, .slice aB m2 cB, .slice a1 n c1] _ (fun e w' => e = .returned (.bool true) ∧ Below _ _ w') from by have t := has_c (n := n) (A := Bm) (V := Y) (aa := aB) (ca := cB) hHeld.1.2.2.out.1 (by omega) (by omega) (by rw [HBL.out]; omega) HBN.out HVY.out (by rw [HBL.out]; exact HMBr.out.below hHeld.1.2.2.out.2.1) (HNY.out.below hHeld.1.2.2.out.2.1); rw [HBL.out, HHY.out.2] at t; exact t)).mono ?_
       rintro z v1 ⟨rfl, hb1⟩
       refine hK.out _ _ ?_ (fun hHeld => ?_)
       ·(try dsimp only)
        exact SKC.keep hHeld hb1
       clear hK K
       try simp only [Rg.gp]
       refine Rg.tk 16 ⟨some 124,.unOp UnOp.not 4 (.tmp 123),4,"law.go:247",#[⟨15,.data⟩,⟨8,.guard⟩],some (8, false)⟩ ?_
       try simp only [Rg.gp]
       refine Rg.tk 17 ⟨some 125,.pick (.tmp 116) (.const (Value.bool true)) (.tmp 124),4,"law.go:247",#[⟨8,.data⟩,⟨16,.data⟩],none⟩ ?_
       try simp only [Rg.gp]
       refine wpAnyH_done (by kernel_rfl) ?_ _
       have HB5 := Lib.hid (KB.out.trans (hHeld.1.2.2.out.2.1.mono KB.out.size))
       clear hHeld hS0
       go_wp2
       go_roundw
       case rel => exact ⟨k + 1, by omega, by go_num, HB5⟩
       case measure => simp [intOf]; omega
      ·obtain rfl : ml = k := by omega
       have hlt1 : ¬ (ml : Int) < (ml : Int) := by omega
       obtain ⟨wz, hwz⟩ : ∃ w, w = wr := ⟨_, rfl⟩
       subst hwz
       have HSK9 : Hid (SKL F b cap n B BM (.slice aA m cA) w4 wz) := HSKr
       clear HSKr HSKw KB hlt hk
       have HMA9 := HMAr
       have HMB9 := HMBr
       have HMJ9 := HMJr
       have HMM9 := HMMr
       clear HMAr HMBr HMJr HMMr
       obtain ⟨w9, hw9⟩ : ∃ w, w = wz := ⟨_, rfl⟩
       subst hw9
       obtain ⟨KA, hKA⟩ : ∃ x, Hid (kerM F n A = x) := ⟨_, Lib.hid rfl⟩
       obtain ⟨ka, hka⟩ : ∃ k, Hid (KA.length = k) := ⟨_, Lib.hid rfl⟩
       obtain ⟨KBm, hKB⟩ : ∃ x, Hid (kerM F n Bm = x) := ⟨_, Lib.hid rfl⟩
       obtain ⟨kb, hkb⟩ : ∃ k, Hid (KBm.length = k) := ⟨_, Lib.hid rfl⟩
       obtain ⟨JK, hJK⟩ : ∃ x, Hid (joM F n KA KBm = x) := ⟨_, Lib.hid rfl⟩
       obtain ⟨jk, hjk⟩ : ∃ k, Hid (JK.length = k) := ⟨_, Lib.hid rfl⟩
       have HKAN : Hid (Mn F n KA) := Lib.hid (by rw [← hKA.out]; exact (kerM_ok HFF.out HMN.out).1)
       have HKBN : Hid (Mn F n KBm) := Lib.hid (by rw [← hKB.out]; exact (kerM_ok HFF.out HBN.out).1)
       have HJKN : Hid (Mn F n JK) := Lib.hid (by rw [← hJK.out]; exact (redM_ok HFF.out (mapp HKAN.out HKBN.out)).1)
       have hka8 : ka ≤ 8 := by have := kerM_le HFF.out HMN.out; have h2 := hKA.out; have h3 := hka.out; rw [← h3, ← h2]; exact Nat.le_trans this (by omega)
       have hkb8 : kb ≤ 8 := by have := kerM_le HFF.out HBN.out; have h2 := hKB.out; have h3 := hkb.out; rw [← h3, ← h2]; exact Nat.le_trans this (by omega)
       have hjk8 : jk ≤ 8 := by have := redM_leN HFF.out (mapp HKAN.out HKBN.out); have h2 := hJK.out; have h3 := hjk.out; rw [← h3, ← h2]; exact Nat.le_trans this (by omega)
       have HKM : Hid (kerM F n JK = M) := Lib.hid (by rw [← hJK.out, ← hKA.out, ← hKB.out, ← hM.out]; exact meM_joM HFF.out HMN.out HBN.out)
       have HMC : Hid (meM F n Bm A = M) := Lib.hid (by rw [← hM.out]; exact meM_comm HFF.out HBN.out HMN.out)
       have HJC : Hid (joM F n Bm A = J) := Lib.hid (by rw [← hJ.out]; exact joM_comm HFF.out HBN.out HMN.out)
       have hS0 : SKL F b cap n B BM (.slice aA m cA) w9 w9.drew := SKL.draw HSK9.out
       go_wp2_with fail
       refine wp_region_held_drew (S := fun w' => SKL F b cap n B BM (.slice aA m cA) w9 w') (by kernel_rfl) (by with_reducible exact hS0) (fun hHeld => ?_)
       refine Rg.tk 0 ⟨some 126,.move (.tmp 14),30,"law.go:251",#[],none⟩ ?_
       try simp only [Rg.gp]
       refine Rg.tk 1 ⟨some 127,.load 29 (.tmp 9),29,"law.go:251",#[],none⟩ ?_
       try simp only [Rg.gp]
       refine Rg.tk 2 ⟨some 128,.move (.tmp 10),3,"law.go:251",#[],none⟩ ?_
       try simp only [Rg.gp]
       refine Rg.tk 3 ⟨some 129,.load 29 (.tmp 9),29,"law.go:251",#[],none⟩ ?_
       try simp only [Rg.gp]
       refine Rg.tk 4 ⟨some 130,.load 29 (.tmp 9),29,"law.go:251",#[],none⟩ ?_
       try simp only [Rg.gp]
       refine Rg.tk 5 ⟨some 131,.move (.tmp 10),3,"law.go:251",#[],none⟩ ?_
       try simp only [Rg.gp]
       refine Rg.tk 6 ⟨some 132,.move (.tmp 11),30,"law.go:251",#[],none⟩ ?_
       try simp only [Rg.gp]
       refine Rg.tk 8 ⟨some 134,.load 29 (.tmp 9),29,"law.go:251",#[],none⟩ ?_
       try simp only [Rg.gp]
       refine Rg.tk 9 ⟨some 135,.move (.tmp 10),3,"law.go:251",#[],none⟩ ?_
       try simp only [Rg.gp]
       refine Rg.tk 10 ⟨some 136,.move (.tmp 12),30,"law.go:251",#[],none⟩ ?_
       try simp only [Rg.gp]
       refine Rg.rd1 7 ⟨some 133,.call ⟨.value (.func 18),#[.tmp 130,.tmp 131,.tmp 132],#[29,3,30]⟩,30,"law.go:251",#[⟨4,.data⟩,⟨5,.data⟩,⟨6,.data⟩],none⟩ fun K hK => ?_
       go_simp
       go_at_call 18
       with_reducible refine ((show Calls Try.prog 18 #[FV F b cap, .int .i64 (n : Nat), .slice aA m cA] _ (MPn KA ka _) from by have t := kern_c (n := n) (A := A) (aa := aA) (ca := cA) hHeld.2.2.out.1 (by omega) (by omega) (by rw [HLA.out]; omega) HMN.out (by rw [HLA.out]; exact HMA9.out.below hHeld.2.2.out.2.1); rw [HLA.out, show kerM F n A = KA from hKA.out] at t; exact t.mono fun _ _ h => h.n hka.out)).mono ?_
       rintro z v0 ⟨a20, c20, rfl, hm20, hb0⟩
       refine hK.out _ _ ?_ (fun hHeld => ?_)
       ·(try dsimp only)
        exact SKL.keep hHeld hb0
       clear hK K
       try simp only [Rg.gp]
       refine Rg.rd1 11 ⟨some 137,.call ⟨.value (.func 18),#[.tmp 134,.tmp 135,.tmp 136],#[29,3,30]⟩,30,"law.go:251",#[⟨8,.data⟩,⟨9,.data⟩,⟨10,.data⟩,⟨7,.chain⟩],none⟩ fun K hK => ?_
       go_simp
       go_at_call 18
       with_reducible refine ((show Calls Try.prog 18 #[FV F b cap, .int .i64 (n : Nat), .slice aB m2 cB] _ (MPn KBm kb _) from by have t := kern_c (n := n) (A := Bm) (aa := aB) (ca := cB) hHeld.2.2.out.1 (by omega) (by omega) (by rw [HBL.out]; omega) HBN.out (by rw [HBL.out]; exact HMB9.out.below hHeld.2.2.out.2.1); rw [HBL.out, show kerM F n Bm = KBm from hKB.out] at t; exact t.mono fun _ _ h => h.n hkb.out)).mono ?_
       rintro z v1 ⟨a21, c21, rfl, hm21, hb1⟩
       replace hm20 := hm20.below hb1
       refine hK.out _ _ ?_ (fun hHeld => ?_)
       ·(try dsimp only)
        exact SKL.keep hHeld hb1
       clear hK K
       try simp only [Rg.gp]
       refine Rg.rd1 12 ⟨some 138,.call ⟨.value (.func 28),#[.tmp 129,.tmp 133,.tmp 137],#[29,30,30]⟩,30,"law.go:251",#[⟨3,.data⟩,⟨7,.data⟩,⟨11,.data⟩,⟨11,.chain⟩],none⟩ fun K hK => ?_
       go_simp
       go_at_call 28
       with_reducible refine ((show Calls Try.prog 28 #[FV F b cap, .slice a20 ka c20, .slice a21 kb c21] _ (MPn JK jk _) from by have t := join_c (n := n) (A := KA) (B := KBm) (aa := a20) (ca := c20) (ab := a21) (cb := c21) hHeld.2.2.out.1 (by omega) (by omega) (by rw [hka.out]; omega) (by rw [hkb.out]; omega) HKAN.out HKBN.out (by rw [hka.out]; exact hm20) (by rw [hkb.out]; exact hm21); rw [hka.out, hkb.out, show redM F n (KA ++ KBm) = JK from hJK.out] at t; exact t.mono fun _ _ h => h.n hjk.out)).mono ?_
       rintro z v2 ⟨a22, c22, rfl, hm22, hb2⟩
       refine hK.out _ _ ?_ (fun hHeld => ?_)
       ·(try dsimp only)
        exact SKL.keep hHeld hb2
       clear hK K
       try simp only [Rg.gp]
       refine Rg.rd1 13 ⟨some 139,.call ⟨.value (.func 18),#[.tmp 127,.tmp 128,.tmp 138],#[29,3,30]⟩,30,"law.go:251",#[⟨1,.data⟩,⟨2,.data⟩,⟨12,.data⟩,⟨12,.chain⟩],none⟩ fun K hK => ?_
       go_simp
       go_at_call 18
       with_reducible refine ((show Calls Try.prog 18 #[FV F b cap, .int .i64 (n : Nat), .slice a22 jk c22] _ (MPn M ml _) from by have t := kern_c (n := n) (A := JK) (aa := a22) (ca := c22) hHeld.2.2.out.1 (by omega) (by omega) (by rw [hjk.out]; omega) HJKN.out (by rw [hjk.out]; exact hm22); rw [hjk.out, show kerM F n JK = M from HKM.out] at t; exact t.mono fun _ _ h => h.n hml.out)).mono ?_
       rintro z v3 ⟨a23, c23, rfl, hm23, hb3⟩
       refine hK.out _ _ ?_ (fun hHeld => ?_)
       ·(try dsimp only)
        exact SKL.keep hHeld hb3
       clear hK K
       try simp only [Rg.gp]
       refine Rg.rd1 14 ⟨some 140,.call ⟨.value (.func 14),#[.tmp 126,.tmp 139],#[30,30]⟩,4,"law.go:251",#[⟨0,.data⟩,⟨13,.data⟩,⟨13,.chain⟩],none⟩ fun K hK => ?_
       go_simp
       go_at_call 14
       with_reducible refine ((show Calls Try.prog 14 #[.slice aM ml cM, .slice a23 ml c23] _ (fun e w' => e = .returned (.bool true) ∧ Below _ _ w') from by have t := alike_c (A := M) (B := M) (aa := aM) (ca := cM) (ab := a23) (cb := c23) (by rw [hml.out]; omega) (by rw [hml.out]; omega) (fun t ht => by rw [(mrow HMM0.out ht).len]; omega) (fun t ht => by rw [(mrow HMM0.out ht).len]; omega) (by rw [hml.out]; exact HMM9.out.below hHeld.2.2.out.2.1) (by rw [hml.out]; exact hm23); rw [hml.out, decide_eq_true rfl] at t; exact t)).mono ?_
       rintro z v4 ⟨rfl, hb4⟩
       refine hK.out _ _ ?_ (fun hHeld => ?_)
       ·(try dsimp only)
        exact SKL.keep hHeld hb4
       clear hK K
       try simp only [Rg.gp]
       refine Rg.tk 15 ⟨some 141,.unOp UnOp.not 4 (.tmp 140),4,"law.go:251",#[⟨14,.data⟩],none⟩ ?_
       try simp only [Rg.gp]
       refine Rg.tk 16 ⟨some 142,.move (.tmp 141),4,"law.go:251",#[⟨15,.data⟩,⟨14,.chain⟩],none⟩ ?_
       try simp only [Rg.gp]
       refine Rg.tk 17 ⟨some 143,.move (.tmp 14),30,"law.go:251",#[⟨16,.guard⟩],some (16, false)⟩ ?_
       try simp only [Rg.gp]
       refine Rg.tk 18 ⟨some 144,.load 29 (.tmp 9),29,"law.go:251",#[⟨16,.guard⟩],some (16, false)⟩ ?_
       try simp only [Rg.gp]
       refine Rg.tk 19 ⟨some 145,.move (.tmp 10),3,"law.go:251",#[⟨16,.guard⟩],some (16, false)⟩ ?_
       try simp only [Rg.gp]
       refine Rg.tk 20 ⟨some 146,.move (.tmp 12),30,"law.go:251",#[⟨16,.guard⟩],some (16, false)⟩ ?_
       try simp only [Rg.gp]
       refine Rg.tk 21 ⟨some 147,.move (.tmp 11),30,"law.go:251",#[⟨16,.guard⟩],some (16, false)⟩ ?_
       try simp only [Rg.gp]
       refine Rg.rd1 22 ⟨some 148,.call ⟨.value (.func 30),#[.tmp 144,.tmp 145,.tmp 146,.tmp 147],#[29,3,30,30]⟩,30,"law.go:251",#[⟨18,.data⟩,⟨19,.data⟩,⟨20,.data⟩,⟨21,.data⟩,⟨16,.chain⟩,⟨16,.guard⟩],some (16, false)⟩ fun K hK => ?_
       go_simp
       go_at_call 30
       with_reducible refine ((show Calls Try.prog 30 #[FV F b cap, .int .i64 (n : Nat), .slice aB m2 cB, .slice aA m cA] _ (MPn M ml _) from by have t := meet_c (n := n) (A := Bm) (B := A) (aa := aB) (ca := cB) (ab := aA) (cb := cA) hHeld.2.2.out.1 (by omega) (by omega) (by rw [HBL.out]; omega) (by rw [HLA.out]; omega) HBN.out HMN.out (by rw [HBL.out]; exact HMB9.out.below hHeld.2.2.out.2.1) (by rw [HLA.out]; exact HMA9.out.below hHeld.2.2.out.2.1); rw [HBL.out, HLA.out, show kerM F n (kerM F n Bm ++ kerM F n A) = M from HMC.out] at t; exact t.mono fun _ _ h => h.n hml.out)).mono ?_
       rintro z v5 ⟨a24, c24, rfl, hm24, hb5⟩
       refine hK.out _ _ ?_ (fun hHeld => ?_)
       ·(try dsimp only)
        exact SKL.keep hHeld hb5
       clear hK K
       try simp only [Rg.gp]
       refine Rg.rd1 23 ⟨some 149,.call ⟨.value (.func 14),#[.tmp 143,.tmp 148],#[30,30]⟩,4,"law.go:251",#[⟨17,.data⟩,⟨22,.data⟩,⟨22,.chain⟩,⟨16,.guard⟩],some (16, false)⟩ fun K hK => ?_
       go_simp
       go_at_call 14
       with_reducible refine ((show Calls Try.prog 14 #[.slice aM ml cM, .slice a24 ml c24] _ (fun e w' => e = .returned (.bool true) ∧ Below _ _ w') from by have t := alike_c (A := M) (B := M) (aa := aM) (ca := cM) (ab := a24) (cb := c24) (by rw [hml.out]; omega) (by rw [hml.out]; omega) (fun t ht => by rw [(mrow HMM0.out ht).len]; omega) (fun t ht => by rw [(mrow HMM0.out ht).len]; omega) (by rw [hml.out]; exact HMM9.out.below hHeld.2.2.out.2.1) (by rw [hml.out]; exact hm24); rw [hml.out, decide_eq_true rfl] at t; exact t)).mono ?_
       rintro z v6 ⟨rfl, hb6⟩
       refine hK.out _ _ ?_ (fun hHeld => ?_)
       ·(try dsimp only)
        exact SKL.keep hHeld hb6
       clear hK K
       try simp only [Rg.gp]
       refine Rg.tk 24 ⟨some 150,.unOp UnOp.not 4 (.tmp 149),4,"law.go:251",#[⟨23,.data⟩,⟨16,.guard⟩],some (16, false)⟩ ?_
       try simp only [Rg.gp]
       refine Rg.tk 25 ⟨some 151,.pick (.tmp 142) (.const (Value.bool true)) (.tmp 150),4,"law.go:251",#[⟨16,.data⟩,⟨24,.data⟩],none⟩ ?_
       try simp only [Rg.gp]
       refine Rg.tk 26 ⟨some 152,.move (.tmp 151),4,"law.go:251",#[⟨25,.data⟩,⟨23,.chain⟩],none⟩ ?_
       try simp only [Rg.gp]
       refine Rg.tk 27 ⟨some 153,.move (.tmp 13),30,"law.go:251",#[⟨26,.guard⟩],some (26, false)⟩ ?_
       try simp only [Rg.gp]
       refine Rg.tk 28 ⟨some 154,.load 29 (.tmp 9),29,"law.go:251",#[⟨26,.guard⟩],some (26, false)⟩ ?_
       try simp only [Rg.gp]
       refine Rg.tk 29 ⟨some 155,.move (.tmp 12),30,"law.go:251",#[⟨26,.guard⟩],some (26, false)⟩ ?_
       try simp only [Rg.gp]
       refine Rg.tk 30 ⟨some 156,.move (.tmp 11),30,"law.go:251",#[⟨26,.guard⟩],some (26, false)⟩ ?_
       try simp only [Rg.gp]
       refine Rg.rd1 31 ⟨some 157,.call ⟨.value (.func 28),#[.tmp 154,.tmp 155,.tmp 156],#[29,30,30]⟩,30,"law.go:251",#[⟨28,.data⟩,⟨29,.data⟩,⟨30,.data⟩,⟨26,.chain⟩,⟨26,.guard⟩],some (26, false)⟩ fun K hK => ?_
       go_simp
       go_at_call 28
       with_reducible refine ((show Calls Try.prog 28 #[FV F b cap, .slice aB m2 cB, .slice aA m cA] _ (MPn J jl _) from by have t := join_c (n := n) (A := Bm) (B := A) (aa := aB) (ca := cB) (ab := aA) (cb := cA) hHeld.2.2.out.1 (by omega) (by omega) (by rw [HBL.out]; omega) (by rw [HLA.out]; omega) HBN.out HMN.out (by rw [HBL.out]; exact HMB9.out.below hHeld.2.2.out.2.1) (by rw [HLA.out]; exact HMA9.out.below hHeld.2.2.out.2.1); rw [HBL.out, HLA.out, show redM F n (Bm ++ A) = J from HJC.out] at t; exact t.mono fun _ _ h => h.n hjl.out)).mono ?_
       rintro z v7 ⟨a25, c25, rfl, hm25, hb7⟩
       refine hK.out _ _ ?_ (fun hHeld => ?_)
       ·(try dsimp only)
        exact SKL.keep hHeld hb7
       clear hK K
       try simp only [Rg.gp]
       refine Rg.rd1 32 ⟨some 158,.call ⟨.value (.func 14),#[.tmp 153,.tmp 157],#[30,30]⟩,4,"law.go:251",#[⟨27,.data⟩,⟨31,.data⟩,⟨31,.chain⟩,⟨26,.guard⟩],some (26, false)⟩ fun K hK => ?_
       go_simp
       go_at_call 14
       with_reducible refine ((show Calls Try.prog 14 #[.slice aJ jl cJ, .slice a25 jl c25] _ (fun e w' => e = .returned (.bool true) ∧ Below _ _ w') from by have t := alike_c (A := J) (B := J) (aa := aJ) (ca := cJ) (ab := a25) (cb := c25) (by rw [hjl.out]; omega) (by rw [hjl.out]; omega) (fun t ht => by rw [(mrow HJN.out ht).len]; omega) (fun t ht => by rw [(mrow HJN.out ht).len]; omega) (by rw [hjl.out]; exact HMJ9.out.below hHeld.2.2.out.2.1) (by rw [hjl.out]; exact hm25); rw [hjl.out, decide_eq_true rfl] at t; exact t)).mono ?_
       rintro z v8 ⟨rfl, hb8⟩
       refine hK.out _ _ ?_ (fun hHeld => ?_)
       ·(try dsimp only)
        exact SKL.keep hHeld hb8
       clear hK K
       try simp only [Rg.gp]
       refine Rg.tk 33 ⟨some 159,.unOp UnOp.not 4 (.tmp 158),4,"law.go:251",#[⟨32,.data⟩,⟨26,.guard⟩],some (26, false)⟩ ?_
       try simp only [Rg.gp]
       refine Rg.tk 34 ⟨some 160,.pick (.tmp 152) (.const (Value.bool true)) (.tmp 159),4,"law.go:251",#[⟨26,.data⟩,⟨33,.data⟩],none⟩ ?_
       try simp only [Rg.gp]
       refine wpAnyH_done (by kernel_rfl) ?_ _
       have hb9A : Hid (Below w9.heap.size w9 v8) := Lib.hid hHeld.2.2.out.2.1
       have HSKA : Hid (SKL F b cap n B BM (.slice aA m cA) w4 v8) := Lib.hid (HSK9.out.keep hb9A.out)
       have HMAA := Lib.hid (HMA9.out.below hb9A.out)
       have HMBA := Lib.hid (HMB9.out.below hb9A.out)
       have HMJA := Lib.hid (HMJ9.out.below hb9A.out)
       have HMMA := Lib.hid (HMM9.out.below hb9A.out)
       clear hHeld hS0 hb0 hb1 hb2 hb3 hb4 hb5 hb6 hb7 hb8 hm20 hm21 hm22 hm23 hm24 hm25
       obtain ⟨wA, hwA⟩ : ∃ w, w = v8 := ⟨_, rfl⟩
       subst hwA
       have HBA : Hid (Below w4.heap.size w4 wA) := Lib.hid HSKA.out.2.2.out.2.1
       have HNBA : Hid (N16 l2 wA (.slice ab l2 ca2)) := Lib.hid (HNB4.out.below HBA.out)
       have hzc : wA.cell? ⟨GZ, 1, none⟩ = some (.int .u8 (z1 : Nat)) := (HBA.out.cell HZB4.out.2.2).trans HZB4.out.2.1
       have HGZ : Hid (GZ < wA.heap.size) := Lib.hid (Nat.lt_of_lt_of_le HZB4.out.2.2 HBA.out.size)
       have HLTS : Hid (B < wA.heap.size ∧ BM < wA.heap.size ∧ b < wA.heap.size ∧ GZ < wA.heap.size) := Lib.hid ⟨HSKA.out.2.2.out.2.2.1, HSKA.out.2.2.out.2.2.2, HSKA.out.2.2.out.1.lt, HGZ.out⟩
       have hwz8 : IntKind.u16.wrap (z1 : Int) = (z1 : Int) := by simp [IntKind.wrap, IntKind.signed, IntKind.bits]; omega
       have hwz1 : IntKind.i64.wrap (z1 : Int) = (z1 : Int) := IntWalk.i64_in _ (by omega)
       obtain ⟨i0, hi, hi0, hi1, hi2⟩ := info_parts info70
       have hS0 : SKZ F b cap n B BM (.slice aA m cA) GZ z1 wA wA.drew := ⟨SKL.draw HSKA.out, hzc, Lib.hid HGZ.out⟩
       clear hzc
       obtain ⟨base, hbs⟩ : ∃ g, g = wA.heap.size := ⟨_, rfl⟩
       have HBS : Hid (base = wA.heap.size) := Lib.hid hbs
       clear hbs
       go_wp2_with fail
       obtain ⟨YL, hYL⟩ := HNBA.out.src hsh
       have HYL := Lib.hid hYL
       clear hYL
       refine wp_region_held_drew (S := fun w' => SKZ F b cap n B BM (.slice aA m cA) GZ z1 wA w') (by kernel_rfl) (by with_reducible exact hS0) (fun hHeld => ?_)
       refine Rg.tk 0 ⟨some 161,.load 29 (.tmp 9),29,"law.go:254",#[],none⟩ ?_
       try simp only [Rg.gp]
       refine Rg.tk 1 ⟨some 162,.move (.tmp 11),30,"law.go:254",#[],none⟩ ?_
       try simp only [Rg.gp]
       refine Rg.tk 2 ⟨some 163,.load 29 (.tmp 9),29,"law.go:254",#[],none⟩ ?_
       try simp only [Rg.gp]
       refine Rg.tk 3 ⟨some 164,.move (.tmp 10),3,"law.go:254",#[],none⟩ ?_
       try simp only [Rg.gp]
       refine Rg.tk 4 ⟨some 165,.indexAddr 69 (.tmp 5) (.const (Value.int IntKind.i64 1)),0,"law.go:254",#[],none⟩ ?_
       try simp only [Rg.gp]
       refine Rg.tk 5 ⟨some 166,.load 5 (.tmp 165),5,"law.go:254",#[⟨4,.data⟩],none⟩ ?_
       try simp only [Rg.gp]
       refine Rg.tk 6 ⟨some 167,.convert 5 3 (.tmp 166),3,"law.go:254",#[⟨5,.data⟩],none⟩ ?_
       try simp only [Rg.gp]
       refine Rg.tk 7 ⟨some 168,.binOp BinOp.rem 3 (.tmp 167) (.const (Value.int IntKind.i64 4)) 3,3,"law.go:254",#[⟨6,.data⟩],none⟩ ?_
       try simp only [Rg.gp]
       refine Rg.tk 8 ⟨some 169,.indexAddr 69 (.tmp 5) (.const (Value.int IntKind.i64 1)),0,"law.go:254",#[],none⟩ ?_
       try simp only [Rg.gp]
       refine Rg.tk 9 ⟨some 170,.load 5 (.tmp 169),5,"law.go:254",#[⟨8,.data⟩],none⟩ ?_
       try simp only [Rg.gp]
       refine Rg.tk 10 ⟨some 171,.convert 5 70 (.tmp 170),70,"law.go:254",#[⟨9,.data⟩],none⟩ ?_
       try simp only [Rg.gp]
       refine Rg.tk 12 ⟨some 173,.move (.tmp 1),22,"law.go:254",#[],none⟩ ?_
       try simp only [Rg.gp]
       refine Rg.rd1 11 ⟨some 172,.buildSlice 22 1 #[(0, .tmp 171)],22,"law.go:254",#[⟨10,.data⟩],none⟩ fun K hK => ?_
       go_simp
       refine hK.out _ _ ?_ (fun hHeld => ?_)
       ·(try dsimp only)
        exact SKZ.keep hHeld ((Below.refl _ _).alloc (Nat.le_refl _) _)
       clear hK K
       try simp only [Rg.gp]
       obtain ⟨g5, hg5⟩ : ∃ g, wA.drew.heap.size = g := ⟨_, rfl⟩
       obtain ⟨v5, hv5⟩ : ∃ v, wA.drew.alloc (.cells #[.int .u16 (z1 : Nat)] 70) = v := ⟨_, rfl⟩
       have HE5 : Hid (v5.ownsRow base 70 1 (.slice (some ⟨g5, 0, none⟩) 1 1) 1 ([z1].map fun (n : Nat) => Value.int .u16 (n : Int))) := Lib.hid (by
        rw [← hv5, ← hg5, HBS.out]
        exact ⟨rfl, .inr ⟨_, 1, #[.int .u16 (z1 : Nat)], rfl, Nat.le_refl _, heap_alloc_new _ _, Nat.le_refl _, by unfold maxLen; omega, rfl, rfl⟩⟩)
       have ha5 : Below wA.heap.size wA v5 := by rw [← hv5]; exact (Below.refl _ _).drew.alloc (Nat.le_refl _) _
       have HA5 := Lib.hid ha5
       rw [show (wA.alloc (.cells #[.int .u16 (z1 : Nat)] 70)).drew = v5 from hv5, show wA.heap.size = g5 from hg5]
       first | rw [hv5] at hHeld | rw [show (wA.alloc (.cells #[.int .u16 (z1 : Nat)] 70)).drew = v5 from hv5] at hHeld
       clear ha5 hv5 hg5
       refine Rg.rd1 13 ⟨some 174,.call ⟨.builtin Builtin.append,#[.tmp 172,.tmp 173],#[22,22]⟩,22,"law.go:254",#[⟨11,.data⟩,⟨12,.data⟩],none⟩ fun K hK => ?_
       refine step_append_src rfl _ _ 22 rfl base 70 i0 (.int .u16 0) 1 2 Try.underlying22 hi hi0 hi1 hi2 rfl (by decide) _ _ _ rfl HE5.out ab l2 ca2 (YL.map fun (n : Nat) => Value.int .u16 (n : Int)) rfl (HYL.out.2.2 _ HA5.out) (fun u hu => by obtain ⟨y, _, rfl⟩ := List.mem_map.1 hu; rfl) (by have := hl2.1; omega) (by have := hl2.2; omega) (by rw [HBS.out]; exact HA5.out.size) ?_
       intro v8 w8b hown8 hgrow8
       refine hK.out _ _ ?_ (fun hHeld => ?_)
       ·(try dsimp only)
        exact SKZ.grown hHeld hgrow8 (fun k e => (HE5.out.lt k e).1) (by rw [HBS.out]; exact HA5.out.size) (Nat.le_of_eq HBS.out.symm) (by rw [HBS.out]; exact HLTS.out)
       clear hK K
       try simp only [Rg.gp]
       have HN8 : Hid (N16 (l2 + 1) w8b v8) := Lib.hid (by
        have h := N16.of_own (L := [z1] ++ YL) (by rw [List.map_append]; exact hown8) (by rw [List.length_append, HYL.out.1]; rfl) (fun x hx => by
         rcases List.mem_append.1 hx with h | h
         ·rw [List.mem_singleton] at h; omega
         ·exact HYL.out.2.1 x h)
        rwa [Nat.add_comm 1 l2] at h)
       obtain ⟨a8, c8, hv8⟩ : ∃ a c, v8 = .slice a (l2 + 1) c := by
        rcases hown8.2 with ⟨e, e2⟩ | ⟨_, _, _, e, _⟩
        ·omega
        ·rw [Nat.add_comm] at e; exact ⟨_, _, e⟩
       subst hv8
       clear hown8 hgrow8
       refine Rg.rd1 14 ⟨some 175,.call ⟨.value (.func 11),#[.tmp 163,.tmp 164,.tmp 168,.tmp 174],#[29,3,3,22]⟩,30,"law.go:254",#[⟨2,.data⟩,⟨3,.data⟩,⟨7,.data⟩,⟨13,.data⟩,⟨13,.chain⟩],none⟩ fun K hK => ?_
       have hrows := rows_c (n := n) (m := m3) (l := l2 + 1) (aa := a8) (ca := c8) hHeld.1.2.2.out.1 (by omega) (by omega) hm36 (by have := hl2.1; omega) HN8.out
       go_simp
       go_at_call 11
       with_reducible refine hrows.mono ?_
       rintro z w9b ⟨C0, hcn, hcl, aC, cC, rfl, hmc, hb9⟩
       rw [hcl] at hmc ⊢
       refine hK.out _ _ ?_ (fun hHeld => ?_)
       ·(try dsimp only)
        exact SKZ.keep hHeld hb9
       clear hK K
       try simp only [Rg.gp]
       have HCN := Lib.hid hcn
       have HCL := Lib.hid hcl
       have HMC0 := Lib.hid hmc
       clear hrows hcn hcl hmc hb9
       refine Rg.rd1 15 ⟨some 176,.call ⟨.value (.func 28),#[.tmp 161,.tmp 162,.tmp 175],#[29,30,30]⟩,30,"law.go:254",#[⟨0,.data⟩,⟨1,.data⟩,⟨14,.data⟩,⟨14,.chain⟩],none⟩ fun K hK => ?_
       obtain ⟨CJ, hCJ⟩ : ∃ x, Hid (joM F n A C0 = x) := ⟨_, Lib.hid rfl⟩
       obtain ⟨cl, hcl⟩ : ∃ k, Hid (CJ.length = k) := ⟨_, Lib.hid rfl⟩
       have hjoin := (show Calls Try.prog 28 #[FV F b cap, .slice aA m cA, .slice aC m3 cC] w9b (MPn CJ cl w9b) from by have t := join_c (n := n) (A := A) (B := C0) (aa := aA) (ca := cA) (ab := aC) (cb := cC) hHeld.1.2.2.out.1 (by omega) (by omega) (by rw [HLA.out]; omega) (by rw [HCL.out]; omega) HMN.out HCN.out (by rw [HLA.out]; exact HMAA.out.below hHeld.1.2.2.out.2.1) (by rw [HCL.out]; exact HMC0.out); rw [HLA.out, HCL.out, show redM F n (A ++ C0) = CJ from hCJ.out] at t; exact t.mono fun _ _ h => h.n hcl.out)
       go_simp
       go_at_call 28
       with_reducible refine hjoin.mono ?_
       rintro z w10b ⟨aQ, cQ, rfl, hmq, hb10⟩
       refine hK.out _ _ ?_ (fun hHeld => ?_)
       ·(try dsimp only)
        exact SKZ.keep hHeld hb10
       clear hK K
       try simp only [Rg.gp]
       have HMQ := Lib.hid hmq
       clear hjoin hmq hb10
       refine Rg.tk 16 ⟨some 18,.assign (.tmp 176),30,"law.go:254",#[⟨15,.data⟩,⟨15,.chain⟩,⟨0,.phase⟩,⟨1,.phase⟩,⟨2,.phase⟩,⟨3,.phase⟩,⟨4,.phase⟩,⟨5,.phase⟩,⟨6,.phase⟩,⟨7,.phase⟩,⟨8,.phase⟩,⟨9,.phase⟩,⟨10,.phase⟩,⟨11,.phase⟩,⟨12,.phase⟩,⟨13,.phase⟩,⟨14,.phase⟩,⟨15,.phase⟩],none⟩ ?_
       try simp only [Rg.gp]
       refine wpAnyH_done (by kernel_rfl) ?_ _
       have HSKC : Hid (SKL F b cap n B BM (.slice aA m cA) wA w10b) := Lib.hid hHeld.1
       clear hHeld hS0

       have HCJN : Hid (Mn F n CJ) := Lib.hid (by rw [← hCJ.out]; exact (redM_ok HFF.out (mapp HMN.out HCN.out)).1)
       have hcl8 : cl ≤ 8 := by have := redM_leN HFF.out (mapp HMN.out HCN.out); have h2 := hCJ.out; have h3 := hcl.out; rw [← h3, ← h2]; exact Nat.le_trans this (by omega)
       have hbAC : Hid (Below wA.heap.size wA w10b) := Lib.hid HSKC.out.2.2.out.2.1
       have HSKD : Hid (SKL F b cap n B BM (.slice aA m cA) w4 w10b) := Lib.hid (HSKA.out.keep hbAC.out)
       have HMAC := Lib.hid (HMAA.out.below hbAC.out)
       have HMBC := Lib.hid (HMBA.out.below hbAC.out)
       have HMJC := Lib.hid (HMJA.out.below hbAC.out)
       obtain ⟨P1, hP1⟩ : ∃ x, Hid (meM F n Bm CJ = x) := ⟨_, Lib.hid rfl⟩
       obtain ⟨p1, hp1⟩ : ∃ k, Hid (P1.length = k) := ⟨_, Lib.hid rfl⟩
       have HP1N : Hid (Mn F n P1) := Lib.hid (by rw [← hP1.out]; exact meM_mn HFF.out HBN.out HCJN.out)
       have hp18 : p1 ≤ 8 := by have := kerM_le HFF.out (mapp (kerM_ok HFF.out HBN.out).1 (kerM_ok HFF.out HCJN.out).1); have h2 := hP1.out; have h3 := hp1.out; rw [← h3, ← h2]; exact Nat.le_trans this (by omega)
       obtain ⟨Lf, hLf⟩ : ∃ x, Hid (joM F n A P1 = x) := ⟨_, Lib.hid rfl⟩
       obtain ⟨lf, hlf⟩ : ∃ k, Hid (Lf.length = k) := ⟨_, Lib.hid rfl⟩
       have HLFN : Hid (Mn F n Lf) := Lib.hid (by rw [← hLf.out]; exact (redM_ok HFF.out (mapp HMN.out HP1N.out)).1)
       have hlf8 : lf ≤ 8 := by have := redM_leN HFF.out (mapp HMN.out HP1N.out); have h2 := hLf.out; have h3 := hlf.out; rw [← h3, ← h2]; exact Nat.le_trans this (by omega)
       have HMOD : Hid (meM F n J CJ = Lf) := Lib.hid (by
        rw [← hLf.out, ← hP1.out, ← hJ.out]
        exact (modM HFF.out HMN.out HBN.out HCJN.out fun v hv => by
         rw [← hCJ.out]
         refine (redM_sp HFF.out (mapp HMN.out HCN.out) v).2 ?_
         rw [List.map_append]
         exact Sp.app_l HFF.out (HMN.out.vs HFF.out).els (HCN.out.vs HFF.out).els hv).symm)
       have hS0 : SKL F b cap n B BM (.slice aA m cA) w10b w10b.drew := SKL.draw HSKD.out
       go_wp2_with fail
       refine wp_region_held_drew (S := fun w' => SKL F b cap n B BM (.slice aA m cA) w10b w') (by kernel_rfl) (by with_reducible exact hS0) (fun hHeld => ?_)
       refine Rg.tk 0 ⟨some 177,.load 29 (.tmp 9),29,"law.go:255",#[],none⟩ ?_
       try simp only [Rg.gp]
       refine Rg.tk 1 ⟨some 178,.move (.tmp 11),30,"law.go:255",#[],none⟩ ?_
       try simp only [Rg.gp]
       refine Rg.tk 2 ⟨some 179,.load 29 (.tmp 9),29,"law.go:255",#[],none⟩ ?_
       try simp only [Rg.gp]
       refine Rg.tk 3 ⟨some 180,.move (.tmp 10),3,"law.go:255",#[],none⟩ ?_
       try simp only [Rg.gp]
       refine Rg.tk 4 ⟨some 181,.move (.tmp 12),30,"law.go:255",#[],none⟩ ?_
       try simp only [Rg.gp]
       refine Rg.tk 5 ⟨some 182,.move (.tmp 18),30,"law.go:255",#[],none⟩ ?_
       try simp only [Rg.gp]
       refine Rg.rd1 6 ⟨some 183,.call ⟨.value (.func 30),#[.tmp 179,.tmp 180,.tmp 181,.tmp 182],#[29,3,30,30]⟩,30,"law.go:255",#[⟨2,.data⟩,⟨3,.data⟩,⟨4,.data⟩,⟨5,.data⟩],none⟩ fun K hK => ?_
       go_simp
       go_at_call 30
       with_reducible refine ((show Calls Try.prog 30 #[FV F b cap, .int .i64 (n : Nat), .slice aB m2 cB, .slice aQ cl cQ] _ (MPn P1 p1 _) from by have t := meet_c (n := n) (A := Bm) (B := CJ) (aa := aB) (ca := cB) (ab := aQ) (cb := cQ) hHeld.2.2.out.1 (by omega) (by omega) (by rw [HBL.out]; omega) (by rw [hcl.out]; omega) HBN.out HCJN.out (by rw [HBL.out]; exact HMBC.out.below hHeld.2.2.out.2.1) (by rw [hcl.out]; exact HMQ.out.below hHeld.2.2.out.2.1); rw [HBL.out, hcl.out, show kerM F n (kerM F n Bm ++ kerM F n CJ) = P1 from hP1.out] at t; exact t.mono fun _ _ h => h.n hp1.out)).mono ?_
       rintro z v0 ⟨a30, c30, rfl, hm30, hb0⟩
       refine hK.out _ _ ?_ (fun hHeld => ?_)
       ·(try dsimp only)
        exact SKL.keep hHeld hb0
       clear hK K
       try simp only [Rg.gp]
       refine Rg.rd1 7 ⟨some 184,.call ⟨.value (.func 28),#[.tmp 177,.tmp 178,.tmp 183],#[29,30,30]⟩,30,"law.go:255",#[⟨0,.data⟩,⟨1,.data⟩,⟨6,.data⟩,⟨6,.chain⟩],none⟩ fun K hK => ?_
       go_simp
       go_at_call 28
       with_reducible refine ((show Calls Try.prog 28 #[FV F b cap, .slice aA m cA, .slice a30 p1 c30] _ (MPn Lf lf _) from by have t := join_c (n := n) (A := A) (B := P1) (aa := aA) (ca := cA) (ab := a30) (cb := c30) hHeld.2.2.out.1 (by omega) (by omega) (by rw [HLA.out]; omega) (by rw [hp1.out]; omega) HMN.out HP1N.out (by rw [HLA.out]; exact HMAC.out.below hHeld.2.2.out.2.1) (by rw [hp1.out]; exact hm30); rw [HLA.out, hp1.out, show redM F n (A ++ P1) = Lf from hLf.out] at t; exact t.mono fun _ _ h => h.n hlf.out)).mono ?_
       rintro z v1 ⟨a31, c31, rfl, hm31, hb1⟩
       refine hK.out _ _ ?_ (fun hHeld => ?_)
       ·(try dsimp only)
        exact SKL.keep hHeld hb1
       clear hK K
       try simp only [Rg.gp]
       refine Rg.tk 8 ⟨some 19,.assign (.tmp 184),30,"law.go:255",#[⟨7,.data⟩,⟨7,.chain⟩,⟨0,.phase⟩,⟨1,.phase⟩,⟨2,.phase⟩,⟨3,.phase⟩,⟨4,.phase⟩,⟨5,.phase⟩,⟨6,.phase⟩,⟨7,.phase⟩],none⟩ ?_
       try simp only [Rg.gp]
       refine wpAnyH_done (by kernel_rfl) ?_ _
       have hbCD : Hid (Below w10b.heap.size w10b v1) := Lib.hid hHeld.2.2.out.2.1
       have HSKE : Hid (SKL F b cap n B BM (.slice aA m cA) w4 v1) := Lib.hid (HSKD.out.keep hbCD.out)
       have HMLF := Lib.hid hm31
       have HMJE := Lib.hid (HMJC.out.below hbCD.out)
       have HMQE := Lib.hid (HMQ.out.below hbCD.out)
       clear hHeld hS0 hm30 hm31 hb0 hb1
       obtain ⟨wE, hwE⟩ : ∃ w, w = v1 := ⟨_, rfl⟩
       subst hwE
       have HRT := Lib.hid (show Calls Try.prog 30 #[FV F b cap, .int .i64 (n : Nat), .slice aJ jl cJ, .slice aQ cl cQ] wE (MPn Lf lf wE) from by have t := meet_c (n := n) (A := J) (B := CJ) (aa := aJ) (ca := cJ) (ab := aQ) (cb := cQ) HSKE.out.2.2.out.1 (by omega) (by omega) (by rw [hjl.out]; omega) (by rw [hcl.out]; omega) HJN.out HCJN.out (by rw [hjl.out]; exact HMJE.out) (by rw [hcl.out]; exact HMQE.out); rw [hjl.out, hcl.out, show kerM F n (kerM F n J ++ kerM F n CJ) = Lf from HMOD.out] at t; exact t.mono fun _ _ h => h.n hlf.out)
       obtain ⟨x0, x1, x2⟩ := HSKE.out.1
       go_wp2_with fail
       with_reducible refine HRT.out.mono ?_
       rintro e w40 ⟨a40, c40, rfl, hm40, hb40⟩
       have HAK := Lib.hid (show Calls Try.prog 14 #[.slice a31 lf c31, .slice a40 lf c40] w40 (fun e w' => e = .returned (.bool true) ∧ Below w40.heap.size w40 w') from by have t := alike_c (A := Lf) (B := Lf) (aa := a31) (ca := c31) (ab := a40) (cb := c40) (by rw [hlf.out]; omega) (by rw [hlf.out]; omega) (fun t ht => by rw [(mrow HLFN.out ht).len]; omega) (fun t ht => by rw [(mrow HLFN.out ht).len]; omega) (by rw [hlf.out]; exact HMLF.out.below hb40) (by rw [hlf.out]; exact hm40); rw [hlf.out, decide_eq_true rfl] at t; exact t)
       have HBF : Hid (Below W.heap.size W w40) := Lib.hid (HB4.out.trans ((HSKE.out.2.2.out.2.1.trans (hb40.mono HSKE.out.2.2.out.2.1.size)).mono HB4.out.size))
       clear hm40 hb40 HRT x0 x1 x2
       go_wp2_with fail
       with_reducible refine HAK.out.mono ?_
       rintro e w41 ⟨rfl, hb41⟩
       have HBG := Lib.hid (HBF.out.trans (hb41.mono HBF.out.size))
       clear hb41 HAK
       go_wp2
       go_ret
       exact ⟨rfl, HBG.out⟩

end Go.Proofs.Yteeofijcndgbfaa
