/- The reference's products. -/
import Derived.Test.YtdafhhojiioifaaNm
import Derived.Laws.OwnMore
namespace Go.Proofs.Ytdafhhojiioifaa
open Go.RowKit Go.Fl
set_option maxRecDepth 100000
set_option linter.unusedVariables false
set_option linter.unusedSimpArgs false
set_option linter.unusedSectionVars false
theorem step_append_own {P : Program} {ops : Array Oper} {o : Oper} {a : Act} {w : World} {K : Act → World → Prop} {Q : Exit → Act → World → Prop} {E : Prop}
  (hg : o.guard = none) (s x : Operand) (t : TypeId) (hop : o.op = Op.call { callee := Callee.builtin Builtin.append, args := #[s, x], argTypes := #[t, t] })
  (base : Nat) (e : TypeId) (i : TypeInfo) (z : Value) (size bytes : Nat) (ht : P.underlying t = some (.slice e)) (hi : P.info? e = some i) (hz : i.zero = some z)
  (hsize : i.size = size) (hby : i.bytes = bytes) (hzs : z.cells.size = size) (hsz : 0 < size)
  (v : Value) (n : Nat) (xs : List Value) (hv : a.eval s = v) (hown : w.ownsRow base e size v n xs)
  (ad : Addr) (m c : Nat) (news : List Value) (hx : a.eval x = .slice (some ad) m c) (hl : news.length = m * size) (hnews : ∀ j u, news[j]? = some u → w.cell? (ad.add j) = some u) (h1 : ∀ u ∈ news, u.oneCell' = true)
  (h63 : n + m ≤ maxLen) (hbytes : (n + m) * bytes ≤ 140737488355328) (hbase : base ≤ w.heap.size)
  (hK : ∀ v' w', w'.ownsRow base e size v' (n + m) (xs ++ news) → w.grownBy w' v.ownBlock → K (a.put o.dst v') w') :
  if Region.wanted o (yielded ops a.tmps) = true then Oper.wp P o a w K Q else E := by
 have hw : Region.wanted o (yielded ops a.tmps) = true := by simp [Region.wanted, hg]
 rw [if_pos hw]
 obtain ⟨v', w', hrun, r1, r2, r3⟩ := run_append_own (P := P) w base t o.type e i z size bytes ht hi hz hsize hby hzs hsz v n xs hown ad m c news hl hnews h1 h63 hbytes hbase
 unfold Oper.wp
 simp [execOp, hop, resolve, invoke, builtin, hv, hx, hrun, Result.andThen]
 exact hK v' w' r1 r2
theorem step_append_own_at {P : Program} {ops : Array Oper} {o : Oper} {a : Act} {w : World} {K : Act → World → Prop} {Q : Exit → Act → World → Prop} {E : Prop}
  (hg : o.guard = none) (s x : Operand) (t : TypeId) (hop : o.op = Op.call { callee := Callee.builtin Builtin.append, args := #[s, x], argTypes := #[t, t] })
  (base : Nat) (e : TypeId) (i : TypeInfo) (z : Value) (size bytes : Nat) (ht : P.underlying t = some (.slice e)) (hi : P.info? e = some i) (hz : i.zero = some z)
  (hsize : i.size = size) (hby : i.bytes = bytes) (hzs : z.cells.size = size) (hsz : 0 < size)
  (v : Value) (n : Nat) (xs : List Value) (hv : a.eval s = v) (hown : w.ownsRow base e size v n xs)
  (ad : Addr) (m c : Nat) (news : List Value) (hx : a.eval x = .slice (some ad) m c) (hl : news.length = m * size) (hnews : ∀ j u, news[j]? = some u → w.cell? (ad.add j) = some u) (h1 : ∀ u ∈ news, u.oneCell' = true)
  (h63 : n + m ≤ maxLen) (hbytes : (n + m) * bytes ≤ 140737488355328) (hbase : base ≤ w.heap.size)
  (hK : ∀ v' w', w'.ownsRow base e size v' (n + m) (xs ++ news) → w.grownBy w' v.ownBlock → (v'.ownBlock = v.ownBlock ∨ v'.ownBlock = some w.heap.size) → K (a.put o.dst v') w') :
  if Region.wanted o (yielded ops a.tmps) = true then Oper.wp P o a w K Q else E := by
 have hw : Region.wanted o (yielded ops a.tmps) = true := by simp [Region.wanted, hg]
 rw [if_pos hw]
 obtain ⟨v', w', hrun, r1, r2, r3, r4⟩ := run_append_own_at (P := P) w base t o.type e i z size bytes ht hi hz hsize hby hzs hsz v n xs hown ad m c news hl hnews h1 h63 hbytes hbase
 unfold Oper.wp
 simp [execOp, hop, resolve, invoke, builtin, hv, hx, hrun, Result.andThen]
 exact hK v' w' r1 r2 r4
/-- a row of x's product -/
def mI (p x : Nat) (Y : List Nat) (i : Nat) : Nat → List Nat → List Nat
 | 0, o => o
 | k + 1, o => (fun o => o.set (Nat.add i k) (Nat.mod (Nat.add (o.getD (Nat.add i k) 0) (Nat.mul x (Y.getD k 0))) p)) (mI p x Y i k o)
def mO (p : Nat) (X Y : List Nat) (e : Nat) : Nat → List Nat → List Nat
 | 0, o => o
 | i + 1, o => mI p (X.getD i 0) Y i e (mO p X Y e i o)
def rmulT (F : Gf) (a b : Nat) : Nat := numL F.p (restL F.p (mO F.p (dgL F.p F.e a) (dgL F.p F.e b) F.e F.e (List.replicate (Nat.mul 2 F.e) 0)) (F.mod ++ [1]))
theorem mI_len (p x : Nat) (Y : List Nat) (i : Nat) (o : List Nat) : ∀ k, (mI p x Y i k o).length = o.length
 | 0 => rfl
 | k + 1 => by show (List.set _ _ _).length = _; rw [List.length_set, mI_len p x Y i o k]
theorem mO_len (p : Nat) (X Y : List Nat) (e : Nat) (o : List Nat) : ∀ i, (mO p X Y e i o).length = o.length
 | 0 => rfl
 | i + 1 => by show (mI _ _ _ _ _ _).length = _; rw [mI_len, mO_len p X Y e o i]
theorem mI_lt {p : Nat} (hp : 0 < p) (x : Nat) (Y : List Nat) (i : Nat) {o : List Nat} (h : ∀ x ∈ o, x < p) : ∀ k, ∀ y ∈ mI p x Y i k o, y < p
 | 0 => h
 | k + 1 => set_lt (mI_lt hp x Y i h k) (Nat.mod_lt _ hp)
theorem mO_lt {p : Nat} (hp : 0 < p) (X Y : List Nat) (e : Nat) {o : List Nat} (h : ∀ x ∈ o, x < p) : ∀ i, ∀ y ∈ mO p X Y e i o, y < p
 | 0 => h
 | i + 1 => mI_lt hp _ Y i (mO_lt hp X Y e h i) _
noncomputable def kRm (F : Gf) : Bool := allLt F.q fun a => allLt F.q fun b => Nat.beq (rmulT F a b) (F.mul a b)
theorem one_cell (w : World) : RC [1] w.heap.size 1 (w.alloc (.cells #[.int .i64 1] 3)) :=
 ⟨rfl, .inr ⟨w.heap.size, 1, #[.int .i64 1], rfl, Nat.zero_le _, heap_alloc_new w _, Nat.le_refl _, by unfold maxLen; omega, rfl, rfl⟩⟩
theorem RC.news {L : List Nat} {g c : Nat} {w : World} (h : RC L g c w) : ∀ (j : Nat) (u : Value), (L.map N64)[j]? = some u → w.cell? ((⟨g, 0, none⟩ : Addr).add j) = some u := num_cellsK fun t ht => by rw [Nat.zero_add]; exact h.cell ht
theorem RC.kept {L : List Nat} {g c : Nat} {w w' : World} (h : RC L g c w) {row : Option Nat} (hg : w.grownBy w' row) (hr : row ≠ some g) : RC L g c w' := h.of (hg.block g h.lt (fun e => hr e.symm))
/-- what is read behind a row's growth -/
theorem SBN.grown {F : Gf} {b cap g base : Nat} {W w w' : World} (h : SBN F b cap g W w) {row : Option Nat} (hg : w.grownBy w' row) (hr : ∀ k, row = some k → base ≤ k) (hb : base ≤ w.heap.size) (h1 : g < base) (h2 : W.heap.size ≤ base) : SBN F b cap g W w' :=
 ⟨h.1.of ((below_own hg hr hb).block g h1), Lib.hid (h.2.out.trans ((below_own hg hr hb).mono h2))⟩
set_option maxHeartbeats 12800000 in
theorem rmul_w {F : Gf} {b cap : Nat} {W : World} {x y : Nat} (hx : x < F.q) (hy : y < F.q) (h : FldAt F b cap W) : Calls Try.prog 72 #[FV F b cap, .int .i64 x, .int .i64 y] W fun e w' => e = .returned (.int .i64 (rmulT F x y : Nat)) ∧ Below W.heap.size W w' := by
 obtain ⟨h1, hp6, h3, h4, h5, h6, h7⟩ := fd_small F h.mem
 obtain ⟨i0, hi, hz0, hz1, hz2⟩ := info_parts info3
 have hp0 : 0 < F.p := by omega
 have hx0 : x ≤ 100000 := by omega
 have hy0 : y ≤ 100000 := by omega
 have he20 : F.e ≤ 20 := by omega
 obtain ⟨X, hX⟩ : ∃ X, dgL F.p F.e x = X := ⟨_, rfl⟩
 obtain ⟨Y, hY⟩ : ∃ Y, dgL F.p F.e y = Y := ⟨_, rfl⟩
 have hXl : X.length = F.e := by rw [← hX]; exact dgL_len _ _ _
 have hYl : Y.length = F.e := by rw [← hY]; exact dgL_len _ _ _
 have HXP : Hid (∀ k, X.getD k 0 < F.p) := Lib.hid fun k => by rw [← hX]; exact getD_lt hp0 (dgL_lt hp0 _ _) k
 have HYP : Hid (∀ k, Y.getD k 0 < F.p) := Lib.hid fun k => by rw [← hY]; exact getD_lt hp0 (dgL_lt hp0 _ _) k
 have HDX : Hid (∀ w, Calls Try.prog 84 #[.int .i64 (F.p : Nat), .int .i64 (F.e : Nat), .int .i64 (x : Nat)] w (DPost X w)) := Lib.hid fun w => by rw [← hX]; exact rdigits_c hp0 hp6 he20 hx0
 have HDY : Hid (∀ w, Calls Try.prog 84 #[.int .i64 (F.p : Nat), .int .i64 (F.e : Nat), .int .i64 (y : Nat)] w (DPost Y w)) := Lib.hid fun w => by rw [← hY]; exact rdigits_c hp0 hp6 he20 hy0
 have HRT : Hid (rmulT F x y = numL F.p (restL F.p (mO F.p X Y F.e F.e (List.replicate (2 * F.e) 0)) (F.mod ++ [1]))) := Lib.hid (by rw [← hX, ← hY]; rfl)
 have HXL := Lib.hid hXl
 have HYL := Lib.hid hYl
 have HE : Hid (0 < F.e ∧ F.e ≤ 6) := Lib.hid ⟨by omega, h4⟩
 have HMOD : Hid (F.mod.length = F.e ∧ ∀ z ∈ F.mod, z < F.p) := Lib.hid ⟨mod_len F h.mem, h7⟩
 have HFA := Lib.hid h
 obtain ⟨n2, hn2⟩ : ∃ n, 2 * F.e = n := ⟨_, rfl⟩
 have hn2i : 2 * (F.e : Int) = (n2 : Int) := by omega
 have hn2b : n2 ≤ 12 := by omega
 have HN2 := Lib.hid hn2
 rw [hn2] at HRT
 obtain ⟨W0, hW0⟩ : ∃ W0, W.alloc (.cells #[.int .i64 F.p, .int .i64 F.e, FM F b cap] 53) = W0 := ⟨_, rfl⟩
 have hal : Below W.heap.size W W0 := by rw [← hW0]; exact (Below.refl _ _).alloc (Nat.le_refl _) _
 have hS0 : SBN F b cap W.heap.size W W0.drew := ⟨by rw [← hW0]; exact fb3_new W rfl, Lib.hid hal.drew⟩
 have hgl : W.heap.size < W0.heap.size := by rw [← hW0]; simp
 have HGL := Lib.hid hgl
 clear h hal hgl h1 h3 h4 h5 h6 h7 hX hY hXl hYl hx hy hn2
 go_enter Try.func72, Try.ntmps72
 go_wp2
 clear hW0
 refine wp_region_held_drew (S := fun w' => SBN F b cap W.heap.size W w') (by kernel_rfl) (by with_reducible exact hS0) (fun hHeld => ?_)
 refine Rg.tk 0 ⟨some 12,.fieldAddr 53 (.tmp 3) 0,0,"ref.go:193",#[],none⟩ ?_
 try simp only [Rg.gp]
 refine Rg.tk 1 ⟨some 13,.load 3 (.tmp 12),3,"ref.go:193",#[⟨0,.data⟩],none⟩ ?_
 try simp only [Rg.gp]
 refine Rg.tk 2 ⟨some 14,.fieldAddr 53 (.tmp 3) 1,0,"ref.go:193",#[],none⟩ ?_
 try simp only [Rg.gp]
 refine Rg.tk 3 ⟨some 15,.load 3 (.tmp 14),3,"ref.go:193",#[⟨2,.data⟩],none⟩ ?_
 try simp only [Rg.gp]
 refine Rg.tk 4 ⟨some 16,.move (.tmp 1),3,"ref.go:193",#[],none⟩ ?_
 try simp only [Rg.gp]
 refine Rg.tk 6 ⟨some 18,.fieldAddr 53 (.tmp 3) 0,0,"ref.go:193",#[],none⟩ ?_
 try simp only [Rg.gp]
 refine Rg.tk 7 ⟨some 19,.load 3 (.tmp 18),3,"ref.go:193",#[⟨6,.data⟩],none⟩ ?_
 try simp only [Rg.gp]
 refine Rg.tk 8 ⟨some 20,.fieldAddr 53 (.tmp 3) 1,0,"ref.go:193",#[],none⟩ ?_
 try simp only [Rg.gp]
 refine Rg.tk 9 ⟨some 21,.load 3 (.tmp 20),3,"ref.go:193",#[⟨8,.data⟩],none⟩ ?_
 try simp only [Rg.gp]
 refine Rg.tk 10 ⟨some 22,.move (.tmp 2),3,"ref.go:193",#[],none⟩ ?_
 try simp only [Rg.gp]
 refine Rg.rd1 5 ⟨some 17,.call ⟨.value (.func 84),#[.tmp 13,.tmp 15,.tmp 16],#[3,3,3]⟩,39,"ref.go:193",#[⟨1,.data⟩,⟨3,.data⟩,⟨4,.data⟩],none⟩ fun K hK => ?_
 go_simp
 go_at_call 84
 with_reducible refine (HDX.out _).mono ?_
 rintro z v1 ⟨a1, c1, rfl, ho1, hb1⟩
 rw [HXL.out] at ho1 ⊢

 refine hK.out _ _ ?_ (fun hHeld => ?_)
 ·(try dsimp only)
  exact SBN.keep hHeld hb1
 clear hK K
 try simp only [Rg.gp]
 refine Rg.rd1 11 ⟨some 23,.call ⟨.value (.func 84),#[.tmp 19,.tmp 21,.tmp 22],#[3,3,3]⟩,39,"ref.go:193",#[⟨7,.data⟩,⟨9,.data⟩,⟨10,.data⟩,⟨5,.chain⟩],none⟩ fun K hK => ?_
 go_simp
 go_at_call 84
 with_reducible refine (HDY.out _).mono ?_
 rintro z v2 ⟨a2, c2, rfl, ho2, hb2⟩
 rw [HYL.out] at ho2 ⊢

 refine hK.out _ _ ?_ (fun hHeld => ?_)
 ·(try dsimp only)
  exact SBN.keep hHeld hb2
 clear hK K
 try simp only [Rg.gp]
 refine Rg.tk 12 ⟨some 7,.assign (.tmp 17),39,"ref.go:193",#[⟨5,.data⟩,⟨11,.chain⟩,⟨0,.phase⟩,⟨1,.phase⟩,⟨2,.phase⟩,⟨3,.phase⟩,⟨4,.phase⟩,⟨5,.phase⟩,⟨6,.textOnly Go.Departure.lateStores⟩,⟨7,.textOnly Go.Departure.lateStores⟩,⟨8,.textOnly Go.Departure.lateStores⟩,⟨9,.textOnly Go.Departure.lateStores⟩,⟨10,.textOnly Go.Departure.lateStores⟩,⟨11,.textOnly Go.Departure.lateStoresUnsure⟩],none⟩ ?_
 try simp only [Rg.gp]
 refine Rg.tk 13 ⟨some 8,.assign (.tmp 23),39,"ref.go:193",#[⟨11,.data⟩,⟨12,.chain⟩,⟨0,.phase⟩,⟨1,.phase⟩,⟨2,.phase⟩,⟨3,.phase⟩,⟨4,.phase⟩,⟨5,.phase⟩,⟨6,.phase⟩,⟨7,.phase⟩,⟨8,.phase⟩,⟨9,.phase⟩,⟨10,.phase⟩,⟨11,.phase⟩,⟨12,.phase⟩],none⟩ ?_
 try simp only [Rg.gp]
 refine wpAnyH_done (by kernel_rfl) ?_ _
 obtain ⟨g1, c1', hg, hgb, hR1⟩ := RC.of_own ho1 HXL.out HE.out.1
 injection hg with hg1 _ hg3
 subst hg1 hg3
 obtain ⟨g2, c2', hg, hgb2, hR2⟩ := RC.of_own ho2 HYL.out HE.out.1
 injection hg with hg1 _ hg3
 subst hg1 hg3
 have HX2 := Lib.hid (hR1.below hb2)
 have HY2 := Lib.hid hR2
 have HF2 := Lib.hid hHeld
 have HGG : Hid (W.heap.size < g1 ∧ g1 < g2) := Lib.hid ⟨by have := HGL.out; have : W0.heap.size ≤ g1 := hgb; omega, Nat.lt_of_lt_of_le hR1.lt hgb2⟩
 clear hHeld hS0 ho1 ho2 hb1 hb2 hgb hgb2 hR1 hR2
 obtain ⟨f0, f1, f2⟩ := HF2.out.1
 go_wp2_with (refine wpList_make_full _ rfl _ _ 39 rfl v2.heap.size 3 i0 (.int .i64 0) 1 Try.underlying39 hi hz0 hz1 .i64 .i64 (n2 : Int) (n2 : Int) n2 rfl rfl rfl rfl (by rw [hz2]; omega) (by unfold maxLen; omega) (by simp) ?_)
 intro w3 hown hgrow
 have hb3 : Below v2.heap.size v2 w3 := (Below.refl _ _).grown hgrow (by simp) (fun k hk => by cases hk)
 have HP0 : Hid (RC (mO F.p X Y F.e 0 (List.replicate n2 0)) v2.heap.size n2 w3) := Lib.hid (by
  have e := toList_madeCells_one (Value.int .i64 0) n2
  have h1 : w3.ownsRow v2.heap.size 3 1 (.slice (some ⟨v2.heap.size, 0, none⟩) n2 n2) n2 ((List.replicate n2 0).map N64) := by
   rw [List.map_replicate, show N64 0 = Value.int .i64 0 from rfl, ← e]
   simpa using hown
  obtain ⟨g', c', h2, _, h3⟩ := RC.of_own h1 (by simp) (by have := HE.out.1; have := HN2.out; omega)
  injection h2 with h4 _ h5
  injection h4 with h4
  injection h4 with h4
  rw [← h4, ← h5] at h3; exact h3)
 have HX3 := Lib.hid (HX2.out.below hb3)
 have HY3 := Lib.hid (HY2.out.below hb3)
 have HF3 := Lib.hid (HF2.out.1.below hb3)
 have HB3 := Lib.hid (HF2.out.2.out.trans (hb3.mono HF2.out.2.out.size))
 obtain ⟨gp, hgp⟩ : ∃ g, v2.heap.size = g := ⟨_, rfl⟩
 have HGP : Hid (W.heap.size < g1 ∧ g1 < g2 ∧ g2 < gp) := Lib.hid ⟨HGG.out.1, HGG.out.2, by rw [← hgp]; exact HY2.out.lt⟩
 rw [hgp] at HP0
 have HOL : Hid (∀ i, (mO F.p X Y F.e i (List.replicate n2 0)).length = n2) := Lib.hid fun i => by rw [mO_len, List.length_replicate]
 have HOP : Hid (∀ i, ∀ z ∈ mO F.p X Y F.e i (List.replicate n2 0), z < F.p) := Lib.hid fun i => mO_lt hp0 X Y F.e (fun z hz => by rw [List.eq_of_mem_replicate hz]; exact hp0) i
 clear hown hgrow hb3 HX2 HY2 HF2 f0 f1 f2
 obtain ⟨f0, f1, f2⟩ := HF3.out
 go_wp2
 rw [hgp]
 clear hgp f0 f1 f2
 go_loopw [10] (fun i wr => ∃ k : Nat, k ≤ F.e ∧ i = .int .i64 (k : Nat) ∧ Hid (RC (mO F.p X Y F.e k (List.replicate n2 0)) gp n2 wr) ∧ Hid (RC X g1 c1 wr) ∧ Hid (RC Y g2 c2 wr) ∧ Hid (FB3 W.heap.size F b cap wr) ∧ Hid (Below W.heap.size W wr)) (fun i _ => F.e - (intOf i).toNat)
 case atStart => exact ⟨0, Nat.zero_le _, rfl, HP0, HX3, HY3, HF3, HB3⟩
 case round =>
  obtain ⟨i, hi2, rfl, KP, KX, KY, KF, KB⟩ := hrel
  obtain ⟨f0, f1, f2⟩ := KF.out
  by_cases hlt : i < F.e
  ·have hlti : (i : Int) < (F.e : Int) := by omega
   obtain ⟨xx, hxx⟩ : ∃ x, X.getD i 0 = x := ⟨_, rfl⟩
   have hxp : xx < F.p := by rw [← hxx]; exact HXP.out i
   obtain ⟨O, hO⟩ : ∃ O, mO F.p X Y F.e i (List.replicate n2 0) = O := ⟨_, rfl⟩
   have HNX : Hid (mO F.p X Y F.e (i + 1) (List.replicate n2 0) = mI F.p xx Y i F.e O) := Lib.hid (by rw [← hO, ← hxx]; rfl)
   have HQL : Hid (∀ k, (mI F.p xx Y i k O).length = n2) := Lib.hid fun k => by rw [mI_len, ← hO, HOL.out]
   have HQP : Hid (∀ k, ∀ z ∈ mI F.p xx Y i k O, z < F.p) := Lib.hid fun k => mI_lt hp0 xx Y i (by rw [← hO]; exact HOP.out i) k
   have HXX := Lib.hid hxx
   have HLTI := Lib.hid hlt
   rw [hO] at KP
   have HO0 : Hid (RC (mI F.p xx Y i 0 O) gp n2 wr) := KP
   clear hO hxx hi2
   go_wp2
   clear f0 f1 f2
   go_loopw [11] (fun kk wi => ∃ k : Nat, k ≤ F.e ∧ kk = .int .i64 (k : Nat) ∧ Hid (RC (mI F.p xx Y i k O) gp n2 wi) ∧ Hid (RC X g1 c1 wi) ∧ Hid (RC Y g2 c2 wi) ∧ Hid (FB3 W.heap.size F b cap wi) ∧ Hid (Below W.heap.size W wi)) (fun kk _ => F.e - (intOf kk).toNat)
   case atStart => exact ⟨0, Nat.zero_le _, rfl, HO0, KX, KY, KF, KB⟩
   case round =>
    obtain ⟨k, hk, rfl, JP, JX, JY, JF, JB⟩ := hrel
    obtain ⟨f0, f1, f2⟩ := JF.out
    by_cases hke : k < F.e
    ·have hkei : (k : Int) < (F.e : Int) := by omega
     obtain ⟨Q, hQ⟩ : ∃ Q, mI F.p xx Y i k O = Q := ⟨_, rfl⟩
     have hQl : Q.length = n2 := by rw [← hQ]; exact HQL.out k
     obtain ⟨t, ht⟩ : ∃ t, i + k = t := ⟨_, rfl⟩
     have hti : (i : Int) + (k : Int) = (t : Int) := by omega
     have htn : t < n2 := by have := HN2.out; omega
     have htni : (t : Int) < (n2 : Int) := by omega
     obtain ⟨u, hu⟩ : ∃ u, Q.getD t 0 = u := ⟨_, rfl⟩
     have hup : u < F.p := by rw [← hu, ← hQ]; exact getD_lt hp0 (HQP.out k) t
     obtain ⟨yy, hyy⟩ : ∃ y, Y.getD k 0 = y := ⟨_, rfl⟩
     have hyp : yy < F.p := by rw [← hyy]; exact HYP.out k
     rw [hQ] at JP
     have hci : wr.drew.cell? ⟨gp, t, none⟩ = some (.int .i64 (u : Nat)) := by rw [JP.out.drew.cell (by rw [hQl]; exact htn), hu]
     have hfz : wr.drew.frozen? ⟨gp, t, none⟩ = false := JP.out.drew.frozen t
     have hS0 : wr.drew.cell? ⟨W.heap.size, 0, none⟩ = some (.int .i64 (F.p : Nat)) ∧ wr.drew.cell? ⟨g1, i, none⟩ = some (.int .i64 (xx : Nat)) ∧ wr.drew.cell? ⟨g2, k, none⟩ = some (.int .i64 (yy : Nat)) :=
      ⟨f0, by rw [JX.out.drew.cell (by rw [HXL.out]; exact HLTI.out), HXX.out], by rw [JY.out.drew.cell (by rw [HYL.out]; exact hke), hyy]⟩
     obtain ⟨m, hm⟩ : ∃ m, xx * yy = m := ⟨_, rfl⟩
     have hm2 : m ≤ 64 * 64 := by rw [← hm]; exact Nat.mul_le_mul (by omega) (by omega)
     have hmi : (xx : Int) * (yy : Int) = (m : Int) := by rw [← hm]; exact (Int.natCast_mul _ _).symm
     obtain ⟨z, hz⟩ : ∃ z, u + m = z := ⟨_, rfl⟩
     have hzi : (u : Int) + (m : Int) = (z : Int) := by omega
     have hz2 : z ≤ 5000 := by omega
     obtain ⟨r, hr⟩ : ∃ r, z % F.p = r := ⟨_, rfl⟩
     have hri : (z : Int) % (F.p : Int) = (r : Int) := by rw [← hr]; exact (Int.natCast_emod _ _).symm
     have hrt : (z : Int).tmod (F.p : Int) = (r : Int) := by rw [Int.tmod_eq_emod_of_nonneg (by omega)]; exact hri
     have hrp : r < F.p := by rw [← hr]; exact Nat.mod_lt _ hp0
     have hpz : ((F.p : Int) == 0) = false := by simp; omega
     have hpz2 : ¬ F.p = 0 := by omega
     have HSS : Hid (mI F.p xx Y i (k + 1) O = Q.set t r) := Lib.hid (by
      show (mI F.p xx Y i k O).set (i + k) (((mI F.p xx Y i k O).getD (i + k) 0 + xx * Y.getD k 0) % F.p) = _
      rw [hQ, ht, hu, hyy, hm, hz, hr])
     have hwt := w64 (n := t) (by omega)
     have hwr := w64 (n := r) (Nat.lt_trans hrp (Nat.lt_of_le_of_lt hp6 (by decide)))
     have hwm := w64 (n := m) (Nat.lt_of_le_of_lt hm2 (by decide))
     have hwz := w64 (n := z) (Nat.lt_of_le_of_lt hz2 (by decide))
     have HKE := Lib.hid hke
     have hil : i < F.e := HLTI.out
     have hili : (i : Int) < (F.e : Int) := by omega
     clear hu hyy hm hz hr ht hQ hQl hk
     go_wp2
     refine wp_region_held_drew (S := fun w' => w'.cell? ⟨W.heap.size, 0, none⟩ = some (.int .i64 (F.p : Nat)) ∧ w'.cell? ⟨g1, i, none⟩ = some (.int .i64 (xx : Nat)) ∧ w'.cell? ⟨g2, k, none⟩ = some (.int .i64 (yy : Nat))) (by kernel_rfl) (by with_reducible exact hS0) (fun hHeld => ?_)
     refine Rg.tk 0 ⟨some 40,.move (.tmp 9),39,"ref.go:197",#[],none⟩ ?_
     try simp only [Rg.gp]
     refine Rg.tk 1 ⟨some 41,.move (.tmp 10),3,"ref.go:197",#[],none⟩ ?_
     try simp only [Rg.gp]
     refine Rg.tk 2 ⟨some 42,.move (.tmp 11),3,"ref.go:197",#[],none⟩ ?_
     try simp only [Rg.gp]
     refine Rg.tk 3 ⟨some 43,.binOp BinOp.add 3 (.tmp 41) (.tmp 42) 3,3,"ref.go:197",#[⟨1,.data⟩,⟨2,.data⟩],none⟩ ?_
     try simp only [Rg.gp]
     refine Rg.tk 4 ⟨some 44,.move (.tmp 9),39,"ref.go:197",#[],none⟩ ?_
     try simp only [Rg.gp]
     refine Rg.tk 5 ⟨some 45,.move (.tmp 10),3,"ref.go:197",#[],none⟩ ?_
     try simp only [Rg.gp]
     refine Rg.tk 6 ⟨some 46,.move (.tmp 11),3,"ref.go:197",#[],none⟩ ?_
     try simp only [Rg.gp]
     refine Rg.tk 7 ⟨some 47,.binOp BinOp.add 3 (.tmp 45) (.tmp 46) 3,3,"ref.go:197",#[⟨5,.data⟩,⟨6,.data⟩],none⟩ ?_
     try simp only [Rg.gp]
     refine Rg.tk 8 ⟨some 48,.indexAddr 39 (.tmp 44) (.tmp 47),0,"ref.go:197",#[⟨4,.data⟩,⟨7,.data⟩],none⟩ ?_
     try simp only [Rg.gp]
     refine Rg.tk 10 ⟨some 50,.move (.tmp 7),39,"ref.go:197",#[],none⟩ ?_
     try simp only [Rg.gp]
     refine Rg.tk 11 ⟨some 51,.move (.tmp 10),3,"ref.go:197",#[],none⟩ ?_
     try simp only [Rg.gp]
     refine Rg.tk 12 ⟨some 52,.indexAddr 39 (.tmp 50) (.tmp 51),0,"ref.go:197",#[⟨10,.data⟩,⟨11,.data⟩],none⟩ ?_
     try simp only [Rg.gp]
     refine Rg.tk 13 ⟨some 53,.load 3 (.tmp 52),3,"ref.go:197",#[⟨12,.data⟩],none⟩ ?_
     try simp only [Rg.gp]
     refine Rg.tk 14 ⟨some 54,.move (.tmp 8),39,"ref.go:197",#[],none⟩ ?_
     try simp only [Rg.gp]
     refine Rg.tk 15 ⟨some 55,.move (.tmp 11),3,"ref.go:197",#[],none⟩ ?_
     try simp only [Rg.gp]
     refine Rg.tk 16 ⟨some 56,.indexAddr 39 (.tmp 54) (.tmp 55),0,"ref.go:197",#[⟨14,.data⟩,⟨15,.data⟩],none⟩ ?_
     try simp only [Rg.gp]
     refine Rg.tk 17 ⟨some 57,.load 3 (.tmp 56),3,"ref.go:197",#[⟨16,.data⟩],none⟩ ?_
     try simp only [Rg.gp]
     refine Rg.tk 18 ⟨some 58,.binOp BinOp.mul 3 (.tmp 53) (.tmp 57) 3,3,"ref.go:197",#[⟨13,.data⟩,⟨17,.data⟩],none⟩ ?_
     try simp only [Rg.gp]
     refine Rg.tk 20 ⟨some 60,.fieldAddr 53 (.tmp 3) 0,0,"ref.go:197",#[],none⟩ ?_
     try simp only [Rg.gp]
     refine Rg.tk 21 ⟨some 61,.load 3 (.tmp 60),3,"ref.go:197",#[⟨20,.data⟩],none⟩ ?_
     try simp only [Rg.gp]
     refine Rg.rd1 9 ⟨some 49,.load 3 (.tmp 48),3,"ref.go:197",#[⟨8,.data⟩],none⟩ fun K hK => ?_
     go_simp
     refine hK.out _ _ ?_ (fun hHeld => ?_)
     ·(try dsimp only)
      exact hHeld
     clear hK K
     try simp only [Rg.gp]
     refine Rg.tk 19 ⟨some 59,.binOp BinOp.add 3 (.tmp 49) (.tmp 58) 3,3,"ref.go:197",#[⟨9,.data⟩,⟨18,.data⟩],none⟩ ?_
     try simp only [Rg.gp]
     refine Rg.tk 22 ⟨some 62,.binOp BinOp.rem 3 (.tmp 59) (.tmp 61) 3,3,"ref.go:197",#[⟨19,.data⟩,⟨21,.data⟩],none⟩ ?_
     try simp only [Rg.gp]
     refine Rg.tk 23 ⟨some 63,.indexAddr 39 (.tmp 40) (.tmp 43),0,"ref.go:197",#[⟨0,.data⟩,⟨3,.data⟩,⟨0,.phase⟩,⟨1,.phase⟩,⟨2,.phase⟩,⟨3,.phase⟩,⟨4,.phase⟩,⟨5,.phase⟩,⟨6,.phase⟩,⟨7,.phase⟩,⟨8,.phase⟩,⟨9,.phase⟩,⟨10,.phase⟩,⟨11,.phase⟩,⟨12,.phase⟩,⟨13,.phase⟩,⟨14,.phase⟩,⟨15,.phase⟩,⟨16,.phase⟩,⟨17,.phase⟩,⟨18,.phase⟩,⟨19,.phase⟩,⟨20,.phase⟩,⟨21,.phase⟩,⟨22,.phase⟩],none⟩ ?_
     try simp only [Rg.gp]
     refine Rg.rd1 24 ⟨none,.store 3 (.tmp 63) (.tmp 62),0,"ref.go:197",#[⟨23,.data⟩,⟨22,.data⟩,⟨0,.phase⟩,⟨1,.phase⟩,⟨2,.phase⟩,⟨3,.phase⟩,⟨4,.phase⟩,⟨5,.phase⟩,⟨6,.phase⟩,⟨7,.phase⟩,⟨8,.phase⟩,⟨9,.phase⟩,⟨10,.phase⟩,⟨11,.phase⟩,⟨12,.phase⟩,⟨13,.phase⟩,⟨14,.phase⟩,⟨15,.phase⟩,⟨16,.phase⟩,⟨17,.phase⟩,⟨18,.phase⟩,⟨19,.phase⟩,⟨20,.phase⟩,⟨21,.phase⟩,⟨22,.phase⟩],none⟩ fun K hK => ?_
     go_simp
     refine hK.out _ _ ?_ (fun hHeld => ?_)
     ·(try dsimp only)
      exact ⟨(World.cell?_setCell_other _ _ _ _ (by have h := HGP.out; simp; try omega)).trans hHeld.1, (World.cell?_setCell_other _ _ _ _ (by have h := HGP.out; simp; try omega)).trans hHeld.2.1, (World.cell?_setCell_other _ _ _ _ (by have h := HGP.out; simp; try omega)).trans hHeld.2.2⟩
     clear hK K
     try simp only [Rg.gp]
     refine wpAnyH_done (by kernel_rfl) ?_ _
     clear hHeld hS0
     have hgg := HGP.out
     have HP3 : Hid (RC (mI F.p xx Y i (k + 1) O) gp n2 (wr.drew.setCell ⟨gp, t, none⟩ (.int .i64 (r : Nat)))) := Lib.hid (by rw [HSS.out]; exact JP.out.drew.set t r)
     have HX3 : Hid (RC X g1 c1 (wr.drew.setCell ⟨gp, t, none⟩ (.int .i64 (r : Nat)))) := Lib.hid (JX.out.of (Below.heap_setCell _ _ _ _ (by show g1 ≠ gp; omega)))
     have HY3 : Hid (RC Y g2 c2 (wr.drew.setCell ⟨gp, t, none⟩ (.int .i64 (r : Nat)))) := Lib.hid (JY.out.of (Below.heap_setCell _ _ _ _ (by show g2 ≠ gp; omega)))
     have HF3 : Hid (FB3 W.heap.size F b cap (wr.drew.setCell ⟨gp, t, none⟩ (.int .i64 (r : Nat)))) := Lib.hid (JF.out.of (Below.heap_setCell _ _ _ _ (by show W.heap.size ≠ gp; omega)))
     have HB3 : Hid (Below W.heap.size W (wr.drew.setCell ⟨gp, t, none⟩ (.int .i64 (r : Nat)))) := Lib.hid (setCell_above JB.out.drew (by omega))
     clear hgg
     go_wp2
     go_roundw
     case rel => exact ⟨k + 1, HKE.out, by go_num, HP3, HX3, HY3, HF3, HB3⟩
     case measure => have h := HKE.out; (try simp [intOf]); (try omega)
    ·have hkei : ¬ (k : Int) < (F.e : Int) := by omega
     obtain rfl : k = F.e := by omega
     rw [← HNX.out] at JP
     clear hk
     go_wp2
     go_roundw
     case rel => exact ⟨i + 1, HLTI.out, by go_num, JP, JX, JY, JF, JB⟩
     case measure => have h2 := HLTI.out; (try simp [intOf]); (try omega)
  ·have hlti : ¬ (i : Int) < (F.e : Int) := by omega
   obtain rfl : i = F.e := by omega
   obtain ⟨Q, hQ⟩ : ∃ Q, mO F.p X Y F.e F.e (List.replicate n2 0) = Q := ⟨_, rfl⟩
   have HQL : Hid (Q.length = n2) := Lib.hid (by rw [← hQ]; exact HOL.out _)
   have HQP : Hid (∀ z ∈ Q, z < F.p) := Lib.hid (by rw [← hQ]; exact HOP.out _)
   rw [hQ] at KP
   rw [hQ] at HRT
   obtain ⟨M, hM⟩ : ∃ M, F.mod ++ [1] = M := ⟨_, rfl⟩
   have HML : Hid (M.length = F.e + 1) := Lib.hid (by rw [← hM, List.length_append, HMOD.out.1]; rfl)
   have HMP : Hid (∀ z ∈ M, z ≤ F.p) := Lib.hid fun z hz => by
    rw [← hM] at hz
    rcases List.mem_append.1 hz with h | h
    ·exact Nat.le_of_lt (HMOD.out.2 z h)
    ·rw [List.mem_singleton] at h; omega
   rw [hM] at HRT
   obtain ⟨R, hR⟩ : ∃ R, restL F.p Q M = R := ⟨_, rfl⟩
   have HRL : Hid (R.length = F.e) := Lib.hid (by rw [← hR, restL_len (by rw [HML.out, HQL.out]; have := HN2.out; omega), HML.out]; rfl)
   have HRP : Hid (∀ z ∈ R, z < 64) := Lib.hid fun z hz => Nat.lt_of_lt_of_le (restL_lt hp0 HQP.out z (by rw [hR]; exact hz)) hp6
   rw [hR] at HRT
   have HMM := Lib.hid hM
   have HRR := Lib.hid hR
   have hS0 : SBN F b cap W.heap.size W wr.drew := ⟨KF.out, Lib.hid KB.out.drew⟩
   have hKP : RC Q gp n2 wr.drew := KP.out.drew
   have hFA : FldAt F b cap wr.drew := HFA.out.below KB.out.drew
   have HMC : Hid (∀ w, FldAt F b cap w → ∀ (j : Nat) (u : Value), (F.mod.map N64)[j]? = some u → w.cell? ((⟨b, 0, none⟩ : Addr).add j) = some u) := Lib.hid fun w hw => num_cellsK fun t ht => by rw [Nat.zero_add]; exact hw.mod (by rw [← HMOD.out.1]; exact ht)
   have hbase : Hid (∀ g, wr.heap.size ≤ g → W.heap.size ≤ g ∧ b < g ∧ gp < g) := Lib.hid fun g hg => ⟨Nat.le_trans KB.out.size hg, Nat.lt_of_lt_of_le (HFA.out.below KB.out).lt hg, Nat.lt_of_lt_of_le KP.out.lt hg⟩
   obtain ⟨base, hbs⟩ : ∃ g, g = wr.heap.size := ⟨_, rfl⟩
   have HBS : Hid (W.heap.size < base ∧ b < base ∧ gp < base) := Lib.hid ⟨by rw [hbs]; exact KF.out.lt, (hbase.out base (by omega)).2.1, (hbase.out base (by omega)).2.2⟩
   have HSZ0 : Hid (base ≤ wr.drew.heap.size) := Lib.hid (by rw [hbs]; exact Nat.le_refl _)
   have HKP0 := Lib.hid hKP
   have HFA0 := Lib.hid hFA
   have he1 := HE.out.2
   clear hbase hbs hQ hM hR hi2 hKP hFA f0 f2
   go_wp2
   refine wp_region_held_drew (S := fun w' => SBN F b cap W.heap.size W w') (by kernel_rfl) (by with_reducible exact hS0) (fun hHeld => ?_)
   refine Rg.tk 0 ⟨some 64,.fieldAddr 53 (.tmp 3) 0,0,"ref.go:200",#[],none⟩ ?_
   try simp only [Rg.gp]
   refine Rg.tk 1 ⟨some 65,.load 3 (.tmp 64),3,"ref.go:200",#[⟨0,.data⟩],none⟩ ?_
   try simp only [Rg.gp]
   refine Rg.tk 2 ⟨some 66,.fieldAddr 53 (.tmp 3) 0,0,"ref.go:200",#[],none⟩ ?_
   try simp only [Rg.gp]
   refine Rg.tk 3 ⟨some 67,.load 3 (.tmp 66),3,"ref.go:200",#[⟨2,.data⟩],none⟩ ?_
   try simp only [Rg.gp]
   refine Rg.tk 4 ⟨some 68,.move (.tmp 9),39,"ref.go:200",#[],none⟩ ?_
   try simp only [Rg.gp]
   refine Rg.tk 6 ⟨some 70,.fieldAddr 53 (.tmp 3) 2,0,"ref.go:200",#[],none⟩ ?_
   try simp only [Rg.gp]
   refine Rg.tk 7 ⟨some 71,.load 39 (.tmp 70),39,"ref.go:200",#[⟨6,.data⟩],none⟩ ?_
   try simp only [Rg.gp]
   refine wpAnyH_ready (rs := [5, 9]) (by kernel_rfl) (by simp) ?_
   refine (AllReadyH.cons (o := ⟨some 69,.buildSlice 39 0 #[],39,"ref.go:200",#[],none⟩) rfl (fun K hK => ?_) (AllReadyH.cons (o := ⟨some 73,.buildSlice 39 1 #[(0, .const (Value.int IntKind.i64 1))],39,"ref.go:200",#[],none⟩) rfl (fun K hK => ?_) AllReadyH.nil))
   ·go_simp
    refine hK.out _ _ ?_ (fun hHeld => ?_)
    ·(try dsimp only)
     exact SBN.keep hHeld ((Below.refl _ _).alloc (Nat.le_refl _) _)
    clear hK K
    try simp only [Rg.gp]
    obtain ⟨g5, hg5⟩ : ∃ g, wr.drew.heap.size = g := ⟨_, rfl⟩
    obtain ⟨v5, hv5⟩ : ∃ v, wr.drew.alloc (.cells #[] 3) = v := ⟨_, rfl⟩
    have hE5 : v5.ownsRow base 3 1 (.slice (some ⟨g5, 0, none⟩) 0 0) 0 [] := by rw [← hv5, ← hg5]; exact own_empty _ _ HSZ0.out
    have ha5 : Below wr.drew.heap.size wr.drew v5 := by rw [← hv5]; exact (Below.refl _ _).alloc (Nat.le_refl _) _
    have HE5 := Lib.hid hE5
    have HKP5 := Lib.hid (HKP0.out.below ha5)
    have HFA5 := Lib.hid (HFA0.out.below ha5)
    have HSZ5 : Hid (base ≤ v5.heap.size) := Lib.hid (Nat.le_trans HSZ0.out ha5.size)
    have HG5 : Hid (base ≤ g5 ∧ g5 < v5.heap.size) := Lib.hid ⟨by rw [← hg5]; exact HSZ0.out, by rw [← hg5, ← hv5]; simp⟩
    rw [show (wr.alloc (.cells #[] 3)).drew = v5 from hv5, show wr.heap.size = g5 from hg5]
    first | rw [hv5] at hHeld | rw [show (wr.alloc (.cells #[] 3)).drew = v5 from hv5] at hHeld
    clear hE5 ha5 hv5 hg5
    refine wpAnyH_ready (rs := [8, 9]) (by kernel_rfl) (by simp) ?_
    refine (AllReadyH.cons (o := ⟨some 72,.call ⟨.builtin Builtin.append,#[.tmp 69,.tmp 71],#[39,39]⟩,39,"ref.go:200",#[⟨5,.data⟩,⟨7,.data⟩],none⟩) rfl (fun K hK => ?_) (AllReadyH.cons (o := ⟨some 73,.buildSlice 39 1 #[(0, .const (Value.int IntKind.i64 1))],39,"ref.go:200",#[],none⟩) rfl (fun K hK => ?_) AllReadyH.nil))
    ·refine step_append_own rfl _ _ 39 rfl base 3 i0 (.int .i64 0) 1 8 Try.underlying39 hi hz0 hz1 hz2 rfl (by decide) _ _ _ rfl HE5.out ⟨b, 0, none⟩ F.e cap (F.mod.map N64) rfl (by rw [List.length_map, HMOD.out.1, Nat.mul_one]) (HMC.out _ HFA5.out) (fun u hu => by obtain ⟨y, _, rfl⟩ := List.mem_map.1 hu; rfl) (by unfold maxLen; omega) (by omega) HSZ5.out ?_
     intro v8 w8 hown8 hgrow8
     refine hK.out _ _ ?_ (fun hHeld => ?_)
     ·(try dsimp only)
      exact SBN.grown hHeld hgrow8 (fun k e => by cases e; exact HG5.out.1) HSZ5.out HBS.out.1 (Nat.le_of_lt HBS.out.1)
     clear hK K
     try simp only [Rg.gp]
     have HR8 : Hid (w8.ownsRow base 3 1 v8 F.e (F.mod.map N64)) := Lib.hid (by first | exact hown8 | (have h := hown8; rwa [Nat.zero_add, List.nil_append] at h))
     have hbl8 : Below base v5 w8 := below_own hgrow8 (fun k e => by cases e; exact HG5.out.1) HSZ5.out
     have HKP8 := Lib.hid (HKP5.out.of (hbl8.block _ HBS.out.2.2))
     have HFA8 := Lib.hid (HFA5.out.of (hbl8.block _ HBS.out.2.1))
     have HSZ8 : Hid (base ≤ w8.heap.size) := Lib.hid (Nat.le_trans HSZ5.out hbl8.size)
     clear hown8 hbl8 hgrow8
     refine Rg.rd1 9 ⟨some 73,.buildSlice 39 1 #[(0, .const (Value.int IntKind.i64 1))],39,"ref.go:200",#[],none⟩ fun K hK => ?_
     go_simp
     refine hK.out _ _ ?_ (fun hHeld => ?_)
     ·(try dsimp only)
      exact SBN.keep hHeld ((Below.refl _ _).alloc (Nat.le_refl _) _)
     clear hK K
     try simp only [Rg.gp]
     obtain ⟨g9, hg9⟩ : ∃ g, w8.heap.size = g := ⟨_, rfl⟩
     obtain ⟨v9, hv9⟩ : ∃ v, w8.alloc (.cells #[.int .i64 1] 3) = v := ⟨_, rfl⟩
     have ha9 : Below w8.heap.size w8 v9 := by rw [← hv9]; exact (Below.refl _ _).alloc (Nat.le_refl _) _
     have HO9 : Hid (RC [1] g9 1 v9) := Lib.hid (by rw [← hv9, ← hg9]; exact one_cell _)
     have HKP9 := Lib.hid (HKP8.out.below ha9)
     have HFA9 := Lib.hid (HFA8.out.below ha9)
     have HSZ9 : Hid (base ≤ v9.heap.size) := Lib.hid (Nat.le_trans HSZ8.out ha9.size)
     have HG9 : Hid (base ≤ g9 ∧ g9 < v9.heap.size) := Lib.hid ⟨by rw [← hg9]; exact HSZ8.out, by rw [← hg9, ← hv9]; simp⟩
     have HR9 := Lib.hid (own_belowK HR8.out ha9)
     have HNE9 : Hid (∀ k, v8.ownBlock = some k → k ≠ g9) := Lib.hid fun k hk => by have h := (HR8.out.lt k hk).2; rw [← hg9]; omega
     rw [hv9, hg9]
     rw [hv9] at hHeld
     clear ha9 hv9 hg9
     refine Rg.rd1 10 ⟨some 74,.call ⟨.builtin Builtin.append,#[.tmp 72,.tmp 73],#[39,39]⟩,39,"ref.go:200",#[⟨8,.data⟩,⟨9,.data⟩,⟨8,.chain⟩],none⟩ fun K hK => ?_
     refine step_append_own rfl _ _ 39 rfl base 3 i0 (.int .i64 0) 1 8 Try.underlying39 hi hz0 hz1 hz2 rfl (by decide) _ _ _ rfl HR9.out ⟨g9, 0, none⟩ 1 1 [.int .i64 1] rfl rfl (HO9.out.news) (fun u hu => by simp at hu; subst hu; rfl) (by unfold maxLen; omega) (by omega) HSZ9.out ?_
     intro v10 w10 hown10 hgrow10
     refine hK.out _ _ ?_ (fun hHeld => ?_)
     ·(try dsimp only)
      exact SBN.grown hHeld hgrow10 (fun k e => (HR9.out.lt k e).1) HSZ9.out HBS.out.1 (Nat.le_of_lt HBS.out.1)
     clear hK K
     try simp only [Rg.gp]
     have HR10 : Hid (w10.ownsRow base 3 1 v10 (F.e + 1) (M.map N64)) := Lib.hid (by rw [← HMM.out, List.map_append]; exact hown10)
     have hbl10 : Below base v9 w10 := below_own hgrow10 (fun k e => (HR9.out.lt k e).1) HSZ9.out
     have HKP10 := Lib.hid (HKP9.out.of (hbl10.block _ HBS.out.2.2))
     obtain ⟨a10, c10, hv10⟩ := own_slice HR10.out
     subst hv10
     clear hown10 hbl10 hgrow10
     refine Rg.rd1 11 ⟨some 75,.call ⟨.value (.func 91),#[.tmp 67,.tmp 68,.tmp 74],#[3,39,39]⟩,39,"ref.go:200",#[⟨3,.data⟩,⟨4,.data⟩,⟨10,.data⟩,⟨10,.chain⟩],none⟩ fun K hK => ?_
     have hrest := rest_c (l := Q) (m := M) (al := some ⟨gp, 0, none⟩) (cl := n2) (am := a10) (cm := c10) hp0 hp6 (by rw [HQL.out]; omega) (by rw [HQL.out]; have := HE.out.1; have := HN2.out; omega) (by rw [HML.out]; omega) (by rw [HML.out, HQL.out]; have := HN2.out; omega) HQP.out HMP.out HKP10.out.nn (by rw [HML.out]; exact NN.of_owns (by rw [HML.out]; exact HR10.out))
     rw [HQL.out, HML.out, HRR.out] at hrest
     go_simp
     go_at_call 91
     with_reducible refine hrest.mono ?_
     rintro z w11 ⟨a11, c11, rfl, hn11, hb11⟩
     rw [HRL.out] at hn11 ⊢
     refine hK.out _ _ ?_ (fun hHeld => ?_)
     ·(try dsimp only)
      exact SBN.keep hHeld hb11
     clear hK K
     try simp only [Rg.gp]
     have HN11 := Lib.hid hn11
     clear hrest hn11 hb11
     refine Rg.rd1 12 ⟨some 76,.call ⟨.value (.func 85),#[.tmp 65,.tmp 75],#[3,39]⟩,3,"ref.go:200",#[⟨1,.data⟩,⟨11,.data⟩,⟨11,.chain⟩],none⟩ fun K hK => ?_
     have hnum := rnumber_c (L := R) (a := a11) (c := c11) hp6 (by rw [HRL.out]; omega) HRP.out (by rw [HRL.out]; exact HN11.out)
     rw [HRL.out, ← HRT.out] at hnum
     go_simp
     go_at_call 85
     with_reducible refine hnum.mono ?_
     rintro z w12 ⟨rfl, hb12⟩
     refine hK.out _ _ ?_ (fun hHeld => ?_)
     ·(try dsimp only)
      exact SBN.keep hHeld hb12
     clear hK K
     try simp only [Rg.gp]
     clear hnum hb12
     refine Rg.tk 13 ⟨some 6,.assign (.tmp 76),3,"ref.go:200",#[⟨12,.data⟩,⟨12,.chain⟩,⟨0,.phase⟩,⟨1,.phase⟩,⟨2,.phase⟩,⟨3,.phase⟩,⟨4,.phase⟩,⟨5,.phase⟩,⟨6,.phase⟩,⟨7,.phase⟩,⟨8,.phase⟩,⟨9,.phase⟩,⟨10,.phase⟩,⟨11,.phase⟩,⟨12,.phase⟩],none⟩ ?_
     try simp only [Rg.gp]
     refine wpAnyH_done (by kernel_rfl) ?_ _
     have HBF := Lib.hid hHeld.2.out
     clear hHeld hS0
     go_wp2
     go_ret
     exact ⟨rfl, HBF.out⟩
    ·go_simp
     refine hK.out _ _ ?_ (fun hHeld => ?_)
     ·(try dsimp only)
      exact SBN.keep hHeld ((Below.refl _ _).alloc (Nat.le_refl _) _)
     clear hK K
     try simp only [Rg.gp]
     obtain ⟨g9, hg9⟩ : ∃ g, v5.heap.size = g := ⟨_, rfl⟩
     obtain ⟨v9, hv9⟩ : ∃ v, v5.alloc (.cells #[.int .i64 1] 3) = v := ⟨_, rfl⟩
     have ha9 : Below v5.heap.size v5 v9 := by rw [← hv9]; exact (Below.refl _ _).alloc (Nat.le_refl _) _
     have HO9 : Hid (RC [1] g9 1 v9) := Lib.hid (by rw [← hv9, ← hg9]; exact one_cell _)
     have HKP9 := Lib.hid (HKP5.out.below ha9)
     have HFA9 := Lib.hid (HFA5.out.below ha9)
     have HSZ9 : Hid (base ≤ v9.heap.size) := Lib.hid (Nat.le_trans HSZ5.out ha9.size)
     have HG9 : Hid (base ≤ g9 ∧ g9 < v9.heap.size) := Lib.hid ⟨by rw [← hg9]; exact HSZ5.out, by rw [← hg9, ← hv9]; simp⟩
     have HE9 := Lib.hid (own_belowK HE5.out ha9)
     have HNE9 : Hid (g9 ≠ g5) := Lib.hid (by have h := HG5.out.2; have h2 : v5.heap.size ≤ v5.heap.size := Nat.le_refl _; rw [← hg9]; omega)
     rw [hv9, hg9]
     rw [hv9] at hHeld
     clear ha9 hv9 hg9
     refine Rg.rd1 8 ⟨some 72,.call ⟨.builtin Builtin.append,#[.tmp 69,.tmp 71],#[39,39]⟩,39,"ref.go:200",#[⟨5,.data⟩,⟨7,.data⟩],none⟩ fun K hK => ?_
     refine step_append_own_at rfl _ _ 39 rfl base 3 i0 (.int .i64 0) 1 8 Try.underlying39 hi hz0 hz1 hz2 rfl (by decide) _ _ _ rfl HE9.out ⟨b, 0, none⟩ F.e cap (F.mod.map N64) rfl (by rw [List.length_map, HMOD.out.1, Nat.mul_one]) (HMC.out _ HFA9.out) (fun u hu => by obtain ⟨y, _, rfl⟩ := List.mem_map.1 hu; rfl) (by unfold maxLen; omega) (by omega) HSZ9.out ?_
     intro v8 w8 hown8 hgrow8 hat8
     refine hK.out _ _ ?_ (fun hHeld => ?_)
     ·(try dsimp only)
      exact SBN.grown hHeld hgrow8 (fun k e => by cases e; exact HG5.out.1) HSZ9.out HBS.out.1 (Nat.le_of_lt HBS.out.1)
     clear hK K
     try simp only [Rg.gp]
     have HR8 : Hid (w8.ownsRow base 3 1 v8 F.e (F.mod.map N64)) := Lib.hid (by first | exact hown8 | (have h := hown8; rwa [Nat.zero_add, List.nil_append] at h))
     have hbl8 : Below base v9 w8 := below_own hgrow8 (fun k e => by cases e; exact HG5.out.1) HSZ9.out
     have HKP8 := Lib.hid (HKP9.out.of (hbl8.block _ HBS.out.2.2))
     have HFA8 := Lib.hid (HFA9.out.of (hbl8.block _ HBS.out.2.1))
     have HSZ8 : Hid (base ≤ w8.heap.size) := Lib.hid (Nat.le_trans HSZ9.out hbl8.size)
     have HO8 := Lib.hid (HO9.out.kept hgrow8 (by intro e; injection e with e; exact HNE9.out e.symm))
     have HNE8 : Hid (∀ k, v8.ownBlock = some k → k ≠ g9) := Lib.hid (by
      intro k hk
      rcases hat8 with e | e
      ·rw [e] at hk; injection hk with hk; intro e2; exact HNE9.out (e2.symm.trans hk.symm)
      ·rw [e] at hk; injection hk with hk; have h9 : g9 < v9.heap.size := (HO9.out).lt; omega)
     clear hown8 hbl8 hgrow8 hat8
     refine Rg.rd1 10 ⟨some 74,.call ⟨.builtin Builtin.append,#[.tmp 72,.tmp 73],#[39,39]⟩,39,"ref.go:200",#[⟨8,.data⟩,⟨9,.data⟩,⟨8,.chain⟩],none⟩ fun K hK => ?_
     refine step_append_own rfl _ _ 39 rfl base 3 i0 (.int .i64 0) 1 8 Try.underlying39 hi hz0 hz1 hz2 rfl (by decide) _ _ _ rfl HR8.out ⟨g9, 0, none⟩ 1 1 [.int .i64 1] rfl rfl (HO8.out.news) (fun u hu => by simp at hu; subst hu; rfl) (by unfold maxLen; omega) (by omega) HSZ8.out ?_
     intro v10 w10 hown10 hgrow10
     refine hK.out _ _ ?_ (fun hHeld => ?_)
     ·(try dsimp only)
      exact SBN.grown hHeld hgrow10 (fun k e => (HR8.out.lt k e).1) HSZ8.out HBS.out.1 (Nat.le_of_lt HBS.out.1)
     clear hK K
     try simp only [Rg.gp]
     have HR10 : Hid (w10.ownsRow base 3 1 v10 (F.e + 1) (M.map N64)) := Lib.hid (by rw [← HMM.out, List.map_append]; exact hown10)
     have hbl10 : Below base w8 w10 := below_own hgrow10 (fun k e => (HR8.out.lt k e).1) HSZ8.out
     have HKP10 := Lib.hid (HKP8.out.of (hbl10.block _ HBS.out.2.2))
     obtain ⟨a10, c10, hv10⟩ := own_slice HR10.out
     subst hv10
     clear hown10 hbl10 hgrow10
     refine Rg.rd1 11 ⟨some 75,.call ⟨.value (.func 91),#[.tmp 67,.tmp 68,.tmp 74],#[3,39,39]⟩,39,"ref.go:200",#[⟨3,.data⟩,⟨4,.data⟩,⟨10,.data⟩,⟨10,.chain⟩],none⟩ fun K hK => ?_
     have hrest := rest_c (l := Q) (m := M) (al := some ⟨gp, 0, none⟩) (cl := n2) (am := a10) (cm := c10) hp0 hp6 (by rw [HQL.out]; omega) (by rw [HQL.out]; have := HE.out.1; have := HN2.out; omega) (by rw [HML.out]; omega) (by rw [HML.out, HQL.out]; have := HN2.out; omega) HQP.out HMP.out HKP10.out.nn (by rw [HML.out]; exact NN.of_owns (by rw [HML.out]; exact HR10.out))
     rw [HQL.out, HML.out, HRR.out] at hrest
     go_simp
     go_at_call 91
     with_reducible refine hrest.mono ?_
     rintro z w11 ⟨a11, c11, rfl, hn11, hb11⟩
     rw [HRL.out] at hn11 ⊢
     refine hK.out _ _ ?_ (fun hHeld => ?_)
     ·(try dsimp only)
      exact SBN.keep hHeld hb11
     clear hK K
     try simp only [Rg.gp]
     have HN11 := Lib.hid hn11
     clear hrest hn11 hb11
     refine Rg.rd1 12 ⟨some 76,.call ⟨.value (.func 85),#[.tmp 65,.tmp 75],#[3,39]⟩,3,"ref.go:200",#[⟨1,.data⟩,⟨11,.data⟩,⟨11,.chain⟩],none⟩ fun K hK => ?_
     have hnum := rnumber_c (L := R) (a := a11) (c := c11) hp6 (by rw [HRL.out]; omega) HRP.out (by rw [HRL.out]; exact HN11.out)
     rw [HRL.out, ← HRT.out] at hnum
     go_simp
     go_at_call 85
     with_reducible refine hnum.mono ?_
     rintro z w12 ⟨rfl, hb12⟩
     refine hK.out _ _ ?_ (fun hHeld => ?_)
     ·(try dsimp only)
      exact SBN.keep hHeld hb12
     clear hK K
     try simp only [Rg.gp]
     clear hnum hb12
     refine Rg.tk 13 ⟨some 6,.assign (.tmp 76),3,"ref.go:200",#[⟨12,.data⟩,⟨12,.chain⟩,⟨0,.phase⟩,⟨1,.phase⟩,⟨2,.phase⟩,⟨3,.phase⟩,⟨4,.phase⟩,⟨5,.phase⟩,⟨6,.phase⟩,⟨7,.phase⟩,⟨8,.phase⟩,⟨9,.phase⟩,⟨10,.phase⟩,⟨11,.phase⟩,⟨12,.phase⟩],none⟩ ?_
     try simp only [Rg.gp]
     refine wpAnyH_done (by kernel_rfl) ?_ _
     have HBF := Lib.hid hHeld.2.out
     clear hHeld hS0
     go_wp2
     go_ret
     exact ⟨rfl, HBF.out⟩
   ·go_simp
    refine hK.out _ _ ?_ (fun hHeld => ?_)
    ·(try dsimp only)
     exact SBN.keep hHeld ((Below.refl _ _).alloc (Nat.le_refl _) _)
    clear hK K
    try simp only [Rg.gp]
    obtain ⟨g9, hg9⟩ : ∃ g, wr.drew.heap.size = g := ⟨_, rfl⟩
    obtain ⟨v9, hv9⟩ : ∃ v, wr.drew.alloc (.cells #[.int .i64 1] 3) = v := ⟨_, rfl⟩
    have ha9 : Below wr.drew.heap.size wr.drew v9 := by rw [← hv9]; exact (Below.refl _ _).alloc (Nat.le_refl _) _
    have HO9 : Hid (RC [1] g9 1 v9) := Lib.hid (by rw [← hv9, ← hg9]; exact one_cell _)
    have HKP9 := Lib.hid (HKP0.out.below ha9)
    have HFA9 := Lib.hid (HFA0.out.below ha9)
    have HSZ9 : Hid (base ≤ v9.heap.size) := Lib.hid (Nat.le_trans HSZ0.out ha9.size)
    have HG9 : Hid (base ≤ g9 ∧ g9 < v9.heap.size) := Lib.hid ⟨by rw [← hg9]; exact HSZ0.out, by rw [← hg9, ← hv9]; simp⟩
    rw [show (wr.alloc (.cells #[.int .i64 1] 3)).drew = v9 from hv9, show wr.heap.size = g9 from hg9]
    first | rw [hv9] at hHeld | rw [show (wr.alloc (.cells #[.int .i64 1] 3)).drew = v9 from hv9] at hHeld
    clear ha9 hv9 hg9
    refine Rg.rd1 5 ⟨some 69,.buildSlice 39 0 #[],39,"ref.go:200",#[],none⟩ fun K hK => ?_
    go_simp
    refine hK.out _ _ ?_ (fun hHeld => ?_)
    ·(try dsimp only)
     exact SBN.keep hHeld ((Below.refl _ _).alloc (Nat.le_refl _) _)
    clear hK K
    try simp only [Rg.gp]
    obtain ⟨g5, hg5⟩ : ∃ g, v9.heap.size = g := ⟨_, rfl⟩
    obtain ⟨v5, hv5⟩ : ∃ v, v9.alloc (.cells #[] 3) = v := ⟨_, rfl⟩
    have hE5 : v5.ownsRow base 3 1 (.slice (some ⟨g5, 0, none⟩) 0 0) 0 [] := by rw [← hv5, ← hg5]; exact own_empty _ _ HSZ9.out
    have ha5 : Below v9.heap.size v9 v5 := by rw [← hv5]; exact (Below.refl _ _).alloc (Nat.le_refl _) _
    have HE5 := Lib.hid hE5
    have HKP5 := Lib.hid (HKP9.out.below ha5)
    have HFA5 := Lib.hid (HFA9.out.below ha5)
    have HSZ5 : Hid (base ≤ v5.heap.size) := Lib.hid (Nat.le_trans HSZ9.out ha5.size)
    have HG5 : Hid (base ≤ g5 ∧ g5 < v5.heap.size) := Lib.hid ⟨by rw [← hg5]; exact HSZ9.out, by rw [← hg5, ← hv5]; simp⟩
    have HO5 := Lib.hid (HO9.out.below ha5)
    have HNE5 : Hid (g9 ≠ g5) := Lib.hid (by have h := HG9.out.2; rw [← hg5]; omega)
    rw [hv5, hg5]
    rw [hv5] at hHeld
    clear hE5 ha5 hv5 hg5
    refine Rg.rd1 8 ⟨some 72,.call ⟨.builtin Builtin.append,#[.tmp 69,.tmp 71],#[39,39]⟩,39,"ref.go:200",#[⟨5,.data⟩,⟨7,.data⟩],none⟩ fun K hK => ?_
    refine step_append_own_at rfl _ _ 39 rfl base 3 i0 (.int .i64 0) 1 8 Try.underlying39 hi hz0 hz1 hz2 rfl (by decide) _ _ _ rfl HE5.out ⟨b, 0, none⟩ F.e cap (F.mod.map N64) rfl (by rw [List.length_map, HMOD.out.1, Nat.mul_one]) (HMC.out _ HFA5.out) (fun u hu => by obtain ⟨y, _, rfl⟩ := List.mem_map.1 hu; rfl) (by unfold maxLen; omega) (by omega) HSZ5.out ?_
    intro v8 w8 hown8 hgrow8 hat8
    refine hK.out _ _ ?_ (fun hHeld => ?_)
    ·(try dsimp only)
     exact SBN.grown hHeld hgrow8 (fun k e => by cases e; exact HG5.out.1) HSZ5.out HBS.out.1 (Nat.le_of_lt HBS.out.1)
    clear hK K
    try simp only [Rg.gp]
    have HR8 : Hid (w8.ownsRow base 3 1 v8 F.e (F.mod.map N64)) := Lib.hid (by first | exact hown8 | (have h := hown8; rwa [Nat.zero_add, List.nil_append] at h))
    have hbl8 : Below base v5 w8 := below_own hgrow8 (fun k e => by cases e; exact HG5.out.1) HSZ5.out
    have HKP8 := Lib.hid (HKP5.out.of (hbl8.block _ HBS.out.2.2))
    have HFA8 := Lib.hid (HFA5.out.of (hbl8.block _ HBS.out.2.1))
    have HSZ8 : Hid (base ≤ w8.heap.size) := Lib.hid (Nat.le_trans HSZ5.out hbl8.size)
    have HO8 := Lib.hid (HO5.out.kept hgrow8 (by intro e; injection e with e; exact HNE5.out e.symm))
    have HNE8 : Hid (∀ k, v8.ownBlock = some k → k ≠ g9) := Lib.hid (by
     intro k hk
     rcases hat8 with e | e
     ·rw [e] at hk; injection hk with hk; intro e2; exact HNE5.out (e2.symm.trans hk.symm)
     ·rw [e] at hk; injection hk with hk; have h9 : g9 < v5.heap.size := (HO5.out).lt; omega)
    clear hown8 hbl8 hgrow8 hat8
    refine Rg.rd1 10 ⟨some 74,.call ⟨.builtin Builtin.append,#[.tmp 72,.tmp 73],#[39,39]⟩,39,"ref.go:200",#[⟨8,.data⟩,⟨9,.data⟩,⟨8,.chain⟩],none⟩ fun K hK => ?_
    refine step_append_own rfl _ _ 39 rfl base 3 i0 (.int .i64 0) 1 8 Try.underlying39 hi hz0 hz1 hz2 rfl (by decide) _ _ _ rfl HR8.out ⟨g9, 0, none⟩ 1 1 [.int .i64 1] rfl rfl (HO8.out.news) (fun u hu => by simp at hu; subst hu; rfl) (by unfold maxLen; omega) (by omega) HSZ8.out ?_
    intro v10 w10 hown10 hgrow10
    refine hK.out _ _ ?_ (fun hHeld => ?_)
    ·(try dsimp only)
     exact SBN.grown hHeld hgrow10 (fun k e => (HR8.out.lt k e).1) HSZ8.out HBS.out.1 (Nat.le_of_lt HBS.out.1)
    clear hK K
    try simp only [Rg.gp]
    have HR10 : Hid (w10.ownsRow base 3 1 v10 (F.e + 1) (M.map N64)) := Lib.hid (by rw [← HMM.out, List.map_append]; exact hown10)
    have hbl10 : Below base w8 w10 := below_own hgrow10 (fun k e => (HR8.out.lt k e).1) HSZ8.out
    have HKP10 := Lib.hid (HKP8.out.of (hbl10.block _ HBS.out.2.2))
    obtain ⟨a10, c10, hv10⟩ := own_slice HR10.out
    subst hv10
    clear hown10 hbl10 hgrow10
    refine Rg.rd1 11 ⟨some 75,.call ⟨.value (.func 91),#[.tmp 67,.tmp 68,.tmp 74],#[3,39,39]⟩,39,"ref.go:200",#[⟨3,.data⟩,⟨4,.data⟩,⟨10,.data⟩,⟨10,.chain⟩],none⟩ fun K hK => ?_
    have hrest := rest_c (l := Q) (m := M) (al := some ⟨gp, 0, none⟩) (cl := n2) (am := a10) (cm := c10) hp0 hp6 (by rw [HQL.out]; omega) (by rw [HQL.out]; have := HE.out.1; have := HN2.out; omega) (by rw [HML.out]; omega) (by rw [HML.out, HQL.out]; have := HN2.out; omega) HQP.out HMP.out HKP10.out.nn (by rw [HML.out]; exact NN.of_owns (by rw [HML.out]; exact HR10.out))
    rw [HQL.out, HML.out, HRR.out] at hrest
    go_simp
    go_at_call 91
    with_reducible refine hrest.mono ?_
    rintro z w11 ⟨a11, c11, rfl, hn11, hb11⟩
    rw [HRL.out] at hn11 ⊢
    refine hK.out _ _ ?_ (fun hHeld => ?_)
    ·(try dsimp only)
     exact SBN.keep hHeld hb11
    clear hK K
    try simp only [Rg.gp]
    have HN11 := Lib.hid hn11
    clear hrest hn11 hb11
    refine Rg.rd1 12 ⟨some 76,.call ⟨.value (.func 85),#[.tmp 65,.tmp 75],#[3,39]⟩,3,"ref.go:200",#[⟨1,.data⟩,⟨11,.data⟩,⟨11,.chain⟩],none⟩ fun K hK => ?_
    have hnum := rnumber_c (L := R) (a := a11) (c := c11) hp6 (by rw [HRL.out]; omega) HRP.out (by rw [HRL.out]; exact HN11.out)
    rw [HRL.out, ← HRT.out] at hnum
    go_simp
    go_at_call 85
    with_reducible refine hnum.mono ?_
    rintro z w12 ⟨rfl, hb12⟩
    refine hK.out _ _ ?_ (fun hHeld => ?_)
    ·(try dsimp only)
     exact SBN.keep hHeld hb12
    clear hK K
    try simp only [Rg.gp]
    clear hnum hb12
    refine Rg.tk 13 ⟨some 6,.assign (.tmp 76),3,"ref.go:200",#[⟨12,.data⟩,⟨12,.chain⟩,⟨0,.phase⟩,⟨1,.phase⟩,⟨2,.phase⟩,⟨3,.phase⟩,⟨4,.phase⟩,⟨5,.phase⟩,⟨6,.phase⟩,⟨7,.phase⟩,⟨8,.phase⟩,⟨9,.phase⟩,⟨10,.phase⟩,⟨11,.phase⟩,⟨12,.phase⟩],none⟩ ?_
    try simp only [Rg.gp]
    refine wpAnyH_done (by kernel_rfl) ?_ _
    have HBF := Lib.hid hHeld.2.out
    clear hHeld hS0
    go_wp2
    go_ret
    exact ⟨rfl, HBF.out⟩
end Go.Proofs.Ytdafhhojiioifaa

/- The reference's remainders and products, written so that the kernel reckons each number once. -/
namespace Go.Proofs.Ytdafhhojiioifaa
open Go.Fl
set_option linter.unusedVariables false
section
variable {α : Type}
noncomputable def fcN (n : Nat) (k : Nat → α) : α := Nat.casesOn n (k 0) fun m => k (Nat.succ m)
theorem fcN_eq (n : Nat) (k : Nat → α) : fcN n k = k n := by cases n <;> rfl
noncomputable def fcS (v : Nat) : List Nat → Nat → (List Nat → α) → α
 | [], _, k => k []
 | x :: l, 0, k => k (v :: l)
 | x :: l, t + 1, k => fcS v l t fun l' => k (x :: l')
theorem fcS_eq (v : Nat) : ∀ (l : List Nat) (t : Nat) (k : List Nat → α), fcS v l t k = k (l.set t v)
 | [], _, k => rfl
 | x :: l, 0, k => rfl
 | x :: l, t + 1, k => fcS_eq v l t _
noncomputable def fcL : List Nat → (List Nat → α) → α
 | [], k => k []
 | x :: l, k => fcN x fun x => fcL l fun l => k (x :: l)
theorem fcL_eq : ∀ (l : List Nat) (k : List Nat → α), fcL l k = k l
 | [], k => rfl
 | x :: l, k => by unfold fcL; rw [fcN_eq, fcL_eq l]
noncomputable def rsIF (p c : Nat) (m : List Nat) (i0 : Nat) : Nat → List Nat → (List Nat → α) → α
 | 0, o, f => f o
 | k + 1, o, f => rsIF p c m i0 k o fun o => fcN (Nat.add i0 k) fun t => fcN (Nat.mod (Nat.add (o.getD t 0) (Nat.mul (Nat.sub p c) (m.getD k 0))) p) fun v => fcS v o t f
theorem rsIF_eq (p c : Nat) (m : List Nat) (i0 : Nat) (o : List Nat) : ∀ (k : Nat) (f : List Nat → α), rsIF p c m i0 k o f = f (rsI p c m i0 k o)
 | 0, f => rfl
 | k + 1, f => by unfold rsIF; rw [rsIF_eq p c m i0 o k, fcN_eq, fcN_eq, fcS_eq]; rfl
noncomputable def rsOF (p : Nat) (m : List Nat) (d n : Nat) : Nat → List Nat → (List Nat → α) → α
 | 0, o, f => f o
 | j + 1, o, f => rsOF p m d n j o fun o => fcN (o.getD (Nat.sub (Nat.sub n 1) j) 0) fun c => fcN (Nat.sub (Nat.sub (Nat.sub n 1) j) d) fun i0 => rsIF p c m i0 (Nat.succ d) o f
theorem rsOF_eq (p : Nat) (m : List Nat) (d n : Nat) (o : List Nat) : ∀ (j : Nat) (f : List Nat → α), rsOF p m d n j o f = f (rsO p m d n j o)
 | 0, f => rfl
 | j + 1, f => by unfold rsOF; rw [rsOF_eq p m d n o j, fcN_eq, fcN_eq, rsIF_eq]; rfl
noncomputable def restF (p : Nat) (l m : List Nat) (f : List Nat → α) : α := fcN (Nat.sub m.length 1) fun d => fcN l.length fun n => rsOF p m d n (Nat.sub n d) l fun o => f (o.take d)
theorem restF_eq (p : Nat) (l m : List Nat) (f : List Nat → α) : restF p l m f = f (restL p l m) := by unfold restF; rw [fcN_eq, fcN_eq, rsOF_eq]; rfl
noncomputable def mIF (p x : Nat) (Y : List Nat) (i : Nat) : Nat → List Nat → (List Nat → α) → α
 | 0, o, f => f o
 | k + 1, o, f => mIF p x Y i k o fun o => fcN (Nat.add i k) fun t => fcN (Nat.mod (Nat.add (o.getD t 0) (Nat.mul x (Y.getD k 0))) p) fun v => fcS v o t f
theorem mIF_eq (p x : Nat) (Y : List Nat) (i : Nat) (o : List Nat) : ∀ (k : Nat) (f : List Nat → α), mIF p x Y i k o f = f (mI p x Y i k o)
 | 0, f => rfl
 | k + 1, f => by unfold mIF; rw [mIF_eq p x Y i o k, fcN_eq, fcN_eq, fcS_eq]; rfl
noncomputable def mOF (p : Nat) (X Y : List Nat) (e : Nat) : Nat → List Nat → (List Nat → α) → α
 | 0, o, f => f o
 | i + 1, o, f => mOF p X Y e i o fun o => mIF p (X.getD i 0) Y i e o f
theorem mOF_eq (p : Nat) (X Y : List Nat) (e : Nat) (o : List Nat) : ∀ (i : Nat) (f : List Nat → α), mOF p X Y e i o f = f (mO p X Y e i o)
 | 0, f => rfl
 | i + 1, f => by unfold mOF; rw [mOF_eq p X Y e o i, mIF_eq]; rfl
end
/-- n rows from lo on -/
noncomputable def kRmR (F : Gf) (lo n : Nat) : Bool := fcL (F.mod ++ [1]) fun M => allLt n fun i => fcN (Nat.add lo i) fun a => fcL (dgL F.p F.e a) fun X => allLt F.q fun b => fcL (dgL F.p F.e b) fun Y =>
 mOF F.p X Y F.e F.e (List.replicate (Nat.mul 2 F.e) 0) fun Q => restF F.p Q M fun R => Nat.beq (numL F.p R) (F.mul a b)
theorem kRmR_ok {F : Gf} {lo n : Nat} (h : kRmR F lo n = true) {a b : Nat} (h1 : lo ≤ a) (h2 : a < lo + n) (hb : b < F.q) : rmulT F a b = F.mul a b := by
 unfold kRmR at h
 rw [fcL_eq] at h
 have h3 := allLt_ok h (a - lo) (by omega)
 rw [fcN_eq, show Nat.add lo (a - lo) = a by show lo + (a - lo) = a; omega, fcL_eq] at h3
 have h4 := allLt_ok h3 b hb
 rw [fcL_eq, mOF_eq, restF_eq] at h4
 exact Nat.eq_of_beq_eq_true h4
end Go.Proofs.Ytdafhhojiioifaa
