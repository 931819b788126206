/- kernel: what a matrix takes to zero. -/
import Derived.Test.YteeofijcndgbfaaEvTk
import Derived.Test.YteeofijcndgbfaaSn
import Derived.Test.YteeofijcndgbfaaEvWl
namespace Go.Proofs.Yteeofijcndgbfaa
open Go.RowKit Go.Fl
set_option maxRecDepth 100000
set_option linter.unusedVariables false
set_option linter.unusedSimpArgs false
set_option linter.unusedSectionVars false
theorem info4 : (Try.prog.info? 4).map (fun i=>(i.zero,i.size,i.bytes)) = some (some (.bool false),1,1):=by kernel_rfl
structure BB (f : Nat → Bool) (n r : Nat) (w : World) : Prop where
 lt : r < w.heap.size
 cell : ∀ t,t < n → w.cell? ⟨r,t,none⟩ = some (.bool (f t))
 fz : ∀ t,w.frozen? ⟨r,t,none⟩ = false
theorem BB.bx {f : Nat → Bool} {n r : Nat} {w w' : World} (h : BB f n r w) {S : Nat → Prop} (hb : Bx S w w') (hs : ¬ S r) : BB f n r w':=
 ⟨Nat.lt_of_lt_of_le h.lt hb.size,fun t ht=>(hb.cell h.lt hs).trans (h.cell t ht),fun t=>(World.frozen?_of_block (w:=w) (hb.block r h.lt hs)).trans (h.fz t)⟩
theorem BB.set {f g : Nat → Bool} {n r : Nat} {w : World} (h : BB f n r w) {k : Nat} {x : Bool} (hg : ∀ t,t < n → g t = if t = k then x else f t) : BB g n r (w.setCell ⟨r,k,none⟩ (.bool x)):=
 ⟨by simpa [World.setCell] using h.lt,fun s hs=>by
  rw [hg s hs]
  by_cases e : s = k
  ·subst e
   rw [World.cell?_setCell_same _ _ _ (h.cell s hs),if_pos rfl]
  ·rw [World.cell?_setCell_other _ _ _ _ (fun e'=>e (by injection e' with _ e' _; exact e'.symm)),h.cell s hs,if_neg e],fun s=>by rw [World.frozen?_setCell]; exact h.fz s⟩
theorem OV.shape {D : List (List Nat)} {g : Nat} {rs : List Nat} {n : Nat} {w : World} {v : Value} (h : OV D g rs n w v) : ∃ a c,v = .slice a D.length c:=by
 rcases h with ⟨rfl,rfl⟩ | ⟨c,rfl,_⟩
 ·exact ⟨none,0,rfl⟩
 ·exact ⟨_,_,rfl⟩
theorem OV.bx {D : List (List Nat)} {g : Nat} {rs : List Nat} {n : Nat} {w w' : World} {v : Value} (h : OV D g rs n w v) {S : Nat → Prop} (hb : Bx S w w') (hg : ¬ S g) (hr : ∀ i,i < D.length → ¬ S (rs.getD i 0)) : OV D g rs n w' v:=
 h.imp_right fun ⟨c,h1,h2,h3⟩=>⟨c,h1,h2,h3.bx hb hg hr⟩
theorem OV.at {D : List (List Nat)} {g : Nat} {rs : List Nat} {n : Nat} {w : World} {a : Option Addr} {c : Nat} (h : OV D g rs n w (.slice a D.length c)) {i : Nat} (hi : i < D.length) : a = some ⟨g,0,none⟩ ∧ OM D g rs n w:=by
 rcases h with ⟨e,_⟩ | ⟨c,h1,h2,h3⟩
 ·rw [e] at hi; simp at hi
 ·injection h1 with h1 _ _; exact ⟨h1,h3⟩
theorem Bx.old {S : Nat → Prop} {a b : World} (h : Bx S a b) (hs : ∀ k,k < a.heap.size → ¬ S k) : Bx (fun _=>False) a b:=⟨h.os,h.tape,h.output,h.size,fun k hk _=>h.block k hk (hs k hk)⟩
abbrev RZ (B : Nat) (w : World) : Prop:=(w.cell? ⟨B,0,none⟩ = some (.int .i64 0) ∧ w.cell? ⟨B,1,none⟩ = some (.int .i64 0) ∧ w.cell? ⟨B,2,none⟩ = some (.slice none 0 0) ∧ w.cell? ⟨B,3,none⟩ = some (.int .i64 0) ∧ w.cell? ⟨B,4,none⟩ = some (.slice none 0 0)) ∧ (∀ t,w.frozen? ⟨B,t,none⟩ = false) ∧ B < w.heap.size
theorem RZ.bx {B : Nat} {w w' : World} (h : RZ B w) {S : Nat → Prop} (hb : Bx S w w') (hs : ¬ S B) : RZ B w':=by
 obtain ⟨⟨h0,h1,h2,h3,h4⟩,hf,hl⟩:=h
 exact ⟨⟨(hb.cell hl hs).trans h0,(hb.cell hl hs).trans h1,(hb.cell hl hs).trans h2,(hb.cell hl hs).trans h3,(hb.cell hl hs).trans h4⟩,fun t=>(World.frozen?_of_block (w:=w) (hb.block B hl hs)).trans (hf t),Nat.lt_of_lt_of_le hl hb.size⟩
structure KA (F : Gf) (b cap n B G : Nat) (v0 v : Value) (R : List (List Nat)) (g : Nat) (rs P : List Nat) (pv : Value) (w : World) : Prop where
 fld : FldAt F b cap w
 mb : BX B F b cap n v0 w
 rz : RZ (B + 1) w
 rb : BX G F b cap n v w
 rows : OV R g rs n w v
 piv : NN P w pv
theorem KA.bx {F : Gf} {b cap n B G : Nat} {v0 v : Value} {R : List (List Nat)} {g : Nat} {rs P : List Nat} {pv : Value} {w w' : World} (h : KA F b cap n B G v0 v R g rs P pv w) (hb : Bx (fun _=>False) w w') : KA F b cap n B G v0 v R g rs P pv w':=
 ⟨h.fld.bx hb id,h.mb.bx hb id,h.rz.bx hb id,h.rb.bx hb id,h.rows.bx hb id fun _ _=>id,h.piv.bx hb fun _ _ _ _ _=>id⟩
def KerP (F : Gf) (b cap n : Nat) (M0 : List (List Nat)) (rs0 : List Nat) (g : Nat) (W : World) (e : Ending) (w' : World) : Prop:=
 ∃ g' rs v,e = .returned (MV F b cap n v) ∧ OV (kerM F n M0) g' rs n w' v ∧ Bx (Mb M0 rs0 g) W w'
structure KN (F : Gf) (n m : Nat) (R : List (List Nat)) (P : List Nat) (L : List (Nat × Cf)) : Prop where
 rl : R.length = m
 pl : P.length = m
 ll : L.length = m
 pb : ∀ i,i < m → P.getD i 0 < n
 rb : ∀ i j,i < m → j < n → (R.getD i []).getD j 0 < F.q
 isp : ∀ i t,i < m → isP (L.take (i + 1)) t = if t = P.getD i 0 then true else isP (L.take i) t
 xs : ∀ i j,i < m → j < n → (xK F L n j i).set (P.getD i 0) (F.neg ((R.getD i []).getD j 0)) = xK F L n j (i + 1)
theorem KN.of {F : Gf} (hF : Ok F) {n : Nat} {S : List (List Nat)} (h : Mn F n S) : KN F n (redL F n (S.map Go.Fl.fn)).length (redM F n S) (pivM F n S) (redL F n (S.map Go.Fl.fn)):=by
 obtain ⟨h1,-,-⟩:=redL_ok hF (Mn.vs hF h)
 refine ⟨redM_len _ _,pivM_len _ _,rfl,fun i hi=>?_,fun i j hi hj=>?_,fun i t hi=>?_,fun i j hi hj=>?_⟩
 ·rw [pivM_get hi]; exact (h1.ro _ (List.getElem_mem hi)).bd
 ·rw [redM_row hF hi hj]; exact (h1.ro _ (List.getElem_mem hi)).el j
 ·rw [isP_take hi,pivM_get hi]
  by_cases e : t = ((redL F n (S.map Go.Fl.fn))[i]).1
  ·rw [if_pos e,← e]; simp
  ·rw [if_neg e]
   have : (((redL F n (S.map Go.Fl.fn))[i]).1 == t) = false:=by simpa using fun e'=>e e'.symm
   rw [this,Bool.or_false]
 ·rw [redM_row hF hi hj,pivM_get hi]; exact xK_succ hF h1 hi
theorem NN.atm {P : List Nat} {w : World} {a : Option Addr} {m c : Nat} (h : NN P w (.slice a m c)) (hm : P.length = m) {k : Nat} (hk : k < m) : ∃ b o,a = some ⟨b,o,none⟩ ∧ w.cell? ⟨b,o + k,none⟩ = some (.int .i64 (P.getD k 0 : Nat)):=by
 subst hm; exact h.at hk
abbrev SK (F : Gf) (b cap n : Nat) (mv : Value) (B X pb po pk rk j yy : Nat) (wr w : World) : Prop:=SG F b cap n mv B (fun k=>k = X) wr w ∧ w.cell? ⟨pb,po,none⟩ = some (.int .i64 (pk : Nat)) ∧ w.cell? ⟨rk,j,none⟩ = some (.int .i64 (yy : Nat)) ∧ Hid (pb < w.heap.size ∧ rk < w.heap.size)
theorem SK.keep {F : Gf} {b cap n : Nat} {mv : Value} {B X pb po pk rk j yy : Nat} {wr w w' : World} (h : SK F b cap n mv B X pb po pk rk j yy wr w) (hb : Below w.heap.size w w') : SK F b cap n mv B X pb po pk rk j yy wr w':=by
 have hb' : Bx (fun _=>False) w w':=Bx.of hb
 exact ⟨SG.keep h.1 hb,(hb'.cell h.2.2.2.out.1 id).trans h.2.1,(hb'.cell h.2.2.2.out.2 id).trans h.2.2.1,Lib.hid ⟨Nat.lt_of_lt_of_le h.2.2.2.out.1 hb.size,Nat.lt_of_lt_of_le h.2.2.2.out.2 hb.size⟩⟩
theorem SK.set {F : Gf} {b cap n : Nat} {mv : Value} {B X pb po pk rk j yy t : Nat} {wr w : World} (h : SK F b cap n mv B X pb po pk rk j yy wr w) (hn : B ≠ X ∧ b ≠ X ∧ pb ≠ X ∧ rk ≠ X) (x : Value) : SK F b cap n mv B X pb po pk rk j yy wr (w.setCell ⟨X,t,none⟩ x):=by
 have hb' : Bx (fun k=>k = X) w (w.setCell ⟨X,t,none⟩ x):=Bx.set (S:=fun k=>k = X) rfl x
 exact ⟨SG.bx h.1 hb' ⟨hn.1,hn.2.1⟩,(hb'.cell h.2.2.2.out.1 hn.2.2.1).trans h.2.1,(hb'.cell h.2.2.2.out.2 hn.2.2.2).trans h.2.2.1,Lib.hid ⟨Nat.lt_of_lt_of_le h.2.2.2.out.1 hb'.size,Nat.lt_of_lt_of_le h.2.2.2.out.2 hb'.size⟩⟩
set_option maxHeartbeats 6400000 in
theorem kernel_c {F : Gf} {b cap n : Nat} {M0 : List (List Nat)} {g : Nat} {rs0 : List Nat} {v0 : Value} {W : World} (hA : FldAt F b cap W) (hn : n ≤ 1000) (hl : M0.length ≤ 1000) (h : OV M0 g rs0 n W v0) (hm : Mn F n M0) (hbg : b < g) (hb : ∀ i,i < M0.length → b < rs0.getD i 0) (hg : g < W.heap.size) :
  Calls Try.prog 55 #[MV F b cap n v0] W (KerP F b cap n M0 rs0 g W):=by
 obtain ⟨i0,hi,hz0,hz1,hz2⟩:=info_parts info3
 obtain ⟨j0,ji,jz0,jz1,jz2⟩:=info_parts info27
 obtain ⟨k0,ki,kz0,kz1,kz2⟩:=info_parts info4
 have HFF : Hid (Ok F):=Lib.hid (ok_mem hA.mem)
 obtain ⟨s0,n0,c0,hvs⟩ : ∃ a m c,v0 = .slice a m c:=by obtain ⟨a,c,e⟩:=h.shape; exact ⟨a,_,c,e⟩
 subst hvs
 obtain ⟨v0,hv0⟩ : ∃ v0,v0 = Value.slice s0 n0 c0:=⟨_,rfl⟩
 obtain ⟨w0,hw0⟩ : ∃ w0,w0 = ((W.alloc (.cells #[.int .i64 F.p,.int .i64 F.e,FM F b cap,.int .i64 (n : Nat),v0] 79)).alloc (.cells #[.int .i64 0,.int .i64 0,.slice none 0 0,.int .i64 0,.slice none 0 0] 79)):=⟨_,rfl⟩
 have HAL : Hid (Below W.heap.size W w0):=Lib.hid (by rw [hw0]; exact ((Below.refl _ _).alloc (Nat.le_refl _) _).alloc (by simp) _)
 have HX0 : Hid (Bx (fun _=>False) W w0):=Lib.hid (Bx.of HAL.out)
 have HS : Hid (w0.heap.size = W.heap.size + 2):=Lib.hid (by rw [hw0]; simp)
 have HMB : Hid (BX W.heap.size F b cap n v0 w0):=Lib.hid (by rw [hw0]; exact ⟨⟨(World.cell?_alloc_lt _ _ _ (by simp)).trans (World.cell?_alloc_at _ _ _ _ rfl),(World.cell?_alloc_lt _ _ _ (by simp)).trans (World.cell?_alloc_at _ _ _ _ rfl),(World.cell?_alloc_lt _ _ _ (by simp)).trans (World.cell?_alloc_at _ _ _ _ rfl),(World.cell?_alloc_lt _ _ _ (by simp)).trans (World.cell?_alloc_at _ _ _ _ rfl),(World.cell?_alloc_lt _ _ _ (by simp)).trans (World.cell?_alloc_at _ _ _ _ rfl)⟩,fun t=>(World.frozen?_alloc_past _ _ _ (by simp)).trans (World.frozen?_alloc_at _ _ _ _ rfl),by simp; omega⟩)
 have HRZ : Hid (RZ (W.heap.size + 1) w0):=Lib.hid (by
  rw [hw0]; exact ⟨⟨World.cell?_alloc_at _ _ _ _ (by simp),World.cell?_alloc_at _ _ _ _ (by simp),World.cell?_alloc_at _ _ _ _ (by simp),World.cell?_alloc_at _ _ _ _ (by simp),World.cell?_alloc_at _ _ _ _ (by simp)⟩,fun t=>World.frozen?_alloc_at _ _ _ _ (by simp),by simp⟩)
 have HF0:=Lib.hid (hA.bx HX0.out id)
 have HOV:=Lib.hid (h.bx HX0.out id fun _ _=>id)
 have HLT : Hid (∀ k,W.heap.size ≤ k → ¬ Mb M0 rs0 g k):=Lib.hid (by
  rintro k hk (e | ⟨i,hi,e⟩)
  ·omega
  ·rcases h with ⟨h,-⟩ | ⟨_,_,_,h⟩
   ·rw [h] at hi; simp at hi
   ·have:=(h.rw' i hi).lt; omega)
 have HBM : Hid (¬ Mb M0 rs0 g b):=Lib.hid (by
  rintro (e | ⟨i,hi,e⟩)
  ·omega
  ·have:=hb i hi; omega)
 have HBB:=Lib.hid hb
 have HBG:=Lib.hid hbg
 have HM:=Lib.hid hm
 have HV0:=Lib.hid hv0
 rw [← hv0] at HOV
 obtain ⟨R,hR⟩ : ∃ R,redM F n M0 = R:=⟨_,rfl⟩
 obtain ⟨P,hP⟩ : ∃ R,pivM F n M0 = R:=⟨_,rfl⟩
 obtain ⟨L,hL⟩ : ∃ R,redL F n (M0.map Go.Fl.fn) = R:=⟨_,rfl⟩
 obtain ⟨m,hmm⟩ : ∃ m,L.length = m:=⟨_,rfl⟩
 have HKN : Hid (KN F n m R P L):=Lib.hid (by have:=KN.of HFF.out hm; rw [hR,hP,hL,hmm] at this; exact this)
 have HKE : Hid (redM F n (Dk F L n n) = kerM F n M0):=Lib.hid (by rw [← hL]; exact Dk_ker HFF.out hm)
 have HRR:=Lib.hid hR
 have HPP:=Lib.hid hP
 have HMM : Hid (m ≤ 1000):=Lib.hid (by have:=redM_le HFF.out hm; rw [hR,HKN.out.rl] at this; omega)
 have hm5:=HMM.out
 have HW0:=Lib.hid (hw0.trans (by rw [hv0]))
 clear hA h hm hbg hb hw0 hR hP hL hmm hv0 hg
 go_enter Try.func55,Try.ntmps55
 go_wp2_with fail
 rw [← HW0.out]
 clear HW0
 rw [← HV0.out]
 with_reducible refine (reduced_v HF0.out hn hl HOV.out HM.out HBG.out HBB.out).mono ?_
 rintro z w1 ⟨rs,v,a,ca,rfl,hnp,hov,hblk,hbx⟩
 rw [HRR.out] at hov hblk
 rw [HPP.out,HKN.out.pl] at hnp ⊢
 obtain ⟨av,cv,hvs⟩:=hov.shape
 rw [HKN.out.rl] at hvs
 subst hvs
 have HB1:=Lib.hid (hbx)
 have HNB : Hid (∀ k,W.heap.size ≤ k → ¬ Mb M0 rs0 g k):=HLT
 have hal1 : Bx (fun _=>False) w1 (w1.alloc (.cells #[.int .i64 F.p,.int .i64 F.e,FM F b cap,.int .i64 (n : Nat),.slice av m cv] 79)):=Bx.of ((Below.refl _ _).alloc (Nat.le_refl _) _)
 obtain ⟨w2,hw2⟩ : ∃ w2,w2 = (w1.alloc (.cells #[.int .i64 F.p,.int .i64 F.e,FM F b cap,.int .i64 (n : Nat),.slice av m cv] 79)):=⟨_,rfl⟩
 rw [← hw2] at hal1
 have HS2 : Hid (w2.heap.size = w1.heap.size + 1):=Lib.hid (by rw [hw2]; simp)
 have HKA : Hid (KA F b cap n W.heap.size w1.heap.size v0 (.slice av m cv) R g rs P (.slice a m ca) w2):=Lib.hid
  ⟨(HF0.out.bx hbx HBM.out).bx hal1 id,(HMB.out.bx hbx (HLT.out _ (Nat.le_refl _))).bx hal1 id,(HRZ.out.bx hbx (HLT.out _ (Nat.le_succ _))).bx hal1 id,by
   rw [hw2]; exact ⟨⟨World.cell?_alloc_at _ _ _ _ rfl,World.cell?_alloc_at _ _ _ _ rfl,World.cell?_alloc_at _ _ _ _ rfl,World.cell?_alloc_at _ _ _ _ rfl,World.cell?_alloc_at _ _ _ _ rfl⟩,fun t=>World.frozen?_alloc_at _ _ _ _ rfl,by simp⟩,
   hov.bx hal1 id fun _ _=>id,hnp.bx hal1 fun _ _ _ _ _=>id⟩
 have HB2:=Lib.hid (hbx.trans (hal1.mono (T:=Mb M0 rs0 g) fun _ e=>e.elim))
 have HW2:=Lib.hid hw2
 obtain ⟨⟨x0,x1,x2,x3,x4⟩,-,-⟩:=HKA.out.mb
 rw [hw2] at x0 x1 x2 x3 x4
 clear hnp hov hblk hbx hal1 hw2 HMB HRZ HOV HF0
 go_wp2_with (refine wpList_make_full _ rfl _ _ 100 rfl 0 4 k0 (.bool false) 1 Try.underlying100 ki kz0 kz1 .i64 .i64 (n : Int) (n : Int) n rfl rfl rfl rfl (by rw [kz2]; omega) (by unfold maxLen; omega) (Nat.zero_le _) ?_)
 rw [← HW2.out]
 intro w3 hown hgrow
 have HG3 : Hid (Bx (fun _=>False) w2 w3):=Lib.hid (Bx.of ((Below.refl _ _).grown hgrow (by simp) (fun k hk=>by cases hk)))
 have HBB0 : Hid (BB (isP (L.take 0)) n (w1.heap.size + 1) w3):=Lib.hid (by
  have e:=toList_madeCells_one (Value.bool false) n
  refine ⟨(World.ownsRow.lt hown _ rfl).2,fun t ht=>?_,fun t=>World.ownsRow.frozenAt hown t⟩
  rw [World.ownsRow.cellAt hown t (by omega)]
  rw [e,List.getElem?_replicate,if_pos ht]
  rfl)
 clear hown hgrow x0 x1 x2 x3 x4
 go_wp2
 go_loopw [23] (fun i wr=>∃ (k : Nat),k ≤ m ∧ i = .int .i64 k ∧ Hid (BB (isP (L.take k)) n (w1.heap.size + 1) wr) ∧ Hid (Bx (fun j=>j = w1.heap.size + 1) w3 wr)) (fun i _=>m - (intOf i).toNat)
 case atStart=>exact ⟨0,Nat.zero_le _,rfl,HBB0,Bx.refl _ _⟩
 case round =>
  obtain ⟨k,hk,rfl,KBB,KB⟩:=hrel
  have HX4 : Hid (Bx (fun _=>False) w2 wr):=Lib.hid (((HG3.out.mono (T:=fun j=>j = w1.heap.size + 1) fun _ e=>e.elim).trans KB.out).old fun k hk e=>by have:=HS2.out; omega)
  by_cases hlt : k < m
  ·obtain ⟨pk,hpk⟩ : ∃ x,Hid (P.getD k 0 = x):=⟨_,rfl⟩
   have hpn : pk < n:=by rw [← hpk.out]; exact HKN.out.pb k hlt
   obtain ⟨b1,o1,rfl,hc⟩:=(HKA.out.bx HX4.out).piv.atm HKN.out.pl hlt
   rw [hpk.out] at hc
   have hk5 : k < 1000:=by omega
   obtain ⟨bb,hbb⟩ : ∃ x,isP (L.take k) pk = x:=⟨_,rfl⟩
   have hcc:=KBB.out.cell pk hpn
   rw [hbb] at hcc
   have hff:=KBB.out.fz pk
   have HB9 : Hid (BB (isP (L.take (k + 1))) n (w1.heap.size + 1) (wr.setCell ⟨w1.heap.size + 1,pk,none⟩ (.bool true))):=Lib.hid (KBB.out.set fun t ht=>by rw [HKN.out.isp k t hlt,hpk.out])
   have HKB9 : Hid (Bx (fun j=>j = w1.heap.size + 1) w3 (wr.setCell ⟨w1.heap.size + 1,pk,none⟩ (.bool true))):=Lib.hid (KB.out.trans (Bx.set (S:=fun j=>j = w1.heap.size + 1) rfl _))
   clear hbb
   go_wp2
   go_roundw
   case rel=>exact ⟨k + 1,by omega,by go_num,HB9,HKB9⟩
   case measure=>simp [intOf]; omega
  ·have HE : Hid (k = m):=Lib.hid (by omega)
   have hlt1 : ¬ (k : Int) < (m : Int):=by omega
   have HBF : Hid (BB (isP L) n (w1.heap.size + 1) wr):=Lib.hid (by have:=KBB.out; rwa [HE.out,List.take_of_length_le (by rw [HKN.out.ll]; exact Nat.le_refl _)] at this)
   have HK4:=Lib.hid (HKA.out.bx HX4.out)
   have HBW4 : Hid (Bx (Mb M0 rs0 g) w0 wr):=Lib.hid (HB2.out.trans (HX4.out.mono fun _ e=>e.elim))
   have HS4 : Hid (w1.heap.size + 1 < wr.heap.size ∧ W.heap.size + 1 < w1.heap.size):=Lib.hid ⟨KBB.out.lt,by have:=HB1.out.size; have:=HS.out; omega⟩
   obtain ⟨⟨x0,x1,x2,x3,x4⟩,-,-⟩:=HK4.out.mb
   have HR : Hid (Calls Try.prog 54 #[FV F b cap,.int .i64 (n : Nat),.slice none 0 0] wr (OverP F b cap n [] wr)):=Lib.hid (over_c (Ms:=[]) (a:=none) (c:=0) HK4.out.fld hn (by simp) (by simp) (fun t ht=>absurd ht (by simp)) (.inl ⟨rfl,rfl⟩))
   clear KBB KB HKA HB2
   go_wp2_with fail
   with_reducible refine HR.out.mono ?_
   rintro z w5 ⟨rsD,vD,rfl,hor,hnl,-,hbl⟩
   obtain rfl:=hnl rfl
   obtain ⟨w6,hw6⟩ : ∃ w6,w6 = (w5.alloc (.cells #[.int .i64 F.p,.int .i64 F.e,FM F b cap,.int .i64 (n : Nat),.slice none 0 0] 79)):=⟨_,rfl⟩
   have hal5 : Bx (fun _=>False) w5 w6:=by rw [hw6]; exact Bx.of ((Below.refl _ _).alloc (Nat.le_refl _) _)
   have HK5:=Lib.hid (HK4.out.bx (Bx.of hbl))
   have HBF5 : Hid (BB (isP L) n (w1.heap.size + 1) w5):=Lib.hid (HBF.out.bx (S:=fun _=>False) (Bx.of hbl) id)
   have HBW5 : Hid (Bx (Mb M0 rs0 g) w0 w5):=Lib.hid (HBW4.out.trans (Bx.of hbl))
   have HO6 : Hid (OR (Dk F L n 0) [] n (w5.heap.size + 1) w6 (.slice none 0 0)):=Lib.hid (OR.nil _ _ _)
   have HKX6 : Hid (BX w5.heap.size F b cap n (.slice none 0 0) w6):=Lib.hid (by
    rw [hw6]; exact ⟨⟨World.cell?_alloc_at _ _ _ _ rfl,World.cell?_alloc_at _ _ _ _ rfl,World.cell?_alloc_at _ _ _ _ rfl,World.cell?_alloc_at _ _ _ _ rfl,World.cell?_alloc_at _ _ _ _ rfl⟩,fun t=>World.frozen?_alloc_at _ _ _ _ rfl,by simp⟩)
   have HX6 : Hid (Bx (fun k=>w5.heap.size ≤ k) w5 w6):=Lib.hid (hal5.mono fun _ e=>e.elim)
   have HS6 : Hid (w6.heap.size = w5.heap.size + 1 ∧ wr.heap.size ≤ w5.heap.size):=Lib.hid ⟨by rw [hw6]; simp,hbl.size⟩
   have HW6:=Lib.hid hw6
   obtain ⟨⟨x0,x1,x2,x3,x4⟩,-,-⟩:=HK5.out.mb
   obtain ⟨⟨y0,y1,y2,y3,y4⟩,-,-⟩:=(HK5.out.bx (w':=w6) hal5).mb
   clear hor hnl hbl hal5 HK4 HBF HBW4
   rw [hw6] at y0 y1 y2 y3 y4
   clear hw6
   go_wp2
   rw [← HW6.out]
   clear y0 y1 y2 y3 y4 HW6
   go_loopw [38] (fun i wr=>∃ (j : Nat) (rsD : List Nat) (vD : Value),j ≤ n ∧ i = .int .i64 j ∧ Hid (OR (Dk F L n j) rsD n (w5.heap.size + 1) wr vD) ∧ Hid (BX w5.heap.size F b cap n vD wr) ∧ Hid (Bx (fun k=>w5.heap.size ≤ k) w5 wr)) (fun i _=>n - (intOf i).toNat)
   case atStart=>exact ⟨0,[],_,Nat.zero_le _,rfl,HO6,HKX6,HX6⟩
   case round =>
    obtain ⟨wo,rfl⟩ : ∃ w,w = wr:=⟨_,rfl⟩
    obtain ⟨j,rsD,vD,hj,rfl,HO,HKX,KB⟩:=hrel
    have HX5 : Hid (Bx (fun _=>False) w5 wo):=Lib.hid (KB.out.old fun k hk e=>by omega)
    have HKW:=Lib.hid (HK5.out.bx HX5.out)
    have HBW:=Lib.hid (HBF5.out.bx HX5.out id)
    by_cases hlt : j < n
    ·obtain ⟨bb,hbb⟩ : ∃ x,isP L j = x:=⟨_,rfl⟩
     have hcc:=HBW.out.cell j hlt
     rw [hbb] at hcc
     have hj5 : j < 1000:=by omega
     obtain ⟨⟨x0,x1,x2,x3,x4⟩,-,-⟩:=HKW.out.mb
     obtain ⟨⟨z0,z1,z2,z3,z4⟩,-,-⟩:=HKW.out.rb
     have HBJ:=Lib.hid hbb
     clear hbb
     cases bb with
     | true =>
      go_wp2
      go_roundw
      case rel=>exact ⟨j + 1,rsD,vD,by omega,by go_num,by rw [Dk_no HBJ.out]; exact HO,HKX,KB⟩
      case measure=>simp [intOf]; omega
     | false =>
      have HFR:=Lib.hid (HO.out.fresh (Nat.le_refl _))
      go_wp2_with (refine wpList_make_full _ rfl _ _ 27 rfl 0 3 i0 (.int .i64 0) 1 Try.underlying27 hi hz0 hz1 .i64 .i64 (n : Int) (n : Int) n rfl rfl rfl rfl (by rw [hz2]; omega) (by unfold maxLen; omega) (Nat.zero_le _) ?_)
      intro w7 hown hgrow
      have HROW : Hid (Row (List.replicate n 0) wo.heap.size w7):=Lib.hid (Row.of_own (n:=n) (base:=0) (by
       have e:=toList_madeCells_one (Value.int .i64 0) n
       rw [List.map_replicate,show N64 0 = Value.int .i64 0 from rfl,← e]
       simpa using hown) (by simp))
      have HG7 : Hid (Bx (fun _=>False) wo w7):=Lib.hid (Bx.of ((Below.refl _ _).grown hgrow (by simp) (fun k hk=>by cases hk)))
      have hf7 : w7.frozen? ⟨wo.heap.size,j,none⟩ = false:=HROW.out.frozen j
      have hc7 : w7.cell? ⟨wo.heap.size,j,none⟩ = some (.int .i64 0):=by
       rw [HROW.out.cell (by simpa using hlt)]; simp [hlt]
      obtain ⟨w8,hw8⟩ : ∃ w8,w8 = (w7.setCell ⟨wo.heap.size,j,none⟩ (.int .i64 1)):=⟨_,rfl⟩
      have hb8 : Bx (fun k=>k = wo.heap.size) w7 w8:=by rw [hw8]; exact Bx.set (S:=fun k=>k = wo.heap.size) rfl _
      have HX8 : Hid (Rw (xK F L n j 0) wo.heap.size w8):=Lib.hid (by rw [hw8,← xK_zero]; exact HROW.out.rw'.set j 1 trivial)
      have HG8 : Hid (Bx (fun _=>False) wo w8):=Lib.hid (((HG7.out.mono (T:=fun k=>k = wo.heap.size) fun _ e=>e.elim).trans hb8).old fun k hk e=>by omega)
      have HKW8:=Lib.hid (HKW.out.bx HG8.out)
      have HS8 : Hid (wo.heap.size < w8.heap.size):=Lib.hid HX8.out.lt
      obtain ⟨⟨t0,t1,t2,t3,t4⟩,-,-⟩:=HKW8.out.rb
      have HW8:=Lib.hid hw8
      rw [hw8] at t0 t1 t2 t3 t4
      clear hown hgrow HROW HG7 hb8 hw8
      go_wp2
      rw [← HW8.out]
      clear t0 t1 t2 t3 t4 hf7 hc7 HW8
      go_loopw [54] (fun i wr=>∃ (k : Nat),k ≤ m ∧ i = .int .i64 k ∧ Hid (Rw (xK F L n j k) wo.heap.size wr) ∧ Hid (Bx (fun k=>k = wo.heap.size) w8 wr)) (fun i _=>m - (intOf i).toNat)
      case atStart=>exact ⟨0,Nat.zero_le _,rfl,HX8,Bx.refl _ _⟩
      case round =>
       obtain ⟨k,hk,rfl,KR,KBx⟩:=hrel
       have HGX : Hid (Bx (fun _=>False) wo wr):=Lib.hid (((HG8.out.mono (T:=fun k=>k = wo.heap.size) fun _ e=>e.elim).trans KBx.out).old fun k hk e=>by omega)
       have HKX1:=Lib.hid (HKW.out.bx HGX.out)
       by_cases hlt1 : k < m
       ·have hk5 : k < 1000:=by omega
        obtain ⟨rfl,hom⟩:=OV.at (D:=R) (by rw [HKN.out.rl]; exact HKW.out.rows) (i:=k) (by rw [HKN.out.rl]; exact hlt1)
        obtain ⟨rk,hrk⟩ : ∃ r,Hid (rs.getD k 0 = r):=⟨_,Lib.hid rfl⟩
        obtain ⟨pk,hpk⟩ : ∃ x,Hid (P.getD k 0 = x):=⟨_,Lib.hid rfl⟩
        obtain ⟨yy,hyy⟩ : ∃ x,Hid ((R.getD k []).getD j 0 = x):=⟨_,Lib.hid rfl⟩
        have hpn : pk < n:=by rw [← hpk.out]; exact HKN.out.pb k hlt1
        have HYQ : Hid (yy < F.q):=Lib.hid (by rw [← hyy.out]; exact HKN.out.rb k j hlt1 hlt)
        have hcg:=hom.row k (by rw [HKN.out.rl]; exact hlt1)
        have hcr:=(hom.rw' k (by rw [HKN.out.rl]; exact hlt1)).cell j (by rw [hom.wid k (by rw [HKN.out.rl]; exact hlt1)]; exact hlt)
        obtain ⟨b1,o1,rfl,hcp⟩:=HKW.out.piv.atm HKN.out.pl hlt1
        rw [hrk.out] at hcg hcr
        rw [hpk.out] at hcp
        rw [hyy.out] at hcr
        have HNX : Hid (W.heap.size ≠ wo.heap.size ∧ b ≠ wo.heap.size ∧ b1 ≠ wo.heap.size ∧ rk ≠ wo.heap.size):=Lib.hid (by
         have e1:=HKW.out.mb.2.2
         have e2:=HKW.out.fld.lt
         have e3:=World.block_lt_of_cell? wo _ hcp
         have e4:=World.block_lt_of_cell? wo _ hcr
         simp only at e3 e4
         omega)
        have hcg:=(HGX.out.cell (World.block_lt_of_cell? wo _ hcg) id).trans hcg
        have hcp:=(HGX.out.cell (World.block_lt_of_cell? wo _ hcp) id).trans hcp
        have hcr:=(HGX.out.cell (World.block_lt_of_cell? wo _ hcr) id).trans hcr
        have HRD:=Lib.hid KR.out.drew
        have HLX : Hid (pk < (xK F L n j k).length):=Lib.hid (by rw [xK_len]; exact hpn)
        obtain ⟨⟨x0,x1,x2,x3,x4⟩,-,-⟩:=HKX1.out.mb
        have hS0 : SK F b cap n v0 W.heap.size wo.heap.size b1 (o1 + k) pk rk j yy wr wr.drew:=⟨⟨⟨x0,x1,x2,x3,x4⟩,Lib.hid (HKX1.out.fld.bx (Bx.refl (fun _=>False) wr).drew id),Lib.hid HKX1.out.mb.2.2,Lib.hid (Bx.refl _ _).drew⟩,hcp,hcr,Lib.hid ⟨World.block_lt_of_cell? wr _ hcp,World.block_lt_of_cell? wr _ hcr⟩⟩
        have HCP:=Lib.hid hcp
        have HCR:=Lib.hid hcr
        clear hom hcp hcr
        go_wp2_with fail
        refine wp_region_held_drew (S:=fun w'=>SK F b cap n v0 W.heap.size wo.heap.size b1 (o1 + k) pk rk j yy wr w') (by kernel_rfl) (by with_reducible exact hS0) (fun hHeld=>?_)
        refine Rg.tk 0 ⟨some 59,.move (.tmp 10),27,"matrix.go:123",#[],none⟩ ?_
        try simp only [Rg.gp]
        refine Rg.tk 1 ⟨some 60,.move (.tmp 4),27,"matrix.go:123",#[],none⟩ ?_
        try simp only [Rg.gp]
        refine Rg.tk 2 ⟨some 61,.move (.tmp 11),3,"matrix.go:123",#[],none⟩ ?_
        try simp only [Rg.gp]
        refine Rg.tk 3 ⟨some 62,.indexAddr 27 (.tmp 60) (.tmp 61),0,"matrix.go:123",#[⟨1,.data⟩,⟨2,.data⟩],none⟩ ?_
        try simp only [Rg.gp]
        refine Rg.tk 4 ⟨some 63,.load 3 (.tmp 62),3,"matrix.go:123",#[⟨3,.data⟩],none⟩ ?_
        try simp only [Rg.gp]
        refine Rg.tk 5 ⟨some 64,.fieldAddr 79 (.tmp 1) 0,0,"matrix.go:123",#[],none⟩ ?_
        try simp only [Rg.gp]
        refine Rg.tk 6 ⟨some 65,.load 29 (.tmp 64),29,"matrix.go:123",#[⟨5,.data⟩],none⟩ ?_
        try simp only [Rg.gp]
        refine Rg.tk 7 ⟨some 66,.move (.tmp 12),27,"matrix.go:123",#[],none⟩ ?_
        try simp only [Rg.gp]
        refine Rg.tk 8 ⟨some 67,.move (.tmp 9),3,"matrix.go:123",#[],none⟩ ?_
        try simp only [Rg.gp]
        refine Rg.tk 9 ⟨some 68,.indexAddr 27 (.tmp 66) (.tmp 67),0,"matrix.go:123",#[⟨7,.data⟩,⟨8,.data⟩],none⟩ ?_
        try simp only [Rg.gp]
        refine Rg.tk 10 ⟨some 69,.load 3 (.tmp 68),3,"matrix.go:123",#[⟨9,.data⟩],none⟩ ?_
        try simp only [Rg.gp]
        refine Rg.rd1 11 ⟨some 70,.call ⟨.value (.func 74),#[.tmp 65,.tmp 69],#[29,3]⟩,3,"matrix.go:123",#[⟨6,.data⟩,⟨10,.data⟩],none⟩ fun K hK=>?_
        go_simp
        go_at_call 74
        with_reducible refine (fneg_c HYQ.out hHeld.1.2.1.out).mono ?_
        rintro z v1 ⟨rfl,hb3⟩
        have HR1:=Lib.hid (HRD.out.below hb3)
        have hc1:=HR1.out.cell pk HLX.out
        have hf1 : v1.frozen? ⟨wo.heap.size,pk,none⟩ = false:=HR1.out.fz pk
        refine hK.out _ _ ?_ (fun hHeld=>?_)
        ·(try dsimp only)
         exact SK.keep hHeld hb3
        clear hK K
        try simp only [Rg.gp]
        refine Rg.tk 12 ⟨some 71,.indexAddr 27 (.tmp 59) (.tmp 63),0,"matrix.go:123",#[⟨0,.data⟩,⟨4,.data⟩,⟨0,.phase⟩,⟨1,.phase⟩,⟨2,.phase⟩,⟨3,.phase⟩,⟨4,.phase⟩,⟨5,.phase⟩,⟨6,.phase⟩,⟨7,.phase⟩,⟨8,.phase⟩,⟨9,.phase⟩,⟨10,.phase⟩,⟨11,.phase⟩],none⟩ ?_
        try simp only [Rg.gp]
        refine Rg.rd1 13 ⟨none,.store 3 (.tmp 71) (.tmp 70),0,"matrix.go:123",#[⟨12,.data⟩,⟨11,.data⟩,⟨11,.chain⟩,⟨0,.phase⟩,⟨1,.phase⟩,⟨2,.phase⟩,⟨3,.phase⟩,⟨4,.phase⟩,⟨5,.phase⟩,⟨6,.phase⟩,⟨7,.phase⟩,⟨8,.phase⟩,⟨9,.phase⟩,⟨10,.phase⟩,⟨11,.phase⟩],none⟩ fun K hK=>?_
        go_simp
        refine hK.out _ _ ?_ (fun hHeld=>?_)
        ·(try dsimp only)
         exact SK.set hHeld HNX.out _
        clear hK K
        try simp only [Rg.gp]
        refine wpAnyH_done (by kernel_rfl) ?_ _
        have HR3 : Hid (Rw (xK F L n j (k + 1)) wo.heap.size (v1.setCell ⟨wo.heap.size,pk,none⟩ (.int .i64 (F.neg yy : Nat)))):=Lib.hid (by
         rw [← HKN.out.xs k j hlt1 hlt,hyy.out,hpk.out]; exact HR1.out.set pk (F.neg yy) trivial)
        have HB3:=Lib.hid (KBx.out.trans hHeld.1.2.2.2.out)
        clear hHeld hS0
        go_wp2
        go_roundw
        case rel=>exact ⟨k + 1,by omega,by go_num,HR3,HB3⟩
        case measure=>simp [intOf]; omega
       ·have HE : Hid (k = m):=Lib.hid (by omega)
        have hlt2 : ¬ (k : Int) < (m : Int):=by omega
        have HRW2 : Hid (Rw (toV n (kv F L j)) wo.heap.size wr):=Lib.hid (by rw [← xK_end HFF.out j,HKN.out.ll,← HE.out]; exact KR.out)
        have HO2:=Lib.hid (HO.out.bx HGX.out fun _ _=>id)
        have HKX2 : Hid (BX w5.heap.size F b cap n vD wr):=Lib.hid (HKX.out.bx HGX.out id)
        have HKB2 : Hid (Bx (fun k=>w5.heap.size ≤ k) w5 wr):=Lib.hid (KB.out.trans (HGX.out.mono fun _ e=>e.elim))
        have HLO : Hid (w5.heap.size < wo.heap.size ∧ wo.heap.size < wr.heap.size):=Lib.hid ⟨HKX.out.2.2,KR.out.lt⟩
        have HDL : Hid ((Dk F L n j).length ≤ 1000):=Lib.hid (Nat.le_trans (Dk_len L n j) (by omega))
        obtain ⟨⟨x0,x1,x2,x3,x4⟩,xf,xl⟩:=HKX2.out
        have f4:=xf 4
        clear KR KBx HKX1 HO xf
        go_wp2_with (at_builtin; refine wpList_append_own_at _ rfl _ _ 30 rfl (w5.heap.size + 1) 27 j0 (.slice none 0 0) 1 24 Try.underlying30 ji jz0 jz1 jz2 rfl (by decide) _ _ _ rfl (HO2.out.own.alloc _) ⟨wr.heap.size,0,none⟩ 1 1 [rowV n wo.heap.size] rfl rfl ?d1 ?d2 ?d3 ?d4 ?d5 ?_)
        case d2=>first | rfl | (intro u hu; simp at hu; subst hu; rfl)
        case d3=>have:=HDL.out; unfold maxLen; omega
        case d4=>have:=HDL.out; omega
        case d5=>have:=HLO.out; simp; omega
        intro v' w9 hown' hgrow hnil hat
        have hal2 : Bx (fun _=>False) wr (wr.alloc (.cells #[rowV n wo.heap.size] 27)):=Bx.of ((Below.refl _ _).alloc (Nat.le_refl _) _)
        have HO3 : Hid (OR (Dk F L n j ++ [toV n (kv F L j)]) (rsD ++ [wo.heap.size]) n (w5.heap.size + 1) w9 v'):=Lib.hid (OR.push (HO2.out.bx hal2 fun _ _=>id) (HRW2.out.bx hal2 id) (toV_len _ _) HLO.out.1 HFR.out.1 HFR.out.2 (by simp) hown' hgrow (by simpa using hat))
        obtain ⟨aV,nV,cV,hvs⟩ : ∃ a m c,v' = .slice a m c:=by obtain ⟨a,c,e⟩:=HO3.out.shape; exact ⟨a,_,c,e⟩
        have hb3 : Bx (fun k=>w5.heap.size + 1 ≤ k) wr w9:=(hal2.mono fun _ e=>e.elim).trans (Bx.grown hgrow fun k hk=>(HO2.out.own.lt k hk).1)
        have HBX3 : Hid (BX w5.heap.size F b cap n vD w9):=Lib.hid (HKX2.out.bx hb3 (by omega))
        have HKB3 : Hid (Bx (fun k=>w5.heap.size ≤ k) w5 w9):=Lib.hid (HKB2.out.trans (hb3.mono fun k hk=>by omega))
        clear hown' hgrow hnil hat hal2 hb3
        subst hvs
        clear x0 x1 x2 x3 x4 f4 xl HKX2 HO2 HRW2 HFR HKB2
        obtain ⟨⟨x0,x1,x2,x3,x4⟩,xf,xl⟩:=HBX3.out
        have f4:=xf 4
        clear xf
        have HBX4 : Hid (BX w5.heap.size F b cap n (.slice aV nV cV) (w9.setCell ⟨w5.heap.size,4,none⟩ (.slice aV nV cV))):=Lib.hid (HBX3.out.put (.slice aV nV cV))
        have hb4 : Bx (fun k=>k = w5.heap.size) w9 (w9.setCell ⟨w5.heap.size,4,none⟩ (.slice aV nV cV)):=Bx.set (S:=fun k=>k = w5.heap.size) rfl _
        have HO4 : Hid (OR (Dk F L n (j + 1)) (rsD ++ [wo.heap.size]) n (w5.heap.size + 1) (w9.setCell ⟨w5.heap.size,4,none⟩ (.slice aV nV cV)) (.slice aV nV cV)):=Lib.hid (by
         rw [Dk_yes HBJ.out]; exact HO3.out.bx hb4 fun k hk e=>by omega)
        have HKB4 : Hid (Bx (fun k=>w5.heap.size ≤ k) w5 (w9.setCell ⟨w5.heap.size,4,none⟩ (.slice aV nV cV))):=Lib.hid (HKB3.out.trans (hb4.mono fun k hk=>by omega))
        clear hb4
        go_wp2
        go_roundw
        case rel=>exact ⟨j + 1,rsD ++ [wo.heap.size],.slice aV nV cV,by omega,by go_num,HO4,HBX4,HKB4⟩
        case measure=>simp [intOf]; omega
    ·have HE : Hid (j = n):=Lib.hid (by omega)
     have hlt1 : ¬ (j : Int) < (n : Int):=by omega
     have HOE : Hid (OR (Dk F L n n) rsD n (w5.heap.size + 1) wo vD):=Lib.hid (by have:=HO.out; rwa [HE.out] at this)
     obtain ⟨aV,nV,cV,hvs⟩ : ∃ a m c,vD = .slice a m c:=by obtain ⟨a,c,e⟩:=HO.out.shape; exact ⟨a,_,c,e⟩
     subst hvs
     obtain ⟨g2,hov2,hg2⟩:=HOE.out.ov
     have HB5 : Hid (b < w5.heap.size):=Lib.hid HK5.out.fld.lt
     have HG2:=Lib.hid hg2
     have HL2 : Hid (∀ i,i < (Dk F L n n).length → w5.heap.size + 1 ≤ rsD.getD i 0):=Lib.hid HOE.out.lo
     have HRD : Hid (Calls Try.prog 59 #[MV F b cap n (.slice aV nV cV)] wo (RedP F b cap n (Dk F L n n) rsD g2 wo)):=Lib.hid (reduced_v HKW.out.fld hn (Nat.le_trans (Dk_len L n n) hn) hov2 (Dk_mn HFF.out n) (by have:=HB5.out; omega) (fun i hi=>by have:=HL2.out i hi; have:=HB5.out; omega))
     have HM2 : Hid (∀ k,Mb (Dk F L n n) rsD g2 k → w5.heap.size + 1 ≤ k):=Lib.hid (by
      rintro k (e | ⟨i,hi,e⟩)
      ·have:=HG2.out; omega
      ·have:=HL2.out i hi; omega)
     obtain ⟨⟨x0,x1,x2,x3,x4⟩,-,-⟩:=HKX.out
     clear hov2 hg2
     go_wp2_with fail
     with_reducible refine HRD.out.mono ?_
     rintro z w11 ⟨rs2,v2,a2,c2,rfl,-,hov,hblk2,hbx⟩
     rw [HKE.out] at hov hblk2
     have HRS2 : Hid (∀ i,i < (kerM F n M0).length → w5.heap.size + 1 ≤ rs2.getD i 0):=Lib.hid (fun i hi=>by obtain ⟨j,hj,e⟩:=hblk2 i hi; rw [e]; exact HL2.out j hj)
     clear hblk2
     have hbl : Bx (fun k=>w5.heap.size + 1 ≤ k) wo w11:=hbx.mono HM2.out
     have HOVF:=Lib.hid hov
     obtain ⟨av2,nv2,cv2,hvs⟩ : ∃ a m c,v2 = .slice a m c:=by obtain ⟨a,c,e⟩:=hov.shape; exact ⟨a,_,c,e⟩
     subst hvs
     have HKB:=Lib.hid (HKX.out.bx hbl (by omega))
     have HRZ:=Lib.hid (HKW.out.rz.bx hbl (by have:=HK5.out.rz.2.2; omega))
     have HFB:=Lib.hid (hbl.mono (T:=fun k=>w5.heap.size ≤ k) fun k hk=>by omega)
     have HBW : Hid (Bx (Mb M0 rs0 g) w0 w11):=Lib.hid (HBW5.out.comp (base:=w5.heap.size) (KB.out.trans HFB.out) HBW5.out.size)
     clear x0 x1 x2 x3 x4 hov hbx hbl HRD HKX HKW
     obtain ⟨⟨x0,x1,x2,x3,x4⟩,xf,xl⟩:=HKB.out
     obtain ⟨⟨r0,r1,r2,r3,r4⟩,rf,rl⟩:=HRZ.out
     have f0:=xf 0
     have f1:=xf 1
     have f2:=xf 2
     have f3:=xf 3
     have f4:=xf 4
     have g0:=rf 0
     have g1:=rf 1
     have g2':=rf 2
     have g3:=rf 3
     have g4:=rf 4
     have hne : W.heap.size + 1 ≠ w5.heap.size:=by have:=HK5.out.rz.2.2; omega
     have HC10 : Hid (∀ (w : World) u0 u1 u2 u3 u4 u5 u6 u7 u8 u9,Bx (fun k=>k = w5.heap.size ∨ k = W.heap.size + 1) w ((((((((((w.setCell ⟨w5.heap.size,0,none⟩ u0).setCell ⟨w5.heap.size,1,none⟩ u1).setCell ⟨w5.heap.size,2,none⟩ u2).setCell ⟨w5.heap.size,3,none⟩ u3).setCell ⟨w5.heap.size,4,none⟩ u4).setCell ⟨W.heap.size + 1,0,none⟩ u5).setCell ⟨W.heap.size + 1,1,none⟩ u6).setCell ⟨W.heap.size + 1,2,none⟩ u7).setCell ⟨W.heap.size + 1,3,none⟩ u8).setCell ⟨W.heap.size + 1,4,none⟩ u9)):=
      Lib.hid fun w _ _ _ _ _ _ _ _ _ _=>by
       have e1 : ∀ (w : World) (t : Nat) (u : Value),Bx (fun k=>k = w5.heap.size ∨ k = W.heap.size + 1) w (w.setCell ⟨w5.heap.size,t,none⟩ u):=fun w t u=>Bx.set (S:=fun k=>k = w5.heap.size ∨ k = W.heap.size + 1) (.inl rfl) u
       have e2 : ∀ (w : World) (t : Nat) (u : Value),Bx (fun k=>k = w5.heap.size ∨ k = W.heap.size + 1) w (w.setCell ⟨W.heap.size + 1,t,none⟩ u):=fun w t u=>Bx.set (S:=fun k=>k = w5.heap.size ∨ k = W.heap.size + 1) (.inr rfl) u
       exact (((((((((e1 _ _ _).trans (e1 _ _ _)).trans (e1 _ _ _)).trans (e1 _ _ _)).trans (e1 _ _ _)).trans (e2 _ _ _)).trans (e2 _ _ _)).trans (e2 _ _ _)).trans (e2 _ _ _)).trans (e2 _ _ _)
     clear xf rf xl rl
     go_wp2
     have hb8:=HC10.out w11 (.int .i64 F.p) (.int .i64 F.e) (.slice (some ⟨b,0,none⟩) F.e cap) (.int .i64 (n : Nat)) (.slice av2 nv2 cv2) (.int .i64 F.p) (.int .i64 F.e) (.slice (some ⟨b,0,none⟩) F.e cap) (.int .i64 (n : Nat)) (.slice av2 nv2 cv2)
     refine bodyPost_ret (v:=MV F b cap n (.slice av2 nv2 cv2)) (by simp [results,Try.results55,go_sem,r0,r1,r2,r3,r4]) rfl ?_
     refine ⟨g2,rs2,_,rfl,?_,?_⟩
     ·rcases HOVF.out with h | ⟨c',e1,e2,e3⟩
      ·exact .inl h
      ·refine .inr ⟨c',e1,e2,e3.bx hb8 (by have:=HG2.out; have:=HK5.out.rz.2.2; omega) fun i hi=>?_⟩
       have:=HRS2.out i hi; have:=HK5.out.rz.2.2; omega
     ·exact ((HX0.out.mono (T:=Mb M0 rs0 g) fun _ e=>e.elim).trans HBW.out).comp (hb8.mono (T:=fun k=>W.heap.size ≤ k) fun k hk=>by have:=HK5.out.rz.2.2; omega) (Nat.le_refl _)
end Go.Proofs.Yteeofijcndgbfaa
