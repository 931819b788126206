/- Made of the reference: a problem out of what came in. -/
import Derived.Test.YteeofijcndgbfaaEvTk
import Derived.Test.YteeofijcndgbfaaTh
namespace Go.Proofs.Yteeofijcndgbfaa
open Go.RowKit Go.Fl
set_option maxRecDepth 100000
set_option linter.unusedVariables false
set_option linter.unusedSimpArgs false
set_option linter.unusedSectionVars false
theorem heap_new (w : World) (o : Obj) : (w.alloc o).heap[w.heap.size]? = some o:=heap_alloc_new w o
theorem heap_next (w : World) (o o' : Obj) : ((w.alloc o).alloc o').heap[w.heap.size + 1]? = some o':=by
 have t:=heap_new (w.alloc o) o'
 have e : (w.alloc o).heap.size = w.heap.size + 1:=by simp
 rw [e] at t; exact t
theorem OL.bx {D : List (List Nat)} {us : List Value} {base B ty : Nat} {cur : Array Value} {w w' : World} {v : Value} (h : OL D us base w v) (hb : Bx (fun j=>j = B) w w') (hB : w.heap[B]? = some (.cells cur ty (0,0))) (h3 : ty ≠ 3) (h27 : ty ≠ 27) : OL D us base w' v:=by
 have key : ∀ {b0 e s m : Nat} {u : Value} {xs : List Value},w.ownsRow b0 e s u m xs → ty ≠ e → ∀ k,u.ownBlock = some k → ¬ k = B:=by
  intro b0 e s m u xs h1 hne k hk hkB
  subst hkB
  rcases h1.2 with ⟨rfl,_⟩ | ⟨g,cap,cu,rfl,_,g3,_⟩
  ·cases hk
  ·injection hk with hk
   have hk' : g = k:=hk
   subst hk'
   rw [hB] at g3
   injection g3 with g3
   injection g3 with _ g3 _
   exact hne g3
 exact ⟨own_bx2 h.own hb (key h.own h27),fun i hi=>own_bx2 (h.row i hi) hb (key (h.row i hi) h3)⟩
def MadeP (x y z : Nat) (W : World) (e : Ending) (w' : World) : Prop:=∃ b cap R us a c,e = .returned (MV (fdB x) b cap (1 + y % 8) (.slice a (z % 7) c)) ∧ FldAt (fdB x) b cap w' ∧ Mn (fdB x) (1 + y % 8) R ∧ R.length = z % 7 ∧ OL R us W.heap.size w' (.slice a (z % 7) c) ∧ Below W.heap.size W w'
abbrev SR (F : Gf) (b cap B z l R : Nat) (aa : Option Addr) (ca D : Nat) (w1 : World) (w : World) : Prop:=FBx B F b cap w ∧ w.cell? ⟨D,2,none⟩ = some (.int .u8 (z : Nat)) ∧ w.cell? ⟨D,3,none⟩ = some (.slice aa l ca) ∧ Hid (FldAt F b cap w ∧ Bx (fun j=>j = R) w1 w ∧ B < w.heap.size ∧ D < w.heap.size ∧ B ≠ R ∧ D ≠ R ∧ b ≠ R)
theorem SR.bx {F : Gf} {b cap B z l R : Nat} {aa : Option Addr} {ca D : Nat} {w1 w w' : World} (h : SR F b cap B z l R aa ca D w1 w) (hb : Bx (fun j=>j = R) w w') : SR F b cap B z l R aa ca D w1 w':=by
 obtain ⟨h1,h2,h3,h4⟩:=h
 obtain ⟨k1,k2,k3,k4,k5,k6,k7⟩:=h4.out
 exact ⟨⟨(hb.cell k3 k5).trans h1.1,(hb.cell k3 k5).trans h1.2.1,(hb.cell k3 k5).trans h1.2.2⟩,(hb.cell k4 k6).trans h2,(hb.cell k4 k6).trans h3,Lib.hid ⟨k1.bx hb k7,k2.trans hb,Nat.lt_of_lt_of_le k3 hb.size,Nat.lt_of_lt_of_le k4 hb.size,k5,k6,k7⟩⟩
theorem SR.keep {F : Gf} {b cap B z l R : Nat} {aa : Option Addr} {ca D : Nat} {w1 w w' : World} (h : SR F b cap B z l R aa ca D w1 w) (hb : Below w.heap.size w w') : SR F b cap B z l R aa ca D w1 w':=
 h.bx ⟨hb.os,hb.tape,hb.output,hb.size,fun k hk _=>hb.block k hk⟩
set_option maxHeartbeats 6400000 in
theorem made_c {x y z l ca : Nat} {aa : Option Addr} {W : World} (hx : x ≤ 255) (hy : y ≤ 255) (hz : z ≤ 255) (hl : l ≤ maxLen) (na : N16 l W (.slice aa l ca)) :
  Calls Try.prog 10 #[.agg #[.int .u8 (x : Nat),.int .u8 (y : Nat),.int .u8 (z : Nat),.slice aa l ca]] W (MadeP x y z W):=by
 obtain ⟨w0,hw0⟩ : ∃ w0,w0 = ((W.alloc (.cells #[.int .u8 (x : Nat),.int .u8 (y : Nat),.int .u8 (z : Nat),.slice aa l ca] 24)).alloc (.cells #[.int .i64 0,.int .i64 0,.slice none 0 0,.int .i64 0,.slice none 0 0] 32)):=⟨_,rfl⟩
 have HAL : Hid (Below W.heap.size W w0):=Lib.hid (by rw [hw0]; exact ((Below.refl _ _).alloc (Nat.le_refl _) _).alloc (by simp) _)
 have HS0 : Hid (w0.heap.size = W.heap.size + 2):=Lib.hid (by rw [hw0]; simp)
 have hd : w0.cell? ⟨W.heap.size,0,none⟩ = some (.int .u8 (x : Nat)) ∧ w0.cell? ⟨W.heap.size,1,none⟩ = some (.int .u8 (y : Nat)) ∧ w0.cell? ⟨W.heap.size,2,none⟩ = some (.int .u8 (z : Nat)) ∧ w0.cell? ⟨W.heap.size,3,none⟩ = some (.slice aa l ca):=by
  rw [hw0]; exact ⟨(World.cell?_alloc_lt _ _ _ (by simp)).trans (World.cell?_alloc_at _ _ _ _ rfl),(World.cell?_alloc_lt _ _ _ (by simp)).trans (World.cell?_alloc_at _ _ _ _ rfl),(World.cell?_alloc_lt _ _ _ (by simp)).trans (World.cell?_alloc_at _ _ _ _ rfl),(World.cell?_alloc_lt _ _ _ (by simp)).trans (World.cell?_alloc_at _ _ _ _ rfl)⟩
 have HRZ : Hid (RZ (W.heap.size + 1) w0 ∧ ∃ cur,w0.heap[W.heap.size + 1]? = some (.cells cur 32 (0,0))):=Lib.hid (by
  rw [hw0]
  refine ⟨⟨⟨World.cell?_alloc_at _ _ _ _ (by simp),World.cell?_alloc_at _ _ _ _ (by simp),World.cell?_alloc_at _ _ _ _ (by simp),World.cell?_alloc_at _ _ _ _ (by simp),World.cell?_alloc_at _ _ _ _ (by simp)⟩,fun t=>World.frozen?_alloc_at _ _ _ _ (by simp),by simp⟩,#[.int .i64 0,.int .i64 0,.slice none 0 0,.int .i64 0,.slice none 0 0],heap_next _ _ _⟩)
 have HNA:=Lib.hid (na.below HAL.out)
 have HFC : Hid (Calls Try.prog 47 #[.int .u8 (x : Nat)] w0 fun e w'=>∃ b cap,e = .returned (FV (fdB x) b cap) ∧ FldAt (fdB x) b cap w' ∧ Below w0.heap.size w0 w' ∧ w0.heap.size ≤ b):=Lib.hid (field_o x hx w0)
 have HW0:=Lib.hid hw0
 obtain ⟨d0,d1,d2,d3⟩:=hd
 have HD:=Lib.hid (And.intro d1 (And.intro d2 d3))
 clear na hw0 d1 d2 d3
 go_enter Try.func10,Try.ntmps10
 go_wp2_with fail
 rw [← HW0.out]
 clear HW0
 with_reducible refine HFC.out.mono ?_
 rintro e w3 ⟨b,cap,rfl,hf,hb3,hbl⟩
 obtain ⟨F,hF⟩ : ∃ F,Hid (fdB x = F):=⟨_,Lib.hid rfl⟩
 obtain ⟨d1,d2,d3⟩:=HD.out
 rw [hF.out] at hf ⊢
 have hz0 : W.heap.size < w0.heap.size:=by rw [HS0.out]; omega
 have HFW:=Lib.hid hf
 have HB3:=Lib.hid hb3
 obtain ⟨w4,hw4⟩ : ∃ w,w = w3.alloc (.cells #[.int .i64 F.p,.int .i64 F.e,FM F b cap] 29):=⟨_,rfl⟩
 have HB4 : Hid (Below w0.heap.size w0 w4):=Lib.hid (hb3.trans ((Below.refl _ _).alloc hb3.size _) |> fun h=>by rw [hw4]; exact h)
 have HB34 : Hid (Below w3.heap.size w3 w4):=Lib.hid (by rw [hw4]; exact (Below.refl _ _).alloc (Nat.le_refl _) _)
 have HS4 : Hid (w3.heap.size < w4.heap.size):=Lib.hid (by rw [hw4]; simp)
 have HFB : Hid (FBx w3.heap.size F b cap w4):=Lib.hid (by rw [hw4]; exact FBx.new w3 F b cap)
 have g1:=(HB4.out.cell (p:=⟨W.heap.size,1,none⟩) hz0).trans d1
 have g2:=(HB4.out.cell (p:=⟨W.heap.size,2,none⟩) hz0).trans d2
 have g3:=(HB4.out.cell (p:=⟨W.heap.size,3,none⟩) hz0).trans d3
 have HW4:=Lib.hid hw4
 obtain ⟨n,hn⟩ : ∃ n,Hid (1 + y % 8 = n):=⟨_,Lib.hid rfl⟩
 obtain ⟨m,hm⟩ : ∃ n,Hid (z % 7 = n):=⟨_,Lib.hid rfl⟩
 have hy8 : (1 : Int) + (y : Int) % 8 = (n : Int):=by have:=hn.out; omega
 have hz7 : (z : Int) % 7 = (m : Int):=by have:=hm.out; omega
 have hmz : (IntKind.i64.wrap (z : Int)).tmod 7 = (m : Int):=by
  rw [IntWalk.i64_in _ (by omega),← hm.out]; exact (Int.ofNat_tmod z 7).symm
 have HMZ:=Lib.hid hmz
 clear hmz
 have HN1 : Hid (1 ≤ n ∧ n ≤ 8 ∧ m ≤ 6):=Lib.hid (by have:=hn.out; have:=hm.out; omega)
 have HM : Hid (MadeP x y z W = fun e w'=>∃ b cap R us a c,e = .returned (MV F b cap n (.slice a m c)) ∧ FldAt F b cap w' ∧ Mn F n R ∧ R.length = m ∧ OL R us W.heap.size w' (.slice a m c) ∧ Below W.heap.size W w'):=Lib.hid (by unfold MadeP; rw [hF.out,hn.out,hm.out])
 have HR4 : Hid (RZ (W.heap.size + 1) w4 ∧ ∃ cur,w4.heap[W.heap.size + 1]? = some (.cells cur 32 (0,0))):=Lib.hid ⟨RZ.bx (S:=fun _=>False) HRZ.out.1 ⟨HB4.out.os,HB4.out.tape,HB4.out.output,HB4.out.size,fun k hk _=>HB4.out.block k hk⟩ id,by
  obtain ⟨cur,hc⟩:=HRZ.out.2
  exact ⟨cur,(HB4.out.block _ (by rw [HS0.out]; omega)).trans hc⟩⟩
 have HN4 : Hid (N16 l w4.drew (.slice aa l ca)):=Lib.hid (HNA.out.below (HB4.out.trans (Below.refl _ _).drew))
 have hS0 : SR F b cap w3.heap.size z l (W.heap.size + 1) aa ca W.heap.size w4 w4.drew:=⟨HFB.out,g2,g3,Lib.hid ⟨(HFW.out.below HB34.out).bx (Bx.refl (fun _=>False) _).drew id,(Bx.refl _ _).drew,HS4.out,Nat.lt_of_lt_of_le hz0 HB4.out.size,by have:=HB3.out.size; have:=HS0.out; omega,by omega,by have:=HS0.out; omega⟩⟩
 clear d1 d2 d3 hf hb3 hbl HFC hw4 g2 g3 HD
 go_upto_region 2 with fail
 rw [← HW4.out]
 clear HW4
 go_wp2_with fail
 refine wp_region_held_drew (S:=fun w'=>SR F b cap w3.heap.size z l (W.heap.size + 1) aa ca W.heap.size w4 w') (by kernel_rfl) (by with_reducible exact hS0) (fun hHeld=>?_)
 refine Rg.tk 0 ⟨some 13,.load 29 (.tmp 3),29,"ref.go:310",#[],none⟩ ?_
 try simp only [Rg.gp]
 refine Rg.tk 1 ⟨some 14,.move (.tmp 4),3,"ref.go:310",#[],none⟩ ?_
 try simp only [Rg.gp]
 refine Rg.tk 2 ⟨some 15,.load 29 (.tmp 3),29,"ref.go:310",#[],none⟩ ?_
 try simp only [Rg.gp]
 refine Rg.tk 3 ⟨some 16,.move (.tmp 4),3,"ref.go:310",#[],none⟩ ?_
 try simp only [Rg.gp]
 refine Rg.tk 4 ⟨some 17,.fieldAddr 24 (.tmp 1) 2,0,"ref.go:310",#[],none⟩ ?_
 try simp only [Rg.gp]
 refine Rg.tk 5 ⟨some 18,.load 5 (.tmp 17),5,"ref.go:310",#[⟨4,.data⟩],none⟩ ?_
 try simp only [Rg.gp]
 refine Rg.tk 6 ⟨some 19,.convert 5 3 (.tmp 18),3,"ref.go:310",#[⟨5,.data⟩],none⟩ ?_
 try simp only [Rg.gp]
 refine Rg.tk 7 ⟨some 20,.binOp BinOp.rem 3 (.tmp 19) (.const (Value.int IntKind.i64 7)) 3,3,"ref.go:310",#[⟨6,.data⟩],none⟩ ?_
 try simp only [Rg.gp]
 refine Rg.tk 8 ⟨some 21,.fieldAddr 24 (.tmp 1) 3,0,"ref.go:310",#[],none⟩ ?_
 try simp only [Rg.gp]
 refine Rg.tk 9 ⟨some 22,.load 22 (.tmp 21),22,"ref.go:310",#[⟨8,.data⟩],none⟩ ?_
 try simp only [Rg.gp]
 refine Rg.rd1 10 ⟨some 23,.call ⟨.value (.func 11),#[.tmp 15,.tmp 16,.tmp 20,.tmp 22],#[29,3,3,22]⟩,30,"ref.go:310",#[⟨2,.data⟩,⟨3,.data⟩,⟨7,.data⟩,⟨9,.data⟩],none⟩ fun K hK=>?_
 go_simp
 go_at_call 11
 rw [HMZ.out]
 with_reducible refine (rows_o hHeld.2.2.2.out.1 HN1.out.1 HN1.out.2.1 HN1.out.2.2 hl HN4.out).mono ?_
 rintro e w5 ⟨R,us,aR,cR,hmn,hrl,rfl,hol,hb5⟩
 refine hK.out _ _ ?_ (fun hHeld=>?_)
 ·(try dsimp only)
  exact SR.keep hHeld hb5
 clear hK K
 try simp only [Rg.gp]
 refine Rg.tk 11 ⟨some 24,.build 32 #[(0,.tmp 13),(1,.tmp 14),(2,.tmp 23)],32,"ref.go:310",#[⟨0,.data⟩,⟨1,.data⟩,⟨10,.data⟩],none⟩ ?_
 try simp only [Rg.gp]
 refine Rg.rd1 12 ⟨none,.store 32 (.tmp 2) (.tmp 24),0,"ref.go:310",#[⟨11,.data⟩,⟨10,.chain⟩,⟨0,.phase⟩,⟨1,.phase⟩,⟨2,.phase⟩,⟨3,.phase⟩,⟨4,.phase⟩,⟨5,.phase⟩,⟨6,.phase⟩,⟨7,.phase⟩,⟨8,.phase⟩,⟨9,.phase⟩,⟨10,.phase⟩,⟨11,.phase⟩],none⟩ fun K hK=>?_
 have HRZ6 : Hid (RZ (W.heap.size + 1) w5):=Lib.hid (RZ.bx (S:=fun _=>False) (RZ.bx (S:=fun _=>False) HR4.out.1 (Bx.refl _ _).drew id) (Bx.of hb5) id)
 have HOL : Hid (OL R us W.heap.size w5 (.slice aR m cR)):=Lib.hid (hol.weak (by have:=HB4.out.size; have:=HS0.out; show W.heap.size ≤ w4.heap.size; omega))
 have HCU : Hid (∃ cur,w5.heap[W.heap.size + 1]? = some (.cells cur 32 (0,0))):=Lib.hid (by
  obtain ⟨cur,hc⟩:=HR4.out.2
  exact ⟨cur,(hb5.block _ (by have:=HB4.out.size; have:=HS0.out; show W.heap.size + 1 < w4.heap.size; omega)).trans hc⟩)
 obtain ⟨⟨r0,r1,r2,r3,r4⟩,rf,rl⟩:=HRZ6.out
 have g0:=rf 0
 have g1:=rf 1
 have g2:=rf 2
 have g3:=rf 3
 have g4:=rf 4
 have HS10:=Lib.hid hHeld
 clear rf rl hol
 go_simp
 refine hK.out _ _ ?_ (fun hHeld=>?_)
 ·(try dsimp only)
  exact SR.bx HS10.out (five_bx _ _ _ _ _)
 clear hK K
 try simp only [Rg.gp]
 refine wpAnyH_done (by kernel_rfl) ?_ _
 have HFIN : Hid (BX (W.heap.size + 1) F b cap n (.slice aR m cR) (((((w5.setCell ⟨W.heap.size + 1,0,none⟩ (.int .i64 F.p)).setCell ⟨W.heap.size + 1,1,none⟩ (.int .i64 F.e)).setCell ⟨W.heap.size + 1,2,none⟩ (FM F b cap)).setCell ⟨W.heap.size + 1,3,none⟩ (.int .i64 (n : Nat))).setCell ⟨W.heap.size + 1,4,none⟩ (.slice aR m cR))):=Lib.hid (RZ.five HRZ6.out F b cap (k:=n) (.slice aR m cR) rfl)
 have h5 : Bx (fun j=>j = W.heap.size + 1) w5 (((((w5.setCell ⟨W.heap.size + 1,0,none⟩ (.int .i64 F.p)).setCell ⟨W.heap.size + 1,1,none⟩ (.int .i64 F.e)).setCell ⟨W.heap.size + 1,2,none⟩ (FM F b cap)).setCell ⟨W.heap.size + 1,3,none⟩ (.int .i64 (n : Nat))).setCell ⟨W.heap.size + 1,4,none⟩ (.slice aR m cR)):=five_bx _ _ _ _ _
 have HOLF:=Lib.hid (by obtain ⟨cur,hc⟩:=HCU.out; exact HOL.out.bx h5 hc (by decide) (by decide))
 have HFF:=Lib.hid hHeld.2.2.2.out.1
 have HBW:=Lib.hid ((HAL.out.trans (HB4.out.mono HAL.out.size)).trans (Bx.below hHeld.2.2.2.out.2.1 (Nat.le_trans HAL.out.size HB4.out.size) fun k (hk : k = W.heap.size + 1)=>by omega))
 have HMN:=Lib.hid hmn
 clear hHeld hS0 h5 r0 r1 r2 r3 r4 g0 g1 g2 g3 g4 hmn hb5
 obtain ⟨w6,hw6⟩ : ∃ w,w = (((((w5.setCell ⟨W.heap.size + 1,0,none⟩ (.int .i64 F.p)).setCell ⟨W.heap.size + 1,1,none⟩ (.int .i64 F.e)).setCell ⟨W.heap.size + 1,2,none⟩ (FM F b cap)).setCell ⟨W.heap.size + 1,3,none⟩ (.int .i64 (n : Nat))).setCell ⟨W.heap.size + 1,4,none⟩ (.slice aR m cR)):=⟨_,rfl⟩
 rw [← hw6] at HFIN HOLF HFF HBW
 have HW6:=Lib.hid hw6
 clear hw6
 go_wp2_with fail
 rw [← HW6.out]
 obtain ⟨⟨q0,q1,q2,q3,q4⟩,qf,ql⟩:=HFIN.out
 refine bodyPost_ret (v:=MV F b cap n (.slice aR m cR)) (by simp [results,Try.results10,go_sem,q0,q1,q2,q3,q4]) rfl ?_
 rw [HM.out]
 exact ⟨b,cap,R,us,aR,cR,rfl,HFF.out,HMN.out,hrl,HOLF.out,HBW.out⟩
theorem pvt_of {w : Cf} {n p : Nat} (hp : p < n) (h1 : w p ≠ 0) (h0 : ∀ j,j < p → w j = 0) : pvt w n = p:=by
 obtain ⟨h2,h3,h4⟩:=pvt_spec w n
 rcases Nat.lt_trichotomy (pvt w n) p with h | h | h
 ·exact absurd (h0 _ h) (h4 (by omega))
 ·exact h
 ·exact absurd (h3 _ h) h1
theorem map_fn_getD {A : List (List Nat)} {i : Nat} (h : i < A.length) (d : Cf) : (A.map Go.Fl.fn).getD i d = Go.Fl.fn (A.getD i []):=by
 simp only [List.getD_eq_getElem?_getD,List.getElem?_map,List.getElem?_eq_getElem h]; rfl
def Kp (w w' : World) : Prop:=w.heap.size ≤ w'.heap.size ∧ ∀ p v,w.cell? p = some v → v ≠ .slice none 0 0 → w'.cell? p = some v
theorem NN.kp {L : List Nat} {w w' : World} {v : Value} (h : NN L w v) (k : Kp w w') : NN L w' v:=by
 rcases h with h | ⟨b,off,cap,h1,h2,h3,h4⟩
 ·exact .inl h
 ·exact .inr ⟨b,off,cap,h1,h2,Nat.lt_of_lt_of_le h3 k.1,fun t ht=>k.2 _ _ (h4 t ht) (by intro e; cases e)⟩
theorem MM.kp {A : List (List Nat)} {w w' : World} {v : Value} (h : MM A w v) (k : Kp w w') (hA : ∀ t,t < A.length → 0 < (A.getD t []).length) : MM A w' v:=by
 rcases h with h | ⟨b,off,cap,h1,h2,h3,h4⟩
 ·exact .inl h
 ·refine .inr ⟨b,off,cap,h1,h2,Nat.lt_of_lt_of_le h3 k.1,fun t ht=>?_⟩
  obtain ⟨a,c,h5,h6⟩:=h4 t ht
  exact ⟨a,c,k.2 _ _ h5 (by intro e; injection e with _ e _; have:=hA t ht; omega),h6.kp k⟩
theorem kp_store2 {w : World} {R : Nat} (u : Value) (h0 : w.cell? ⟨R,0,none⟩ = some (.slice none 0 0)) (h1 : w.cell? ⟨R,1,none⟩ = some (.int .i64 0)) : Kp w ((w.setCell ⟨R,0,none⟩ u).setCell ⟨R,1,none⟩ (.int .i64 0)):=by
 refine ⟨by simp [World.setCell],fun p v hp hv=>?_⟩
 by_cases e1 : p = ⟨R,1,none⟩
 ·subst e1
  rw [h1] at hp
  injection hp with hp
  subst hp
  exact World.cell?_setCell_same (w.setCell ⟨R,0,none⟩ u) ⟨R,1,none⟩ (.int .i64 0) (by rw [World.cell?_setCell_other _ _ _ _ (by intro e; injection e with _ e _; cases e)]; exact h1)
 ·rw [World.cell?_setCell_other _ _ _ _ (fun e=>e1 e.symm)]
  by_cases e0 : p = ⟨R,0,none⟩
  ·subst e0
   rw [h0] at hp
   injection hp with hp
   exact absurd hp.symm hv
  ·rw [World.cell?_setCell_other _ _ _ _ (fun e=>e0 e.symm)]; exact hp
theorem two_bx {w : World} {B : Nat} (u0 u1 : Value) : Bx (fun j=>j = B) w ((w.setCell ⟨B,0,none⟩ u0).setCell ⟨B,1,none⟩ u1):=
 (Bx.set (S:=fun j=>j = B) rfl u0).trans (Bx.set (S:=fun j=>j = B) rfl u1)
def SvP (s : Option (List Nat)) (W : World) (e : Ending) (w' : World) : Prop:=
 (s = none ∧ e = .returned (.agg #[.slice none 0 0,.int .i64 4]) ∧ Below W.heap.size W w') ∨
 ∃ x a c,s = some x ∧ e = .returned (.agg #[.slice a x.length c,.int .i64 0]) ∧ NN x w' (.slice a x.length c) ∧ Below W.heap.size W w'
set_option maxHeartbeats 3200000 in
theorem solved_c {F : Gf} {b cap n m ca cb : Nat} {A : List (List Nat)} {V : List Nat} {aa ab : Option Addr} {W : World} (hA : FldAt F b cap W) (h1 : 1 ≤ n) (hn : n ≤ 24) (hm : m ≤ 500) (la : A.length = m) (ma : Mn F n A) (mv : Vn F m V) (na : MM A W (.slice aa m ca)) (nv : NN V W (.slice ab m cb)) :
  Calls Try.prog 24 #[MV F b cap n (.slice aa m ca),.slice ab m cb] W (SvP (solM F n (eqM A V)) W):=by
 obtain ⟨w0,hw0⟩ : ∃ w0,w0 = ((W.alloc (.cells #[.int .i64 F.p,.int .i64 F.e,FM F b cap,.int .i64 (n : Nat),.slice aa m ca] 32)).alloc (.cells #[.slice none 0 0,.int .i64 0] 46)):=⟨_,rfl⟩
 have hal : Below W.heap.size W w0:=by rw [hw0]; exact ((Below.refl _ _).alloc (Nat.le_refl _) _).alloc (by simp) _
 have HAL:=Lib.hid hal
 have HS0 : Hid (w0.heap.size = W.heap.size + 2):=Lib.hid (by rw [hw0]; simp)
 have HMB : Hid (MB W.heap.size F b cap n (.slice aa m ca) w0):=Lib.hid (by rw [hw0]; exact ⟨(World.cell?_alloc_lt _ _ _ (by simp)).trans (World.cell?_alloc_at _ _ _ _ rfl),(World.cell?_alloc_lt _ _ _ (by simp)).trans (World.cell?_alloc_at _ _ _ _ rfl),(World.cell?_alloc_lt _ _ _ (by simp)).trans (World.cell?_alloc_at _ _ _ _ rfl),(World.cell?_alloc_lt _ _ _ (by simp)).trans (World.cell?_alloc_at _ _ _ _ rfl),(World.cell?_alloc_lt _ _ _ (by simp)).trans (World.cell?_alloc_at _ _ _ _ rfl)⟩)
 have HRZ : Hid (w0.cell? ⟨W.heap.size + 1,0,none⟩ = some (.slice none 0 0) ∧ w0.cell? ⟨W.heap.size + 1,1,none⟩ = some (.int .i64 0) ∧ ∀ t,w0.frozen? ⟨W.heap.size + 1,t,none⟩ = false):=Lib.hid (by
  rw [hw0]; exact ⟨World.cell?_alloc_at _ _ _ _ (by simp),World.cell?_alloc_at _ _ _ _ (by simp),fun t=>World.frozen?_alloc_at _ _ _ _ (by simp)⟩)
 have HSC : Hid (Calls Try.prog 58 #[FV F b cap,.int .i64 (n : Nat),.slice aa m ca,.slice ab m cb] w0 (SolP (solM F n (eqM A V)) w0)):=Lib.hid (solve_c (hA.below hal) h1 hn hm la ma mv (na.below hal) (nv.below hal))
 obtain ⟨so,hso⟩ : ∃ s,solM F n (eqM A V) = s:=⟨_,rfl⟩
 rw [hso] at HSC ⊢
 have HW0:=Lib.hid hw0
 obtain ⟨x0,x1,x2,x3,x4⟩:=HMB.out
 clear hw0 hal hA ma mv na nv hso
 go_enter Try.func24,Try.ntmps24
 go_wp2_with fail
 rw [← HW0.out]
 clear HW0
 go_wp2_with fail
 with_reducible refine HSC.out.mono ?_
 rintro e w1 hs
 have key : Below w0.heap.size w0 w1 → (w1.cell? ⟨W.heap.size + 1,0,none⟩ = some (.slice none 0 0) ∧ w1.cell? ⟨W.heap.size + 1,1,none⟩ = some (.int .i64 0) ∧ w1.frozen? ⟨W.heap.size + 1,0,none⟩ = false ∧ w1.frozen? ⟨W.heap.size + 1,1,none⟩ = false):=fun hb=>by
  have hl : W.heap.size + 1 < w0.heap.size:=by rw [HS0.out]; exact Nat.lt_succ_self _
  exact ⟨(hb.cell hl).trans HRZ.out.1,(hb.cell hl).trans HRZ.out.2.1,(World.frozen?_of_block (w:=w0) (hb.block _ hl)).trans (HRZ.out.2.2 0),(World.frozen?_of_block (w:=w0) (hb.block _ hl)).trans (HRZ.out.2.2 1)⟩
 rcases hs with ⟨rfl,rfl,hb⟩ | ⟨x,a,c,rfl,rfl,hn1,hb⟩
 ·obtain ⟨r0,r1,f0,f1⟩:=key hb
  have HBW : Hid (Below W.heap.size W ((w1.setCell ⟨W.heap.size + 1,0,none⟩ (.slice none 0 0)).setCell ⟨W.heap.size + 1,1,none⟩ (.int .i64 4))):=Lib.hid ((HAL.out.trans (hb.mono HAL.out.size)).trans (Bx.below (two_bx _ _) (Nat.le_trans HAL.out.size hb.size) fun j (hj : j = W.heap.size + 1)=>by omega))
  clear hb key
  go_wp2
  refine bodyPost_ret (v:=.agg #[.slice none 0 0,.int .i64 4]) (by simp [results,Try.results24,go_sem,r0,r1]) rfl ?_
  exact .inl ⟨rfl,rfl,HBW.out⟩
 ·obtain ⟨r0,r1,f0,f1⟩:=key hb
  obtain ⟨lx,hlx⟩ : ∃ l,x.length = l:=⟨_,rfl⟩
  have HLX:=Lib.hid hlx
  rw [hlx] at hn1 ⊢
  have HBW : Hid (Below W.heap.size W ((w1.setCell ⟨W.heap.size + 1,0,none⟩ (.slice a lx c)).setCell ⟨W.heap.size + 1,1,none⟩ (.int .i64 0))):=Lib.hid ((HAL.out.trans (hb.mono HAL.out.size)).trans (Bx.below (two_bx _ _) (Nat.le_trans HAL.out.size hb.size) fun j (hj : j = W.heap.size + 1)=>by omega))
  have HNX:=Lib.hid (hn1.kp (kp_store2 (R:=W.heap.size + 1) (.slice a lx c) r0 r1))
  clear hb key hn1 hlx
  go_wp2
  refine bodyPost_ret (v:=.agg #[.slice a lx c,.int .i64 0]) (by simp [results,Try.results24,go_sem,r0,r1]) rfl ?_
  exact .inr ⟨x,a,c,rfl,by rw [HLX.out],by rw [HLX.out]; exact HNX.out,HBW.out⟩
def IvP (s : Option (List (List Nat))) (W : World) (e : Ending) (w' : World) : Prop:=
 (s = none ∧ e = .returned (.agg #[.slice none 0 0,.int .i64 4]) ∧ Below W.heap.size W w') ∨
 ∃ x a c,s = some x ∧ e = .returned (.agg #[.slice a x.length c,.int .i64 0]) ∧ MM x w' (.slice a x.length c) ∧ Below W.heap.size W w'
set_option maxHeartbeats 3200000 in
theorem inverted_c {F : Gf} {b cap n ca : Nat} {A : List (List Nat)} {aa : Option Addr} {W : World} (hA : FldAt F b cap W) (h1 : 1 ≤ n) (hn : n ≤ 24) (la : A.length = n) (ma : Mn F n A) (na : MM A W (.slice aa n ca)) (hp : ∀ x,invM F n A = some x → ∀ t,t < x.length → 0 < (x.getD t []).length) :
  Calls Try.prog 33 #[FV F b cap,.slice aa n ca] W (IvP (invM F n A) W):=by
 obtain ⟨w0,hw0⟩ : ∃ w0,w0 = ((W.alloc (.cells #[.int .i64 F.p,.int .i64 F.e,FM F b cap] 29)).alloc (.cells #[.slice none 0 0,.int .i64 0] 53)):=⟨_,rfl⟩
 have hal : Below W.heap.size W w0:=by rw [hw0]; exact ((Below.refl _ _).alloc (Nat.le_refl _) _).alloc (by simp) _
 have HAL:=Lib.hid hal
 have HS0 : Hid (w0.heap.size = W.heap.size + 2):=Lib.hid (by rw [hw0]; simp)
 have HFB : Hid (FBx W.heap.size F b cap w0):=Lib.hid (by rw [hw0]; exact ⟨(World.cell?_alloc_lt _ _ _ (by simp)).trans (World.cell?_alloc_at _ _ _ _ rfl),(World.cell?_alloc_lt _ _ _ (by simp)).trans (World.cell?_alloc_at _ _ _ _ rfl),(World.cell?_alloc_lt _ _ _ (by simp)).trans (World.cell?_alloc_at _ _ _ _ rfl)⟩)
 have HRZ : Hid (w0.cell? ⟨W.heap.size + 1,0,none⟩ = some (.slice none 0 0) ∧ w0.cell? ⟨W.heap.size + 1,1,none⟩ = some (.int .i64 0) ∧ ∀ t,w0.frozen? ⟨W.heap.size + 1,t,none⟩ = false):=Lib.hid (by
  rw [hw0]; exact ⟨World.cell?_alloc_at _ _ _ _ (by simp),World.cell?_alloc_at _ _ _ _ (by simp),fun t=>World.frozen?_alloc_at _ _ _ _ (by simp)⟩)
 have HSC : Hid (Calls Try.prog 64 #[FV F b cap,.slice aa n ca] w0 (InvP (invM F n A) w0)):=Lib.hid (inverse_c (hA.below hal) h1 hn la ma (na.below hal))
 obtain ⟨so,hso⟩ : ∃ s,invM F n A = s:=⟨_,rfl⟩
 rw [hso] at HSC hp ⊢
 have HP:=Lib.hid hp
 have HW0:=Lib.hid hw0
 obtain ⟨x0,x1,x2⟩:=HFB.out
 clear hw0 hal hA ma na hso hp
 go_enter Try.func33,Try.ntmps33
 go_wp2_with fail
 rw [← HW0.out]
 clear HW0
 go_wp2_with fail
 with_reducible refine HSC.out.mono ?_
 rintro e w1 hs
 have key : Below w0.heap.size w0 w1 → (w1.cell? ⟨W.heap.size + 1,0,none⟩ = some (.slice none 0 0) ∧ w1.cell? ⟨W.heap.size + 1,1,none⟩ = some (.int .i64 0) ∧ w1.frozen? ⟨W.heap.size + 1,0,none⟩ = false ∧ w1.frozen? ⟨W.heap.size + 1,1,none⟩ = false):=fun hb=>by
  have hl : W.heap.size + 1 < w0.heap.size:=by rw [HS0.out]; exact Nat.lt_succ_self _
  exact ⟨(hb.cell hl).trans HRZ.out.1,(hb.cell hl).trans HRZ.out.2.1,(World.frozen?_of_block (w:=w0) (hb.block _ hl)).trans (HRZ.out.2.2 0),(World.frozen?_of_block (w:=w0) (hb.block _ hl)).trans (HRZ.out.2.2 1)⟩
 rcases hs with ⟨rfl,rfl,hb⟩ | ⟨x,a,c,rfl,rfl,hn1,hb⟩
 ·obtain ⟨r0,r1,f0,f1⟩:=key hb
  have HBW : Hid (Below W.heap.size W ((w1.setCell ⟨W.heap.size + 1,0,none⟩ (.slice none 0 0)).setCell ⟨W.heap.size + 1,1,none⟩ (.int .i64 4))):=Lib.hid ((HAL.out.trans (hb.mono HAL.out.size)).trans (Bx.below (two_bx _ _) (Nat.le_trans HAL.out.size hb.size) fun j (hj : j = W.heap.size + 1)=>by omega))
  clear hb key
  go_wp2
  refine bodyPost_ret (v:=.agg #[.slice none 0 0,.int .i64 4]) (by simp [results,Try.results33,go_sem,r0,r1]) rfl ?_
  exact .inl ⟨rfl,rfl,HBW.out⟩
 ·obtain ⟨r0,r1,f0,f1⟩:=key hb
  obtain ⟨lx,hlx⟩ : ∃ l,x.length = l:=⟨_,rfl⟩
  have HLX:=Lib.hid hlx
  rw [hlx] at hn1 ⊢
  have HBW : Hid (Below W.heap.size W ((w1.setCell ⟨W.heap.size + 1,0,none⟩ (.slice a lx c)).setCell ⟨W.heap.size + 1,1,none⟩ (.int .i64 0))):=Lib.hid ((HAL.out.trans (hb.mono HAL.out.size)).trans (Bx.below (two_bx _ _) (Nat.le_trans HAL.out.size hb.size) fun j (hj : j = W.heap.size + 1)=>by omega))
  have HNX:=Lib.hid (hn1.kp (kp_store2 (R:=W.heap.size + 1) (.slice a lx c) r0 r1) (HP.out x rfl))
  clear hb key hn1 hlx
  go_wp2
  refine bodyPost_ret (v:=.agg #[.slice a lx c,.int .i64 0]) (by simp [results,Try.results33,go_sem,r0,r1]) rfl ?_
  exact .inr ⟨x,a,c,rfl,by rw [HLX.out],by rw [HLX.out]; exact HNX.out,HBW.out⟩
set_option maxHeartbeats 3200000 in
theorem samesol_c {A B : List Nat} {aa ab : Option Addr} {ca cb : Nat} {x y : Int} {W : World} (la : A.length ≤ 1000) (lb : B.length ≤ 1000) (na : NN A W (.slice aa A.length ca)) (nb : NN B W (.slice ab B.length cb)) :
  Calls Try.prog 23 #[.agg #[.slice aa A.length ca,.int .i64 x],.agg #[.slice ab B.length cb,.int .i64 y]] W fun e w'=>e = .returned (.bool (decide (x = y ∧ A = B))) ∧ Below W.heap.size W w':=by
 obtain ⟨w0,hw0⟩ : ∃ w0,w0 = ((W.alloc (.cells #[.slice aa A.length ca,.int .i64 x] 46)).alloc (.cells #[.slice ab B.length cb,.int .i64 y] 46)):=⟨_,rfl⟩
 have hal : Below W.heap.size W w0:=by rw [hw0]; exact ((Below.refl _ _).alloc (Nat.le_refl _) _).alloc (by simp) _
 have HAL:=Lib.hid hal
 have HMB : Hid (w0.cell? ⟨W.heap.size,0,none⟩ = some (.slice aa A.length ca) ∧ w0.cell? ⟨W.heap.size,1,none⟩ = some (.int .i64 x) ∧ w0.cell? ⟨W.heap.size + 1,0,none⟩ = some (.slice ab B.length cb) ∧ w0.cell? ⟨W.heap.size + 1,1,none⟩ = some (.int .i64 y)):=Lib.hid (by
  rw [hw0]; exact ⟨(World.cell?_alloc_lt _ _ _ (by simp)).trans (World.cell?_alloc_at _ _ _ _ rfl),(World.cell?_alloc_lt _ _ _ (by simp)).trans (World.cell?_alloc_at _ _ _ _ rfl),World.cell?_alloc_at _ _ _ _ (by simp),World.cell?_alloc_at _ _ _ _ (by simp)⟩)
 have HSC : Hid (Calls Try.prog 20 #[.slice aa A.length ca,.slice ab B.length cb] w0 fun e w'=>e = .returned (.bool (decide (A = B))) ∧ Below w0.heap.size w0 w'):=Lib.hid (same_c (by omega) (by omega) (na.below hal) (nb.below hal))
 obtain ⟨bb,hbb⟩ : ∃ x,decide (A = B) = x:=⟨_,rfl⟩
 obtain ⟨rr,hrr⟩ : ∃ r,decide (x = y ∧ A = B) = r:=⟨_,rfl⟩
 have HRR : Hid (rr = (decide (x = y) && bb)):=Lib.hid (by rw [← hrr,← hbb]; by_cases h1 : x = y <;> by_cases h2 : A = B <;> simp [h1,h2])
 rw [hbb] at HSC
 rw [hrr]
 generalize A.length = lA at *
 generalize B.length = lB at *
 obtain ⟨x0,x1,x2,x3⟩:=HMB.out
 have HW0:=Lib.hid hw0
 clear hw0 hal na nb hbb hrr
 by_cases hxy : x = y
 ·have HR2 : Hid (rr = bb):=Lib.hid (by rw [HRR.out]; simp [hxy])
  subst hxy
  rw [HR2.out]
  go_enter Try.func23,Try.ntmps23
  go_wp2_with fail
  rw [← HW0.out]
  clear HW0
  go_wp2_with fail
  with_reducible refine HSC.out.mono ?_
  rintro e w1 ⟨rfl,hb⟩
  have HBF : Hid (Below W.heap.size W w1):=Lib.hid (HAL.out.trans (hb.mono HAL.out.size))
  clear hb
  go_wp2
  go_ret
  exact ⟨rfl,HBF.out⟩
 ·have HR2 : Hid (rr = false):=Lib.hid (by rw [HRR.out]; simp [hxy])
  rw [HR2.out]
  go_enter Try.func23,Try.ntmps23
  go_wp2_with fail
  go_ret
  rw [← HW0.out]
  exact ⟨rfl,HAL.out⟩
section
variable {F : Gf} {b cap : Nat} {W : World}
theorem fsize_c (h : FldAt F b cap W) : Calls Try.prog 52 #[FV F b cap] W fun e w'=>e = .returned (.int .i64 (F.q : Nat)) ∧ Below W.heap.size W w':=size_c h.mem
theorem fvalid_c (hF : F ∈ fds.take 10) (h : FldAt F b cap W) : Calls Try.prog 50 #[FV F b cap] W fun e w'=>e = .returned (.bool true) ∧ Below W.heap.size W w':=fvalid_w h
theorem rvalid_c (hF : F ∈ fds.take 10) (h : FldAt F b cap W) : Calls Try.prog 65 #[FV F b cap] W fun e w'=>e = .returned (.bool true) ∧ Below W.heap.size W w':=rvalid_w h
end
theorem q100_k : (fds.all fun F=>decide (F.q ≤ 100)) = true:=by kernel_rfl
theorem q100 {F : Gf} (h : F ∈ fds) : F.q ≤ 100:=of_decide_eq_true (List.all_eq_true.1 q100_k F h)
set_option maxHeartbeats 3200000 in
theorem svalid_c {F : Gf} {b cap n m ca : Nat} {A : List (List Nat)} {aa : Option Addr} {W : World} (hF : F ∈ fds.take 10) (hA : FldAt F b cap W) (hn : n ≤ 1000) (hm : m ≤ 1000) (la : A.length = m) (hr : ∀ t,t < A.length → (A.getD t []).length ≤ 1000) (na : MM A W (.slice aa m ca)) :
  Calls Try.prog 13 #[FV F b cap,.int .i64 (n : Nat),.slice aa m ca] W fun e w'=>e = .returned (.bool (decide (m ≤ 64) && ((decide (1 ≤ n ∧ n ≤ 24) && wdM n [A]) && elM F.q A))) ∧ Below W.heap.size W w':=by
 obtain ⟨w1,hw1⟩ : ∃ w1,w1 = W.alloc (.cells #[.int .i64 F.p,.int .i64 F.e,FM F b cap] 29):=⟨_,rfl⟩
 obtain ⟨w2,hw2⟩ : ∃ w2,w2 = w1.alloc (.cells #[.slice aa m ca] 30):=⟨_,rfl⟩
 have hal1 : Below W.heap.size W w1:=by rw [hw1]; exact (Below.refl _ _).alloc (Nat.le_refl _) _
 have hal2 : Below w1.heap.size w1 w2:=by rw [hw2]; exact (Below.refl _ _).alloc (Nat.le_refl _) _
 have HAL1:=Lib.hid hal1
 have HAL : Hid (Below W.heap.size W w2):=Lib.hid (hal1.trans (hal2.mono hal1.size))
 have HS1 : Hid (w1.heap.size = W.heap.size + 1):=Lib.hid (by rw [hw1]; simp)
 have HFB : Hid (FBx W.heap.size F b cap w2):=Lib.hid (FBx.below (by rw [hw1]; exact FBx.new W F b cap) hal2 (by rw [HS1.out]; exact Nat.lt_succ_self _))
 have HF2:=Lib.hid (hA.below HAL.out)
 have HM2:=Lib.hid (na.below HAL.out)
 have HLM : Hid (LM [A] w2 (.slice (some ⟨W.heap.size + 1,0,none⟩) 1 1)):=Lib.hid (by
  have t:=LM.one (A:=A) (w:=w1) (a:=aa) (c:=ca) (by rw [la]; exact na.below hal1)
  rw [la,← hw2,HS1.out] at t; exact t)
 obtain ⟨bw,hbw⟩ : ∃ x,(decide (1 ≤ n ∧ n ≤ 24) && wdM n [A]) = x:=⟨_,rfl⟩
 obtain ⟨be,hbe⟩ : ∃ x,elM F.q A = x:=⟨_,rfl⟩
 have HWD : Hid (Calls Try.prog 49 #[.int .i64 (n : Nat),.slice (some ⟨W.heap.size + 1,0,none⟩) 1 1] w2 fun e w'=>e = .returned (.bool bw) ∧ Below w2.heap.size w2 w'):=Lib.hid (by
  have t:=haveWd_c (n:=n) (Ms:=[A]) (a:=some ⟨W.heap.size + 1,0,none⟩) (c:=1) (W:=w2) (by omega) (by simp) (fun t ht=>by simp at ht; subst ht; show A.length ≤ _; omega) (fun t ht k hk=>by simp at ht; subst ht; exact Nat.le_trans (hr k hk) (by omega)) HLM.out
  rw [hbw] at t; exact t)
 have HEL : Hid (∀ w,MM A w (.slice aa m ca) → Calls Try.prog 51 #[.int .i64 (F.q : Nat),.slice aa m ca] w fun e w'=>e = .returned (.bool be) ∧ Below w.heap.size w w'):=Lib.hid fun w h=>by
  have t:=haveEl_c (q:=F.q) (R:=A) (a:=aa) (c:=ca) (W:=w) (q100 (List.mem_of_mem_take hF)) (by omega) (fun t ht=>Nat.le_trans (hr t ht) (by omega)) (by rw [la]; exact h)
  rw [la,hbe] at t; exact t
 rw [hbw,hbe]
 have HW1:=Lib.hid hw1
 have HW2:=Lib.hid hw2
 clear hw1 hw2 hal1 hal2 hA na hbw hbe
 by_cases h64 : m ≤ 64
 ·have h64i : (m : Int) ≤ 64:=by omega
  rw [show decide (m ≤ 64) = true from by simpa using h64,Bool.true_and]
  obtain ⟨rr,hrr⟩ : ∃ r,(bw && be) = r:=⟨_,rfl⟩
  have HRR:=Lib.hid hrr
  rw [hrr]
  clear hrr
  go_enter Try.func13,Try.ntmps13
  go_wp2_with fail
  rw [← HW1.out,← HW2.out]
  clear HW1 HW2
  with_reducible refine HWD.out.mono ?_
  rintro e w3 ⟨rfl,hb3⟩
  have HB3 : Hid (Below W.heap.size W w3):=Lib.hid (HAL.out.trans (hb3.mono HAL.out.size))
  have HK : Hid (W.heap.size < w2.heap.size):=Lib.hid (by have:=HAL.out.size; have:=HS1.out; have:=World.block_lt_of_cell? w2 _ HFB.out.1; omega)
  obtain ⟨f0,f1,f2⟩:=FBx.below HFB.out hb3 HK.out
  have HFV : Hid (Calls Try.prog 50 #[FV F b cap] w3 fun e w'=>e = .returned (.bool true) ∧ Below w3.heap.size w3 w'):=Lib.hid (fvalid_c hF (HF2.out.below hb3))
  have HF3:=Lib.hid (HF2.out.below hb3)
  have HM3:=Lib.hid (HM2.out.below hb3)
  have HK3 : Hid (W.heap.size < w3.heap.size):=Lib.hid (Nat.lt_of_lt_of_le HK.out hb3.size)
  have HFB3 : Hid (FBx W.heap.size F b cap w3):=Lib.hid ⟨f0,f1,f2⟩
  clear hb3
  cases bw with
  | false =>
   go_wp2_with fail
   go_ret
   exact ⟨by rw [← HRR.out]; rfl,HB3.out⟩
  | true =>
   go_wp2_with fail
   with_reducible refine HFV.out.mono ?_
   rintro e w4 ⟨rfl,hb4⟩
   clear f0 f1 f2
   obtain ⟨f0,f1,f2⟩:=FBx.below HFB3.out hb4 HK3.out
   have HB4 : Hid (Below W.heap.size W w4):=Lib.hid (HB3.out.trans (hb4.mono HB3.out.size))
   have HSZ : Hid (Calls Try.prog 52 #[FV F b cap] w4 fun e w'=>e = .returned (.int .i64 (F.q : Nat)) ∧ Below w4.heap.size w4 w'):=Lib.hid (fsize_c (HF3.out.below hb4))
   have HM4:=Lib.hid (HM3.out.below hb4)
   clear hb4
   go_wp2_with fail
   with_reducible refine HSZ.out.mono ?_
   rintro e w5 ⟨rfl,hb5⟩
   have HB5 : Hid (Below W.heap.size W w5):=Lib.hid (HB4.out.trans (hb5.mono HB4.out.size))
   have HE5:=Lib.hid (HEL.out w5 (HM4.out.below hb5))
   clear hb5
   go_wp2_with fail
   with_reducible refine HE5.out.mono ?_
   rintro e w6 ⟨rfl,hb6⟩
   have HB6 : Hid (Below W.heap.size W w6):=Lib.hid (HB5.out.trans (hb6.mono HB5.out.size))
   clear hb6
   go_wp2_with fail
   go_ret
   exact ⟨by rw [← HRR.out]; rfl,HB6.out⟩
 ·have h64i : ¬ (m : Int) ≤ 64:=by omega
  rw [show decide (m ≤ 64) = false from by simpa using h64,Bool.false_and]
  go_enter Try.func13,Try.ntmps13
  go_wp2_with fail
  go_ret
  rw [← HW1.out]
  exact ⟨rfl,HAL1.out⟩
theorem nn_new {w : World} {L : List Nat} {cs : Array Value} (hc : cs = (L.map N64).toArray) {n : Nat} (hn : n = L.length) : NN L (w.alloc (.cells cs 3)) (.slice (some ⟨w.heap.size,0,none⟩) n n):=by
 subst hn hc
 refine .inr ⟨w.heap.size,0,L.length,rfl,Nat.le_refl _,by simp,fun t ht=>?_⟩
 refine (World.cell?_alloc_at _ _ _ _ rfl).trans ?_
 rw [Nat.zero_add,List.getElem?_toArray,List.getElem?_map,List.getD_eq_getElem?_getD,List.getElem?_eq_getElem ht]; rfl
theorem mm_new {w : World} {A : List (List Nat)} {cs : Array Value} {n ty : Nat} (hn : n = A.length) (h : ∀ t,t < A.length → ∃ a c,cs[t]? = some (.slice a (A.getD t []).length c) ∧ NN (A.getD t []) w (.slice a (A.getD t []).length c)) : MM A (w.alloc (.cells cs ty)) (.slice (some ⟨w.heap.size,0,none⟩) n n):=by
 subst hn
 refine .inr ⟨w.heap.size,0,A.length,rfl,Nat.le_refl _,by simp,fun t ht=>?_⟩
 obtain ⟨a,c,h1,h2⟩:=h t ht
 exact ⟨a,c,(World.cell?_alloc_at _ _ _ _ rfl).trans (by rw [Nat.zero_add]; exact h1),h2.below ((Below.refl _ _).alloc (Nat.le_refl _) _)⟩
end Go.Proofs.Yteeofijcndgbfaa
