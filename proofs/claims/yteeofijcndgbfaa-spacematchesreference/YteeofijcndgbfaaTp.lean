/- examples of the law: the walk. -/
import Derived.Test.YteeofijcndgbfaaTo
namespace Go.Proofs.Yteeofijcndgbfaa
open Go.RowKit Go.Fl
set_option maxRecDepth 100000
set_option linter.unusedVariables false
set_option linter.unusedSimpArgs false
set_option linter.unusedSectionVars false
theorem field53 (w : World) : (Instr.field 53 (.agg #[.slice none 0 0,.int .i64 4]) 1).run Try.prog w = .ok (.int .i64 4) w:=by kernel_rfl
def MPn (R : List (List Nat)) (n : Nat) (W : World) (e : Ending) (w' : World) : Prop:=∃ a c,e = .returned (.slice a n c) ∧ MM R w' (.slice a n c) ∧ Below W.heap.size W w'
theorem MPost.n {R : List (List Nat)} {n : Nat} {W : World} {e : Ending} {w' : World} (h : MPost R W e w') (hn : R.length = n) : MPn R n W e w':=by subst hn; exact h
def VPn (R : List Nat) (n : Nat) (W : World) (e : Ending) (w' : World) : Prop:=∃ a c,e = .returned (.slice a n c) ∧ NN R w' (.slice a n c) ∧ Below W.heap.size W w'
theorem VPost.n {R : List Nat} {n : Nat} {W : World} {e : Ending} {w' : World} (h : VPost R W e w') (hn : R.length = n) : VPn R n W e w':=by subst hn; exact h
def SPn (R : List Nat) (n : Nat) (W : World) (e : Ending) (w' : World) : Prop:=∃ a c,e = .returned (.agg #[.slice a n c,.int .i64 0]) ∧ NN R w' (.slice a n c) ∧ Below W.heap.size W w'
def IPn (R : List (List Nat)) (n : Nat) (W : World) (e : Ending) (w' : World) : Prop:=∃ a c,e = .returned (.agg #[.slice a n c,.int .i64 0]) ∧ MM R w' (.slice a n c) ∧ Below W.heap.size W w'
theorem SvP.some {R : List Nat} {n : Nat} {W : World} {e : Ending} {w' : World} (h : SvP (some R) W e w') (hn : R.length = n) : SPn R n W e w':=by
 subst hn
 rcases h with ⟨h,_⟩ | ⟨x,a,c,h,h1,h2,h3⟩
 ·cases h
 ·injection h with h; subst h; exact ⟨a,c,h1,h2,h3⟩
theorem SvP.none {W : World} {e : Ending} {w' : World} (h : SvP none W e w') : e = .returned (.agg #[.slice none 0 0,.int .i64 4]) ∧ Below W.heap.size W w':=by
 rcases h with ⟨_,h1,h2⟩ | ⟨x,a,c,h,_⟩
 ·exact ⟨h1,h2⟩
 ·cases h
theorem IvP.some {R : List (List Nat)} {n : Nat} {W : World} {e : Ending} {w' : World} (h : IvP (some R) W e w') (hn : R.length = n) : IPn R n W e w':=by
 subst hn
 rcases h with ⟨h,_⟩ | ⟨x,a,c,h,h1,h2,h3⟩
 ·cases h
 ·injection h with h; subst h; exact ⟨a,c,h1,h2,h3⟩
theorem IvP.none {W : World} {e : Ending} {w' : World} (h : IvP none W e w') : e = .returned (.agg #[.slice none 0 0,.int .i64 4]) ∧ Below W.heap.size W w':=by
 rcases h with ⟨_,h1,h2⟩ | ⟨x,a,c,h,_⟩
 ·exact ⟨h1,h2⟩
 ·cases h
set_option maxHeartbeats 25600000 in
theorem examples_c (W : World) : Calls Try.prog 9 #[] W fun e w'=>e = .returned (.bool true) ∧ Below W.heap.size W w':=by
 have hf : Calls Try.prog 47 #[.int .u8 0] W fun e w'=>∃ b cap,e = .returned (FV (fdB 0) b cap) ∧ FldAt (fdB 0) b cap w' ∧ Below W.heap.size W w':=field_c 0 (by decide) W
 have hg : ∀ w,Calls Try.prog 47 #[.int .u8 1] w fun e w'=>∃ b cap,e = .returned (FV (fdB 1) b cap) ∧ FldAt (fdB 1) b cap w' ∧ Below w.heap.size w w':=field_c 1 (by decide)
 have he:=ev_ok
 generalize fdB 0 = F at *
 generalize fdB 1 = G at *
 have HE:=Lib.hid he
 have HF:=Lib.hid hf
 have HG:=Lib.hid hg
 clear hf hg he
 go_enter Try.func9,Try.ntmps9
 go_wp2_with fail
 with_reducible refine HF.out.mono ?_
 rintro e w1 ⟨b,c,rfl,hf1,hb1⟩
 obtain ⟨w2,hw2⟩ : ∃ w,w = w1.alloc (.cells #[.int .i64 F.p,.int .i64 F.e,FM F b c] 29):=⟨_,rfl⟩
 have HW2:=Lib.hid hw2
 have HX2 : Hid (FBx w1.heap.size F b c w2 ∧ FldAt F b c w2 ∧ Below W.heap.size W w2 ∧ w1.heap.size < w2.heap.size):=Lib.hid (by
  rw [hw2]; exact ⟨FBx.new w1 F b c,hf1.below ((Below.refl _ _).alloc (Nat.le_refl _) _),hb1.alloc hb1.size _,by simp⟩)
 clear hw2 hf1 hb1 HF
 go_upto_region 2 with fail
 rw [← HW2.out]
 clear HW2
 go_wp2_with fail
 with_reducible refine (HG.out w2).mono ?_
 rintro e w3 ⟨b',c',rfl,hf3,hb3⟩
 obtain ⟨w4,hw4⟩ : ∃ w,w = w3.alloc (.cells #[.int .i64 G.p,.int .i64 G.e,FM G b' c'] 29):=⟨_,rfl⟩
 have HW4:=Lib.hid hw4
 have h34 : Below w3.heap.size w3 w4:=by rw [hw4]; exact (Below.refl _ _).alloc (Nat.le_refl _) _
 have h24 : Below w2.heap.size w2 w4:=hb3.trans (h34.mono hb3.size)
 have HX4 : Hid ((FBx w1.heap.size F b c w4 ∧ FldAt F b c w4 ∧ Below W.heap.size W w4 ∧ w1.heap.size < w4.heap.size) ∧ FBx w3.heap.size G b' c' w4 ∧ FldAt G b' c' w4 ∧ w3.heap.size < w4.heap.size):=Lib.hid
  ⟨⟨FBx.below HX2.out.1 h24 HX2.out.2.2.2,HX2.out.2.1.below h24,HX2.out.2.2.1.trans (h24.mono HX2.out.2.2.1.size),Nat.lt_of_lt_of_le HX2.out.2.2.2 h24.size⟩,by rw [hw4]; exact FBx.new w3 G b' c',hf3.below h34,by rw [hw4]; simp⟩
 obtain ⟨y0,y1,y2⟩:=HX4.out.1.1
 clear hw4 hf3 hb3 HG h34 h24
 go_upto_region 3 with fail
 rw [← HW4.out]
 clear HW4
 go_upto_region 4 with fail
 obtain ⟨w5,hw5⟩ : ∃ w,w = (((((w4.alloc (.cells #[.int .i64 1,.int .i64 1,.int .i64 0] 3)).alloc (.cells #[.int .i64 0,.int .i64 1,.int .i64 1] 3)).alloc (.cells #[.int .i64 1,.int .i64 0,.int .i64 1] 3)).alloc (.cells #[.slice (some ⟨w4.heap.size,0,none⟩) 3 3,.slice (some ⟨w4.heap.size + 1,0,none⟩) 3 3,.slice (some ⟨w4.heap.size + 1 + 1,0,none⟩) 3 3] 27)).alloc (.cells #[.int .i64 F.p,.int .i64 F.e,FM F b c,.int .i64 3,.slice (some ⟨w4.heap.size + 1 + 1 + 1,0,none⟩) 3 3] 32)):=⟨_,rfl⟩
 have HX5 : Hid (EX F G b c b' c' w1.heap.size w3.heap.size (w4.heap.size + 1 + 1 + 1 + 1) (some ⟨w4.heap.size + 1 + 1 + 1,0,none⟩) 3 w5 ∧ Below W.heap.size W w5):=Lib.hid (by
  have t:=lit3 (w:=w4) (L1:=[1,1,0]) (L2:=[0,1,1]) (L3:=[1,0,1]) (c1:=#[.int .i64 1,.int .i64 1,.int .i64 0]) (c2:=#[.int .i64 0,.int .i64 1,.int .i64 1]) (c3:=#[.int .i64 1,.int .i64 0,.int .i64 1]) (n1:=3) (n2:=3) (n3:=3) (ty:=27) rfl rfl rfl rfl rfl rfl
  obtain ⟨w45,hw45⟩ : ∃ w,w = ((((w4.alloc (.cells #[.int .i64 1,.int .i64 1,.int .i64 0] 3)).alloc (.cells #[.int .i64 0,.int .i64 1,.int .i64 1] 3)).alloc (.cells #[.int .i64 1,.int .i64 0,.int .i64 1] 3)).alloc (.cells #[.slice (some ⟨w4.heap.size,0,none⟩) 3 3,.slice (some ⟨w4.heap.size + 1,0,none⟩) 3 3,.slice (some ⟨w4.heap.size + 1 + 1,0,none⟩) 3 3] 27)):=⟨_,rfl⟩
  have es : w45.heap.size = w4.heap.size + 1 + 1 + 1 + 1:=by rw [hw45]; simp
  rw [← hw45] at t hw5
  have h5 : Below w45.heap.size w45 w5:=by rw [hw5]; exact (Below.refl _ _).alloc (Nat.le_refl _) _
  have h45 : Below w4.heap.size w4 w5:=t.2.trans (h5.mono t.2.size)
  have hm : MB (w4.heap.size + 1 + 1 + 1 + 1) F b c 3 (.slice (some ⟨w4.heap.size + 1 + 1 + 1,0,none⟩) 3 3) w5:=by
   rw [hw5,← es]; exact ⟨World.cell?_alloc_at _ _ _ _ rfl,World.cell?_alloc_at _ _ _ _ rfl,World.cell?_alloc_at _ _ _ _ rfl,World.cell?_alloc_at _ _ _ _ rfl,World.cell?_alloc_at _ _ _ _ rfl⟩
  obtain ⟨⟨q1,q2,q3,q4⟩,q5,q6,q7⟩:=HX4.out
  exact ⟨⟨q1.below h45 q4,q5.below h45 q7,hm,t.1.below h5,q2.below h45,q6.below h45,Nat.lt_of_lt_of_le q4 h45.size,Nat.lt_of_lt_of_le q7 h45.size,by rw [hw5,← es]; simp⟩,q3.trans (h45.mono q3.size)⟩)
 have HW5:=Lib.hid hw5
 rw [← HW5.out]
 clear HW5 hw5 y0 y1 y2
 generalize w4.heap.size + 1 + 1 + 1 + 1 = B3 at *
 generalize some (⟨w4.heap.size + 1 + 1 + 1,0,none⟩ : Addr) = a3 at *
 generalize w1.heap.size = B1 at *
 generalize w3.heap.size = B2 at *
 obtain ⟨f0,f1,f2⟩:=HX5.out.1.x1
 obtain ⟨m0,m1,m2,m3,m4⟩:=HX5.out.1.x3
 have HC : Hid (Calls Try.prog 15 #[FV F b c,.slice a3 3 3] w5 (MPn [[1,0,1],[0,1,1]] 2 w5)):=Lib.hid (by
  have t:=reduce_c (n:=3) (A:=A3) (aa:=a3) (ca:=3) HX5.out.1.fF (by decide) (by decide) (by decide) (mn_of (by rw [HE.out.qF]; decide)) HX5.out.1.mm
  rw [HE.out.v1] at t
  exact t.mono fun _ _ h=>h.n rfl)
 go_wp2_with fail
 with_reducible refine HC.out.mono ?_
 rintro e w6 ⟨aR,cR,rfl,hm,hb⟩
 have HX6 : Hid (EX F G b c b' c' B1 B2 B3 a3 3 w6 ∧ Below W.heap.size W w6):=Lib.hid ⟨HX5.out.1.below hb,HX5.out.2.trans (hb.mono HX5.out.2.size)⟩
 have HMR:=Lib.hid hm
 clear hm
 clear HC hb f0 f1 f2 m0 m1 m2 m3 m4
 obtain ⟨v6,hv6⟩ : ∃ x,x = (((w6.alloc (.cells #[.int .i64 1,.int .i64 0,.int .i64 1] 3)).alloc (.cells #[.int .i64 0,.int .i64 1,.int .i64 1] 3)).alloc (.cells #[.slice (some ⟨w6.heap.size,0,none⟩) 3 3,.slice (some ⟨w6.heap.size + 1,0,none⟩) 3 3] 27)):=⟨_,rfl⟩
 have hl:=lit2 (w:=w6) (L1:=[1,0,1]) (c1:=#[.int .i64 1,.int .i64 0,.int .i64 1]) (n1:=3) (L2:=[0,1,1]) (c2:=#[.int .i64 0,.int .i64 1,.int .i64 1]) (n2:=3) (ty:=27) rfl rfl rfl rfl
 rw [← hv6] at hl
 have HV6:=Lib.hid hv6
 have HXV : Hid (EX F G b c b' c' B1 B2 B3 a3 3 v6 ∧ Below W.heap.size W v6):=Lib.hid ⟨HX6.out.1.below hl.2,HX6.out.2.trans (hl.2.mono HX6.out.2.size)⟩
 have HMRv:=Lib.hid (HMR.out.below hl.2)
 have HLT:=Lib.hid hl.1
 have HC : Hid (Calls Try.prog 14 #[.slice aR 2 cR,.slice (some ⟨w6.heap.size + 1 + 1,0,none⟩) 2 2] v6 (fun e w'=>e = .returned (.bool true) ∧ Below v6.heap.size v6 w')):=Lib.hid (by
  have t:=alike_c (A:=[[1,0,1],[0,1,1]]) (B:=[[1,0,1],[0,1,1]]) (aa:=aR) (ca:=cR) (W:=v6) (by decide) (by decide) (by decide) (by decide) HMRv.out HLT.out
  exact t)
 clear hl hv6
 go_wp2_with fail
 rw [← HV6.out]
 with_reducible refine HC.out.mono ?_
 rintro e w7 ⟨rfl,hb⟩
 have HX7 : Hid (EX F G b c b' c' B1 B2 B3 a3 3 w7 ∧ Below W.heap.size W w7):=Lib.hid ⟨HXV.out.1.below hb,HXV.out.2.trans (hb.mono HXV.out.2.size)⟩
 have HMR_7:=Lib.hid (HMRv.out.below hb)
 clear HC hb HXV HLT HV6
 obtain ⟨f0,f1,f2⟩:=HX7.out.1.x1
 obtain ⟨m0,m1,m2,m3,m4⟩:=HX7.out.1.x3
 have HC : Hid (Calls Try.prog 17 #[FV F b c,.slice a3 3 3] w7 (fun e w'=>e = .returned (.int .i64 2) ∧ Below w7.heap.size w7 w')):=Lib.hid (by
  have t:=rank_c (n:=3) (A:=A3) (aa:=a3) (ca:=3) HX7.out.1.fF (by decide) (by decide) (by decide) (mn_of (by rw [HE.out.qF]; decide)) HX7.out.1.mm
  rw [HE.out.v1] at t
  exact t)
 go_wp2_with fail
 with_reducible refine HC.out.mono ?_
 rintro e w8 ⟨rfl,hb⟩
 have HX8 : Hid (EX F G b c b' c' B1 B2 B3 a3 3 w8 ∧ Below W.heap.size W w8):=Lib.hid ⟨HX7.out.1.below hb,HX7.out.2.trans (hb.mono HX7.out.2.size)⟩
 clear HC hb f0 f1 f2 m0 m1 m2 m3 m4
 obtain ⟨f0,f1,f2⟩:=HX8.out.1.x1
 obtain ⟨m0,m1,m2,m3,m4⟩:=HX8.out.1.x3
 have HC : Hid (Calls Try.prog 18 #[FV F b c,.int .i64 3,.slice a3 3 3] w8 (MPn [[1,1,1]] 1 w8)):=Lib.hid (by
  have t:=kern_c (A:=A3) (n:=3) (aa:=a3) (ca:=3) HX8.out.1.fF (by decide) (by decide) (by decide) (mn_of (by rw [HE.out.qF]; decide)) HX8.out.1.mm
  rw [HE.out.v3] at t
  exact t.mono fun _ _ h=>h.n rfl)
 go_wp2_with fail
 with_reducible refine HC.out.mono ?_
 rintro e w9 ⟨aK,cK,rfl,hm,hb⟩
 have HX9 : Hid (EX F G b c b' c' B1 B2 B3 a3 3 w9 ∧ Below W.heap.size W w9):=Lib.hid ⟨HX8.out.1.below hb,HX8.out.2.trans (hb.mono HX8.out.2.size)⟩
 have HMR:=Lib.hid hm
 clear hm
 clear HC hb f0 f1 f2 m0 m1 m2 m3 m4
 obtain ⟨v9,hv9⟩ : ∃ x,x = ((w9.alloc (.cells #[.int .i64 1,.int .i64 1,.int .i64 1] 3)).alloc (.cells #[.slice (some ⟨w9.heap.size,0,none⟩) 3 3] 27)):=⟨_,rfl⟩
 have hl:=lit1 (w:=w9) (L1:=[1,1,1]) (c1:=#[.int .i64 1,.int .i64 1,.int .i64 1]) (n1:=3) (ty:=27) rfl rfl
 rw [← hv9] at hl
 have HV9:=Lib.hid hv9
 have HXV : Hid (EX F G b c b' c' B1 B2 B3 a3 3 v9 ∧ Below W.heap.size W v9):=Lib.hid ⟨HX9.out.1.below hl.2,HX9.out.2.trans (hl.2.mono HX9.out.2.size)⟩
 have HMRv:=Lib.hid (HMR.out.below hl.2)
 have HLT:=Lib.hid hl.1
 have HC : Hid (Calls Try.prog 14 #[.slice aK 1 cK,.slice (some ⟨w9.heap.size + 1,0,none⟩) 1 1] v9 (fun e w'=>e = .returned (.bool true) ∧ Below v9.heap.size v9 w')):=Lib.hid (by
  have t:=alike_c (A:=[[1,1,1]]) (B:=[[1,1,1]]) (aa:=aK) (ca:=cK) (W:=v9) (by decide) (by decide) (by decide) (by decide) HMRv.out HLT.out
  exact t)
 clear hl hv9
 go_wp2_with fail
 rw [← HV9.out]
 with_reducible refine HC.out.mono ?_
 rintro e w10 ⟨rfl,hb⟩
 have HX10 : Hid (EX F G b c b' c' B1 B2 B3 a3 3 w10 ∧ Below W.heap.size W w10):=Lib.hid ⟨HXV.out.1.below hb,HXV.out.2.trans (hb.mono HXV.out.2.size)⟩
 have HMR_10:=Lib.hid (HMRv.out.below hb)
 clear HC hb HXV HLT HV9
 obtain ⟨f0,f1,f2⟩:=HX10.out.1.x1
 obtain ⟨m0,m1,m2,m3,m4⟩:=HX10.out.1.x3
 obtain ⟨v10,hv10⟩ : ∃ x,x = (w10.alloc (.cells #[.int .i64 1,.int .i64 0,.int .i64 1] 3)):=⟨_,rfl⟩
 have hl:=lit0 (w:=w10) (L1:=[1,0,1]) (c1:=#[.int .i64 1,.int .i64 0,.int .i64 1]) (n1:=3) rfl rfl
 rw [← hv10] at hl
 have HV10:=Lib.hid hv10
 have HXV : Hid (EX F G b c b' c' B1 B2 B3 a3 3 v10 ∧ Below W.heap.size W v10):=Lib.hid ⟨HX10.out.1.below hl.2,HX10.out.2.trans (hl.2.mono HX10.out.2.size)⟩
 have HLT:=Lib.hid hl.1
 have HC : Hid (Calls Try.prog 24 #[.agg #[.int .i64 F.p,.int .i64 F.e,FM F b c,.int .i64 3,.slice a3 3 3],.slice (some ⟨w10.heap.size,0,none⟩) 3 3] v10 (SPn [1,0,0] 3 v10)):=Lib.hid (by
  have t:=solved_c (n:=3) (m:=3) (A:=A3) (V:=[1,0,1]) (aa:=a3) (ca:=3) HXV.out.1.fF (by decide) (by decide) (by decide) rfl (mn_of (by rw [HE.out.qF]; decide)) (vn_of (by rw [HE.out.qF]; decide)) HXV.out.1.mm HLT.out
  rw [HE.out.v4] at t
  exact t.mono fun _ _ h=>h.some rfl)
 clear hl hv10
 go_wp2_with fail
 rw [← HV10.out]
 with_reducible refine HC.out.mono ?_
 rintro e w11 ⟨aS,cS,rfl,hm,hb⟩
 have HX11 : Hid (EX F G b c b' c' B1 B2 B3 a3 3 w11 ∧ Below W.heap.size W w11):=Lib.hid ⟨HXV.out.1.below hb,HXV.out.2.trans (hb.mono HXV.out.2.size)⟩
 have HMR:=Lib.hid hm
 clear hm
 clear HC hb HXV HLT HV10 f0 f1 f2 m0 m1 m2 m3 m4
 obtain ⟨v11,hv11⟩ : ∃ x,x = (w11.alloc (.cells #[.int .i64 1,.int .i64 0,.int .i64 0] 3)):=⟨_,rfl⟩
 have hl:=lit0 (w:=w11) (L1:=[1,0,0]) (c1:=#[.int .i64 1,.int .i64 0,.int .i64 0]) (n1:=3) rfl rfl
 rw [← hv11] at hl
 have HV11:=Lib.hid hv11
 have HXV : Hid (EX F G b c b' c' B1 B2 B3 a3 3 v11 ∧ Below W.heap.size W v11):=Lib.hid ⟨HX11.out.1.below hl.2,HX11.out.2.trans (hl.2.mono HX11.out.2.size)⟩
 have HMRv:=Lib.hid (HMR.out.below hl.2)
 have HLT:=Lib.hid hl.1
 have HC : Hid (Calls Try.prog 23 #[.agg #[.slice aS 3 cS,.int .i64 0],.agg #[.slice (some ⟨w11.heap.size,0,none⟩) 3 3,.int .i64 0]] v11 (fun e w'=>e = .returned (.bool true) ∧ Below v11.heap.size v11 w')):=Lib.hid (by
  have t:=samesol_c (A:=[1,0,0]) (B:=[1,0,0]) (aa:=aS) (ca:=cS) (x:=0) (y:=0) (by decide) (by decide) HMRv.out HLT.out
  exact t)
 clear hl hv11
 go_wp2_with fail
 rw [← HV11.out]
 with_reducible refine HC.out.mono ?_
 rintro e w12 ⟨rfl,hb⟩
 have HX12 : Hid (EX F G b c b' c' B1 B2 B3 a3 3 w12 ∧ Below W.heap.size W w12):=Lib.hid ⟨HXV.out.1.below hb,HXV.out.2.trans (hb.mono HXV.out.2.size)⟩
 have HMR_12:=Lib.hid (HMRv.out.below hb)
 clear HC hb HXV HLT HV11
 obtain ⟨f0,f1,f2⟩:=HX12.out.1.x1
 obtain ⟨m0,m1,m2,m3,m4⟩:=HX12.out.1.x3
 obtain ⟨v12,hv12⟩ : ∃ x,x = (w12.alloc (.cells #[.int .i64 1,.int .i64 0,.int .i64 0] 3)):=⟨_,rfl⟩
 have hl:=lit0 (w:=w12) (L1:=[1,0,0]) (c1:=#[.int .i64 1,.int .i64 0,.int .i64 0]) (n1:=3) rfl rfl
 rw [← hv12] at hl
 have HV12:=Lib.hid hv12
 have HXV : Hid (EX F G b c b' c' B1 B2 B3 a3 3 v12 ∧ Below W.heap.size W v12):=Lib.hid ⟨HX12.out.1.below hl.2,HX12.out.2.trans (hl.2.mono HX12.out.2.size)⟩
 have HLT:=Lib.hid hl.1
 have HC : Hid (Calls Try.prog 24 #[.agg #[.int .i64 F.p,.int .i64 F.e,FM F b c,.int .i64 3,.slice a3 3 3],.slice (some ⟨w12.heap.size,0,none⟩) 3 3] v12 (fun e w'=>e = .returned (.agg #[.slice none 0 0,.int .i64 4]) ∧ Below v12.heap.size v12 w')):=Lib.hid (by
  have t:=solved_c (n:=3) (m:=3) (A:=A3) (V:=[1,0,0]) (aa:=a3) (ca:=3) HXV.out.1.fF (by decide) (by decide) (by decide) rfl (mn_of (by rw [HE.out.qF]; decide)) (vn_of (by rw [HE.out.qF]; decide)) HXV.out.1.mm HLT.out
  rw [HE.out.v5] at t
  exact t.mono fun _ _ h=>h.none)
 clear hl hv12
 go_wp2_with fail
 rw [← HV12.out]
 with_reducible refine HC.out.mono ?_
 rintro e w13 ⟨rfl,hb⟩
 have HX13 : Hid (EX F G b c b' c' B1 B2 B3 a3 3 w13 ∧ Below W.heap.size W w13):=Lib.hid ⟨HXV.out.1.below hb,HXV.out.2.trans (hb.mono HXV.out.2.size)⟩
 clear HC hb HXV HLT HV12 f0 f1 f2 m0 m1 m2 m3 m4
 have HC : Hid (Calls Try.prog 23 #[.agg #[.slice none 0 0,.int .i64 4],.agg #[.slice none 0 0,.int .i64 4]] w13 (fun e w'=>e = .returned (.bool true) ∧ Below w13.heap.size w13 w')):=Lib.hid (by
  have t:=samesol_c (A:=[]) (B:=[]) (aa:=none) (ca:=0) (ab:=none) (cb:=0) (x:=4) (y:=4) (W:=w13) (by decide) (by decide) (.inl ⟨rfl,rfl⟩) (.inl ⟨rfl,rfl⟩)
  exact t)
 go_wp2_with fail
 with_reducible refine HC.out.mono ?_
 rintro e w14 ⟨rfl,hb⟩
 have HX14 : Hid (EX F G b c b' c' B1 B2 B3 a3 3 w14 ∧ Below W.heap.size W w14):=Lib.hid ⟨HX13.out.1.below hb,HX13.out.2.trans (hb.mono HX13.out.2.size)⟩
 clear HC hb
 obtain ⟨f0,f1,f2⟩:=HX14.out.1.x1
 obtain ⟨m0,m1,m2,m3,m4⟩:=HX14.out.1.x3
 obtain ⟨v14,hv14⟩ : ∃ x,x = (w14.alloc (.cells #[.int .i64 1,.int .i64 0,.int .i64 0] 3)):=⟨_,rfl⟩
 have hl:=lit0 (w:=w14) (L1:=[1,0,0]) (c1:=#[.int .i64 1,.int .i64 0,.int .i64 0]) (n1:=3) rfl rfl
 rw [← hv14] at hl
 have HV14:=Lib.hid hv14
 have HXV : Hid (EX F G b c b' c' B1 B2 B3 a3 3 v14 ∧ Below W.heap.size W v14):=Lib.hid ⟨HX14.out.1.below hl.2,HX14.out.2.trans (hl.2.mono HX14.out.2.size)⟩
 have HLT:=Lib.hid hl.1
 have HC : Hid (Calls Try.prog 21 #[FV F b c,.slice a3 3 3,.slice (some ⟨w14.heap.size,0,none⟩) 3 3] v14 (VPn [1,0,1] 3 v14)):=Lib.hid (by
  have t:=apply_c (n:=3) (A:=A3) (X:=[1,0,0]) (aa:=a3) (ca:=3) HXV.out.1.fF (by decide) (by decide) (by decide) (mn_of (by rw [HE.out.qF]; decide)) (vn_of (by rw [HE.out.qF]; decide)) HXV.out.1.mm HLT.out
  rw [HE.out.v6] at t
  exact t.mono fun _ _ h=>h.n rfl)
 clear hl hv14
 go_wp2_with fail
 rw [← HV14.out]
 with_reducible refine HC.out.mono ?_
 rintro e w15 ⟨aV,cV,rfl,hm,hb⟩
 have HX15 : Hid (EX F G b c b' c' B1 B2 B3 a3 3 w15 ∧ Below W.heap.size W w15):=Lib.hid ⟨HXV.out.1.below hb,HXV.out.2.trans (hb.mono HXV.out.2.size)⟩
 have HMR:=Lib.hid hm
 clear hm
 clear HC hb HXV HLT HV14 f0 f1 f2 m0 m1 m2 m3 m4
 obtain ⟨v15,hv15⟩ : ∃ x,x = (w15.alloc (.cells #[.int .i64 1,.int .i64 0,.int .i64 1] 3)):=⟨_,rfl⟩
 have hl:=lit0 (w:=w15) (L1:=[1,0,1]) (c1:=#[.int .i64 1,.int .i64 0,.int .i64 1]) (n1:=3) rfl rfl
 rw [← hv15] at hl
 have HV15:=Lib.hid hv15
 have HXV : Hid (EX F G b c b' c' B1 B2 B3 a3 3 v15 ∧ Below W.heap.size W v15):=Lib.hid ⟨HX15.out.1.below hl.2,HX15.out.2.trans (hl.2.mono HX15.out.2.size)⟩
 have HMRv:=Lib.hid (HMR.out.below hl.2)
 have HLT:=Lib.hid hl.1
 have HC : Hid (Calls Try.prog 20 #[.slice aV 3 cV,.slice (some ⟨w15.heap.size,0,none⟩) 3 3] v15 (fun e w'=>e = .returned (.bool true) ∧ Below v15.heap.size v15 w')):=Lib.hid (by
  have t:=same_c (A:=[1,0,1]) (B:=[1,0,1]) (aa:=aV) (ca:=cV) (by decide) (by decide) HMRv.out HLT.out
  exact t)
 clear hl hv15
 go_wp2_with fail
 rw [← HV15.out]
 with_reducible refine HC.out.mono ?_
 rintro e w16 ⟨rfl,hb⟩
 have HX16 : Hid (EX F G b c b' c' B1 B2 B3 a3 3 w16 ∧ Below W.heap.size W w16):=Lib.hid ⟨HXV.out.1.below hb,HXV.out.2.trans (hb.mono HXV.out.2.size)⟩
 have HMR_16:=Lib.hid (HMRv.out.below hb)
 clear HC hb HXV HLT HV15
 obtain ⟨g0,g1,g2⟩:=HX16.out.1.x2
 obtain ⟨v16,hv16⟩ : ∃ x,x = (((w16.alloc (.cells #[.int .i64 1,.int .i64 1] 3)).alloc (.cells #[.int .i64 1,.int .i64 2] 3)).alloc (.cells #[.slice (some ⟨w16.heap.size,0,none⟩) 2 2,.slice (some ⟨w16.heap.size + 1,0,none⟩) 2 2] 27)):=⟨_,rfl⟩
 have hl:=lit2 (w:=w16) (L1:=[1,1]) (c1:=#[.int .i64 1,.int .i64 1]) (n1:=2) (L2:=[1,2]) (c2:=#[.int .i64 1,.int .i64 2]) (n2:=2) (ty:=27) rfl rfl rfl rfl
 rw [← hv16] at hl
 have HV16:=Lib.hid hv16
 have HXV : Hid (EX F G b c b' c' B1 B2 B3 a3 3 v16 ∧ Below W.heap.size W v16):=Lib.hid ⟨HX16.out.1.below hl.2,HX16.out.2.trans (hl.2.mono HX16.out.2.size)⟩
 have HLT:=Lib.hid hl.1
 have HC : Hid (Calls Try.prog 33 #[FV G b' c',.slice (some ⟨w16.heap.size + 1 + 1,0,none⟩) 2 2] v16 (IPn [[2,2],[2,1]] 2 v16)):=Lib.hid (by
  have t:=inverted_c (n:=2) (A:=[[1,1],[1,2]]) HXV.out.1.fG (by decide) (by decide) rfl (mn_of (by rw [HE.out.qG]; decide)) HLT.out (fun x hx t ht=>by
   rw [HE.out.v7] at hx; injection hx with hx; subst hx
   match t,ht with
   | 0,_=>decide
   | 1,_=>decide)
  rw [HE.out.v7] at t
  exact t.mono fun _ _ h=>h.some rfl)
 clear hl hv16
 go_wp2_with fail
 rw [← HV16.out]
 with_reducible refine HC.out.mono ?_
 rintro e w17 ⟨aI,cI,rfl,hm,hb⟩
 have HX17 : Hid (EX F G b c b' c' B1 B2 B3 a3 3 w17 ∧ Below W.heap.size W w17):=Lib.hid ⟨HXV.out.1.below hb,HXV.out.2.trans (hb.mono HXV.out.2.size)⟩
 have HMR:=Lib.hid hm
 clear hm
 clear HC hb HXV HLT HV16 g0 g1 g2
 obtain ⟨u17,hu17⟩ : ∃ w,w = w17.alloc (.cells #[.slice aI 2 cI,.int .i64 0] 53):=⟨_,rfl⟩
 have hbu : Below w17.heap.size w17 u17:=by rw [hu17]; exact (Below.refl _ _).alloc (Nat.le_refl _) _
 have hcu : u17.cell? ⟨w17.heap.size,0,none⟩ = some (.slice aI 2 cI) ∧ u17.cell? ⟨w17.heap.size,1,none⟩ = some (.int .i64 0):=by rw [hu17]; exact ⟨World.cell?_alloc_at _ _ _ _ rfl,World.cell?_alloc_at _ _ _ _ rfl⟩
 have HXu : Hid (EX F G b c b' c' B1 B2 B3 a3 3 u17 ∧ Below W.heap.size W u17):=Lib.hid ⟨HX17.out.1.below hbu,HX17.out.2.trans (hbu.mono HX17.out.2.size)⟩
 have HMRu:=Lib.hid (HMR.out.below hbu)
 have HU:=Lib.hid hu17
 clear hu17 hbu
 go_upto_region 9 with fail
 rw [← HU.out]
 clear HU
 obtain ⟨r0,r1⟩:=hcu
 obtain ⟨v17,hv17⟩ : ∃ x,x = (((u17.alloc (.cells #[.int .i64 2,.int .i64 2] 3)).alloc (.cells #[.int .i64 2,.int .i64 1] 3)).alloc (.cells #[.slice (some ⟨u17.heap.size,0,none⟩) 2 2,.slice (some ⟨u17.heap.size + 1,0,none⟩) 2 2] 27)):=⟨_,rfl⟩
 have hl:=lit2 (w:=u17) (L1:=[2,2]) (c1:=#[.int .i64 2,.int .i64 2]) (n1:=2) (L2:=[2,1]) (c2:=#[.int .i64 2,.int .i64 1]) (n2:=2) (ty:=27) rfl rfl rfl rfl
 rw [← hv17] at hl
 have HV17:=Lib.hid hv17
 have HXV : Hid (EX F G b c b' c' B1 B2 B3 a3 3 v17 ∧ Below W.heap.size W v17):=Lib.hid ⟨HXu.out.1.below hl.2,HXu.out.2.trans (hl.2.mono HXu.out.2.size)⟩
 have HMRuv:=Lib.hid (HMRu.out.below hl.2)
 have HLT:=Lib.hid hl.1
 have HC : Hid (Calls Try.prog 14 #[.slice aI 2 cI,.slice (some ⟨u17.heap.size + 1 + 1,0,none⟩) 2 2] v17 (fun e w'=>e = .returned (.bool true) ∧ Below v17.heap.size v17 w')):=Lib.hid (by
  have t:=alike_c (A:=[[2,2],[2,1]]) (B:=[[2,2],[2,1]]) (aa:=aI) (ca:=cI) (W:=v17) (by decide) (by decide) (by decide) (by decide) HMRuv.out HLT.out
  exact t)
 clear hl hv17
 go_wp2_with fail
 rw [← HV17.out]
 with_reducible refine HC.out.mono ?_
 rintro e w18 ⟨rfl,hb⟩
 have HX18 : Hid (EX F G b c b' c' B1 B2 B3 a3 3 w18 ∧ Below W.heap.size W w18):=Lib.hid ⟨HXV.out.1.below hb,HXV.out.2.trans (hb.mono HXV.out.2.size)⟩
 have HMRu_18:=Lib.hid (HMRuv.out.below hb)
 clear HC hb HXV HLT HV17
 clear r0 r1
 obtain ⟨g0,g1,g2⟩:=HX18.out.1.x2
 obtain ⟨v18,hv18⟩ : ∃ x,x = (((w18.alloc (.cells #[.int .i64 1,.int .i64 2] 3)).alloc (.cells #[.int .i64 2,.int .i64 1] 3)).alloc (.cells #[.slice (some ⟨w18.heap.size,0,none⟩) 2 2,.slice (some ⟨w18.heap.size + 1,0,none⟩) 2 2] 27)):=⟨_,rfl⟩
 have hl:=lit2 (w:=w18) (L1:=[1,2]) (c1:=#[.int .i64 1,.int .i64 2]) (n1:=2) (L2:=[2,1]) (c2:=#[.int .i64 2,.int .i64 1]) (n2:=2) (ty:=27) rfl rfl rfl rfl
 rw [← hv18] at hl
 have HV18:=Lib.hid hv18
 have HXV : Hid (EX F G b c b' c' B1 B2 B3 a3 3 v18 ∧ Below W.heap.size W v18):=Lib.hid ⟨HX18.out.1.below hl.2,HX18.out.2.trans (hl.2.mono HX18.out.2.size)⟩
 have HLT:=Lib.hid hl.1
 have HC : Hid (Calls Try.prog 33 #[FV G b' c',.slice (some ⟨w18.heap.size + 1 + 1,0,none⟩) 2 2] v18 (fun e w'=>e = .returned (.agg #[.slice none 0 0,.int .i64 4]) ∧ Below v18.heap.size v18 w')):=Lib.hid (by
  have t:=inverted_c (n:=2) (A:=[[1,2],[2,1]]) HXV.out.1.fG (by decide) (by decide) rfl (mn_of (by rw [HE.out.qG]; decide)) HLT.out (fun x hx t ht=>by
   rw [HE.out.v8] at hx; cases hx)
  rw [HE.out.v8] at t
  exact t.mono fun _ _ h=>h.none)
 clear hl hv18
 go_wp2_with fail
 rw [← HV18.out]
 with_reducible refine HC.out.mono ?_
 rintro e w19 ⟨rfl,hb⟩
 have HX19 : Hid (EX F G b c b' c' B1 B2 B3 a3 3 w19 ∧ Below W.heap.size W w19):=Lib.hid ⟨HXV.out.1.below hb,HXV.out.2.trans (hb.mono HXV.out.2.size)⟩
 clear HC hb HXV HLT HV18 g0 g1 g2
 have hf53:=field53 w19
 obtain ⟨yHP,hu⟩ : ∃ x,x = (((w19.alloc (.cells #[.int .i64 1,.int .i64 0,.int .i64 0] 3)).alloc (.cells #[.int .i64 0,.int .i64 1,.int .i64 0] 3)).alloc (.cells #[.slice (some ⟨w19.heap.size,0,none⟩) 3 3,.slice (some ⟨w19.heap.size + 1,0,none⟩) 3 3] 27)):=⟨_,rfl⟩
 have hl:=lit2 (w:=w19) (L1:=[1,0,0]) (c1:=#[.int .i64 1,.int .i64 0,.int .i64 0]) (n1:=3) (L2:=[0,1,0]) (c2:=#[.int .i64 0,.int .i64 1,.int .i64 0]) (n2:=3) (ty:=27) rfl rfl rfl rfl
 rw [← hu] at hl
 have HXHP : Hid (EX F G b c b' c' B1 B2 B3 a3 3 yHP ∧ Below W.heap.size W yHP):=Lib.hid ⟨HX19.out.1.below hl.2,HX19.out.2.trans (hl.2.mono HX19.out.2.size)⟩
 have HP_HP:=Lib.hid hl.1
 have HU:=Lib.hid hu
 obtain ⟨aHP,haHP⟩ : ∃ a : Option Addr,a = some ⟨w19.heap.size + 1 + 1,0,none⟩:=⟨_,rfl⟩
 have HAHP:=Lib.hid haHP
 rw [← haHP] at HP_HP
 clear hl hu haHP
 go_upto_region 12 with fail
 rw [← HU.out,← HAHP.out]
 clear HU
 obtain ⟨yHQ,hu⟩ : ∃ x,x = (((yHP.alloc (.cells #[.int .i64 0,.int .i64 1,.int .i64 1] 3)).alloc (.cells #[.int .i64 0,.int .i64 0,.int .i64 1] 3)).alloc (.cells #[.slice (some ⟨yHP.heap.size,0,none⟩) 3 3,.slice (some ⟨yHP.heap.size + 1,0,none⟩) 3 3] 27)):=⟨_,rfl⟩
 have hl:=lit2 (w:=yHP) (L1:=[0,1,1]) (c1:=#[.int .i64 0,.int .i64 1,.int .i64 1]) (n1:=3) (L2:=[0,0,1]) (c2:=#[.int .i64 0,.int .i64 0,.int .i64 1]) (n2:=3) (ty:=27) rfl rfl rfl rfl
 rw [← hu] at hl
 have HXHQ : Hid (EX F G b c b' c' B1 B2 B3 a3 3 yHQ ∧ Below W.heap.size W yHQ):=Lib.hid ⟨HXHP.out.1.below hl.2,HXHP.out.2.trans (hl.2.mono HXHP.out.2.size)⟩
 have HP_HQ:=Lib.hid (HP_HP.out.below hl.2)
 have HQ_HQ:=Lib.hid hl.1
 have HU:=Lib.hid hu
 obtain ⟨aHQ,haHQ⟩ : ∃ a : Option Addr,a = some ⟨yHP.heap.size + 1 + 1,0,none⟩:=⟨_,rfl⟩
 have HAHQ:=Lib.hid haHQ
 rw [← haHQ] at HQ_HQ
 clear hl hu haHQ
 go_upto_region 13 with fail
 rw [← HU.out,← HAHQ.out]
 clear HU
 obtain ⟨g0,g1,g2⟩:=HXHQ.out.1.x2
 have HC : Hid (Calls Try.prog 30 #[FV G b' c',.int .i64 3,.slice aHP 2 2,.slice aHQ 2 2] yHQ (MPn [[0,1,0]] 1 yHQ)):=Lib.hid (by
  have t:=meet_c (n:=3) (A:=P3) (B:=Q3) (aa:=aHP) (ab:=aHQ) (ca:=2) (cb:=2) HXHQ.out.1.fG (by decide) (by decide) (by decide) (by decide) (mn_of (by rw [HE.out.qG]; decide)) (mn_of (by rw [HE.out.qG]; decide)) HP_HQ.out HQ_HQ.out
  rw [HE.out.v9] at t
  exact t.mono fun _ _ h=>h.n rfl)
 go_wp2_with fail
 with_reducible refine HC.out.mono ?_
 rintro e w20 ⟨aM,cM,rfl,hm,hb⟩
 have HX20 : Hid (EX F G b c b' c' B1 B2 B3 a3 3 w20 ∧ Below W.heap.size W w20):=Lib.hid ⟨HXHQ.out.1.below hb,HXHQ.out.2.trans (hb.mono HXHQ.out.2.size)⟩
 have HP_20:=Lib.hid (HP_HQ.out.below hb)
 have HQ_20:=Lib.hid (HQ_HQ.out.below hb)
 have HMR:=Lib.hid hm
 clear hm
 clear HC hb g0 g1 g2
 obtain ⟨v20,hv20⟩ : ∃ x,x = ((w20.alloc (.cells #[.int .i64 0,.int .i64 1,.int .i64 0] 3)).alloc (.cells #[.slice (some ⟨w20.heap.size,0,none⟩) 3 3] 27)):=⟨_,rfl⟩
 have hl:=lit1 (w:=w20) (L1:=[0,1,0]) (c1:=#[.int .i64 0,.int .i64 1,.int .i64 0]) (n1:=3) (ty:=27) rfl rfl
 rw [← hv20] at hl
 have HV20:=Lib.hid hv20
 have HXV : Hid (EX F G b c b' c' B1 B2 B3 a3 3 v20 ∧ Below W.heap.size W v20):=Lib.hid ⟨HX20.out.1.below hl.2,HX20.out.2.trans (hl.2.mono HX20.out.2.size)⟩
 have HP_20v:=Lib.hid (HP_20.out.below hl.2)
 have HQ_20v:=Lib.hid (HQ_20.out.below hl.2)
 have HMRv:=Lib.hid (HMR.out.below hl.2)
 have HLT:=Lib.hid hl.1
 have HC : Hid (Calls Try.prog 14 #[.slice aM 1 cM,.slice (some ⟨w20.heap.size + 1,0,none⟩) 1 1] v20 (fun e w'=>e = .returned (.bool true) ∧ Below v20.heap.size v20 w')):=Lib.hid (by
  have t:=alike_c (A:=[[0,1,0]]) (B:=[[0,1,0]]) (aa:=aM) (ca:=cM) (W:=v20) (by decide) (by decide) (by decide) (by decide) HMRv.out HLT.out
  exact t)
 clear hl hv20
 go_wp2_with fail
 rw [← HV20.out]
 with_reducible refine HC.out.mono ?_
 rintro e w21 ⟨rfl,hb⟩
 have HX21 : Hid (EX F G b c b' c' B1 B2 B3 a3 3 w21 ∧ Below W.heap.size W w21):=Lib.hid ⟨HXV.out.1.below hb,HXV.out.2.trans (hb.mono HXV.out.2.size)⟩
 have HP_21:=Lib.hid (HP_20v.out.below hb)
 have HQ_21:=Lib.hid (HQ_20v.out.below hb)
 have HMR_21:=Lib.hid (HMRv.out.below hb)
 clear HC hb HXV HLT HV20
 obtain ⟨g0,g1,g2⟩:=HX21.out.1.x2
 have HC : Hid (Calls Try.prog 28 #[FV G b' c',.slice aHP 2 2,.slice aHQ 2 2] w21 (fun e w'=>∃ a k,e = .returned (.slice a 3 k) ∧ Below w21.heap.size w21 w')):=Lib.hid (by
  have t:=join_c (n:=3) (A:=P3) (B:=Q3) (aa:=aHP) (ab:=aHQ) (ca:=2) (cb:=2) HX21.out.1.fG (by decide) (by decide) (by decide) (by decide) (mn_of (by rw [HE.out.qG]; decide)) (mn_of (by rw [HE.out.qG]; decide)) HP_21.out HQ_21.out
  refine t.mono ?_
  rintro e w ⟨a,k,h1,_,h3⟩
  rw [HE.out.v10] at h1
  exact ⟨a,k,h1,h3⟩)
 go_wp2_with fail
 with_reducible refine HC.out.mono ?_
 rintro e w22 ⟨aJ,cJ,rfl,hb⟩
 have HX22 : Hid (EX F G b c b' c' B1 B2 B3 a3 3 w22 ∧ Below W.heap.size W w22):=Lib.hid ⟨HX21.out.1.below hb,HX21.out.2.trans (hb.mono HX21.out.2.size)⟩
 have HP_22:=Lib.hid (HP_21.out.below hb)
 have HQ_22:=Lib.hid (HQ_21.out.below hb)
 clear HC hb g0 g1 g2
 obtain ⟨g0,g1,g2⟩:=HX22.out.1.x2
 obtain ⟨v22,hv22⟩ : ∃ x,x = (w22.alloc (.cells #[.int .i64 2,.int .i64 1,.int .i64 0] 3)):=⟨_,rfl⟩
 have hl:=lit0 (w:=w22) (L1:=[2,1,0]) (c1:=#[.int .i64 2,.int .i64 1,.int .i64 0]) (n1:=3) rfl rfl
 rw [← hv22] at hl
 have HV22:=Lib.hid hv22
 have HXV : Hid (EX F G b c b' c' B1 B2 B3 a3 3 v22 ∧ Below W.heap.size W v22):=Lib.hid ⟨HX22.out.1.below hl.2,HX22.out.2.trans (hl.2.mono HX22.out.2.size)⟩
 have HP_22v:=Lib.hid (HP_22.out.below hl.2)
 have HQ_22v:=Lib.hid (HQ_22.out.below hl.2)
 have HLT:=Lib.hid hl.1
 have HC : Hid (Calls Try.prog 26 #[FV G b' c',.slice aHP 2 2,.slice (some ⟨w22.heap.size,0,none⟩) 3 3] v22 (fun e w'=>e = .returned (.bool true) ∧ Below v22.heap.size v22 w')):=Lib.hid (by
  have t:=has_c (n:=3) (A:=P3) (V:=[2,1,0]) (aa:=aHP) (ca:=2) HXV.out.1.fG (by decide) (by decide) (by decide) (mn_of (by rw [HE.out.qG]; decide)) (vn_of (by rw [HE.out.qG]; decide)) HP_22v.out HLT.out
  rw [HE.out.v11] at t
  exact t)
 clear hl hv22
 go_wp2_with fail
 rw [← HV22.out]
 with_reducible refine HC.out.mono ?_
 rintro e w23 ⟨rfl,hb⟩
 have HX23 : Hid (EX F G b c b' c' B1 B2 B3 a3 3 w23 ∧ Below W.heap.size W w23):=Lib.hid ⟨HXV.out.1.below hb,HXV.out.2.trans (hb.mono HXV.out.2.size)⟩
 have HP_23:=Lib.hid (HP_22v.out.below hb)
 have HQ_23:=Lib.hid (HQ_22v.out.below hb)
 clear HC hb HXV HLT HV22 g0 g1 g2
 obtain ⟨g0,g1,g2⟩:=HX23.out.1.x2
 obtain ⟨v23,hv23⟩ : ∃ x,x = (w23.alloc (.cells #[.int .i64 0,.int .i64 0,.int .i64 1] 3)):=⟨_,rfl⟩
 have hl:=lit0 (w:=w23) (L1:=[0,0,1]) (c1:=#[.int .i64 0,.int .i64 0,.int .i64 1]) (n1:=3) rfl rfl
 rw [← hv23] at hl
 have HV23:=Lib.hid hv23
 have HXV : Hid (EX F G b c b' c' B1 B2 B3 a3 3 v23 ∧ Below W.heap.size W v23):=Lib.hid ⟨HX23.out.1.below hl.2,HX23.out.2.trans (hl.2.mono HX23.out.2.size)⟩
 have HP_23v:=Lib.hid (HP_23.out.below hl.2)
 have HQ_23v:=Lib.hid (HQ_23.out.below hl.2)
 have HLT:=Lib.hid hl.1
 have HC : Hid (Calls Try.prog 26 #[FV G b' c',.slice aHP 2 2,.slice (some ⟨w23.heap.size,0,none⟩) 3 3] v23 (fun e w'=>e = .returned (.bool false) ∧ Below v23.heap.size v23 w')):=Lib.hid (by
  have t:=has_c (n:=3) (A:=P3) (V:=[0,0,1]) (aa:=aHP) (ca:=2) HXV.out.1.fG (by decide) (by decide) (by decide) (mn_of (by rw [HE.out.qG]; decide)) (vn_of (by rw [HE.out.qG]; decide)) HP_23v.out HLT.out
  rw [HE.out.v12] at t
  exact t)
 clear hl hv23
 go_wp2_with fail
 rw [← HV23.out]
 with_reducible refine HC.out.mono ?_
 rintro e w24 ⟨rfl,hb⟩
 have HX24 : Hid (EX F G b c b' c' B1 B2 B3 a3 3 w24 ∧ Below W.heap.size W w24):=Lib.hid ⟨HXV.out.1.below hb,HXV.out.2.trans (hb.mono HXV.out.2.size)⟩
 have HP_24:=Lib.hid (HP_23v.out.below hb)
 have HQ_24:=Lib.hid (HQ_23v.out.below hb)
 clear HC hb HXV HLT HV23 g0 g1 g2
 obtain ⟨g0,g1,g2⟩:=HX24.out.1.x2
 have HC : Hid (Calls Try.prog 13 #[FV G b' c',.int .i64 3,.slice aHP 2 2] w24 (fun e w'=>e = .returned (.bool true) ∧ Below w24.heap.size w24 w')):=Lib.hid (by
  have t:=svalid_c (n:=3) (m:=2) (A:=P3) (aa:=aHP) (ca:=2) HE.out.tG HX24.out.1.fG (by decide) (by decide) rfl (by decide) HP_24.out
  rw [HE.out.qG] at t
  exact t)
 go_wp2_with fail
 with_reducible refine HC.out.mono ?_
 rintro e w25 ⟨rfl,hb⟩
 have HX25 : Hid (EX F G b c b' c' B1 B2 B3 a3 3 w25 ∧ Below W.heap.size W w25):=Lib.hid ⟨HX24.out.1.below hb,HX24.out.2.trans (hb.mono HX24.out.2.size)⟩
 have HP_25:=Lib.hid (HP_24.out.below hb)
 have HQ_25:=Lib.hid (HQ_24.out.below hb)
 clear HC hb g0 g1 g2
 obtain ⟨f0,f1,f2⟩:=HX25.out.1.x1
 obtain ⟨v25,hv25⟩ : ∃ x,x = ((w25.alloc (.cells #[.int .i64 2,.int .i64 0,.int .i64 0] 3)).alloc (.cells #[.slice (some ⟨w25.heap.size,0,none⟩) 3 3] 27)):=⟨_,rfl⟩
 have hl:=lit1 (w:=w25) (L1:=[2,0,0]) (c1:=#[.int .i64 2,.int .i64 0,.int .i64 0]) (n1:=3) (ty:=27) rfl rfl
 rw [← hv25] at hl
 have HV25:=Lib.hid hv25
 have HXV : Hid (EX F G b c b' c' B1 B2 B3 a3 3 v25 ∧ Below W.heap.size W v25):=Lib.hid ⟨HX25.out.1.below hl.2,HX25.out.2.trans (hl.2.mono HX25.out.2.size)⟩
 have HLT:=Lib.hid hl.1
 have HC : Hid (Calls Try.prog 13 #[FV F b c,.int .i64 3,.slice (some ⟨w25.heap.size + 1,0,none⟩) 1 1] v25 (fun e w'=>e = .returned (.bool false) ∧ Below v25.heap.size v25 w')):=Lib.hid (by
  have t:=svalid_c (n:=3) (m:=1) (A:=[[2,0,0]]) HE.out.tF HXV.out.1.fF (by decide) (by decide) rfl (by decide) HLT.out
  rw [HE.out.qF] at t
  exact t)
 clear hl hv25
 go_wp2_with fail
 rw [← HV25.out]
 with_reducible refine HC.out.mono ?_
 rintro e w26 ⟨rfl,hb⟩
 have HX26 : Hid (EX F G b c b' c' B1 B2 B3 a3 3 w26 ∧ Below W.heap.size W w26):=Lib.hid ⟨HXV.out.1.below hb,HXV.out.2.trans (hb.mono HXV.out.2.size)⟩
 clear HC hb HXV HLT HV25 f0 f1 f2
 obtain ⟨f0,f1,f2⟩:=HX26.out.1.x1
 have HC : Hid (Calls Try.prog 13 #[FV F b c,.int .i64 0,.slice none 0 0] w26 (fun e w'=>e = .returned (.bool false) ∧ Below w26.heap.size w26 w')):=Lib.hid (by
  have t:=svalid_c (n:=0) (m:=0) (A:=[]) (aa:=none) (ca:=0) HE.out.tF HX26.out.1.fF (by decide) (by decide) rfl (by decide) (.inl ⟨rfl,rfl⟩)
  rw [HE.out.qF] at t
  exact t)
 go_wp2_with fail
 with_reducible refine HC.out.mono ?_
 rintro e w27 ⟨rfl,hb⟩
 have HX27 : Hid (EX F G b c b' c' B1 B2 B3 a3 3 w27 ∧ Below W.heap.size W w27):=Lib.hid ⟨HX26.out.1.below hb,HX26.out.2.trans (hb.mono HX26.out.2.size)⟩
 clear HC hb f0 f1 f2
 obtain ⟨f0,f1,f2⟩:=HX27.out.1.x1
 have HC : Hid (Calls Try.prog 18 #[FV F b c,.int .i64 2,.slice none 0 0] w27 (fun e w'=>∃ a k,e = .returned (.slice a 2 k) ∧ Below w27.heap.size w27 w')):=Lib.hid (by
  have t:=kern_c (n:=2) (A:=[]) (aa:=none) (ca:=0) HX27.out.1.fF (by decide) (by decide) (by decide) (fun r hr=>by cases hr) (.inl ⟨rfl,rfl⟩)
  refine t.mono ?_
  rintro e w ⟨a,k,h1,_,h3⟩
  rw [HE.out.v14] at h1
  exact ⟨a,k,h1,h3⟩)
 go_wp2_with fail
 with_reducible refine HC.out.mono ?_
 rintro e w28 ⟨aJ,cJ,rfl,hb⟩
 have HX28 : Hid (EX F G b c b' c' B1 B2 B3 a3 3 w28 ∧ Below W.heap.size W w28):=Lib.hid ⟨HX27.out.1.below hb,HX27.out.2.trans (hb.mono HX27.out.2.size)⟩
 clear HC hb f0 f1 f2
 go_wp2_with fail
 go_ret
 exact ⟨rfl,HX28.out.2⟩
end Go.Proofs.Yteeofijcndgbfaa
