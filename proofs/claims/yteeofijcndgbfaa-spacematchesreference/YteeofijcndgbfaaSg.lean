/- isolate: a column made 1 in a row and 0 in the others. -/
import Derived.Test.YteeofijcndgbfaaEvTk
import Derived.Test.YteeofijcndgbfaaSe
namespace Go.Proofs.Yteeofijcndgbfaa
open Go.RowKit Go.Fl
set_option maxRecDepth 100000
set_option linter.unusedVariables false
set_option linter.unusedSimpArgs false
set_option linter.unusedSectionVars false
abbrev SG (F : Gf) (b cap n : Nat) (mv : Value) (B : Nat) (S : Nat → Prop) (wr : World) (w : World) : Prop:=MB B F b cap n mv w ∧ Hid (FldAt F b cap w) ∧ Hid (B < w.heap.size) ∧ Hid (Bx S wr w)
theorem SG.keep {F : Gf} {b cap n : Nat} {mv : Value} {B : Nat} {S : Nat → Prop} {wr w w' : World} (h : SG F b cap n mv B S wr w) (hb : Below w.heap.size w w') : SG F b cap n mv B S wr w':=by
 have hb' : Bx (fun _=>False) w w':=Bx.of hb
 exact ⟨MB.bx h.1 hb' h.2.2.1.out id,Lib.hid (h.2.1.out.bx hb' id),Lib.hid (Nat.lt_of_lt_of_le h.2.2.1.out hb.size),Lib.hid (h.2.2.2.out.trans (hb'.mono fun _ e=>e.elim))⟩
theorem SG.bx {F : Gf} {b cap n : Nat} {mv : Value} {B : Nat} {S : Nat → Prop} {wr w w' : World} (h : SG F b cap n mv B S wr w) (hb : Bx S w w') (hn : ¬ S B ∧ ¬ S b) : SG F b cap n mv B S wr w':=
 ⟨MB.bx h.1 hb h.2.2.1.out hn.1,Lib.hid (h.2.1.out.bx hb hn.2),Lib.hid (Nat.lt_of_lt_of_le h.2.2.1.out hb.size),Lib.hid (h.2.2.2.out.trans hb)⟩
theorem SG.set {F : Gf} {b cap n : Nat} {mv : Value} {B r t : Nat} {S : Nat → Prop} {wr w : World} (h : SG F b cap n mv B S wr w) (hn : ¬ S B ∧ ¬ S b) (hr : S r) (x : Value) : SG F b cap n mv B S wr (w.setCell ⟨r,t,none⟩ x):=SG.bx h (Bx.set hr x) hn
def mulK (F : Gf) (A : List Nat) (v k : Nat) : List Nat:=(List.range A.length).map fun j=>if j < k then F.mul (A.getD j 0) v else A.getD j 0
theorem mulK_len (F : Gf) (A : List Nat) (v k : Nat) : (mulK F A v k).length = A.length:=by simp [mulK]
theorem mulK_get {F : Gf} {A : List Nat} {v k j : Nat} (hj : j < A.length) : (mulK F A v k).getD j 0 = if j < k then F.mul (A.getD j 0) v else A.getD j 0:=by
 unfold mulK
 rw [List.getD_eq_getElem?_getD,List.getElem?_map,List.getElem?_range hj]; rfl
theorem mulK_zero (F : Gf) (A : List Nat) (v : Nat) : mulK F A v 0 = A:=getDx (mulK_len _ _ _ _) fun j hj=>by
 rw [mulK_len] at hj
 rw [mulK_get hj,if_neg (by omega)]
theorem mulK_succ {F : Gf} {A : List Nat} {v k : Nat} (hk : k < A.length) : (mulK F A v k).set k (F.mul (A.getD k 0) v) = mulK F A v (k + 1):=by
 refine getDx (by rw [List.length_set,mulK_len,mulK_len]) fun j hj=>?_
 rw [List.length_set,mulK_len] at hj
 rw [List.getD_eq_getElem?_getD,List.getElem?_set]
 by_cases e : k = j
 ·subst e
  rw [if_pos rfl,if_pos (by rw [mulK_len]; exact hk),mulK_get hk,if_pos (by omega)]; rfl
 ·rw [if_neg e,← List.getD_eq_getElem?_getD,mulK_get hj,mulK_get hj]
  by_cases h : j < k
  ·rw [if_pos h,if_pos (by omega)]
  ·rw [if_neg h,if_neg (by omega)]
theorem Rw.cellK {F : Gf} {A : List Nat} {v k r : Nat} {w : World} (h : Rw (mulK F A v k) r w) (hk : k < A.length) : w.cell? ⟨r,k,none⟩ = some (.int .i64 (A.getD k 0 : Nat)):=by
 rw [h.cell k (by rw [mulK_len]; exact hk),mulK_get hk,if_neg (by omega)]
def uL (F : Gf) (M : List (List Nat)) (a c : Nat) : List Nat:=mulK F (M.getD a []) (F.inv ((M.getD a []).getD c 0)) (M.getD a []).length
theorem mulK_in {F : Gf} (hF : Ok F) {A : List Nat} (hA : In F A) (v k : Nat) : In F (mulK F A v k):=fun x hx=>by
 obtain ⟨j,_,rfl⟩:=List.mem_map.1 hx
 split
 ·exact hF.mul_lt _ _
 ·exact hA.get hF j
theorem uL_in {F : Gf} (hF : Ok F) {M : List (List Nat)} {a c : Nat} (h : In F (M.getD a [])) : In F (uL F M a c):=mulK_in hF h _ _
def isoK (F : Gf) (M : List (List Nat)) (a c i : Nat) : List (List Nat):=(List.range M.length).map fun k=>if k = a then uL F M a c else if k < i then subK F ((M.getD k []).getD c 0) (M.getD k []) (uL F M a c) (M.getD k []).length else M.getD k []
theorem isoK_len (F : Gf) (M : List (List Nat)) (a c i : Nat) : (isoK F M a c i).length = M.length:=by simp [isoK]
theorem isoK_get {F : Gf} {M : List (List Nat)} {a c i k : Nat} (hk : k < M.length) : (isoK F M a c i).getD k [] = if k = a then uL F M a c else if k < i then subK F ((M.getD k []).getD c 0) (M.getD k []) (uL F M a c) (M.getD k []).length else M.getD k []:=by
 unfold isoK
 rw [List.getD_eq_getElem?_getD,List.getElem?_map,List.getElem?_range hk]; rfl
theorem getDm {a b : List (List Nat)} (hl : a.length = b.length) (h : ∀ j,j < a.length → a.getD j [] = b.getD j []) : a = b:=by
 apply List.ext_getElem hl
 intro i h1 h2
 have:=h i h1
 rwa [List.getD_eq_getElem?_getD,List.getD_eq_getElem?_getD,List.getElem?_eq_getElem h1,List.getElem?_eq_getElem h2] at this
theorem set_get {M : List (List Nat)} {a k : Nat} {u : List Nat} (hk : k < M.length) : (M.set a u).getD k [] = if k = a then u else M.getD k []:=by
 rw [List.getD_eq_getElem?_getD,List.getElem?_set]
 by_cases e : a = k
 ·subst e; simp [hk]
 ·rw [if_neg e,if_neg (fun h=>e h.symm),List.getD_eq_getElem?_getD]
theorem isoK_zero {F : Gf} {M : List (List Nat)} {a c : Nat} (ha : True) : isoK F M a c 0 = M.set a (uL F M a c):=getDm (by rw [isoK_len,List.length_set]) fun k hk=>by
 rw [isoK_len] at hk
 rw [isoK_get hk,set_get hk]
 by_cases e : k = a
 ·rw [if_pos e,if_pos e]
 ·rw [if_neg e,if_neg e,if_neg (by omega)]
theorem isoK_skip {F : Gf} {M : List (List Nat)} {a c k : Nat} (h : k = a) : isoK F M a c (k + 1) = isoK F M a c k:=getDm (by rw [isoK_len,isoK_len]) fun j hj=>by
 rw [isoK_len] at hj
 rw [isoK_get hj,isoK_get hj]
 by_cases e : j = a
 ·rw [if_pos e,if_pos e]
 ·rw [if_neg e,if_neg e]
  by_cases h2 : j < k
  ·rw [if_pos h2,if_pos (by omega)]
  ·rw [if_neg h2,if_neg (by omega)]
theorem isoK_set {F : Gf} {M : List (List Nat)} {a c k : Nat} (hk : k < M.length) (h : k ≠ a) : (isoK F M a c k).set k (subK F ((M.getD k []).getD c 0) (M.getD k []) (uL F M a c) (M.getD k []).length) = isoK F M a c (k + 1):=getDm (by rw [List.length_set,isoK_len,isoK_len]) fun j hj=>by
 rw [List.length_set,isoK_len] at hj
 rw [set_get (by rw [isoK_len]; exact hj),isoK_get hj,isoK_get hj]
 by_cases e : j = k
 ·subst e; rw [if_pos rfl,if_neg h,if_pos (by omega)]
 ·rw [if_neg e]
  by_cases e2 : j = a
  ·rw [if_pos e2,if_pos e2]
  ·rw [if_neg e2,if_neg e2]
   by_cases h2 : j < k
   ·rw [if_pos h2,if_pos (by omega)]
   ·rw [if_neg h2,if_neg (by omega)]
theorem OM.upd {M : List (List Nat)} {g n : Nat} {rs : List Nat} {w w' : World} (h : OM M g rs n w) {i : Nat} (hi : i < M.length) {A : List Nat} (hr : Rw A (rs.getD i 0) w') (hb : Bx (fun k=>k = rs.getD i 0) w w') (hA : A.length = n) : OM (M.set i A) g rs n w':=by
 have hg : g ≠ rs.getD i 0:=fun e=>h.ng i hi e.symm
 refine ⟨Nat.lt_of_lt_of_le h.glt hb.size,by rw [List.length_set]; exact h.len,fun k hk=>?_,fun t=>(World.frozen?_of_block (w:=w) (hb.block g h.glt hg)).trans (h.gfz t),fun k hk=>?_,fun k hk=>?_,fun k hk l hl e=>?_,fun k hk=>?_⟩
 ·rw [List.length_set] at hk; exact (hb.cell h.glt hg).trans (h.row k hk)
 ·rw [List.length_set] at hk
  rw [set_get hk]
  by_cases e : k = i
  ·rw [if_pos e,e]; exact hr
  ·rw [if_neg e]; exact (h.rw' k hk).bx hb (h.nd k hk i hi e)
 ·rw [List.length_set] at hk
  rw [set_get hk]
  by_cases e : k = i
  ·rw [if_pos e]; exact hA
  ·rw [if_neg e]; exact h.wid k hk
 ·rw [List.length_set] at hk hl; exact h.nd k hk l hl e
 ·rw [List.length_set] at hk; exact h.ng k hk
set_option maxHeartbeats 12800000 in
theorem isolate_c {F : Gf} {b cap n at' col c : Nat} {M : List (List Nat)} {g : Nat} {rs : List Nat} {W : World} (hA : FldAt F b cap W) (hi : ∀ i,i < M.length → In F (M.getD i [])) (hn : n ≤ 1000) (hl : M.length ≤ 1000) (hc : col < n) (ha : at' < M.length)
  (h0 : (M.getD at' []).getD col 0 ≠ 0) (h : OM M g rs n W) (hb : ∀ i,i < M.length → b ≠ rs.getD i 0) :
  Calls Try.prog 97 #[MV F b cap n (.slice (some ⟨g,0,none⟩) M.length c),.int .i64 (at' : Nat),.int .i64 (col : Nat)] W fun e w'=>e = .returned (.tuple #[]) ∧ OM (isoK F M at' col M.length) g rs n w' ∧ Bx (fun j=>∃ i,i < M.length ∧ j = rs.getD i 0) W w':=by
 have HFF : Hid (Ok F):=Lib.hid (ok_mem hA.mem)
 have HAE : Hid True:=Lib.hid trivial
 have HLA:=Lib.hid ha
 have HI:=Lib.hid hi
 have HBR:=Lib.hid hb
 have ha0 : Below W.heap.size W (W.alloc (.cells #[.int .i64 F.p,.int .i64 F.e,FM F b cap,.int .i64 (n : Nat),(.slice (some ⟨g,0,none⟩) M.length c)] 79)):=(Below.refl _ _).alloc (Nat.le_refl _) _
 have HXW : Hid (Bx (fun j=>∃ i,i < M.length ∧ j = rs.getD i 0) W (W.alloc (.cells #[.int .i64 F.p,.int .i64 F.e,FM F b cap,.int .i64 (n : Nat),(.slice (some ⟨g,0,none⟩) M.length c)] 79))):=Lib.hid (Bx.of ha0)
 have HXN : Hid (Bx (fun _=>False) W (W.alloc (.cells #[.int .i64 F.p,.int .i64 F.e,FM F b cap,.int .i64 (n : Nat),(.slice (some ⟨g,0,none⟩) M.length c)] 79))):=Lib.hid (Bx.of ha0)
 have HB0 : Hid (MB W.heap.size F b cap n (.slice (some ⟨g,0,none⟩) M.length c) (W.alloc (.cells #[.int .i64 F.p,.int .i64 F.e,FM F b cap,.int .i64 (n : Nat),(.slice (some ⟨g,0,none⟩) M.length c)] 79))):=Lib.hid ⟨World.cell?_alloc_at _ _ _ _ rfl,World.cell?_alloc_at _ _ _ _ rfl,World.cell?_alloc_at _ _ _ _ rfl,World.cell?_alloc_at _ _ _ _ rfl,World.cell?_alloc_at _ _ _ _ rfl⟩
 have HS0 : Hid (W.heap.size < (W.alloc (.cells #[.int .i64 F.p,.int .i64 F.e,FM F b cap,.int .i64 (n : Nat),(.slice (some ⟨g,0,none⟩) M.length c)] 79)).heap.size):=Lib.hid (by simp)
 have HF0:=Lib.hid (hA.below ha0)
 have HM1:=Lib.hid (h.bx HXN.out id fun _ _=>id)
 have HWS : Hid (¬ ∃ i,i < M.length ∧ W.heap.size = rs.getD i 0):=Lib.hid (by rintro ⟨i,hi,e⟩; have:=(h.rw' i hi).lt; omega)
 obtain ⟨ra,hra⟩ : ∃ r,Hid (rs.getD at' 0 = r):=⟨_,rfl⟩
 have HRE:=Lib.hid hra.out
 obtain ⟨A,hAA⟩ : ∃ l,Hid (M.getD at' [] = l):=⟨_,rfl⟩
 have HLN : Hid (A.length = n):=Lib.hid (by rw [← hAA.out]; exact h.wid at' ha)
 have HIA : Hid (In F A):=Lib.hid (by rw [← hAA.out]; exact hi at' ha)
 have HRA : Hid (Rw A ra (W.alloc (.cells #[.int .i64 F.p,.int .i64 F.e,FM F b cap,.int .i64 (n : Nat),(.slice (some ⟨g,0,none⟩) M.length c)] 79))):=Lib.hid (by rw [← hAA.out,← hra.out]; exact HM1.out.rw' at' ha)
 have HWA : Hid (¬ W.heap.size = ra ∧ ¬ b = ra):=Lib.hid ⟨fun e=>HWS.out ⟨at',ha,by rw [hra.out]; exact e⟩,by rw [← hra.out]; exact hb at' ha⟩
 have HLU : Hid ((uL F M at' col).length = n):=Lib.hid (by unfold uL; rw [mulK_len]; exact h.wid at' ha)
 obtain ⟨xx,hxx⟩ : ∃ x,Hid (A.getD col 0 = x):=⟨_,rfl⟩
 have HX : Hid (xx < F.q):=Lib.hid (by rw [← hxx.out]; exact HIA.out.get HFF.out col)
 have HX0 : Hid (xx ≠ 0):=Lib.hid (by rw [← hxx.out,← hAA.out]; exact h0)
 have HIV : Hid (F.inv xx < F.q):=Lib.hid (HFF.out.inv_lt _)
 have HUE : Hid (mulK F A (F.inv xx) n = uL F M at' col):=Lib.hid (by unfold uL; rw [hAA.out,hxx.out,HLN.out])
 have hca : (W.alloc (.cells #[.int .i64 F.p,.int .i64 F.e,FM F b cap,.int .i64 (n : Nat),(.slice (some ⟨g,0,none⟩) M.length c)] 79)).cell? ⟨g,at',none⟩ = some (.slice (some ⟨ra,0,none⟩) n n):=by rw [← hra.out]; exact HM1.out.row at' ha
 have hcx : (W.alloc (.cells #[.int .i64 F.p,.int .i64 F.e,FM F b cap,.int .i64 (n : Nat),(.slice (some ⟨g,0,none⟩) M.length c)] 79)).cell? ⟨ra,col,none⟩ = some (.int .i64 (xx : Nat)):=by rw [← hxx.out]; exact HRA.out.cell col (by rw [HLN.out]; exact hc)
 have hS0 : SG F b cap n (.slice (some ⟨g,0,none⟩) M.length c) W.heap.size (fun _=>False) (W.alloc (.cells #[.int .i64 F.p,.int .i64 F.e,FM F b cap,.int .i64 (n : Nat),(.slice (some ⟨g,0,none⟩) M.length c)] 79)) (W.alloc (.cells #[.int .i64 F.p,.int .i64 F.e,FM F b cap,.int .i64 (n : Nat),(.slice (some ⟨g,0,none⟩) M.length c)] 79)).drew ∧ (W.alloc (.cells #[.int .i64 F.p,.int .i64 F.e,FM F b cap,.int .i64 (n : Nat),(.slice (some ⟨g,0,none⟩) M.length c)] 79)).drew.cell? ⟨ra,col,none⟩ = some (.int .i64 (xx : Nat)):=⟨⟨⟨World.cell?_alloc_at _ _ _ _ rfl,World.cell?_alloc_at _ _ _ _ rfl,World.cell?_alloc_at _ _ _ _ rfl,World.cell?_alloc_at _ _ _ _ rfl,World.cell?_alloc_at _ _ _ _ rfl⟩,Lib.hid (HF0.out.bx (Bx.refl (fun _=>False) _).drew id),Lib.hid HS0.out,Lib.hid (Bx.refl _ _).drew⟩,hcx⟩
 have HRL : Hid (∀ {w w' : World},Below w.heap.size w w' → Bx (fun _=>False) (W.alloc (.cells #[.int .i64 F.p,.int .i64 F.e,FM F b cap,.int .i64 (n : Nat),(.slice (some ⟨g,0,none⟩) M.length c)] 79)) w → w'.cell? ⟨ra,col,none⟩ = w.cell? ⟨ra,col,none⟩):=Lib.hid fun hb hx=>hb.cell (Nat.lt_of_lt_of_le HRA.out.lt hx.size)
 clear hA hi hb ha0 h0 h
 go_enter Try.func97,Try.ntmps97
 go_wp2_with fail
 refine wp_region_held_drew (S:=fun w'=>SG F b cap n (.slice (some ⟨g,0,none⟩) M.length c) W.heap.size (fun _=>False) (W.alloc (.cells #[.int .i64 F.p,.int .i64 F.e,FM F b cap,.int .i64 (n : Nat),(.slice (some ⟨g,0,none⟩) M.length c)] 79)) w' ∧ w'.cell? ⟨ra,col,none⟩ = some (.int .i64 (xx : Nat))) (by kernel_rfl) (by with_reducible exact hS0) (fun hHeld=>?_)
 refine Rg.tk 0 ⟨some 19,.fieldAddr 79 (.tmp 3) 0,0,"matrix.go:73",#[],none⟩ ?_
 try simp only [Rg.gp]
 refine Rg.tk 1 ⟨some 20,.load 29 (.tmp 19),29,"matrix.go:73",#[⟨0,.data⟩],none⟩ ?_
 try simp only [Rg.gp]
 refine Rg.tk 2 ⟨some 21,.move (.tmp 6),27,"matrix.go:73",#[],none⟩ ?_
 try simp only [Rg.gp]
 refine Rg.tk 3 ⟨some 22,.move (.tmp 2),3,"matrix.go:73",#[],none⟩ ?_
 try simp only [Rg.gp]
 refine Rg.tk 4 ⟨some 23,.indexAddr 27 (.tmp 21) (.tmp 22),0,"matrix.go:73",#[⟨2,.data⟩,⟨3,.data⟩],none⟩ ?_
 try simp only [Rg.gp]
 refine Rg.tk 5 ⟨some 24,.load 3 (.tmp 23),3,"matrix.go:73",#[⟨4,.data⟩],none⟩ ?_
 try simp only [Rg.gp]
 refine Rg.rd1 6 ⟨some 25,.call ⟨.value (.func 102),#[.tmp 20,.tmp 24],#[29,3]⟩,97,"matrix.go:73",#[⟨1,.data⟩,⟨5,.data⟩],none⟩ fun K hK=>?_
 go_simp
 go_at_call 102
 with_reducible refine (finv_c HX.out HX0.out hHeld.1.2.1.out).mono ?_
 rintro z v1 ⟨rfl,hb3⟩
 refine hK.out _ _ ?_ (fun hHeld=>?_)
 ·(try dsimp only)
  exact ⟨SG.keep hHeld.1 hb3,(HRL.out hb3 hHeld.1.2.2.2.out).trans hHeld.2⟩
 clear hK K
 try simp only [Rg.gp]
 refine Rg.tk 7 ⟨some 18,.move (.tmp 25),97,"matrix.go:73",#[⟨6,.data⟩],none⟩ ?_
 try simp only [Rg.gp]
 refine Rg.tk 8 ⟨some 26,.extract (.tmp 18) 0,3,"matrix.go:73",#[⟨7,.data⟩],none⟩ ?_
 try simp only [Rg.gp]
 refine Rg.tk 9 ⟨some 27,.extract (.tmp 18) 1,44,"matrix.go:73",#[⟨7,.data⟩,⟨10,.gcOnly Go.Departure.lateStores⟩],none⟩ ?_
 try simp only [Rg.gp]
 refine Rg.tk 10 ⟨some 7,.assign (.tmp 26),3,"matrix.go:73",#[⟨8,.data⟩,⟨6,.chain⟩,⟨0,.phase⟩,⟨1,.phase⟩,⟨2,.phase⟩,⟨3,.phase⟩,⟨4,.phase⟩,⟨5,.phase⟩,⟨6,.phase⟩,⟨7,.phase⟩,⟨8,.phase⟩,⟨9,.textOnly Go.Departure.lateStores⟩],none⟩ ?_
 try simp only [Rg.gp]
 refine Rg.tk 11 ⟨some 8,.assign (.tmp 27),44,"matrix.go:73",#[⟨9,.data⟩,⟨10,.chain⟩,⟨0,.phase⟩,⟨1,.phase⟩,⟨2,.phase⟩,⟨3,.phase⟩,⟨4,.phase⟩,⟨5,.phase⟩,⟨6,.phase⟩,⟨7,.phase⟩,⟨8,.phase⟩,⟨9,.phase⟩,⟨10,.phase⟩],none⟩ ?_
 try simp only [Rg.gp]
 refine wpAnyH_done (by kernel_rfl) ?_ _
 have HB2:=Lib.hid hHeld.1.2.2.2.out
 have HF2:=Lib.hid hHeld.1.2.1.out
 have HR2 : Hid (Rw (mulK F A (F.inv xx) 0) ra v1):=Lib.hid (by rw [mulK_zero]; exact HRA.out.bx HB2.out id)
 clear hHeld hS0
 go_wp2
 go_loopw [30] (fun i wr=>∃ k : Nat,k ≤ n ∧ i = .int .i64 k ∧ Hid (Rw (mulK F A (F.inv xx) k) ra wr) ∧ Hid (Bx (fun j=>j = ra) (W.alloc (.cells #[.int .i64 F.p,.int .i64 F.e,FM F b cap,.int .i64 (n : Nat),(.slice (some ⟨g,0,none⟩) M.length c)] 79)) wr) ∧ Hid (FldAt F b cap wr)) (fun i _=>n - (intOf i).toNat)
 case atStart=>exact ⟨0,Nat.zero_le _,rfl,HR2,Lib.hid (HB2.out.mono fun _ e=>e.elim),HF2⟩
 case round =>
  obtain ⟨k,hk,rfl,KR,KB,KF⟩:=hrel
  obtain ⟨x0,x1,x2,x3,x4⟩:=MB.bx HB0.out KB.out HS0.out HWA.out.1
  by_cases hlt : k < n
  ·have HKN : Hid (k < A.length):=Lib.hid (by rw [HLN.out]; exact hlt)
   obtain ⟨yy,hyy⟩ : ∃ x,Hid (A.getD k 0 = x):=⟨_,rfl⟩
   have HYQ : Hid (yy < F.q):=Lib.hid (by rw [← hyy.out]; exact HIA.out.get HFF.out k)
   have hcY : wr.cell? ⟨ra,k,none⟩ = some (.int .i64 (yy : Nat)):=by rw [← hyy.out]; exact KR.out.cellK HKN.out
   go_wp2_with fail
   with_reducible refine (fmul_c HYQ.out HIV.out KF.out).mono ?_
   rintro z v1 ⟨rfl,hb3⟩
   have HR1:=Lib.hid (KR.out.below hb3)
   have hc1 : v1.cell? ⟨ra,k,none⟩ = some (.int .i64 (yy : Nat)):=by rw [← hyy.out]; exact HR1.out.cellK HKN.out
   have hf1 : v1.frozen? ⟨ra,k,none⟩ = false:=HR1.out.fz k
   have HR3:=Lib.hid (HR1.out.set k (F.mul yy (F.inv xx)) trivial)
   have HB3 : Hid (Bx (fun j=>j = ra) (W.alloc (.cells #[.int .i64 F.p,.int .i64 F.e,FM F b cap,.int .i64 (n : Nat),(.slice (some ⟨g,0,none⟩) M.length c)] 79)) (v1.setCell ⟨ra,k,none⟩ (.int .i64 (F.mul yy (F.inv xx) : Nat)))):=Lib.hid ((KB.out.trans (Bx.of hb3)).trans (Bx.set (S:=fun j=>j = ra) rfl _))
   have HF3 : Hid (FldAt F b cap (v1.setCell ⟨ra,k,none⟩ (.int .i64 (F.mul yy (F.inv xx) : Nat)))):=Lib.hid ((KF.out.below hb3).bx (Bx.set (S:=fun j=>j = ra) rfl _) HWA.out.2)
   clear hb3
   go_wp2
   go_roundw
   case rel=>exact ⟨k + 1,by omega,by go_num,by rw [← mulK_succ HKN.out,hyy.out]; exact HR3,HB3,HF3⟩
   case measure=>simp [intOf]; omega
  ·have HE : Hid (k = n):=Lib.hid (by omega)
   have hlt1 : ¬ (k : Int) < (n : Int):=by omega
   have HRU : Hid (Rw (uL F M at' col) ra wr):=Lib.hid (by rw [← HUE.out,← HE.out]; exact KR.out)
   have HO0 : Hid (OM (isoK F M at' col 0) g rs n wr):=Lib.hid (by
    have e:=HM1.out.upd HLA.out (by rw [HRE.out]; exact HRU.out) (by rw [HRE.out]; exact KB.out) HLU.out
    rw [isoK_zero HAE.out]; exact e)
   have KB9 : Hid (Bx (fun j=>∃ i,i < M.length ∧ j = rs.getD i 0) (W.alloc (.cells #[.int .i64 F.p,.int .i64 F.e,FM F b cap,.int .i64 (n : Nat),(.slice (some ⟨g,0,none⟩) M.length c)] 79)) wr):=Lib.hid (KB.out.mono fun j e=>⟨at',HLA.out,by rw [e]; exact HRE.out.symm⟩)
   have KF9:=KF
   clear KR KB KF
   go_wp2
   go_loopw [47] (fun i wr=>∃ k : Nat,k ≤ M.length ∧ i = .int .i64 k ∧ Hid (OM (isoK F M at' col k) g rs n wr) ∧ Hid (Bx (fun j=>∃ i,i < M.length ∧ j = rs.getD i 0) (W.alloc (.cells #[.int .i64 F.p,.int .i64 F.e,FM F b cap,.int .i64 (n : Nat),(.slice (some ⟨g,0,none⟩) M.length c)] 79)) wr) ∧ Hid (FldAt F b cap wr)) (fun i _=>M.length - (intOf i).toNat)
   case atStart=>exact ⟨0,Nat.zero_le _,rfl,HO0,KB9,KF9⟩
   case round =>
    obtain ⟨k,hk,rfl,KO,KB,KF⟩:=hrel
    clear x0 x1 x2 x3 x4
    obtain ⟨x0,x1,x2,x3,x4⟩:=MB.bx HB0.out KB.out HS0.out HWS.out
    by_cases hlt : k < M.length
    ·obtain ⟨rk,hrk⟩ : ∃ r,Hid (rs.getD k 0 = r):=⟨_,rfl⟩
     have HRR:=Lib.hid hrk.out
     have hck : wr.cell? ⟨g,k,none⟩ = some (.slice (some ⟨rk,0,none⟩) n n):=by rw [← hrk.out]; exact KO.out.row k (by rw [isoK_len]; exact hlt)
     have hk5 : k < 1000:=by omega
     by_cases hka : k = at'
     ·have hka1 : ((k : Int) != (at' : Int)) = false:=by simp [hka]
      have HKA:=Lib.hid hka
      clear hka
      go_wp2
      go_roundw
      case rel=>exact ⟨k + 1,by omega,by go_num,by rw [isoK_skip HKA.out]; exact KO,KB,KF⟩
      case measure=>simp [intOf]; omega
     ·have hka1 : ((k : Int) != (at' : Int)) = true:=by simp; omega
      have HKA:=Lib.hid hka
      have HLT:=Lib.hid hlt
      have HLI : Hid (k < (isoK F M at' col k).length):=Lib.hid (by rw [isoK_len]; exact hlt)
      obtain ⟨L,hLL⟩ : ∃ l,Hid (M.getD k [] = l):=⟨_,rfl⟩
      have HLK : Hid (L.length = n):=Lib.hid (by rw [← hLL.out]; exact HM1.out.wid k hlt)
      have HIK : Hid (In F L):=Lib.hid (by rw [← hLL.out]; exact HI.out k hlt)
      obtain ⟨yy,hyy⟩ : ∃ x,Hid (L.getD col 0 = x):=⟨_,rfl⟩
      have HYQ : Hid (yy < F.q):=Lib.hid (by rw [← hyy.out]; exact HIK.out.get HFF.out col)
      have HIKe : Hid ((isoK F M at' col k).getD k [] = L):=Lib.hid (by rw [isoK_get hlt,if_neg hka,if_neg (by omega)]; exact hLL.out)
      have HRK : Hid (Rw L rk wr.drew):=Lib.hid (by rw [← HIKe.out,← hrk.out]; exact (KO.out.rw' k HLI.out).drew)
      have hcy : wr.drew.cell? ⟨rk,col,none⟩ = some (.int .i64 (yy : Nat)):=by rw [← hyy.out]; exact HRK.out.cell col (by rw [HLK.out]; exact hc)
      have HIU : Hid (In F (uL F M at' col)):=Lib.hid (uL_in HFF.out (by rw [hAA.out]; exact HIA.out))
      have HNU : Hid (NN (uL F M at' col) wr.drew (.slice (some ⟨ra,0,none⟩) n n)):=Lib.hid (by
       have h:=KO.out.rw' at' (by rw [isoK_len]; exact HLA.out)
       rw [isoK_get HLA.out,if_pos rfl,HRE.out] at h
       exact .inr ⟨ra,0,n,by rw [HLU.out],by rw [HLU.out]; exact Nat.le_refl _,h.lt,fun t ht=>by rw [Nat.zero_add]; exact h.cell t ht⟩)
      have HBK : Hid (b ≠ rk):=Lib.hid (by rw [← hrk.out]; exact HBR.out k hlt)
      have HRA2 : Hid (ra ≠ rk):=Lib.hid (by rw [← hrk.out,← HRE.out]; exact HM1.out.nd at' HLA.out k hlt fun e=>hka e.symm)
      have HWK : Hid (¬ W.heap.size = rk ∧ ¬ b = rk):=Lib.hid ⟨fun e=>HWS.out ⟨k,hlt,by rw [hrk.out]; exact e⟩,HBK.out⟩
      have HSS : Hid (∀ j,j = rk → ∃ i,i < M.length ∧ j = rs.getD i 0):=Lib.hid (fun j e=>⟨k,hlt,by rw [e]; exact hrk.out.symm⟩)
      have HMd : Hid (OM (isoK F M at' col k) g rs n wr.drew):=Lib.hid (KO.out.bx (Bx.refl (fun _=>False) wr).drew id fun _ _=>id)
      have hS0 : SG F b cap n (.slice (some ⟨g,0,none⟩) M.length c) W.heap.size (fun j=>j = rk) wr wr.drew:=⟨⟨x0,x1,x2,x3,x4⟩,Lib.hid (KF.out.bx (Bx.refl (fun _=>False) wr).drew id),Lib.hid (Nat.lt_of_lt_of_le HS0.out KB.out.size),Lib.hid (Bx.refl _ _).drew⟩
      clear hka
      go_wp2_with fail
      refine wp_region_held_drew (S:=fun w'=>SG F b cap n (.slice (some ⟨g,0,none⟩) M.length c) W.heap.size (fun j=>j = rk) wr w') (by kernel_rfl) (by with_reducible exact hS0) (fun hHeld=>?_)
      refine Rg.tk 0 ⟨some 55,.load 79 (.tmp 3),79,"matrix.go:79",#[],none⟩ ?_
      try simp only [Rg.gp]
      refine Rg.tk 1 ⟨some 56,.move (.tmp 12),27,"matrix.go:79",#[],none⟩ ?_
      try simp only [Rg.gp]
      refine Rg.tk 2 ⟨some 57,.move (.tmp 12),27,"matrix.go:79",#[],none⟩ ?_
      try simp only [Rg.gp]
      refine Rg.tk 3 ⟨some 58,.move (.tmp 2),3,"matrix.go:79",#[],none⟩ ?_
      try simp only [Rg.gp]
      refine Rg.tk 4 ⟨some 59,.indexAddr 27 (.tmp 57) (.tmp 58),0,"matrix.go:79",#[⟨2,.data⟩,⟨3,.data⟩],none⟩ ?_
      try simp only [Rg.gp]
      refine Rg.tk 6 ⟨some 61,.move (.tmp 6),27,"matrix.go:79",#[],none⟩ ?_
      try simp only [Rg.gp]
      refine Rg.rd1 5 ⟨some 60,.load 3 (.tmp 59),3,"matrix.go:79",#[⟨4,.data⟩],none⟩ fun K hK=>?_
      go_simp
      refine hK.out _ _ ?_ (fun hHeld=>?_)
      ·(try dsimp only)
       exact hHeld
      clear hK K
      try simp only [Rg.gp]
      refine Rg.rd1 7 ⟨some 62,.call ⟨.value (.func 60),#[.tmp 55,.tmp 56,.tmp 60,.tmp 61],#[79,27,3,27]⟩,0,"matrix.go:79",#[⟨0,.data⟩,⟨1,.data⟩,⟨5,.data⟩,⟨6,.data⟩],none⟩ fun K hK=>?_
      go_simp
      go_at_call 60
      with_reducible refine (subtract_c hHeld.2.1.out HIK.out HIU.out HYQ.out rfl HLK.out HLU.out hn HRK.out HNU.out HBK.out HRA2.out).mono ?_
      rintro z v1 ⟨rfl,hrw,hbx⟩
      have HRW:=Lib.hid hrw
      have HBX:=Lib.hid hbx
      clear hrw
      refine hK.out _ _ ?_ (fun hHeld=>?_)
      ·(try dsimp only)
       exact SG.bx hHeld HBX.out HWK.out
      clear hK K
      try simp only [Rg.gp]
      refine wpAnyH_done (by kernel_rfl) ?_ _
      have HO3:=Lib.hid (HMd.out.upd HLI.out (by rw [hrk.out]; exact HRW.out) (by rw [hrk.out]; exact HBX.out) (by rw [subK_len]; exact HLK.out))
      have HB3:=Lib.hid (KB.out.trans (hHeld.2.2.2.out.mono HSS.out))
      have HF3:=Lib.hid hHeld.2.1.out
      clear hHeld hS0
      go_wp2
      go_roundw
      case rel=>exact ⟨k + 1,by omega,by go_num,by rw [← isoK_set HLT.out HKA.out,hLL.out,hyy.out,HLK.out]; exact HO3,HB3,HF3⟩
      case measure=>simp [intOf]; omega
    ·have HE : Hid (k = M.length):=Lib.hid (by omega)
     have hlt1 : ¬ (k : Int) < (M.length : Int):=by omega
     have HRF : Hid (OM (isoK F M at' col M.length) g rs n wr):=Lib.hid (by rw [← HE.out]; exact KO.out)
     have HBF:=Lib.hid (HXW.out.trans KB.out)
     clear HE
     go_wp2
     go_end0
     exact ⟨rfl,HRF.out,HBF.out⟩
theorem mulK_fn {F : Gf} {A : List Nat} {v n : Nat} (hn : A.length = n) : fn (mulK F A v n) = ps F v (fn A):=funext fun j=>by
 show (mulK F A v n).getD j 0 = F.mul v (A.getD j 0)
 by_cases h : j < A.length
 ·rw [mulK_get h,if_pos (by omega),Ok.mul_comm]
 ·rw [List.getD_eq_getElem?_getD,List.getElem?_eq_none (by rw [mulK_len]; omega),List.getD_eq_getElem?_getD,List.getElem?_eq_none (by omega)]
  show 0 = F.mul v 0
  rw [Ok.mul_z]
theorem subK_fn {F : Gf} (hF : Ok F) {A Y : List Nat} {c n : Nat} (hc : c < F.q) (hY : In F Y) (hn : A.length = n) (hl : Y.length = n) : fn (subK F c A Y n) = mns F (fn A) c (fn Y):=funext fun j=>by
 show (subK F c A Y n).getD j 0 = F.add (A.getD j 0) (F.mul (F.neg c) (Y.getD j 0))
 by_cases h : j < A.length
 ·rw [subK_get h,if_pos (by omega)]
  show F.add _ (F.neg _) = _
  rw [Ok.mul_comm (F.neg c),mul_neg hF hc,Ok.mul_comm (Y.getD j 0)]
 ·have e1 : A.getD j 0 = 0:=by rw [List.getD_eq_getElem?_getD,List.getElem?_eq_none (by omega)]; rfl
  have e2 : Y.getD j 0 = 0:=by rw [List.getD_eq_getElem?_getD,List.getElem?_eq_none (by omega)]; rfl
  rw [e1,e2,Ok.mul_z,hF.add_zero hF.zero_lt,List.getD_eq_getElem?_getD,List.getElem?_eq_none (by rw [subK_len]; omega)]; rfl
theorem map_fn_get {M : List (List Nat)} {k : Nat} : (M.map fn).getD k pz = fn (M.getD k []):=by
 rw [List.getD_eq_getElem?_getD,List.getElem?_map,List.getD_eq_getElem?_getD]
 cases M[k]? <;> rfl
theorem swg_fn (M : List (List Nat)) (a i : Nat) : (swg [] M a i).map fn = swp (M.map fn) a i:=by
 unfold swg swp
 rw [List.map_set,List.map_set,map_fn_get,map_fn_get]
theorem uL_fn {F : Gf} {M : List (List Nat)} {a c : Nat} : fn (uL F M a c) = rowU F (M.map fn) a c:=by
 unfold uL rowU
 rw [mulK_fn rfl,map_fn_get]
 rfl
theorem isoK_fn {F : Gf} (hF : Ok F) {M : List (List Nat)} {a c n : Nat} (h : Mn F n M) (ha : a < M.length) : (isoK F M a c M.length).map fn = iso F (M.map fn) a c:=by
 refine getD_ext' (by rw [List.length_map,isoK_len,iso_len,List.length_map]) fun k hk=>?_
 rw [List.length_map,isoK_len] at hk
 have hv : ∀ i,i < M.length → Vn F n (M.getD i []):=fun i hi=>h _ (by rw [List.getD_eq_getElem?_getD,List.getElem?_eq_getElem hi]; exact List.getElem_mem hi)
 rw [map_fn_get,isoK_get hk,iso_at (by rw [List.length_map]; exact hk)]
 by_cases e : k = a
 ·rw [if_pos e,if_pos e,uL_fn]
 ·rw [if_neg e,if_neg e,if_pos hk,subK_fn hF ((hv k hk).el.get hF c) (uL_in hF (hv a ha).el) rfl,uL_fn,map_fn_get]
  ·rfl
  ·unfold uL; rw [mulK_len,(hv a ha).len,(hv k hk).len]
theorem isoK_mn {F : Gf} (hF : Ok F) {M : List (List Nat)} {a c n : Nat} (h : Mn F n M) (ha : a < M.length) (i : Nat) : Mn F n (isoK F M a c i):=fun r hr=>by
 obtain ⟨k,hk,rfl⟩:=List.mem_map.1 hr
 rw [List.mem_range] at hk
 have hv : ∀ i,i < M.length → Vn F n (M.getD i []):=fun i hi=>h _ (by rw [List.getD_eq_getElem?_getD,List.getElem?_eq_getElem hi]; exact List.getElem_mem hi)
 split
 ·exact ⟨by unfold uL; rw [mulK_len,(hv a ha).len],uL_in hF (hv a ha).el⟩
 ·split
  ·exact ⟨by rw [subK_len,(hv k hk).len],subK_in hF (hv k hk).el _⟩
  ·exact hv k hk
theorem swg_mn {F : Gf} {M : List (List Nat)} {a i n : Nat} (h : Mn F n M) (ha : a < M.length) (hi : i < M.length) : Mn F n (swg [] M a i):=fun r hr=>by
 have hv : ∀ i,i < M.length → Vn F n (M.getD i []):=fun i hi=>h _ (by rw [List.getD_eq_getElem?_getD,List.getElem?_eq_getElem hi]; exact List.getElem_mem hi)
 obtain ⟨k,hk,rfl⟩:=List.getElem_of_mem hr
 rw [swg_len] at hk
 have e : (swg [] M a i)[k] = (swg [] M a i).getD k []:=by rw [List.getD_eq_getElem?_getD,List.getElem?_eq_getElem (by rw [swg_len]; exact hk)]; rfl
 rw [e,swg_sw ha hi]
 exact hv _ (sw_lt ha hi hk)
end Go.Proofs.Yteeofijcndgbfaa
