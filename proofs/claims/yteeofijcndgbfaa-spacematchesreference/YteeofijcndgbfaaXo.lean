/- SpaceMatchesReference: the law's walk. -/
import Derived.Test.YteeofijcndgbfaaEvTk
import Derived.Test.YteeofijcndgbfaaXj
import Derived.Test.YteeofijcndgbfaaXm
import Derived.Test.YteeofijcndgbfaaTn
import Derived.Test.YteeofijcndgbfaaWd
namespace Go.Proofs.Yteeofijcndgbfaa
open Go.RowKit Go.Fl
set_option maxRecDepth 100000
set_option linter.unusedVariables false
set_option linter.unusedSimpArgs false
set_option linter.unusedSectionVars false
abbrev ZB5 (G z0 z1 z2 z3 z4 : Nat) (w : World) : Prop:=w.cell? ⟨G,0,none⟩ = some (.int .u8 (z0 : Nat)) ∧ w.cell? ⟨G,1,none⟩ = some (.int .u8 (z1 : Nat)) ∧ w.cell? ⟨G,2,none⟩ = some (.int .u8 (z2 : Nat)) ∧ w.cell? ⟨G,3,none⟩ = some (.int .u8 (z3 : Nat)) ∧ w.cell? ⟨G,4,none⟩ = some (.int .u8 (z4 : Nat)) ∧ G < w.heap.size
theorem ZB5.below {G z0 z1 z2 z3 z4 : Nat} {w w' : World} (h : ZB5 G z0 z1 z2 z3 z4 w) (hb : Below w.heap.size w w') : ZB5 G z0 z1 z2 z3 z4 w':=by
 obtain ⟨h0,h1,h2,h3,h5,h4⟩:=h
 exact ⟨(hb.cell (p:=⟨G,0,none⟩) h4).trans h0,(hb.cell (p:=⟨G,1,none⟩) h4).trans h1,(hb.cell (p:=⟨G,2,none⟩) h4).trans h2,(hb.cell (p:=⟨G,3,none⟩) h4).trans h3,(hb.cell (p:=⟨G,4,none⟩) h4).trans h5,Nat.lt_of_lt_of_le h4 hb.size⟩
def soX (s : Option (List Nat)) : List Nat:=s.getD []
def soE (s : Option (List Nat)) : Nat:=if s.isNone then 4 else 0
def SvU (X : List Nat) (E l : Nat) (W : World) (e : Ending) (w' : World) : Prop:=∃ a c,e = .returned (.agg #[.slice a l c,.int .i64 (E : Nat)]) ∧ NN X w' (.slice a l c) ∧ Below W.heap.size W w'
theorem SvP.u {s : Option (List Nat)} {X : List Nat} {E l : Nat} {W : World} {e : Ending} {w' : World} (h : SvP s W e w') (hX : soX s = X) (hE : soE s = E) (hl : X.length = l) : SvU X E l W e w':=by
 subst hX hE hl
 rcases h with ⟨rfl,h2,h3⟩ | ⟨x,a,c,rfl,h2,h3,h4⟩
 ·exact ⟨Option.none,0,h2,.inl ⟨rfl,rfl⟩,h3⟩
 ·exact ⟨a,c,h2,h3,h4⟩
def ivX (s : Option (List (List Nat))) : List (List Nat):=s.getD []
def ivE (s : Option (List (List Nat))) : Nat:=if s.isNone then 4 else 0
def IvU (X : List (List Nat)) (E l : Nat) (W : World) (e : Ending) (w' : World) : Prop:=∃ a c,e = .returned (.agg #[.slice a l c,.int .i64 (E : Nat)]) ∧ MM X w' (.slice a l c) ∧ Below W.heap.size W w'
theorem IvP.u {s : Option (List (List Nat))} {X : List (List Nat)} {E l : Nat} {W : World} {e : Ending} {w' : World} (h : IvP s W e w') (hX : ivX s = X) (hE : ivE s = E) (hl : X.length = l) : IvU X E l W e w':=by
 subst hX hE hl
 rcases h with ⟨rfl,h2,h3⟩ | ⟨x,a,c,rfl,h2,h3,h4⟩
 ·exact ⟨Option.none,0,h2,.inl ⟨rfl,rfl⟩,h3⟩
 ·exact ⟨a,c,h2,h3,h4⟩
theorem LPost.n {F : Gf} {n : Nat} {W : World} {e : Ending} {w' : World} (h : LPost F n W e w') : ∃ L,Vn F n L ∧ VPn L n W e w':=by
 obtain ⟨L,h1,h2⟩:=h
 exact ⟨L,h1,h2.n h1.len⟩
theorem so_len {F : Gf} (hF : Ok F) {n m l : Nat} {A : List (List Nat)} {V X : List Nat} {s : Option (List Nat)} (hn : n ≤ 24) (hA : Mn F n A) (la : A.length = m) (hV : Vn F m V) (hs : solM F n (eqM A V) = s) (hX : soX s = X) (hl : X.length = l) : l ≤ 24:=by
 subst hX hl
 cases s with
 | none=>exact Nat.zero_le _
 | some x =>
  have h:=(sol_some hF hA la hV hs).1.len
  show x.length ≤ 24
  omega
theorem iv_ok {F : Gf} (hF : Ok F) {n : Nat} {A : List (List Nat)} (hA : Mn F n A) (la : A.length = n) : ∀ x,invM F n A = some x → x.length ≤ n + n ∧ ∀ t,t < x.length → (x.getD t []).length = n:=fun x hx=>by
 unfold invM at hx
 split at hx
 ·cases hx
 ·injection hx with hx
  have hT : Mn F (n + n) (besM A (idM n n)):=besM_mn la (idM_len n n) hA (idM_mn hF n n)
  have hR:=(redM_ok hF hT).1
  have hl:=redM_leN hF hT
  subst hx
  refine ⟨by rw [List.length_map]; exact hl,fun t ht=>?_⟩
  rw [List.length_map] at ht
  rw [List.getD_eq_getElem?_getD,List.getElem?_map,List.getElem?_eq_getElem ht]
  show (List.drop n _).length = n
  rw [List.length_drop,(hR _ (List.getElem_mem ht)).len]; omega
theorem ivx_ok {F : Gf} (hF : Ok F) {n l : Nat} {A X : List (List Nat)} {s : Option (List (List Nat))} (hn : n ≤ 24) (hA : Mn F n A) (la : A.length = n) (hs : invM F n A = s) (hX : ivX s = X) (hl : X.length = l) : l ≤ 48 ∧ ∀ t,t < X.length → (X.getD t []).length ≤ 24:=by
 subst hX hl
 cases s with
 | none=>exact ⟨Nat.zero_le _,fun t ht=>absurd ht (Nat.not_lt_zero _)⟩
 | some x =>
  obtain ⟨h1,h2⟩:=iv_ok hF hA la x hs
  exact ⟨by show x.length ≤ 48; omega,fun t ht=>by show (x.getD t []).length ≤ 24; rw [h2 t ht]; exact hn⟩
theorem wpList_append_src {P : Program} (w : World) {ops : Array Oper} {rest : List Oper} {o : Oper} {a : Act} {Q : Exit → Act → World → Prop} (hgd : o.guard = Option.none) (s x : Operand) (t : TypeId)
  (ho : o.op = .call { callee:=.builtin .append,args:=#[s,x],argTypes:=#[t,t] })
  (base : Nat) (e : TypeId) (i : TypeInfo) (z : Value) (size bytes : Nat) (ht : P.underlying t = some (.slice e)) (hi : P.info? e = some i) (hz : i.zero = some z)
  (hsize : i.size = size) (hby : i.bytes = bytes) (hzs : z.cells.size = size) (hsz : 0 < size)
  (v : Value) (n : Nat) (xs : List Value) (hs : a.eval s = v) (hown : w.ownsRow base e size v n xs)
  (ad : Option Addr) (m c : Nat) (news : List Value) (hx : a.eval x = .slice ad m c)
  (hsrc : (ad = Option.none ∧ m = 0 ∧ c = 0 ∧ news = []) ∨ ∃ d,ad = some d ∧ news.length = m * size ∧ ∀ j u,news[j]? = some u → w.cell? (d.add j) = some u) (h1 : ∀ u ∈ news,u.oneCell' = true)
  (h63 : n + m ≤ maxLen) (hbytes : (n + m) * bytes ≤ 140737488355328) (hbase : base ≤ w.heap.size)
  (h : ∀ v' w',w'.ownsRow base e size v' (n + m) (xs ++ news) → w.grownBy w' v.ownBlock → wpList P ops Q rest (a.put o.dst v') w') :
  wpList P ops Q (o :: rest) a w:=by
 rcases hsrc with ⟨rfl,rfl,rfl,rfl⟩ | ⟨d,rfl,hl,hn⟩
 ·refine wpList_plain hgd fun K hK=>?_
  have hrun:=run_append_owned_none (P:=P) w base t o.type e i size ht hi v n xs hown
  unfold Oper.wp
  simp [execOp,ho,resolve,invoke,builtin,hs,hx,hrun,Result.andThen]
  exact hK _ _ (h v w (by simpa using hown) ⟨rfl,rfl,rfl,Nat.le_refl _,fun _ _ _=>rfl⟩)
 ·exact wpList_append_own w hgd s x t ho base e i z size bytes ht hi hz hsize hby hzs hsz v n xs hs hown d m c news hx hl hn h1 h63 hbytes hbase (fun v' w' a b _=>h v' w' a b)
def iL (L : List Nat) : List Int:=L.map fun (x : Nat)=>(x : Int)
theorem iL_len (L : List Nat) : (iL L).length = L.length:=by simp [iL]
theorem iL_get {L : List Nat} {t : Nat} (ht : t < L.length) : (iL L).getD t 0 = (L.getD t 0 : Nat):=by
 unfold iL
 rw [List.getD_eq_getElem?_getD,List.getElem?_map,List.getElem?_eq_getElem ht,List.getD_eq_getElem?_getD,List.getElem?_eq_getElem ht]; rfl
theorem iv_of_nn {L : List Nat} {w : World} {v : Value} (h : NN L w v) : Iv.NN (iL L) w v:=by
 rcases h with ⟨rfl,h⟩ | ⟨b,o,c,h1,h2,h3,h4⟩
 ·exact .inl ⟨rfl,h⟩
 ·exact .inr ⟨b,o,c,by rw [iL_len]; exact h1,by rw [iL_len]; exact h2,h3,fun t ht=>by rw [iL_len] at ht; rw [iL_get ht]; exact h4 t ht⟩
theorem iA_get {A : List (List Nat)} {t : Nat} (ht : t < A.length) : (A.map iL).getD t [] = iL (A.getD t []):=by
 rw [List.getD_eq_getElem?_getD,List.getElem?_map,List.getElem?_eq_getElem ht,List.getD_eq_getElem?_getD,List.getElem?_eq_getElem ht]; rfl
theorem iv_of_mm {A : List (List Nat)} {w : World} {v : Value} (h : MM A w v) : Iv.MM (A.map iL) w v:=by
 rcases h with ⟨rfl,h⟩ | ⟨b,o,c,h1,h2,h3,h4⟩
 ·exact .inl ⟨rfl,h⟩
 ·refine .inr ⟨b,o,c,by rw [List.length_map]; exact h1,by rw [List.length_map]; exact h2,h3,fun t ht=>?_⟩
  rw [List.length_map] at ht
  obtain ⟨a,k,g1,g2⟩:=h4 t ht
  rw [iA_get ht,iL_len]
  exact ⟨a,k,g1,iv_of_nn g2⟩
theorem iv_of_own {L : List Int} {w : World} {base g n c : Nat} (hl : L.length = n) (h : w.ownsRow base 3 1 (.slice (some ⟨g,0,none⟩) n c) n (L.map fun x=>Value.int .i64 x)) : Iv.NN L w (.slice (some ⟨g,0,none⟩) n c):=by
 subst hl
 have hc : L.length ≤ c:=by
  rcases h.2 with ⟨e,_⟩ | ⟨_,_,_,e,_,_,h5,_⟩
  ·cases e
  ·injection e with _ _ e3; subst e3; exact h5
 refine .inr ⟨g,0,c,rfl,hc,(World.ownsRow.lt h g rfl).2,fun t ht=>?_⟩
 rw [Nat.zero_add,World.ownsRow.cellAt h t (by omega),List.getElem?_map,List.getD_eq_getElem?_getD,List.getElem?_eq_getElem ht]; rfl
theorem iv_mm_of_own {D : List (List Int)} {us : List Value} {base : Nat} {w : World} {v : Value} {m : Nat} (lm : D.length = m) (h : w.ownsRow base 27 1 v m us) (hn : ∀ i,i < m → Iv.NN (D.getD i []) w (us.getD i undef)) : Iv.MM D w v:=by
 subst lm
 have hu : us.length = D.length:=by have:=h.1; omega
 rcases h.2 with ⟨e,e2⟩ | ⟨g,cap,cur,rfl,h3,h4,h5,h6,h7,h8⟩
 ·exact .inl ⟨List.eq_nil_of_length_eq_zero e2,e⟩
 ·have hlt : g < w.heap.size:=by
   rcases Nat.lt_or_ge g w.heap.size with h | h
   ·exact h
   ·rw [Array.getElem?_eq_none h] at h4; cases h4
  refine .inr ⟨g,0,cap,rfl,h5,hlt,fun t ht=>?_⟩
  have hc:=h.cells (g:=g) rfl t (us.getD t undef) (by
   rw [List.getD_eq_getElem?_getD,List.getElem?_eq_getElem (by rw [hu]; exact ht)]; rfl)
  have hadd : (⟨g,0,none⟩ : Addr).add t = ⟨g,t,none⟩:=by unfold Addr.add; split <;> simp_all
  rw [hadd] at hc
  obtain ⟨a,c,hs⟩:=(hn t ht).shape
  rw [hs] at hc
  exact ⟨a,c,by rw [Nat.zero_add]; exact hc,hs ▸ hn t ht⟩
theorem iv_eq {q n m : Nat} {D : List (List Int)} (hm : m ≤ 64) : (decide (m ≤ 64) && ((decide (1 ≤ n ∧ n ≤ 24) && Iv.wdM n [D]) && Iv.elM q D)) = (decide (1 ≤ n ∧ n ≤ 24) && Iv.vdM q n D):=by
 rw [show decide (m ≤ 64) = true from by simpa using hm,Bool.true_and,Bool.and_assoc]
 congr 1
 unfold Iv.wdM Iv.elM Iv.vdM
 rw [List.all_cons,List.all_nil,Bool.and_true]
 induction D with
 | nil=>rfl
 | cons r D ih =>
  rw [List.all_cons,List.all_cons,List.all_cons,← ih,show (r.length == n) = decide (r.length = n) from rfl]
  cases decide (r.length = n) <;> cases Iv.elV q r <;> simp
theorem g_both {F : Gf} {b cap n m ca e : Nat} {A : List (List Nat)} {aa : Option Addr} (hF : F ∈ fds.take 10) (he : e ≤ 3) (h1 : 1 ≤ n) (hn : n ≤ 24) (hm : m ≤ 64) (la : A.length = m) (ma : Mn F n A) : ∃ B : Bool,∀ w,FldAt F b cap w → MM A w (.slice aa m ca) →
  Calls Try.prog 13 #[GV F.p e F.e b cap,.int .i64 (n : Nat),.slice aa m ca] w (fun r w'=>r = .returned (.bool B) ∧ Below w.heap.size w w') ∧
  Calls Try.prog 35 #[GV F.p e F.e b cap,.int .i64 (n : Nat),.slice aa m ca] w (fun r w'=>r = .returned (.bool B) ∧ Below w.heap.size w w'):=by
 have hr : ∀ t,t < A.length → (A.getD t []).length ≤ 1000:=fun t ht=>by rw [(mrow ma ht).len]; omega
 by_cases h : e = F.e
 ·subst h
  refine ⟨(decide (1 ≤ n ∧ n ≤ 24) && Iv.vdM F.q n (A.map iL)),fun w hw hmm=>⟨?_,?_⟩⟩
  ·have t:=Iv.svalid_c (n:=n) (m:=m) (A:=A.map iL) (aa:=aa) (ca:=ca) hF hw (by omega) (by omega) (by rw [List.length_map,la]) (fun t ht=>by rw [List.length_map] at ht; rw [iA_get ht,iL_len]; exact hr t ht) (iv_of_mm hmm)
   rw [iv_eq hm] at t; exact t
  ·exact Iv.rvalid35_c (n:=n) (m:=m) (A:=A.map iL) (aa:=aa) (ca:=ca) hF hw (by omega) hm (by rw [List.length_map,la]) (fun t ht=>by rw [List.length_map] at ht; rw [iA_get ht,iL_len]; exact hr t ht) (iv_of_mm hmm)
 ·exact ⟨false,fun w hw hmm=>⟨gsvalid_c hF he h (by omega) hm la hr hmm,grvalid35_c hF he h h1 hn hm⟩⟩
abbrev SKG (F : Gf) (b cap n B BM : Nat) (mv : Value) (GZ z4 gg e4 : Nat) (w1 w : World) : Prop:=SKL F b cap n B BM mv w1 w ∧ w.cell? ⟨GZ,4,none⟩ = some (.int .u8 (z4 : Nat)) ∧ GB gg F.p e4 F.e b cap w ∧ Hid (GZ < w.heap.size ∧ gg < w.heap.size)
theorem SKG.keep {F : Gf} {b cap n B BM GZ z4 gg e4 : Nat} {mv : Value} {w1 w w' : World} (h : SKG F b cap n B BM mv GZ z4 gg e4 w1 w) (hb : Below w.heap.size w w') : SKG F b cap n B BM mv GZ z4 gg e4 w1 w':=
 ⟨h.1.keep hb,(hb.cell (p:=⟨GZ,4,none⟩) h.2.2.2.out.1).trans h.2.1,h.2.2.1.below hb h.2.2.2.out.2,Lib.hid ⟨Nat.lt_of_lt_of_le h.2.2.2.out.1 hb.size,Nat.lt_of_lt_of_le h.2.2.2.out.2 hb.size⟩⟩
set_option maxHeartbeats 51200000 in
theorem matches_c {x y z l ca l2 ca2 z0 z1 z2 z3 z4 : Nat} {aa ab : Option Addr} {W : World} (hx : x ≤ 255) (hy : y ≤ 255) (hz : z ≤ 255) (hz0' : z0 ≤ 255) (hz1' : z1 ≤ 255) (hz2' : z2 ≤ 255) (hz3' : z3 ≤ 255) (hz4' : z4 ≤ 255) (hl : l ≤ maxLen) (na : N16 l W (.slice aa l ca)) (hl2 : l2 ≤ maxLen) (nb : N16 l2 W (.slice ab l2 ca2)) :
  Calls Try.prog 3 #[.agg #[.int .u8 (x : Nat),.int .u8 (y : Nat),.int .u8 (z : Nat),.slice aa l ca],.slice ab l2 ca2,.agg #[.int .u8 (z0 : Nat),.int .u8 (z1 : Nat),.int .u8 (z2 : Nat),.int .u8 (z3 : Nat),.int .u8 (z4 : Nat)]] W fun e w'=>e = .returned (.bool true) ∧ Below W.heap.size W w':=by
 obtain ⟨w1,hw1⟩ : ∃ w,w = (W.alloc (.cells #[.int .u8 (x : Nat),.int .u8 (y : Nat),.int .u8 (z : Nat),.slice aa l ca] 24)).alloc (.cells #[.int .u8 (z0 : Nat),.int .u8 (z1 : Nat),.int .u8 (z2 : Nat),.int .u8 (z3 : Nat),.int .u8 (z4 : Nat)] 25):=⟨_,rfl⟩
 have hal : Below W.heap.size W w1:=by rw [hw1]; exact ((Below.refl _ _).alloc (Nat.le_refl _) _).alloc (by simp) _
 have HAL:=Lib.hid hal
 have hes0 : (W.alloc (.cells #[.int .u8 (x : Nat),.int .u8 (y : Nat),.int .u8 (z : Nat),.slice aa l ca] 24)).heap.size = W.heap.size + 1:=by simp
 have HD1 : Hid (w1.cell? ⟨W.heap.size,0,none⟩ = some (.int .u8 (x : Nat)) ∧ w1.cell? ⟨W.heap.size,1,none⟩ = some (.int .u8 (y : Nat)) ∧ w1.cell? ⟨W.heap.size,2,none⟩ = some (.int .u8 (z : Nat)) ∧ w1.cell? ⟨W.heap.size,3,none⟩ = some (.slice aa l ca) ∧ W.heap.size < w1.heap.size):=Lib.hid (by
  rw [hw1]; exact ⟨(World.cell?_alloc_lt _ _ _ (by simp)).trans (World.cell?_alloc_at _ _ _ _ rfl),(World.cell?_alloc_lt _ _ _ (by simp)).trans (World.cell?_alloc_at _ _ _ _ rfl),(World.cell?_alloc_lt _ _ _ (by simp)).trans (World.cell?_alloc_at _ _ _ _ rfl),(World.cell?_alloc_lt _ _ _ (by simp)).trans (World.cell?_alloc_at _ _ _ _ rfl),by simp; omega⟩)
 have HZB : Hid (ZB5 (W.heap.size + 1) z0 z1 z2 z3 z4 w1):=Lib.hid (by
  rw [hw1,← hes0]; exact ⟨World.cell?_alloc_at _ _ _ _ rfl,World.cell?_alloc_at _ _ _ _ rfl,World.cell?_alloc_at _ _ _ _ rfl,World.cell?_alloc_at _ _ _ _ rfl,World.cell?_alloc_at _ _ _ _ rfl,by simp⟩)
 have HNA:=Lib.hid (na.below hal)
 have HNB:=Lib.hid (nb.below hal)
 have HEX : Hid (Calls Try.prog 9 #[] w1 fun e w'=>e = .returned (.bool true) ∧ Below w1.heap.size w1 w'):=Lib.hid (examples_c w1)
 have HW1:=Lib.hid hw1
 clear hal na nb hw1 hes0
 go_enter Try.func3,Try.ntmps3
 go_wp2_with fail
 rw [← HW1.out]
 clear HW1
 with_reducible refine HEX.out.mono ?_
 rintro e w2 ⟨rfl,hb2⟩
 obtain ⟨e0,e1,e2,e3,e4⟩:=HD1.out
 have d0:=(hb2.cell (p:=⟨W.heap.size,0,none⟩) e4).trans e0
 have d1:=(hb2.cell (p:=⟨W.heap.size,1,none⟩) e4).trans e1
 have d2:=(hb2.cell (p:=⟨W.heap.size,2,none⟩) e4).trans e2
 have d3:=(hb2.cell (p:=⟨W.heap.size,3,none⟩) e4).trans e3
 have HB2 : Hid (Below W.heap.size W w2):=Lib.hid (HAL.out.trans (hb2.mono HAL.out.size))
 have HNB2:=Lib.hid (HNB.out.below hb2)
 have HZB2 : Hid (ZB5 (W.heap.size + 1) z0 z1 z2 z3 z4 w2):=Lib.hid (HZB.out.below hb2)
 have HMD : Hid (Calls Try.prog 10 #[.agg #[.int .u8 (x : Nat),.int .u8 (y : Nat),.int .u8 (z : Nat),.slice aa l ca]] w2 (MadeP x y z w2)):=Lib.hid (made_c hx hy hz hl (HNA.out.below hb2))
 clear hb2 HEX e0 e1 e2 e3 e4 HD1
 go_wp2_with fail
 with_reducible refine HMD.out.mono ?_
 rintro e w3 ⟨b,cap,A,us,aA,cA,rfl,hf3,hmn,hla,hol,hb3⟩
 obtain ⟨F,hF⟩ : ∃ F,Hid (fdB x = F):=⟨_,Lib.hid rfl⟩
 obtain ⟨n,hn⟩ : ∃ n,Hid (1 + y % 8 = n):=⟨_,Lib.hid rfl⟩
 obtain ⟨m,hm⟩ : ∃ n,Hid (z % 7 = n):=⟨_,Lib.hid rfl⟩
 rw [hF.out] at hf3 hmn ⊢
 rw [hn.out] at hmn ⊢
 rw [hm.out] at hla hol ⊢
 have HN1 : Hid (1 ≤ n ∧ n ≤ 8 ∧ m ≤ 6):=Lib.hid (by have:=hn.out; have:=hm.out; omega)
 have HTK : Hid (F ∈ fds.take 10):=Lib.hid (by rw [← hF.out]; exact fdB_take x)
 obtain ⟨w4,hw4⟩ : ∃ w,w = (w3.alloc (.cells #[.int .i64 F.p,.int .i64 F.e,FM F b cap,.int .i64 (n : Nat),.slice aA m cA] 32)).alloc (.cells #[.int .i64 F.p,.int .i64 F.e,FM F b cap] 29):=⟨_,rfl⟩
 have h34 : Below w3.heap.size w3 w4:=by rw [hw4]; exact ((Below.refl _ _).alloc (Nat.le_refl _) _).alloc (by simp) _
 have hes : (w3.alloc (.cells #[.int .i64 F.p,.int .i64 F.e,FM F b cap,.int .i64 (n : Nat),.slice aA m cA] 32)).heap.size = w3.heap.size + 1:=by simp
 have HSK : Hid (SKL F b cap n (w3.heap.size + 1) w3.heap.size (.slice aA m cA) w4 w4):=Lib.hid ⟨by
   have t:=FBx.new (w3.alloc (.cells #[.int .i64 F.p,.int .i64 F.e,FM F b cap,.int .i64 (n : Nat),.slice aA m cA] 32)) F b cap
   rw [hes,← hw4] at t; exact t,by
   rw [hw4]; exact ⟨(World.cell?_alloc_lt _ _ _ (by simp)).trans (World.cell?_alloc_at _ _ _ _ rfl),(World.cell?_alloc_lt _ _ _ (by simp)).trans (World.cell?_alloc_at _ _ _ _ rfl),(World.cell?_alloc_lt _ _ _ (by simp)).trans (World.cell?_alloc_at _ _ _ _ rfl),(World.cell?_alloc_lt _ _ _ (by simp)).trans (World.cell?_alloc_at _ _ _ _ rfl),(World.cell?_alloc_lt _ _ _ (by simp)).trans (World.cell?_alloc_at _ _ _ _ rfl)⟩,
   Lib.hid ⟨hf3.below h34,Below.refl _ _,by rw [hw4]; simp,by rw [hw4]; simp; omega⟩⟩
 have HMA : Hid (MM A w4 (.slice aA m cA)):=Lib.hid (hol.mm.below h34)
 have HMN:=Lib.hid hmn
 have HLA:=Lib.hid hla
 have hb24 : Below w2.heap.size w2 w4:=hb3.trans (h34.mono hb3.size)
 have HB4 : Hid (Below W.heap.size W w4):=Lib.hid (HB2.out.trans (hb24.mono HB2.out.size))
 have HNB4 : Hid (N16 l2 w4 (.slice ab l2 ca2)):=Lib.hid (HNB2.out.below hb24)
 have HZB4 : Hid (ZB5 (W.heap.size + 1) z0 z1 z2 z3 z4 w4):=Lib.hid (HZB2.out.below hb24)
 have HFF : Hid (Ok F):=Lib.hid (ok_mem hf3.mem)
 have HW4:=Lib.hid hw4
 clear hw4 h34 hb24 hes hol hla hmn hf3 hb3 HMD d0 d1 d2 d3 HNB2 HNB HNA HZB HZB2
 go_upto_region 6 with fail
 rw [← HW4.out]
 clear HW4
 obtain ⟨GZ,hgz⟩ : ∃ g,g = W.heap.size + 1:=⟨_,rfl⟩
 rw [← hgz] at HZB4
 generalize w3.heap.size + 1 = B at *
 generalize w3.heap.size = BM at *
 rw [← hgz]
 clear hgz
 have hn1:=HN1.out
 obtain ⟨m2,hm2⟩ : ∃ k,Hid (z0 % 7 = k):=⟨_,Lib.hid rfl⟩
 have hm2i : (z0 : Int) % 7 = (m2 : Int):=by have:=hm2.out; omega
 have hm2t : (z0 : Int).tmod 7 = (m2 : Int):=by rw [Int.tmod_eq_emod_of_nonneg (by omega)]; exact hm2i
 have hm26 : m2 ≤ 6:=by have:=hm2.out; omega
 have hwz0 : IntKind.i64.wrap (z0 : Int) = (z0 : Int):=IntWalk.i64_in _ (by omega)
 have hwm2 : IntKind.i64.wrap (m2 : Int) = (m2 : Int):=IntWalk.i64_in _ (by omega)
 have HRW : Hid (Calls Try.prog 11 #[FV F b cap,.int .i64 (n : Nat),.int .i64 (m2 : Nat),.slice ab l2 ca2] w4 (RwsP F n m2 w4)):=Lib.hid (rows_c HSK.out.2.2.out.1 (by omega) (by omega) hm26 (by omega) HNB4.out)
 obtain ⟨x0,x1,x2⟩:=HSK.out.1
 obtain ⟨k0,k1,k2,k3,k4,k5⟩:=HZB4.out
 obtain ⟨q0,q1,q2,q3,q4⟩:=HSK.out.2.1
 clear k1 k2 k3 k4
 go_wp2_with fail
 with_reducible refine HRW.out.mono ?_
 rintro e w5 ⟨Bm,hbn,hbl,aB,cB,rfl,hmb,hb5⟩
 rw [hbl] at hmb ⊢
 have HBN:=Lib.hid hbn
 have HBL:=Lib.hid hbl
 have HSK5 : Hid (SKL F b cap n B BM (.slice aA m cA) w4 w5):=Lib.hid (HSK.out.keep hb5)
 have HMB5:=Lib.hid hmb
 have HNB5:=Lib.hid (HNB4.out.below hb5)
 have HLI : Hid (Calls Try.prog 12 #[FV F b cap,.int .i64 (n : Nat),.slice ab l2 ca2] w5 fun e w'=>∃ L,Vn F n L ∧ VPn L n w5 e w'):=Lib.hid ((list_c HSK5.out.2.2.out.1 (by omega) hl2 HNB5.out).mono fun _ _ h=>h.n)
 clear hbn hbl hmb hb5 HRW x0 x1 x2 q0 q1 q2 q3 q4 k0 k5
 obtain ⟨x0,x1,x2⟩:=HSK5.out.1
 obtain ⟨q0,q1,q2,q3,q4⟩:=HSK5.out.2.1
 go_wp2_with fail
 with_reducible refine HLI.out.mono ?_
 rintro e w6 ⟨V,hvv,aV,cV,rfl,hnv,hb6⟩
 have HVV:=Lib.hid hvv
 have HSK6 : Hid (SKL F b cap n B BM (.slice aA m cA) w4 w6):=Lib.hid (HSK5.out.keep hb6)
 have HMB6:=Lib.hid (HMB5.out.below hb6)
 have HNV6:=Lib.hid hnv
 have HNB6:=Lib.hid (HNB5.out.below hb6)
 have HLI2 : Hid (Calls Try.prog 12 #[FV F b cap,.int .i64 (m : Nat),.slice ab l2 ca2] w6 fun e w'=>∃ L,Vn F m L ∧ VPn L m w6 e w'):=Lib.hid ((list_c HSK6.out.2.2.out.1 (by omega) hl2 HNB6.out).mono fun _ _ h=>h.n)
 clear hvv hnv hb6 HLI x0 x1 x2 q0 q1 q2 q3 q4 HMB5 HNB5
 obtain ⟨x0,x1,x2⟩:=HSK6.out.1
 obtain ⟨q0,q1,q2,q3,q4⟩:=HSK6.out.2.1
 go_wp2_with fail
 with_reducible refine HLI2.out.mono ?_
 rintro e w8 ⟨Wv,hwv,aW,cW,rfl,hnw,hb8⟩
 have HWV:=Lib.hid hwv
 have HSK8 : Hid (SKL F b cap n B BM (.slice aA m cA) w4 w8):=Lib.hid (HSK6.out.keep hb8)
 have HMB8:=Lib.hid (HMB6.out.below hb8)
 have HNV8:=Lib.hid (HNV6.out.below hb8)
 have HNW8:=Lib.hid hnw
 have HMA8:=Lib.hid (HMA.out.below HSK8.out.2.2.out.2.1)
 clear hwv hnw hb8 HLI2 x0 x1 x2 q0 q1 q2 q3 q4 HMB6 HNV6 HNB6 HSK5 HSK6
 obtain ⟨R,hR⟩ : ∃ L,Hid (redM F n A = L):=⟨_,Lib.hid rfl⟩
 obtain ⟨rl,hrl⟩ : ∃ k,Hid (R.length = k):=⟨_,Lib.hid rfl⟩
 have HRN : Hid (Mn F n R):=Lib.hid (by rw [← hR.out]; exact (redM_ok HFF.out HMN.out).1)
 have hrl8 : rl ≤ 8:=by have:=redM_leN HFF.out HMN.out; rw [hR.out,hrl.out] at this; omega
 obtain ⟨KA,hKA⟩ : ∃ L,Hid (kerM F n A = L):=⟨_,Lib.hid rfl⟩
 obtain ⟨ka,hka⟩ : ∃ k,Hid (KA.length = k):=⟨_,Lib.hid rfl⟩
 have HKN : Hid (Mn F n KA):=Lib.hid (by rw [← hKA.out]; exact (kerM_ok HFF.out HMN.out).1)
 have hka8 : ka ≤ 8:=by have:=kerM_le HFF.out HMN.out; rw [hKA.out,hka.out] at this; omega
 obtain ⟨AV,hAV⟩ : ∃ L,Hid (apM F n A V = L):=⟨_,Lib.hid rfl⟩
 have HAL2 : Hid (AV.length = m):=Lib.hid (by rw [← hAV.out,apM_len,HLA.out])
 have HAVV : Hid (Vn F m AV):=Lib.hid (by rw [← hAV.out]; exact ⟨by rw [apM_len,HLA.out],fun x hx=>by obtain ⟨r,_,rfl⟩:=List.mem_map.1 hx; exact dt_lt HFF.out _ _ _⟩)
 have HSVA : Hid ((decide (m ≤ 64) && ((decide (1 ≤ n ∧ n ≤ 24) && wdM n [A]) && elM F.q A)) = true):=Lib.hid (by
  rw [wdM_yes (fun t ht k hk=>by simp at ht; subst ht; exact (mrow HMN.out hk).len),elM_yes (fun t ht k hk=>(mrow HMN.out ht).el.get HFF.out k)]
  simp; omega)
 have hrne : ((rl : Int) != (rl : Int)) = false:=by simp
 have hS0 : SKL F b cap n B BM (.slice aA m cA) w8 w8.drew:=⟨HSK8.out.1,HSK8.out.2.1,Lib.hid ⟨HSK8.out.2.2.out.1.bx (Bx.refl (fun _=>False) w8).drew id,(Below.refl _ _).drew,HSK8.out.2.2.out.2.2⟩⟩
 obtain ⟨x0,x1,x2⟩:=HSK8.out.1
 obtain ⟨q0,q1,q2,q3,q4⟩:=HSK8.out.2.1
 go_wp2_with fail
 clear x0 x1 x2 q0 q1 q2 q3 q4
 refine wp_region_held_drew (S:=fun w'=>SKL F b cap n B BM (.slice aA m cA) w8 w') (by kernel_rfl) (by with_reducible exact hS0) (fun hHeld=>?_)
 refine Rg.tk 0 ⟨some 47,.load 29 (.tmp 9),29,"law.go:62",#[],none⟩ ?_
 try simp only [Rg.gp]
 refine Rg.tk 1 ⟨some 48,.move (.tmp 10),3,"law.go:62",#[],none⟩ ?_
 try simp only [Rg.gp]
 refine Rg.tk 2 ⟨some 49,.fieldAddr 32 (.tmp 8) 2,0,"law.go:62",#[],none⟩ ?_
 try simp only [Rg.gp]
 refine Rg.tk 3 ⟨some 50,.load 30 (.tmp 49),30,"law.go:62",#[⟨2,.data⟩],none⟩ ?_
 try simp only [Rg.gp]
 refine Rg.rd1 4 ⟨some 51,.call ⟨.value (.func 13),#[.tmp 47,.tmp 48,.tmp 50],#[29,3,30]⟩,4,"law.go:62",#[⟨0,.data⟩,⟨1,.data⟩,⟨3,.data⟩],none⟩ fun K hK=>?_
 go_simp
 go_at_call 13
 with_reducible refine ((show Calls Try.prog 13 #[FV F b cap,.int .i64 (n : Nat),.slice aA m cA] _ (fun e w'=>e = .returned (.bool true) ∧ Below _ _ w') from by have t:=svalid_c (n:=n) (A:=A) (aa:=aA) (ca:=cA) HTK.out hHeld.2.2.out.1 (by omega) (by omega) HLA.out (fun t ht=>by rw [(mrow HMN.out ht).len]; omega) (HMA8.out.below hHeld.2.2.out.2.1); rw [HSVA.out] at t; exact t)).mono ?_
 rintro z v0 ⟨rfl,hb0⟩
 refine hK.out _ _ ?_ (fun hHeld=>?_)
 ·(try dsimp only)
  exact SKL.keep hHeld hb0
 clear hK K
 try simp only [Rg.gp]
 refine Rg.tk 5 ⟨some 52,.unOp UnOp.not 4 (.tmp 51),4,"law.go:62",#[⟨4,.data⟩],none⟩ ?_
 try simp only [Rg.gp]
 refine Rg.tk 6 ⟨some 53,.move (.tmp 52),4,"law.go:62",#[⟨5,.data⟩,⟨4,.chain⟩],none⟩ ?_
 try simp only [Rg.gp]
 refine Rg.tk 7 ⟨some 54,.load 29 (.tmp 9),29,"law.go:62",#[⟨6,.guard⟩],some (6,false)⟩ ?_
 try simp only [Rg.gp]
 refine Rg.tk 8 ⟨some 55,.fieldAddr 32 (.tmp 8) 2,0,"law.go:62",#[⟨6,.guard⟩],some (6,false)⟩ ?_
 try simp only [Rg.gp]
 refine Rg.tk 9 ⟨some 56,.load 30 (.tmp 55),30,"law.go:62",#[⟨8,.data⟩,⟨6,.guard⟩],some (6,false)⟩ ?_
 try simp only [Rg.gp]
 refine Rg.tk 11 ⟨some 58,.load 29 (.tmp 9),29,"law.go:62",#[⟨6,.guard⟩],some (6,false)⟩ ?_
 try simp only [Rg.gp]
 refine Rg.tk 12 ⟨some 59,.fieldAddr 32 (.tmp 8) 2,0,"law.go:62",#[⟨6,.guard⟩],some (6,false)⟩ ?_
 try simp only [Rg.gp]
 refine Rg.tk 13 ⟨some 60,.load 30 (.tmp 59),30,"law.go:62",#[⟨12,.data⟩,⟨6,.guard⟩],some (6,false)⟩ ?_
 try simp only [Rg.gp]
 refine Rg.rd1 10 ⟨some 57,.call ⟨.value (.func 15),#[.tmp 54,.tmp 56],#[29,30]⟩,30,"law.go:62",#[⟨7,.data⟩,⟨9,.data⟩,⟨6,.chain⟩,⟨6,.guard⟩],some (6,false)⟩ fun K hK=>?_
 go_simp
 go_at_call 15
 with_reducible refine ((show Calls Try.prog 15 #[FV F b cap,.slice aA m cA] _ (MPn R rl _) from by have t:=reduce_c (n:=n) (A:=A) (aa:=aA) (ca:=cA) hHeld.2.2.out.1 (by omega) (by omega) (by rw [HLA.out]; omega) HMN.out (by rw [HLA.out]; exact HMA8.out.below hHeld.2.2.out.2.1); rw [HLA.out,hR.out] at t; exact t.mono fun _ _ h=>h.n hrl.out)).mono ?_
 rintro z v1 ⟨a10,c10,rfl,hm10,hb1⟩
 refine hK.out _ _ ?_ (fun hHeld=>?_)
 ·(try dsimp only)
  exact SKL.keep hHeld hb1
 clear hK K
 try simp only [Rg.gp]
 refine Rg.rd1 14 ⟨some 61,.call ⟨.value (.func 16),#[.tmp 58,.tmp 60],#[29,30]⟩,30,"law.go:62",#[⟨11,.data⟩,⟨13,.data⟩,⟨10,.chain⟩,⟨6,.guard⟩],some (6,false)⟩ fun K hK=>?_
 go_simp
 go_at_call 16
 with_reducible refine ((show Calls Try.prog 16 #[FV F b cap,.slice aA m cA] _ (MPn R rl _) from by have t:=redr_c (n:=n) (m:=m) (A:=A) (aa:=aA) (ca:=cA) hHeld.2.2.out.1 (by omega) (by omega) HLA.out HMN.out (HMA8.out.below hHeld.2.2.out.2.1); rw [hR.out] at t; exact t.mono fun _ _ h=>h.n hrl.out)).mono ?_
 rintro z v2 ⟨a14,c14,rfl,hm14,hb2⟩
 replace hm10:=hm10.below hb2
 refine hK.out _ _ ?_ (fun hHeld=>?_)
 ·(try dsimp only)
  exact SKL.keep hHeld hb2
 clear hK K
 try simp only [Rg.gp]
 refine Rg.rd1 15 ⟨some 62,.call ⟨.value (.func 14),#[.tmp 57,.tmp 61],#[30,30]⟩,4,"law.go:62",#[⟨10,.data⟩,⟨14,.data⟩,⟨14,.chain⟩,⟨6,.guard⟩],some (6,false)⟩ fun K hK=>?_
 go_simp
 go_at_call 14
 with_reducible refine ((show Calls Try.prog 14 #[.slice a10 rl c10,.slice a14 rl c14] _ (fun e w'=>e = .returned (.bool true) ∧ Below _ _ w') from by have t:=alike_c (A:=R) (B:=R) (aa:=a10) (ca:=c10) (ab:=a14) (cb:=c14) (by rw [hrl.out]; omega) (by rw [hrl.out]; omega) (fun t ht=>by rw [(mrow HRN.out ht).len]; omega) (fun t ht=>by rw [(mrow HRN.out ht).len]; omega) (by rw [hrl.out]; exact hm10) (by rw [hrl.out]; exact hm14); rw [hrl.out,decide_eq_true rfl] at t; exact t)).mono ?_
 rintro z v3 ⟨rfl,hb3⟩
 refine hK.out _ _ ?_ (fun hHeld=>?_)
 ·(try dsimp only)
  exact SKL.keep hHeld hb3
 clear hK K
 try simp only [Rg.gp]
 refine Rg.tk 16 ⟨some 63,.unOp UnOp.not 4 (.tmp 62),4,"law.go:62",#[⟨15,.data⟩,⟨6,.guard⟩],some (6,false)⟩ ?_
 try simp only [Rg.gp]
 refine Rg.tk 17 ⟨some 64,.pick (.tmp 53) (.const (Value.bool true)) (.tmp 63),4,"law.go:62",#[⟨6,.data⟩,⟨16,.data⟩],none⟩ ?_
 try simp only [Rg.gp]
 refine Rg.tk 18 ⟨some 65,.move (.tmp 64),4,"law.go:62",#[⟨17,.data⟩,⟨15,.chain⟩],none⟩ ?_
 try simp only [Rg.gp]
 refine Rg.tk 19 ⟨some 66,.load 29 (.tmp 9),29,"law.go:62",#[⟨18,.guard⟩],some (18,false)⟩ ?_
 try simp only [Rg.gp]
 refine Rg.tk 20 ⟨some 67,.fieldAddr 32 (.tmp 8) 2,0,"law.go:62",#[⟨18,.guard⟩],some (18,false)⟩ ?_
 try simp only [Rg.gp]
 refine Rg.tk 21 ⟨some 68,.load 30 (.tmp 67),30,"law.go:62",#[⟨20,.data⟩,⟨18,.guard⟩],some (18,false)⟩ ?_
 try simp only [Rg.gp]
 refine Rg.tk 23 ⟨some 70,.load 29 (.tmp 9),29,"law.go:62",#[⟨18,.guard⟩],some (18,false)⟩ ?_
 try simp only [Rg.gp]
 refine Rg.tk 24 ⟨some 71,.fieldAddr 32 (.tmp 8) 2,0,"law.go:62",#[⟨18,.guard⟩],some (18,false)⟩ ?_
 try simp only [Rg.gp]
 refine Rg.tk 25 ⟨some 72,.load 30 (.tmp 71),30,"law.go:62",#[⟨24,.data⟩,⟨18,.guard⟩],some (18,false)⟩ ?_
 try simp only [Rg.gp]
 refine Rg.rd1 22 ⟨some 69,.call ⟨.value (.func 17),#[.tmp 66,.tmp 68],#[29,30]⟩,3,"law.go:62",#[⟨19,.data⟩,⟨21,.data⟩,⟨18,.chain⟩,⟨18,.guard⟩],some (18,false)⟩ fun K hK=>?_
 go_simp
 go_at_call 17
 with_reducible refine ((show Calls Try.prog 17 #[FV F b cap,.slice aA m cA] _ (fun e w'=>e = .returned (.int .i64 (rl : Nat)) ∧ Below _ _ w') from by have t:=rank_c (n:=n) (A:=A) (aa:=aA) (ca:=cA) hHeld.2.2.out.1 (by omega) (by omega) (by rw [HLA.out]; omega) HMN.out (by rw [HLA.out]; exact HMA8.out.below hHeld.2.2.out.2.1); rw [HLA.out,hR.out,hrl.out] at t; exact t)).mono ?_
 rintro z v4 ⟨rfl,hb4⟩
 refine hK.out _ _ ?_ (fun hHeld=>?_)
 ·(try dsimp only)
  exact SKL.keep hHeld hb4
 clear hK K
 try simp only [Rg.gp]
 refine Rg.rd1 26 ⟨some 73,.call ⟨.value (.func 16),#[.tmp 70,.tmp 72],#[29,30]⟩,30,"law.go:62",#[⟨23,.data⟩,⟨25,.data⟩,⟨22,.chain⟩,⟨18,.guard⟩],some (18,false)⟩ fun K hK=>?_
 go_simp
 go_at_call 16
 with_reducible refine ((show Calls Try.prog 16 #[FV F b cap,.slice aA m cA] _ (MPn R rl _) from by have t:=redr_c (n:=n) (m:=m) (A:=A) (aa:=aA) (ca:=cA) hHeld.2.2.out.1 (by omega) (by omega) HLA.out HMN.out (HMA8.out.below hHeld.2.2.out.2.1); rw [hR.out] at t; exact t.mono fun _ _ h=>h.n hrl.out)).mono ?_
 rintro z v5 ⟨a26,c26,rfl,hm26,hb5⟩
 refine hK.out _ _ ?_ (fun hHeld=>?_)
 ·(try dsimp only)
  exact SKL.keep hHeld hb5
 clear hK K
 try simp only [Rg.gp]
 refine Rg.tk 27 ⟨some 74,.call ⟨.builtin Builtin.len,#[.tmp 73],#[30]⟩,3,"law.go:62",#[⟨26,.data⟩,⟨18,.guard⟩],some (18,false)⟩ ?_
 try simp only [Rg.gp]
 refine Rg.tk 28 ⟨some 75,.binOp BinOp.neq 3 (.tmp 69) (.tmp 74) 3,4,"law.go:62",#[⟨22,.data⟩,⟨27,.data⟩,⟨18,.guard⟩],some (18,false)⟩ ?_
 try simp only [Rg.gp]
 refine Rg.tk 29 ⟨some 76,.pick (.tmp 65) (.const (Value.bool true)) (.tmp 75),4,"law.go:62",#[⟨18,.data⟩,⟨28,.data⟩],none⟩ ?_
 try simp only [Rg.gp]
 refine Rg.tk 30 ⟨some 77,.move (.tmp 76),4,"law.go:62",#[⟨29,.data⟩,⟨26,.chain⟩],none⟩ ?_
 try simp only [Rg.gp]
 refine Rg.tk 31 ⟨some 78,.load 29 (.tmp 9),29,"law.go:62",#[⟨30,.guard⟩],some (30,false)⟩ ?_
 try simp only [Rg.gp]
 refine Rg.tk 32 ⟨some 79,.move (.tmp 10),3,"law.go:62",#[⟨30,.guard⟩],some (30,false)⟩ ?_
 try simp only [Rg.gp]
 refine Rg.tk 33 ⟨some 80,.fieldAddr 32 (.tmp 8) 2,0,"law.go:62",#[⟨30,.guard⟩],some (30,false)⟩ ?_
 try simp only [Rg.gp]
 refine Rg.tk 34 ⟨some 81,.load 30 (.tmp 80),30,"law.go:62",#[⟨33,.data⟩,⟨30,.guard⟩],some (30,false)⟩ ?_
 try simp only [Rg.gp]
 refine Rg.tk 36 ⟨some 83,.load 29 (.tmp 9),29,"law.go:62",#[⟨30,.guard⟩],some (30,false)⟩ ?_
 try simp only [Rg.gp]
 refine Rg.tk 37 ⟨some 84,.move (.tmp 10),3,"law.go:62",#[⟨30,.guard⟩],some (30,false)⟩ ?_
 try simp only [Rg.gp]
 refine Rg.tk 38 ⟨some 85,.fieldAddr 32 (.tmp 8) 2,0,"law.go:62",#[⟨30,.guard⟩],some (30,false)⟩ ?_
 try simp only [Rg.gp]
 refine Rg.tk 39 ⟨some 86,.load 30 (.tmp 85),30,"law.go:62",#[⟨38,.data⟩,⟨30,.guard⟩],some (30,false)⟩ ?_
 try simp only [Rg.gp]
 refine Rg.rd1 35 ⟨some 82,.call ⟨.value (.func 18),#[.tmp 78,.tmp 79,.tmp 81],#[29,3,30]⟩,30,"law.go:62",#[⟨31,.data⟩,⟨32,.data⟩,⟨34,.data⟩,⟨30,.chain⟩,⟨30,.guard⟩],some (30,false)⟩ fun K hK=>?_
 go_simp
 go_at_call 18
 with_reducible refine ((show Calls Try.prog 18 #[FV F b cap,.int .i64 (n : Nat),.slice aA m cA] _ (MPn KA ka _) from by have t:=kern_c (n:=n) (A:=A) (aa:=aA) (ca:=cA) hHeld.2.2.out.1 (by omega) (by omega) (by rw [HLA.out]; omega) HMN.out (by rw [HLA.out]; exact HMA8.out.below hHeld.2.2.out.2.1); rw [HLA.out,hKA.out] at t; exact t.mono fun _ _ h=>h.n hka.out)).mono ?_
 rintro z v6 ⟨a35,c35,rfl,hm35,hb6⟩
 refine hK.out _ _ ?_ (fun hHeld=>?_)
 ·(try dsimp only)
  exact SKL.keep hHeld hb6
 clear hK K
 try simp only [Rg.gp]
 refine Rg.rd1 40 ⟨some 87,.call ⟨.value (.func 19),#[.tmp 83,.tmp 84,.tmp 86],#[29,3,30]⟩,30,"law.go:62",#[⟨36,.data⟩,⟨37,.data⟩,⟨39,.data⟩,⟨35,.chain⟩,⟨30,.guard⟩],some (30,false)⟩ fun K hK=>?_
 go_simp
 go_at_call 19
 with_reducible refine ((show Calls Try.prog 19 #[FV F b cap,.int .i64 (n : Nat),.slice aA m cA] _ (MPn KA ka _) from by have t:=rkern_c (n:=n) (m:=m) (A:=A) (aa:=aA) (ca:=cA) hHeld.2.2.out.1 (by omega) (by omega) HLA.out HMN.out (HMA8.out.below hHeld.2.2.out.2.1); rw [hKA.out] at t; exact t.mono fun _ _ h=>h.n hka.out)).mono ?_
 rintro z v7 ⟨a40,c40,rfl,hm40,hb7⟩
 replace hm35:=hm35.below hb7
 refine hK.out _ _ ?_ (fun hHeld=>?_)
 ·(try dsimp only)
  exact SKL.keep hHeld hb7
 clear hK K
 try simp only [Rg.gp]
 refine Rg.rd1 41 ⟨some 88,.call ⟨.value (.func 14),#[.tmp 82,.tmp 87],#[30,30]⟩,4,"law.go:62",#[⟨35,.data⟩,⟨40,.data⟩,⟨40,.chain⟩,⟨30,.guard⟩],some (30,false)⟩ fun K hK=>?_
 go_simp
 go_at_call 14
 with_reducible refine ((show Calls Try.prog 14 #[.slice a35 ka c35,.slice a40 ka c40] _ (fun e w'=>e = .returned (.bool true) ∧ Below _ _ w') from by have t:=alike_c (A:=KA) (B:=KA) (aa:=a35) (ca:=c35) (ab:=a40) (cb:=c40) (by rw [hka.out]; omega) (by rw [hka.out]; omega) (fun t ht=>by rw [(mrow HKN.out ht).len]; omega) (fun t ht=>by rw [(mrow HKN.out ht).len]; omega) (by rw [hka.out]; exact hm35) (by rw [hka.out]; exact hm40); rw [hka.out,decide_eq_true rfl] at t; exact t)).mono ?_
 rintro z v8 ⟨rfl,hb8⟩
 refine hK.out _ _ ?_ (fun hHeld=>?_)
 ·(try dsimp only)
  exact SKL.keep hHeld hb8
 clear hK K
 try simp only [Rg.gp]
 refine Rg.tk 42 ⟨some 89,.unOp UnOp.not 4 (.tmp 88),4,"law.go:62",#[⟨41,.data⟩,⟨30,.guard⟩],some (30,false)⟩ ?_
 try simp only [Rg.gp]
 refine Rg.tk 43 ⟨some 90,.pick (.tmp 77) (.const (Value.bool true)) (.tmp 89),4,"law.go:62",#[⟨30,.data⟩,⟨42,.data⟩],none⟩ ?_
 try simp only [Rg.gp]
 refine Rg.tk 44 ⟨some 91,.move (.tmp 90),4,"law.go:62",#[⟨43,.data⟩,⟨41,.chain⟩],none⟩ ?_
 try simp only [Rg.gp]
 refine Rg.tk 45 ⟨some 92,.load 29 (.tmp 9),29,"law.go:62",#[⟨44,.guard⟩],some (44,false)⟩ ?_
 try simp only [Rg.gp]
 refine Rg.tk 46 ⟨some 93,.fieldAddr 32 (.tmp 8) 2,0,"law.go:62",#[⟨44,.guard⟩],some (44,false)⟩ ?_
 try simp only [Rg.gp]
 refine Rg.tk 47 ⟨some 94,.load 30 (.tmp 93),30,"law.go:62",#[⟨46,.data⟩,⟨44,.guard⟩],some (44,false)⟩ ?_
 try simp only [Rg.gp]
 refine Rg.tk 48 ⟨some 95,.move (.tmp 12),27,"law.go:62",#[⟨44,.guard⟩],some (44,false)⟩ ?_
 try simp only [Rg.gp]
 refine Rg.tk 50 ⟨some 97,.load 29 (.tmp 9),29,"law.go:62",#[⟨44,.guard⟩],some (44,false)⟩ ?_
 try simp only [Rg.gp]
 refine Rg.tk 51 ⟨some 98,.fieldAddr 32 (.tmp 8) 2,0,"law.go:62",#[⟨44,.guard⟩],some (44,false)⟩ ?_
 try simp only [Rg.gp]
 refine Rg.tk 52 ⟨some 99,.load 30 (.tmp 98),30,"law.go:62",#[⟨51,.data⟩,⟨44,.guard⟩],some (44,false)⟩ ?_
 try simp only [Rg.gp]
 refine Rg.tk 53 ⟨some 100,.move (.tmp 12),27,"law.go:62",#[⟨44,.guard⟩],some (44,false)⟩ ?_
 try simp only [Rg.gp]
 refine Rg.rd1 49 ⟨some 96,.call ⟨.value (.func 21),#[.tmp 92,.tmp 94,.tmp 95],#[29,30,27]⟩,27,"law.go:62",#[⟨45,.data⟩,⟨47,.data⟩,⟨48,.data⟩,⟨44,.chain⟩,⟨44,.guard⟩],some (44,false)⟩ fun K hK=>?_
 go_simp
 go_at_call 21
 with_reducible refine ((show Calls Try.prog 21 #[FV F b cap,.slice aA m cA,.slice aV n cV] _ (VPn AV m _) from by have t:=apply_c (n:=n) (A:=A) (X:=V) (aa:=aA) (ca:=cA) (ax:=aV) (cx:=cV) hHeld.2.2.out.1 (by omega) (by omega) (by rw [HLA.out]; omega) HMN.out HVV.out (by rw [HLA.out]; exact HMA8.out.below hHeld.2.2.out.2.1) (HNV8.out.below hHeld.2.2.out.2.1); rw [HLA.out,hAV.out] at t; exact t.mono fun _ _ h=>h.n HAL2.out)).mono ?_
 rintro z v9 ⟨a49,c49,rfl,hn49,hb9⟩
 refine hK.out _ _ ?_ (fun hHeld=>?_)
 ·(try dsimp only)
  exact SKL.keep hHeld hb9
 clear hK K
 try simp only [Rg.gp]
 refine Rg.rd1 54 ⟨some 101,.call ⟨.value (.func 22),#[.tmp 97,.tmp 99,.tmp 100],#[29,30,27]⟩,27,"law.go:62",#[⟨50,.data⟩,⟨52,.data⟩,⟨53,.data⟩,⟨49,.chain⟩,⟨44,.guard⟩],some (44,false)⟩ fun K hK=>?_
 go_simp
 go_at_call 22
 with_reducible refine ((show Calls Try.prog 22 #[FV F b cap,.slice aA m cA,.slice aV n cV] _ (VPn AV m _) from by have t:=rapply_c (n:=n) (m:=m) (A:=A) (X:=V) (aa:=aA) (ca:=cA) (ax:=aV) (cx:=cV) hHeld.2.2.out.1 (by omega) (by omega) HLA.out HMN.out HVV.out (HMA8.out.below hHeld.2.2.out.2.1) (HNV8.out.below hHeld.2.2.out.2.1); rw [hAV.out] at t; exact t.mono fun _ _ h=>h.n HAL2.out)).mono ?_
 rintro z v10 ⟨a54,c54,rfl,hn54,hb10⟩
 replace hn49:=hn49.below hb10
 refine hK.out _ _ ?_ (fun hHeld=>?_)
 ·(try dsimp only)
  exact SKL.keep hHeld hb10
 clear hK K
 try simp only [Rg.gp]
 refine Rg.rd1 55 ⟨some 102,.call ⟨.value (.func 20),#[.tmp 96,.tmp 101],#[27,27]⟩,4,"law.go:62",#[⟨49,.data⟩,⟨54,.data⟩,⟨54,.chain⟩,⟨44,.guard⟩],some (44,false)⟩ fun K hK=>?_
 go_simp
 go_at_call 20
 with_reducible refine ((show Calls Try.prog 20 #[.slice a49 m c49,.slice a54 m c54] _ (fun e w'=>e = .returned (.bool true) ∧ Below _ _ w') from by have t:=same_c (A:=AV) (B:=AV) (aa:=a49) (ca:=c49) (ab:=a54) (cb:=c54) (by rw [HAL2.out]; omega) (by rw [HAL2.out]; omega) (by rw [HAL2.out]; exact hn49) (by rw [HAL2.out]; exact hn54); rw [HAL2.out,show decide (AV = AV) = true from decide_eq_true rfl] at t; exact t)).mono ?_
 rintro z v11 ⟨rfl,hb11⟩
 refine hK.out _ _ ?_ (fun hHeld=>?_)
 ·(try dsimp only)
  exact SKL.keep hHeld hb11
 clear hK K
 try simp only [Rg.gp]
 refine Rg.tk 56 ⟨some 103,.unOp UnOp.not 4 (.tmp 102),4,"law.go:62",#[⟨55,.data⟩,⟨44,.guard⟩],some (44,false)⟩ ?_
 try simp only [Rg.gp]
 refine Rg.tk 57 ⟨some 104,.pick (.tmp 91) (.const (Value.bool true)) (.tmp 103),4,"law.go:62",#[⟨44,.data⟩,⟨56,.data⟩],none⟩ ?_
 try simp only [Rg.gp]
 refine wpAnyH_done (by kernel_rfl) ?_ _
 have hb89 : Hid (Below w8.heap.size w8 v11):=Lib.hid hHeld.2.2.out.2.1
 clear hHeld hS0 hb0 hb1 hb2 hb3 hb4 hb5 hb6 hb7 hb8 hb9 hb10 hb11 hm10 hm14 hm26 hm35 hm40 hn49 hn54
 obtain ⟨w9,hw9⟩ : ∃ w,w = v11:=⟨_,rfl⟩
 subst hw9
 as_aux_lemma =>
  have HSK9 : Hid (SKL F b cap n B BM (.slice aA m cA) w4 w9):=Lib.hid (HSK8.out.keep hb89.out)
  have HMA9:=Lib.hid (HMA8.out.below hb89.out)
  have HMB9:=Lib.hid (HMB8.out.below hb89.out)
  have HNV9:=Lib.hid (HNV8.out.below hb89.out)
  have HNW9:=Lib.hid (HNW8.out.below hb89.out)
  clear HMA8 HMB8 HNV8 HNW8 HSK8 hb89 hrne
  obtain ⟨s1,hs1⟩ : ∃ s,Hid (solM F n (eqM A Wv) = s):=⟨_,Lib.hid rfl⟩
  obtain ⟨X1,hX1⟩ : ∃ s,Hid (soX s1 = s):=⟨_,Lib.hid rfl⟩
  obtain ⟨E1,hE1⟩ : ∃ s,Hid (soE s1 = s):=⟨_,Lib.hid rfl⟩
  obtain ⟨l1,hl1⟩ : ∃ s,Hid (X1.length = s):=⟨_,Lib.hid rfl⟩
  have hl15 : l1 ≤ 24:=so_len HFF.out (by omega) HMN.out HLA.out HWV.out hs1.out hX1.out hl1.out
  obtain ⟨s2,hs2⟩ : ∃ s,Hid (solM F n (eqM A AV) = s):=⟨_,Lib.hid rfl⟩
  obtain ⟨X2,hX2⟩ : ∃ s,Hid (soX s2 = s):=⟨_,Lib.hid rfl⟩
  obtain ⟨E2,hE2⟩ : ∃ s,Hid (soE s2 = s):=⟨_,Lib.hid rfl⟩
  obtain ⟨l2s,hls2⟩ : ∃ s,Hid (X2.length = s):=⟨_,Lib.hid rfl⟩
  have hl25 : l2s ≤ 24:=so_len HFF.out (by omega) HMN.out HLA.out HAVV.out hs2.out hX2.out hls2.out
  obtain ⟨hbv,hhb⟩ : ∃ s,Hid (hasV F n A V = s):=⟨_,Lib.hid rfl⟩
  obtain ⟨J,hJ⟩ : ∃ s,Hid (redM F n (A ++ Bm) = s):=⟨_,Lib.hid rfl⟩
  obtain ⟨jl,hjl⟩ : ∃ s,Hid (J.length = s):=⟨_,Lib.hid rfl⟩
  have HJN : Hid (Mn F n J):=Lib.hid (by rw [← hJ.out]; exact (redM_ok HFF.out (mapp HMN.out HBN.out)).1)
  have hjl8 : jl ≤ 8:=by have:=redM_leN HFF.out (mapp HMN.out HBN.out); rw [hJ.out,hjl.out] at this; omega
  obtain ⟨ME,hME⟩ : ∃ s,Hid (kerM F n (kerM F n A ++ kerM F n Bm) = s):=⟨_,Lib.hid rfl⟩
  obtain ⟨ml,hml⟩ : ∃ s,Hid (ME.length = s):=⟨_,Lib.hid rfl⟩
  have HKK : Hid (Mn F n (kerM F n A ++ kerM F n Bm)):=Lib.hid (mapp (kerM_ok HFF.out HMN.out).1 (kerM_ok HFF.out HBN.out).1)
  have HMEN : Hid (Mn F n ME):=Lib.hid (by rw [← hME.out]; exact (kerM_ok HFF.out HKK.out).1)
  have hml8 : ml ≤ 8:=by have:=kerM_le HFF.out HKK.out; rw [hME.out,hml.out] at this; omega
  have hbne : (hbv != hbv) = false:=by cases hbv <;> rfl
  have hS0 : SKL F b cap n B BM (.slice aA m cA) w9 w9.drew:=⟨HSK9.out.1,HSK9.out.2.1,Lib.hid ⟨HSK9.out.2.2.out.1.bx (Bx.refl (fun _=>False) w9).drew id,(Below.refl _ _).drew,HSK9.out.2.2.out.2.2⟩⟩
  go_wp2_with fail
  simp only [List.append_eq,List.cons_append,List.nil_append]
  refine wp_region_held_drew (S:=fun w'=>SKL F b cap n B BM (.slice aA m cA) w9 w') (by kernel_rfl) (by with_reducible exact hS0) (fun hHeld=>?_)
  refine Rg.tk 0 ⟨some 105,.load 32 (.tmp 8),32,"law.go:65",#[],none⟩ ?_
  try simp only [Rg.gp]
  refine Rg.tk 1 ⟨some 106,.move (.tmp 13),27,"law.go:65",#[],none⟩ ?_
  try simp only [Rg.gp]
  refine Rg.tk 3 ⟨some 108,.load 32 (.tmp 8),32,"law.go:65",#[],none⟩ ?_
  try simp only [Rg.gp]
  refine Rg.tk 4 ⟨some 109,.move (.tmp 13),27,"law.go:65",#[],none⟩ ?_
  try simp only [Rg.gp]
  refine Rg.rd1 2 ⟨some 107,.call ⟨.value (.func 24),#[.tmp 105,.tmp 106],#[32,27]⟩,46,"law.go:65",#[⟨0,.data⟩,⟨1,.data⟩],none⟩ fun K hK=>?_
  go_simp
  go_at_call 24
  with_reducible refine ((show Calls Try.prog 24 #[MV F b cap n (.slice aA m cA),.slice aW m cW] _ (SvU X1 E1 l1 _) from by have t:=solved_c (n:=n) (m:=m) (A:=A) (V:=Wv) (aa:=aA) (ca:=cA) (ab:=aW) (cb:=cW) hHeld.2.2.out.1 (by omega) (by omega) (by omega) HLA.out HMN.out HWV.out (HMA9.out.below hHeld.2.2.out.2.1) (HNW9.out.below hHeld.2.2.out.2.1); rw [hs1.out] at t; exact t.mono fun _ _ h=>h.u hX1.out hE1.out hl1.out)).mono ?_
  rintro z v0 ⟨a2,c2,rfl,hn2,hb0⟩
  refine hK.out _ _ ?_ (fun hHeld=>?_)
  ·(try dsimp only)
   exact SKL.keep hHeld hb0
  clear hK K
  try simp only [Rg.gp]
  refine Rg.rd1 5 ⟨some 110,.call ⟨.value (.func 25),#[.tmp 108,.tmp 109],#[32,27]⟩,46,"law.go:65",#[⟨3,.data⟩,⟨4,.data⟩,⟨2,.chain⟩],none⟩ fun K hK=>?_
  go_simp
  go_at_call 25
  with_reducible refine ((show Calls Try.prog 25 #[MV F b cap n (.slice aA m cA),.slice aW m cW] _ (SvU X1 E1 l1 _) from by have t:=rsolve_c (n:=n) (m:=m) (A:=A) (V:=Wv) (aa:=aA) (ca:=cA) (ab:=aW) (cb:=cW) hHeld.2.2.out.1 (by omega) (by omega) (by omega) HLA.out HMN.out HWV.out (HMA9.out.below hHeld.2.2.out.2.1) (HNW9.out.below hHeld.2.2.out.2.1); rw [hs1.out] at t; exact t.mono fun _ _ h=>h.u hX1.out hE1.out hl1.out)).mono ?_
  rintro z v1 ⟨a5,c5,rfl,hn5,hb1⟩
  replace hn2:=hn2.below hb1
  refine hK.out _ _ ?_ (fun hHeld=>?_)
  ·(try dsimp only)
   exact SKL.keep hHeld hb1
  clear hK K
  try simp only [Rg.gp]
  refine Rg.rd1 6 ⟨some 111,.call ⟨.value (.func 23),#[.tmp 107,.tmp 110],#[46,46]⟩,4,"law.go:65",#[⟨2,.data⟩,⟨5,.data⟩,⟨5,.chain⟩],none⟩ fun K hK=>?_
  go_simp
  go_at_call 23
  with_reducible refine ((show Calls Try.prog 23 #[.agg #[.slice a2 l1 c2,.int .i64 (E1 : Nat)],.agg #[.slice a5 l1 c5,.int .i64 (E1 : Nat)]] _ (fun e w'=>e = .returned (.bool true) ∧ Below _ _ w') from by have t:=samesol_c (A:=X1) (B:=X1) (aa:=a2) (ca:=c2) (ab:=a5) (cb:=c5) (x:=(E1 : Nat)) (y:=(E1 : Nat)) (by rw [hl1.out]; omega) (by rw [hl1.out]; omega) (by rw [hl1.out]; exact hn2) (by rw [hl1.out]; exact hn5); rw [hl1.out,show decide (((E1 : Nat) : Int) = ((E1 : Nat) : Int) ∧ X1 = X1) = true from decide_eq_true ⟨rfl,rfl⟩] at t; exact t)).mono ?_
  rintro z v2 ⟨rfl,hb2⟩
  refine hK.out _ _ ?_ (fun hHeld=>?_)
  ·(try dsimp only)
   exact SKL.keep hHeld hb2
  clear hK K
  try simp only [Rg.gp]
  refine Rg.tk 7 ⟨some 112,.unOp UnOp.not 4 (.tmp 111),4,"law.go:65",#[⟨6,.data⟩],none⟩ ?_
  try simp only [Rg.gp]
  refine Rg.tk 8 ⟨some 113,.move (.tmp 112),4,"law.go:65",#[⟨7,.data⟩,⟨6,.chain⟩],none⟩ ?_
  try simp only [Rg.gp]
  refine Rg.tk 9 ⟨some 114,.load 32 (.tmp 8),32,"law.go:65",#[⟨8,.guard⟩],some (8,false)⟩ ?_
  try simp only [Rg.gp]
  refine Rg.tk 10 ⟨some 115,.load 29 (.tmp 9),29,"law.go:65",#[⟨8,.guard⟩],some (8,false)⟩ ?_
  try simp only [Rg.gp]
  refine Rg.tk 11 ⟨some 116,.fieldAddr 32 (.tmp 8) 2,0,"law.go:65",#[⟨8,.guard⟩],some (8,false)⟩ ?_
  try simp only [Rg.gp]
  refine Rg.tk 12 ⟨some 117,.load 30 (.tmp 116),30,"law.go:65",#[⟨11,.data⟩,⟨8,.guard⟩],some (8,false)⟩ ?_
  try simp only [Rg.gp]
  refine Rg.tk 13 ⟨some 118,.move (.tmp 12),27,"law.go:65",#[⟨8,.guard⟩],some (8,false)⟩ ?_
  try simp only [Rg.gp]
  refine Rg.tk 16 ⟨some 121,.load 32 (.tmp 8),32,"law.go:65",#[⟨8,.guard⟩],some (8,false)⟩ ?_
  try simp only [Rg.gp]
  refine Rg.tk 17 ⟨some 122,.load 29 (.tmp 9),29,"law.go:65",#[⟨8,.guard⟩],some (8,false)⟩ ?_
  try simp only [Rg.gp]
  refine Rg.tk 18 ⟨some 123,.fieldAddr 32 (.tmp 8) 2,0,"law.go:65",#[⟨8,.guard⟩],some (8,false)⟩ ?_
  try simp only [Rg.gp]
  refine Rg.tk 19 ⟨some 124,.load 30 (.tmp 123),30,"law.go:65",#[⟨18,.data⟩,⟨8,.guard⟩],some (8,false)⟩ ?_
  try simp only [Rg.gp]
  refine Rg.tk 20 ⟨some 125,.move (.tmp 12),27,"law.go:65",#[⟨8,.guard⟩],some (8,false)⟩ ?_
  try simp only [Rg.gp]
  refine Rg.rd1 14 ⟨some 119,.call ⟨.value (.func 22),#[.tmp 115,.tmp 117,.tmp 118],#[29,30,27]⟩,27,"law.go:65",#[⟨10,.data⟩,⟨12,.data⟩,⟨13,.data⟩,⟨8,.chain⟩,⟨8,.guard⟩],some (8,false)⟩ fun K hK=>?_
  go_simp
  go_at_call 22
  with_reducible refine ((show Calls Try.prog 22 #[FV F b cap,.slice aA m cA,.slice aV n cV] _ (VPn AV m _) from by have t:=rapply_c (n:=n) (m:=m) (A:=A) (X:=V) (aa:=aA) (ca:=cA) (ax:=aV) (cx:=cV) hHeld.2.2.out.1 (by omega) (by omega) HLA.out HMN.out HVV.out (HMA9.out.below hHeld.2.2.out.2.1) (HNV9.out.below hHeld.2.2.out.2.1); rw [hAV.out] at t; exact t.mono fun _ _ h=>h.n HAL2.out)).mono ?_
  rintro z v3 ⟨a14,c14,rfl,hn14,hb3⟩
  refine hK.out _ _ ?_ (fun hHeld=>?_)
  ·(try dsimp only)
   exact SKL.keep hHeld hb3
  clear hK K
  try simp only [Rg.gp]
  refine Rg.rd1 15 ⟨some 120,.call ⟨.value (.func 24),#[.tmp 114,.tmp 119],#[32,27]⟩,46,"law.go:65",#[⟨9,.data⟩,⟨14,.data⟩,⟨14,.chain⟩,⟨8,.guard⟩],some (8,false)⟩ fun K hK=>?_
  go_simp
  go_at_call 24
  with_reducible refine ((show Calls Try.prog 24 #[MV F b cap n (.slice aA m cA),.slice a14 m c14] _ (SvU X2 E2 l2s _) from by have t:=solved_c (n:=n) (m:=m) (A:=A) (V:=AV) (aa:=aA) (ca:=cA) (ab:=a14) (cb:=c14) hHeld.2.2.out.1 (by omega) (by omega) (by omega) HLA.out HMN.out HAVV.out (HMA9.out.below hHeld.2.2.out.2.1) (hn14); rw [hs2.out] at t; exact t.mono fun _ _ h=>h.u hX2.out hE2.out hls2.out)).mono ?_
  rintro z v4 ⟨a15,c15,rfl,hn15,hb4⟩
  refine hK.out _ _ ?_ (fun hHeld=>?_)
  ·(try dsimp only)
   exact SKL.keep hHeld hb4
  clear hK K
  try simp only [Rg.gp]
  refine Rg.rd1 21 ⟨some 126,.call ⟨.value (.func 22),#[.tmp 122,.tmp 124,.tmp 125],#[29,30,27]⟩,27,"law.go:65",#[⟨17,.data⟩,⟨19,.data⟩,⟨20,.data⟩,⟨15,.chain⟩,⟨8,.guard⟩],some (8,false)⟩ fun K hK=>?_
  go_simp
  go_at_call 22
  with_reducible refine ((show Calls Try.prog 22 #[FV F b cap,.slice aA m cA,.slice aV n cV] _ (VPn AV m _) from by have t:=rapply_c (n:=n) (m:=m) (A:=A) (X:=V) (aa:=aA) (ca:=cA) (ax:=aV) (cx:=cV) hHeld.2.2.out.1 (by omega) (by omega) HLA.out HMN.out HVV.out (HMA9.out.below hHeld.2.2.out.2.1) (HNV9.out.below hHeld.2.2.out.2.1); rw [hAV.out] at t; exact t.mono fun _ _ h=>h.n HAL2.out)).mono ?_
  rintro z v5 ⟨a21,c21,rfl,hn21,hb5⟩
  replace hn15:=hn15.below hb5
  refine hK.out _ _ ?_ (fun hHeld=>?_)
  ·(try dsimp only)
   exact SKL.keep hHeld hb5
  clear hK K
  try simp only [Rg.gp]
  refine Rg.rd1 22 ⟨some 127,.call ⟨.value (.func 25),#[.tmp 121,.tmp 126],#[32,27]⟩,46,"law.go:65",#[⟨16,.data⟩,⟨21,.data⟩,⟨21,.chain⟩,⟨8,.guard⟩],some (8,false)⟩ fun K hK=>?_
  go_simp
  go_at_call 25
  with_reducible refine ((show Calls Try.prog 25 #[MV F b cap n (.slice aA m cA),.slice a21 m c21] _ (SvU X2 E2 l2s _) from by have t:=rsolve_c (n:=n) (m:=m) (A:=A) (V:=AV) (aa:=aA) (ca:=cA) (ab:=a21) (cb:=c21) hHeld.2.2.out.1 (by omega) (by omega) (by omega) HLA.out HMN.out HAVV.out (HMA9.out.below hHeld.2.2.out.2.1) (hn21); rw [hs2.out] at t; exact t.mono fun _ _ h=>h.u hX2.out hE2.out hls2.out)).mono ?_
  rintro z v6 ⟨a22,c22,rfl,hn22,hb6⟩
  replace hn15:=hn15.below hb6
  refine hK.out _ _ ?_ (fun hHeld=>?_)
  ·(try dsimp only)
   exact SKL.keep hHeld hb6
  clear hK K
  try simp only [Rg.gp]
  refine Rg.rd1 23 ⟨some 128,.call ⟨.value (.func 23),#[.tmp 120,.tmp 127],#[46,46]⟩,4,"law.go:65",#[⟨15,.data⟩,⟨22,.data⟩,⟨22,.chain⟩,⟨8,.guard⟩],some (8,false)⟩ fun K hK=>?_
  go_simp
  go_at_call 23
  with_reducible refine ((show Calls Try.prog 23 #[.agg #[.slice a15 l2s c15,.int .i64 (E2 : Nat)],.agg #[.slice a22 l2s c22,.int .i64 (E2 : Nat)]] _ (fun e w'=>e = .returned (.bool true) ∧ Below _ _ w') from by have t:=samesol_c (A:=X2) (B:=X2) (aa:=a15) (ca:=c15) (ab:=a22) (cb:=c22) (x:=(E2 : Nat)) (y:=(E2 : Nat)) (by rw [hls2.out]; omega) (by rw [hls2.out]; omega) (by rw [hls2.out]; exact hn15) (by rw [hls2.out]; exact hn22); rw [hls2.out,show decide (((E2 : Nat) : Int) = ((E2 : Nat) : Int) ∧ X2 = X2) = true from decide_eq_true ⟨rfl,rfl⟩] at t; exact t)).mono ?_
  rintro z v7 ⟨rfl,hb7⟩
  refine hK.out _ _ ?_ (fun hHeld=>?_)
  ·(try dsimp only)
   exact SKL.keep hHeld hb7
  clear hK K
  try simp only [Rg.gp]
  refine Rg.tk 24 ⟨some 129,.unOp UnOp.not 4 (.tmp 128),4,"law.go:65",#[⟨23,.data⟩,⟨8,.guard⟩],some (8,false)⟩ ?_
  try simp only [Rg.gp]
  refine Rg.tk 25 ⟨some 130,.pick (.tmp 113) (.const (Value.bool true)) (.tmp 129),4,"law.go:65",#[⟨8,.data⟩,⟨24,.data⟩],none⟩ ?_
  try simp only [Rg.gp]
  refine Rg.tk 26 ⟨some 131,.move (.tmp 130),4,"law.go:65",#[⟨25,.data⟩,⟨23,.chain⟩],none⟩ ?_
  try simp only [Rg.gp]
  refine Rg.tk 27 ⟨some 132,.load 29 (.tmp 9),29,"law.go:65",#[⟨26,.guard⟩],some (26,false)⟩ ?_
  try simp only [Rg.gp]
  refine Rg.tk 28 ⟨some 133,.fieldAddr 32 (.tmp 8) 2,0,"law.go:65",#[⟨26,.guard⟩],some (26,false)⟩ ?_
  try simp only [Rg.gp]
  refine Rg.tk 29 ⟨some 134,.load 30 (.tmp 133),30,"law.go:65",#[⟨28,.data⟩,⟨26,.guard⟩],some (26,false)⟩ ?_
  try simp only [Rg.gp]
  refine Rg.tk 30 ⟨some 135,.move (.tmp 12),27,"law.go:65",#[⟨26,.guard⟩],some (26,false)⟩ ?_
  try simp only [Rg.gp]
  refine Rg.tk 32 ⟨some 137,.load 29 (.tmp 9),29,"law.go:65",#[⟨26,.guard⟩],some (26,false)⟩ ?_
  try simp only [Rg.gp]
  refine Rg.tk 33 ⟨some 138,.fieldAddr 32 (.tmp 8) 2,0,"law.go:65",#[⟨26,.guard⟩],some (26,false)⟩ ?_
  try simp only [Rg.gp]
  refine Rg.tk 34 ⟨some 139,.load 30 (.tmp 138),30,"law.go:65",#[⟨33,.data⟩,⟨26,.guard⟩],some (26,false)⟩ ?_
  try simp only [Rg.gp]
  refine Rg.tk 35 ⟨some 140,.move (.tmp 12),27,"law.go:65",#[⟨26,.guard⟩],some (26,false)⟩ ?_
  try simp only [Rg.gp]
  refine Rg.rd1 31 ⟨some 136,.call ⟨.value (.func 26),#[.tmp 132,.tmp 134,.tmp 135],#[29,30,27]⟩,4,"law.go:65",#[⟨27,.data⟩,⟨29,.data⟩,⟨30,.data⟩,⟨26,.chain⟩,⟨26,.guard⟩],some (26,false)⟩ fun K hK=>?_
  go_simp
  go_at_call 26
  with_reducible refine ((show Calls Try.prog 26 #[FV F b cap,.slice aA m cA,.slice aV n cV] _ (fun e w'=>e = .returned (.bool hbv) ∧ Below _ _ w') from by have t:=has_c (n:=n) (A:=A) (V:=V) (aa:=aA) (ca:=cA) (av:=aV) (cv:=cV) hHeld.2.2.out.1 (by omega) (by omega) (by rw [HLA.out]; omega) HMN.out HVV.out (by rw [HLA.out]; exact HMA9.out.below hHeld.2.2.out.2.1) (HNV9.out.below hHeld.2.2.out.2.1); rw [HLA.out,hhb.out] at t; exact t)).mono ?_
  rintro z v8 ⟨rfl,hb8⟩
  refine hK.out _ _ ?_ (fun hHeld=>?_)
  ·(try dsimp only)
   exact SKL.keep hHeld hb8
  clear hK K
  try simp only [Rg.gp]
  refine Rg.rd1 36 ⟨some 141,.call ⟨.value (.func 27),#[.tmp 137,.tmp 139,.tmp 140],#[29,30,27]⟩,4,"law.go:65",#[⟨32,.data⟩,⟨34,.data⟩,⟨35,.data⟩,⟨31,.chain⟩,⟨26,.guard⟩],some (26,false)⟩ fun K hK=>?_
  go_simp
  go_at_call 27
  with_reducible refine ((show Calls Try.prog 27 #[FV F b cap,.slice aA m cA,.slice aV n cV] _ (fun e w'=>e = .returned (.bool hbv) ∧ Below _ _ w') from by have t:=rhas_c (n:=n) (m:=m) (A:=A) (V:=V) (aa:=aA) (ca:=cA) (av:=aV) (cv:=cV) hHeld.2.2.out.1 (by omega) (by omega) HLA.out HMN.out HVV.out (HMA9.out.below hHeld.2.2.out.2.1) (HNV9.out.below hHeld.2.2.out.2.1); rw [hhb.out] at t; exact t)).mono ?_
  rintro z v9 ⟨rfl,hb9⟩
  refine hK.out _ _ ?_ (fun hHeld=>?_)
  ·(try dsimp only)
   exact SKL.keep hHeld hb9
  clear hK K
  try simp only [Rg.gp]
  refine Rg.tk 37 ⟨some 142,.binOp BinOp.neq 4 (.tmp 136) (.tmp 141) 4,4,"law.go:65",#[⟨31,.data⟩,⟨36,.data⟩,⟨26,.guard⟩],some (26,false)⟩ ?_
  try simp only [Rg.gp]
  refine Rg.tk 38 ⟨some 143,.pick (.tmp 131) (.const (Value.bool true)) (.tmp 142),4,"law.go:65",#[⟨26,.data⟩,⟨37,.data⟩],none⟩ ?_
  try simp only [Rg.gp]
  refine Rg.tk 39 ⟨some 144,.move (.tmp 143),4,"law.go:65",#[⟨38,.data⟩,⟨36,.chain⟩],none⟩ ?_
  try simp only [Rg.gp]
  refine Rg.tk 40 ⟨some 145,.load 29 (.tmp 9),29,"law.go:65",#[⟨39,.guard⟩],some (39,false)⟩ ?_
  try simp only [Rg.gp]
  refine Rg.tk 41 ⟨some 146,.fieldAddr 32 (.tmp 8) 2,0,"law.go:65",#[⟨39,.guard⟩],some (39,false)⟩ ?_
  try simp only [Rg.gp]
  refine Rg.tk 42 ⟨some 147,.load 30 (.tmp 146),30,"law.go:65",#[⟨41,.data⟩,⟨39,.guard⟩],some (39,false)⟩ ?_
  try simp only [Rg.gp]
  refine Rg.tk 43 ⟨some 148,.move (.tmp 11),30,"law.go:65",#[⟨39,.guard⟩],some (39,false)⟩ ?_
  try simp only [Rg.gp]
  refine Rg.tk 45 ⟨some 150,.load 29 (.tmp 9),29,"law.go:65",#[⟨39,.guard⟩],some (39,false)⟩ ?_
  try simp only [Rg.gp]
  refine Rg.tk 46 ⟨some 151,.fieldAddr 32 (.tmp 8) 2,0,"law.go:65",#[⟨39,.guard⟩],some (39,false)⟩ ?_
  try simp only [Rg.gp]
  refine Rg.tk 47 ⟨some 152,.load 30 (.tmp 151),30,"law.go:65",#[⟨46,.data⟩,⟨39,.guard⟩],some (39,false)⟩ ?_
  try simp only [Rg.gp]
  refine Rg.tk 48 ⟨some 153,.move (.tmp 11),30,"law.go:65",#[⟨39,.guard⟩],some (39,false)⟩ ?_
  try simp only [Rg.gp]
  refine Rg.rd1 44 ⟨some 149,.call ⟨.value (.func 28),#[.tmp 145,.tmp 147,.tmp 148],#[29,30,30]⟩,30,"law.go:65",#[⟨40,.data⟩,⟨42,.data⟩,⟨43,.data⟩,⟨39,.chain⟩,⟨39,.guard⟩],some (39,false)⟩ fun K hK=>?_
  go_simp
  go_at_call 28
  with_reducible refine ((show Calls Try.prog 28 #[FV F b cap,.slice aA m cA,.slice aB m2 cB] _ (MPn J jl _) from by have t:=join_c (n:=n) (A:=A) (B:=Bm) (aa:=aA) (ca:=cA) (ab:=aB) (cb:=cB) hHeld.2.2.out.1 (by omega) (by omega) (by rw [HLA.out]; omega) (by rw [HBL.out]; omega) HMN.out HBN.out (by rw [HLA.out]; exact HMA9.out.below hHeld.2.2.out.2.1) (by rw [HBL.out]; exact HMB9.out.below hHeld.2.2.out.2.1); rw [HLA.out,HBL.out,hJ.out] at t; exact t.mono fun _ _ h=>h.n hjl.out)).mono ?_
  rintro z v10 ⟨a44,c44,rfl,hm44,hb10⟩
  refine hK.out _ _ ?_ (fun hHeld=>?_)
  ·(try dsimp only)
   exact SKL.keep hHeld hb10
  clear hK K
  try simp only [Rg.gp]
  refine Rg.rd1 49 ⟨some 154,.call ⟨.value (.func 29),#[.tmp 150,.tmp 152,.tmp 153],#[29,30,30]⟩,30,"law.go:65",#[⟨45,.data⟩,⟨47,.data⟩,⟨48,.data⟩,⟨44,.chain⟩,⟨39,.guard⟩],some (39,false)⟩ fun K hK=>?_
  go_simp
  go_at_call 29
  with_reducible refine ((show Calls Try.prog 29 #[FV F b cap,.slice aA m cA,.slice aB m2 cB] _ (MPn J jl _) from by have t:=rjoin_c (n:=n) (A:=A) (B:=Bm) (aa:=aA) (ca:=cA) (ab:=aB) (cb:=cB) hHeld.2.2.out.1 (by omega) (by omega) (by omega) HLA.out HBL.out HMN.out HBN.out (HMA9.out.below hHeld.2.2.out.2.1) (HMB9.out.below hHeld.2.2.out.2.1); rw [hJ.out] at t; exact t.mono fun _ _ h=>h.n hjl.out)).mono ?_
  rintro z v11 ⟨a49,c49,rfl,hm49,hb11⟩
  replace hm44:=hm44.below hb11
  refine hK.out _ _ ?_ (fun hHeld=>?_)
  ·(try dsimp only)
   exact SKL.keep hHeld hb11
  clear hK K
  try simp only [Rg.gp]
  refine Rg.rd1 50 ⟨some 155,.call ⟨.value (.func 14),#[.tmp 149,.tmp 154],#[30,30]⟩,4,"law.go:65",#[⟨44,.data⟩,⟨49,.data⟩,⟨49,.chain⟩,⟨39,.guard⟩],some (39,false)⟩ fun K hK=>?_
  go_simp
  go_at_call 14
  with_reducible refine ((show Calls Try.prog 14 #[.slice a44 jl c44,.slice a49 jl c49] _ (fun e w'=>e = .returned (.bool true) ∧ Below _ _ w') from by have t:=alike_c (A:=J) (B:=J) (aa:=a44) (ca:=c44) (ab:=a49) (cb:=c49) (by rw [hjl.out]; omega) (by rw [hjl.out]; omega) (fun t ht=>by rw [(mrow HJN.out ht).len]; omega) (fun t ht=>by rw [(mrow HJN.out ht).len]; omega) (by rw [hjl.out]; exact hm44) (by rw [hjl.out]; exact hm49); rw [hjl.out,decide_eq_true rfl] at t; exact t)).mono ?_
  rintro z v12 ⟨rfl,hb12⟩
  refine hK.out _ _ ?_ (fun hHeld=>?_)
  ·(try dsimp only)
   exact SKL.keep hHeld hb12
  clear hK K
  try simp only [Rg.gp]
  refine Rg.tk 51 ⟨some 156,.unOp UnOp.not 4 (.tmp 155),4,"law.go:65",#[⟨50,.data⟩,⟨39,.guard⟩],some (39,false)⟩ ?_
  try simp only [Rg.gp]
  refine Rg.tk 52 ⟨some 157,.pick (.tmp 144) (.const (Value.bool true)) (.tmp 156),4,"law.go:65",#[⟨39,.data⟩,⟨51,.data⟩],none⟩ ?_
  try simp only [Rg.gp]
  refine Rg.tk 53 ⟨some 158,.move (.tmp 157),4,"law.go:65",#[⟨52,.data⟩,⟨50,.chain⟩],none⟩ ?_
  try simp only [Rg.gp]
  refine Rg.tk 54 ⟨some 159,.load 29 (.tmp 9),29,"law.go:65",#[⟨53,.guard⟩],some (53,false)⟩ ?_
  try simp only [Rg.gp]
  refine Rg.tk 55 ⟨some 160,.move (.tmp 10),3,"law.go:65",#[⟨53,.guard⟩],some (53,false)⟩ ?_
  try simp only [Rg.gp]
  refine Rg.tk 56 ⟨some 161,.fieldAddr 32 (.tmp 8) 2,0,"law.go:65",#[⟨53,.guard⟩],some (53,false)⟩ ?_
  try simp only [Rg.gp]
  refine Rg.tk 57 ⟨some 162,.load 30 (.tmp 161),30,"law.go:65",#[⟨56,.data⟩,⟨53,.guard⟩],some (53,false)⟩ ?_
  try simp only [Rg.gp]
  refine Rg.tk 58 ⟨some 163,.move (.tmp 11),30,"law.go:65",#[⟨53,.guard⟩],some (53,false)⟩ ?_
  try simp only [Rg.gp]
  refine Rg.tk 60 ⟨some 165,.load 29 (.tmp 9),29,"law.go:65",#[⟨53,.guard⟩],some (53,false)⟩ ?_
  try simp only [Rg.gp]
  refine Rg.tk 61 ⟨some 166,.move (.tmp 10),3,"law.go:65",#[⟨53,.guard⟩],some (53,false)⟩ ?_
  try simp only [Rg.gp]
  refine Rg.tk 62 ⟨some 167,.fieldAddr 32 (.tmp 8) 2,0,"law.go:65",#[⟨53,.guard⟩],some (53,false)⟩ ?_
  try simp only [Rg.gp]
  refine Rg.tk 63 ⟨some 168,.load 30 (.tmp 167),30,"law.go:65",#[⟨62,.data⟩,⟨53,.guard⟩],some (53,false)⟩ ?_
  try simp only [Rg.gp]
  refine Rg.tk 64 ⟨some 169,.move (.tmp 11),30,"law.go:65",#[⟨53,.guard⟩],some (53,false)⟩ ?_
  try simp only [Rg.gp]
  refine Rg.rd1 59 ⟨some 164,.call ⟨.value (.func 30),#[.tmp 159,.tmp 160,.tmp 162,.tmp 163],#[29,3,30,30]⟩,30,"law.go:65",#[⟨54,.data⟩,⟨55,.data⟩,⟨57,.data⟩,⟨58,.data⟩,⟨53,.chain⟩,⟨53,.guard⟩],some (53,false)⟩ fun K hK=>?_
  go_simp
  go_at_call 30
  with_reducible refine ((show Calls Try.prog 30 #[FV F b cap,.int .i64 (n : Nat),.slice aA m cA,.slice aB m2 cB] _ (MPn ME ml _) from by have t:=meet_c (n:=n) (A:=A) (B:=Bm) (aa:=aA) (ca:=cA) (ab:=aB) (cb:=cB) hHeld.2.2.out.1 (by omega) (by omega) (by rw [HLA.out]; omega) (by rw [HBL.out]; omega) HMN.out HBN.out (by rw [HLA.out]; exact HMA9.out.below hHeld.2.2.out.2.1) (by rw [HBL.out]; exact HMB9.out.below hHeld.2.2.out.2.1); rw [HLA.out,HBL.out,hME.out] at t; exact t.mono fun _ _ h=>h.n hml.out)).mono ?_
  rintro z v13 ⟨a59,c59,rfl,hm59,hb13⟩
  refine hK.out _ _ ?_ (fun hHeld=>?_)
  ·(try dsimp only)
   exact SKL.keep hHeld hb13
  clear hK K
  try simp only [Rg.gp]
  refine Rg.rd1 65 ⟨some 170,.call ⟨.value (.func 31),#[.tmp 165,.tmp 166,.tmp 168,.tmp 169],#[29,3,30,30]⟩,30,"law.go:65",#[⟨60,.data⟩,⟨61,.data⟩,⟨63,.data⟩,⟨64,.data⟩,⟨59,.chain⟩,⟨53,.guard⟩],some (53,false)⟩ fun K hK=>?_
  go_simp
  go_at_call 31
  with_reducible refine ((show Calls Try.prog 31 #[FV F b cap,.int .i64 (n : Nat),.slice aA m cA,.slice aB m2 cB] _ (MPn ME ml _) from by have t:=rmeet_c (n:=n) (A:=A) (B:=Bm) (aa:=aA) (ca:=cA) (ab:=aB) (cb:=cB) hHeld.2.2.out.1 (by omega) (by omega) (by omega) HLA.out HBL.out HMN.out HBN.out (HMA9.out.below hHeld.2.2.out.2.1) (HMB9.out.below hHeld.2.2.out.2.1); rw [hME.out] at t; exact t.mono fun _ _ h=>h.n hml.out)).mono ?_
  rintro z v14 ⟨a65,c65,rfl,hm65,hb14⟩
  replace hm59:=hm59.below hb14
  refine hK.out _ _ ?_ (fun hHeld=>?_)
  ·(try dsimp only)
   exact SKL.keep hHeld hb14
  clear hK K
  try simp only [Rg.gp]
  refine Rg.rd1 66 ⟨some 171,.call ⟨.value (.func 14),#[.tmp 164,.tmp 170],#[30,30]⟩,4,"law.go:65",#[⟨59,.data⟩,⟨65,.data⟩,⟨65,.chain⟩,⟨53,.guard⟩],some (53,false)⟩ fun K hK=>?_
  go_simp
  go_at_call 14
  with_reducible refine ((show Calls Try.prog 14 #[.slice a59 ml c59,.slice a65 ml c65] _ (fun e w'=>e = .returned (.bool true) ∧ Below _ _ w') from by have t:=alike_c (A:=ME) (B:=ME) (aa:=a59) (ca:=c59) (ab:=a65) (cb:=c65) (by rw [hml.out]; omega) (by rw [hml.out]; omega) (fun t ht=>by rw [(mrow HMEN.out ht).len]; omega) (fun t ht=>by rw [(mrow HMEN.out ht).len]; omega) (by rw [hml.out]; exact hm59) (by rw [hml.out]; exact hm65); rw [hml.out,decide_eq_true rfl] at t; exact t)).mono ?_
  rintro z v15 ⟨rfl,hb15⟩
  refine hK.out _ _ ?_ (fun hHeld=>?_)
  ·(try dsimp only)
   exact SKL.keep hHeld hb15
  clear hK K
  try simp only [Rg.gp]
  refine Rg.tk 67 ⟨some 172,.unOp UnOp.not 4 (.tmp 171),4,"law.go:65",#[⟨66,.data⟩,⟨53,.guard⟩],some (53,false)⟩ ?_
  try simp only [Rg.gp]
  refine Rg.tk 68 ⟨some 173,.pick (.tmp 158) (.const (Value.bool true)) (.tmp 172),4,"law.go:65",#[⟨53,.data⟩,⟨67,.data⟩],none⟩ ?_
  try simp only [Rg.gp]
  refine wpAnyH_done (by kernel_rfl) ?_ _
  have hb9A : Hid (Below w9.heap.size w9 v15):=Lib.hid hHeld.2.2.out.2.1
  clear hHeld hS0 hb0 hb1 hb2 hb3 hb4 hb5 hb6 hb7 hb8 hb9 hb10 hb11 hb12 hb13 hb14 hb15 hn2 hn5 hn14 hn15 hn21 hn22 hm44 hm49 hm59 hm65
  obtain ⟨wA,hwA⟩ : ∃ w,w = v15:=⟨_,rfl⟩
  subst hwA
  as_aux_lemma =>
   have HSKA : Hid (SKL F b cap n B BM (.slice aA m cA) w4 wA):=Lib.hid (HSK9.out.keep hb9A.out)
   have HMAA:=Lib.hid (HMA9.out.below hb9A.out)
   have HNVA:=Lib.hid (HNV9.out.below hb9A.out)
   have HNBA:=Lib.hid (HNB4.out.below HSKA.out.2.2.out.2.1)
   have HZA:=Lib.hid (HZB4.out.below HSKA.out.2.2.out.2.1)
   clear HMA9 HMB9 HNV9 HNW9 HSK9 hb9A hbne
   clear hs1 hX1 hE1 hl1 hl15 hs2 hX2 hE2 hls2 hl25 hhb hJ hjl HJN hjl8 hME hml HKK HMEN hml8
   obtain ⟨zr,hzr⟩ : ∃ k,Hid (z1 % 5 = k):=⟨_,Lib.hid rfl⟩
   obtain ⟨sq,hsq⟩ : ∃ k,Hid (1 + zr = k):=⟨_,Lib.hid rfl⟩
   have hzri : (z1 : Int) % 5 = (zr : Int):=by have:=hzr.out; omega
   have hzrt : (z1 : Int).tmod 5 = (zr : Int):=by rw [Int.tmod_eq_emod_of_nonneg (by omega)]; exact hzri
   have hsqb : 1 ≤ sq ∧ sq ≤ 6:=by have:=hzr.out; have:=hsq.out; omega
   have hsqi : 1 + (zr : Int) = (sq : Int):=by have:=hsq.out; omega
   have hwz1 : IntKind.i64.wrap (z1 : Int) = (z1 : Int):=IntWalk.i64_in _ (by omega)
   have hwzr : IntKind.i64.wrap (zr : Int) = (zr : Int):=IntWalk.i64_in _ (by have:=hzr.out; omega)
   have hwsq : IntKind.i64.wrap (1 + (zr : Int)) = (sq : Int):=by rw [hsqi]; exact IntWalk.i64_in _ (by omega)
   have HSQI:=Lib.hid hsqi
   clear hsqi
   have HSQ : Hid (Calls Try.prog 32 #[FV F b cap,.int .i64 (sq : Nat),.slice ab l2 ca2] wA fun e w'=>∃ R,Mn F sq R ∧ R.length = sq ∧ MPn R sq wA e w'):=Lib.hid (square_c HSKA.out.2.2.out.1 hsqb.1 hsqb.2 (by omega) HNBA.out)
   obtain ⟨x0,x1,x2⟩:=HSKA.out.1
   obtain ⟨k0,k1,k2,k3,k4,k5⟩:=HZA.out
   clear k0 k2 k3 k4 k5
   go_wp2_with fail
   with_reducible refine HSQ.out.mono ?_
   rintro e wB ⟨Sm,hsn,hsl,aS,cS,rfl,hms,hbB⟩
   have HSN:=Lib.hid hsn
   have HSL:=Lib.hid hsl
   have HMSB:=Lib.hid hms
   have HSKB : Hid (SKL F b cap n B BM (.slice aA m cA) w4 wB):=Lib.hid (HSKA.out.keep hbB)
   have HMAB:=Lib.hid (HMAA.out.below hbB)
   have HNVB:=Lib.hid (HNVA.out.below hbB)
   clear hsn hsl hms hbB HSQ x0 x1 x2 k1 HMAA HNVA HNBA HZA HSKA
   obtain ⟨s3,hs3⟩ : ∃ s,Hid (invM F sq Sm = s):=⟨_,Lib.hid rfl⟩
   obtain ⟨X3,hX3⟩ : ∃ s,Hid (ivX s3 = s):=⟨_,Lib.hid rfl⟩
   obtain ⟨E3,hE3⟩ : ∃ s,Hid (ivE s3 = s):=⟨_,Lib.hid rfl⟩
   obtain ⟨l3,hl3⟩ : ∃ s,Hid (X3.length = s):=⟨_,Lib.hid rfl⟩
   have HX3 : Hid (l3 ≤ 48 ∧ ∀ t,t < X3.length → (X3.getD t []).length ≤ 24):=Lib.hid (ivx_ok HFF.out (by omega) HSN.out HSL.out hs3.out hX3.out hl3.out)
   have hl35:=HX3.out.1
   have HIV : Hid (Calls Try.prog 33 #[FV F b cap,.slice aS sq cS] wB (IvU X3 E3 l3 wB)):=Lib.hid (by
    have t:=inverted_c HSKB.out.2.2.out.1 hsqb.1 (by omega) HSL.out HSN.out HMSB.out (fun x hx t ht=>by rw [(iv_ok HFF.out HSN.out HSL.out x hx).2 t ht]; exact hsqb.1)
    rw [hs3.out] at t; exact t.mono fun _ _ h=>h.u hX3.out hE3.out hl3.out)
   obtain ⟨x0,x1,x2⟩:=HSKB.out.1
   go_wp2_with fail
   with_reducible refine HIV.out.mono ?_
   rintro e wC ⟨a33,c33,rfl,hm33,hbC⟩
   obtain ⟨wD,hwD⟩ : ∃ w,w = wC.alloc (.cells #[.slice a33 l3 c33,.int .i64 (E3 : Nat)] 53):=⟨_,rfl⟩
   obtain ⟨g33,hg33⟩ : ∃ g,g = wC.heap.size:=⟨_,rfl⟩
   have hCD : Below wC.heap.size wC wD:=by rw [hwD]; exact (Below.refl _ _).alloc (Nat.le_refl _) _
   have HP3 : Hid (wD.cell? ⟨g33,0,none⟩ = some (.slice a33 l3 c33) ∧ wD.cell? ⟨g33,1,none⟩ = some (.int .i64 (E3 : Nat)) ∧ g33 < wD.heap.size):=Lib.hid (by rw [hwD,hg33]; exact ⟨World.cell?_alloc_at _ _ _ _ rfl,World.cell?_alloc_at _ _ _ _ rfl,by simp⟩)
   have hBD : Below wB.heap.size wB wD:=hbC.trans (hCD.mono hbC.size)
   have HM33:=Lib.hid (hm33.below hCD)
   have HSKD : Hid (SKL F b cap n B BM (.slice aA m cA) w4 wD):=Lib.hid (HSKB.out.keep hBD)
   have HMAD:=Lib.hid (HMAB.out.below hBD)
   have HNVD:=Lib.hid (HNVB.out.below hBD)
   have HMSD:=Lib.hid (HMSB.out.below hBD)
   have HWD:=Lib.hid (And.intro hwD hg33)
   clear hm33 hbC hCD hBD HIV x0 x1 x2 hwD hg33 HMSB HMAB HNVB HSKB
   go_upto_region 16 with fail
   rw [← HWD.out.1,← HWD.out.2]
   clear HWD
   have HIR : Hid (Calls Try.prog 34 #[FV F b cap,.slice aS sq cS] wD (IvU X3 E3 l3 wD)):=Lib.hid (by
    have t:=rinv34_c HSKD.out.2.2.out.1 hsqb.1 (by omega) HSL.out HSN.out HMSD.out
    rw [hs3.out] at t; exact t.mono fun _ _ h=>h.u hX3.out hE3.out hl3.out)
   obtain ⟨x0,x1,x2⟩:=HSKD.out.1
   go_wp2_with fail
   with_reducible refine HIR.out.mono ?_
   rintro e wE ⟨a34,c34,rfl,hm34,hbE⟩
   obtain ⟨wF,hwF⟩ : ∃ w,w = wE.alloc (.cells #[.slice a34 l3 c34,.int .i64 (E3 : Nat)] 53):=⟨_,rfl⟩
   obtain ⟨g34,hg34⟩ : ∃ g,g = wE.heap.size:=⟨_,rfl⟩
   have hEF : Below wE.heap.size wE wF:=by rw [hwF]; exact (Below.refl _ _).alloc (Nat.le_refl _) _
   have HP4 : Hid (wF.cell? ⟨g34,0,none⟩ = some (.slice a34 l3 c34) ∧ wF.cell? ⟨g34,1,none⟩ = some (.int .i64 (E3 : Nat))):=Lib.hid (by rw [hwF,hg34]; exact ⟨World.cell?_alloc_at _ _ _ _ rfl,World.cell?_alloc_at _ _ _ _ rfl⟩)
   have hDF : Below wD.heap.size wD wF:=hbE.trans (hEF.mono hbE.size)
   have HP3F : Hid (wF.cell? ⟨g33,0,none⟩ = some (.slice a33 l3 c33) ∧ wF.cell? ⟨g33,1,none⟩ = some (.int .i64 (E3 : Nat))):=Lib.hid ⟨(hDF.cell (p:=⟨g33,0,none⟩) HP3.out.2.2).trans HP3.out.1,(hDF.cell (p:=⟨g33,1,none⟩) HP3.out.2.2).trans HP3.out.2.1⟩
   have HAL3 : Hid (Calls Try.prog 14 #[.slice a33 l3 c33,.slice a34 l3 c34] wF fun e w'=>e = .returned (.bool true) ∧ Below wF.heap.size wF w'):=Lib.hid (by
    have t:=alike_c (A:=X3) (B:=X3) (aa:=a33) (ca:=c33) (ab:=a34) (cb:=c34) (W:=wF) (by rw [hl3.out]; omega) (by rw [hl3.out]; omega) (fun t ht=>Nat.le_trans (HX3.out.2 t ht) (by omega)) (fun t ht=>Nat.le_trans (HX3.out.2 t ht) (by omega)) (by rw [hl3.out]; exact HM33.out.below hDF) (by rw [hl3.out]; exact hm34.below hEF)
    rw [hl3.out,decide_eq_true rfl] at t; exact t)
   have HSKF : Hid (SKL F b cap n B BM (.slice aA m cA) w4 wF):=Lib.hid (HSKD.out.keep hDF)
   have HMAF:=Lib.hid (HMAD.out.below hDF)
   have HNVF:=Lib.hid (HNVD.out.below hDF)
   have HWF:=Lib.hid (And.intro hwF hg34)
   clear hm34 hbE hEF hDF HIR x0 x1 x2 hwF hg34 HMSD HMAD HNVD HSKD HM33 HP3
   go_upto_region 17 with fail
   rw [← HWF.out.1,← HWF.out.2]
   clear HWF
   obtain ⟨p0,p1⟩:=HP3F.out
   obtain ⟨q0,q1⟩:=HP4.out
   have hEE : ((E3 : Int) != (E3 : Int)) = false:=by simp
   go_wp2_with fail
   with_reducible refine HAL3.out.mono ?_
   rintro e wG ⟨rfl,hbG⟩
   have HSKG : Hid (SKL F b cap n B BM (.slice aA m cA) w4 wG):=Lib.hid (HSKF.out.keep hbG)
   have HMAG:=Lib.hid (HMAF.out.below hbG)
   have HNVG:=Lib.hid (HNVF.out.below hbG)
   have HZG:=Lib.hid (HZB4.out.below HSKG.out.2.2.out.2.1)
   clear hbG p0 p1 q0 q1 HAL3 HP3F HP4 HSKF HMAF HNVF HX3 hl35 hs3 hX3 hE3 hl3 hEE HSN HSL
   as_aux_lemma =>
    obtain ⟨i0,hi,hz0,hz1,hz2⟩:=info_parts info3
    obtain ⟨j0,ji,jz0,jz1,jz2⟩:=info_parts info27
    obtain ⟨us,u1,u2,u3,u4⟩:=MM.src HLA.out HMAG.out
    have HU:=Lib.hid (And.intro u1 (And.intro u2 (And.intro u3 u4)))
    clear u1 u2 u3 u4
    obtain ⟨bs,HBS⟩ : ∃ g,Hid (g = wG.heap.size):=⟨_,Lib.hid rfl⟩
    have HOW0 : Hid ((wG.alloc (.cells #[] 27)).ownsRow bs 27 1 (.slice (some ⟨wG.heap.size,0,none⟩) 0 0) 0 []):=Lib.hid (own_empty27 wG bs (Nat.le_of_eq HBS.out))
    obtain ⟨q0,q1,q2,q3,q4⟩:=HSKG.out.2.1
    have q4a : (wG.alloc (.cells #[] 27)).cell? ⟨BM,4,none⟩ = some (.slice aA m cA):=(World.cell?_alloc_lt _ _ _ (World.block_lt_of_cell? wG _ q4)).trans q4
    have HAA0 : Hid (Below wG.heap.size wG (wG.alloc (.cells #[] 27))):=Lib.hid ((Below.refl _ _).alloc (Nat.le_refl _) _)
    go_wp2_with (at_builtin; refine wpList_append_src _ rfl _ _ 30 rfl bs 27 j0 (.slice none 0 0) 1 24 Try.underlying30 ji jz0 jz1 jz2 rfl (by decide) (.slice (some ⟨wG.heap.size,0,none⟩) 0 0) 0 [] rfl HOW0.out aA m cA us rfl (HU.out.2.2.2 _ HAA0.out) HU.out.2.1 ?c3 ?c4 ?c5 ?_)
    case c3=>unfold maxLen; omega
    case c4=>omega
    case c5=>simp [HBS.out]
    intro v1 wH hown1 hgrow1
    have hGH : Below wG.heap.size wG wH:=HAA0.out.trans (below_own hgrow1 (fun k e=>by simp [Value.ownBlock] at e; omega) (by simp))
    have HGH:=Lib.hid hGH
    have HO1 : Hid (wH.ownsRow bs 27 1 v1 m us):=Lib.hid (by simpa using hown1)
    obtain ⟨aO,cO,hv1⟩:=own_slice27 HO1.out
    subst hv1
    have HNVH:=Lib.hid (HNVG.out.below hGH)
    clear hGH hown1 hgrow1 HOW0 HAA0 q4a q0 q1 q2 q3 q4
    obtain ⟨bV,oV,rfl,-⟩:=HNVH.out.atm HVV.out.len (k:=0) (by omega)
    have HOR0 : Hid ((wH.alloc (.cells #[] 3)).ownsRow wH.heap.size 3 1 (.slice (some ⟨wH.heap.size,0,none⟩) 0 0) 0 []):=Lib.hid (own_empty wH wH.heap.size (Nat.le_refl _))
    have HAA1 : Hid (Below wH.heap.size wH (wH.alloc (.cells #[] 3))):=Lib.hid ((Below.refl _ _).alloc (Nat.le_refl _) _)
    go_wp2_with (at_builtin; refine wpList_append_own _ rfl _ _ 27 rfl wH.heap.size 3 i0 (.int .i64 0) 1 8 Try.underlying27 hi hz0 hz1 hz2 rfl (by decide) (.slice (some ⟨wH.heap.size,0,none⟩) 0 0) 0 [] rfl HOR0.out ⟨bV,oV,none⟩ n cV (V.map N64) rfl ?e0 ?e1 ?e2 ?e3 ?e4 ?e5 ?_)
    case e0=>rw [List.length_map,HVV.out.len]; try rw [Nat.mul_one]
    case e1 =>
     have hcv : ∀ t,t < V.length → (wH.alloc (.cells #[] 3)).cell? ⟨bV,oV + t,none⟩ = some (.int .i64 (V.getD t 0 : Nat)):=fun t ht=>by
      have:=(HNVH.out.below HAA1.out).atm HVV.out.len (k:=t) (by rw [← HVV.out.len]; exact ht)
      obtain ⟨b',o',e,h⟩:=this
      injection e with e; injection e with e1 e2
      subst e1 e2
      exact h
     first | exact num_cellsK hcv | exact num_cellsP hcv
    case e2=>intro u hu; obtain ⟨y,_,rfl⟩:=List.mem_map.1 hu; rfl
    case e3=>unfold maxLen; omega
    case e4=>omega
    case e5=>simp
    intro v2 wI hown2 hgrow2 hnil2
    have HBI : Hid (Below wH.heap.size wH wI):=Lib.hid (HAA1.out.trans (below_own hgrow2 (fun k e=>by simp [Value.ownBlock] at e; omega) (by simp)))
    have HR2 : Hid (wI.ownsRow wH.heap.size 3 1 v2 n (V.map N64)):=Lib.hid (by simpa using hown2)
    obtain ⟨gr,cr,rfl⟩ : ∃ g c,v2 = .slice (some ⟨g,0,none⟩) n c:=by
     rcases HR2.out.2 with ⟨_,e⟩ | ⟨g,c,_,e,_⟩
     ·omega
     ·exact ⟨g,c,e⟩
    have HGR : Hid (wH.heap.size ≤ gr ∧ gr < wI.heap.size):=Lib.hid (World.ownsRow.lt HR2.out gr rfl)
    clear hown2 hgrow2 hnil2 HOR0 HAA1
    obtain ⟨i2,hi2⟩ : ∃ k,Hid (z2 % n = k):=⟨_,Lib.hid rfl⟩
    have hi2n : i2 < n:=by rw [← hi2.out]; exact Nat.mod_lt _ (by omega)
    have hi2i : (z2 : Int) % (n : Int) = (i2 : Int):=by rw [← hi2.out]; omega
    have hi2t : (z2 : Int).tmod (n : Int) = (i2 : Int):=by rw [Int.tmod_eq_emod_of_nonneg (by omega)]; exact hi2i
    have hnz : ¬ n = 0:=by omega
    have hnz2 : ¬ (n : Int) = 0:=by omega
    have hi2ni : (i2 : Int) < (n : Int):=by omega
    have hwz2 : IntKind.i64.wrap (z2 : Int) = (z2 : Int):=IntWalk.i64_in _ (by omega)
    have hwi2 : IntKind.i64.wrap (i2 : Int) = (i2 : Int):=IntWalk.i64_in _ (by omega)
    have hwz3 : IntKind.i64.wrap (z3 : Int) = (z3 : Int):=IntWalk.i64_in _ (by omega)
    obtain ⟨d3,hd3⟩ : ∃ d : Int,(z3 : Int) - 100 = d:=⟨_,rfl⟩
    have hwd3 : IntKind.i64.wrap ((z3 : Int) - 100) = d3:=by rw [hd3]; exact IntWalk.i64_in _ (by omega)
    have hwd4 : IntKind.i64.wrap d3 = d3:=IntWalk.i64_in _ (by omega)
    clear hd3
    have HZI:=Lib.hid ((HZG.out.below HGH.out).below HBI.out)
    obtain ⟨k0,k1,k2,k3,k4,k5⟩:=HZI.out
    have cR : wI.cell? ⟨gr,i2,none⟩ = some (.int .i64 (V.getD i2 0 : Nat)):=by
     have h:=World.ownsRow.cellAt HR2.out i2 (by omega)
     rw [List.getElem?_map,List.getElem?_eq_getElem (by rw [HVV.out.len]; exact hi2n)] at h
     rw [List.getD_eq_getElem?_getD,List.getElem?_eq_getElem (by rw [HVV.out.len]; exact hi2n)]
     exact h
    have fR:=World.ownsRow.frozenAt HR2.out i2
    have cR' : wI.drew.cell? ⟨gr,i2,none⟩ = some (.int .i64 (V.getD i2 0 : Nat)):=cR
    have fR' : wI.drew.frozen? ⟨gr,i2,none⟩ = false:=fR
    have HZH:=Lib.hid (HZG.out.below HGH.out)
    have hS0 : ZB5 GZ z0 z1 z2 z3 z4 wI.drew ∧ Hid (Below wH.heap.size wH wI.drew):=⟨HZH.out.below HBI.out.drew,Lib.hid HBI.out.drew⟩
    clear k0 k1 k2 k3 k4 k5 cR fR
    go_wp2_with fail
    refine wp_region_held_drew (S:=fun w'=>ZB5 GZ z0 z1 z2 z3 z4 w' ∧ Hid (Below wH.heap.size wH w')) (by kernel_rfl) (by with_reducible exact hS0) (fun hHeld=>?_)
    refine Rg.tk 0 ⟨some 208,.move (.tmp 18),27,"law.go:76",#[],none⟩ ?_
    try simp only [Rg.gp]
    refine Rg.tk 1 ⟨some 209,.indexAddr 25 (.tmp 5) (.const (Value.int IntKind.i64 2)),0,"law.go:76",#[],none⟩ ?_
    try simp only [Rg.gp]
    refine Rg.tk 2 ⟨some 210,.load 5 (.tmp 209),5,"law.go:76",#[⟨1,.data⟩],none⟩ ?_
    try simp only [Rg.gp]
    refine Rg.tk 3 ⟨some 211,.convert 5 3 (.tmp 210),3,"law.go:76",#[⟨2,.data⟩],none⟩ ?_
    try simp only [Rg.gp]
    refine Rg.tk 4 ⟨some 212,.move (.tmp 10),3,"law.go:76",#[],none⟩ ?_
    try simp only [Rg.gp]
    refine Rg.tk 5 ⟨some 213,.binOp BinOp.rem 3 (.tmp 211) (.tmp 212) 3,3,"law.go:76",#[⟨3,.data⟩,⟨4,.data⟩],none⟩ ?_
    try simp only [Rg.gp]
    refine Rg.tk 6 ⟨some 214,.indexAddr 25 (.tmp 5) (.const (Value.int IntKind.i64 3)),0,"law.go:76",#[],none⟩ ?_
    try simp only [Rg.gp]
    refine Rg.tk 7 ⟨some 215,.load 5 (.tmp 214),5,"law.go:76",#[⟨6,.data⟩],none⟩ ?_
    try simp only [Rg.gp]
    refine Rg.tk 8 ⟨some 216,.convert 5 3 (.tmp 215),3,"law.go:76",#[⟨7,.data⟩],none⟩ ?_
    try simp only [Rg.gp]
    refine Rg.tk 9 ⟨some 217,.binOp BinOp.sub 3 (.tmp 216) (.const (Value.int IntKind.i64 100)) 3,3,"law.go:76",#[⟨8,.data⟩],none⟩ ?_
    try simp only [Rg.gp]
    refine Rg.tk 10 ⟨some 218,.indexAddr 27 (.tmp 208) (.tmp 213),0,"law.go:76",#[⟨0,.data⟩,⟨5,.data⟩,⟨0,.phase⟩,⟨1,.phase⟩,⟨2,.phase⟩,⟨3,.phase⟩,⟨4,.phase⟩,⟨5,.phase⟩,⟨6,.phase⟩,⟨7,.phase⟩,⟨8,.phase⟩,⟨9,.phase⟩],none⟩ ?_
    try simp only [Rg.gp]
    refine Rg.rd1 11 ⟨none,.store 3 (.tmp 218) (.tmp 217),0,"law.go:76",#[⟨10,.data⟩,⟨9,.data⟩,⟨0,.phase⟩,⟨1,.phase⟩,⟨2,.phase⟩,⟨3,.phase⟩,⟨4,.phase⟩,⟨5,.phase⟩,⟨6,.phase⟩,⟨7,.phase⟩,⟨8,.phase⟩,⟨9,.phase⟩],none⟩ fun K hK=>?_
    go_simp
    refine hK.out _ _ ?_ (fun hHeld=>?_)
    ·(try dsimp only)
     exact ⟨HZH.out.below (HBI.out.setCell (p:=⟨gr,i2,none⟩) HGR.out.1 _).drew,Lib.hid (HBI.out.setCell (p:=⟨gr,i2,none⟩) HGR.out.1 _).drew⟩
    clear hK K
    try simp only [Rg.gp]
    refine wpAnyH_done (by kernel_rfl) ?_ _
    obtain ⟨wJ,hwJ⟩ : ∃ w,w = (wI.setCell ⟨gr,i2,none⟩ (.int .i64 d3)).drew:=⟨_,rfl⟩
    clear hHeld hS0
    rw [← hwJ]
    have HBJ : Hid (Below wH.heap.size wH wJ):=Lib.hid (by rw [hwJ]; exact (HBI.out.setCell (p:=⟨gr,i2,none⟩) HGR.out.1 _).drew)
    have HRJ : Hid (wJ.ownsRow wH.heap.size 3 1 (.slice (some ⟨gr,0,none⟩) n cr) n (((iL V).set i2 d3).map fun x=>Value.int .i64 x)):=Lib.hid (by
     rw [hwJ,List.map_set,show (iL V).map (fun x=>Value.int .i64 x) = V.map N64 from by unfold iL; rw [List.map_map]; rfl]
     exact (World.ownsRow.stored HR2.out i2 (.int .i64 d3)).1)
    have HOJ:=Lib.hid (own_belowK HO1.out HBJ.out)
    have HKJ : Hid (bs ≤ wJ.heap.size):=Lib.hid (by rw [HBS.out]; exact Nat.le_trans HGH.out.size HBJ.out.size)
    have HGJ : Hid (Below bs wG wJ):=Lib.hid (by rw [HBS.out]; exact HGH.out.trans (HBJ.out.mono HGH.out.size))
    clear cR' fR' hwJ hwd3 hwd4 hi2i hi2t hnz hnz2 hi2ni hwz2 hwi2 hwz3
    go_wp2_with (at_builtin; refine wpList_append_own_at _ rfl _ _ 30 rfl bs 27 j0 (.slice none 0 0) 1 24 Try.underlying30 ji jz0 jz1 jz2 rfl (by decide) _ _ _ rfl (HOJ.out.alloc _) ⟨wJ.heap.size,0,none⟩ 1 1 [.slice (some ⟨gr,0,none⟩) n cr] rfl rfl (cell_one_new _ _ _) (fun u hu=>by simp at hu; subst hu; rfl) ?d3 ?d4 ?d5 ?_)
    case d3=>unfold maxLen; omega
    case d4=>omega
    case d5=>have:=HKJ.out; simp; omega
    intro v3 wK hown3 hgrow3 hnil3 hat3
    have hal3 : Below wJ.heap.size wJ (wJ.alloc (.cells #[.slice (some ⟨gr,0,none⟩) n cr] 27)):=(Below.refl _ _).alloc (Nat.le_refl _) _
    have HGK : Hid (Below bs wG wK):=Lib.hid ((HGJ.out.alloc HKJ.out _).trans (Bx.below (Bx.grown hgrow3 fun j hj=>(HOJ.out.lt j hj).1) (by have:=HKJ.out; simp; omega) fun j hj=>hj))
    have HGKS : Hid (Below wG.heap.size wG wK):=Lib.hid (by rw [← HBS.out]; exact HGK.out)
    obtain ⟨D,hD⟩ : ∃ D,Hid (A.map iL ++ [(iL V).set i2 d3] = D):=⟨_,Lib.hid rfl⟩
    have HDL : Hid (D.length = m + 1):=Lib.hid (by rw [← hD.out,List.length_append,List.length_map,HLA.out]; rfl)
    have HIL : Hid (((iL V).set i2 d3).length = n):=Lib.hid (by rw [List.length_set,iL_len,HVV.out.len])
    have HMK : Hid (Iv.MM D wK v3):=Lib.hid (iv_mm_of_own HDL.out hown3 fun i hi=>by
     have hbx : Bx (fun k=>some k = (Value.slice aO m cO).ownBlock) (wJ.alloc (.cells #[.slice (some ⟨gr,0,none⟩) n cr] 27)) wK:=⟨hgrow3.os,hgrow3.tape,hgrow3.output,hgrow3.size,hgrow3.block⟩
     rw [← hD.out,getD_snoc,getD_snoc,HU.out.1,List.length_map,HLA.out]
     by_cases e : i < m
     ·rw [if_pos e,if_pos e,iA_get (by rw [HLA.out]; exact e)]
      exact iv_of_nn ((HU.out.2.2.1 i e).below HGKS.out)
     ·have e2 : i = m:=by omega
      rw [if_neg e,if_neg e,if_pos e2,if_pos e2]
      have hr:=own_belowK HRJ.out hal3
      exact iv_of_own HIL.out (own_bx2 hr hbx (own_ty hr (own_belowK HOJ.out hal3) (by decide))))
    have HDR : Hid (∀ t,t < D.length → (D.getD t []).length ≤ 1000):=Lib.hid (fun t ht=>by
     rw [HDL.out] at ht
     rw [← hD.out,getD_snoc,List.length_map,HLA.out]
     by_cases e : t < m
     ·rw [if_pos e,iA_get (by rw [HLA.out]; exact e),iL_len,(mrow HMN.out (by rw [HLA.out]; exact e)).len]; omega
     ·rw [if_neg e,if_pos (by omega),HIL.out]; omega)
    obtain ⟨aD,cD,hv3⟩:=own_slice27 hown3
    subst hv3
    clear hown3 hgrow3 hnil3 hat3 hal3 HRJ HOJ HKJ HGJ HBJ HR2 HO1 HBI HGH HU HGR
    have HSKK : Hid (SKL F b cap n B BM (.slice aA m cA) w4 wK):=Lib.hid (HSKG.out.keep HGKS.out)
    have HMAK:=Lib.hid (HMAG.out.below HGKS.out)
    have HZK:=Lib.hid (HZG.out.below HGKS.out)
    obtain ⟨e4,he4⟩ : ∃ k,Hid (z4 % 4 = k):=⟨_,Lib.hid rfl⟩
    have he43 : e4 ≤ 3:=by have:=he4.out; omega
    have he4i : (z4 : Int) % 4 = (e4 : Int):=by have:=he4.out; omega
    have he4t : (z4 : Int).tmod 4 = (e4 : Int):=by rw [Int.tmod_eq_emod_of_nonneg (by omega)]; exact he4i
    obtain ⟨w30,hw30⟩ : ∃ k,Hid (z4 % 30 = k):=⟨_,Lib.hid rfl⟩
    have hw30b : w30 ≤ 29:=by have:=hw30.out; omega
    have hw30i : (z4 : Int) % 30 = (w30 : Int):=by have:=hw30.out; omega
    have hw30t : (z4 : Int).tmod 30 = (w30 : Int):=by rw [Int.tmod_eq_emod_of_nonneg (by omega)]; exact hw30i
    have hwz4 : IntKind.i64.wrap (z4 : Int) = (z4 : Int):=IntWalk.i64_in _ (by omega)
    have hwe4 : IntKind.i64.wrap (e4 : Int) = (e4 : Int):=IntWalk.i64_in _ (by omega)
    have hww4 : IntKind.i64.wrap (w30 : Int) = (w30 : Int):=IntWalk.i64_in _ (by omega)
    obtain ⟨x0,x1,x2⟩:=HSKK.out.1
    obtain ⟨wL,hwL⟩ : ∃ w,w = wK.alloc (.cells #[.int .i64 F.p,.int .i64 F.e,FM F b cap] 29):=⟨_,rfl⟩
    obtain ⟨gg,hgg⟩ : ∃ g,g = wK.heap.size:=⟨_,rfl⟩
    have hKL : Below wK.heap.size wK wL:=by rw [hwL]; exact (Below.refl _ _).alloc (Nat.le_refl _) _
    have HLC : Hid ((wL.cell? ⟨gg,0,none⟩ = some (.int .i64 F.p) ∧ wL.cell? ⟨gg,1,none⟩ = some (.int .i64 F.e) ∧ wL.cell? ⟨gg,2,none⟩ = some (FM F b cap)) ∧ wL.frozen? ⟨gg,1,none⟩ = false ∧ gg < wL.heap.size):=Lib.hid (by
     rw [hwL,hgg]; exact ⟨⟨World.cell?_alloc_at _ _ _ _ rfl,World.cell?_alloc_at _ _ _ _ rfl,World.cell?_alloc_at _ _ _ _ rfl⟩,World.frozen?_alloc_at _ _ _ _ rfl,by simp⟩)
    have HZL:=Lib.hid (HZK.out.below hKL)
    have HKL:=Lib.hid hKL
    have HGG : Hid (wK.heap.size ≤ gg):=Lib.hid (Nat.le_of_eq hgg.symm)
    have HWL:=Lib.hid (And.intro hwL hgg)
    clear hKL hwL hgg
    go_upto_region 24 with fail
    rw [← HWL.out.1,← HWL.out.2]
    clear HWL x0 x1 x2
    obtain ⟨y0,y1,y2⟩:=HLC.out.1
    have fy:=HLC.out.2.1
    obtain ⟨k0,k1,k2,k3,k4,k5⟩:=HZL.out
    clear k0 k1 k2 k3 k5
    go_upto_region 25 with fail
    obtain ⟨wM,hwM⟩ : ∃ w,w = wL.setCell ⟨gg,1,none⟩ (.int .i64 (e4 : Nat)):=⟨_,rfl⟩
    rw [← hwM]
    have HKM : Hid (Below wK.heap.size wK wM):=Lib.hid (by rw [hwM]; exact HKL.out.setCell (p:=⟨gg,1,none⟩) HGG.out _)
    have HGM : Hid (GB gg F.p e4 F.e b cap wM ∧ gg < wM.heap.size):=Lib.hid (by
     rw [hwM]
     refine ⟨⟨?_,?_,?_⟩,by simp [World.setCell]; exact HLC.out.2.2⟩
     ·rw [oth _ (by decide)]; exact y0
     ·exact World.cell?_setCell_same _ _ _ y1
     ·rw [oth _ (by decide)]; exact y2)
    clear hwM y0 y1 y2 fy k4 HLC HZL HKL
    have HSKM : Hid (SKL F b cap n B BM (.slice aA m cA) w4 wM):=Lib.hid (HSKK.out.keep HKM.out)
    have HMAM:=Lib.hid (HMAK.out.below HKM.out)
    have HMDM:=Lib.hid (HMK.out.below HKM.out)
    have HZM:=Lib.hid (HZK.out.below HKM.out)
    have HFM:=Lib.hid HSKM.out.2.2.out.1
    obtain ⟨B1,hB1⟩ : ∃ B1,Hid ((decide (1 ≤ n ∧ n ≤ 24) && Iv.vdM F.q n D) = B1):=⟨_,Lib.hid rfl⟩
    obtain ⟨B2,hB2⟩ : ∃ B2,Hid ((decide (1 ≤ w30 ∧ w30 ≤ 24) && Iv.vdM F.q w30 (A.map iL)) = B2):=⟨_,Lib.hid rfl⟩
    have HIR : Hid (∀ t,t < (A.map iL).length → ((A.map iL).getD t []).length ≤ 1000):=Lib.hid (fun t ht=>by
     rw [List.length_map] at ht
     rw [iA_get ht,iL_len,(mrow HMN.out ht).len]; omega)
    have HILN : Hid ((A.map iL).length = m):=Lib.hid (by rw [List.length_map,HLA.out])
    obtain ⟨B3,HB3⟩ : ∃ B3 : Bool,Hid (∀ w,FldAt F b cap w → MM A w (.slice aA m cA) →
      Calls Try.prog 13 #[GV F.p e4 F.e b cap,.int .i64 (n : Nat),.slice aA m cA] w (fun r w'=>r = .returned (.bool B3) ∧ Below w.heap.size w w') ∧
      Calls Try.prog 35 #[GV F.p e4 F.e b cap,.int .i64 (n : Nat),.slice aA m cA] w (fun r w'=>r = .returned (.bool B3) ∧ Below w.heap.size w w')):=by
     obtain ⟨B3,h⟩:=g_both (F:=F) (b:=b) (cap:=cap) (n:=n) (m:=m) (ca:=cA) (e:=e4) (A:=A) (aa:=aA) HTK.out he43 (by omega) (by omega) (by omega) HLA.out HMN.out
     exact ⟨B3,Lib.hid h⟩
    have HC1 : Hid (∀ w,Below wM.heap.size wM w → Calls Try.prog 13 #[FV F b cap,.int .i64 (n : Nat),.slice aD (m + 1) cD] w fun e w'=>e = .returned (.bool B1) ∧ Below w.heap.size w w'):=Lib.hid (fun w h=>by
     have t:=Iv.svalid_c (n:=n) (m:=m + 1) (A:=D) (aa:=aD) (ca:=cD) HTK.out (HFM.out.below h) (by omega) (by omega) HDL.out HDR.out (HMDM.out.below h)
     rw [iv_eq (by omega),hB1.out] at t; exact t)
    have HC2 : Hid (∀ w,Below wM.heap.size wM w → Calls Try.prog 35 #[FV F b cap,.int .i64 (n : Nat),.slice aD (m + 1) cD] w fun e w'=>e = .returned (.bool B1) ∧ Below w.heap.size w w'):=Lib.hid (fun w h=>by
     have t:=Iv.rvalid35_c (n:=n) (m:=m + 1) (A:=D) (aa:=aD) (ca:=cD) HTK.out (HFM.out.below h) (by omega) (by omega) HDL.out HDR.out (HMDM.out.below h)
     rw [hB1.out] at t; exact t)
    have HC3 : Hid (∀ w,Below wM.heap.size wM w → Calls Try.prog 13 #[FV F b cap,.int .i64 (w30 : Nat),.slice aA m cA] w fun e w'=>e = .returned (.bool B2) ∧ Below w.heap.size w w'):=Lib.hid (fun w h=>by
     have t:=Iv.svalid_c (n:=w30) (m:=m) (A:=A.map iL) (aa:=aA) (ca:=cA) HTK.out (HFM.out.below h) (by omega) (by omega) HILN.out HIR.out (iv_of_mm (HMAM.out.below h))
     rw [iv_eq (by omega),hB2.out] at t; exact t)
    have HC4 : Hid (∀ w,Below wM.heap.size wM w → Calls Try.prog 35 #[FV F b cap,.int .i64 (w30 : Nat),.slice aA m cA] w fun e w'=>e = .returned (.bool B2) ∧ Below w.heap.size w w'):=Lib.hid (fun w h=>by
     have t:=Iv.rvalid35_c (n:=w30) (m:=m) (A:=A.map iL) (aa:=aA) (ca:=cA) HTK.out (HFM.out.below h) (by omega) (by omega) HILN.out HIR.out (iv_of_mm (HMAM.out.below h))
     rw [hB2.out] at t; exact t)
    have hbe1 : (B1 == B1) = true:=by cases B1 <;> rfl
    have hbe2 : (B2 == B2) = true:=by cases B2 <;> rfl
    have hbe3 : (B3 == B3) = true:=by cases B3 <;> rfl
    have HBM : Hid (Below W.heap.size W wM):=Lib.hid (HB4.out.trans ((HSKM.out.2.2.out.2.1).mono HB4.out.size))
    have HGZ : Hid (GZ < wM.heap.size):=Lib.hid HZM.out.2.2.2.2.2
    have hS0 : SKG F b cap n B BM (.slice aA m cA) GZ z4 gg e4 wM wM.drew:=SKG.keep (w:=wM) ⟨⟨HSKM.out.1,HSKM.out.2.1,Lib.hid ⟨HSKM.out.2.2.out.1,Below.refl _ _,HSKM.out.2.2.out.2.2⟩⟩,HZM.out.2.2.2.2.1,HGM.out.1,Lib.hid ⟨HGZ.out,HGM.out.2⟩⟩ (Below.refl _ _).drew
    as_aux_lemma =>
     refine wp_region_held_drew (S:=fun w'=>SKG F b cap n B BM (.slice aA m cA) GZ z4 gg e4 wM w') (by kernel_rfl) (by with_reducible exact hS0) (fun hHeld=>?_)
     refine Rg.tk 0 ⟨some 229,.move (.tmp 7),4,"law.go:80",#[],none⟩ ?_
     try simp only [Rg.gp]
     refine Rg.tk 1 ⟨some 230,.move (.tmp 229),4,"law.go:80",#[⟨0,.data⟩],none⟩ ?_
     try simp only [Rg.gp]
     refine Rg.tk 2 ⟨some 231,.load 29 (.tmp 9),29,"law.go:80",#[⟨1,.guard⟩],some (1,true)⟩ ?_
     try simp only [Rg.gp]
     refine Rg.tk 3 ⟨some 232,.move (.tmp 10),3,"law.go:80",#[⟨1,.guard⟩],some (1,true)⟩ ?_
     try simp only [Rg.gp]
     refine Rg.tk 4 ⟨some 233,.move (.tmp 17),30,"law.go:80",#[⟨1,.guard⟩],some (1,true)⟩ ?_
     try simp only [Rg.gp]
     refine Rg.tk 6 ⟨some 235,.load 29 (.tmp 9),29,"law.go:80",#[⟨1,.guard⟩],some (1,true)⟩ ?_
     try simp only [Rg.gp]
     refine Rg.tk 7 ⟨some 236,.move (.tmp 10),3,"law.go:80",#[⟨1,.guard⟩],some (1,true)⟩ ?_
     try simp only [Rg.gp]
     refine Rg.tk 8 ⟨some 237,.move (.tmp 17),30,"law.go:80",#[⟨1,.guard⟩],some (1,true)⟩ ?_
     try simp only [Rg.gp]
     refine Rg.rd1 5 ⟨some 234,.call ⟨.value (.func 13),#[.tmp 231,.tmp 232,.tmp 233],#[29,3,30]⟩,4,"law.go:80",#[⟨2,.data⟩,⟨3,.data⟩,⟨4,.data⟩,⟨1,.chain⟩,⟨1,.guard⟩],some (1,true)⟩ fun K hK=>?_
     go_simp
     go_at_call 13
     with_reducible refine ((show Calls Try.prog 13 #[FV F b cap,.int .i64 (n : Nat),.slice aD (m + 1) cD] _ (fun e w'=>e = .returned (.bool B1) ∧ Below _ _ w') from HC1.out _ hHeld.1.2.2.out.2.1)).mono ?_
     rintro z v0 ⟨rfl,hb0⟩
     refine hK.out _ _ ?_ (fun hHeld=>?_)
     ·(try dsimp only)
      exact SKG.keep hHeld hb0
     clear hK K
     try simp only [Rg.gp]
     refine Rg.rd1 9 ⟨some 238,.call ⟨.value (.func 35),#[.tmp 235,.tmp 236,.tmp 237],#[29,3,30]⟩,4,"law.go:80",#[⟨6,.data⟩,⟨7,.data⟩,⟨8,.data⟩,⟨5,.chain⟩,⟨1,.guard⟩],some (1,true)⟩ fun K hK=>?_
     go_simp
     go_at_call 35
     with_reducible refine ((show Calls Try.prog 35 #[FV F b cap,.int .i64 (n : Nat),.slice aD (m + 1) cD] _ (fun e w'=>e = .returned (.bool B1) ∧ Below _ _ w') from HC2.out _ hHeld.1.2.2.out.2.1)).mono ?_
     rintro z v1 ⟨rfl,hb1⟩
     refine hK.out _ _ ?_ (fun hHeld=>?_)
     ·(try dsimp only)
      exact SKG.keep hHeld hb1
     clear hK K
     try simp only [Rg.gp]
     refine Rg.tk 10 ⟨some 239,.binOp BinOp.eql 4 (.tmp 234) (.tmp 238) 4,4,"law.go:80",#[⟨5,.data⟩,⟨9,.data⟩,⟨1,.guard⟩],some (1,true)⟩ ?_
     try simp only [Rg.gp]
     refine Rg.tk 11 ⟨some 240,.pick (.tmp 230) (.tmp 239) (.const (Value.bool false)),4,"law.go:80",#[⟨1,.data⟩,⟨10,.data⟩],none⟩ ?_
     try simp only [Rg.gp]
     refine Rg.tk 12 ⟨some 241,.move (.tmp 240),4,"law.go:80",#[⟨11,.data⟩,⟨9,.chain⟩],none⟩ ?_
     try simp only [Rg.gp]
     refine Rg.tk 13 ⟨some 242,.load 29 (.tmp 9),29,"law.go:80",#[⟨12,.guard⟩],some (12,true)⟩ ?_
     try simp only [Rg.gp]
     refine Rg.tk 14 ⟨some 243,.indexAddr 25 (.tmp 5) (.const (Value.int IntKind.i64 4)),0,"law.go:80",#[⟨12,.guard⟩],some (12,true)⟩ ?_
     try simp only [Rg.gp]
     refine Rg.tk 15 ⟨some 244,.load 5 (.tmp 243),5,"law.go:80",#[⟨14,.data⟩,⟨12,.guard⟩],some (12,true)⟩ ?_
     try simp only [Rg.gp]
     refine Rg.tk 16 ⟨some 245,.convert 5 3 (.tmp 244),3,"law.go:80",#[⟨15,.data⟩,⟨12,.guard⟩],some (12,true)⟩ ?_
     try simp only [Rg.gp]
     refine Rg.tk 17 ⟨some 246,.binOp BinOp.rem 3 (.tmp 245) (.const (Value.int IntKind.i64 30)) 3,3,"law.go:80",#[⟨16,.data⟩,⟨12,.guard⟩],some (12,true)⟩ ?_
     try simp only [Rg.gp]
     refine Rg.tk 18 ⟨some 247,.fieldAddr 32 (.tmp 8) 2,0,"law.go:80",#[⟨12,.guard⟩],some (12,true)⟩ ?_
     try simp only [Rg.gp]
     refine Rg.tk 19 ⟨some 248,.load 30 (.tmp 247),30,"law.go:80",#[⟨18,.data⟩,⟨12,.guard⟩],some (12,true)⟩ ?_
     try simp only [Rg.gp]
     refine Rg.tk 21 ⟨some 250,.load 29 (.tmp 9),29,"law.go:80",#[⟨12,.guard⟩],some (12,true)⟩ ?_
     try simp only [Rg.gp]
     refine Rg.tk 22 ⟨some 251,.indexAddr 25 (.tmp 5) (.const (Value.int IntKind.i64 4)),0,"law.go:80",#[⟨12,.guard⟩],some (12,true)⟩ ?_
     try simp only [Rg.gp]
     refine Rg.tk 23 ⟨some 252,.load 5 (.tmp 251),5,"law.go:80",#[⟨22,.data⟩,⟨12,.guard⟩],some (12,true)⟩ ?_
     try simp only [Rg.gp]
     refine Rg.tk 24 ⟨some 253,.convert 5 3 (.tmp 252),3,"law.go:80",#[⟨23,.data⟩,⟨12,.guard⟩],some (12,true)⟩ ?_
     try simp only [Rg.gp]
     refine Rg.tk 25 ⟨some 254,.binOp BinOp.rem 3 (.tmp 253) (.const (Value.int IntKind.i64 30)) 3,3,"law.go:80",#[⟨24,.data⟩,⟨12,.guard⟩],some (12,true)⟩ ?_
     try simp only [Rg.gp]
     refine Rg.tk 26 ⟨some 255,.fieldAddr 32 (.tmp 8) 2,0,"law.go:80",#[⟨12,.guard⟩],some (12,true)⟩ ?_
     try simp only [Rg.gp]
     refine Rg.tk 27 ⟨some 256,.load 30 (.tmp 255),30,"law.go:80",#[⟨26,.data⟩,⟨12,.guard⟩],some (12,true)⟩ ?_
     try simp only [Rg.gp]
     refine Rg.rd1 20 ⟨some 249,.call ⟨.value (.func 13),#[.tmp 242,.tmp 246,.tmp 248],#[29,3,30]⟩,4,"law.go:80",#[⟨13,.data⟩,⟨17,.data⟩,⟨19,.data⟩,⟨12,.chain⟩,⟨12,.guard⟩],some (12,true)⟩ fun K hK=>?_
     go_simp
     go_at_call 13
     with_reducible refine ((show Calls Try.prog 13 #[FV F b cap,.int .i64 (w30 : Nat),.slice aA m cA] _ (fun e w'=>e = .returned (.bool B2) ∧ Below _ _ w') from HC3.out _ hHeld.1.2.2.out.2.1)).mono ?_
     rintro z v2 ⟨rfl,hb2⟩
     refine hK.out _ _ ?_ (fun hHeld=>?_)
     ·(try dsimp only)
      exact SKG.keep hHeld hb2
     clear hK K
     try simp only [Rg.gp]
     refine Rg.rd1 28 ⟨some 257,.call ⟨.value (.func 35),#[.tmp 250,.tmp 254,.tmp 256],#[29,3,30]⟩,4,"law.go:80",#[⟨21,.data⟩,⟨25,.data⟩,⟨27,.data⟩,⟨20,.chain⟩,⟨12,.guard⟩],some (12,true)⟩ fun K hK=>?_
     go_simp
     go_at_call 35
     with_reducible refine ((show Calls Try.prog 35 #[FV F b cap,.int .i64 (w30 : Nat),.slice aA m cA] _ (fun e w'=>e = .returned (.bool B2) ∧ Below _ _ w') from HC4.out _ hHeld.1.2.2.out.2.1)).mono ?_
     rintro z v3 ⟨rfl,hb3⟩
     refine hK.out _ _ ?_ (fun hHeld=>?_)
     ·(try dsimp only)
      exact SKG.keep hHeld hb3
     clear hK K
     try simp only [Rg.gp]
     refine Rg.tk 29 ⟨some 258,.binOp BinOp.eql 4 (.tmp 249) (.tmp 257) 4,4,"law.go:80",#[⟨20,.data⟩,⟨28,.data⟩,⟨12,.guard⟩],some (12,true)⟩ ?_
     try simp only [Rg.gp]
     refine Rg.tk 30 ⟨some 259,.pick (.tmp 241) (.tmp 258) (.const (Value.bool false)),4,"law.go:80",#[⟨12,.data⟩,⟨29,.data⟩],none⟩ ?_
     try simp only [Rg.gp]
     refine Rg.tk 31 ⟨some 260,.move (.tmp 259),4,"law.go:80",#[⟨30,.data⟩,⟨28,.chain⟩],none⟩ ?_
     try simp only [Rg.gp]
     refine Rg.tk 32 ⟨some 261,.load 29 (.tmp 19),29,"law.go:80",#[⟨31,.guard⟩],some (31,true)⟩ ?_
     try simp only [Rg.gp]
     refine Rg.tk 33 ⟨some 262,.move (.tmp 10),3,"law.go:80",#[⟨31,.guard⟩],some (31,true)⟩ ?_
     try simp only [Rg.gp]
     refine Rg.tk 34 ⟨some 263,.fieldAddr 32 (.tmp 8) 2,0,"law.go:80",#[⟨31,.guard⟩],some (31,true)⟩ ?_
     try simp only [Rg.gp]
     refine Rg.tk 35 ⟨some 264,.load 30 (.tmp 263),30,"law.go:80",#[⟨34,.data⟩,⟨31,.guard⟩],some (31,true)⟩ ?_
     try simp only [Rg.gp]
     refine Rg.tk 37 ⟨some 266,.load 29 (.tmp 19),29,"law.go:80",#[⟨31,.guard⟩],some (31,true)⟩ ?_
     try simp only [Rg.gp]
     refine Rg.tk 38 ⟨some 267,.move (.tmp 10),3,"law.go:80",#[⟨31,.guard⟩],some (31,true)⟩ ?_
     try simp only [Rg.gp]
     refine Rg.tk 39 ⟨some 268,.fieldAddr 32 (.tmp 8) 2,0,"law.go:80",#[⟨31,.guard⟩],some (31,true)⟩ ?_
     try simp only [Rg.gp]
     refine Rg.tk 40 ⟨some 269,.load 30 (.tmp 268),30,"law.go:80",#[⟨39,.data⟩,⟨31,.guard⟩],some (31,true)⟩ ?_
     try simp only [Rg.gp]
     refine Rg.rd1 36 ⟨some 265,.call ⟨.value (.func 13),#[.tmp 261,.tmp 262,.tmp 264],#[29,3,30]⟩,4,"law.go:80",#[⟨32,.data⟩,⟨33,.data⟩,⟨35,.data⟩,⟨31,.chain⟩,⟨31,.guard⟩],some (31,true)⟩ fun K hK=>?_
     go_simp
     go_at_call 13
     with_reducible refine ((show Calls Try.prog 13 #[GV F.p e4 F.e b cap,.int .i64 (n : Nat),.slice aA m cA] _ (fun e w'=>e = .returned (.bool B3) ∧ Below _ _ w') from (HB3.out _ hHeld.1.2.2.out.1 (HMAM.out.below hHeld.1.2.2.out.2.1)).1)).mono ?_
     rintro z v4 ⟨rfl,hb4⟩
     refine hK.out _ _ ?_ (fun hHeld=>?_)
     ·(try dsimp only)
      exact SKG.keep hHeld hb4
     clear hK K
     try simp only [Rg.gp]
     refine Rg.rd1 41 ⟨some 270,.call ⟨.value (.func 35),#[.tmp 266,.tmp 267,.tmp 269],#[29,3,30]⟩,4,"law.go:80",#[⟨37,.data⟩,⟨38,.data⟩,⟨40,.data⟩,⟨36,.chain⟩,⟨31,.guard⟩],some (31,true)⟩ fun K hK=>?_
     go_simp
     go_at_call 35
     with_reducible refine ((show Calls Try.prog 35 #[GV F.p e4 F.e b cap,.int .i64 (n : Nat),.slice aA m cA] _ (fun e w'=>e = .returned (.bool B3) ∧ Below _ _ w') from (HB3.out _ hHeld.1.2.2.out.1 (HMAM.out.below hHeld.1.2.2.out.2.1)).2)).mono ?_
     rintro z v5 ⟨rfl,hb5⟩
     refine hK.out _ _ ?_ (fun hHeld=>?_)
     ·(try dsimp only)
      exact SKG.keep hHeld hb5
     clear hK K
     try simp only [Rg.gp]
     refine Rg.tk 42 ⟨some 271,.binOp BinOp.eql 4 (.tmp 265) (.tmp 270) 4,4,"law.go:80",#[⟨36,.data⟩,⟨41,.data⟩,⟨31,.guard⟩],some (31,true)⟩ ?_
     try simp only [Rg.gp]
     refine Rg.tk 43 ⟨some 272,.pick (.tmp 260) (.tmp 271) (.const (Value.bool false)),4,"law.go:80",#[⟨31,.data⟩,⟨42,.data⟩],none⟩ ?_
     try simp only [Rg.gp]
     refine Rg.tk 44 ⟨some 6,.assign (.tmp 272),4,"law.go:80",#[⟨43,.data⟩,⟨41,.chain⟩,⟨0,.phase⟩,⟨1,.phase⟩,⟨2,.phase⟩,⟨3,.phase⟩,⟨4,.phase⟩,⟨5,.phase⟩,⟨6,.phase⟩,⟨7,.phase⟩,⟨8,.phase⟩,⟨9,.phase⟩,⟨10,.phase⟩,⟨11,.phase⟩,⟨12,.phase⟩,⟨13,.phase⟩,⟨14,.phase⟩,⟨15,.phase⟩,⟨16,.phase⟩,⟨17,.phase⟩,⟨18,.phase⟩,⟨19,.phase⟩,⟨20,.phase⟩,⟨21,.phase⟩,⟨22,.phase⟩,⟨23,.phase⟩,⟨24,.phase⟩,⟨25,.phase⟩,⟨26,.phase⟩,⟨27,.phase⟩,⟨28,.phase⟩,⟨29,.phase⟩,⟨30,.phase⟩,⟨31,.phase⟩,⟨32,.phase⟩,⟨33,.phase⟩,⟨34,.phase⟩,⟨35,.phase⟩,⟨36,.phase⟩,⟨37,.phase⟩,⟨38,.phase⟩,⟨39,.phase⟩,⟨40,.phase⟩,⟨41,.phase⟩,⟨42,.phase⟩,⟨43,.phase⟩],none⟩ ?_
     try simp only [Rg.gp]
     refine wpAnyH_done (by kernel_rfl) ?_ _
     have HBF : Hid (Below W.heap.size W v5):=Lib.hid (HBM.out.trans (hHeld.1.2.2.out.2.1.mono HBM.out.size))
     clear hHeld hS0 hb0 hb1 hb2 hb3 hb4 hb5
     go_wp2
     go_ret
     exact ⟨rfl,HBF.out⟩
end Go.Proofs.Yteeofijcndgbfaa
