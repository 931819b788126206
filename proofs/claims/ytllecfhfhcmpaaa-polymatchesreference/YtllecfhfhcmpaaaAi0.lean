/- What is known of calls: the parts of a number, the orders, fields. -/
import Derived.Test.YtllecfhfhcmpaaaEvU
import Derived.Test.YtllecfhfhcmpaaaEvNo
import Derived.Test.YtllecfhfhcmpaaaProg
import Derived.WalkKit
import Derived.Test.YtllecfhfhcmpaaaEvZ
namespace Go.Proofs.Ytllecfhfhcmpaaa
open Go.Ev
set_option linter.unusedSectionVars false
variable [Rho]
theorem fit : Fit Try.prog:=fit_of (by kernel_rfl)
abbrev I (n : Nat) : AV:=.int .i64 (Int.ofNat n)
def leastOf (q : Nat) : Nat:=((List.range' 2 63).find? (fun p=>q % p == 0)).getD 0
def expoOf (q p : Nat) : Nat:=((List.range' 1 6).find? (fun e=>p ^ e == q)).getD 0
def partsF (q : Nat) : Fct:=
 { args:=[I q],old:=[],v:=.agg (match expoOf q (leastOf q) with | 0=>[I 0,I 0] | e=>[I (leastOf q),I e]),sel:=[],new:=[] }
noncomputable def chk (orc : Orc) (f : FuncId) (F : Fct) : Bool:=F.good && F.got ((evF Try.prog orc 5000).call f F.args F.st)
theorem chk_ok {orc : Orc} {f : FuncId} {F : Fct} (ho : OrcOk Try.prog orc) (h : chk orc f F = true) : F.Holds Try.prog f:=by
 simp only [chk,Bool.and_eq_true] at h
 exact Fct.holds fit ho h.1 h.2
theorem chkAll_ok {orc : Orc} {f : FuncId} {l : List Fct} (ho : OrcOk Try.prog orc) (h : l.all (chk orc f) = true) : ∀ F ∈ l,F.Holds Try.prog f:=by
 simp only [List.all_eq_true] at h
 exact fun F hF=>chk_ok ho (h F hF)
def partsFs : List Fct:=(List.range' 2 15).map partsF ++ ((List.range' 17 15).map partsF ++ ((List.range' 32 15).map partsF ++ (List.range' 47 18).map partsF))
def sizes : List Nat:=[2,3,4,5,7,8,9,11,13,16,17,19,23,25,27,29,31,32,37,41,43,47,49,53,59,61,64]
def ordersF : Fct:={ args:=[],old:=[],v:=.slice 54 0 27 27 false 1,sel:=[54],new:=[{ elem:=3,cells:=sizes.map I,ro:=false }] }
end Go.Proofs.Ytllecfhfhcmpaaa
/- Contracts of the field's operations: how they are evaluated with letters. -/
namespace Go.Proofs.Ytllecfhfhcmpaaa
open Go.Ev Go.Fl
open Go.RowKit (Below)
set_option linter.unusedSectionVars false
abbrev fA (F : Gf) : AV:=.agg [I F.p,I F.e,.slice 0 0 F.e F.e false 1]
abbrev fOld (F : Gf) : List ABlk:=[{ elem:=3,cells:=F.mod.map I,ro:=true }]
abbrev fSt (F : Gf) : St:={ heap:=(fOld F).map some,lo:=0,loops:=[],nd:=0 }
abbrev lv (i lo hi : Nat) : AV:=.sym .i64 (.var i (Int.ofNat lo) (Int.ofNat hi)) (Int.ofNat lo) (Int.ofNat hi)
def ways (F : Gf) : List (Nat × Nat):=(0,0) :: (List.range F.e).map fun k=>(F.p ^ k,F.p ^ (k + 1) - 1)
noncomputable def waysOk (F : Gf) : Bool:=allLt F.q fun a=>(ways F).any fun w=>Nat.ble w.1 a && Nat.ble a w.2
def dig (p : Nat) : Nat → Nat → Nat
 | 0,a=>Nat.mod a p
 | k + 1,a=>dig p k (Nat.div a p)
def quoX (p : Nat) (x : SX) : Nat → SX
 | 0=>x
 | k + 1=>.bin .quo (quoX p x k) (.lit (Int.ofNat p))
def digV (F : Gf) (x : SX) (k : Nat) : AV:=if k < F.e then .sym .i64 (.bin .rem (quoX F.p x k) (.lit (Int.ofNat F.p))) 0 (Int.ofNat (F.p - 1)) else I 0
def exV (F : Gf) (x : SX) : AV:=.agg ((List.range 7).map (digV F x))
def digN (F : Gf) (k a : Nat) : Nat:=if k < F.e then dig F.p k a else 0
noncomputable def cellsOk (la ha lb hb : Nat) (f : Nat → Nat → Nat → Nat) : Nat → Nat → List AV → Bool
 | _,0,[]=>true
 | k,n + 1,v :: l=>bif numOk v la ha lb hb (f k) then cellsOk la ha lb hb f (k + 1) n l else false
 | _,_,_=>false
noncomputable def aggOk (n la ha lb hb : Nat) (f : Nat → Nat → Nat → Nat) (r : Option (AV × St × Bool)) : Bool:=
 match r with
 | some (.agg l,_,_)=>cellsOk la ha lb hb f 0 n l
 | _=>false
noncomputable def chkEx (F : Gf) : Bool:=bif waysOk F then (ways F).all fun w=>aggOk 7 w.1 w.2 0 0 (fun k a _=>digN F k a) ((evF Try.prog noOrc 5000).call 78 [I F.p,lv 0 w.1 w.2] st0) else false
abbrev exF (F : Gf) : Fct:=⟨[I F.p,lv 0 0 (F.q - 1)],[],exV F (.var 0 0 (Int.ofNat (F.q - 1))),[],[]⟩
abbrev Lx (F : Gf) : List (FuncId × List Fct):=[(78,[exF F])]
noncomputable def nOk (la ha lb hb : Nat) (f : Nat → Nat → Nat) (r : Option (AV × St × Bool)) : Bool:=
 match r with
 | some (v,_,_)=>numOk v la ha lb hb f
 | none=>false
noncomputable def chk2 (f : FuncId) (op : Gf → Nat → Nat → Nat) (F : Gf) : Bool:=
 (ways F).all fun w=>nOk 0 (F.q - 1) w.1 w.2 (op F) ((evF Try.prog (orcOf (Lx F)) 5000).call f [fA F,lv 0 0 (F.q - 1),lv 1 w.1 w.2] (fSt F))
noncomputable def chk1 (f : FuncId) (op : Gf → Nat → Nat) (F : Gf) : Bool:=
 (ways F).all fun w=>nOk 0 0 w.1 w.2 (fun _ b=>op F b) ((evF Try.prog noOrc 5000).call f [fA F,lv 1 w.1 w.2] (fSt F))
def primes : List Gf:=fds.filter fun F=>F.e == 1
def mids : List Gf:=fds.filter fun F=>!(F.e == 1) && (!(F.q == 49) && !(F.q == 64))
def fdOf (q : Nat) : List Gf:=fds.filter fun F=>F.q == q
theorem split {φ : Gf → Bool} (h1 : primes.all φ = true) (h2 : mids.all φ = true) (h3 : (fdOf 49).all φ = true) (h4 : (fdOf 64).all φ = true) : ∀ F ∈ fds,φ F = true:=by
 intro F hF
 simp only [List.all_eq_true,primes,mids,fdOf,List.mem_filter] at h1 h2 h3 h4
 cases k1 : F.e == 1
 ·cases k3 : F.q == 49
  ·cases k4 : F.q == 64
   ·exact h2 F ⟨hF,by rw [k1,k3,k4]; rfl⟩
   ·exact h4 F ⟨hF,k4⟩
  ·exact h3 F ⟨hF,k3⟩
 ·exact h1 F ⟨hF,k1⟩
set_option linter.unusedVariables false
variable {F : Gf}
theorem way_of (h : waysOk F = true) {a : Nat} (ha : a < F.q) : ∃ w ∈ ways F,w.1 ≤ a ∧ a ≤ w.2:=by
 have:=allLt_ok h a ha
 simp only [List.any_eq_true,Bool.and_eq_true,Nat.ble_eq] at this
 exact this
theorem cellsOk_ok {la ha lb hb : Nat} {f : Nat → Nat → Nat → Nat} {a b : Nat} (h1 : la ≤ a) (h2 : a ≤ ha) (h3 : lb ≤ b) (h4 : b ≤ hb) : ∀ {n k : Nat} {l : List AV},cellsOk la ha lb hb f k n l = true →
  l.all AV.lone = true ∧ l.map (@AV.vl0 (rhoN (r2 a b))) = (List.range' k n).map fun i=>Value.int .i64 (f i a b : Nat)
 | 0,k,[],_=>⟨rfl,rfl⟩
 | 0,k,_ :: _,h=>by cases h
 | n + 1,k,[],h=>by cases h
 | n + 1,k,v :: l,h=>by
  have hh:=bif_and (x:=numOk v la ha lb hb (f k)) h
  obtain ⟨g1,g2⟩:=numOk_ok hh.1 h1 h2 h3 h4
  obtain ⟨k1,k2⟩:=cellsOk_ok h1 h2 h3 h4 hh.2
  exact ⟨by rw [List.all_cons,g1,k1]; rfl,by rw [List.map_cons,g2,k2,List.range'_succ,List.map_cons]⟩
def exL (F : Gf) (a : Nat) : List Value:=(List.range' 0 7).map fun i=>Value.int .i64 (digN F i a : Nat)
theorem ex_c (h : chkEx F = true) {a : Nat} (ha : a < F.q) (w : World) :
  Calls Try.prog 78 #[.int .i64 (F.p : Int),.int .i64 (a : Int)] w fun e w'=>e = .returned (.agg (exL F a).toArray) ∧ Below w.heap.size w w':=by
 have hh:=bif_and (x:=waysOk F) h
 obtain ⟨x,hx,h1,h2⟩:=way_of hh.1 ha
 have h3:=List.all_eq_true.1 hh.2 x hx
 unfold aggOk at h3
 split at h3
 ·rename_i l s1 q e
  obtain ⟨k1,k2⟩:=cellsOk_ok h1 h2 (Nat.le_refl 0) (Nat.le_refl 0) h3
  letI : Rho:=rhoN (r2 a 0)
  refine (run_calls fit (noOrc_ok _) e (v:=.agg l) (by exact k1) w (vs:=#[.int .i64 (F.p : Int),.int .i64 (a : Int)]) ?_).mono ?_
  ·exact LR.cons (.int _ _) (LR.cons ((Nu.var (i:=0) (n:=(a : Int)) rfl (by simpa using h1) (by simpa using h2)).rel') .nil)
  ·rintro e' w' ⟨c,c1,c2,c3⟩
   have:=vl_eq (v:=.agg l) (by exact k1) (c2 none0 [])
   refine ⟨?_,c3⟩
   rw [c1,this]
   show Ending.returned (.agg (l.map AV.vl0).toArray) = _
   rw [k2]; rfl
 ·cases h3
theorem quo_hi {p : Nat} : ∀ (k a : Nat),dig p k a = a / p ^ k % p
 | 0,a=>by show a % p = _; rw [Nat.pow_zero,Nat.div_one]
 | k + 1,a=>by show dig p k (a / p) = _; rw [quo_hi k,Nat.div_div_eq_div_mul,Nat.pow_succ,Nat.mul_comm]
theorem quoX_N (r : Nat → Nat) {p : Nat} {x : SX} (hx : x.natOk = true) : ∀ k,(quoX p x k).natOk = true ∧ (quoX p x k).evN r = x.evN r / p ^ k
 | 0=>⟨hx,by show x.evN r = _; rw [Nat.pow_zero,Nat.div_one]⟩
 | k + 1=>by
  obtain ⟨h1,h2⟩:=quoX_N r hx k
  refine ⟨by show (bif (quoX p x k).natOk then true else false) = true; rw [h1]; rfl,?_⟩
  show (quoX p x k).evN r / p = _
  rw [h2,Nat.div_div_eq_div_mul,Nat.pow_succ]
theorem quoX_ok [Rho] {p : Nat} {x : SX} (hx : x.ok) : ∀ k,(quoX p x k).ok
 | 0=>hx
 | k + 1=>⟨quoX_ok hx k,trivial⟩
theorem ex_fact (hF : Ok F) (h : chkEx F = true) {a b : Nat} (ha : a < F.q) : @Fct.Holds (rhoN (r2 a b)) Try.prog 78 (exF F):=by
 letI : Rho:=rhoN (r2 a b)
 have hp:=hF.p0
 have key : ∀ k,(digV F (.var 0 0 (Int.ofNat (F.q - 1))) k).lone = true ∧ (digV F (.var 0 0 (Int.ofNat (F.q - 1))) k).fine0 ∧ (digV F (.var 0 0 (Int.ofNat (F.q - 1))) k).vl0 = Value.int .i64 (digN F k a : Nat):=by
  intro k
  unfold digV digN
  split
  ·have hn:=quoX_N (r2 a b) (p:=F.p) (x:=.var 0 0 (Int.ofNat (F.q - 1))) rfl k
   have hr : (SX.bin .rem (quoX F.p (.var 0 0 (Int.ofNat (F.q - 1))) k) (.lit (Int.ofNat F.p))).eval = (dig F.p k a : Nat):=by
    rw [SX.evN_ok (r2 a b) (by show (bif (quoX F.p _ k).natOk then true else false) = true; rw [hn.1]; rfl)]
    show (((quoX F.p _ k).evN (r2 a b) % F.p : Nat) : Int) = _
    rw [hn.2,quo_hi]; rfl
   have hl : dig F.p k a < F.p:=by rw [quo_hi]; exact Nat.mod_lt _ hp
   refine ⟨rfl,⟨⟨quoX_ok ?_ k,trivial⟩,?_,?_⟩,?_⟩
   ·show (0 : Int) ≤ (a : Int) ∧ (a : Int) ≤ Int.ofNat (F.q - 1)
    simp only [Int.ofNat_eq_natCast]; omega
   ·rw [hr]; omega
   ·rw [hr]; simp only [Int.ofNat_eq_natCast]; omega
   ·show Value.int .i64 _ = _
    rw [hr]
  ·exact ⟨rfl,trivial,rfl⟩
 refine fct_flat (args:=[I F.p,lv 0 0 (F.q - 1)]) (v:=exV F (.var 0 0 (Int.ofNat (F.q - 1)))) ?_ rfl ?_ ?_ (by kernel_rfl) (fun w=>?_)
 ·have : all2 (inS 0 []) (exV F (.var 0 0 (Int.ofNat (F.q - 1)))) = true:=by
   show ((List.range 7).map _).all _ = true
   simp only [List.all_map,List.all_eq_true]
   intro k _
   exact lone_all0 (key k).1
  show (true && (true && (all2 (inS 0 []) (exV F (.var 0 0 (Int.ofNat (F.q - 1)))) && (true && (true && true))))) = true
  rw [this]; rfl
 ·show ((List.range 7).map _).all _ = true
  simp only [List.all_map,List.all_eq_true]
  intro k _
  exact (key k).1
 ·show fineL AV.fine0 ((List.range 7).map _)
  exact ⟨(key 0).2.1,(key 1).2.1,(key 2).2.1,(key 3).2.1,(key 4).2.1,(key 5).2.1,(key 6).2.1,trivial⟩
 ·have hv : (exV F (.var 0 0 (Int.ofNat (F.q - 1)))).vl = .agg (exL F a).toArray:=by
   show Value.agg (((List.range 7).map (digV F _)).map AV.vl0).toArray = _
   congr 2
   show [AV.vl0 _,AV.vl0 _,AV.vl0 _,AV.vl0 _,AV.vl0 _,AV.vl0 _,AV.vl0 _] = _
   rw [(key 0).2.2,(key 1).2.2,(key 2).2.2,(key 3).2.2,(key 4).2.2,(key 5).2.2,(key 6).2.2]
   rfl
  rw [hv]
  exact ex_c h ha w
theorem lx_ok (hF : Ok F) (h : chkEx F = true) {a b : Nat} (ha : a < F.q) : @FactsOk (rhoN (r2 a b)) Try.prog (Lx F):=
 ⟨fun G hG=>by rw [List.mem_singleton.1 hG]; exact ex_fact hF h ha,trivial⟩
theorem old_good : (fOld F).all (fun A=>A.ro && A.cells.all AV.lone) = true:=by simp [AV.lone,AV.sc]
theorem old_plain : (fOld F).all (fun A=>A.cells.all (fun v=>v.sc.isSome) && A.tl.isNone) = true:=by simp [AV.sc]
theorem good_n {l : List AV} {v : AV} (hl : l.all AV.lone = true) (hv : all2 (inS 1 []) v = true) : (Fct.mk (fA F :: l) (fOld F) v [] []).good = true:=by
 show ((fOld F).all _ && ((all1 _ (fA F) && l.all _) && (all2 (inS 1 []) v && (true && (true && true))))) = true
 have h1 : l.all (all1 (Nat.blt · 1)) = true:=by
  simp only [List.all_eq_true] at hl ⊢
  exact fun x hx=>lone_all1 (hl x hx)
 rw [old_good,hv]
 show (true && ((true && l.all (all1 (Nat.blt · 1))) && _)) = true
 rw [h1]; rfl
def NuL [Rho] : List AV → List Int → Prop
 | [],[]=>True
 | x :: l,n :: ns=>Nu x n ∧ NuL l ns
 | _,_=>False
theorem NuL.vals [Rho] {π : Inj} : ∀ {l : List AV} {ns : List Int} {vs : List Value},NuL l ns → LR π [] l vs → vs = ns.map (Value.int .i64)
 | [],[],vs,_,hl=>hl.nil_inv
 | x :: l,n :: ns,vs,h,hl=>by
  obtain ⟨c,ws,rfl,r,t⟩:=hl.uncons
  rw [h.1.rel r,NuL.vals h.2 t]; rfl
 | [],_ :: _,_,h,_=>h.elim
 | _ :: _,[],_,h,_=>h.elim
theorem NuL.rel [Rho] {π : Inj} : ∀ {l : List AV} {ns : List Int},NuL l ns → LR π [] l (ns.map (Value.int .i64))
 | [],[],_=>LR.nil
 | x :: l,n :: ns,h=>LR.cons h.1.rel' (NuL.rel h.2)
 | [],_ :: _,h=>h.elim
 | _ :: _,[],h=>h.elim
theorem NuL.lone [Rho] : ∀ {l : List AV} {ns : List Int},NuL l ns → l.all AV.lone = true
 | [],[],_=>rfl
 | x :: l,n :: ns,h=>by rw [List.all_cons,h.1.lone,NuL.lone h.2]; rfl
 | [],_ :: _,h=>h.elim
 | _ :: _,[],h=>h.elim
theorem args_turn {R1 R2 : Rho} {l l' : List AV} {ns : List Int} (h2 : @NuL R2 l ns) (h1 : @NuL R1 l' ns) {π : Inj} {vs : List Value} (h : @LR R2 π [] (fA F :: l) vs) : @LR R1 π [] (fA F :: l') vs:=by
 obtain ⟨c0,l0,rfl,r0,t0⟩:=h.uncons
 rw [NuL.vals h2 t0]
 exact @LR.cons R1 _ _ _ _ _ _ (ns1_swap rfl r0) (@NuL.rel R1 _ _ _ h1)
structure Rs [Rho] (v : AV) (c : Value) : Prop where
 good : ∀ p,all2 p v = true
 flat : v.flat = true
 fine : v.fine
 vl : v.vl = c
theorem rsN [Rho] {v : AV} {n : Int} (h : Nu v n) : Rs v (.int .i64 n):=⟨fun _=>lone_all2 h.lone,lone_flat h.lone,lone_fine h.lone h.fine,by rw [lone_vl h.lone,h.vl]⟩
theorem rsN2 [Rho] {v : AV} {n : Int} (h : Nu v n) (e : Nat) : Rs (.tup [v,I e]) (.tuple #[.int .i64 n,.int .i64 e]):=
 ⟨fun p=>by show (all1 p v && (all1 p (I e) && true)) = true; rw [lone_all1 h.lone]; rfl,by show (v.flat1 && ((I e).flat1 && true)) = true; rw [lone_flat1 h.lone]; rfl,⟨lone_fine1 h.lone h.fine,trivial,trivial⟩,
  by show Value.tuple #[v.vl1,_] = _; rw [lone_vl1 h.lone,h.vl]; rfl⟩
theorem turnF {R1 R : Rho} {f : FuncId} {l l' : List AV} {ns : List Int} {v v' : AV} {c : Value} (h : @Fct.Holds R1 Try.prog f ⟨fA F :: l',fOld F,v',[],[]⟩) (hf : v'.flat = true) (hc : @AV.vl R1 v' = c)
  (n1 : @NuL R1 l' ns) (n2 : @NuL R l ns) (hv : @Rs R v c) : @Fct.Holds R Try.prog f ⟨fA F :: l,fOld F,v,[],[]⟩:=
 Fct.turn h rfl old_plain (fun π vs hl=>args_turn n2 n1 hl) hf (good_n (NuL.lone n2) (hv.good _)) hv.flat hv.fine (hv.vl.trans hc.symm) rfl rfl
theorem lv_nu [Rho] {i lo hi n : Nat} (h : Rho.ρ i = (n : Int)) (h1 : lo ≤ n) (h2 : n ≤ hi) : Nu (lv i lo hi) n:=Nu.var h (by simpa using h1) (by simpa using h2)
theorem I_nu [Rho] (n : Nat) : Nu (I n) n:=Nu.int _
section
variable [R : Rho]
theorem op2_fact {f : FuncId} {op : Gf → Nat → Nat → Nat} (hF : Ok F) (hx : chkEx F = true) (hc : chk2 f op F = true) {x y v : AV} {a b : Nat} (ha : a < F.q) (hb : b < F.q) (nx : Nu x a) (ny : Nu y b) (nv : Nu v (op F a b : Nat)) :
  Fct.Holds Try.prog f ⟨[fA F,x,y],fOld F,v,[],[]⟩:=by
 obtain ⟨w,hw,h1,h2⟩:=way_of (bif_and (x:=waysOk F) hx).1 hb
 have h3:=List.all_eq_true.1 hc w hw
 unfold nOk at h3
 split at h3
 ·rename_i v' s1 q e
  obtain ⟨k1,k2⟩:=numOk_ok h3 (Nat.zero_le a) (by omega) h1 h2
  have h0 : @Fct.Holds (rhoN (r2 a b)) Try.prog f ⟨[fA F,lv 0 0 (F.q - 1),lv 1 w.1 w.2],fOld F,v',[],[]⟩:=
   Fct.holds' fit (@orcOf_ok (rhoN (r2 a b)) _ _ (lx_ok hF hx ha)) (good_n rfl (lone_all2 k1)) e
  exact turnF h0 (lone_flat k1) (by rw [@lone_vl (rhoN (r2 a b)) v' k1,k2]) (ns:=[(a : Int),(b : Int)]) ⟨@lv_nu (rhoN (r2 a b)) _ _ _ _ rfl (Nat.zero_le a) (by omega),@lv_nu (rhoN (r2 a b)) _ _ _ _ rfl h1 h2,trivial⟩ ⟨nx,ny,trivial⟩ (rsN nv)
 ·cases h3
theorem op1_fact {f : FuncId} {op : Gf → Nat → Nat} (hx : chkEx F = true) (hc : chk1 f op F = true) {y v : AV} {b : Nat} (hb : b < F.q) (ny : Nu y b) (nv : Nu v (op F b : Nat)) :
  Fct.Holds Try.prog f ⟨[fA F,y],fOld F,v,[],[]⟩:=by
 obtain ⟨w,hw,h1,h2⟩:=way_of (bif_and (x:=waysOk F) hx).1 hb
 have h3:=List.all_eq_true.1 hc w hw
 unfold nOk at h3
 split at h3
 ·rename_i v' s1 q e
  obtain ⟨k1,k2⟩:=numOk_ok h3 (Nat.zero_le 0) (Nat.le_refl 0) h1 h2
  have h0 : @Fct.Holds (rhoN (r2 0 b)) Try.prog f ⟨[fA F,lv 1 w.1 w.2],fOld F,v',[],[]⟩:=Fct.holds' fit (@noOrc_ok (rhoN (r2 0 b)) _) (good_n rfl (lone_all2 k1)) e
  exact turnF h0 (lone_flat k1) (by rw [@lone_vl (rhoN (r2 0 b)) v' k1,k2]) (ns:=[(b : Int)]) ⟨@lv_nu (rhoN (r2 0 b)) _ _ _ _ rfl h1 h2,trivial⟩ ⟨ny,trivial⟩ (rsN nv)
 ·cases h3
end
end Go.Proofs.Ytllecfhfhcmpaaa
/- Powers: evaluated with letters for the products on the way. -/
namespace Go.Proofs.Ytllecfhfhcmpaaa
open Go.Ev Go.Fl
open Go.RowKit (Below)
set_option linter.unusedSectionVars false
set_option linter.unusedVariables false
variable {F : Gf}
def chain (F : Gf) : Nat → Nat → Nat → AV → List Fct × AV
 | 0,_,_,pw=>([],pw)
 | m + 1,t,r,pw =>
  if r = 0 then ([],pw) else
  ((if r % 2 = 1 then [⟨[fA F,pw,lv (2 * t) 1 (F.q - 1)],fOld F,lv (2 * t + 1) 1 (F.q - 1),[],[]⟩] else []) ++
   (⟨[fA F,lv (2 * t) 1 (F.q - 1),lv (2 * t) 1 (F.q - 1)],fOld F,lv (2 * t + 2) 1 (F.q - 1),[],[]⟩ :: (chain F m (t + 1) (r / 2) (if r % 2 = 1 then lv (2 * t + 1) 1 (F.q - 1) else pw)).1),
   (chain F m (t + 1) (r / 2) (if r % 2 = 1 then lv (2 * t + 1) 1 (F.q - 1) else pw)).2)
def rp (F : Gf) (a n k : Nat) : Nat:=if k % 2 = 0 then F.pow a (2 ^ (k / 2)) else F.pow a (n % 2 ^ (k / 2 + 1))
theorem chain_ok (hF : Ok F) (hx : chkEx F = true) (hm : chk2 68 Gf.mul F = true) {a n : Nat} (ha : a < F.q) (hz : a ≠ 0) : ∀ (m t r : Nat) (pw : AV),r = n / 2 ^ t → r < 2 ^ m → @Nu (rhoN (rp F a n)) pw (F.pow a (n % 2 ^ t) : Nat) →
  (∀ G ∈ (chain F m t r pw).1,@Fct.Holds (rhoN (rp F a n)) Try.prog 68 G) ∧ @Nu (rhoN (rp F a n)) (chain F m t r pw).2 (F.pow a n : Nat):=by
 letI:=rhoN (rp F a n)
 have stop : ∀ (t r : Nat) (pw : AV),r = n / 2 ^ t → r = 0 → Nu pw (F.pow a (n % 2 ^ t) : Nat) → Nu pw (F.pow a n : Nat):=by
  intro t r pw hr h0 hp
  have : n < 2 ^ t:=by
   rw [h0] at hr
   rcases Nat.div_eq_zero_iff.1 hr.symm with h | h
   ·exact absurd h (Nat.ne_of_gt (Nat.two_pow_pos t))
   ·exact h
  rwa [Nat.mod_eq_of_lt this] at hp
 intro m
 induction m with
 | zero =>
  intro t r pw hr hlt hp
  exact ⟨fun G hG=>(by cases hG),stop t r pw hr (by simpa using hlt) hp⟩
 | succ m ih =>
  intro t r pw hr hlt hp
  unfold chain
  split
  ·rename_i h0
   exact ⟨fun G hG=>(by cases hG),stop t r pw hr h0 hp⟩
  ·rename_i h0
   have p1 : ∀ k,1 ≤ F.pow a k:=fun k=>Nat.pos_of_ne_zero (hF.pow_ne hz k)
   have p2 : ∀ k,F.pow a k ≤ F.q - 1:=fun k=>by have:=hF.pow_lt a k; omega
   have hA : Nu (lv (2 * t) 1 (F.q - 1)) (F.pow a (2 ^ t) : Nat):=by
    refine lv_nu ?_ (p1 _) (p2 _)
    show ((rp F a n (2 * t) : Nat) : Int) = _
    unfold rp
    rw [if_pos (by omega),show 2 * t / 2 = t by omega]
   have hS : Nu (lv (2 * t + 2) 1 (F.q - 1)) (F.mul (F.pow a (2 ^ t)) (F.pow a (2 ^ t)) : Nat):=by
    rw [hF.pow_add hz]
    refine lv_nu ?_ (p1 _) (p2 _)
    show ((rp F a n (2 * t + 2) : Nat) : Int) = _
    unfold rp
    rw [if_pos (by omega),show (2 * t + 2) / 2 = t + 1 by omega,show 2 ^ t + 2 ^ t = 2 ^ (t + 1) by rw [Nat.pow_succ]; omega]
   have hm2 : n % 2 ^ (t + 1) = n % 2 ^ t + 2 ^ t * (r % 2):=by rw [Nat.pow_succ,Nat.mod_mul,hr]
   have hO : r % 2 = 1 → Nu (lv (2 * t + 1) 1 (F.q - 1)) (F.pow a (n % 2 ^ (t + 1)) : Nat):=fun _=>by
    refine lv_nu ?_ (p1 _) (p2 _)
    show ((rp F a n (2 * t + 1) : Nat) : Int) = _
    unfold rp
    rw [if_neg (by omega),show (2 * t + 1) / 2 = t by omega]
   have hN : Nu (if r % 2 = 1 then lv (2 * t + 1) 1 (F.q - 1) else pw) (F.pow a (n % 2 ^ (t + 1)) : Nat):=by
    split
    ·rename_i h; exact hO h
    ·rename_i h
     rw [hm2,show r % 2 = 0 by omega,Nat.mul_zero,Nat.add_zero]; exact hp
   obtain ⟨k1,k2⟩:=ih (t + 1) (r / 2) _ (by rw [hr,Nat.pow_succ,Nat.div_div_eq_div_mul]) (by rw [Nat.pow_succ] at hlt; omega) hN
   refine ⟨fun G hG=>?_,k2⟩
   simp only [List.mem_append,List.mem_cons] at hG
   rcases hG with h | h | h
   ·split at h
    ·rename_i ho
     rw [List.mem_singleton.1 h]
     refine op2_fact hF hx hm (hF.pow_lt a _) (hF.pow_lt a _) hp hA ?_
     have:=hO ho
     rwa [hm2,ho,Nat.mul_one,← hF.pow_add hz] at this
    ·cases h
   ·rw [h]
    exact op2_fact hF hx hm (hF.pow_lt a _) (hF.pow_lt a _) hA hA hS
   ·exact k1 G h
abbrev chA (F : Gf) (r : Nat) : AV:=(chain F 7 0 r (I 1)).2
abbrev chL (F : Gf) (r : Nat) : List (FuncId × List Fct):=[(68,(chain F 7 0 r (I 1)).1)]
noncomputable def chkP (f : FuncId) (l : List AV) (r : Nat) (F : Gf) : Bool:=(Fct.mk (fA F :: l) (fOld F) (.tup [chA F r,I 0]) [] []).got ((evF Try.prog (orcOf (chL F r)) 5000).call f (fA F :: l) (fSt F))
noncomputable def chkZ (f : FuncId) (l : List AV) (v : AV) (F : Gf) : Bool:=(Fct.mk (fA F :: l) (fOld F) v [] []).got ((evF Try.prog noOrc 5000).call f (fA F :: l) (fSt F))
theorem chkP_ok {f : FuncId} {l : List AV} {ns : List Int} {r : Nat} (hF : Ok F) (hx : chkEx F = true) (hm : chk2 68 Gf.mul F = true) (h : chkP f l r F = true) {a : Nat} (ha : a < F.q) (hz : a ≠ 0) (hr : r < 128) (hl : @NuL (rhoN (rp F a r)) l ns)
  [R : Rho] {l' : List AV} {v : AV} (hl' : NuL l' ns) (hv : Nu v (F.pow a r : Nat)) : Fct.Holds Try.prog f ⟨fA F :: l',fOld F,.tup [v,I 0],[],[]⟩:=by
 obtain ⟨k1,k2⟩:=chain_ok (n:=r) hF hx hm ha hz 7 0 r (I 1) (by rw [Nat.pow_zero,Nat.div_one]) hr (by rw [Nat.pow_zero,Nat.mod_one,hF.pow_zero hz]; exact @Nu.int (rhoN (rp F a r)) _)
 have rs:=@rsN2 (rhoN (rp F a r)) _ _ k2 0
 have h0 : @Fct.Holds (rhoN (rp F a r)) Try.prog f ⟨fA F :: l,fOld F,.tup [chA F r,I 0],[],[]⟩:=
  @Fct.holds (rhoN (rp F a r)) _ _ _ (@noKnow_ok (rhoN (rp F a r))) fit (@orcOf_ok (rhoN (rp F a r)) _ (chL F r) ⟨k1,trivial⟩) _ _ _ (good_n (@NuL.lone (rhoN (rp F a r)) _ _ hl) (@Rs.good (rhoN (rp F a r)) _ _ rs _)) h
 exact turnF h0 (@Rs.flat (rhoN (rp F a r)) _ _ rs) (@Rs.vl (rhoN (rp F a r)) _ _ rs) hl hl' (rsN2 hv 0)
theorem chkZ_ok {f : FuncId} {l : List AV} {ns : List Int} {v : AV} {c : Value} (h : chkZ f l v F = true) (hl : ∀ R : Rho,@NuL R l ns) (hv : ∀ R : Rho,@Rs R v c) [R : Rho] {l' : List AV} (hl' : NuL l' ns) {v' : AV} (hv' : Rs v' c) :
  Fct.Holds Try.prog f ⟨fA F :: l',fOld F,v',[],[]⟩:=by
 have h0 : Fct.Holds Try.prog f ⟨fA F :: l,fOld F,v,[],[]⟩:=Fct.holds fit (noOrc_ok _) (good_n (NuL.lone (hl R)) ((hv R).good _)) h
 exact turnF h0 (hv R).flat (hv R).vl (hl R) hl' hv'
noncomputable def chkPow (n : Nat) (F : Gf) : Bool:=chkP 75 [lv 0 1 (F.q - 1),I n] (n % (F.q - 1)) F && chkZ 75 [I 0,I n] (.tup [I 0,I 0]) F
noncomputable def chkInv (F : Gf) : Bool:=chkP 71 [lv 0 1 (F.q - 1)] (F.q - 2) F && chkZ 71 [I 0] (.tup [I 0,I 3]) F
theorem l0_nu (hF : Ok F) {a n : Nat} (ha : a < F.q) (hz : a ≠ 0) : @Nu (rhoN (rp F a n)) (lv 0 1 (F.q - 1)) (a : Nat):=by
 letI:=rhoN (rp F a n)
 refine lv_nu ?_ (Nat.pos_of_ne_zero hz) (by omega)
 show ((rp F a n 0 : Nat) : Int) = _
 unfold rp
 rw [if_pos (by omega)]
 show ((F.pow a 1 : Nat) : Int) = _
 rw [hF.pow_one hz ha]
theorem pow_fact (hF : Ok F) (hx : chkEx F = true) (hm : chk2 68 Gf.mul F = true) {n : Nat} (hn : 1 ≤ n) (h : chkPow n F = true) [R : Rho] {x y v : AV} {a : Nat} (ha : a < F.q) (nx : Nu x a) (ny : Nu y n) (nv : Nu v (F.pow a n : Nat)) :
  Fct.Holds Try.prog 75 ⟨[fA F,x,y],fOld F,.tup [v,I 0],[],[]⟩:=by
 simp only [chkPow,Bool.and_eq_true] at h
 by_cases hz : a = 0
 ·subst hz
  have e : F.pow 0 n = 0:=by cases n; omega; rfl
  rw [e] at nv
  exact chkZ_ok (l':=[x,y]) (l:=[I 0,I n]) (v:=.tup [I 0,I 0]) h.2 (ns:=[((0 : Nat) : Int),(n : Int)]) (fun R=>⟨@I_nu R 0,@I_nu R n,trivial⟩) (fun R=>@rsN2 R _ _ (@I_nu R 0) 0) ⟨nx,ny,trivial⟩ (rsN2 nv 0)
 ·refine chkP_ok hF hx hm h.1 ha hz (by have:=Nat.mod_lt n hF.q1; have:=hF.q64; omega) (ns:=[(a : Int),(n : Int)]) ⟨l0_nu hF ha hz,@I_nu (rhoN (rp F a _)) n,trivial⟩ ⟨nx,ny,trivial⟩ ?_
  rwa [Ok.pow_mod hz]
theorem inv_fact (hF : Ok F) (hx : chkEx F = true) (hm : chk2 68 Gf.mul F = true) (h : chkInv F = true) [R : Rho] {x v : AV} {a : Nat} (ha : a < F.q) (hz : a ≠ 0) (nx : Nu x a) (nv : Nu v (F.inv a : Nat)) :
  Fct.Holds Try.prog 71 ⟨[fA F,x],fOld F,.tup [v,I 0],[],[]⟩:=by
 simp only [chkInv,Bool.and_eq_true] at h
 refine chkP_ok hF hx hm h.1 ha hz (by have:=hF.q64; omega) (ns:=[(a : Int)]) ⟨l0_nu hF ha hz,trivial⟩ ⟨nx,trivial⟩ ?_
 rwa [hF.inv_pow hz ha]
end Go.Proofs.Ytllecfhfhcmpaaa
/- The reference's fields: what Make and Of return. -/
namespace Go.Proofs.Ytllecfhfhcmpaaa
open Go.Ev Go.Fl
set_option linter.unusedSectionVars false
variable [Rho]
def rmk : List (Gf × Nat):=fds.zip [4,4,33,4,4,41,15,4,4,49,4,4,4,24,85,4,4,87,4,4,4,4,15,4,4,4,65]
def fV (F : Gf) (b : Nat) : AV:=.agg [I F.p,I F.e,.slice b 0 F.e F.e false 1]
def fB (F : Gf) : ABlk:={ elem:=3,cells:=F.mod.map I,ro:=false }
def rmakeF (x : Gf × Nat) : Fct:=⟨[I x.1.q],[],.tup [fV x.1 x.2,I 0],[x.2],[fB x.1]⟩
def byteX (n : Nat) (i : Nat) (r : SX) (lo : Nat) : AV:=.sym .u8 (.bin .add (.bin .mul (.lit (Int.ofNat n)) (.var i 0 (Int.ofNat (255 / n)))) r) (Int.ofNat lo) 255
def byteI (i : Nat) : AV:=byteX 27 20 (.lit (Int.ofNat i)) i
def ofF (i : Nat) (F : Gf) : Fct:=⟨[byteI i],[],fV F 2,[2],[fB F]⟩
end Go.Proofs.Ytllecfhfhcmpaaa
/- What is known of calls. -/
namespace Go.Proofs.Ytllecfhfhcmpaaa
open Go.Ev
set_option linter.unusedSectionVars false
variable [Rho]
theorem parts_a : ((List.range' 2 15).map partsF).all (chk noOrc 65) = true:=by kernel_rfl
theorem parts_b : ((List.range' 17 15).map partsF).all (chk noOrc 65) = true:=by kernel_rfl
end Go.Proofs.Ytllecfhfhcmpaaa
/- What is known of calls. -/
namespace Go.Proofs.Ytllecfhfhcmpaaa
open Go.Ev
set_option linter.unusedSectionVars false
variable [Rho]
theorem parts_c : ((List.range' 32 15).map partsF).all (chk noOrc 65) = true:=by kernel_rfl
theorem parts_d : ((List.range' 47 18).map partsF).all (chk noOrc 65) = true:=by kernel_rfl
end Go.Proofs.Ytllecfhfhcmpaaa
/- What is known of calls. -/
namespace Go.Proofs.Ytllecfhfhcmpaaa
open Go.Ev
set_option linter.unusedSectionVars false
variable [Rho]
theorem parts_ok : ∀ F ∈ partsFs,F.Holds Try.prog 65:=by
 intro F hF
 simp only [partsFs,List.mem_append] at hF
 rcases hF with h | h | h | h
 ·exact chkAll_ok (noOrc_ok _) parts_a F h
 ·exact chkAll_ok (noOrc_ok _) parts_b F h
 ·exact chkAll_ok (noOrc_ok _) parts_c F h
 ·exact chkAll_ok (noOrc_ok _) parts_d F h
def L1 : List (FuncId × List Fct):=[(65,partsFs)]
theorem L1_ok : FactsOk Try.prog L1:=⟨parts_ok,trivial⟩
theorem orders_chk : chk (orcOf L1) 39 ordersF = true:=by kernel_rfl
theorem orders_ok : ordersF.Holds Try.prog 39:=chk_ok (orcOf_ok L1_ok) orders_chk
end Go.Proofs.Ytllecfhfhcmpaaa
/- The fields' operations as facts; the fields that the laws take. -/
namespace Go.Proofs.Ytllecfhfhcmpaaa
open Go.Ev Go.Fl
open Go.RowKit (Below)
set_option linter.unusedSectionVars false
set_option linter.unusedVariables false
abbrev f2 (F : Gf) (x y v : AV) : Fct:=⟨[fA F,x,y],fOld F,v,[],[]⟩
abbrev f1 (F : Gf) (x v : AV) : Fct:=⟨[fA F,x],fOld F,v,[],[]⟩
structure OpsOk (F : Gf) : Prop where
 mem : F ∈ fds
 ex : chkEx F = true
 add : chk2 73 Gf.add F = true
 sub : chk2 69 Gf.sub F = true
 mul : chk2 68 Gf.mul F = true
 neg : chk1 72 Gf.neg F = true
 inv : chkInv F = true
section
variable [R : Rho] {F : Gf}
theorem one {f : FuncId} {G : Fct} (h : G.Holds Try.prog f) : ∀ G' ∈ [G],G'.Holds Try.prog f:=fun G' hG=>by rw [List.mem_singleton.1 hG]; exact h
theorem fAdd (h : OpsOk F) {x y v : AV} {a b : Nat} (ha : a < F.q) (hb : b < F.q) (nx : Nu x a) (ny : Nu y b) (nv : Nu v (F.add a b : Nat)) : (f2 F x y v).Holds Try.prog 73:=op2_fact (ok_mem h.mem) h.ex h.add ha hb nx ny nv
theorem fSub (h : OpsOk F) {x y v : AV} {a b : Nat} (ha : a < F.q) (hb : b < F.q) (nx : Nu x a) (ny : Nu y b) (nv : Nu v (F.sub a b : Nat)) : (f2 F x y v).Holds Try.prog 69:=op2_fact (ok_mem h.mem) h.ex h.sub ha hb nx ny nv
theorem fMul (h : OpsOk F) {x y v : AV} {a b : Nat} (ha : a < F.q) (hb : b < F.q) (nx : Nu x a) (ny : Nu y b) (nv : Nu v (F.mul a b : Nat)) : (f2 F x y v).Holds Try.prog 68:=op2_fact (ok_mem h.mem) h.ex h.mul ha hb nx ny nv
theorem fNeg (h : OpsOk F) {y v : AV} {b : Nat} (hb : b < F.q) (ny : Nu y b) (nv : Nu v (F.neg b : Nat)) : (f1 F y v).Holds Try.prog 72:=op1_fact h.ex h.neg hb ny nv
end
section
variable [Rho]
def LO : List (FuncId × List Fct):=[(39,[ordersF]),(40,rmk.map rmakeF)]
theorem of_k : fds.zipIdx.all (fun x=>chk (orcOf LO) 11 (ofF x.2 x.1)) = true:=by kernel_rfl
end
end Go.Proofs.Ytllecfhfhcmpaaa
