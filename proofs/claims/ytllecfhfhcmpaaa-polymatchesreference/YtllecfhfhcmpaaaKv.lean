/- The fields' operations and the fields that the laws take: all facts. -/
import Derived.Test.YtllecfhfhcmpaaaAi0
import Derived.Test.YtllecfhfhcmpaaaAb1
import Derived.Test.YtllecfhfhcmpaaaAb2
import Derived.Test.YtllecfhfhcmpaaaAb3
import Derived.Test.YtllecfhfhcmpaaaAb5
import Derived.Test.YtllecfhfhcmpaaaAe0
import Derived.Test.YtllecfhfhcmpaaaAe1
import Derived.Test.YtllecfhfhcmpaaaAe2
import Derived.Test.YtllecfhfhcmpaaaAe3
import Derived.Test.YtllecfhfhcmpaaaAe4
import Derived.Test.YtllecfhfhcmpaaaAh0
import Derived.Test.YtllecfhfhcmpaaaKc
import Derived.Test.YtllecfhfhcmpaaaKf
import Derived.Laws.AppendOwnNone
import Derived.Lib.Hide
import Derived.Test.YtllecfhfhcmpaaaEvRl
namespace Go.Proofs.Ytllecfhfhcmpaaa
open Go.Ev Go.Fl
open Go.RowKit (Below)
set_option linter.unusedSectionVars false
set_option linter.unusedVariables false
theorem ops_ok {F : Gf} (h : F ∈ fds) : OpsOk F:=⟨h,ex_ok F h,add_ok F h,sub_ok F h,mul_ok F h,neg_ok F h,List.all_eq_true.1 inv_k F h⟩
section
variable [Rho]
theorem rm_ok : ∀ G ∈ rmk.map rmakeF,G.Holds Try.prog 40:=by
 intro G hG
 obtain ⟨x,hx,rfl⟩:=List.mem_map.1 hG
 have e : rmk = (rmk.drop 0).take 9 ++ ((rmk.drop 9).take 5 ++ ((rmk.drop 14).take 4 ++ ((rmk.drop 18).take 5 ++ (rmk.drop 23).take 4))):=by rfl
 rw [e] at hx
 simp only [List.mem_append] at hx
 rcases hx with h | h | h | h | h
 ·exact chk_ok (noOrc_ok _) (List.all_eq_true.1 rm_0 x h)
 ·exact chk_ok (noOrc_ok _) (List.all_eq_true.1 rm_1 x h)
 ·exact chk_ok (noOrc_ok _) (List.all_eq_true.1 rm_2 x h)
 ·exact chk_ok (noOrc_ok _) (List.all_eq_true.1 rm_3 x h)
 ·exact chk_ok (noOrc_ok _) (List.all_eq_true.1 rm_4 x h)
theorem LO_ok : FactsOk Try.prog LO:=⟨one orders_ok,rm_ok,trivial⟩
theorem of_ok {F : Gf} {i : Nat} (h : (F,i) ∈ fds.zipIdx) : (ofF i F).Holds Try.prog 11:=chk_ok (orcOf_ok LO_ok) (List.all_eq_true.1 of_k _ h)
end
theorem zip_mem {i : Nat} (h : i < fds.length) : (fds[i],i) ∈ fds.zipIdx:=by
 rw [List.mem_zipIdx_iff_getElem?]; exact List.getElem?_eq_getElem h
structure FldAt (F : Gf) (b cap : Nat) (W : World) : Prop where
 mem : F ∈ fds
 le : F.e ≤ cap
 blk : ∃ c e fz,W.heap[b]? = some (Obj.cells c e fz) ∧ c.size = cap ∧ c.toList.take F.e = F.mod.map fun (n : Nat)=>Value.int .i64 (n : Int)
variable {F : Gf} {b cap : Nat} {W : World}
theorem FldAt.lt (h : FldAt F b cap W) : b < W.heap.size:=by
 obtain ⟨c,e,fz,h1,_⟩:=h.blk
 rcases Nat.lt_or_ge b W.heap.size with h | h
 ·exact h
 ·rw [Array.getElem?_eq_none h] at h1; cases h1
theorem FldAt.below (h : FldAt F b cap W) {w : World} (hb : Below W.heap.size W w) : FldAt F b cap w:=by
 have hl:=h.lt
 obtain ⟨c,e,fz,h1,h2,h3⟩:=h.blk
 exact ⟨h.mem,h.le,c,e,fz,(hb.block b hl).trans h1,h2,h3⟩
theorem mod_len : ∀ F ∈ fds,F.mod.length = F.e:=by decide +kernel
theorem wr_fld [R : Rho] (h : FldAt F b cap W) {s : St} (hh : s.heap = (fOld F).map some) (hl : s.loops = []) : WR W.heap.size (fun i=>[(b,cap)][i]?) [] s W:=by
 obtain ⟨c,e,fz,h1,h2,h3⟩:=h.blk
 exact {
  dom:=fun i x hx=>by
   have:=(List.getElem?_eq_some_iff.1 hx).1
   rw [hh]; simpa using this
  blk:=fun i A hA=>by
   rw [hh] at hA
   match i,hA with
   | 0,hA =>
    have : A = { elem:=3,cells:=F.mod.map I,ro:=true }:=by
     have:=Option.some.inj hA
     exact (Option.some.inj this).symm
    subst this
    refine ⟨b,cap,c,(e,fz),rfl,h1,h2,fun hr=>(by cases hr),?_,TailOk.none (c:=c) rfl⟩
    show LR _ _ (F.mod.map I) (c.toList.take (F.mod.map I).length)
    rw [List.length_map,mod_len F h.mem,h3]
    refine ⟨by simp,fun i p q=>?_⟩
    rw [List.getElem_map,List.getElem_map]
    exact .int _ _
   | i + 1,hA=>simp [fOld] at hA
  inj:=fun i j A A' b n m k1 k2 k3 _ _=>by
   rw [hh] at k1
   match i,k1 with
   | 0,k1 =>
    have : A = { elem:=3,cells:=F.mod.map I,ro:=true }:=by
     have:=Option.some.inj k1
     exact (Option.some.inj this).symm
    rw [this] at k3; cases k3
   | i + 1,k1=>simp [fOld] at k1
  lsz:=by rw [hl]; rfl
  linj:=fun l l' L h=>by simp at h
  loop:=fun l r h=>by rw [hl] at h; cases h }
theorem rel_fld [R : Rho] (h : FldAt F b cap W) : VR (fun i=>[(b,cap)][i]?) [] (fA F) (FV F b cap):=by
 refine .agg rfl fun i p q=>?_
 match i,p with
 | 0,_=>exact .int _ _
 | 1,_=>exact .int _ _
 | 2,_=>exact .sliceIn rfl h.le (by simp)
theorem call_of [R : Rho] {f : FuncId} {l : List AV} {vs : List Value} {v : AV} {c : Value} (hf : Fct.Holds Try.prog f ⟨fA F :: l,fOld F,v,[],[]⟩) (hv : v.flat = true) (hc : v.vl = c) (hl : ∀ π : Inj,LR π [] l vs) (h : FldAt F b cap W) :
  Calls Try.prog f (FV F b cap :: vs).toArray W fun e w'=>e = .returned c ∧ Below W.heap.size W w':=by
 have:=Fct.calls hf hv (wr_fld h (s:=Fct.st ⟨fA F :: l,fOld F,v,[],[]⟩) rfl rfl) (LR.cons (rel_fld h) (hl _))
 rw [hc] at this
 exact this
theorem lr1 [R : Rho] (a : Nat) (π : Inj) : LR π [] [I a] [.int .i64 (a : Int)]:=LR.cons (.int _ _) .nil
theorem lr2 [R : Rho] (a c : Nat) (π : Inj) : LR π [] [I a,I c] [.int .i64 (a : Int),.int .i64 (c : Int)]:=LR.cons (.int _ _) (lr1 c π)
theorem fadd_c {a c : Nat} (ha : a < F.q) (hc : c < F.q) (h : FldAt F b cap W) : Calls Try.prog 73 #[FV F b cap,.int .i64 a,.int .i64 c] W fun e w'=>e = .returned (.int .i64 (F.add a c : Nat)) ∧ Below W.heap.size W w':=
 letI : Rho:=rhoN (r2 0 0)
 call_of (fAdd (ops_ok h.mem) ha hc (I_nu a) (I_nu c) (I_nu _)) rfl rfl (lr2 a c) h
theorem fsub_c {a c : Nat} (ha : a < F.q) (hc : c < F.q) (h : FldAt F b cap W) : Calls Try.prog 69 #[FV F b cap,.int .i64 a,.int .i64 c] W fun e w'=>e = .returned (.int .i64 (F.sub a c : Nat)) ∧ Below W.heap.size W w':=
 letI : Rho:=rhoN (r2 0 0)
 call_of (fSub (ops_ok h.mem) ha hc (I_nu a) (I_nu c) (I_nu _)) rfl rfl (lr2 a c) h
theorem fmul_c {a c : Nat} (ha : a < F.q) (hc : c < F.q) (h : FldAt F b cap W) : Calls Try.prog 68 #[FV F b cap,.int .i64 a,.int .i64 c] W fun e w'=>e = .returned (.int .i64 (F.mul a c : Nat)) ∧ Below W.heap.size W w':=
 letI : Rho:=rhoN (r2 0 0)
 call_of (fMul (ops_ok h.mem) ha hc (I_nu a) (I_nu c) (I_nu _)) rfl rfl (lr2 a c) h
theorem fneg_c {a : Nat} (ha : a < F.q) (h : FldAt F b cap W) : Calls Try.prog 72 #[FV F b cap,.int .i64 a] W fun e w'=>e = .returned (.int .i64 (F.neg a : Nat)) ∧ Below W.heap.size W w':=
 letI : Rho:=rhoN (r2 0 0)
 call_of (fNeg (ops_ok h.mem) ha (I_nu a) (I_nu _)) rfl rfl (lr1 a) h
theorem finv_c {a : Nat} (ha : a < F.q) (hz : a ≠ 0) (h : FldAt F b cap W) : Calls Try.prog 71 #[FV F b cap,.int .i64 a] W fun e w'=>e = .returned (.tuple #[.int .i64 (F.inv a : Nat),.int .i64 0]) ∧ Below W.heap.size W w':=
 letI : Rho:=rhoN (r2 0 0)
 have o:=ops_ok h.mem
 call_of (inv_fact (v:=I (F.inv a)) (ok_mem h.mem) o.ex o.mul o.inv ha hz (I_nu a) (I_nu _)) rfl rfl (lr1 a) h
end Go.Proofs.Ytllecfhfhcmpaaa
/- The reference's sums, differences, products: evaluated with letters. -/
namespace Go.Ev
open Go.Fl (allLt allLt_ok)
set_option linter.unusedSectionVars false
noncomputable def SX.evM (r : Nat → Nat) (e : SX) : Nat:=
 SX.rec (fun n=>n.toNat) (fun i _ _=>r i) (fun o _ _ a b=>match o with | .add=>Nat.add a b | .mul=>Nat.mul a b | .quo=>Nat.div a b | .rem=>Nat.mod a b | .sub=>Nat.sub a b) (fun _ _ _ _ _ _=>0) (fun _=>0) e
noncomputable def SX.subOk (e : SX) : Bool:=
 SX.rec (fun n=>match n with | .ofNat _=>true | _=>false) (fun _ _ _=>true)
  (fun o a b x y=>match o with
   | .sub=>(match a.rng,b.rng with | some (la,_),some (_,hb)=>bif decide (hb ≤ la) then (bif x then y else false) else false | _,_=>false)
   | _=>bif x then y else false) (fun _ _ _ _ _ _=>false) (fun _=>false) e
noncomputable def SX.varsOk (la ha lb hb : Nat) (e : SX) : Bool:=
 SX.rec (fun _=>true) (fun i lo hi=>match i with
  | 0=>decide (lo ≤ Int.ofNat la) && decide (Int.ofNat ha ≤ hi)
  | _ + 1=>decide (lo ≤ Int.ofNat lb) && decide (Int.ofNat hb ≤ hi)) (fun _ _ _ x y=>bif x then y else false) (fun _ _ _ _ _ _=>false) (fun _=>false) e
theorem SX.varsOk_ok {la ha lb hb a b : Nat} (h1 : la ≤ a) (h2 : a ≤ ha) (h3 : lb ≤ b) (h4 : b ≤ hb) {e : SX} (h : e.varsOk la ha lb hb = true) : @SX.ok (rhoN (r2 a b)) e:=by
 letI:=rhoN (r2 a b)
 induction e with
 | lit n=>trivial
 | var i lo hi =>
  cases i with
  | zero =>
   have h' : (decide (lo ≤ Int.ofNat la) && decide (Int.ofNat ha ≤ hi)) = true:=h
   simp only [Bool.and_eq_true,decide_eq_true_eq,Int.ofNat_eq_natCast] at h'
   show lo ≤ ((a : Nat) : Int) ∧ ((a : Nat) : Int) ≤ hi
   omega
  | succ i =>
   have h' : (decide (lo ≤ Int.ofNat lb) && decide (Int.ofNat hb ≤ hi)) = true:=h
   simp only [Bool.and_eq_true,decide_eq_true_eq,Int.ofNat_eq_natCast] at h'
   show lo ≤ ((b : Nat) : Int) ∧ ((b : Nat) : Int) ≤ hi
   omega
 | bin o x y ihx ihy =>
  have:=bif_and (x:=x.varsOk la ha lb hb) (y:=y.varsOk la ha lb hb) h
  exact ⟨ihx this.1,ihy this.2⟩
 | wop op k x y=>cases h
 | free i=>cases h
theorem SX.evM_ok (r : Nat → Nat) {e : SX} (h : e.subOk = true) (ho : @SX.ok (rhoN r) e) : @SX.eval (rhoN r) e = (e.evM r : Int):=by
 letI:=rhoN r
 induction e with
 | lit n =>
  cases n with
  | ofNat n=>rfl
  | negSucc n=>cases h
 | var i lo hi=>rfl
 | bin o a b iha ihb =>
  cases o with
  | sub =>
   have h' : (match a.rng,b.rng with | some (la,_),some (_,hb)=>bif decide (hb ≤ la) then (bif a.subOk then b.subOk else false) else false | _,_=>false) = true:=h
   split at h'
   ·rename_i la ha lb hb e1 e2
    have h2:=bif_and h'
    have h3:=bif_and h2.2
    have k1:=SX.rng_ok e1 ho.1
    have k2:=SX.rng_ok e2 ho.2
    have hle:=of_decide_eq_true h2.1
    have i1:=iha h3.1 ho.1
    have i2:=ihb h3.2 ho.2
    show @SX.eval (rhoN r) a - @SX.eval (rhoN r) b = ((a.evM r - b.evM r : Nat) : Int)
    omega
   ·cases h'
  | add=>have:=bif_and (x:=a.subOk) (y:=b.subOk) h; show @SX.eval (rhoN r) a + @SX.eval (rhoN r) b = _; rw [iha this.1 ho.1,ihb this.2 ho.2]; rfl
  | mul=>have:=bif_and (x:=a.subOk) (y:=b.subOk) h; show @SX.eval (rhoN r) a * @SX.eval (rhoN r) b = _; rw [iha this.1 ho.1,ihb this.2 ho.2]; rfl
  | quo=>have:=bif_and (x:=a.subOk) (y:=b.subOk) h; show (@SX.eval (rhoN r) a).tdiv (@SX.eval (rhoN r) b) = _; rw [iha this.1 ho.1,ihb this.2 ho.2]; rfl
  | rem=>have:=bif_and (x:=a.subOk) (y:=b.subOk) h; show (@SX.eval (rhoN r) a).tmod (@SX.eval (rhoN r) b) = _; rw [iha this.1 ho.1,ihb this.2 ho.2]; rfl
 | wop op k a b=>cases h
 | free i=>cases h
noncomputable def numOkM (v : AV) (la ha lb hb : Nat) (f : Nat → Nat → Nat) : Bool:=
 match v with
 | .sym .i64 e _ _=>(bif SX.subOk e then (bif SX.varsOk la ha lb hb e then allLt (ha + 1 - la) fun i=>allLt (hb + 1 - lb) fun j=>Nat.beq (SX.evM (r2 (Nat.add la i) (Nat.add lb j)) e) (f (Nat.add la i) (Nat.add lb j)) else false) else false)
 | .int .i64 n=>(match n with
  | .ofNat n=>allLt (ha + 1 - la) fun i=>allLt (hb + 1 - lb) fun j=>Nat.beq n (f (Nat.add la i) (Nat.add lb j))
  | _=>false)
 | _=>false
theorem numOkM_ok {v : AV} {la ha lb hb : Nat} {f : Nat → Nat → Nat} (h : numOkM v la ha lb hb f = true) {a b : Nat} (h1 : la ≤ a) (h2 : a ≤ ha) (h3 : lb ≤ b) (h4 : b ≤ hb) :
  v.lone = true ∧ @AV.vl0 (rhoN (r2 a b)) v = .int .i64 (f a b : Nat):=by
 have ea : la + (a - la) = a:=by omega
 have eb : lb + (b - lb) = b:=by omega
 unfold numOkM at h
 split at h
 ·rename_i e lo hi
  have h':=bif_and h
  have h'':=bif_and h'.2
  have:=allLt_ok (allLt_ok h''.2 (a - la) (by omega)) (b - lb) (by omega)
  rw [Nat.beq_eq] at this
  simp only [Nat.add_eq,ea,eb] at this
  refine ⟨rfl,?_⟩
  show Value.int .i64 (@SX.eval (rhoN (r2 a b)) e) = _
  rw [SX.evM_ok _ h'.1 (SX.varsOk_ok h1 h2 h3 h4 h''.1),this]
 ·split at h
  ·rename_i n
   have:=allLt_ok (allLt_ok h (a - la) (by omega)) (b - lb) (by omega)
   rw [Nat.beq_eq] at this
   simp only [Nat.add_eq,ea,eb] at this
   exact ⟨rfl,by show Value.int .i64 (Int.ofNat n) = _; rw [this]; rfl⟩
  ·cases h
 ·cases h
end Go.Ev
namespace Go.Proofs.Ytllecfhfhcmpaaa
open Go.Ev Go.Fl
set_option linter.unusedSectionVars false
variable {F : Gf}
noncomputable def chkR2 (f : FuncId) (op : Gf → Nat → Nat → Nat) (F : Gf) : Bool:=match (evF Try.prog noOrc 5000).call f [fA F,lv 0 0 (F.q - 1),lv 1 0 (F.q - 1)] (fSt F) with
 | some (v,_,_)=>numOkM v 0 (F.q - 1) 0 (F.q - 1) (op F)
 | none=>false
noncomputable def chkR1 (f : FuncId) (op : Gf → Nat → Nat) (F : Gf) : Bool:=match (evF Try.prog noOrc 5000).call f [fA F,lv 1 0 (F.q - 1)] (fSt F) with
 | some (v,_,_)=>numOkM v 0 0 0 (F.q - 1) (fun _ b=>op F b)
 | none=>false
theorem r2_fact [R : Rho] {f : FuncId} {op : Gf → Nat → Nat → Nat} (hc : chkR2 f op F = true) {x y v : AV} {a b : Nat} (ha : a < F.q) (hb : b < F.q) (nx : Nu x a) (ny : Nu y b) (nv : Nu v (op F a b : Nat)) : (f2 F x y v).Holds Try.prog f:=by
 unfold chkR2 at hc
 split at hc
 ·rename_i v' s1 q e
  obtain ⟨k1,k2⟩:=numOkM_ok hc (Nat.zero_le a) (by omega) (Nat.zero_le b) (by omega)
  have h0 : @Fct.Holds (rhoN (r2 a b)) Try.prog f ⟨[fA F,lv 0 0 (F.q - 1),lv 1 0 (F.q - 1)],fOld F,v',[],[]⟩:=Fct.holds' fit (@noOrc_ok (rhoN (r2 a b)) _) (good_n rfl (lone_all2 k1)) e
  exact turnF h0 (lone_flat k1) (by rw [@lone_vl (rhoN (r2 a b)) v' k1,k2]) (ns:=[(a : Int),(b : Int)]) ⟨@lv_nu (rhoN (r2 a b)) _ _ _ _ rfl (Nat.zero_le a) (by omega),@lv_nu (rhoN (r2 a b)) _ _ _ _ rfl (Nat.zero_le b) (by omega),trivial⟩ ⟨nx,ny,trivial⟩ (rsN nv)
 ·cases hc
theorem r1_fact [R : Rho] {f : FuncId} {op : Gf → Nat → Nat} (hc : chkR1 f op F = true) {y v : AV} {b : Nat} (hb : b < F.q) (ny : Nu y b) (nv : Nu v (op F b : Nat)) : (f1 F y v).Holds Try.prog f:=by
 unfold chkR1 at hc
 split at hc
 ·rename_i v' s1 q e
  obtain ⟨k1,k2⟩:=numOkM_ok hc (Nat.zero_le 0) (Nat.le_refl 0) (Nat.zero_le b) (by omega)
  have h0 : @Fct.Holds (rhoN (r2 0 b)) Try.prog f ⟨[fA F,lv 1 0 (F.q - 1)],fOld F,v',[],[]⟩:=Fct.holds' fit (@noOrc_ok (rhoN (r2 0 b)) _) (good_n rfl (lone_all2 k1)) e
  exact turnF h0 (lone_flat k1) (by rw [@lone_vl (rhoN (r2 0 b)) v' k1,k2]) (ns:=[(b : Int)]) ⟨@lv_nu (rhoN (r2 0 b)) _ _ _ _ rfl (Nat.zero_le b) (by omega),trivial⟩ ⟨ny,trivial⟩ (rsN nv)
 ·cases hc
end Go.Proofs.Ytllecfhfhcmpaaa
/- The reference's sums and differences, evaluated. -/
namespace Go.Proofs.Ytllecfhfhcmpaaa
open Go.Ev Go.Fl
theorem radd_k : fds.all (chkR2 33 Gf.add) = true:=by kernel_rfl
theorem rneg_k : fds.all (chkR1 35 Gf.neg) = true:=by kernel_rfl
theorem rmul_p : primes.all (chkR2 34 Gf.mul) = true:=by kernel_rfl
theorem rmul_m : mids.all (chkR2 34 Gf.mul) = true:=by kernel_rfl
theorem rmul_a : (fdOf 49).all (chkR2 34 Gf.mul) = true:=by kernel_rfl
theorem rmul_b : (fdOf 64).all (chkR2 34 Gf.mul) = true:=by kernel_rfl
theorem rmul_ok : ∀ F ∈ fds,chkR2 34 Gf.mul F = true:=split rmul_p rmul_m rmul_a rmul_b
end Go.Proofs.Ytllecfhfhcmpaaa
/- Values and copies of lists; the lists that the law takes. -/
namespace Go.Proofs.Ytllecfhfhcmpaaa
open Go.RowKit Go.Fl
set_option maxRecDepth 100000
set_option linter.unusedVariables false
set_option linter.unusedSimpArgs false
set_option linter.unusedSectionVars false
set_option maxHeartbeats 3200000 in
theorem eval_c {F : Gf} {b cap : Nat} {A : List Nat} {aa : Option Addr} {la ca x : Nat} {W : World} (hO : Ops F b cap W) (hA : In F A) (ha : A.length ≤ 1000) (ea : la = A.length) (hx : x < F.q)
  (na : NN A W (.slice aa la ca)) : Calls Try.prog 27 #[FV F b cap,.slice aa la ca,.int .i64 (x : Nat)] W fun e w'=>e = .returned (.int .i64 (ev F x A : Nat)) ∧ Below W.heap.size W w':=by
 have hb0 : Below W.heap.size W (W.alloc (.cells #[.int .i64 F.p,.int .i64 F.e,FM F b cap] 28)):=(Below.refl _ _).alloc (Nat.le_refl _) _
 have HOV:=Lib.hid (over_c (p:=F.p) (q:=F.e) (ma:=some ⟨b,0,none⟩) (ml:=F.e) (mc:=cap) (L:=A) (by omega) ea (na.below hb0))
 have HEV : Hid (∀ w,Below W.heap.size W w → Calls Try.prog 58 #[PF F b cap aa (trL A).length ca,.int .i64 (x : Nat)] w fun e w'=>e = .returned (.int .i64 (ev F x A : Nat)) ∧ Below w.heap.size w w'):=Lib.hid (fun w hw=>by
  have:=value_c (hO.below hw) (in_trL hA) (Nat.le_trans (trL_len A) ha) rfl hx ((na.tr2 ea).below hw)
  rwa [ev_trL hO.ok] at this)
 have HB0:=Lib.hid hb0
 clear hO hA ha ea hx na hb0
 go_enter Try.func27,Try.ntmps27
 go_wp2_with fail
 with_reducible refine HOV.out.mono ?_
 rintro z w1 ⟨rfl,hb1⟩
 have HB1:=Lib.hid (HB0.out.trans (hb1.mono (by simp)))
 clear hb1
 go_wp2_with fail
 with_reducible refine (HEV.out _ HB1.out).mono ?_
 rintro z w2 ⟨rfl,hb2⟩
 have HB2:=Lib.hid (HB1.out.trans (hb2.mono HB1.out.size))
 clear hb2
 go_wp2
 go_ret
 exact ⟨rfl,HB2.out⟩
theorem pow_q {F : Gf} (hF : Ok F) : F.p ^ F.e = F.q:=hF.qe.symm
set_option maxHeartbeats 1600000 in
theorem size_c {F : Gf} (hF : Ok F) (b cap : Nat) (W : World) : Calls Try.prog 12 #[FV F b cap] W fun e w'=>e = .returned (.int .i64 (F.q : Nat)) ∧ Below W.heap.size W w':=by
 have HP : Hid (∀ w,Calls Try.prog 41 #[.int .i64 (F.p : Nat),.int .i64 (F.e : Nat)] w fun z w'=>z = .returned (.int .i64 (F.q : Nat)) ∧ w' = w):=Lib.hid (fun w=>by
  have:=power_c F.p F.e hF.p2 (by rw [pow_q hF]; exact hF.q64) w
  rwa [pow_q hF] at this)
 clear hF
 go_enter Try.func12,Try.ntmps12
 go_wp2_with fail
 with_reducible refine (HP.out _).mono ?_
 rintro z w1 ⟨rfl,rfl⟩
 go_wp2
 go_ret
 exact ⟨rfl,(Below.refl _ _).alloc (Nat.le_refl _) _⟩
theorem ints_oneK (L : List Nat) : ∀ u ∈ L.map N64,u.oneCell' = true:=by
 intro u hu
 obtain ⟨x,_,rfl⟩:=List.mem_map.1 hu
 rfl
end Go.Proofs.Ytllecfhfhcmpaaa
/- Fields where they lie: their operations, the reference's, and the field that the laws take. -/
namespace Go.Proofs.Ytllecfhfhcmpaaa
open Go.Ev Go.Fl
open Go.RowKit (Below)
set_option linter.unusedSectionVars false
set_option linter.unusedVariables false
variable {F : Gf} {b cap : Nat} {W : World}
theorem FldAt.ops (h : FldAt F b cap W) : Ops F b cap W:=
 ⟨ok_mem h.mem,fun w hw x y hx hy=>fadd_c hx hy (h.below hw),fun w hw x y hx hy=>fsub_c hx hy (h.below hw),fun w hw x y hx hy=>fmul_c hx hy (h.below hw),fun w hw x hx=>fneg_c hx (h.below hw),fun w hw x hx hz=>finv_c hx hz (h.below hw)⟩
theorem radd_c {a c : Nat} (ha : a < F.q) (hc : c < F.q) (h : FldAt F b cap W) : Calls Try.prog 33 #[FV F b cap,.int .i64 a,.int .i64 c] W fun e w'=>e = .returned (.int .i64 (F.add a c : Nat)) ∧ Below W.heap.size W w':=
 letI : Rho:=rhoN (r2 0 0)
 call_of (r2_fact (List.all_eq_true.1 radd_k F h.mem) ha hc (I_nu a) (I_nu c) (I_nu _)) rfl rfl (lr2 a c) h
theorem rmul_c {a c : Nat} (ha : a < F.q) (hc : c < F.q) (h : FldAt F b cap W) : Calls Try.prog 34 #[FV F b cap,.int .i64 a,.int .i64 c] W fun e w'=>e = .returned (.int .i64 (F.mul a c : Nat)) ∧ Below W.heap.size W w':=
 letI : Rho:=rhoN (r2 0 0)
 call_of (r2_fact (rmul_ok F h.mem) ha hc (I_nu a) (I_nu c) (I_nu _)) rfl rfl (lr2 a c) h
theorem rneg_c {a : Nat} (ha : a < F.q) (h : FldAt F b cap W) : Calls Try.prog 35 #[FV F b cap,.int .i64 a] W fun e w'=>e = .returned (.int .i64 (F.neg a : Nat)) ∧ Below W.heap.size W w':=
 letI : Rho:=rhoN (r2 0 0)
 call_of (r1_fact (List.all_eq_true.1 rneg_k F h.mem) ha (I_nu a) (I_nu _)) rfl rfl (lr1 a) h
theorem fct_madeK {P : Program} {R : Rho} {f : FuncId} {F : Fct} (h : @Fct.Holds R P f F) {π : Inj} {w : World} {vs : Array Value} (hw : @WR R w.heap.size π [] F.st w) (hl : @LR R π [] F.args vs.toList) :
  Calls P f vs w fun e w'=>∃ c π' lm' s1,e = .returned c ∧ @VR R π' lm' F.v c ∧ @WR R w.heap.size π' lm' s1 w' ∧ chkNew s1.heap F.sel F.new = true ∧ Below w.heap.size w w':=by
 obtain ⟨_,hg,s1,hc,hrun⟩:=h
 have h1:=hrun w vs 0 π hw hl
 have h2 : CallsIn Fence.wide 0 P f vs w _:=h1
 refine (callsIn_wide.1 h2).mono ?_
 rintro e w' ⟨c,π',lm',rfl,m1,m2,m3⟩
 simp only [Fct.good,Bool.and_eq_true,List.all_eq_true] at hg
 refine ⟨c,π',lm',s1,rfl,m1,m2,hc,m3.os,m3.tape,m3.output,m3.size,fun r hr=>m3.keep r hr (fun i A n h1 h3=>?_) (by simp)⟩
 simp only [Fct.st,List.getElem?_map,Option.map_eq_some_iff,Option.some.injEq] at h1
 obtain ⟨A'',hA,rfl⟩:=h1
 rw [(hg.1 _ (List.mem_of_getElem? hA)).1] at h3; cases h3
def fdOfByte (x : Nat) : Gf:=fds.getD (x % 27) ⟨2,1,2,1,[0],1,0⟩
theorem fdOfByte_mem (x : Nat) : (fdOfByte x,x % 27) ∈ fds.zipIdx:=by
 have h : x % 27 < fds.length:=by show x % 27 < 27; omega
 have:=zip_mem h
 unfold fdOfByte
 rw [List.getD_eq_getElem?_getD,List.getElem?_eq_getElem h]
 exact this
theorem new_atK [R : Rho] {h : List (Option ABlk)} {i : Nat} {B : ABlk} (hc : chkNew h [i] [B] = true) : h[i]? = some (some B):=by
 unfold chkNew at hc
 simp only [Bool.and_eq_true] at hc
 have h1:=hc.1
 split at h1
 ·rename_i A hA
  rw [nthD_eq] at hA
  rw [beqB_ok h1] at hA
  cases hx : h[i]? with
  | none=>rw [hx] at hA; cases hA
  | some y=>rw [hx] at hA; simp only [Option.getD_some] at hA; rw [hA]
 ·cases h1
theorem byteX_vl [Rho] {n i : Nat} {r : SX} {lo x : Nat} (hi : Rho.ρ i = ((x / n : Nat) : Int)) (hr : r.eval = ((x % n : Nat) : Int)) : (byteX n i r lo).vl0 = .int .u8 (x : Int):=by
 show Value.int .u8 (Int.ofNat n * Rho.ρ i + r.eval) = _
 rw [hi,hr]
 congr 1
 rw [Int.ofNat_eq_natCast,← Int.natCast_mul,← Int.natCast_add,Nat.div_add_mod]
theorem byteX_fine [Rho] {n i : Nat} {r : SX} {lo x : Nat} (hx : x ≤ 255) (hi : Rho.ρ i = ((x / n : Nat) : Int)) (hr : r.eval = ((x % n : Nat) : Int)) (ho : r.ok) (hl : lo ≤ x % n) : (byteX n i r lo).fine0:=by
 have hv:=byteX_vl (lo:=lo) hi hr
 have he : (SX.bin .add (.bin .mul (.lit (Int.ofNat n)) (.var i 0 (Int.ofNat (255 / n)))) r).eval = (x : Int):=by
  have : Value.int .u8 _ = Value.int .u8 _:=hv
  injection this
 refine ⟨⟨⟨trivial,?_⟩,ho⟩,?_,?_⟩
 ·show (0 : Int) ≤ Rho.ρ i ∧ Rho.ρ i ≤ Int.ofNat (255 / n)
  rw [hi,Int.ofNat_eq_natCast]
  have:=Nat.div_le_div_right (c:=n) hx
  exact ⟨Int.natCast_nonneg _,Int.ofNat_le.2 this⟩
 ·rw [he,Int.ofNat_eq_natCast]
  have:=Nat.mod_le x n
  omega
 ·rw [he]; omega
theorem wr_none [R : Rho] {B : Nat} {s : St} {w : World} (hh : s.heap = []) (hl : s.loops = []) : WR B (fun _=>none) [] s w:={
 dom:=fun i x hx=>by cases hx
 blk:=fun i A hA=>by rw [hh] at hA; simp at hA
 inj:=fun i j A A' b n m k1=>by rw [hh] at k1; simp at k1
 lsz:=by rw [hl]; rfl
 linj:=fun l l' L h=>by simp at h
 loop:=fun l r h=>by rw [hl] at h; cases h }
theorem lr_ints [R : Rho] {π : Inj} {lm : List Nat} : ∀ {l : List Nat} {vs : List Value},LR π lm (l.map I) vs → vs = l.map fun (n : Nat)=>Value.int .i64 (n : Int)
 | [],vs,h=>h.nil_inv
 | x :: l,vs,h=>by
  obtain ⟨c,ws,rfl,h1,h2⟩:=h.uncons
  rw [h1.int_inv,lr_ints h2]; rfl
theorem of01_c (x : Nat) (hx : x ≤ 255) (W : World) : Calls Try.prog 11 #[.int .u8 (x : Nat)] W fun e w'=>∃ b cap,e = .returned (FV (fdOfByte x) b cap) ∧ FldAt (fdOfByte x) b cap w' ∧ Below W.heap.size W w':=by
 letI R : Rho:=rhoN (fun i=>if i = 20 then x / 27 else 0)
 have hm:=fdOfByte_mem x
 have hf:=of_ok hm
 have hmem : fdOfByte x ∈ fds:=by
  have:=List.mem_zipIdx_iff_getElem?.1 hm
  exact List.mem_of_getElem? this
 generalize fdOfByte x = F at *
 have hi : (Rho.ρ 20 : Int) = ((x / 27 : Nat) : Int):=rfl
 have hr : (SX.lit (Int.ofNat (x % 27))).eval = ((x % 27 : Nat) : Int):=rfl
 have hfi:=byteX_fine (n:=27) (lo:=x % 27) hx hi hr trivial (Nat.le_refl _)
 have hvl:=byteX_vl (n:=27) (lo:=x % 27) hi hr
 have hrel : ∀ π : Inj,LR π [] (ofF (x % 27) F).args [.int .u8 (x : Nat)]:=fun π=>by
  have:=vl0_rel (π:=π) (lm:=[]) (v:=byteX 27 20 (.lit (Int.ofNat (x % 27))) (x % 27)) rfl hfi
  rw [hvl] at this
  exact LR.cons this .nil
 refine (fct_madeK hf (wr_none (s:=(ofF (x % 27) F).st) rfl rfl) (vs:=#[.int .u8 (x : Nat)]) (hrel _)).mono ?_
 rintro e w' ⟨c,π',lm',s1,rfl,hv,hw,hn,hb⟩
 cases hv with
 | @agg l a hs h =>
  obtain ⟨c0,r0,e0,v0,t0⟩:=LR.uncons (vs:=a.toList) ⟨hs,h⟩
  obtain ⟨c1,r1,e1,v1,t1⟩:=t0.uncons
  obtain ⟨c2,r2',e2,v2,t2⟩:=t1.uncons
  have e3:=t2.nil_inv
  subst e3; subst e2; subst e1
  have ha : a = #[c0,c1,c2]:=by apply Array.ext'; exact e0
  subst ha
  rw [v0.int_inv,v1.int_inv]
  cases v2 with
  | @sliceIn b b' n off len cap cap' es hp hc hn' =>
   obtain ⟨cs,fz,g1,g2,_,g4,_⟩:=hw.at (new_atK hn) hp
   have hcap : cap' = n:=by omega
   refine ⟨b',cap',rfl,⟨hmem,hc,cs,_,_,g1,by rw [hcap]; exact g2,?_⟩,hb⟩
   have:=lr_ints g4
   have hl : (fB F).cells.length = F.e:=by show (F.mod.map I).length = _; rw [List.length_map,mod_len F hmem]
   rw [hl] at this
   exact this
end Go.Proofs.Ytllecfhfhcmpaaa
/- Boxes of polynomials; what divide answers. -/
namespace Go.Proofs.Ytllecfhfhcmpaaa
open Go.RowKit Go.Fl
set_option maxRecDepth 100000
set_option linter.unusedVariables false
set_option linter.unusedSimpArgs false
set_option linter.unusedSectionVars false
def RowC (R : List Nat) (g cap : Nat) (w : World) : Prop:=w.ownsRow 0 3 1 (.slice (some ⟨g,0,none⟩) R.length cap) R.length (R.map N64)
theorem own_other {w : World} {base g B j cap : Nat} {n : Nat} {xs : List Value} {x : Value} (h : w.ownsRow base 3 1 (.slice (some ⟨g,0,none⟩) n cap) n xs) (hg : g ≠ B) : (w.setCell ⟨B,j,none⟩ x).ownsRow base 3 1 (.slice (some ⟨g,0,none⟩) n cap) n xs:=by
 obtain ⟨h1,h2⟩:=h
 refine ⟨h1,h2.imp_right ?_⟩
 rintro ⟨g',cap',cur,a1,a2,a3,a4⟩
 simp only [Value.slice.injEq,Option.some.injEq,Addr.mk.injEq] at a1
 obtain ⟨⟨rfl,_⟩,_,rfl⟩:=a1
 exact ⟨g,cap,cur,rfl,a2,by rw [Below.heap_setCell _ _ _ _ (by exact hg)]; exact a3,a4⟩
section
variable {R : List Nat} {g cap : Nat} {w : World}
theorem RowC.lt (h : RowC R g cap w) : g < w.heap.size:=(World.ownsRow.lt h g rfl).2
theorem RowC.below (h : RowC R g cap w) {w' : World} (hb : Below w.heap.size w w') : RowC R g cap w':=own_belowK h hb
theorem RowC.nn (h : RowC R g cap w) : NN R w (.slice (some ⟨g,0,none⟩) R.length cap):=NN.of_owns h
theorem RowC.cell (h : RowC R g cap w) {t : Nat} (ht : t < R.length) : w.cell? ⟨g,t,none⟩ = some (.int .i64 (R.getD t 0 : Nat)):=by
 rw [World.ownsRow.cellAt h t (by omega),List.getElem?_map,List.getElem?_eq_getElem ht]
 simp [List.getD,ht]
theorem RowC.frozen (h : RowC R g cap w) (t : Nat) : w.frozen? ⟨g,t,none⟩ = false:=World.ownsRow.frozenAt h t
theorem RowC.set (h : RowC R g cap w) (t x : Nat) : RowC (R.set t x) g cap (w.setCell ⟨g,t,none⟩ (.int .i64 x)):=by
 unfold RowC
 rw [List.length_set,List.map_set]
 exact (World.ownsRow.stored h t (.int .i64 x)).1
theorem RowC.other {B j : Nat} {x : Value} (h : RowC R g cap w) (hg : g ≠ B) : RowC R g cap (w.setCell ⟨B,j,none⟩ x):=own_other h hg
theorem Row.other {B j : Nat} {x : Value} (h : Row R g w) (hg : g ≠ B) : Row R g (w.setCell ⟨B,j,none⟩ x):=own_other h hg
theorem RowC.le (h : RowC R g cap w) : R.length ≤ cap:=by
 rcases h.2 with ⟨h,_⟩ | ⟨g',cap',cur,h1,_,_,h4,_⟩
 ·cases h
 ·simp only [Value.slice.injEq] at h1
  rw [h1.2.2]; exact h4
end
theorem heap4 {w : World} {B g : Nat} {x0 x1 x2 x3 : Value} (h : g ≠ B) : ((((w.setCell ⟨B,0,none⟩ x0).setCell ⟨B,1,none⟩ x1).setCell ⟨B,2,none⟩ x2).setCell ⟨B,3,none⟩ x3).heap[g]? = w.heap[g]?:=by
 rw [Below.heap_setCell _ _ _ _ (by exact h),Below.heap_setCell _ _ _ _ (by exact h),Below.heap_setCell _ _ _ _ (by exact h),Below.heap_setCell _ _ _ _ (by exact h)]
theorem frozen_block {w w' : World} {g : Nat} (h : w'.heap[g]? = w.heap[g]?) (j : Nat) : w'.frozen? ⟨g,j,none⟩ = w.frozen? ⟨g,j,none⟩:=by
 unfold World.frozen?
 rw [h]
theorem othc (w : World) {a b : Addr} (v : Value) (h : a ≠ b) : (w.setCell a v).cell? b = w.cell? b:=World.cell?_setCell_other _ _ _ _ h
section four
variable {w : World} {B : Nat} {u x0 x1 x2 x3 : Value}
theorem four0 (c : w.cell? ⟨B,0,none⟩ = some u) : ((((w.setCell ⟨B,0,none⟩ x0).setCell ⟨B,1,none⟩ x1).setCell ⟨B,2,none⟩ x2).setCell ⟨B,3,none⟩ x3).cell? ⟨B,0,none⟩ = some x0:=
 (othc _ _ (by simp)).trans ((othc _ _ (by simp)).trans ((othc _ _ (by simp)).trans (World.cell?_setCell_same (u:=u) (h:=c) ..)))
theorem four1 (c : w.cell? ⟨B,1,none⟩ = some u) : ((((w.setCell ⟨B,0,none⟩ x0).setCell ⟨B,1,none⟩ x1).setCell ⟨B,2,none⟩ x2).setCell ⟨B,3,none⟩ x3).cell? ⟨B,1,none⟩ = some x1:=
 (othc _ _ (by simp)).trans ((othc _ _ (by simp)).trans (World.cell?_setCell_same (u:=u) (h:=(othc _ _ (by simp)).trans c) ..))
theorem four2 (c : w.cell? ⟨B,2,none⟩ = some u) : ((((w.setCell ⟨B,0,none⟩ x0).setCell ⟨B,1,none⟩ x1).setCell ⟨B,2,none⟩ x2).setCell ⟨B,3,none⟩ x3).cell? ⟨B,2,none⟩ = some x2:=
 (othc _ _ (by simp)).trans (World.cell?_setCell_same (u:=u) (h:=(othc _ _ (by simp)).trans ((othc _ _ (by simp)).trans c)) ..)
theorem four3 (c : w.cell? ⟨B,3,none⟩ = some u) : ((((w.setCell ⟨B,0,none⟩ x0).setCell ⟨B,1,none⟩ x1).setCell ⟨B,2,none⟩ x2).setCell ⟨B,3,none⟩ x3).cell? ⟨B,3,none⟩ = some x3:=
 World.cell?_setCell_same (u:=u) (h:=(othc _ _ (by simp)).trans ((othc _ _ (by simp)).trans ((othc _ _ (by simp)).trans c))) ..
end four
abbrev w4 (W : World) (p q : Int) (m u v : Value) : World:=(w3 W p q m u v).alloc (.cells #[.int .i64 0,.int .i64 0,.slice none 0 0,.slice none 0 0] 61)
structure P4 (W : World) (p q : Int) (m u v : Value) (w : World) : Prop where
 b0 : PB W.heap.size p q m u w
 b1 : PB (W.heap.size + 1) p q m v w
 b2 : PB (W.heap.size + 1 + 1) 0 0 (.slice none 0 0) (.slice none 0 0) w
 b3 : PB (W.heap.size + 1 + 1 + 1) 0 0 (.slice none 0 0) (.slice none 0 0) w
 fz2 : ∀ j,w.frozen? ⟨W.heap.size + 1 + 1,j,none⟩ = false
 fz3 : ∀ j,w.frozen? ⟨W.heap.size + 1 + 1 + 1,j,none⟩ = false
 sz : W.heap.size + 4 ≤ w.heap.size
 bl : Below W.heap.size W w
theorem P4.keep {W w w' : World} {p q : Int} {m u v : Value} (h : P4 W p q m u v w) (hb : Below (W.heap.size + 4) w w') : P4 W p q m u v w':=
 ⟨PB.keep h.b0 hb (by omega),PB.keep h.b1 hb (by omega),PB.keep h.b2 hb (by omega),PB.keep h.b3 hb (by omega),fun j=>(hb.frozen (by show W.heap.size + 1 + 1 < _; omega)).trans (h.fz2 j),fun j=>(hb.frozen (by show W.heap.size + 1 + 1 + 1 < _; omega)).trans (h.fz3 j),Nat.le_trans h.sz hb.size,h.bl.trans (hb.mono (by omega))⟩
theorem P4.of (W : World) (p q : Int) (m u v : Value) : P4 W p q m u v (w4 W p q m u v):=by
 have h:=P3.of W p q m u v
 have e3 : (w3 W p q m u v).heap.size = W.heap.size + 1 + 1 + 1:=by simp
 have a3:=pb_at (w3 W p q m u v) 0 0 (.slice none 0 0) (.slice none 0 0)
 rw [e3] at a3
 have k : Below (W.heap.size + 3) (w3 W p q m u v) (w4 W p q m u v):=(Below.refl _ _).alloc (by rw [e3]; omega) _
 exact ⟨PB.keep h.b0 k (by omega),PB.keep h.b1 k (by omega),PB.keep h.b2 k (by omega),a3,fun j=>(k.frozen (by show W.heap.size + 1 + 1 < _; omega)).trans (h.fz j),fun j=>World.frozen?_alloc_at _ _ _ _ (by simp),by simp,h.bl.trans (k.mono (by omega))⟩
abbrev SD (W wr : World) (p q : Int) (m u v : Value) (g o : Nat) (cv : Value) (w : World) : Prop:=PB W.heap.size p q m u w ∧ w.cell? ⟨g,o,none⟩ = some cv ∧ Hid (P4 W p q m u v w) ∧ Hid (Below (W.heap.size + 4) wr w)
theorem SD.keep {W wr w w' : World} {p q : Int} {m u v cv : Value} {g o : Nat} (h : SD W wr p q m u v g o cv w) (hb : Below w.heap.size w w') (hk : W.heap.size + 4 ≤ w.heap.size) (hg : g < w.heap.size) : SD W wr p q m u v g o cv w':=
 ⟨PB.keep h.1 hb (by omega),(hb.cell (p:=⟨g,o,none⟩) hg).trans h.2.1,Lib.hid (h.2.2.1.out.keep (hb.mono hk)),Lib.hid (h.2.2.2.out.trans (hb.mono hk))⟩
abbrev SE (W wr : World) (p q : Int) (m u v : Value) (w : World) : Prop:=PB W.heap.size p q m u w ∧ True ∧ Hid (P4 W p q m u v w) ∧ Hid (Below (W.heap.size + 4) wr w)
theorem SE.keep {W wr w w' : World} {p q : Int} {m u v : Value} {k : Nat} (h : SE W wr p q m u v w) (hb : Below k w w') (hk : W.heap.size + 4 ≤ k) : SE W wr p q m u v w':=
 ⟨PB.keep h.1 hb (by omega),trivial,Lib.hid (h.2.2.1.out.keep (hb.mono hk)),Lib.hid (h.2.2.2.out.trans (hb.mono hk))⟩
abbrev SFi (W : World) (p q : Int) (m u : Value) (w : World) : Prop:=PB W.heap.size p q m u w ∧ Hid (Below W.heap.size W w)
theorem SFi.keep {W w w' : World} {p q : Int} {m u v : Value} (_ : SFi W p q m u w) (h' : P4 W p q m u v w') : SFi W p q m u w':=⟨h'.b0,Lib.hid h'.bl⟩
def DvPost (F : Gf) (b cap : Nat) (A B : List Nat) (w : World) (e : Ending) (w' : World) : Prop:=
 ∃ Q R a1 c1 a2 c2,e = .returned (.tuple #[PF F b cap a1 Q.length c1,PF F b cap a2 R.length c2]) ∧ NN Q w' (.slice a1 Q.length c1) ∧ NN R w' (.slice a2 R.length c2) ∧ DM F A B Q R ∧ Below w.heap.size w w' ∧ Fr w a1 ∧ Fr w a2
theorem own_someK {w : World} {base : Nat} {v : Value} {n : Nat} {xs : List Value} (h : w.ownsRow base 3 1 v n xs) (hne : 0 < n) : ∃ g cap,v = .slice (some ⟨g,0,none⟩) n cap:=by
 rcases h.2 with ⟨_,h⟩ | ⟨g,cap,cur,h,_⟩
 ·omega
 ·exact ⟨g,cap,h⟩
def Fa (n : Nat) (a : Option Addr) : Prop:=∀ h o,a = some ⟨h,o,none⟩ → n ≤ h
abbrev zbox : Obj:=.cells #[.int .i64 0,.int .i64 0,.slice none 0 0,.slice none 0 0] 61
inductive Ke where
 | eq (v : Value)
 | sl (l : List Nat)
 | sn (n : Nat) (l : List Nat)
 | pf (l : List Nat)
 | pn (n : Nat) (l : List Nat)
 | p2 (n : Nat) (l m : List Nat)
 | bx (n : Nat)
 | any
def Ke.ok (F : Gf) (b cap : Nat) : Ke → Value → World → Prop
 | .eq v,x,_=>x = v
 | .sl l,x,w=>∃ a c,x = .slice a l.length c ∧ NN l w (.slice a l.length c)
 | .sn n l,x,w=>∃ a c,x = .slice a l.length c ∧ NN l w (.slice a l.length c) ∧ Fa n a
 | .pf l,x,w=>∃ a c,x = PF F b cap a l.length c ∧ NN l w (.slice a l.length c)
 | .pn n l,x,w=>∃ a c,x = PF F b cap a l.length c ∧ NN l w (.slice a l.length c) ∧ Fa n a
 | .p2 n l m,x,w=>∃ a c a' c',x = .tuple #[PF F b cap a l.length c,PF F b cap a' m.length c'] ∧ NN l w (.slice a l.length c) ∧ NN m w (.slice a' m.length c') ∧ Fa n a ∧ Fa n a'
 | .bx n,x,w=>∃ g,x = .pointer (some ⟨g,0,none⟩) ∧ n ≤ g ∧ w.heap[g]? = some zbox
 | .any,_,_=>True
theorem blk_lt {w : World} {g : Nat} {o : Obj} (h : w.heap[g]? = some o) : g < w.heap.size:=by
 rcases Nat.lt_or_ge g w.heap.size with h' | h'
 ·exact h'
 ·rw [Array.getElem?_eq_none h'] at h; cases h
def Ke.isBx : Ke → Bool
 | .bx _=>true
 | _=>false
def ph (F : Gf) (b cap : Nat) (L : List Ke) (j : Nat) (x : Value) (w : World) : Prop:=(L.getD j .any).ok F b cap x w
def psi (L : List Ke) (j : Nat) (x : Value) (w : World) : Prop:=(L.getD j .any).isBx = true → x = .pointer (some ⟨w.heap.size,0,none⟩)
def chi (L : List Ke) (i j : Nat) (x y : Value) : Prop:=(L.getD i .any).isBx = true → (L.getD j .any).isBx = true → x ≠ y
theorem ph_mono {F : Gf} {b cap : Nat} (L : List Ke) : ∀ j x w w',Below w.heap.size w w' → ph F b cap L j x w → ph F b cap L j x w':=by
 intro j x w w' hb h
 unfold ph at *
 generalize L.getD j .any = k at *
 match k,h with
 | .eq v,h=>exact h
 | .sl l,⟨a,c,e,h⟩=>exact ⟨a,c,e,h.below hb⟩
 | .sn n l,⟨a,c,e,h,h'⟩=>exact ⟨a,c,e,h.below hb,h'⟩
 | .pf l,⟨a,c,e,h⟩=>exact ⟨a,c,e,h.below hb⟩
 | .pn n l,⟨a,c,e,h,h'⟩=>exact ⟨a,c,e,h.below hb,h'⟩
 | .p2 n l m,⟨a,c,a',c',e,h,h',h''⟩=>exact ⟨a,c,a',c',e,h.below hb,h'.below hb,h''⟩
 | .bx n,⟨g,e,h0,h1⟩=>exact ⟨g,e,h0,(hb.block g (blk_lt h1)).trans h1⟩
 | .any,_=>trivial
theorem psi_sep {F : Gf} {b cap : Nat} (L : List Ke) : ∀ i v w j x,psi L i v w → ph F b cap L j x w → chi L i j v x ∧ chi L j i x v:=by
 intro i v w j x h h'
 have key : (L.getD i .any).isBx = true → (L.getD j .any).isBx = true → v ≠ x:=by
  intro hi hj
  have e:=h hi
  unfold ph at h'
  generalize L.getD j .any = k at *
  match k,hj,h' with
  | .bx n,_,⟨g,e',_,h1⟩ =>
   rw [e,e']
   intro he
   cases he
   have:=blk_lt h1
   omega
 exact ⟨key,fun hj hi he=>key hi hj he.symm⟩
theorem noB {p : Prop} (h : false = true) : p:=Bool.noConfusion h
theorem box_put {w w9 : World} {g k : Nat} {u0 u1 : Int} {u2 u3 x0 x1 x2 x3 : Value} (hb : PB g u0 u1 u2 u3 w) (hz : ∀ j,w.frozen? ⟨g,j,none⟩ = false) (hk : k ≤ g) (e : w9 = ((((w.setCell ⟨g,0,none⟩ x0).setCell ⟨g,1,none⟩ x1).setCell ⟨g,2,none⟩ x2).setCell ⟨g,3,none⟩ x3)) :
  (w9.cell? ⟨g,0,none⟩ = some x0 ∧ w9.cell? ⟨g,1,none⟩ = some x1 ∧ w9.cell? ⟨g,2,none⟩ = some x2 ∧ w9.cell? ⟨g,3,none⟩ = some x3) ∧ (∀ h,h ≠ g → w9.heap[h]? = w.heap[h]?) ∧ (∀ j,w9.frozen? ⟨g,j,none⟩ = false) ∧ w9.heap.size = w.heap.size ∧ Below k w w9:=by
 subst e
 refine ⟨⟨four0 hb.1,four1 hb.2.1,four2 hb.2.2.1,four3 hb.2.2.2⟩,fun h hh=>heap4 hh,fun j=>?_,by simp,(((((Below.refl _ _).setCell (p:=⟨g,0,none⟩) hk _).setCell (p:=⟨g,1,none⟩) hk _).setCell (p:=⟨g,2,none⟩) hk _).setCell (p:=⟨g,3,none⟩) hk _)⟩
 simpa using hz j
theorem zb_at (w : World) : (w.alloc zbox).heap[w.heap.size]? = some zbox:=by unfold World.alloc; exact Array.getElem?_push_size
theorem zb_pb {w : World} {g : Nat} (h : w.heap[g]? = some zbox) : PB g 0 0 (.slice none 0 0) (.slice none 0 0) w:=by
 refine ⟨?_,?_,?_,?_⟩ <;> simp [World.cell?,h]
theorem zb_fz {w : World} {g : Nat} (h : w.heap[g]? = some zbox) (j : Nat) : w.frozen? ⟨g,j,none⟩ = false:=by simp [World.frozen?,h]
theorem NN.putz {L : List Nat} {w w9 : World} {g : Nat} {v : Value} (h : NN L w v) (hc : Cn L) (hz : w.heap[g]? = some zbox) (ho : ∀ h,h ≠ g → w9.heap[h]? = w.heap[h]?) (hs : w9.heap.size = w.heap.size) : NN L w9 v:=by
 rcases h with ⟨e,h⟩ | ⟨b,off,cap,h,h1,h2,h3⟩
 ·exact .inl ⟨e,h⟩
 ·refine .inr ⟨b,off,cap,h,h1,by rw [hs]; exact h2,fun t ht=>?_⟩
  have hne : b ≠ g:=by
   intro e
   subst e
   have hl:=h3 (L.length - 1) (by omega)
   have hn : L ≠ []:=fun e=>by rw [e] at ht; simp at ht
   have h0:=cn_last hc hn
   generalize L.getD (L.length - 1) 0 = x at hl h0
   simp only [World.cell?,hz] at hl
   generalize off + (L.length - 1) = k at hl
   match k,hl with
   | 0,hl=>simp at hl; omega
   | 1,hl=>simp at hl; omega
   | 2,hl=>simp at hl
   | 3,hl=>simp at hl
   | k + 4,hl=>simp at hl
  rw [World.cell?_of_block (w:=w) (ho b hne)]
  exact h3 t ht
theorem NN.othb {L : List Nat} {w w9 : World} {g n c : Nat} {a : Option Addr} (h : NN L w (.slice a n c)) (ho : ∀ h,h ≠ g → w9.heap[h]? = w.heap[h]?) (hs : w9.heap.size = w.heap.size) (hg : ∀ x o,a = some ⟨x,o,none⟩ → x ≠ g) : NN L w9 (.slice a n c):=by
 rcases h with ⟨e,h⟩ | ⟨b,off,cap,h,h1,h2,h3⟩
 ·exact .inl ⟨e,h⟩
 ·cases h
  refine .inr ⟨b,off,c,rfl,h1,by rw [hs]; exact h2,fun t ht=>?_⟩
  rw [World.cell?_of_block (w:=w) (ho b (hg b off rfl))]
  exact h3 t ht
theorem PB.othb {w w9 : World} {g h : Nat} {p q : Int} {m v : Value} (hb : PB h p q m v w) (ho : ∀ h,h ≠ g → w9.heap[h]? = w.heap[h]?) (hg : h ≠ g) : PB h p q m v w9:=
 ⟨(World.cell?_of_block (a:=⟨h,0,none⟩) (ho h hg)).trans hb.1,(World.cell?_of_block (a:=⟨h,1,none⟩) (ho h hg)).trans hb.2.1,(World.cell?_of_block (a:=⟨h,2,none⟩) (ho h hg)).trans hb.2.2.1,(World.cell?_of_block (a:=⟨h,3,none⟩) (ho h hg)).trans hb.2.2.2⟩
theorem nodup_snoc {L : List Nat} {k : Nat} (hk : k < L.length) (h : (L.take k).Nodup) (hn : ∀ t,t < k → L.getD t 0 ≠ L.getD k 0) : (L.take (k + 1)).Nodup:=by
 rw [List.take_add_one,List.getElem?_eq_getElem hk]
 show (L.take k ++ [L[k]]).Nodup
 rw [List.nodup_append]
 refine ⟨h,by simp,fun a ha b hb e=>?_⟩
 rw [List.mem_singleton] at hb
 obtain ⟨t,ht,he⟩:=List.mem_iff_getElem.1 ha
 rw [List.length_take] at ht
 refine hn t (by omega) ?_
 rw [List.getElem_take] at he
 have h1 : t < L.length:=by omega
 simp [List.getD,h1,hk]
 rw [he,e,hb]
theorem not_nodup {L : List Nat} {t k : Nat} (hk : k < L.length) (ht : t < k) (e : L.getD t 0 = L.getD k 0) : ¬ L.Nodup:=fun h=>by
 have h1 : t < L.length:=by omega
 have h2:=List.pairwise_iff_getElem.1 h t k h1 hk ht
 simp [List.getD,h1,hk] at e
 exact h2 e
set_option maxHeartbeats 3200000 in
theorem repeats_c {L : List Nat} {a : Option Addr} {n c : Nat} {W : World} (hl : L.length ≤ 100000) (hn : n = L.length) (h : NN L W (.slice a n c)) :
  Calls Try.prog 49 #[.slice a n c] W fun e w'=>e = .returned (.bool (decide (¬ L.Nodup))) ∧ Below W.heap.size W w':=by
 have EN:=Lib.hid hn
 have NA:=Lib.hid h
 have hla : n ≤ 100000:=by omega
 have hnc : n ≤ c:=by
  rcases h with ⟨e,h⟩ | ⟨b',off',cap',h,g1,g2,g3⟩
  ·rw [e] at hn; simp at hn; omega
  ·cases h; omega
 clear hl hn h
 go_enter Try.func49,Try.ntmps49
 go_wp2
 go_loopw [9] (fun i wr=>∃ k : Nat,k ≤ n ∧ i = .int .i64 k ∧ Hid ((L.take k).Nodup) ∧ Hid (Below W.heap.size W wr)) (fun i _=>n - (intOf i).toNat)
 case atStart=>exact ⟨0,Nat.zero_le _,rfl,Lib.hid (by simp),Below.refl _ _⟩
 case round =>
  obtain ⟨k,hk,rfl,HT,KB⟩:=hrel
  by_cases hlt : k < n
  ·have hkA : k < L.length:=by have:=EN.out; omega
   obtain ⟨xx,hxx⟩ : ∃ x,Hid (L.getD k 0 = x):=⟨_,rfl⟩
   obtain ⟨b1,o1,rfl,HC⟩ : ∃ b1 o1,a = some ⟨b1,o1,none⟩ ∧ Hid (∀ t,t < L.length → ∀ w,Below W.heap.size W w → w.cell? ⟨b1,o1 + t,none⟩ = some (.int .i64 (L.getD t 0 : Nat))):=by
    rcases NA.out with ⟨e,h⟩ | ⟨b',off',cap',h,g1,g2,g3⟩
    ·rw [e] at hkA; simp at hkA
    ·cases h; exact ⟨b',off',rfl,Lib.hid (fun t ht w hw=>(hw.cell (p:=⟨b',off' + t,none⟩) g2).trans (g3 t ht))⟩
   have hcA : wr.cell? ⟨b1,o1 + k,none⟩ = some (.int .i64 (xx : Nat)):=by rw [← hxx.out]; exact HC.out k hkA wr KB.out
   have HKA:=Lib.hid hkA
   have hkc : k ≤ c:=by omega
   clear hkA
   go_wp2
   go_loopw [18] (fun i wr=>∃ j : Nat,j ≤ k ∧ i = .int .i64 j ∧ Hid (∀ t,t < j → L.getD t 0 ≠ xx) ∧ Hid (Below W.heap.size W wr)) (fun i _=>k - (intOf i).toNat)
   case atStart=>exact ⟨0,Nat.zero_le _,rfl,Lib.hid (fun t ht=>absurd ht (by omega)),KB⟩
   case round =>
    obtain ⟨j,hj,rfl,HJ,KB2⟩:=hrel
    clear hcA
    by_cases hjk : j < k
    ·have hjA : j < L.length:=by have:=HKA.out; omega
     obtain ⟨yy,hyy⟩ : ∃ x,Hid (L.getD j 0 = x):=⟨_,rfl⟩
     have hcB : wr.cell? ⟨b1,o1 + j,none⟩ = some (.int .i64 (yy : Nat)):=by rw [← hyy.out]; exact HC.out j hjA wr KB2.out
     clear hjA
     by_cases hxy : xx = yy
     ·have HND : Hid (¬ L.Nodup):=Lib.hid (not_nodup HKA.out hjk (by rw [hxx.out,hyy.out,hxy]))
      have hd : ((xx : Int) == (yy : Int)) = true:=by simp; omega
      clear hxy
      go_wp2
      go_ret
      exact ⟨ret_boolK (decide_eq_true HND.out).symm,KB2.out⟩
     ·have HJ2 : Hid (∀ t,t < j + 1 → L.getD t 0 ≠ xx):=Lib.hid (fun t ht=>by
       by_cases e : t = j
       ·subst e; rw [hyy.out]; exact fun e=>hxy e.symm
       ·exact HJ.out t (by omega))
      have hd : ((xx : Int) == (yy : Int)) = false:=by simp; omega
      clear hxy
      go_wp2
      go_roundw
      case rel=>exact ⟨j + 1,by omega,by go_num,HJ2,KB2⟩
      case measure=>simp [intOf]; omega
    ·obtain rfl : k = j:=by omega
     have HT2 : Hid ((L.take (k + 1)).Nodup):=Lib.hid (nodup_snoc HKA.out HT.out (fun t ht=>by rw [hxx.out]; exact HJ.out t ht))
     go_wp2
     go_roundw
     case rel=>exact ⟨k + 1,by omega,by go_num,HT2,KB2⟩
     case measure=>simp [intOf]; omega
  ·obtain rfl : n = k:=by omega
   have HE : Hid (¬ ¬ L.Nodup):=Lib.hid (by
    have h:=HT.out
    rw [List.take_of_length_le (by have:=EN.out; omega)] at h
    exact fun h2=>h2 h)
   go_wp2
   go_ret
   exact ⟨ret_boolK (decide_eq_false HE.out).symm,KB.out⟩
end Go.Proofs.Ytllecfhfhcmpaaa
