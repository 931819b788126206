/- Contracts of the field's operations: as facts, whatever the letters are. -/
import Derived.Test.YtjphnpbknaedcaaAa
namespace Go.Proofs.Ytjphnpbknaedcaa
open Go.Ev Go.Fl
open Go.RowKit (Below)
set_option linter.unusedSectionVars false
set_option linter.unusedVariables false

variable {F : Gf}

theorem way_of (h : waysOk F = true) {a : Nat} (ha : a < F.q) : ∃ w ∈ ways F, w.1 ≤ a ∧ a ≤ w.2 := by
  have := allLt_ok h a ha
  simp only [List.any_eq_true, Bool.and_eq_true, Nat.ble_eq] at this
  exact this

theorem cellsOk_ok {la ha lb hb : Nat} {f : Nat → Nat → Nat → Nat} {a b : Nat} (h1 : la ≤ a) (h2 : a ≤ ha) (h3 : lb ≤ b) (h4 : b ≤ hb) : ∀ {n k : Nat} {l : List AV}, cellsOk la ha lb hb f k n l = true →
    l.all AV.lone = true ∧ l.map (@AV.vl0 (rhoN (r2 a b))) = (List.range' k n).map fun i => Value.int .i64 (f i a b : Nat)
  | 0, k, [], _ => ⟨rfl, rfl⟩
  | 0, k, _ :: _, h => by cases h
  | n + 1, k, [], h => by cases h
  | n + 1, k, v :: l, h => by
    have hh := bif_and (x := numOk v la ha lb hb (f k)) h
    obtain ⟨g1, g2⟩ := numOk_ok hh.1 h1 h2 h3 h4
    obtain ⟨k1, k2⟩ := cellsOk_ok h1 h2 h3 h4 hh.2
    exact ⟨by rw [List.all_cons, g1, k1]; rfl, by rw [List.map_cons, g2, k2, List.range'_succ, List.map_cons]⟩

/-- the cells of a's polynomial -/
def exL (F : Gf) (a : Nat) : List Value := (List.range' 0 7).map fun i => Value.int .i64 (digN F i a : Nat)

theorem ex_c (h : chkEx F = true) {a : Nat} (ha : a < F.q) (w : World) :
    Calls Try.prog 52 #[.int .i64 (F.p : Int), .int .i64 (a : Int)] w fun e w' => e = .returned (.agg (exL F a).toArray) ∧ Below w.heap.size w w' := by
  have hh := bif_and (x := waysOk F) h
  obtain ⟨x, hx, h1, h2⟩ := way_of hh.1 ha
  have h3 := List.all_eq_true.1 hh.2 x hx
  unfold aggOk at h3
  split at h3
  · rename_i l s1 q e
    obtain ⟨k1, k2⟩ := cellsOk_ok h1 h2 (Nat.le_refl 0) (Nat.le_refl 0) h3
    letI : Rho := rhoN (r2 a 0)
    refine (run_calls fit (noOrc_ok _) e (v := .agg l) (by exact k1) w (vs := #[.int .i64 (F.p : Int), .int .i64 (a : Int)]) ?_).mono ?_
    · exact LR.cons (.int _ _) (LR.cons ((Nu.var (i := 0) (n := (a : Int)) rfl (by simpa using h1) (by simpa using h2)).rel') .nil)
    · rintro e' w' ⟨c, c1, c2, c3⟩
      have := vl_eq (v := .agg l) (by exact k1) (c2 none0 [])
      refine ⟨?_, c3⟩
      rw [c1, this]
      show Ending.returned (.agg (l.map AV.vl0).toArray) = _
      rw [k2]; rfl
  · cases h3

theorem quo_hi {p : Nat} : ∀ (k a : Nat), dig p k a = a / p ^ k % p
  | 0, a => by show a % p = _; rw [Nat.pow_zero, Nat.div_one]
  | k + 1, a => by show dig p k (a / p) = _; rw [quo_hi k, Nat.div_div_eq_div_mul, Nat.pow_succ, Nat.mul_comm]

theorem quoX_N (r : Nat → Nat) {p : Nat} {x : SX} (hx : x.natOk = true) : ∀ k, (quoX p x k).natOk = true ∧ (quoX p x k).evN r = x.evN r / p ^ k
  | 0 => ⟨hx, by show x.evN r = _; rw [Nat.pow_zero, Nat.div_one]⟩
  | k + 1 => by
    obtain ⟨h1, h2⟩ := quoX_N r hx k
    refine ⟨by show (bif (quoX p x k).natOk then true else false) = true; rw [h1]; rfl, ?_⟩
    show (quoX p x k).evN r / p = _
    rw [h2, Nat.div_div_eq_div_mul, Nat.pow_succ]

theorem quoX_ok [Rho] {p : Nat} {x : SX} (hx : x.ok) : ∀ k, (quoX p x k).ok
  | 0 => hx
  | k + 1 => ⟨quoX_ok hx k, trivial⟩

theorem ex_fact (hF : Ok F) (h : chkEx F = true) {a b : Nat} (ha : a < F.q) : @Fct.Holds (rhoN (r2 a b)) Try.prog 52 (exF F) := by
  letI : Rho := rhoN (r2 a b)
  have hp := hF.p0
  have key : ∀ k, (digV F (.var 0 0 (Int.ofNat (F.q - 1))) k).lone = true ∧ (digV F (.var 0 0 (Int.ofNat (F.q - 1))) k).fine0 ∧ (digV F (.var 0 0 (Int.ofNat (F.q - 1))) k).vl0 = Value.int .i64 (digN F k a : Nat) := by
    intro k
    unfold digV digN
    split
    · have hn := quoX_N (r2 a b) (p := F.p) (x := .var 0 0 (Int.ofNat (F.q - 1))) rfl k
      have hr : (SX.bin .rem (quoX F.p (.var 0 0 (Int.ofNat (F.q - 1))) k) (.lit (Int.ofNat F.p))).eval = (dig F.p k a : Nat) := by
        rw [SX.evN_ok (r2 a b) (by show (bif (quoX F.p _ k).natOk then true else false) = true; rw [hn.1]; rfl)]
        show (((quoX F.p _ k).evN (r2 a b) % F.p : Nat) : Int) = _
        rw [hn.2, quo_hi]; rfl
      have hl : dig F.p k a < F.p := by rw [quo_hi]; exact Nat.mod_lt _ hp
      refine ⟨rfl, ⟨⟨quoX_ok ?_ k, trivial⟩, ?_, ?_⟩, ?_⟩
      · show (0 : Int) ≤ (a : Int) ∧ (a : Int) ≤ Int.ofNat (F.q - 1)
        simp only [Int.ofNat_eq_natCast]; omega
      · rw [hr]; omega
      · rw [hr]; simp only [Int.ofNat_eq_natCast]; omega
      · show Value.int .i64 _ = _
        rw [hr]
    · exact ⟨rfl, trivial, rfl⟩
  refine fct_flat (args := [I F.p, lv 0 0 (F.q - 1)]) (v := exV F (.var 0 0 (Int.ofNat (F.q - 1)))) ?_ rfl ?_ ?_ (by kernel_rfl) (fun w => ?_)
  · have : all2 (inS 0 []) (exV F (.var 0 0 (Int.ofNat (F.q - 1)))) = true := by
      show ((List.range 7).map _).all _ = true
      simp only [List.all_map, List.all_eq_true]
      intro k _
      exact lone_all0 (key k).1
    show (true && (true && (all2 (inS 0 []) (exV F (.var 0 0 (Int.ofNat (F.q - 1)))) && (true && (true && true))))) = true
    rw [this]; rfl
  · show ((List.range 7).map _).all _ = true
    simp only [List.all_map, List.all_eq_true]
    intro k _
    exact (key k).1
  · show fineL AV.fine0 ((List.range 7).map _)
    exact ⟨(key 0).2.1, (key 1).2.1, (key 2).2.1, (key 3).2.1, (key 4).2.1, (key 5).2.1, (key 6).2.1, trivial⟩
  · have hv : (exV F (.var 0 0 (Int.ofNat (F.q - 1)))).vl = .agg (exL F a).toArray := by
      show Value.agg (((List.range 7).map (digV F _)).map AV.vl0).toArray = _
      congr 2
      show [AV.vl0 _, AV.vl0 _, AV.vl0 _, AV.vl0 _, AV.vl0 _, AV.vl0 _, AV.vl0 _] = _
      rw [(key 0).2.2, (key 1).2.2, (key 2).2.2, (key 3).2.2, (key 4).2.2, (key 5).2.2, (key 6).2.2]
      rfl
    rw [hv]
    exact ex_c h ha w

theorem lx_ok (hF : Ok F) (h : chkEx F = true) {a b : Nat} (ha : a < F.q) : @FactsOk (rhoN (r2 a b)) Try.prog (Lx F) :=
  ⟨fun G hG => by rw [List.mem_singleton.1 hG]; exact ex_fact hF h ha, trivial⟩

theorem old_good : (fOld F).all (fun A => A.ro && A.cells.all AV.lone) = true := by simp [AV.lone, AV.sc]
theorem old_plain : (fOld F).all (fun A => A.cells.all (fun v => v.sc.isSome) && A.tl.isNone) = true := by simp [AV.sc]

theorem good_n {l : List AV} {v : AV} (hl : l.all AV.lone = true) (hv : all2 (inS 1 []) v = true) : (Fct.mk (fA F :: l) (fOld F) v [] []).good = true := by
  show ((fOld F).all _ && ((all1 _ (fA F) && l.all _) && (all2 (inS 1 []) v && (true && (true && true))))) = true
  have h1 : l.all (all1 (Nat.blt · 1)) = true := by
    simp only [List.all_eq_true] at hl ⊢
    exact fun x hx => lone_all1 (hl x hx)
  rw [old_good, hv]
  show (true && ((true && l.all (all1 (Nat.blt · 1))) && _)) = true
  rw [h1]; rfl

/-- numbers, one after the other -/
def NuL [Rho] : List AV → List Int → Prop
  | [], [] => True
  | x :: l, n :: ns => Nu x n ∧ NuL l ns
  | _, _ => False

theorem NuL.vals [Rho] {π : Inj} : ∀ {l : List AV} {ns : List Int} {vs : List Value}, NuL l ns → LR π [] l vs → vs = ns.map (Value.int .i64)
  | [], [], vs, _, hl => hl.nil_inv
  | x :: l, n :: ns, vs, h, hl => by
    obtain ⟨c, ws, rfl, r, t⟩ := hl.uncons
    rw [h.1.rel r, NuL.vals h.2 t]; rfl
  | [], _ :: _, _, h, _ => h.elim
  | _ :: _, [], _, h, _ => h.elim
theorem NuL.rel [Rho] {π : Inj} : ∀ {l : List AV} {ns : List Int}, NuL l ns → LR π [] l (ns.map (Value.int .i64))
  | [], [], _ => LR.nil
  | x :: l, n :: ns, h => LR.cons h.1.rel' (NuL.rel h.2)
  | [], _ :: _, h => h.elim
  | _ :: _, [], h => h.elim
theorem NuL.lone [Rho] : ∀ {l : List AV} {ns : List Int}, NuL l ns → l.all AV.lone = true
  | [], [], _ => rfl
  | x :: l, n :: ns, h => by rw [List.all_cons, h.1.lone, NuL.lone h.2]; rfl
  | [], _ :: _, h => h.elim
  | _ :: _, [], h => h.elim

theorem args_turn {R1 R2 : Rho} {l l' : List AV} {ns : List Int} (h2 : @NuL R2 l ns) (h1 : @NuL R1 l' ns) {π : Inj} {vs : List Value} (h : @LR R2 π [] (fA F :: l) vs) : @LR R1 π [] (fA F :: l') vs := by
  obtain ⟨c0, l0, rfl, r0, t0⟩ := h.uncons
  rw [NuL.vals h2 t0]
  exact @LR.cons R1 _ _ _ _ _ _ (ns1_swap rfl r0) (@NuL.rel R1 _ _ _ h1)

/-- a result: a number, or a number with an error -/
structure Rs [Rho] (v : AV) (c : Value) : Prop where
  good : ∀ p, all2 p v = true
  flat : v.flat = true
  fine : v.fine
  vl : v.vl = c

theorem rsN [Rho] {v : AV} {n : Int} (h : Nu v n) : Rs v (.int .i64 n) := ⟨fun _ => lone_all2 h.lone, lone_flat h.lone, lone_fine h.lone h.fine, by rw [lone_vl h.lone, h.vl]⟩
theorem rsN2 [Rho] {v : AV} {n : Int} (h : Nu v n) (e : Nat) : Rs (.tup [v, I e]) (.tuple #[.int .i64 n, .int .i64 e]) :=
  ⟨fun p => by show (all1 p v && (all1 p (I e) && true)) = true; rw [lone_all1 h.lone]; rfl, by show (v.flat1 && ((I e).flat1 && true)) = true; rw [lone_flat1 h.lone]; rfl, ⟨lone_fine1 h.lone h.fine, trivial, trivial⟩,
    by show Value.tuple #[v.vl1, _] = _; rw [lone_vl1 h.lone, h.vl]; rfl⟩

/-- a fact for other letters -/
theorem turnF {R1 R : Rho} {f : FuncId} {l l' : List AV} {ns : List Int} {v v' : AV} {c : Value} (h : @Fct.Holds R1 Try.prog f ⟨fA F :: l', fOld F, v', [], []⟩) (hf : v'.flat = true) (hc : @AV.vl R1 v' = c)
    (n1 : @NuL R1 l' ns) (n2 : @NuL R l ns) (hv : @Rs R v c) : @Fct.Holds R Try.prog f ⟨fA F :: l, fOld F, v, [], []⟩ :=
  Fct.turn h rfl old_plain (fun π vs hl => args_turn n2 n1 hl) hf (good_n (NuL.lone n2) (hv.good _)) hv.flat hv.fine (hv.vl.trans hc.symm) rfl rfl

theorem lv_nu [Rho] {i lo hi n : Nat} (h : Rho.ρ i = (n : Int)) (h1 : lo ≤ n) (h2 : n ≤ hi) : Nu (lv i lo hi) n := Nu.var h (by simpa using h1) (by simpa using h2)
theorem I_nu [Rho] (n : Nat) : Nu (I n) n := Nu.int _

section
variable [R : Rho]
theorem op2_fact {f : FuncId} {op : Gf → Nat → Nat → Nat} (hF : Ok F) (hx : chkEx F = true) (hc : chk2 f op F = true) {x y v : AV} {a b : Nat} (ha : a < F.q) (hb : b < F.q) (nx : Nu x a) (ny : Nu y b) (nv : Nu v (op F a b : Nat)) :
    Fct.Holds Try.prog f ⟨[fA F, x, y], fOld F, v, [], []⟩ := by
  obtain ⟨w, hw, h1, h2⟩ := way_of (bif_and (x := waysOk F) hx).1 hb
  have h3 := List.all_eq_true.1 hc w hw
  unfold nOk at h3
  split at h3
  · rename_i v' s1 q e
    obtain ⟨k1, k2⟩ := numOk_ok h3 (Nat.zero_le a) (by omega) h1 h2
    have h0 : @Fct.Holds (rhoN (r2 a b)) Try.prog f ⟨[fA F, lv 0 0 (F.q - 1), lv 1 w.1 w.2], fOld F, v', [], []⟩ :=
      Fct.holds' fit (@orcOf_ok (rhoN (r2 a b)) _ _ (lx_ok hF hx ha)) (good_n rfl (lone_all2 k1)) e
    exact turnF h0 (lone_flat k1) (by rw [@lone_vl (rhoN (r2 a b)) v' k1, k2]) (ns := [(a : Int), (b : Int)]) ⟨@lv_nu (rhoN (r2 a b)) _ _ _ _ rfl (Nat.zero_le a) (by omega), @lv_nu (rhoN (r2 a b)) _ _ _ _ rfl h1 h2, trivial⟩ ⟨nx, ny, trivial⟩ (rsN nv)
  · cases h3
theorem op1_fact {f : FuncId} {op : Gf → Nat → Nat} (hx : chkEx F = true) (hc : chk1 f op F = true) {y v : AV} {b : Nat} (hb : b < F.q) (ny : Nu y b) (nv : Nu v (op F b : Nat)) :
    Fct.Holds Try.prog f ⟨[fA F, y], fOld F, v, [], []⟩ := by
  obtain ⟨w, hw, h1, h2⟩ := way_of (bif_and (x := waysOk F) hx).1 hb
  have h3 := List.all_eq_true.1 hc w hw
  unfold nOk at h3
  split at h3
  · rename_i v' s1 q e
    obtain ⟨k1, k2⟩ := numOk_ok h3 (Nat.zero_le 0) (Nat.le_refl 0) h1 h2
    have h0 : @Fct.Holds (rhoN (r2 0 b)) Try.prog f ⟨[fA F, lv 1 w.1 w.2], fOld F, v', [], []⟩ := Fct.holds' fit (@noOrc_ok (rhoN (r2 0 b)) _) (good_n rfl (lone_all2 k1)) e
    exact turnF h0 (lone_flat k1) (by rw [@lone_vl (rhoN (r2 0 b)) v' k1, k2]) (ns := [(b : Int)]) ⟨@lv_nu (rhoN (r2 0 b)) _ _ _ _ rfl h1 h2, trivial⟩ ⟨ny, trivial⟩ (rsN nv)
  · cases h3
end
end Go.Proofs.Ytjphnpbknaedcaa
