/- Vectors as functions: combinations, spans, reduced matrices, and that a span has one reduced matrix. -/
import Derived.Test.YtdafhhojiioifaaEvYq
namespace Go.Fl
set_option linter.unusedSectionVars false
set_option linter.unusedVariables false
variable {F : Gf}
/-- the combination of vectors with coefficients -/
def cb (F : Gf) : List Cf → Cf → Cf
 | [], _ => pz
 | r :: R, c => pa F (ps F (c 0) r) (cb F R fun i => c (i + 1))
def un (i : Nat) : Cf := fun j => if j = i then 1 else 0
def Els (F : Gf) (R : List Cf) : Prop := ∀ r ∈ R, El F r
theorem Els.nil : Els F [] := fun _ h => by cases h
theorem Els.head {r : Cf} {R : List Cf} (h : Els F (r :: R)) : El F r := h r (by simp)
theorem Els.tail {r : Cf} {R : List Cf} (h : Els F (r :: R)) : Els F R := fun x hx => h x (by simp [hx])
theorem Els.cons {r : Cf} {R : List Cf} (h : El F r) (hR : Els F R) : Els F (r :: R) := fun x hx => by
 rcases List.mem_cons.1 hx with rfl | hx
 ·exact h
 ·exact hR x hx
theorem Els.app {R S : List Cf} (h : Els F R) (k : Els F S) : Els F (R ++ S) := fun x hx => by
 rcases List.mem_append.1 hx with hx | hx
 ·exact h x hx
 ·exact k x hx
section
variable (hF : Ok F)
include hF
theorem Els.get {R : List Cf} (h : Els F R) (i : Nat) : El F (R.getD i pz) := by
 by_cases hi : i < R.length
 ·rw [List.getD_eq_getElem?_getD, List.getElem?_eq_getElem hi]; exact h _ (List.getElem_mem _)
 ·rw [List.getD_eq_getElem?_getD, List.getElem?_eq_none (by omega)]; exact el_z hF
theorem el_un (i : Nat) : El F (un i) := fun j => by
 unfold un; split
 ·exact hF.one_lt
 ·exact hF.zero_lt
theorem cb_el : ∀ (R : List Cf) (c : Cf), El F (cb F R c)
 | [], _ => el_z hF
 | _ :: _, _ => el_a hF _ _
theorem cb_congr : ∀ {R : List Cf} {c d : Cf}, (∀ i, i < R.length → c i = d i) → cb F R c = cb F R d
 | [], _, _, _ => rfl
 | r :: R, c, d, h => by
  show pa F (ps F (c 0) r) _ = pa F (ps F (d 0) r) _
  rw [h 0 (by simp), cb_congr (R := R) (c := fun i => c (i + 1)) (d := fun i => d (i + 1)) fun i hi => h (i + 1) (by simp; omega)]
theorem cb_pa : ∀ {R : List Cf} {c d : Cf}, Els F R → El F c → El F d → cb F R (pa F c d) = pa F (cb F R c) (cb F R d)
 | [], _, _, _, _, _ => (pa_zero hF (el_z hF)).symm
 | r :: R, c, d, h, hc, hd => by
  show pa F (ps F (F.add (c 0) (d 0)) r) (cb F R (pa F (fun i => c (i + 1)) fun i => d (i + 1))) = _
  rw [add_ps hF (hc 0) (hd 0) h.head, cb_pa h.tail (fun i => hc (i + 1)) (fun i => hd (i + 1)), pa_swap hF]
  rfl
theorem cb_ps : ∀ {R : List Cf} {a : Nat} {c : Cf}, Els F R → a < F.q → El F c → cb F R (ps F a c) = ps F a (cb F R c)
 | [], a, _, _, _, _ => (ps_z hF a).symm
 | r :: R, a, c, h, ha, hc => by
  show pa F (ps F (F.mul a (c 0)) r) (cb F R (ps F a fun i => c (i + 1))) = _
  rw [ps_ps hF, cb_ps h.tail ha (fun i => hc (i + 1)), ← ps_pa hF ha (el_s hF _ _) (cb_el hF _ _)]
  rfl
theorem cb_z : ∀ (R : List Cf), cb F R pz = pz
 | [] => rfl
 | r :: R => by
  show pa F (ps F 0 r) (cb F R pz) = pz
  rw [cb_z R, z_ps hF, pa_zero hF (el_z hF)]
theorem cb_un : ∀ {R : List Cf} {i : Nat}, Els F R → i < R.length → cb F R (un i) = R.getD i pz
 | [], i, _, h => by simp at h
 | r :: R, 0, h, _ => by
  show pa F (ps F (un 0 0) r) (cb F R fun i => un 0 (i + 1)) = r
  rw [show (fun i => un 0 (i + 1)) = pz from funext fun i => by simp [un, pz], cb_z hF, show un 0 0 = 1 from rfl, one_ps hF h.head, pa_zero hF h.head]
 | r :: R, i + 1, h, hi => by
  show pa F (ps F (un (i + 1) 0) r) (cb F R fun k => un (i + 1) (k + 1)) = R.getD i pz
  rw [show (fun k => un (i + 1) (k + 1)) = un i from funext fun k => by simp [un], show un (i + 1) 0 = 0 from by simp [un], z_ps hF, cb_un h.tail (by simpa using hi)]
  exact zero_pa hF (h.tail.get hF i)
theorem cb_app : ∀ {R S : List Cf} {c : Cf}, cb F (R ++ S) c = pa F (cb F R c) (cb F S fun i => c (i + R.length))
 | [], S, c => (zero_pa hF (cb_el hF _ _)).symm
 | r :: R, S, c => by
  show pa F (ps F (c 0) r) (cb F (R ++ S) fun i => c (i + 1)) = pa F (pa F (ps F (c 0) r) (cb F R fun i => c (i + 1))) _
  rw [cb_app, pa_assoc hF]
  congr 2
theorem cb_at0 {j : Nat} : ∀ {R : List Cf} {c : Cf}, (∀ i, i < R.length → c i = 0 ∨ R.getD i pz j = 0) → cb F R c j = 0
 | [], _, _ => rfl
 | r :: R, c, h => by
  show F.add (F.mul (c 0) (r j)) (cb F R (fun i => c (i + 1)) j) = 0
  rw [cb_at0 (R := R) (c := fun i => c (i + 1)) fun i hi => h (i + 1) (by simp; omega)]
  rcases h 0 (by simp) with e | e
  ·rw [e, Ok.z_mul]; exact hF.add_zero hF.zero_lt
  ·rw [show r j = 0 from e, Ok.mul_z]; exact hF.add_zero hF.zero_lt
theorem cb_at1 {j : Nat} : ∀ {R : List Cf} {c : Cf} {i : Nat}, El F c → i < R.length → (∀ k, k < R.length → R.getD k pz j = if k = i then 1 else 0) → cb F R c j = c i
 | [], _, _, _, h, _ => by simp at h
 | r :: R, c, 0, hc, _, h => by
  show F.add (F.mul (c 0) (r j)) (cb F R (fun i => c (i + 1)) j) = c 0
  rw [cb_at0 hF (R := R) fun i hi => .inr (by have := h (i + 1) (by simp; omega); simpa using this), show r j = 1 from h 0 (by simp), hF.mul_one (hc 0), hF.add_zero (hc 0)]
 | r :: R, c, i + 1, hc, hi, h => by
  show F.add (F.mul (c 0) (r j)) (cb F R (fun i => c (i + 1)) j) = c (i + 1)
  rw [cb_at1 (R := R) (c := fun i => c (i + 1)) (i := i) (fun k => hc (k + 1)) (by simpa using hi) (fun k hk => by have := h (k + 1) (by simp; omega); simpa using this),
   show r j = 0 from by have := h 0 (by simp); simpa using this, Ok.mul_z, hF.zero_add (hc (i + 1))]
end

/-- the span -/
def Sp (F : Gf) (R : List Cf) (v : Cf) : Prop := ∃ c, El F c ∧ cb F R c = v
section
variable (hF : Ok F)
include hF
theorem Sp.el {R : List Cf} {v : Cf} (h : Sp F R v) : El F v := by obtain ⟨c, _, rfl⟩ := h; exact cb_el hF _ _
theorem Sp.zero (R : List Cf) : Sp F R pz := ⟨pz, el_z hF, cb_z hF R⟩
theorem Sp.add {R : List Cf} (hR : Els F R) {v w : Cf} (h : Sp F R v) (k : Sp F R w) : Sp F R (pa F v w) := by
 obtain ⟨c, hc, rfl⟩ := h
 obtain ⟨d, hd, rfl⟩ := k
 exact ⟨pa F c d, el_a hF _ _, cb_pa hF hR hc hd⟩
theorem Sp.smul {R : List Cf} (hR : Els F R) {a : Nat} (ha : a < F.q) {v : Cf} (h : Sp F R v) : Sp F R (ps F a v) := by
 obtain ⟨c, hc, rfl⟩ := h
 exact ⟨ps F a c, el_s hF _ _, cb_ps hF hR ha hc⟩
theorem Sp.get {R : List Cf} (hR : Els F R) {i : Nat} (hi : i < R.length) : Sp F R (R.getD i pz) := ⟨un i, el_un hF i, cb_un hF hR hi⟩
theorem Sp.mem {R : List Cf} (hR : Els F R) {r : Cf} (h : r ∈ R) : Sp F R r := by
 obtain ⟨i, hi, rfl⟩ := List.getElem_of_mem h
 have := Sp.get hF hR hi
 rwa [List.getD_eq_getElem?_getD, List.getElem?_eq_getElem hi] at this
theorem Sp.comb {S : List Cf} (hS : Els F S) : ∀ {R : List Cf} {c : Cf}, El F c → (∀ r ∈ R, Sp F S r) → Sp F S (cb F R c)
 | [], _, _, _ => Sp.zero hF S
 | r :: R, c, hc, h => Sp.add hF hS (Sp.smul hF hS (hc 0) (h r (by simp))) (Sp.comb hS (fun i => hc (i + 1)) fun x hx => h x (by simp [hx]))
/-- a span lies in another if its vectors do -/
theorem Sp.le {R S : List Cf} (hS : Els F S) (h : ∀ r ∈ R, Sp F S r) {v : Cf} (hv : Sp F R v) : Sp F S v := by
 obtain ⟨c, hc, rfl⟩ := hv
 exact Sp.comb hF hS hc h
theorem Sp.app_l {R S : List Cf} (hR : Els F R) (hS : Els F S) {v : Cf} (h : Sp F R v) : Sp F (R ++ S) v := Sp.le hF (hR.app hS) (fun r hr => Sp.mem hF (hR.app hS) (by simp [hr])) h
theorem Sp.app_r {R S : List Cf} (hR : Els F R) (hS : Els F S) {v : Cf} (h : Sp F S v) : Sp F (R ++ S) v := Sp.le hF (hR.app hS) (fun r hr => Sp.mem hF (hR.app hS) (by simp [hr])) h
/-- what is in the span of both lists is a sum -/
theorem Sp.app {R S : List Cf} {v : Cf} (h : Sp F (R ++ S) v) : ∃ x y, Sp F R x ∧ Sp F S y ∧ v = pa F x y := by
 obtain ⟨c, hc, rfl⟩ := h
 exact ⟨_, _, ⟨c, hc, rfl⟩, ⟨fun i => c (i + R.length), fun i => hc _, rfl⟩, cb_app hF⟩
end

/-- a reduced matrix, with its pivots -/
structure Red (F : Gf) (n : Nat) (P : List Nat) (R : List Cf) : Prop where
 lt : P.Pairwise (· < ·)
 len : P.length = R.length
 bd : ∀ p ∈ P, p < n
 el : Els F R
 lo : ∀ i, i < R.length → ∀ j, j < P.getD i 0 → R.getD i pz j = 0
 pv : ∀ i, i < R.length → ∀ k, k < R.length → R.getD k pz (P.getD i 0) = if k = i then 1 else 0
 hi : ∀ r ∈ R, ∀ j, n ≤ j → r j = 0
theorem sorted_ext : ∀ {P Q : List Nat}, P.Pairwise (· < ·) → Q.Pairwise (· < ·) → (∀ x, x ∈ P ↔ x ∈ Q) → P = Q
 | [], [], _, _, _ => rfl
 | [], q :: Q, _, _, h => by have := (h q).2 (by simp); cases this
 | p :: P, [], _, _, h => by have := (h p).1 (by simp); cases this
 | p :: P, q :: Q, hP, hQ, h => by
  rw [List.pairwise_cons] at hP hQ
  have h1 : p = q := by
   rcases List.mem_cons.1 ((h p).1 (by simp)) with e | e
   ·exact e
   rcases List.mem_cons.1 ((h q).2 (by simp)) with e' | e'
   ·exact e'.symm
   have := hQ.1 _ e
   have := hP.1 _ e'
   omega
  subst h1
  rw [sorted_ext hP.2 hQ.2 fun x => ⟨fun hx => ?_, fun hx => ?_⟩]
  ·rcases List.mem_cons.1 ((h x).1 (by simp [hx])) with e | e
   ·have := hP.1 _ hx; omega
   ·exact e
  ·rcases List.mem_cons.1 ((h x).2 (by simp [hx])) with e | e
   ·have := hQ.1 _ hx; omega
   ·exact e
theorem getD_ext' {a b : List Cf} (hl : a.length = b.length) (h : ∀ j, j < a.length → a.getD j pz = b.getD j pz) : a = b := by
 apply List.ext_getElem hl
 intro i h1 h2
 have := h i h1
 rwa [List.getD_eq_getElem?_getD, List.getD_eq_getElem?_getD, List.getElem?_eq_getElem h1, List.getElem?_eq_getElem h2] at this
theorem mem_getD {P : List Nat} {x : Nat} (h : x ∈ P) : ∃ i, i < P.length ∧ P.getD i 0 = x := by
 obtain ⟨i, hi, rfl⟩ := List.getElem_of_mem h
 exact ⟨i, hi, by rw [List.getD_eq_getElem?_getD, List.getElem?_eq_getElem hi]; rfl⟩
section
variable (hF : Ok F)
include hF
theorem Red.nil (n : Nat) : Red F n [] [] := ⟨.nil, rfl, fun _ h => (by cases h), Els.nil, fun _ h => (by simp at h), fun _ h => (by simp at h), fun _ h => (by cases h)⟩
/-- a vector's coordinates at the pivots say which combination it is -/
theorem Red.coord {n : Nat} {P : List Nat} {R : List Cf} (h : Red F n P R) {c : Cf} (hc : El F c) {i : Nat} (hi : i < R.length) : cb F R c (P.getD i 0) = c i :=
 cb_at1 hF hc hi fun k hk => h.pv i hi k hk
theorem Red.sum {n : Nat} {P : List Nat} {R : List Cf} (h : Red F n P R) {v : Cf} (hv : Sp F R v) : v = cb F R fun i => v (P.getD i 0) := by
 obtain ⟨c, hc, rfl⟩ := hv
 exact cb_congr hF fun i hi => (h.coord hF hc hi).symm
/-- the first coordinate of a vector of the span that is not 0 is a pivot -/
theorem Red.lead {n : Nat} {P : List Nat} {R : List Cf} (h : Red F n P R) {v : Cf} (hv : Sp F R v) {j : Nat} (hz : ∀ k, k < j → v k = 0) (hj : v j ≠ 0) : j ∈ P := by
 refine Classical.byContradiction fun hn => hj ?_
 rw [h.sum hF hv]
 refine cb_at0 hF fun i hi => ?_
 have hip : i < P.length := by rw [h.len]; exact hi
 have hm : P.getD i 0 ∈ P := by rw [List.getD_eq_getElem?_getD, List.getElem?_eq_getElem hip]; exact List.getElem_mem _
 rcases Nat.lt_trichotomy (P.getD i 0) j with e | e | e
 ·exact .inl (hz _ e)
 ·exact absurd (e ▸ hm) hn
 ·exact .inr (h.lo i hi j e)
theorem Red.sub_piv {n : Nat} {P P' : List Nat} {R R' : List Cf} (h : Red F n P R) (h' : Red F n P' R') (hs : ∀ v, Sp F R v → Sp F R' v) {x : Nat} (hx : x ∈ P) : x ∈ P' := by
 obtain ⟨i, hi, rfl⟩ := mem_getD hx
 rw [h.len] at hi
 refine h'.lead hF (hs _ (Sp.get hF h.el hi)) (fun k hk => h.lo i hi k hk) ?_
 rw [h.pv i hi i hi, if_pos rfl]
 exact Nat.one_ne_zero
/-- A SPAN HAS ONE REDUCED MATRIX -/
theorem Red.uniq {n : Nat} {P P' : List Nat} {R R' : List Cf} (h : Red F n P R) (h' : Red F n P' R') (hs : ∀ v, Sp F R v ↔ Sp F R' v) : P = P' ∧ R = R' := by
 obtain rfl := sorted_ext h.lt h'.lt fun x => ⟨fun hx => h.sub_piv hF h' (fun v => (hs v).1) hx, fun hx => h'.sub_piv hF h (fun v => (hs v).2) hx⟩
 have hl : R.length = R'.length := by rw [← h.len, h'.len]
 refine ⟨rfl, getD_ext' hl fun i hi => ?_⟩
 rw [h'.sum hF ((hs _).1 (Sp.get hF h.el hi)), ← cb_un hF h'.el (by omega)]
 exact cb_congr hF fun k hk => by rw [h.pv k (by omega) i hi]; unfold un; by_cases e : i = k <;> simp [e, eq_comm]
end
end Go.Fl

/- One more vector put into a reduced matrix; every list of vectors has a reduced matrix. -/
namespace Go.Fl
set_option linter.unusedSectionVars false
set_option linter.unusedVariables false
variable {F : Gf}
/-- a row of a reduced matrix: its pivot and itself -/
structure Ro (F : Gf) (n : Nat) (a : Nat × Cf) : Prop where
 bd : a.1 < n
 el : El F a.2
 one : a.2 a.1 = 1
 lo : ∀ j, j < a.1 → a.2 j = 0
 hi : ∀ j, n ≤ j → a.2 j = 0
structure RedL (F : Gf) (n : Nat) (L : List (Nat × Cf)) : Prop where
 pw : L.Pairwise fun a b => a.1 < b.1 ∧ a.2 b.1 = 0 ∧ b.2 a.1 = 0
 ro : ∀ a ∈ L, Ro F n a
theorem map_fst_getD {L : List (Nat × Cf)} {i : Nat} (h : i < L.length) : (L.map Prod.fst).getD i 0 = (L[i]).1 := by
 rw [List.getD_eq_getElem?_getD, List.getElem?_map, List.getElem?_eq_getElem h]; rfl
theorem map_snd_getD {L : List (Nat × Cf)} {i : Nat} (h : i < L.length) : (L.map Prod.snd).getD i pz = (L[i]).2 := by
 rw [List.getD_eq_getElem?_getD, List.getElem?_map, List.getElem?_eq_getElem h]; rfl
theorem RedL.red {n : Nat} {L : List (Nat × Cf)} (h : RedL F n L) : Red F n (L.map Prod.fst) (L.map Prod.snd) where
 lt := by rw [List.pairwise_map]; exact h.pw.imp fun h => h.1
 len := by simp
 bd := fun p hp => by obtain ⟨a, ha, rfl⟩ := List.mem_map.1 hp; exact (h.ro a ha).bd
 el := fun r hr => by obtain ⟨a, ha, rfl⟩ := List.mem_map.1 hr; exact (h.ro a ha).el
 lo := fun i hi j hj => by
  rw [List.length_map] at hi
  rw [map_fst_getD hi] at hj
  rw [map_snd_getD hi]
  exact (h.ro _ (List.getElem_mem hi)).lo j hj
 pv := fun i hi k hk => by
  rw [List.length_map] at hi hk
  rw [map_fst_getD hi, map_snd_getD hk]
  have hp := List.pairwise_iff_getElem.1 h.pw
  rcases Nat.lt_trichotomy k i with e | e | e
  ·rw [if_neg (by omega)]; exact (hp k i hk hi e).2.1
  ·subst e; rw [if_pos rfl]; exact (h.ro _ (List.getElem_mem hk)).one
  ·rw [if_neg (by omega)]; exact (hp i k hi hk e).2.2
 hi := fun r hr j hj => by obtain ⟨a, ha, rfl⟩ := List.mem_map.1 hr; exact (h.ro a ha).hi j hj
/-- a vector without a multiple of another -/
def mns (F : Gf) (v : Cf) (c : Nat) (w : Cf) : Cf := pa F v (ps F (F.neg c) w)
/-- a row without its coordinate at p -/
def off (F : Gf) (p : Nat) (w : Cf) (a : Nat × Cf) : Nat × Cf := (a.1, mns F a.2 (a.2 p) w)
section
variable (hF : Ok F)
include hF
theorem neg_z : F.neg 0 = 0 := hF.neg_zero
theorem mns_at0 {v w : Cf} {c j : Nat} (hv : El F v) (h : c = 0 ∨ w j = 0) : mns F v c w j = v j := by
 show F.add (v j) (F.mul (F.neg c) (w j)) = v j
 rcases h with e | e
 ·rw [e, hF.neg_zero, Ok.z_mul]; exact hF.add_zero (hv j)
 ·rw [e, Ok.mul_z]; exact hF.add_zero (hv j)
theorem mns_at1 {v w : Cf} {j : Nat} (hv : El F v) (h : w j = 1) : mns F v (v j) w j = 0 := by
 show F.add (v j) (F.mul (F.neg (v j)) (w j)) = 0
 rw [h, hF.mul_one (hF.neg_lt _)]; exact hF.add_neg _
theorem mns_el (v : Cf) (c : Nat) (w : Cf) : El F (mns F v c w) := el_a hF _ _
theorem mul_neg {a b : Nat} (hb : b < F.q) : F.mul a (F.neg b) = F.neg (F.mul a b) := by
 rw [← hF.neg_mul hb, ← hF.neg_mul (hF.mul_lt _ _), ← hF.mul_assoc, ← hF.mul_assoc, Ok.mul_comm a]
/-- what has been taken off can be put on again -/
theorem mns_back {v w : Cf} {c : Nat} (hv : El F v) (hw : El F w) (hc : c < F.q) : v = pa F (mns F v c w) (ps F c w) := by
 unfold mns
 rw [pa_assoc hF, ← add_ps hF (hF.neg_lt _) hc hw, show F.add (F.neg c) c = 0 from by rw [Ok.add_comm]; exact hF.add_neg c, z_ps hF, pa_zero hF hv]
theorem off_ro {n p : Nat} {w : Cf} {a : Nat × Cf} (ha : Ro F n a) (hw : El F w) (h1 : w a.1 = 0) (hl : ∀ j, j < a.1 → a.2 p = 0 ∨ w j = 0) (hh : ∀ j, n ≤ j → w j = 0) : Ro F n (off F p w a) where
 bd := ha.bd
 el := mns_el hF _ _ _
 one := by show mns F a.2 (a.2 p) w a.1 = 1; rw [mns_at0 hF ha.el (.inr h1)]; exact ha.one
 lo := fun j hj => by show mns F a.2 (a.2 p) w j = 0; rw [mns_at0 hF ha.el (hl j hj)]; exact ha.lo j hj
 hi := fun j hj => by show mns F a.2 (a.2 p) w j = 0; rw [mns_at0 hF ha.el (.inr (hh j hj))]; exact ha.hi j hj
/-- A NEW ROW BETWEEN THOSE BEFORE ITS PIVOT AND THOSE BEHIND -/
theorem RedL.put {n p : Nat} {w : Cf} {A B : List (Nat × Cf)} (h : RedL F n (A ++ B)) (hw : Ro F n (p, w)) (hz : ∀ a ∈ A ++ B, w a.1 = 0) (hA : ∀ a ∈ A, a.1 < p) (hB : ∀ b ∈ B, p < b.1) :
  RedL F n (A.map (off F p w) ++ (p, w) :: B.map (off F p w)) := by
 have key : ∀ a ∈ A ++ B, ∀ b ∈ A ++ B, a.2 b.1 = 0 → (off F p w a).2 b.1 = 0 := fun a ha b hb e => by
  show mns F a.2 (a.2 p) w b.1 = 0
  rw [mns_at0 hF (h.ro a ha).el (.inr (hz b hb))]; exact e
 have self : ∀ a ∈ A ++ B, (off F p w a).2 p = 0 := fun a ha => mns_at1 hF (h.ro a ha).el hw.one
 have hpw := List.pairwise_append.1 h.pw
 have mA : ∀ {a}, a ∈ A → a ∈ A ++ B := fun h => by simp [h]
 have mB : ∀ {a}, a ∈ B → a ∈ A ++ B := fun h => by simp [h]
 refine ⟨List.pairwise_append.2 ⟨?_, List.pairwise_cons.2 ⟨?_, ?_⟩, ?_⟩, ?_⟩
 ·rw [List.pairwise_map]
  exact hpw.1.imp_of_mem fun {a b} ha hb e => ⟨e.1, key a (mA ha) b (mA hb) e.2.1, key b (mA hb) a (mA ha) e.2.2⟩
 ·intro x hx
  obtain ⟨b, hb, rfl⟩ := List.mem_map.1 hx
  exact ⟨hB b hb, hz b (mB hb), self b (mB hb)⟩
 ·rw [List.pairwise_map]
  exact hpw.2.1.imp_of_mem fun {a b} ha hb e => ⟨e.1, key a (mB ha) b (mB hb) e.2.1, key b (mB hb) a (mB ha) e.2.2⟩
 ·intro x hx y hy
  obtain ⟨a, ha, rfl⟩ := List.mem_map.1 hx
  rcases List.mem_cons.1 hy with rfl | hy
  ·exact ⟨hA a ha, self a (mA ha), hz a (mA ha)⟩
  ·obtain ⟨b, hb, rfl⟩ := List.mem_map.1 hy
   have e := hpw.2.2 a ha b hb
   exact ⟨e.1, key a (mA ha) b (mB hb) e.2.1, key b (mB hb) a (mA ha) e.2.2⟩
 ·intro x hx
  rcases List.mem_append.1 hx with hx | hx
  ·obtain ⟨a, ha, rfl⟩ := List.mem_map.1 hx
   refine off_ro hF (h.ro a (mA ha)) hw.el (hz a (mA ha)) (fun j hj => .inr (hw.lo j ?_)) hw.hi
   have := hA a ha
   show j < p
   omega
  ·rcases List.mem_cons.1 hx with rfl | hx
   ·exact hw
   ·obtain ⟨b, hb, rfl⟩ := List.mem_map.1 hx
    exact off_ro hF (h.ro b (mB hb)) hw.el (hz b (mB hb)) (fun j hj => .inl ((h.ro b (mB hb)).lo p (hB b hb))) hw.hi
/-- its span is that of the rows with the new one -/
theorem Sp.put {n p : Nat} {w : Cf} {A B : List (Nat × Cf)} (h : RedL F n (A ++ B)) (hw : El F w) (v : Cf) :
  Sp F ((A.map (off F p w) ++ (p, w) :: B.map (off F p w)).map Prod.snd) v ↔ Sp F (w :: (A ++ B).map Prod.snd) v := by
 have e1 : Els F (w :: (A ++ B).map Prod.snd) := Els.cons hw h.red.el
 have e2 : Els F ((A.map (off F p w) ++ (p, w) :: B.map (off F p w)).map Prod.snd) := fun r hr => by
  simp only [List.map_append, List.map_cons, List.map_map, List.mem_append, List.mem_map, List.mem_cons] at hr
  rcases hr with ⟨a, _, rfl⟩ | rfl | ⟨a, _, rfl⟩
  ·exact mns_el hF _ _ _
  ·exact hw
  ·exact mns_el hF _ _ _
 have hoff : ∀ a ∈ A ++ B, Sp F (w :: (A ++ B).map Prod.snd) (off F p w a).2 := fun a ha =>
  Sp.add hF e1 (Sp.mem hF e1 (by simp only [List.mem_cons, List.mem_map]; exact .inr ⟨a, ha, rfl⟩)) (Sp.smul hF e1 (hF.neg_lt _) (Sp.mem hF e1 (by simp)))
 constructor
 ·refine Sp.le hF e1 fun r hr => ?_
  simp only [List.map_append, List.map_cons, List.map_map, List.mem_append, List.mem_map, List.mem_cons] at hr
  rcases hr with ⟨a, ha, rfl⟩ | rfl | ⟨a, ha, rfl⟩
  ·exact hoff a (by simp [ha])
  ·exact Sp.mem hF e1 (by simp)
  ·exact hoff a (by simp [ha])
 ·refine Sp.le hF e2 fun r hr => ?_
  have hwS : Sp F ((A.map (off F p w) ++ (p, w) :: B.map (off F p w)).map Prod.snd) w := Sp.mem hF e2 (by simp)
  rcases List.mem_cons.1 hr with rfl | hr
  ·exact hwS
  ·obtain ⟨a, ha, rfl⟩ := List.mem_map.1 hr
   have hel := (h.ro a ha).el
   rw [mns_back hF hel hw (hel p)]
   refine Sp.add hF e2 (Sp.mem hF e2 ?_) (Sp.smul hF e2 (hel p) hwS)
   simp only [List.map_append, List.map_cons, List.map_map, List.mem_append, List.mem_map, List.mem_cons]
   rcases List.mem_append.1 ha with ha | ha
   ·exact .inl ⟨a, ha, rfl⟩
   ·exact .inr (.inr ⟨a, ha, rfl⟩)
/-- v without its coordinates at the pivots -/
def clr (F : Gf) (L : List (Nat × Cf)) (v : Cf) : Cf := mns F v 1 (cb F (L.map Prod.snd) fun i => v ((L.map Prod.fst).getD i 0))
theorem clr_at {n : Nat} {L : List (Nat × Cf)} (h : RedL F n L) {v : Cf} (hv : El F v) : ∀ a ∈ L, clr F L v a.1 = 0 := fun a ha => by
 obtain ⟨i, hi, e⟩ := mem_getD (List.mem_map.2 ⟨a, ha, rfl⟩ : a.1 ∈ L.map Prod.fst)
 show F.add (v a.1) (F.mul (F.neg 1) (cb F (L.map Prod.snd) _ a.1)) = 0
 rw [hF.neg_mul (cb_el hF _ _ _), ← e, h.red.coord hF (c := fun i => v ((L.map Prod.fst).getD i 0)) (fun i => hv _) (by simpa using hi)]
 exact hF.add_neg _
theorem clr_el (L : List (Nat × Cf)) (v : Cf) : El F (clr F L v) := mns_el hF _ _ _
theorem clr_hi {n : Nat} {L : List (Nat × Cf)} (h : RedL F n L) {v : Cf} (hv : El F v) (hh : ∀ j, n ≤ j → v j = 0) : ∀ j, n ≤ j → clr F L v j = 0 := fun j hj => by
 unfold clr
 rw [mns_at0 hF hv (.inr (cb_at0 hF fun i hi => .inr ?_))]
 ·exact hh j hj
 ·have hi' : i < L.length := by simpa using hi
  rw [map_snd_getD hi']; exact (h.ro _ (List.getElem_mem hi')).hi j hj
theorem clr_sp {n : Nat} {L : List (Nat × Cf)} (h : RedL F n L) {v : Cf} (hv : El F v) (x : Cf) : Sp F (clr F L v :: L.map Prod.snd) x ↔ Sp F (v :: L.map Prod.snd) x := by
 have e1 : Els F (v :: L.map Prod.snd) := Els.cons hv h.red.el
 have e2 : Els F (clr F L v :: L.map Prod.snd) := Els.cons (clr_el hF _ _) h.red.el
 have hc : El F fun i => v ((L.map Prod.fst).getD i 0) := fun i => hv _
 have in1 : ∀ r ∈ L.map Prod.snd, Sp F (v :: L.map Prod.snd) r := fun r hr => Sp.mem hF e1 (by simp only [List.mem_cons]; exact .inr hr)
 have in2 : ∀ r ∈ L.map Prod.snd, Sp F (clr F L v :: L.map Prod.snd) r := fun r hr => Sp.mem hF e2 (by simp only [List.mem_cons]; exact .inr hr)
 constructor
 ·refine Sp.le hF e1 fun r hr => ?_
  rcases List.mem_cons.1 hr with rfl | hr
  ·exact Sp.add hF e1 (Sp.mem hF e1 (by simp)) (Sp.smul hF e1 (hF.neg_lt _) (Sp.comb hF e1 hc in1))
  ·exact in1 r hr
 ·refine Sp.le hF e2 fun r hr => ?_
  rcases List.mem_cons.1 hr with rfl | hr
  ·have e := mns_back hF hv (cb_el hF (L.map Prod.snd) fun i => r ((L.map Prod.fst).getD i 0)) hF.one_lt
   have t := Sp.add hF e2 (Sp.mem hF e2 (r := clr F L r) List.mem_cons_self) (Sp.smul hF e2 hF.one_lt (Sp.comb hF e2 hc in2))
   rwa [show pa F (clr F L r) (ps F 1 (cb F (L.map Prod.snd) fun i => r ((L.map Prod.fst).getD i 0))) = r from e.symm] at t
  ·exact in2 r hr
end
end Go.Fl

/- Every list of vectors has a reduced matrix with the same span, with no more rows: they are put in one by one. -/
namespace Go.Fl
set_option linter.unusedSectionVars false
set_option linter.unusedVariables false
variable {F : Gf}
/-- the first coordinate before n that is not 0; n, if there is none -/
def pvt (w : Cf) : Nat → Nat
 | 0 => 0
 | n + 1 => if pvt w n < n then pvt w n else if w n = 0 then n + 1 else n
theorem pvt_spec (w : Cf) : ∀ n, pvt w n ≤ n ∧ (∀ j, j < pvt w n → w j = 0) ∧ (pvt w n < n → w (pvt w n) ≠ 0)
 | 0 => ⟨Nat.le_refl _, fun j h => (by cases h), fun h => (by cases h)⟩
 | n + 1 => by
  obtain ⟨h1, h2, h3⟩ := pvt_spec w n
  unfold pvt
  split
  ·rename_i h; exact ⟨by omega, h2, fun _ => h3 h⟩
  ·rename_i h
   have e : pvt w n = n := by omega
   rw [e] at h2
   split
   ·rename_i hz
    refine ⟨Nat.le_refl _, fun j hj => ?_, fun h => absurd h (by omega)⟩
    rcases Nat.lt_or_ge j n with hj' | hj'
    ·exact h2 j hj'
    ·obtain rfl : j = n := by omega
     exact hz
   ·rename_i hz; exact ⟨by omega, h2, fun _ => hz⟩
theorem pvt_uniq {w : Cf} {n p : Nat} (h1 : p ≤ n) (h2 : ∀ j, j < p → w j = 0) (h3 : p < n → w p ≠ 0) : pvt w n = p := by
 obtain ⟨g1, g2, g3⟩ := pvt_spec w n
 rcases Nat.lt_trichotomy (pvt w n) p with e | e | e
 ·exact absurd (h2 _ e) (g3 (by omega))
 ·exact e
 ·exact absurd (g2 _ e) (h3 (by omega))
theorem pvt_zero {w : Cf} {n : Nat} (h : pvt w n = n) (hi : ∀ j, n ≤ j → w j = 0) : w = pz := funext fun j => by
 rcases Nat.lt_or_ge j n with hj | hj
 ·exact (pvt_spec w n).2.1 j (by omega)
 ·exact hi j hj
theorem takeWhile_all {α : Type} {p : α → Bool} : ∀ {l : List α} {a : α}, a ∈ l.takeWhile p → p a = true
 | [], _, h => by cases h
 | x :: l, a, h => by
  rw [List.takeWhile_cons] at h
  split at h
  ·rename_i hx
   rcases List.mem_cons.1 h with rfl | h
   ·exact hx
   ·exact takeWhile_all h
  ·cases h
theorem dropWhile_gt {p : Nat} : ∀ {L : List (Nat × Cf)}, L.Pairwise (fun a b => a.1 < b.1) → (∀ a ∈ L, a.1 ≠ p) → ∀ b ∈ L.dropWhile (fun a => decide (a.1 < p)), p < b.1
 | [], _, _, b, hb => by cases hb
 | a :: L, h, hn, b, hb => by
  rw [List.pairwise_cons] at h
  rw [List.dropWhile_cons] at hb
  split at hb
  ·exact dropWhile_gt h.2 (fun x hx => hn x (by simp [hx])) b hb
  ·rename_i ha
   have ha' : ¬ a.1 < p := by simpa using ha
   have hap := hn a (by simp)
   rcases List.mem_cons.1 hb with rfl | hb
   ·omega
   ·have := h.1 b hb; omega
/-- a vector put into a reduced matrix -/
def putL (F : Gf) (n : Nat) (L : List (Nat × Cf)) (v : Cf) : List (Nat × Cf) :=
 if pvt (clr F L v) n = n then L else
  (L.takeWhile fun a => decide (a.1 < pvt (clr F L v) n)).map (off F (pvt (clr F L v) n) (ps F (F.inv (clr F L v (pvt (clr F L v) n))) (clr F L v))) ++
   (pvt (clr F L v) n, ps F (F.inv (clr F L v (pvt (clr F L v) n))) (clr F L v)) ::
    (L.dropWhile fun a => decide (a.1 < pvt (clr F L v) n)).map (off F (pvt (clr F L v) n) (ps F (F.inv (clr F L v (pvt (clr F L v) n))) (clr F L v)))
def redL (F : Gf) (n : Nat) (S : List Cf) : List (Nat × Cf) := S.foldl (putL F n) []
/-- vectors of length n -/
def Vs (F : Gf) (n : Nat) (S : List Cf) : Prop := ∀ v ∈ S, El F v ∧ ∀ j, n ≤ j → v j = 0
theorem Vs.els {n : Nat} {S : List Cf} (h : Vs F n S) : Els F S := fun v hv => (h v hv).1
section
variable (hF : Ok F)
include hF
theorem Sp.one {R : List Cf} {x y : Cf} (hx : El F x) (hy : El F y) (hR : Els F R) (h : Sp F (x :: R) y) (k : Sp F (y :: R) x) (v : Cf) : Sp F (x :: R) v ↔ Sp F (y :: R) v := by
 have e1 := Els.cons hx hR
 have e2 := Els.cons hy hR
 constructor
 ·refine Sp.le hF e2 fun r hr => ?_
  rcases List.mem_cons.1 hr with rfl | hr
  ·exact k
  ·exact Sp.mem hF e2 (List.mem_cons_of_mem _ hr)
 ·refine Sp.le hF e1 fun r hr => ?_
  rcases List.mem_cons.1 hr with rfl | hr
  ·exact h
  ·exact Sp.mem hF e1 (List.mem_cons_of_mem _ hr)
theorem Sp.cons_z {R : List Cf} (hR : Els F R) (v : Cf) : Sp F (pz :: R) v ↔ Sp F R v := by
 constructor
 ·refine Sp.le hF hR fun r hr => ?_
  rcases List.mem_cons.1 hr with rfl | hr
  ·exact Sp.zero hF R
  ·exact Sp.mem hF hR hr
 ·exact Sp.le hF (Els.cons (el_z hF) hR) fun r hr => Sp.mem hF (Els.cons (el_z hF) hR) (List.mem_cons_of_mem _ hr)
theorem Sp.cons_le {R S : List Cf} {x : Cf} (hx : El F x) (hR : Els F R) (hS : Els F S) (h : ∀ v, Sp F R v ↔ Sp F S v) (v : Cf) : Sp F (x :: R) v ↔ Sp F (x :: S) v := by
 have e1 := Els.cons hx hR
 have e2 := Els.cons hx hS
 have one : ∀ {R S : List Cf}, Els F R → Els F S → (∀ v, Sp F R v → Sp F S v) → Sp F (x :: R) v → Sp F (x :: S) v := fun {R S} hR hS h => Sp.le hF (Els.cons hx hS) fun r hr => by
  rcases List.mem_cons.1 hr with rfl | hr
  ·exact Sp.mem hF (Els.cons hx hS) (by simp)
  ·exact Sp.le hF (Els.cons hx hS) (fun r hr => Sp.mem hF (Els.cons hx hS) (List.mem_cons_of_mem _ hr)) (h r (Sp.mem hF hR hr))
 exact ⟨one hR hS fun v => (h v).1, one hS hR fun v => (h v).2⟩
theorem putL_ok {n : Nat} {L : List (Nat × Cf)} (h : RedL F n L) {v : Cf} (hv : El F v) (hh : ∀ j, n ≤ j → v j = 0) :
  RedL F n (putL F n L v) ∧ (∀ x, Sp F ((putL F n L v).map Prod.snd) x ↔ Sp F (v :: L.map Prod.snd) x) ∧ (putL F n L v).length ≤ L.length + 1 := by
 have hw := clr_el hF L v
 have hwh := clr_hi hF h hv hh
 have hws := clr_sp hF h hv
 have hwz := clr_at hF h hv
 unfold putL
 generalize clr F L v = w at *
 obtain ⟨p1, p2, p3⟩ := pvt_spec w n
 by_cases e : pvt w n = n
 ·rw [if_pos e]
  obtain rfl := pvt_zero e hwh
  exact ⟨h, fun x => (Sp.cons_z hF h.red.el x).symm.trans (hws x), by omega⟩
 rw [if_neg e]
 have hp := p3 (by omega)
 generalize pvt w n = p at *
 have hu : Ro F n (p, ps F (F.inv (w p)) w) := ⟨by show p < n; omega, el_s hF _ _, by show F.mul (F.inv (w p)) (w p) = 1; rw [Ok.mul_comm]; exact hF.mul_inv (hw p) hp,
  fun j hj => by show F.mul _ (w j) = 0; rw [p2 j hj, Ok.mul_z], fun j hj => by show F.mul _ (w j) = 0; rw [hwh j hj, Ok.mul_z]⟩
 have hsp : ∀ x, Sp F (ps F (F.inv (w p)) w :: L.map Prod.snd) x ↔ Sp F (w :: L.map Prod.snd) x := Sp.one hF hu.el hw h.red.el
  (by
   have hb : w = ps F (w p) (ps F (F.inv (w p)) w) := by rw [← ps_ps hF, hF.mul_inv (hw p) hp, one_ps hF hw]
   have := Sp.smul hF (Els.cons hu.el h.red.el) (hw p) (Sp.mem hF (Els.cons hu.el h.red.el) (r := ps F (F.inv (w p)) w) List.mem_cons_self)
   rwa [← hb] at this)
  (Sp.smul hF (Els.cons hw h.red.el) (hF.inv_lt _) (Sp.mem hF (Els.cons hw h.red.el) List.mem_cons_self))
 have hu0 : ∀ j, w j = 0 → ps F (F.inv (w p)) w j = 0 := fun j hj => by show F.mul _ (w j) = 0; rw [hj, Ok.mul_z]
 generalize ps F (F.inv (w p)) w = u at *
 have hne : ∀ a ∈ L, a.1 ≠ p := fun a ha e => hp (e ▸ hwz a ha)
 have hL : L = L.takeWhile (fun a => decide (a.1 < p)) ++ L.dropWhile (fun a => decide (a.1 < p)) := (List.takeWhile_append_dropWhile).symm
 have hA : ∀ a ∈ L.takeWhile (fun a => decide (a.1 < p)), a.1 < p := fun a ha => by simpa using takeWhile_all ha
 have hB : ∀ b ∈ L.dropWhile (fun a => decide (a.1 < p)), p < b.1 := dropWhile_gt (h.pw.imp fun h => h.1) hne
 generalize L.takeWhile (fun a => decide (a.1 < p)) = A at *
 generalize L.dropWhile (fun a => decide (a.1 < p)) = B at *
 subst hL
 have huz : ∀ a ∈ A ++ B, u a.1 = 0 := fun a ha => hu0 _ (hwz a ha)
 exact ⟨h.put hF hu huz hA hB, fun x => (Sp.put hF h hu.el x).trans ((hsp x).trans (hws x)), by simp; omega⟩
/-- the same for all vectors of a list -/
theorem fold_ok {n : Nat} : ∀ {S : List Cf} {L : List (Nat × Cf)}, RedL F n L → Vs F n S → RedL F n (S.foldl (putL F n) L) ∧ (∀ x, Sp F ((S.foldl (putL F n) L).map Prod.snd) x ↔ Sp F (S ++ L.map Prod.snd) x) ∧ (S.foldl (putL F n) L).length ≤ L.length + S.length
 | [], L, h, _ => ⟨h, fun x => Iff.rfl, by simp⟩
 | v :: S, L, h, hS => by
  obtain ⟨h1, h2, h3⟩ := putL_ok hF h (hS v (by simp)).1 (hS v (by simp)).2
  have hS' : Vs F n S := fun x hx => hS x (by simp [hx])
  obtain ⟨g1, g2, g3⟩ := fold_ok h1 hS'
  refine ⟨g1, fun x => (g2 x).trans ?_, by simp only [List.foldl_cons, List.length_cons]; omega⟩
  have e1 : Els F (S ++ (putL F n L v).map Prod.snd) := hS'.els.app h1.red.el
  have e2 : Els F (v :: S ++ L.map Prod.snd) := hS.els.app h.red.el
  have hvL : Els F (v :: L.map Prod.snd) := Els.cons (hS v (by simp)).1 h.red.el
  constructor
  ·refine Sp.le hF e2 fun r hr => ?_
   rcases List.mem_append.1 hr with hr | hr
   ·exact Sp.mem hF e2 (by simp [hr])
   ·refine Sp.le hF e2 (fun y hy => Sp.mem hF e2 ?_) ((h2 r).1 (Sp.mem hF h1.red.el hr))
    rcases List.mem_cons.1 hy with rfl | hy
    ·simp
    ·exact List.mem_append_right _ hy
  ·refine Sp.le hF e1 fun r hr => ?_
   have back : ∀ y, y ∈ v :: L.map Prod.snd → Sp F (S ++ (putL F n L v).map Prod.snd) y := fun y hy => Sp.app_r hF hS'.els h1.red.el ((h2 y).2 (Sp.mem hF hvL hy))
   rcases List.mem_append.1 hr with hr | hr
   ·rcases List.mem_cons.1 hr with rfl | hr
    ·exact back _ (by simp)
    ·exact Sp.mem hF e1 (by simp [hr])
   ·exact back _ (List.mem_cons_of_mem _ hr)
theorem RedL.nil (n : Nat) : RedL F n [] := ⟨.nil, fun _ h => (by cases h)⟩
/-- EVERY LIST HAS A REDUCED MATRIX -/
theorem redL_ok {n : Nat} {S : List Cf} (h : Vs F n S) : RedL F n (redL F n S) ∧ (∀ x, Sp F ((redL F n S).map Prod.snd) x ↔ Sp F S x) ∧ (redL F n S).length ≤ S.length := by
 obtain ⟨h1, h2, h3⟩ := fold_ok hF (RedL.nil hF n) h
 refine ⟨h1, fun x => (h2 x).trans (by simp), by simpa [redL] using h3⟩
end
end Go.Fl

/- What a reduced matrix takes to zero. -/
namespace Go.Fl
set_option linter.unusedSectionVars false
set_option linter.unusedVariables false
variable {F : Gf}
/-- the sum over a list -/
def sm (F : Gf) (f : Nat → Nat) : List Nat → Nat
 | [] => 0
 | x :: l => F.add (f x) (sm F f l)
/-- the sum of the products of the first n coordinates -/
def dt (F : Gf) (n : Nat) (v w : Cf) : Nat := sm F (fun j => F.mul (v j) (w j)) (List.range n)
section
variable (hF : Ok F)
include hF
theorem sm_lt (f : Nat → Nat) : ∀ l, sm F f l < F.q
 | [] => hF.zero_lt
 | _ :: _ => hF.add_lt _ _
theorem sm_congr {f g : Nat → Nat} : ∀ {l : List Nat}, (∀ x ∈ l, f x = g x) → sm F f l = sm F g l
 | [], _ => rfl
 | x :: l, h => by
  show F.add (f x) _ = F.add (g x) _
  rw [h x (by simp), sm_congr fun y hy => h y (by simp [hy])]
theorem sm_zero {f : Nat → Nat} : ∀ {l : List Nat}, (∀ x ∈ l, f x = 0) → sm F f l = 0
 | [], _ => rfl
 | x :: l, h => by
  show F.add (f x) _ = 0
  rw [h x (by simp), sm_zero fun y hy => h y (by simp [hy])]; exact hF.add_zero hF.zero_lt
theorem sm_add (f g : Nat → Nat) : ∀ l, sm F (fun x => F.add (f x) (g x)) l = F.add (sm F f l) (sm F g l)
 | [] => (hF.add_zero hF.zero_lt).symm
 | x :: l => by
  show F.add (F.add (f x) (g x)) (sm F _ l) = F.add (F.add (f x) (sm F f l)) (F.add (g x) (sm F g l))
  rw [sm_add f g l, hF.add_assoc, hF.add_assoc, ← hF.add_assoc (g x), ← hF.add_assoc (sm F f l), Ok.add_comm (g x) (sm F f l)]
theorem sm_mul {c : Nat} (hc : c < F.q) {f : Nat → Nat} (hf : ∀ x, f x < F.q) : ∀ l, sm F (fun x => F.mul c (f x)) l = F.mul c (sm F f l)
 | [] => (Ok.mul_z c).symm
 | x :: l => by
  show F.add (F.mul c (f x)) (sm F _ l) = F.mul c (F.add (f x) (sm F f l))
  rw [sm_mul hc hf l, hF.mul_add (hf x) (sm_lt hF f l) hc]
theorem sm_one {f : Nat → Nat} (hf : ∀ x, f x < F.q) {x : Nat} : ∀ {l : List Nat}, l.Nodup → x ∈ l → (∀ y ∈ l, y ≠ x → f y = 0) → sm F f l = f x
 | [], _, h, _ => by cases h
 | y :: l, hn, hx, h => by
  rw [List.nodup_cons] at hn
  show F.add (f y) (sm F f l) = f x
  by_cases e : y = x
  ·subst e
   rw [sm_zero hF fun z hz => h z (by simp [hz]) fun e => hn.1 (e ▸ hz)]
   exact hF.add_zero (hf y)
  ·rw [h y (by simp) e, hF.zero_add (sm_lt hF _ _)]
   exact sm_one hf hn.2 (by rcases List.mem_cons.1 hx with e' | e'; exact absurd e'.symm e; exact e') fun z hz => h z (by simp [hz])
theorem sm_split (f : Nat → Nat) (p : Nat → Bool) : ∀ l, sm F f l = F.add (sm F f (l.filter p)) (sm F f (l.filter fun x => !p x))
 | [] => (hF.add_zero hF.zero_lt).symm
 | x :: l => by
  show F.add (f x) (sm F f l) = _
  rw [sm_split f p l, List.filter_cons, List.filter_cons]
  cases hp : p x
  ·simp only [Bool.not_false, if_true, Bool.false_eq_true, if_false]
   show _ = F.add _ (F.add (f x) _)
   rw [← hF.add_assoc, ← hF.add_assoc, Ok.add_comm (f x)]
  ·simp only [Bool.not_true, if_true, Bool.false_eq_true, if_false]
   show _ = F.add (F.add (f x) _) _
   rw [hF.add_assoc]
theorem dt_lt (n : Nat) (v w : Cf) : dt F n v w < F.q := sm_lt hF _ _
theorem dt_comm (n : Nat) (v w : Cf) : dt F n v w = dt F n w v := sm_congr hF fun x _ => Ok.mul_comm _ _
theorem dt_pa {n : Nat} {v w x : Cf} (hv : El F v) (hw : El F w) (hx : El F x) : dt F n (pa F v w) x = F.add (dt F n v x) (dt F n w x) := by
 unfold dt
 rw [← sm_add hF]
 exact sm_congr hF fun j _ => hF.add_mul (hv j) (hw j) (hx j)
theorem dt_ps {n c : Nat} {v x : Cf} (hc : c < F.q) : dt F n (ps F c v) x = F.mul c (dt F n v x) := by
 unfold dt
 rw [← sm_mul hF hc fun j => hF.mul_lt _ _]
 exact sm_congr hF fun j _ => hF.mul_assoc _ _ _
theorem dt_z (n : Nat) (x : Cf) : dt F n pz x = 0 := sm_zero hF fun j _ => Ok.z_mul _
theorem dt_cb {n : Nat} {x : Cf} (hx : El F x) : ∀ {R : List Cf} {c : Cf}, Els F R → El F c → (∀ r ∈ R, dt F n r x = 0) → dt F n (cb F R c) x = 0
 | [], _, _, _, _ => dt_z hF n x
 | r :: R, c, hR, hc, h => by
  show dt F n (pa F (ps F (c 0) r) (cb F R fun i => c (i + 1))) x = 0
  rw [dt_pa hF (el_s hF _ _) (cb_el hF _ _) hx, dt_ps hF (hc 0), h r (by simp), Ok.mul_z, dt_cb hx hR.tail (fun i => hc (i + 1)) fun y hy => h y (by simp [hy])]
  exact hF.add_zero hF.zero_lt
/-- what is zero on the vectors is zero on their span -/
theorem dt_sp {n : Nat} {x v : Cf} (hx : El F x) {R : List Cf} (hR : Els F R) (h : ∀ r ∈ R, dt F n r x = 0) (hv : Sp F R v) : dt F n v x = 0 := by
 obtain ⟨c, hc, rfl⟩ := hv
 exact dt_cb hF hx hR hc h
/-- a combination's coordinate as a sum -/
theorem cb_sm (k : Nat → Cf) (c : Nat → Nat) (x : Nat) : ∀ l : List Nat, cb F (l.map k) (fun i => c (l.getD i 0)) x = sm F (fun j => F.mul (c j) (k j x)) l
 | [] => rfl
 | j :: l => by
  show F.add (F.mul (c j) (k j x)) (cb F (l.map k) (fun i => c ((j :: l).getD (i + 1) 0)) x) = F.add _ _
  rw [← cb_sm k c x l]
  rfl
end

/-- the coordinates that are no pivots -/
def isP (L : List (Nat × Cf)) (x : Nat) : Bool := L.any fun a => a.1 == x
def frees (n : Nat) (L : List (Nat × Cf)) : List Nat := (List.range n).filter fun x => !isP L x
/-- the vector that is 1 at j and that the matrix takes to zero -/
def kv (F : Gf) (L : List (Nat × Cf)) (j : Nat) : Cf := fun x =>
 match L.find? (fun a => a.1 == x) with
 | some a => F.neg (a.2 j)
 | none => if x = j then 1 else 0
theorem isP_iff {L : List (Nat × Cf)} {x : Nat} : isP L x = true ↔ ∃ a ∈ L, a.1 = x := by simp [isP]
section
variable (hF : Ok F)
include hF
theorem kv_el (L : List (Nat × Cf)) (j : Nat) : El F (kv F L j) := fun x => by
 unfold kv
 split
 ·exact hF.neg_lt _
 ·split
  ·exact hF.one_lt
  ·exact hF.zero_lt
theorem kv_free {L : List (Nat × Cf)} {x : Nat} (h : isP L x = false) (j : Nat) : kv F L j x = if x = j then 1 else 0 := by
 unfold kv
 rw [show L.find? (fun a => a.1 == x) = none from by
  rw [List.find?_eq_none]; intro a ha; simp only [isP, List.any_eq_false] at h; exact h a ha]
theorem RedL.inj {n : Nat} {L : List (Nat × Cf)} (h : RedL F n L) {a b : Nat × Cf} (ha : a ∈ L) (hb : b ∈ L) (e : a.1 = b.1) : a = b := by
 obtain ⟨i, hi, rfl⟩ := List.getElem_of_mem ha
 obtain ⟨k, hk, rfl⟩ := List.getElem_of_mem hb
 have hp := List.pairwise_iff_getElem.1 h.pw
 rcases Nat.lt_trichotomy i k with e' | e' | e'
 ·have := (hp i k hi hk e').1; omega
 ·subst e'; rfl
 ·have := (hp k i hk hi e').1; omega
theorem RedL.at {n : Nat} {L : List (Nat × Cf)} (h : RedL F n L) {a b : Nat × Cf} (ha : a ∈ L) (hb : b ∈ L) (e : a.1 ≠ b.1) : a.2 b.1 = 0 := by
 obtain ⟨i, hi, rfl⟩ := List.getElem_of_mem ha
 obtain ⟨k, hk, rfl⟩ := List.getElem_of_mem hb
 have hp := List.pairwise_iff_getElem.1 h.pw
 rcases Nat.lt_trichotomy i k with e' | e' | e'
 ·exact (hp i k hi hk e').2.1
 ·subst e'; exact absurd rfl e
 ·exact (hp k i hk hi e').2.2
theorem kv_piv {n : Nat} {L : List (Nat × Cf)} (h : RedL F n L) {a : Nat × Cf} (ha : a ∈ L) (j : Nat) : kv F L j a.1 = F.neg (a.2 j) := by
 unfold kv
 obtain ⟨b, hb⟩ : ∃ b, L.find? (fun b => b.1 == a.1) = some b := by
  cases e : L.find? (fun b => b.1 == a.1) with
  | some b => exact ⟨b, rfl⟩
  | none => rw [List.find?_eq_none] at e; exact absurd (e a ha) (by simp)
 rw [hb]
 have h1 := List.mem_of_find?_eq_some hb
 have h2 := List.find?_some hb
 rw [h.inj hF h1 ha (by simpa using h2)]
/-- the product with a row: its pivot's coordinate and the sum over the free ones -/
theorem dt_row {n : Nat} {L : List (Nat × Cf)} (h : RedL F n L) {a : Nat × Cf} (ha : a ∈ L) {v : Cf} (hv : El F v) :
  dt F n a.2 v = F.add (v a.1) (sm F (fun j => F.mul (a.2 j) (v j)) (frees n L)) := by
 unfold dt frees
 rw [sm_split hF _ (isP L)]
 congr 1
 have hm : ∀ x, F.mul (a.2 x) (v x) < F.q := fun x => hF.mul_lt _ _
 rw [sm_one hF hm (x := a.1) (List.nodup_range.filter _) (by rw [List.mem_filter]; exact ⟨by rw [List.mem_range]; exact (h.ro a ha).bd, isP_iff.2 ⟨a, ha, rfl⟩⟩)]
 ·rw [(h.ro a ha).one, hF.one_mul (hv _)]
 ·intro y hy hne
  rw [List.mem_filter] at hy
  obtain ⟨b, hb, rfl⟩ := isP_iff.1 hy.2
  rw [h.at hF ha hb fun e => hne e.symm, Ok.z_mul]
/-- the vectors of the kernel are taken to zero -/
theorem kv_zero {n : Nat} {L : List (Nat × Cf)} (h : RedL F n L) {j : Nat} (hj : j ∈ frees n L) : ∀ a ∈ L, dt F n a.2 (kv F L j) = 0 := fun a ha => by
 rw [dt_row hF h ha (kv_el hF L j), kv_piv hF h ha]
 unfold frees at hj ⊢
 have hm : ∀ x, F.mul (a.2 x) (kv F L j x) < F.q := fun x => hF.mul_lt _ _
 rw [sm_one hF hm (List.nodup_range.filter _) hj]
 ·rw [List.mem_filter] at hj
  rw [kv_free hF (by simpa using hj.2), if_pos rfl, hF.mul_one ((h.ro a ha).el j), Ok.add_comm]
  exact hF.add_neg _
 ·intro y hy hne
  rw [List.mem_filter] at hy
  rw [kv_free hF (by simpa using hy.2), if_neg hne, Ok.mul_z]
/-- AND ALL THAT IS TAKEN TO ZERO IS A COMBINATION OF THEM -/
theorem kv_all {n : Nat} {L : List (Nat × Cf)} (h : RedL F n L) {v : Cf} (hv : El F v) (hh : ∀ j, n ≤ j → v j = 0) (hz : ∀ a ∈ L, dt F n a.2 v = 0) :
  v = cb F ((frees n L).map (kv F L)) fun i => v ((frees n L).getD i 0) := funext fun x => by
 rw [cb_sm hF (kv F L) v x]
 have hm : ∀ j, F.mul (v j) (kv F L j x) < F.q := fun j => hF.mul_lt _ _
 by_cases hx : x < n
 ·cases hp : isP L x
  ·unfold frees
   rw [sm_one hF hm (x := x) (List.nodup_range.filter _) (by rw [List.mem_filter]; exact ⟨by rw [List.mem_range]; exact hx, by simp [hp]⟩)]
   ·rw [kv_free hF hp, if_pos rfl, hF.mul_one (hv x)]
   ·intro y hy hne
    rw [kv_free hF hp, if_neg fun e => hne e.symm, Ok.mul_z]
  ·obtain ⟨a, ha, rfl⟩ := isP_iff.1 hp
   have e := hz a ha
   rw [dt_row hF h ha hv] at e
   have e2 : sm F (fun j => F.mul (v j) (kv F L j a.1)) (frees n L) = F.mul (F.neg 1) (sm F (fun j => F.mul (a.2 j) (v j)) (frees n L)) := by
    rw [← sm_mul hF (hF.neg_lt 1) fun j => hF.mul_lt _ _]
    exact sm_congr hF fun j _ => by rw [kv_piv hF h ha, mul_neg hF ((h.ro a ha).el j), ← hF.neg_mul (hF.mul_lt _ _), Ok.mul_comm (v j)]
   rw [e2, hF.neg_mul (sm_lt hF _ _)]
   refine hF.add_left_cancel (a := sm F (fun j => F.mul (a.2 j) (v j)) (frees n L)) (hv _) (hF.neg_lt _) ?_
   rw [hF.add_neg, Ok.add_comm]; exact e
 ·rw [hh x (by omega), sm_zero hF]
  intro j hj
  unfold frees at hj
  rw [List.mem_filter, List.mem_range] at hj
  have hnp : isP L x = false := by
   cases e : isP L x
   ·rfl
   ·obtain ⟨a, ha, rfl⟩ := isP_iff.1 e
    exact absurd (h.ro a ha).bd hx
  rw [kv_free hF hnp, if_neg (by omega), Ok.mul_z]
end
end Go.Fl

/- Dimensions: independent vectors of a span are no more than it is made of; the kernel; the kernel of the kernel. -/
namespace Go.Fl
set_option linter.unusedSectionVars false
set_option linter.unusedVariables false
variable {F : Gf}
def Ind (F : Gf) (V : List Cf) : Prop := ∀ c, El F c → cb F V c = pz → ∀ i, i < V.length → c i = 0
theorem range_getD {n i : Nat} (h : i < n) : (List.range n).getD i 0 = i := by
 rw [List.getD_eq_getElem?_getD, List.getElem?_range h]; rfl
theorem self_map (A : List Cf) : A = (List.range A.length).map fun i => A.getD i pz := by
 apply List.ext_getElem (by simp)
 intro i h1 h2
 simp [List.getD_eq_getElem?_getD, List.getElem?_eq_getElem h1]
theorem len_filter (p : Nat → Bool) : ∀ l : List Nat, (l.filter p).length + (l.filter fun x => !p x).length = l.length
 | [] => rfl
 | x :: l => by
  have := len_filter p l
  rw [List.filter_cons, List.filter_cons]
  cases hp : p x <;> simp <;> omega
theorem range_sorted : ∀ n, (List.range n).Pairwise (· < ·) := fun n => by
 rw [List.pairwise_iff_getElem]; intro i k hi hk e; simpa using e
section
variable (hF : Ok F)
include hF
theorem cb_cb {S : List Cf} (hS : Els F S) : ∀ {A : List Cf} {c : Cf}, Els F A → El F c → cb F (A.map (cb F S)) c = cb F S (cb F A c)
 | [], c, _, _ => (cb_z hF S).symm
 | a :: A, c, hA, hc => by
  show pa F (ps F (c 0) (cb F S a)) (cb F (A.map (cb F S)) fun i => c (i + 1)) = cb F S (pa F (ps F (c 0) a) (cb F A fun i => c (i + 1)))
  rw [cb_cb hS hA.tail (fun i => hc (i + 1)), cb_pa hF hS (el_s hF _ _) (cb_el hF _ _), cb_ps hF hS (hc 0) hA.head]
theorem coefs {S : List Cf} : ∀ {V : List Cf}, (∀ v ∈ V, Sp F S v) → ∃ A, Els F A ∧ A.map (cb F S) = V
 | [], _ => ⟨[], Els.nil, rfl⟩
 | v :: V, h => by
  obtain ⟨A, hA, e⟩ := coefs fun x hx => h x (List.mem_cons_of_mem _ hx)
  obtain ⟨c, hc, e2⟩ := h v (by simp)
  exact ⟨c :: A, Els.cons hc hA, by simp [e, e2]⟩
theorem cb_coord (A : List Cf) (c : Cf) (k : Nat) : cb F A c k = sm F (fun i => F.mul (c i) (A.getD i pz k)) (List.range A.length) := by
 rw [← cb_sm hF (fun i => A.getD i pz) c k (List.range A.length), ← self_map A]
 exact congrFun (cb_congr hF fun i hi => by show c i = c ((List.range A.length).getD i 0); rw [range_getD hi]) k
theorem frees_len {n : Nat} {L : List (Nat × Cf)} (h : RedL F n L) : (frees n L).length + L.length = n := by
 have e : (List.range n).filter (isP L) = L.map Prod.fst := by
  refine sorted_ext ((range_sorted n).filter _) h.red.lt fun x => ?_
  rw [List.mem_filter, List.mem_range, isP_iff, List.mem_map]
  exact ⟨fun h => h.2, fun ⟨a, ha, e⟩ => ⟨e ▸ (h.ro a ha).bd, a, ha, e⟩⟩
 have := len_filter (isP L) (List.range n)
 rw [e, List.length_map, List.length_range] at this
 unfold frees
 omega
/-- MORE VECTORS THAN THE SPAN IS MADE OF ARE NOT INDEPENDENT -/
theorem dep {V S : List Cf} (hS : Els F S) (h : ∀ v ∈ V, Sp F S v) (hl : S.length < V.length) : ∃ c, El F c ∧ cb F V c = pz ∧ ∃ i, i < V.length ∧ c i ≠ 0 := by
 obtain ⟨A, hA, rfl⟩ := coefs hF h
 rw [List.length_map] at hl ⊢
 have hT : Vs F A.length ((List.range S.length).map fun k i => A.getD i pz k) := fun t ht => by
  obtain ⟨k, _, rfl⟩ := List.mem_map.1 ht
  refine ⟨fun i => hA.get hF i k, fun i hi => ?_⟩
  show A.getD i pz k = 0
  rw [List.getD_eq_getElem?_getD, List.getElem?_eq_none hi]; rfl
 obtain ⟨h1, h2, h3⟩ := redL_ok hF hT
 rw [List.length_map, List.length_range] at h3
 have hfl := frees_len hF h1
 generalize redL F A.length ((List.range S.length).map fun k i => A.getD i pz k) = L at *
 obtain ⟨j, hj⟩ : ∃ j, j ∈ frees A.length L := by
  cases e : frees A.length L with
  | nil => rw [e] at hfl; simp at hfl; omega
  | cons x l => exact ⟨x, by simp⟩
 have hjm := hj
 unfold frees at hjm
 rw [List.mem_filter, List.mem_range] at hjm
 refine ⟨kv F L j, kv_el hF L j, ?_, j, hjm.1, ?_⟩
 ·rw [cb_cb hF hS hA (kv_el hF L j), ← cb_z hF S]
  refine cb_congr hF fun k hk => ?_
  rw [cb_coord hF A]
  have e := dt_sp hF (n := A.length) (kv_el hF L j) h1.red.el (fun r hr => by
   obtain ⟨a, ha, rfl⟩ := List.mem_map.1 hr; exact kv_zero hF h1 hj a ha) ((h2 (fun i => A.getD i pz k)).2 (Sp.mem hF hT.els (List.mem_map.2 ⟨k, List.mem_range.2 hk, rfl⟩)))
  rw [dt_comm hF] at e
  exact e
 ·rw [kv_free hF (by simpa using hjm.2), if_pos rfl]; exact Nat.one_ne_zero
theorem Ind.le {V S : List Cf} (hV : Ind F V) (hS : Els F S) (h : ∀ v ∈ V, Sp F S v) : V.length ≤ S.length := by
 refine Nat.le_of_not_lt fun hl => ?_
 obtain ⟨c, hc, e, i, hi, hn⟩ := dep hF hS h hl
 exact hn (hV c hc e i hi)
theorem RedL.ind {n : Nat} {L : List (Nat × Cf)} (h : RedL F n L) : Ind F (L.map Prod.snd) := fun c hc e i hi => by
 rw [← h.red.coord hF hc hi, e]; rfl
theorem kvs_ind (n : Nat) (L : List (Nat × Cf)) : Ind F ((frees n L).map (kv F L)) := fun c hc e i hi => by
 rw [List.length_map] at hi
 have hm : (frees n L).getD i 0 ∈ frees n L := by rw [List.getD_eq_getElem?_getD, List.getElem?_eq_getElem hi]; exact List.getElem_mem hi
 have hs : (frees n L).Pairwise (· < ·) := (range_sorted n).filter _
 have e2 := cb_at1 hF (R := (frees n L).map (kv F L)) (c := c) (i := i) (j := (frees n L).getD i 0) hc (by simpa using hi) fun k hk => by
  rw [List.length_map] at hk
  rw [show ((frees n L).map (kv F L)).getD k pz = kv F L ((frees n L)[k]) from by rw [List.getD_eq_getElem?_getD, List.getElem?_map, List.getElem?_eq_getElem hk]; rfl]
  have hf : isP L ((frees n L).getD i 0) = false := by
   have h2 := hm
   unfold frees at h2
   rw [List.mem_filter] at h2
   simpa [frees] using h2.2
  rw [kv_free hF hf, List.getD_eq_getElem?_getD, List.getElem?_eq_getElem hi]
  have hp := List.pairwise_iff_getElem.1 hs
  rcases Nat.lt_trichotomy k i with e' | e' | e'
  ·have := hp k i hk hi e'
   rw [if_neg (by show ¬ (frees n L)[i] = _; omega), if_neg (by omega)]
  ·subst e'; rw [if_pos rfl]; exact if_pos rfl
  ·have := hp i k hi hk e'
   rw [if_neg (by show ¬ (frees n L)[i] = _; omega), if_neg (by omega)]
 rw [← e2, e]; rfl
/-- a reduced matrix within a span, with as many rows as make it, spans it -/
theorem RedL.fill {n : Nat} {L : List (Nat × Cf)} (h : RedL F n L) {S : List Cf} (hS : Els F S) (hs : ∀ v, Sp F (L.map Prod.snd) v → Sp F S v) (hl : S.length ≤ L.length) {v : Cf} (hv : Sp F S v) : Sp F (L.map Prod.snd) v := by
 obtain ⟨c, hc, e, i, hi, hn⟩ := dep hF (V := v :: L.map Prod.snd) hS (fun x hx => by
  rcases List.mem_cons.1 hx with rfl | hx
  ·exact hv
  ·exact hs _ (Sp.mem hF h.red.el hx)) (by simp; omega)
 have he := hv.el hF
 have e' : pa F (ps F (c 0) v) (cb F (L.map Prod.snd) fun i => c (i + 1)) = pz := e
 by_cases h0 : c 0 = 0
 ·rw [h0, z_ps hF, zero_pa hF (cb_el hF _ _)] at e'
  cases i with
  | zero => exact absurd h0 hn
  | succ i => exact absurd (h.ind hF _ (fun k => hc (k + 1)) e' i (by simpa using hi)) hn
 ·have e3 : v = ps F (F.neg (F.inv (c 0))) (cb F (L.map Prod.snd) fun i => c (i + 1)) := funext fun x => by
   have ex := congrFun e' x
   have ex' : F.add (F.mul (c 0) (v x)) (cb F (L.map Prod.snd) (fun i => c (i + 1)) x) = 0 := ex
   generalize hg : cb F (L.map Prod.snd) (fun i => c (i + 1)) x = y at ex'
   have hy : y < F.q := by rw [← hg]; exact cb_el hF _ _ x
   show v x = F.mul (F.neg (F.inv (c 0))) (cb F (L.map Prod.snd) (fun i => c (i + 1)) x)
   rw [hg]
   have ey : F.mul (c 0) (v x) = F.neg y := hF.add_left_cancel (a := y) (hF.mul_lt _ _) (hF.neg_lt _) (by rw [hF.add_neg, Ok.add_comm]; exact ex')
   have e4 : F.mul (F.inv (c 0)) (F.mul (c 0) (v x)) = v x := by rw [← hF.mul_assoc, Ok.mul_comm (F.inv (c 0)), hF.mul_inv (hc 0) h0, hF.one_mul (he x)]
   rw [← e4, ey, mul_neg hF hy, ← hF.neg_mul (hF.mul_lt _ _), ← hF.mul_assoc, hF.neg_mul (hF.inv_lt _)]
  rw [e3]
  exact Sp.smul hF h.red.el (hF.neg_lt _) ⟨_, fun k => hc (k + 1), rfl⟩
/-- the kernel -/
def kerL (F : Gf) (n : Nat) (L : List (Nat × Cf)) : List (Nat × Cf) := redL F n ((frees n L).map (kv F L))
end
end Go.Fl
