/- Reading fractions: the reference's read. -/
import Derived.Test.YtieabeodommbiaaTh
namespace Go.Proofs.Ytieabeodommbiaa
open Go.RowKit
set_option maxRecDepth 100000
set_option linter.unusedVariables false

/-- the number at the head of a text, and how many bytes are behind it -/
def rdF : Nat → Nat → List UInt8 → Nat × Nat
  | 0, n, l => (n, l.length)
  | _ + 1, n, [] => (n, 0)
  | f + 1, n, b :: l => if 48 ≤ b.toNat ∧ b.toNat ≤ 57 then (if 461168601842738790 < n then (0, 0) else rdF f (10 * n + (b.toNat - 48)) l) else (n, l.length + 1)
theorem rdF_rem : ∀ (f n : Nat) (l : List UInt8), (rdF f n l).2 ≤ l.length
  | 0, n, l => Nat.le_refl _
  | f + 1, n, [] => Nat.le_refl _
  | f + 1, n, b :: l => by
    unfold rdF
    split
    · split
      · simp
      · have := rdF_rem f (10 * n + (b.toNat - 48)) l
        simp; omega
    · simp
theorem rdF_bd : ∀ (f n : Nat) (l : List UInt8), n ≤ 4611686018427387909 → (rdF f n l).1 ≤ 4611686018427387909
  | 0, n, l, h => h
  | f + 1, n, [], h => h
  | f + 1, n, b :: l, h => by
    unfold rdF
    split
    · split
      · simp
      · exact rdF_bd f _ l (by omega)
    · exact h
theorem rdF_end (f n : Nat) (l : List UInt8) (k : Nat) (hk : l.length ≤ k) : rdF f n (l.drop k) = (n, 0) := by
  rw [List.drop_of_length_le hk]
  cases f <;> rfl
theorem rdF_step {f n k : Nat} {l : List UInt8} (h : k < l.length) : rdF (f + 1) n (l.drop k) = if 48 ≤ (l.getD k 0).toNat ∧ (l.getD k 0).toNat ≤ 57 then (if 461168601842738790 < n then (0, 0) else rdF f (10 * n + ((l.getD k 0).toNat - 48)) (l.drop (k + 1))) else (n, l.length - k) := by
  rw [drop_cons h]
  show (if _ then _ else (n, (l.drop (k + 1)).length + 1)) = _
  rw [List.length_drop, show l.length - (k + 1) + 1 = l.length - k by omega]
theorem most_n (W : World) : Calls Try.prog 37 #[] W fun e W' => e = .returned (.int .i64 4611686018427387904) ∧ W' = W := by
  go_enter Try.func37, Try.ntmps37
  go_wp2
  go_ret
  exact ⟨rfl, rfl⟩
set_option maxHeartbeats 6400000 in
theorem read_c (l : List UInt8) (i0 : Nat) (hl : l.length ≤ 1000) (hi : i0 ≤ l.length) (W : World) :
    Calls Try.prog 61 #[strV l, .int .i64 i0] W fun e W' => e = .returned (.tuple #[.int .i64 (rdF 19 0 (l.drop i0)).1, .int .i64 ((l.length - (rdF 19 0 (l.drop i0)).2 : Nat) : Int)]) ∧ W' = W := by
  have HI := Lib.hid (idx_l l)
  have MS := Lib.hid most_n
  obtain ⟨p, HP⟩ : ∃ p, Hid (rdF 19 0 (l.drop i0) = p) := ⟨_, rfl⟩
  rw [HP.out]
  go_enter Try.func61, Try.ntmps61
  go_wp2
  go_loopw [1, 6, 7] (fun iv nv kv wr => ∃ i n k : Nat, i ≤ l.length ∧ k ≤ 19 ∧ iv = .int .i64 i ∧ nv = .int .i64 n ∧ kv = .int .i64 k ∧ n ≤ 4611686018427387909 ∧ Hid (p = rdF (19 - k) n (l.drop i)) ∧ wr = W) (fun _ _ kv _ => 19 - (intOf kv).toNat)
  case atStart => exact ⟨i0, 0, 0, hi, by omega, rfl, rfl, rfl, by omega, HP.out.symm, rfl⟩
  case round =>
    obtain ⟨i, n, k, hi', hk, rfl, rfl, rfl, hn, HD, rfl⟩ := hrel
    by_cases h19 : k < 19
    · have dk : decide ((k : Int) < 19) = true := by simp; omega
      by_cases hlt : i < l.length
      · have di : decide ((i : Int) < (l.length : Int)) = true := by simp; omega
        have hx := HI.out i hlt
        have hst := HD.out
        rw [show 19 - k = (18 - k) + 1 by omega, rdF_step hlt] at hst
        have HS := Lib.hid hst
        clear hst
        have hxb : ((l.getD i 0).toNat : Int) ≤ 255 := by have := (l.getD i 0).toNat_lt; omega
        obtain ⟨x, hxx⟩ : ∃ x : Nat, Hid ((l.getD i 0).toNat = x) := ⟨_, rfl⟩
        rw [hxx.out] at hx hxb
        have HS2 := HS.out
        rw [hxx.out] at HS2
        have HS := Lib.hid HS2
        clear HS2
        by_cases h1 : 48 ≤ x
        · have d1 : decide (48 ≤ (x : Int)) = true := by simp; omega
          by_cases h2 : x ≤ 57
          · have d2 : decide ((x : Int) ≤ 57) = true := by simp; omega
            by_cases h3 : 461168601842738790 < n
            · have HE : Hid (p = (0, 0)) := Lib.hid (by rw [HS.out, if_pos ⟨h1, h2⟩, if_pos h3])
              have d3 : decide (461168601842738790 < (n : Int)) = true := by simp; omega
              clear HS h3
              go_wp2_with fail
              refine (MS.out _).mono ?_
              rintro e w ⟨rfl, rfl⟩
              go_wp2
              go_ret2
              exact ⟨by rw [HE.out]; rfl, rfl⟩
            · have HT : Hid (p = rdF (18 - k) (10 * n + (x - 48)) (l.drop (i + 1))) := Lib.hid (by rw [HS.out, if_pos ⟨h1, h2⟩, if_neg h3])
              have d3 : decide (461168601842738790 < (n : Int)) = false := by simp; omega
              have hn2 : (n : Int) ≤ 461168601842738790 := by omega
              have hn3 : 0 ≤ (n : Int) := by omega
              have hn4 : 10 * n + (x - 48) ≤ 4611686018427387909 := by omega
              have H5 : Hid (((10 * n + (x - 48) : Nat) : Int) = 10 * (n : Int) + ((x : Int) - 48)) := Lib.hid (by omega)
              have h1' : 48 ≤ (x : Int) := by omega
              have h2' : (x : Int) ≤ 57 := by omega
              clear HS h3
              go_wp2_with fail
              refine (MS.out _).mono ?_
              rintro e w ⟨rfl, rfl⟩
              go_wp2
              go_roundw
              case rel => exact ⟨i + 1, 10 * n + (x - 48), k + 1, by omega, by omega, by go_num, by rw [H5.out], by go_num, hn4, by rw [show 19 - (k + 1) = 18 - k by omega]; exact HT, trivial⟩
              case measure => simp [intOf]; omega
          · have HE : Hid (p = (n, l.length - i)) := Lib.hid (by rw [HS.out, if_neg (fun h => h2 h.2)])
            have d2 : decide ((x : Int) ≤ 57) = false := by simp; omega
            clear HS h2
            go_wp2
            go_ret2
            exact ⟨by rw [HE.out, show l.length - (l.length - i) = i by omega]; rfl, rfl⟩
        · have HE : Hid (p = (n, l.length - i)) := Lib.hid (by rw [HS.out, if_neg (fun h => h1 h.1)])
          have d1 : decide (48 ≤ (x : Int)) = false := by simp; omega
          clear HS h1
          go_wp2
          go_ret2
          exact ⟨by rw [HE.out, show l.length - (l.length - i) = i by omega]; rfl, rfl⟩
      · obtain rfl : i = l.length := by omega
        have di : decide ((l.length : Int) < (l.length : Int)) = false := by simp
        have HE : Hid (p = (n, 0)) := Lib.hid (by rw [HD.out]; exact rdF_end _ _ _ _ (Nat.le_refl _))
        go_wp2
        go_ret2
        exact ⟨by rw [HE.out]; rfl, rfl⟩
    · obtain rfl : k = 19 := by omega
      have HE : Hid (p = (n, l.length - i)) := Lib.hid (by rw [HD.out, ← List.length_drop]; rfl)
      go_wp2
      go_ret2
      exact ⟨by rw [HE.out, show l.length - (l.length - i) = i by omega]; rfl, rfl⟩
end Go.Proofs.Ytieabeodommbiaa

/- Reading fractions: what is read of a text. -/
namespace Go.Proofs.Ytieabeodommbiaa
set_option linter.unusedVariables false

def headT (n : Int) : List UInt8 := if n < 0 then 45 :: digs n.natAbs else digs n.natAbs
def textT (n : Int) (d : Nat) : List UInt8 := if d = 1 then headT n else headT n ++ 47 :: digs d
theorem dig_toNat {m : Nat} (h : m < 10) : (UInt8.ofNat (48 + m)).toNat = 48 + m := by rw [UInt8.toNat_ofNat_of_lt' (by show _ < 256; omega)]
theorem digs_mem : ∀ (m : Nat), ∀ b ∈ digs m, 48 ≤ b.toNat ∧ b.toNat ≤ 57 := by
  intro m
  induction m using Nat.strongRecOn with
  | _ m ih =>
    intro b hb
    by_cases h : m < 10
    · rw [digs_lt h, List.mem_singleton] at hb
      subst hb
      rw [dig_toNat h]; omega
    · rw [digs_ge (by omega), List.mem_append, List.mem_singleton] at hb
      rcases hb with hb | rfl
      · exact ih (m / 10) (by omega) b hb
      · rw [dig_toNat (by omega)]; omega
theorem digs_ne : ∀ (m : Nat), digs m ≠ [] := by
  intro m
  by_cases h : m < 10
  · rw [digs_lt h]; simp
  · rw [digs_ge (by omega)]; simp
theorem digF_digs (R : List UInt8) : ∀ (m : Nat), m ≤ 4611686018427387904 → digF 0 (digs m ++ R) = digF m R := by
  intro m
  induction m using Nat.strongRecOn generalizing R with
  | _ m ih =>
    intro hm
    by_cases h : m < 10
    · rw [digs_lt h]
      show (if fitD 0 _ then _ else _) = _
      rw [if_pos (by unfold fitD; rw [dig_toNat h]; omega), dig_toNat h]
      congr 1; omega
    · rw [digs_ge (by omega), List.append_assoc, ih (m / 10) (by omega) _ (by omega)]
      show (if fitD _ _ then _ else _) = _
      rw [if_pos (by unfold fitD; rw [dig_toNat (by omega)]; omega), dig_toNat (by omega)]
      congr 1; omega
theorem rdF_digs (R : List UInt8) : ∀ (m : Nat) (f : Nat), m ≤ 4611686018427387904 → rdF (f + (digs m).length) 0 (digs m ++ R) = rdF f m R := by
  intro m
  induction m using Nat.strongRecOn generalizing R with
  | _ m ih =>
    intro f hm
    by_cases h : m < 10
    · rw [digs_lt h]
      show (if _ then (if _ then _ else _) else _) = _
      rw [if_pos (by rw [dig_toNat h]; omega), if_neg (by omega), dig_toNat h]
      congr 1; omega
    · rw [digs_ge (by omega), List.append_assoc, List.length_append, List.length_singleton, show f + ((digs (m / 10)).length + 1) = (f + 1) + (digs (m / 10)).length by omega, ih (m / 10) (by omega) _ (f + 1) (by omega)]
      show (if _ then (if _ then _ else _) else _) = _
      rw [if_pos (by rw [dig_toNat (by omega)]; omega), if_neg (by omega), dig_toNat (by omega)]
      congr 1; omega
theorem rdF_all (m : Nat) (hm : m ≤ 4611686018427387904) (R : List UInt8) (hR : R = [] ∨ ∃ S, R = 47 :: S) : rdF 19 0 (digs m ++ R) = (m, R.length) := by
  have hl : (digs m).length ≤ 19 := digs_len 18 m (by omega)
  have := rdF_digs R m (19 - (digs m).length) hm
  rw [show 19 - (digs m).length + (digs m).length = 19 by omega] at this
  rw [this]
  rcases hR with rfl | ⟨S, rfl⟩
  · cases 19 - (digs m).length <;> rfl
  · cases 19 - (digs m).length
    · rfl
    · show (if _ then _ else _) = _
      rw [if_neg (by decide)]; rfl
theorem num_digs (m : Nat) (hm : m ≤ 4611686018427387904) : numF (digs m) = m := by
  have h := digF_digs [] m hm
  rw [List.append_nil] at h
  unfold numF
  have h45 : (digs m).head? ≠ some 45 := by
    intro h
    have := digs_mem m 45 (List.mem_of_head? h)
    simp at this
  rw [if_neg h45, h]; rfl
theorem num_head (n : Int) (hn : n.natAbs ≤ 4611686018427387904) : numF (headT n) = n := by
  unfold headT
  by_cases h : n < 0
  · rw [if_pos h]
    have h2 := digF_digs [] n.natAbs hn
    rw [List.append_nil] at h2
    unfold numF
    rw [if_pos (show (45 :: digs n.natAbs).head? = some 45 from rfl)]
    show -((digF 0 (digs n.natAbs) : Nat) : Int) = n
    rw [h2]
    show -(n.natAbs : Int) = n
    omega
  · rw [if_neg h, num_digs _ hn]; omega
theorem head_47 (n : Int) : ∀ b ∈ headT n, b ≠ 47 := by
  intro b hb
  unfold headT at hb
  have hd : ∀ b ∈ digs n.natAbs, b ≠ 47 := fun b hb h => by
    have := digs_mem _ b hb
    rw [h] at this
    simp at this
  split at hb
  · rcases List.mem_cons.1 hb with rfl | hb
    · decide
    · exact hd b hb
  · exact hd b hb
/-- where the first slash stands -/
theorem cut_at47 {A B : List UInt8} (hA : ∀ b ∈ A, b ≠ 47) {i : Nat} (hi : i < (A ++ 47 :: B).length) (h : (A ++ 47 :: B).getD i 0 = 47) (hj : ∀ j, j < i → (A ++ 47 :: B).getD j 0 ≠ 47) : (A ++ 47 :: B).take i = A ∧ (A ++ 47 :: B).drop (i + 1) = B := by
  have e : i = A.length := by
    rcases Nat.lt_trichotomy i A.length with hl | hl | hl
    · exfalso
      rw [List.getD_eq_getElem?_getD, List.getElem?_append_left hl, List.getElem?_eq_getElem hl] at h
      exact hA _ (List.getElem_mem hl) (by simpa using h)
    · exact hl
    · exfalso
      refine hj A.length hl ?_
      rw [List.getD_eq_getElem?_getD, List.getElem?_append_right (Nat.le_refl _)]
      simp
  subst e
  refine ⟨by simp, ?_⟩
  rw [List.drop_append]
  simp
theorem not_cut {A : List UInt8} (hA : ∀ b ∈ A, b ≠ 47) {i : Nat} (hi : i < A.length) : A.getD i 0 ≠ 47 := by
  rw [List.getD_eq_getElem?_getD, List.getElem?_eq_getElem hi]
  exact hA _ (List.getElem_mem hi)
/-- the reference's word on a text -/
def rN0 (l : List UInt8) : Nat := (rdF 19 0 (l.drop (if l.head? = some 45 then 1 else 0))).1
def rAt (l : List UInt8) : Nat := l.length - (rdF 19 0 (l.drop (if l.head? = some 45 then 1 else 0))).2
def rNum (l : List UInt8) : Int := if l.head? = some 45 then -(rN0 l : Int) else rN0 l
def rDen (l : List UInt8) : Nat := if rAt l < l.length then (rdF 19 0 (l.drop (rAt l + 1))).1 else 1
theorem ref_reads (n : Int) (d : Nat) (hn : n.natAbs ≤ 4611686018427387904) (hd : d ≤ 4611686018427387904) : rNum (textT n d) = n ∧ rDen (textT n d) = d := by
  obtain ⟨R, hR, hT⟩ : ∃ R : List UInt8, (R = [] ∧ d = 1 ∨ R = 47 :: digs d ∧ d ≠ 1) ∧ textT n d = headT n ++ R := by
    unfold textT
    by_cases h : d = 1
    · exact ⟨[], .inl ⟨rfl, h⟩, by rw [if_pos h]; simp⟩
    · exact ⟨47 :: digs d, .inr ⟨rfl, h⟩, by rw [if_neg h]⟩
  have hR' : R = [] ∨ ∃ S, R = 47 :: S := by
    rcases hR with ⟨h, _⟩ | ⟨h, _⟩
    · exact .inl h
    · exact .inr ⟨_, h⟩
  have hall := rdF_all n.natAbs hn R hR'
  have hdr : ∀ X : List UInt8, X.length + R.length = (X ++ R).length := fun X => by simp
  have main : (textT n d).drop (if (textT n d).head? = some 45 then 1 else 0) = digs n.natAbs ++ R ∧ ((textT n d).head? = some 45 ↔ n < 0) := by
    rw [hT]
    unfold headT
    by_cases h : n < 0
    · rw [if_pos h]
      have e : ((45 :: digs n.natAbs) ++ R).head? = some 45 := rfl
      rw [if_pos e]
      exact ⟨rfl, fun _ => h, fun _ => e⟩
    · rw [if_neg h]
      have e : (digs n.natAbs ++ R).head? ≠ some 45 := by
        intro k
        obtain ⟨b, l, hb⟩ := List.exists_cons_of_ne_nil (digs_ne n.natAbs)
        rw [hb] at k
        have := digs_mem n.natAbs b (by rw [hb]; simp)
        simp at k
        rw [k] at this
        simp at this
      rw [if_neg e]
      exact ⟨rfl, fun k => absurd k e, fun k => absurd k h⟩
  have e1 : rN0 (textT n d) = n.natAbs := by unfold rN0; rw [main.1, hall]
  have e2 : rAt (textT n d) = (headT n).length := by unfold rAt; rw [main.1, hall, hT]; simp
  constructor
  · unfold rNum
    rw [e1]
    by_cases h : n < 0
    · rw [if_pos (main.2.2 h)]; omega
    · rw [if_neg (fun k => h (main.2.1 k))]; omega
  · unfold rDen
    rw [e2, hT]
    rcases hR with ⟨rfl, h⟩ | ⟨rfl, h⟩
    · rw [if_neg (by simp)]; exact h.symm
    · rw [if_pos (by simp)]
      have : (headT n ++ 47 :: digs d).drop ((headT n).length + 1) = digs d := by rw [List.drop_append]; simp
      rw [this]
      have := rdF_all d hd [] (.inl rfl)
      rw [List.append_nil] at this
      rw [this]
end Go.Proofs.Ytieabeodommbiaa

/- Reading fractions: Parse and ParseIn, walked. -/
namespace Go.Proofs.Ytieabeodommbiaa
open Go.RowKit
set_option maxRecDepth 100000
set_option linter.unusedVariables false

theorem str_ne {a b : List UInt8} (h : a ≠ b) : (a == b) = false := by simpa using h
set_option maxHeartbeats 6400000 in
theorem parse_w (l A B T : List UInt8) (n d : Int) (v : Bool)
    (hc : ∀ w : World, Calls Try.prog 72 #[strV l] w fun e w' => e = .returned (.tuple #[strV A, strV B]) ∧ Below w.heap.size w w')
    (h1 : ∀ w : World, Calls Try.prog 73 #[strV A] w fun e w' => e = .returned (.int .i64 n) ∧ w' = w)
    (h2 : ∀ w : World, Calls Try.prog 73 #[strV B] w fun e w' => e = .returned (.int .i64 d) ∧ w' = w)
    (h3 : ∀ w : World, Calls Try.prog 13 #[.agg #[.int .i64 n, .int .i64 d]] w fun e w' => e = .returned (.bool v) ∧ Below w.heap.size w w')
    (h4 : v = true → ∀ w : World, Calls Try.prog 30 #[.agg #[.int .i64 n, .int .i64 d]] w fun e w' => e = .returned (strV T) ∧ Below w.heap.size w w')
    (a b e : Int) (hr : Hid ((v = true ∧ T = l ∧ a = n ∧ b = d ∧ e = 0) ∨ ((v = false ∨ (v = true ∧ T ≠ l)) ∧ a = 0 ∧ b = 0 ∧ e = 5))) (W : World) :
    Calls Try.prog 60 #[strV l] W fun z W' => z = .returned (.tuple #[.agg #[.int .i64 a, .int .i64 b], .int .i64 e]) ∧ Below W.heap.size W W' := by
  have HC := Lib.hid hc
  have H1 := Lib.hid h1
  have H2 := Lib.hid h2
  have H3 := Lib.hid h3
  have H4 := Lib.hid h4
  clear hc h1 h2 h3 h4
  go_enter Try.func60, Try.ntmps60
  go_wp2_with fail
  refine (HC.out _).mono ?_
  rintro z w1 ⟨rfl, hb1⟩
  have k1 : Below (W.heap.size + 1) (W.alloc (.cells #[.int .i64 0, .int .i64 0] 25)) w1 := hb1.mono (by simp)
  clear hb1
  go_wp2_with fail
  refine (H1.out _).mono ?_
  rintro z w2 ⟨rfl, rfl⟩
  go_wp2_with fail
  refine (H2.out _).mono ?_
  rintro z w3 ⟨rfl, rfl⟩
  have hz : W.heap.size + 1 ≤ w3.heap.size := by have := k1.size; simpa using this
  have K1 := Lib.hid k1
  clear k1
  go_wp2_with fail
  refine (H3.out _).mono ?_
  rintro z w4 ⟨rfl, hb4⟩
  have hal : Below w3.heap.size w3 (w3.alloc (.cells #[.int .i64 n, .int .i64 d] 25)) := (Below.refl _ _).alloc (Nat.le_refl _) _
  have a0 : w4.cell? ⟨w3.heap.size, 0, none⟩ = some (.int .i64 n) := (hb4.cell (by simp)).trans (World.cell?_alloc_at _ _ _ _ rfl)
  have a1 : w4.cell? ⟨w3.heap.size, 1, none⟩ = some (.int .i64 d) := (hb4.cell (by simp)).trans (World.cell?_alloc_at _ _ _ _ rfl)
  have hz4 : w3.heap.size + 1 ≤ w4.heap.size := by have := hb4.size; simpa using this
  have K4 : Hid (Below (W.heap.size + 1) (W.alloc (.cells #[.int .i64 0, .int .i64 0] 25)) w4) := Lib.hid (K1.out.trans ((hal.trans (hb4.mono hal.size)).mono hz))
  clear hb4 hal K1
  rcases hr.out with ⟨rfl, rfl, rfl, rfl, rfl⟩ | ⟨hv, rfl, rfl, rfl⟩
  · have H5 := Lib.hid (H4.out rfl)
    clear H4 hr
    go_wp2_with fail
    refine (H5.out _).mono ?_
    rintro z w5 ⟨rfl, hb5⟩
    have b0 := (hb5.cell (p := ⟨w3.heap.size, 0, none⟩) (by show w3.heap.size < _; omega)).trans a0
    have b1 := (hb5.cell (p := ⟨w3.heap.size, 1, none⟩) (by show w3.heap.size < _; omega)).trans a1
    have K5 : Hid (Below (W.heap.size + 1) (W.alloc (.cells #[.int .i64 0, .int .i64 0] 25)) w5) := Lib.hid (K4.out.trans (hb5.mono (by have := K4.out.size; omega)))
    have r0 : w5.cell? ⟨W.heap.size, 0, none⟩ = some (.int .i64 0) := (K5.out.cell (by simp)).trans (World.cell?_alloc_at _ _ _ _ rfl)
    have r1 : w5.cell? ⟨W.heap.size, 1, none⟩ = some (.int .i64 0) := (K5.out.cell (by simp)).trans (World.cell?_alloc_at _ _ _ _ rfl)
    have p0 : w5.frozen? ⟨W.heap.size, 0, none⟩ = false := (K5.out.frozen (by simp)).trans (World.frozen?_alloc_at _ _ _ _ rfl)
    have p1 : w5.frozen? ⟨W.heap.size, 1, none⟩ = false := (K5.out.frozen (by simp)).trans (World.frozen?_alloc_at _ _ _ _ rfl)
    have KF : Hid (Below W.heap.size W w5) := Lib.hid (((Below.refl _ _).alloc (Nat.le_refl _) _).trans (K5.out.mono (by omega)))
    clear hb5 a0 a1
    go_wp2
    exact bodyPost_ret (v := .tuple #[.agg #[.int .i64 a, .int .i64 b], .int .i64 0]) (by simp [results, Try.results60, go_sem, r0, r1]) rfl ⟨rfl, (KF.out.setCell (Nat.le_refl _) _).setCell (Nat.le_refl _) _⟩
  · rcases hv with rfl | ⟨rfl, hT⟩
    · clear H4 hr
      have r0 : w4.cell? ⟨W.heap.size, 0, none⟩ = some (.int .i64 0) := (K4.out.cell (by simp)).trans (World.cell?_alloc_at _ _ _ _ rfl)
      have r1 : w4.cell? ⟨W.heap.size, 1, none⟩ = some (.int .i64 0) := (K4.out.cell (by simp)).trans (World.cell?_alloc_at _ _ _ _ rfl)
      have p0 : w4.frozen? ⟨W.heap.size, 0, none⟩ = false := (K4.out.frozen (by simp)).trans (World.frozen?_alloc_at _ _ _ _ rfl)
      have p1 : w4.frozen? ⟨W.heap.size, 1, none⟩ = false := (K4.out.frozen (by simp)).trans (World.frozen?_alloc_at _ _ _ _ rfl)
      have KF : Hid (Below W.heap.size W w4) := Lib.hid (((Below.refl _ _).alloc (Nat.le_refl _) _).trans (K4.out.mono (by omega)))
      clear a0 a1
      go_wp2
      exact bodyPost_ret (v := .tuple #[.agg #[.int .i64 0, .int .i64 0], .int .i64 5]) (by simp [results, Try.results60, go_sem, r0, r1]) rfl ⟨rfl, (KF.out.setCell (Nat.le_refl _) _).setCell (Nat.le_refl _) _⟩
    · have H5 := Lib.hid (H4.out rfl)
      have hne := str_ne hT
      have HNE := Lib.hid hne
      clear H4 hr hne hT
      go_wp2_with fail
      refine (H5.out _).mono ?_
      rintro z w5 ⟨rfl, hb5⟩
      have b0 := (hb5.cell (p := ⟨w3.heap.size, 0, none⟩) (by show w3.heap.size < _; omega)).trans a0
      have b1 := (hb5.cell (p := ⟨w3.heap.size, 1, none⟩) (by show w3.heap.size < _; omega)).trans a1
      have K5 : Hid (Below (W.heap.size + 1) (W.alloc (.cells #[.int .i64 0, .int .i64 0] 25)) w5) := Lib.hid (K4.out.trans (hb5.mono (by have := K4.out.size; omega)))
      have r0 : w5.cell? ⟨W.heap.size, 0, none⟩ = some (.int .i64 0) := (K5.out.cell (by simp)).trans (World.cell?_alloc_at _ _ _ _ rfl)
      have r1 : w5.cell? ⟨W.heap.size, 1, none⟩ = some (.int .i64 0) := (K5.out.cell (by simp)).trans (World.cell?_alloc_at _ _ _ _ rfl)
      have p0 : w5.frozen? ⟨W.heap.size, 0, none⟩ = false := (K5.out.frozen (by simp)).trans (World.frozen?_alloc_at _ _ _ _ rfl)
      have p1 : w5.frozen? ⟨W.heap.size, 1, none⟩ = false := (K5.out.frozen (by simp)).trans (World.frozen?_alloc_at _ _ _ _ rfl)
      have KF : Hid (Below W.heap.size W w5) := Lib.hid (((Below.refl _ _).alloc (Nat.le_refl _) _).trans (K5.out.mono (by omega)))
      clear hb5 a0 a1
      have hne := HNE.out
      go_wp2
      exact bodyPost_ret (v := .tuple #[.agg #[.int .i64 0, .int .i64 0], .int .i64 5]) (by simp [results, Try.results60, go_sem, r0, r1]) rfl ⟨rfl, (KF.out.setCell (Nat.le_refl _) _).setCell (Nat.le_refl _) _⟩
set_option maxHeartbeats 1600000 in
theorem parsed_w (l : List UInt8) (a b e : Int) (h : ∀ w : World, Calls Try.prog 60 #[strV l] w fun z w' => z = .returned (.tuple #[.agg #[.int .i64 a, .int .i64 b], .int .i64 e]) ∧ Below w.heap.size w w') (W : World) :
    Calls Try.prog 33 #[strV l] W fun z W' => z = .returned (.agg #[.int .i64 a, .int .i64 b, .int .i64 e]) ∧ Below W.heap.size W W' := by
  have H := Lib.hid h
  clear h
  go_enter Try.func33, Try.ntmps33
  go_wp2_with fail
  refine (H.out _).mono ?_
  rintro z w5 ⟨rfl, hb⟩
  have r0 : w5.cell? ⟨W.heap.size, 0, none⟩ = some (.int .i64 0) := (hb.cell (by simp)).trans (World.cell?_alloc_at _ _ _ _ rfl)
  have r1 : w5.cell? ⟨W.heap.size, 1, none⟩ = some (.int .i64 0) := (hb.cell (by simp)).trans (World.cell?_alloc_at _ _ _ _ rfl)
  have r2 : w5.cell? ⟨W.heap.size, 2, none⟩ = some (.int .i64 0) := (hb.cell (by simp)).trans (World.cell?_alloc_at _ _ _ _ rfl)
  have p0 : w5.frozen? ⟨W.heap.size, 0, none⟩ = false := (hb.frozen (by simp)).trans (World.frozen?_alloc_at _ _ _ _ rfl)
  have p1 : w5.frozen? ⟨W.heap.size, 1, none⟩ = false := (hb.frozen (by simp)).trans (World.frozen?_alloc_at _ _ _ _ rfl)
  have p2 : w5.frozen? ⟨W.heap.size, 2, none⟩ = false := (hb.frozen (by simp)).trans (World.frozen?_alloc_at _ _ _ _ rfl)
  have hz : W.heap.size + 1 ≤ w5.heap.size := by have := hb.size; simpa using this
  have KF : Hid (Below W.heap.size W w5) := Lib.hid (((Below.refl _ _).alloc (Nat.le_refl _) _).trans (hb.mono (by simp)))
  clear hb
  have f0 : ∀ o, (w5.alloc o).frozen? ⟨W.heap.size, 0, none⟩ = false := fun o => (((Below.refl w5.heap.size w5).alloc (Nat.le_refl _) o).frozen (by show W.heap.size < _; omega)).trans p0
  have q0 : ∀ o, (w5.alloc o).cell? ⟨W.heap.size, 0, none⟩ = some (.int .i64 0) := fun o => by rw [World.cell?_alloc_past _ _ _ (by show W.heap.size < _; omega)]; exact r0
  have f1 : ∀ o, (w5.alloc o).frozen? ⟨W.heap.size, 1, none⟩ = false := fun o => (((Below.refl w5.heap.size w5).alloc (Nat.le_refl _) o).frozen (by show W.heap.size < _; omega)).trans p1
  have q1 : ∀ o, (w5.alloc o).cell? ⟨W.heap.size, 1, none⟩ = some (.int .i64 0) := fun o => by rw [World.cell?_alloc_past _ _ _ (by show W.heap.size < _; omega)]; exact r1
  have f2 : ∀ o, (w5.alloc o).frozen? ⟨W.heap.size, 2, none⟩ = false := fun o => (((Below.refl w5.heap.size w5).alloc (Nat.le_refl _) o).frozen (by show W.heap.size < _; omega)).trans p2
  have q2 : ∀ o, (w5.alloc o).cell? ⟨W.heap.size, 2, none⟩ = some (.int .i64 0) := fun o => by rw [World.cell?_alloc_past _ _ _ (by show W.heap.size < _; omega)]; exact r2
  go_wp2
  exact bodyPost_ret (v := .agg #[.int .i64 a, .int .i64 b, .int .i64 e]) (by simp [results, Try.results33, go_sem, q0, q1, q2]) rfl ⟨rfl, by
    first
      | exact (((KF.out.setCell (Nat.le_refl _) _).setCell (Nat.le_refl _) _).setCell (Nat.le_refl _) _).alloc (by simp; exact KF.out.size) _
      | exact (((KF.out.alloc KF.out.size _).setCell (Nat.le_refl _) _).setCell (Nat.le_refl _) _).setCell (Nat.le_refl _) _⟩
end Go.Proofs.Ytieabeodommbiaa
