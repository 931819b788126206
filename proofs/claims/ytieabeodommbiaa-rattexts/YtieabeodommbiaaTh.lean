/- Reading fractions: the program's cut and number. -/
import Derived.Test.YtieabeodommbiaaNt
import Derived.Laws.Strings3
import Derived.IntWalk
namespace Go.Proofs.Ytieabeodommbiaa
open Go.RowKit
set_option maxRecDepth 100000
set_option linter.unusedVariables false

theorem str9 : Try.prog.underlying 9 = some .string := by kernel_rfl
theorem idx_l (l : List UInt8) (i : Nat) (hi : i < l.length) (w : World) : (Instr.index 9 (strV l) (.int .i64 i)).run Try.prog w = .ok (.int .u8 ((l.getD i 0).toNat : Int)) w := by
  rw [run_index_string w 9 _ _ _ str9]
  have h : (0 : Int) ≤ (i : Int) ∧ (i : Int) < ((⟨l.toArray⟩ : ByteArray).size : Int) := by
    refine ⟨by omega, ?_⟩
    show (i : Int) < (l.toArray.size : Int)
    rw [List.size_toArray]; omega
  rw [dif_pos h]
  congr 4
  show (l.toArray[i]'_) = _
  simp [List.getD, hi]
theorem ext_l (l : List UInt8) (a b : Nat) : (⟨l.toArray⟩ : ByteArray).extract a b = ⟨((l.take b).drop a).toArray⟩ := by
  apply ByteArray.ext
  rw [ByteArray.data_extract]
  simp [List.extract_eq_drop_take']
theorem slh_l (l : List UInt8) (i : Nat) (hi : i ≤ l.length) (w : World) : (Instr.slice 9 (strV l) none (some (.int .i64 i)) none).run Try.prog w = .ok (strV (l.take i)) w := by
  rw [run_slice_string_h w 9 _ str9 _ _ (by omega) (by show (i : Int) ≤ (l.toArray.size : Int); rw [List.size_toArray]; omega), Int.toNat_natCast, ext_l]
  rfl
theorem sll_l (l : List UInt8) (i : Nat) (hi : i ≤ l.length) (w : World) : (Instr.slice 9 (strV l) (some (.int .i64 i)) none none).run Try.prog w = .ok (strV (l.drop i)) w := by
  rw [run_slice_string_l w 9 _ str9 _ _ (by omega) (by show (i : Int) ≤ (l.toArray.size : Int); rw [List.size_toArray]; omega), Int.toNat_natCast, ext_l]
  have : (⟨l.toArray⟩ : ByteArray).size = l.length := by show l.toArray.size = _; simp
  rw [this, List.take_length]
/-- what cut answers -/
def CutPost (l : List UInt8) (w : World) (e : Ending) (w' : World) : Prop :=
  (∃ i, i < l.length ∧ l.getD i 0 = 47 ∧ (∀ j, j < i → l.getD j 0 ≠ 47) ∧ e = .returned (.tuple #[strV (l.take i), strV (l.drop (i + 1))]) ∧ ∃ n, w' = w.drewN n) ∨
  ((∀ j, j < l.length → l.getD j 0 ≠ 47) ∧ e = .returned (.tuple #[strV l, strV [49]]) ∧ ∃ n, w' = w.drewN n)
set_option maxHeartbeats 1600000 in
theorem cutS_c (l : List UInt8) (hl : l.length ≤ 1000) (W : World) : Calls Try.prog 72 #[strV l] W (CutPost l W) := by
  have HI := Lib.hid (idx_l l)
  have HH := Lib.hid (slh_l l)
  have HL := Lib.hid (sll_l l)
  go_enter Try.func72, Try.ntmps72
  go_wp2
  go_loopw [7] (fun i wr => ∃ k : Nat, k ≤ l.length ∧ i = .int .i64 k ∧ Hid (∀ j, j < k → l.getD j 0 ≠ 47) ∧ wr = W) (fun i _ => l.length - (intOf i).toNat)
  case atStart => exact ⟨0, Nat.zero_le _, rfl, fun j hj => by omega, rfl⟩
  case round =>
    obtain ⟨k, hk, rfl, HJ, rfl⟩ := hrel
    by_cases hlt : k < l.length
    · have hx := HI.out k hlt
      have hd : decide ((k : Int) < (l.length : Int)) = true := by simp; omega
      cases hc : ((((l.getD k 0).toNat : Nat) : Int) == 47)
      · have HN : Hid (l.getD k 0 ≠ 47) := Lib.hid (fun h => by rw [h] at hc; cases hc)
        generalize (((l.getD k 0).toNat : Nat) : Int) = x at *
        go_wp2
        go_roundw
        case rel => exact ⟨k + 1, by omega, by go_num, fun j hj => by rcases Nat.lt_succ_iff_lt_or_eq.1 hj with h | rfl; exact HJ.out j h; exact HN.out, trivial⟩
        case measure => simp [intOf]; omega
      · have HN : Hid (l.getD k 0 = 47) := Lib.hid (by
          have h : (l.getD k 0).toNat = 47 := by have := eq_of_beq hc; omega
          exact UInt8.toNat_inj.1 h)
        have h1 := HH.out k (by omega)
        have h2 : ∀ w : World, (Instr.slice 9 (strV l) (some (.int .i64 ((k : Int) + 1))) none none).run Try.prog w = .ok (strV (l.drop (k + 1))) w := fun w => by have := HL.out (k + 1) hlt w; rwa [Int.natCast_add] at this
        have hwr : IntKind.i64.wrap ((k : Int) + 1) = (k : Int) + 1 := IntWalk.i64_in _ (by omega)
        generalize (((l.getD k 0).toNat : Nat) : Int) = x at *
        go_wp2
        go_quiet (fail)
        go_wp2
        go_ret2
        exact .inl ⟨k, hlt, HN.out, HJ.out, rfl, _, rfl⟩
    · obtain rfl : k = l.length := by omega
      go_wp2
      go_ret2
      exact .inr ⟨HJ.out, rfl, 0, rfl⟩
end Go.Proofs.Ytieabeodommbiaa

/- Reading fractions: the program's number. -/
namespace Go.Proofs.Ytieabeodommbiaa
open Go.RowKit
set_option maxRecDepth 100000
set_option linter.unusedVariables false

/-- a digit may follow -/
def fitD (n : Nat) (b : UInt8) : Prop := 48 ≤ b.toNat ∧ b.toNat ≤ 57 ∧ n ≤ (4611686018427387904 - (b.toNat - 48)) / 10
instance (n : Nat) (b : UInt8) : Decidable (fitD n b) := inferInstanceAs (Decidable (_ ∧ _ ∧ _))
/-- the number that digits say behind n -/
def digF : Nat → List UInt8 → Nat
  | n, [] => n
  | n, b :: l => if fitD n b then digF (10 * n + (b.toNat - 48)) l else 0
theorem digF_bd : ∀ (l : List UInt8) (n : Nat), n ≤ 4611686018427387904 → digF n l ≤ 4611686018427387904
  | [], n, h => h
  | b :: l, n, h => by
    unfold digF
    split
    · rename_i hf
      refine digF_bd l _ ?_
      unfold fitD at hf
      omega
    · omega
def numF (l : List UInt8) : Int := if l.head? = some 45 then -(digF 0 l.tail : Int) else digF 0 l
theorem numF_bd (l : List UInt8) : -4611686018427387904 ≤ numF l ∧ numF l ≤ 4611686018427387904 := by
  have h1 := digF_bd l 0 (by omega)
  have h2 := digF_bd l.tail 0 (by omega)
  unfold numF
  split <;> omega
theorem drop_cons {l : List UInt8} {k : Nat} (h : k < l.length) : l.drop k = l.getD k 0 :: l.drop (k + 1) := by
  rw [List.drop_eq_getElem_cons h]
  simp [List.getD, h]
theorem digF_step {n k : Nat} {l : List UInt8} (h : k < l.length) : digF n (l.drop k) = if fitD n (l.getD k 0) then digF (10 * n + ((l.getD k 0).toNat - 48)) (l.drop (k + 1)) else 0 := by
  rw [drop_cons h]; rfl
set_option maxHeartbeats 6400000 in
/-- the loop: the digits are D, whether there was a sign or not -/
theorem numS_w (l D : List UInt8) (neg : Bool) (hl : l.length ≤ 1000) (hs : Hid (if neg then l = 45 :: D else l = D ∧ l.head? ≠ some 45)) (W : World) : Calls Try.prog 73 #[strV l] W fun e W' => e = .returned (.int .i64 (numF l)) ∧ W' = W := by
  have HI := Lib.hid (idx_l D)
  have hD : D.length ≤ 1000 := by
    have := hs.out
    cases neg
    · rw [if_neg (by simp)] at this; rw [← this.1]; exact hl
    · rw [if_pos rfl] at this; rw [this] at hl; simp at hl; omega
  cases neg
  · have hs' := hs.out
    rw [if_neg (by simp)] at hs'
    obtain ⟨rfl, h45⟩ := hs'
    have HV : Hid (numF l = digF 0 l) := Lib.hid (by unfold numF; rw [if_neg h45])
    have HX := Lib.hid h45
    clear hs h45
    rcases l with _ | ⟨b, l⟩
    · go_enter Try.func73, Try.ntmps73
      go_wp2
      go_loopw [4, 19] (fun nv i wr => nv = .int .i64 0 ∧ i = .int .i64 0 ∧ wr = W) (fun _ i _ => 0)
      case atStart => exact ⟨rfl, rfl, rfl⟩
      case round =>
        obtain ⟨rfl, rfl, rfl⟩ := hrel
        go_wp2
        go_ret
        exact ⟨by rw [HV.out]; rfl, rfl⟩
    · have hb : (((b.toNat : Nat) : Int) == 45) = false := by
        refine beq_false_of_ne (fun h => HX.out ?_)
        have : b.toNat = 45 := by omega
        rw [show b = 45 from UInt8.toNat_inj.1 this]; rfl
      have h0 : ∀ w : World, (Instr.index 9 (strV (b :: l)) (.int .i64 0)).run Try.prog w = .ok (.int .u8 (b.toNat : Int)) w := fun w => HI.out 0 (by simp) w
      go_enter Try.func73, Try.ntmps73
      go_wp2
      clear h0 hb
      go_loopw [4, 19] (fun nv i wr => ∃ n k : Nat, k ≤ (b :: l).length ∧ nv = .int .i64 n ∧ i = .int .i64 k ∧ n ≤ 4611686018427387904 ∧ Hid (digF 0 (b :: l) = digF n ((b :: l).drop k)) ∧ wr = W) (fun _ i _ => (b :: l).length - (intOf i).toNat)
      case atStart => exact ⟨0, 0, Nat.zero_le _, rfl, rfl, by omega, rfl, rfl⟩
      case round =>
        obtain ⟨n, k, hk, rfl, rfl, hn, HD, rfl⟩ := hrel
        by_cases hlt : k < (b :: l).length
        · have hx := HI.out k hlt
          have hd : decide ((k : Int) < ((l.length : Int) + 1)) = true := by simp at hlt ⊢; omega
          have HS := Lib.hid (HD.out.trans (digF_step (n := n) hlt))
          have hxb : (((b :: l).getD k 0).toNat : Int) ≤ 255 := by have := ((b :: l).getD k 0).toNat_lt; omega
          have hxc : 0 ≤ (((b :: l).getD k 0).toNat : Int) := by omega
          generalize hc : (b :: l).getD k 0 = c at *
          clear hc
          obtain ⟨x, hxx⟩ : ∃ x : Nat, Hid (c.toNat = x) := ⟨_, rfl⟩
          rw [hxx.out] at hx hxb hxc
          by_cases h1 : x < 48
          · have HE : Hid (digF 0 (b :: l) = 0) := Lib.hid (by rw [HS.out, if_neg (by unfold fitD; rw [hxx.out]; omega)])
            have d1 : decide ((x : Int) - 48 < 0) = true := by simp; omega
            clear HS
            go_wp2
            go_ret
            exact ⟨by rw [HV.out, HE.out]; rfl, rfl⟩
          · have d1 : decide ((x : Int) - 48 < 0) = false := by simp; omega
            by_cases h2 : 57 < x
            · have HE : Hid (digF 0 (b :: l) = 0) := Lib.hid (by rw [HS.out, if_neg (by unfold fitD; rw [hxx.out]; omega)])
              have d2 : decide (9 < (x : Int) - 48) = true := by simp; omega
              clear HS
              go_wp2
              go_ret
              exact ⟨by rw [HV.out, HE.out]; rfl, rfl⟩
            · have d2 : decide (9 < (x : Int) - 48) = false := by simp; omega
              by_cases h3 : n ≤ (4611686018427387904 - (x - 48)) / 10
              · have d3 : decide ((4611686018427387904 - ((x : Int) - 48)) / 10 < n) = false := by simp; omega
                have HT : Hid (digF 0 (b :: l) = digF (10 * n + (x - 48)) ((b :: l).drop (k + 1))) := Lib.hid (by rw [HS.out, if_pos (by unfold fitD; rw [hxx.out]; omega), hxx.out])
                have hn2 : (n : Int) ≤ 461168601842738790 := by omega
                have hn3 : 0 ≤ (n : Int) := by omega
                have hn4 : 10 * n + (x - 48) ≤ 4611686018427387904 := by omega
                have hn5 : ((10 * n + (x - 48) : Nat) : Int) = 10 * (n : Int) + ((x : Int) - 48) := by omega
                have H5 := Lib.hid hn5
                clear HS hn5
                go_wp2
                go_roundw
                case rel => exact ⟨10 * n + (x - 48), k + 1, by omega, by rw [H5.out], by go_num, hn4, HT, trivial⟩
                case measure => simp [intOf] at hlt ⊢; omega
              · have d3 : decide ((4611686018427387904 - ((x : Int) - 48)) / 10 < n) = true := by simp; omega
                have HE : Hid (digF 0 (b :: l) = 0) := Lib.hid (by rw [HS.out, if_neg (by unfold fitD; rw [hxx.out]; omega)])
                clear HS
                go_wp2
                go_ret
                exact ⟨by rw [HV.out, HE.out]; rfl, rfl⟩
        · obtain rfl : k = (b :: l).length := by omega
          have hd : decide (((b :: l).length : Int) < ((l.length : Int) + 1)) = false := by simp
          go_wp2
          go_ret
          exact ⟨by rw [HV.out, HD.out, List.drop_length]; rfl, rfl⟩
  · have hs' := hs.out
    rw [if_pos rfl] at hs'
    subst hs'
    have HV : Hid (numF (45 :: D) = -(digF 0 D : Int)) := Lib.hid (by unfold numF; rw [if_pos (show (45 :: D).head? = some 45 from rfl)]; rfl)
    clear hs
    have h0 : ∀ w : World, (Instr.index 9 (strV (45 :: D)) (.int .i64 0)).run Try.prog w = .ok (.int .u8 45) w := fun w => idx_l (45 :: D) 0 (by simp) w
    have h1 : ∀ w : World, (Instr.slice 9 (strV (45 :: D)) (some (.int .i64 1)) none none).run Try.prog w = .ok (strV D) w := fun w => sll_l (45 :: D) 1 (by simp) w
    go_enter Try.func73, Try.ntmps73
    go_wp2
    clear h0 h1
    go_loopw [4, 19] (fun nv i wr => ∃ n k : Nat, k ≤ D.length ∧ nv = .int .i64 n ∧ i = .int .i64 k ∧ n ≤ 4611686018427387904 ∧ Hid (digF 0 D = digF n (D.drop k)) ∧ wr = W) (fun _ i _ => D.length - (intOf i).toNat)
    case atStart => exact ⟨0, 0, Nat.zero_le _, rfl, rfl, by omega, rfl, rfl⟩
    case round =>
      obtain ⟨n, k, hk, rfl, rfl, hn, HD, rfl⟩ := hrel
      by_cases hlt : k < D.length
      · have hx := HI.out k hlt
        have hd : decide ((k : Int) < (D.length : Int)) = true := by simp at hlt ⊢; omega
        have HS := Lib.hid (HD.out.trans (digF_step (n := n) hlt))
        have hxb : ((D.getD k 0).toNat : Int) ≤ 255 := by have := (D.getD k 0).toNat_lt; omega
        have hxc : 0 ≤ ((D.getD k 0).toNat : Int) := by omega
        generalize hc : D.getD k 0 = c at *
        clear hc
        obtain ⟨x, hxx⟩ : ∃ x : Nat, Hid (c.toNat = x) := ⟨_, rfl⟩
        rw [hxx.out] at hx hxb hxc
        by_cases h1 : x < 48
        · have HE : Hid (digF 0 D = 0) := Lib.hid (by rw [HS.out, if_neg (by unfold fitD; rw [hxx.out]; omega)])
          have d1 : decide ((x : Int) - 48 < 0) = true := by simp; omega
          clear HS
          go_wp2
          go_ret
          exact ⟨by rw [HV.out, HE.out]; rfl, rfl⟩
        · have d1 : decide ((x : Int) - 48 < 0) = false := by simp; omega
          by_cases h2 : 57 < x
          · have HE : Hid (digF 0 D = 0) := Lib.hid (by rw [HS.out, if_neg (by unfold fitD; rw [hxx.out]; omega)])
            have d2 : decide (9 < (x : Int) - 48) = true := by simp; omega
            clear HS
            go_wp2
            go_ret
            exact ⟨by rw [HV.out, HE.out]; rfl, rfl⟩
          · have d2 : decide (9 < (x : Int) - 48) = false := by simp; omega
            by_cases h3 : n ≤ (4611686018427387904 - (x - 48)) / 10
            · have d3 : decide ((4611686018427387904 - ((x : Int) - 48)) / 10 < n) = false := by simp; omega
              have HT : Hid (digF 0 D = digF (10 * n + (x - 48)) (D.drop (k + 1))) := Lib.hid (by rw [HS.out, if_pos (by unfold fitD; rw [hxx.out]; omega), hxx.out])
              have hn2 : (n : Int) ≤ 461168601842738790 := by omega
              have hn3 : 0 ≤ (n : Int) := by omega
              have hn4 : 10 * n + (x - 48) ≤ 4611686018427387904 := by omega
              have hn5 : ((10 * n + (x - 48) : Nat) : Int) = 10 * (n : Int) + ((x : Int) - 48) := by omega
              have H5 := Lib.hid hn5
              clear HS hn5
              go_wp2
              go_roundw
              case rel => exact ⟨10 * n + (x - 48), k + 1, by omega, by rw [H5.out], by go_num, hn4, HT, trivial⟩
              case measure => simp [intOf] at hlt ⊢; omega
            · have d3 : decide ((4611686018427387904 - ((x : Int) - 48)) / 10 < n) = true := by simp; omega
              have HE : Hid (digF 0 D = 0) := Lib.hid (by rw [HS.out, if_neg (by unfold fitD; rw [hxx.out]; omega)])
              clear HS
              go_wp2
              go_ret
              exact ⟨by rw [HV.out, HE.out]; rfl, rfl⟩
      · obtain rfl : k = D.length := by omega
        have hd : decide ((D.length : Int) < (D.length : Int)) = false := by simp
        go_wp2
        go_ret
        exact ⟨by rw [HV.out, HD.out, List.drop_length]; rfl, rfl⟩
theorem num_c (l : List UInt8) (hl : l.length ≤ 1000) (W : World) : Calls Try.prog 73 #[strV l] W fun e W' => e = .returned (.int .i64 (numF l)) ∧ W' = W := by
  by_cases h : l.head? = some 45
  · rcases l with _ | ⟨b, D⟩
    · cases h
    · simp at h
      subst h
      exact numS_w _ D true hl (by rw [if_pos rfl]; rfl) W
  · exact numS_w l l false hl (by rw [if_neg (by simp)]; exact ⟨rfl, h⟩) W
end Go.Proofs.Ytieabeodommbiaa

/- Texts that are changed: what the law's edited answers. -/
namespace Go.Proofs.Ytieabeodommbiaa
open Go.RowKit
set_option maxRecDepth 100000
set_option linter.unusedVariables false

/-- some string that is at most a byte longer -/
def EdPost (l : List UInt8) (w : World) (e : Ending) (w' : World) : Prop := ∃ m : List UInt8, m.length ≤ l.length + 1 ∧ e = .returned (strV m) ∧ Below w.heap.size w w'
theorem catL (l m : List UInt8) (hl : l.length ≤ 1000) (hm : m.length ≤ 1000) (w : World) : (Op.stringOp .add ⟨l.toArray⟩ ⟨m.toArray⟩).run Try.prog w = .ok (strV (l ++ m)) w := run_string_add_lists (P := Try.prog) (w := w) l m (by omega) (by omega)
set_option maxHeartbeats 3200000 in
theorem edited_w (l : List UInt8) (z0 z1 z2 : Int) (hl : l.length ≤ 500) (h0 : 0 ≤ z0 ∧ z0 ≤ 255) (h1 : 0 ≤ z1 ∧ z1 ≤ 255) (h2 : 0 ≤ z2 ∧ z2 ≤ 255) (i : Nat) (hi : Hid (z1 % ((l.length : Int) + 1) = i)) (hil : i ≤ l.length) (W : World) :
    Calls Try.prog 34 #[strV l, .agg #[.int .u8 z0, .int .u8 z1, .int .u8 z2]] W (EdPost l W) := by
  obtain ⟨b, hb⟩ : ∃ b : UInt8, Hid (((b.toNat : Nat) : Int) = z2) := ⟨UInt8.ofNat z2.toNat, by
    show ((_ : Nat) : Int) = z2
    rw [UInt8.toNat_ofNat_of_lt' (by show _ < 256; omega)]; omega⟩
  have HCv : Hid ((convert 76 9 (.slice (some ⟨W.heap.size + 1, 0, none⟩) 1 1)).run Try.prog ((W.alloc (.cells #[.int .u8 z0, .int .u8 z1, .int .u8 z2] 41)).alloc (.cells #[.int .u8 z2] 5)) = .ok (strV [b]) ((W.alloc (.cells #[.int .u8 z0, .int .u8 z1, .int .u8 z2] 41)).alloc (.cells #[.int .u8 z2] 5))) := Lib.hid (by
    refine conv_row (l := [b]) 1 (fun j hj => ?_)
    simp at hj
    subst hj
    rw [show (0 + 0 : Nat) = 0 from rfl, World.cell?_alloc_at _ _ _ _ (by simp)]
    simp [hb.out])
  have HB : Hid (Below W.heap.size W ((W.alloc (.cells #[.int .u8 z0, .int .u8 z1, .int .u8 z2] 41)).alloc (.cells #[.int .u8 z2] 5))) := Lib.hid (((Below.refl _ _).alloc (Nat.le_refl _) _).alloc (by simp) _)
  have hm0 : 0 ≤ (l.length : Int) + 1 := by omega
  have hconv := HCv.out
  have s1 := Lib.hid (slh_l l i hil)
  have s2 := Lib.hid (sll_l l i hil)
  have c1 := Lib.hid (catL (l.take i) [b] (by rw [List.length_take]; omega) (by simp))
  have c2 := Lib.hid (catL (l.take i ++ [b]) (l.drop i) (by simp; omega) (by simp; omega))
  have hwr : IntKind.i64.wrap ((i : Int) + 1) = (i : Int) + 1 := IntWalk.i64_in _ (by omega)
  have e1 : Hid ((l.take i ++ b :: l.drop i).length ≤ l.length + 1) := Lib.hid (by simp; omega)
  have e2 : Hid ((l.take i ++ b :: l.drop (i + 1)).length ≤ l.length + 1) := Lib.hid (by simp; omega)
  have e3 : Hid ((l.take i ++ l.drop (i + 1)).length ≤ l.length + 1) := Lib.hid (by simp; omega)
  have c3 := Lib.hid (catL (l.take i ++ [b]) (l.drop (i + 1)) (by simp; omega) (by simp; omega))
  have c4 := Lib.hid (catL (l.take i) (l.drop (i + 1)) (by simp; omega) (by simp; omega))
  have himod := hi.out
  cases k0 : (z0 % 3 == 0)
  · by_cases k1 : i = l.length
    · have HK := Lib.hid k1
      have k1' : ((i : Int) == (l.length : Int)) = true := by simp [k1]
      have t1 := s1.out
      have t2 := s2.out
      have t3 := c1.out
      have t4 := c2.out
      clear k1
      go_enter Try.func34, Try.ntmps34
      go_wp2
      go_quiet (fail)
      go_wp2
      go_ret
      exact ⟨_, e1.out, rfl, nbelow_drewN HB.out _⟩
    · have k1' : ((i : Int) == (l.length : Int)) = false := by simp; omega
      have s3 : Hid (∀ w : World, (Instr.slice 9 (strV l) (some (.int .i64 ((i : Int) + 1))) none none).run Try.prog w = .ok (strV (l.drop (i + 1))) w) := Lib.hid (fun w => by have := sll_l l (i + 1) (by omega) w; rwa [Int.natCast_add] at this)
      cases k2 : (z0 % 3 == 1)
      · have t1 := s1.out
        have t2 := s3.out
        have t4 := c4.out
        go_enter Try.func34, Try.ntmps34
        go_wp2
        go_quiet (fail)
        go_wp2
        go_ret
        exact ⟨_, e3.out, rfl, nbelow_drewN HB.out _⟩
      · have t1 := s1.out
        have t2 := s3.out
        have t3 := c1.out
        have t4 := c3.out
        go_enter Try.func34, Try.ntmps34
        go_wp2
        go_quiet (fail)
        go_wp2
        go_ret
        exact ⟨_, e2.out, rfl, nbelow_drewN HB.out _⟩
  · have t1 := s1.out
    have t2 := s2.out
    have t3 := c1.out
    have t4 := c2.out
    go_enter Try.func34, Try.ntmps34
    go_wp2
    go_quiet (fail)
    go_wp2
    go_ret
    exact ⟨_, e1.out, rfl, nbelow_drewN HB.out _⟩
theorem edited_c (l : List UInt8) (z0 z1 z2 : Int) (hl : l.length ≤ 500) (h0 : 0 ≤ z0 ∧ z0 ≤ 255) (h1 : 0 ≤ z1 ∧ z1 ≤ 255) (h2 : 0 ≤ z2 ∧ z2 ≤ 255) (W : World) :
    Calls Try.prog 34 #[strV l, .agg #[.int .u8 z0, .int .u8 z1, .int .u8 z2]] W (EdPost l W) := by
  have hp : 0 < (l.length : Int) + 1 := by omega
  have := Int.emod_nonneg z1 (show (l.length : Int) + 1 ≠ 0 by omega)
  have := Int.emod_lt_of_pos z1 hp
  exact edited_w l z0 z1 z2 hl h0 h1 h2 (z1 % ((l.length : Int) + 1)).toNat (Lib.hid (by omega)) (by omega) W
end Go.Proofs.Ytieabeodommbiaa
