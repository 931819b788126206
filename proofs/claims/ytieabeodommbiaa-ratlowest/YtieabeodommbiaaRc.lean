/- Contracts of package rat, walked: divide. -/
import Derived.Test.YtieabeodommbiaaRd
import Derived.RegionTactic
namespace Go.Proofs.Ytieabeodommbiaa
open Go.RowKit
set_option maxHeartbeats 1000000

theorem div_even (h l d : Int) (a1 : 0 ≤ h ∧ h < 18446744073709551616) (a2 : 0 ≤ l ∧ l < 18446744073709551616) (a3 : 1 ≤ d) (c : h % d = 0) :
    h / d = hiW ((h * 18446744073709551616 + l) / d) ∧ l / d = loW ((h * 18446744073709551616 + l) / d) ∧ l % d = (h * 18446744073709551616 + l) % d := by
  obtain ⟨q, rfl⟩ : ∃ q, h = d * q := ⟨h / d, by have := Int.mul_ediv_add_emod h d; omega⟩
  have e1 : (d * q * 18446744073709551616 + l) / d = q * 18446744073709551616 + l / d := by
    rw [Int.mul_assoc, Int.add_comm, Int.add_mul_ediv_left _ _ (by omega)]; omega
  have e2 : (d * q * 18446744073709551616 + l) % d = l % d := by
    rw [Int.mul_assoc, Int.add_comm, Int.add_mul_emod_self_left]
  have e3 : d * q / d = q := Int.mul_ediv_cancel_left _ (by omega)
  have b0 : 0 ≤ l / d := Int.ediv_nonneg a2.1 (by omega)
  have b1 : l / d ≤ l := Int.ediv_le_self d a2.1
  rw [e1, e2, e3]
  unfold hiW loW
  omega

theorem below_more {B : Nat} {a w : World} (h : Below B a w) (n : Nat) : Below B a (w.drewN n) := ⟨h.os, h.tape, h.output, h.size, h.block⟩

theorem set_pair (w : World) (A : Obj) (x y v : Value) (t : TypeId) (n : Nat) :
    (((w.alloc A).alloc (.cells #[x, y] t)).drewN (n + 1)).setCell ⟨w.heap.size + 1, 1, none⟩ v = ((w.alloc A).alloc (.cells #[x, v] t)).drewN (n + 1) := by
  show (((w.alloc A).alloc (.cells #[x, y] t)).setCell ⟨w.heap.size + 1, 1, none⟩ v).drewN (n + 1) = _
  rw [World.setCell_alloc_at _ _ _ _ _ (by simp)]
  rfl

theorem divide_c (h l d : Int) (a1 : 0 ≤ h ∧ h < 18446744073709551616) (a2 : 0 ≤ l ∧ l < 18446744073709551616) (a3 : 1 ≤ d ∧ d ≤ 9223372036854775808) (w : World) :
    Calls Try.prog 65 #[.agg #[.int .u64 h, .int .u64 l], .int .u64 d] w fun e w' => e = .returned (.tuple #[.agg #[.int .u64 (hiW ((h * 18446744073709551616 + l) / d)), .int .u64 (loW ((h * 18446744073709551616 + l) / d))], .int .u64 ((h * 18446744073709551616 + l) % d)]) ∧ Below w.heap.size w w' := by
  have m0 : 0 ≤ h % d := Int.emod_nonneg h (by omega)
  have m1 : h % d < d := Int.emod_lt_of_pos h (by omega)
  by_cases c : h % d = 0
  · have E := Lib.hid (div_even h l d a1 a2 a3.1 c)
    have c1 : (h % d == 0) = true := by simp [c]
    clear c
    go_enter Try.func65, Try.ntmps65
    go_wp2
    go_region
    go_wp2
    go_region
    go_wp2
    refine bodyPost_ret (v := .tuple #[.agg #[.int .u64 (hiW ((h * 18446744073709551616 + l) / d)), .int .u64 (loW ((h * 18446744073709551616 + l) / d))], .int .u64 ((h * 18446744073709551616 + l) % d)]) ?_ rfl ⟨rfl, ?_⟩
    · simp [results, Try.results65, go_sem]
      exact ⟨⟨E.out.1, E.out.2.1⟩, E.out.2.2⟩
    · exact ((((Below.refl _ _).alloc (Nat.le_refl _) _).alloc (by simp) _).drew).drew
  · have c1 : (h % d == 0) = false := by simp [c]
    clear c
    go_enter Try.func65, Try.ntmps65
    go_wp2
    go_region
    go_wp2
    go_loopw [5, 6] (fun r i wr => ∃ (k n : Nat), k ≤ 64 ∧ i = .int .i64 (63 - k) ∧ r = .int .u64 (dR (h % d) l d k) ∧ wr = (((w.alloc (.cells #[.int .u64 h, .int .u64 l] 67)).alloc (.cells #[.int .u64 (h / d), .int .u64 (dL (h % d) l d k)] 67)).drewN n)) (fun _ i _ => (intOf i + 1).toNat)
    case atStart => exact ⟨0, 1, by omega, rfl, (by rw [(d_zero _ l d m0 m1 a2).1]), (by rw [(d_zero _ l d m0 m1 a2).2]; rfl)⟩
    case round =>
      obtain ⟨k, n, hk, rfl, rfl, rfl⟩ := hrel
      obtain ⟨hR0, hR1⟩ := dR_bd (h % d) l d k a3.1
      by_cases hk2 : k < 64
      · have i0 : (0 : Int) ≤ 63 - k := by omega
        have i1 : (63 - k : Int) ≤ 63 := by omega
        obtain ⟨s1, s2⟩ := d_step (h % d) l d k hk2 a3.1 m0 a2.1
        obtain ⟨b0, b1⟩ := bitAt_01 l k
        have hor : bits BinOp.or IntKind.u64 (dR (h % d) l d k * 2) (bits BinOp.and IntKind.u64 (l / 2 ^ (63 - k)) 1) = 2 * dR (h % d) l d k + bitAt l k := by
          have z0 : 0 ≤ l / 2 ^ (63 - k) := Int.ediv_nonneg a2.1 (Int.le_of_lt (Int.pow_pos (by omega)))
          have z1 : l / 2 ^ (63 - k) ≤ l := Int.ediv_le_self _ a2.1
          rw [and_one_u64 _ z0 (by omega)]
          show bits BinOp.or IntKind.u64 (dR (h % d) l d k * 2) (bitAt l k) = _
          rw [or64 (dR (h % d) l d k * 2) (bitAt l k) 1 b0 (by omega) (dR (h % d) l d k) hR0 (by omega) (by omega)]
          omega
        have HO := Lib.hid hor
        have LO : Hid (bits BinOp.or IntKind.u64 (dL (h % d) l d k) (IntKind.u64.wrap (2 ^ (63 - k))) = dL (h % d) l d k + 2 ^ (63 - k)) := Lib.hid (by
          obtain ⟨q0, l0, l1⟩ := dL_bd (h % d) l d k hk a3.1 m0 m1 a2.1 a2.2
          have p0 : (0 : Int) < 2 ^ (63 - k) := Int.pow_pos (by omega)
          have p1 : (2 : Int) ^ (64 - k) = 2 ^ (63 - k) * 2 := by rw [show 64 - k = 63 - k + 1 by omega, Int.pow_succ]
          rw [IntWalk.u64_in _ (by omega)]
          exact or64 _ _ (64 - k) (by omega) (by omega) (dX (h % d) l k / d) q0 rfl (by omega))
        clear hor
        by_cases hge : d ≤ 2 * dR (h % d) l d k + bitAt l k
        · have S := Lib.hid (s1 hge)
          have HG : d ≤ bits BinOp.or IntKind.u64 (dR (h % d) l d k * 2) (bits BinOp.and IntKind.u64 (l / 2 ^ (63 - k)) 1) := by rw [HO.out]; exact hge
          clear s1 s2
          go_wp2
          go_region
          go_wp2
          refine ⟨⟨k + 1, n + 1, by omega, by go_num, ?_, ?_⟩, by simp [intOf]; omega⟩
          · rw [HO.out, IntWalk.u64_in _ (by omega), S.out.1]
          · rw [LO.out, S.out.2]
            exact set_pair _ _ _ _ _ _ _
        · have S := Lib.hid (s2 (by omega))
          have HG : bits BinOp.or IntKind.u64 (dR (h % d) l d k * 2) (bits BinOp.and IntKind.u64 (l / 2 ^ (63 - k)) 1) < d := by rw [HO.out]; omega
          clear s1 s2
          go_wp2
          refine ⟨⟨k + 1, n, by omega, by go_num, ?_, ?_⟩, by simp [intOf]; omega⟩
          · rw [HO.out, S.out.1]
          · rw [S.out.2]
      · obtain rfl : k = 64 := by omega
        have E := Lib.hid (d_end h l d a1 a2 a3.1)
        go_wp2
        refine bodyPost_ret (v := .tuple #[.agg #[.int .u64 (hiW ((h * 18446744073709551616 + l) / d)), .int .u64 (loW ((h * 18446744073709551616 + l) / d))], .int .u64 ((h * 18446744073709551616 + l) % d)]) ?_ rfl ⟨rfl, ?_⟩
        · simp [results, Try.results65, go_sem]
          exact ⟨⟨E.out.1, E.out.2.1⟩, E.out.2.2⟩
        · exact ((below_more (((Below.refl _ _).alloc (Nat.le_refl _) _).alloc (by simp) _) _).setCell (by simp) _).setCell (by simp) _

end Go.Proofs.Ytieabeodommbiaa
