/- Slices as arguments; digests, joins, tags: what the law's calls answer in every later world. -/
import Derived.Test.YtdenpaifjpmkgaaVa
import Derived.Test.YtdenpaifjpmkgaaVc
import Derived.Test.YtdenpaifjpmkgaaVg
import Derived.Test.YtdenpaifjpmkgaaVe
import Derived.Test.YtdenpaifjpmkgaaXc
import Derived.Test.YtdenpaifjpmkgaaYb
import Derived.WalkKit
import Derived.Lib.Hide
namespace Go.Proofs.Ytdenpaifjpmkgaa
open Go.Ev
open Go.RowKit
set_option maxRecDepth 100000
set_option linter.unusedVariables false
set_option linter.unusedSectionVars false

inductive GivenK (W : World) (k : IntKind) (l : List Int) : Value → Prop
  | nil (h : l = []) : GivenK W k l (.slice none 0 0)
  | at {b off cap fz1 fz2 : Nat} {c : Array Value} {e : TypeId} (hcap : l.length ≤ cap) (hb : W.heap[b]? = some (.cells c e (fz1, fz2))) (hc : ∀ i, i < l.length → c[off + i]? = some (.int k (l.getD i 0))) : GivenK W k l (.slice (some ⟨b, off, none⟩) l.length cap)
theorem heap_lt {W : World} {b : Nat} {o : Obj} (h : W.heap[b]? = some o) : b < W.heap.size := by
  rcases Nat.lt_or_ge b W.heap.size with h1 | h1
  · exact h1
  · rw [Array.getElem?_eq_none h1] at h; cases h
theorem GivenK.below {W w : World} {k : IntKind} {l : List Int} {v : Value} (h : GivenK W k l v) (hb : Below W.heap.size W w) : GivenK w k l v := by
  cases h with
  | nil h => exact .nil h
  | «at» h1 h2 h3 => exact .at h1 ((hb.block _ (heap_lt h2)).trans h2) h3

/-! ### no numbers -/
theorem nil_runs : ((okRun Try.prog noOrc 15 [.nilSlice] (.int .u64 (wI [])) && okRun Try.prog noOrc 16 [.nilSlice] (.int .u64 (wI []))) && (okRun Try.prog noOrc 17 [.nilSlice] (.int .u64 (bI [])) && okRun Try.prog noOrc 18 [.nilSlice] (.int .u64 (bI [])))) = true := by kernel_rfl
theorem nil_c {f : FuncId} {x : Int} (h : okRun Try.prog noOrc f [.nilSlice] (.int .u64 x) = true) (W : World) : Calls Try.prog f #[.slice none 0 0] W fun e W' => e = .returned (.int .u64 x) ∧ Below W.heap.size W W' := by
  letI := rho []
  exact run_open (args := [.nilSlice]) fit (noOrc_ok _) h ⟨trivial, trivial⟩ W

theorem words15 {W : World} {l : List Int} {v : Value} (h : GivenK W .i64 l v) (hl : l.length ≤ 1000) (hi : ∀ n ∈ l, i64 n) : Ans 15 #[v] (.int .u64 (wI l)) W := fun w hw => by
  have hr := nil_runs
  simp only [Bool.and_eq_true] at hr
  cases h.below hw with
  | nil h0 => subst h0; exact nil_c hr.1.1 w
  | «at» h1 h2 h3 => exact words_c (by omega) hi h1 h2 h3
theorem words16 {W : World} {l : List Int} {v : Value} (h : GivenK W .i64 l v) (hl : l.length ≤ 1000) (hi : ∀ n ∈ l, i64 n) : Ans 16 #[v] (.int .u64 (wI l)) W := fun w hw => by
  have hr := nil_runs
  simp only [Bool.and_eq_true] at hr
  cases h.below hw with
  | nil h0 => subst h0; exact nil_c hr.1.2 w
  | «at» h1 h2 h3 => exact rwords_c (by omega) hi h1 h2 h3
theorem bytes17 {W : World} {l : List Int} {v : Value} (h : GivenK W .u8 l v) (hl : l.length ≤ 1000) (hi : ∀ n ∈ l, byt n) : Ans 17 #[v] (.int .u64 (bI l)) W := fun w hw => by
  have hr := nil_runs
  simp only [Bool.and_eq_true] at hr
  cases h.below hw with
  | nil h0 => subst h0; exact nil_c hr.2.1 w
  | «at» h1 h2 h3 => exact bytes_c (by omega) hi h1 h2 h3
theorem bytes18 {W : World} {l : List Int} {v : Value} (h : GivenK W .u8 l v) (hl : l.length ≤ 1000) (hi : ∀ n ∈ l, byt n) : Ans 18 #[v] (.int .u64 (bI l)) W := fun w hw => by
  have hr := nil_runs
  simp only [Bool.and_eq_true] at hr
  cases h.below hw with
  | nil h0 => subst h0; exact nil_c hr.2.2 w
  | «at» h1 h2 h3 => exact rbytes_c (by omega) hi h1 h2 h3

/-! ### steps and joins -/
theorem two_c {f : FuncId} {X : SX} (hr : okRun Try.prog noOrc f [dA 1, dA 2] (.sym .u64 X 0 MU) = true) {h w x : Int} (hh : u64 h) (hw : u64 w) (he : @SX.eval (rho [0, h, w]) X = x) (W : World) : Ans f #[.int .u64 h, .int .u64 w] (.int .u64 x) W := fun W1 _ => by
  letI := rho [0, h, w]
  have f1 : (dA 1).fine1 := ⟨hh, hh⟩
  have f2 : (dA 2).fine1 := ⟨hw, hw⟩
  refine (run_open (args := [dA 1, dA 2]) fit (noOrc_ok _) hr ⟨f1, f2, trivial⟩ W1).mono ?_
  rintro e W' ⟨rfl, hb⟩
  refine ⟨?_, hb⟩
  show Ending.returned (.int .u64 X.eval) = _
  rw [he]
theorem step11_run : okRun Try.prog noOrc 11 [dA 1, dA 2] (.sym .u64 (stepX (dX 1) (dX 2)) 0 MU) = true := by kernel_rfl
theorem back13_run : okRun Try.prog noOrc 13 [dA 1, dA 2] (.sym .u64 (backX (dX 1) (dX 2)) 0 MU) = true := by kernel_rfl
section
variable {h w : Int} (hh : u64 h) (hw : u64 w) (W : World)
include hh hw
theorem step11 : Ans 11 #[.int .u64 h, .int .u64 w] (.int .u64 (stepI h w)) W := two_c step11_run hh hw (by rw [@stepX_eval (rho [0, h, w])]; rfl) W
theorem step12 : Ans 12 #[.int .u64 h, .int .u64 w] (.int .u64 (stepI h w)) W := two_c rstep_run hh hw (by rw [@stepX_eval (rho [0, h, w])]; rfl) W
theorem back13 : Ans 13 #[.int .u64 h, .int .u64 w] (.int .u64 (backI h w)) W := two_c back13_run hh hw (by rw [@backX_eval (rho [0, h, w])]; rfl) W
theorem back14 : Ans 14 #[.int .u64 h, .int .u64 w] (.int .u64 (backI h w)) W := two_c rback_run hh hw (by rw [@backX_eval (rho [0, h, w])]; rfl) W
theorem join19 : Ans 19 #[.int .u64 h, .int .u64 w] (.int .u64 (joinI h w)) W := two_c (by have := join_run; rw [Bool.and_eq_true] at this; exact this.1) hh hw (by rw [@jnX_eval (rho [0, h, w])]; rfl) W
theorem join20 : Ans 20 #[.int .u64 h, .int .u64 w] (.int .u64 (joinI h w)) W := two_c (by have := join_run; rw [Bool.and_eq_true] at this; exact this.2) hh hw (by rw [@jnX_eval (rho [0, h, w])]; rfl) W
end

/-! ### tags -/
set_option maxHeartbeats 800000 in
theorem tag21 {W : World} {a : Option Addr} {n cap : Nat} {key x y : Int} (h15 : Ans 15 #[.slice a n cap] (.int .u64 x) W) (h11 : Ans 11 #[.int .u64 key, .int .u64 x] (.int .u64 y) W) : Ans 21 #[.int .u64 key, .slice a n cap] (.int .u64 y) W := fun w hw => by
  have H1 := Lib.hid h15
  have H2 := Lib.hid h11
  have HW := Lib.hid hw
  clear h15 h11 hw
  go_enter Try.func21, Try.ntmps21
  go_wp2_with fail
  refine (H1.out _ HW.out).mono ?_
  rintro e w1 ⟨rfl, hb⟩
  have HB := Lib.hid hb
  clear hb
  go_wp2_with fail
  refine (H2.out _ (HW.out.trans (HB.out.mono HW.out.size))).mono ?_
  rintro e w2 ⟨rfl, hb⟩
  have HB2 := Lib.hid hb
  clear hb
  go_wp2
  go_ret
  exact ⟨rfl, HB.out.trans (HB2.out.mono HB.out.size)⟩
set_option maxHeartbeats 800000 in
theorem tag22 {W : World} {a : Option Addr} {n cap : Nat} {key x y : Int} (h15 : Ans 16 #[.slice a n cap] (.int .u64 x) W) (h11 : Ans 12 #[.int .u64 key, .int .u64 x] (.int .u64 y) W) : Ans 22 #[.int .u64 key, .slice a n cap] (.int .u64 y) W := fun w hw => by
  have H1 := Lib.hid h15
  have H2 := Lib.hid h11
  have HW := Lib.hid hw
  clear h15 h11 hw
  go_enter Try.func22, Try.ntmps22
  go_wp2_with fail
  refine (H1.out _ HW.out).mono ?_
  rintro e w1 ⟨rfl, hb⟩
  have HB := Lib.hid hb
  clear hb
  go_wp2_with fail
  refine (H2.out _ (HW.out.trans (HB.out.mono HW.out.size))).mono ?_
  rintro e w2 ⟨rfl, hb⟩
  have HB2 := Lib.hid hb
  clear hb
  go_wp2
  go_ret
  exact ⟨rfl, HB.out.trans (HB2.out.mono HB.out.size)⟩

/-! ### roots of nothing -/
set_option maxHeartbeats 800000 in
theorem root23_0 (a : Option Addr) (c : Nat) (w : World) : Calls Try.prog 23 #[.slice a 0 c] w fun e w' => e = .returned (.int .u64 (wI [])) ∧ Below w.heap.size w w' := by
  have hr := nil_runs
  simp only [Bool.and_eq_true] at hr
  have h := hr.1.1
  clear hr
  have H := Lib.hid (nil_c h)
  clear h
  go_enter Try.func23, Try.ntmps23
  go_wp2_with fail
  refine (H.out _).mono ?_
  rintro e w1 ⟨rfl, hb⟩
  have HB := Lib.hid hb
  clear hb
  go_wp2
  go_ret
  exact ⟨rfl, HB.out⟩
theorem none16 (W : World) (b : Nat) (h : ∃ c e f1 f2, W.heap[b]? = some (.cells c e (f1, f2))) : Calls Try.prog 16 #[.slice (some ⟨b, 0, none⟩) 0 0] W fun e W' => e = .returned (.int .u64 (wI [])) ∧ Below W.heap.size W W' := by
  obtain ⟨c, e, f1, f2, h⟩ := h
  exact rwords_c (l := []) (by simp) (by simp) (Nat.zero_le _) h (fun i hi => by simp at hi)
set_option maxHeartbeats 800000 in
theorem root24_0 (a : Option Addr) (c : Nat) (w : World) : Calls Try.prog 24 #[.slice a 0 c] w fun e w' => e = .returned (.int .u64 (wI [])) ∧ Below w.heap.size w w' := by
  have H := Lib.hid none16
  go_enter Try.func24, Try.ntmps24
  go_wp2_with fail
  refine (H.out _ _ ⟨_, _, _, _, Array.getElem?_push_size⟩).mono ?_
  rintro e w1 ⟨rfl, hb⟩
  have HB := Lib.hid (((Below.refl w.heap.size w).alloc (Nat.le_refl _) _).trans (hb.mono (by simp)))
  clear hb
  go_wp2
  go_ret
  exact ⟨rfl, HB.out⟩
end Go.Proofs.Ytdenpaifjpmkgaa
