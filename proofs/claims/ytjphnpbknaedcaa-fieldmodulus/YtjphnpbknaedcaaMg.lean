/- FieldModulus, evaluated for each of the 27 fields. -/
import Derived.Test.YtjphnpbknaedcaaMdA
import Derived.Test.YtjphnpbknaedcaaMdC
import Derived.Test.YtjphnpbknaedcaaMe
import Derived.Test.YtjphnpbknaedcaaMo
import Derived.Test.YtjphnpbknaedcaaMf
namespace Go.Proofs.Ytjphnpbknaedcaa
open Go.Ev

def makesFs : List Fct :=
  ([2, 3, 5, 7, 11, 13, 17, 19, 23].map makeF ++ [29, 31, 37, 41, 43, 47, 53, 59, 61].map makeF) ++ (([4, 8, 9, 25].map makeF ++ [27, 49].map makeF) ++ ([16].map makeF ++ ([32].map makeF ++ [64].map makeF)))

abbrev ok10 {l : List Fct} (h : l.all (chk noOrc 10) = true) : ∀ F ∈ l, F.Holds Try.prog 10 := chkAll_ok (noOrc_ok _) h

theorem makes_ok : ∀ F ∈ makesFs, F.Holds Try.prog 10 :=
  holds_app (holds_app (ok10 make_a) (ok10 make_b)) (holds_app (holds_app (ok10 make_c) (ok10 make_d)) (holds_app (ok10 make_e) (holds_app (ok10 make_f) (ok10 make_g))))

def L7 : List (FuncId × List Fct) := [(9, [examplesF]), (39, [ordersF]), (10, makesFs), (41, productsFs)]
theorem L7_ok : FactsOk Try.prog L7 :=
  ⟨fun F hF => by rw [List.mem_singleton] at hF; subst hF; exact examples_ok, fun F hF => by rw [List.mem_singleton] at hF; subst hF; exact orders_ok, makes_ok, products_ok, trivial⟩

/-- a byte whose rest by 27 is i -/
def byteOf (i : Nat) (y : Int) : AV := .sym .u8 (.bin .add (.bin .mul (.lit 27) (.var y 0 9)) (.lit (Int.ofNat i))) (Int.ofNat i) 255

def isTrue : Option (AV × St × Bool) → Bool
  | some (.bool b, _, _) => b
  | _ => false

noncomputable def runOf (i : Nat) (y : Int) : Bool := isTrue ((evF Try.prog (orcOf L7) 5000).call 7 [byteOf i y] st0)

theorem run_a : (fun y : Int => (List.range' 0 9).all fun i => runOf i y) = fun _ => true := by kernel_rfl
theorem run_b : (fun y : Int => (List.range' 9 9).all fun i => runOf i y) = fun _ => true := by kernel_rfl
theorem run_c : (fun y : Int => (List.range' 18 9).all fun i => runOf i y) = fun _ => true := by kernel_rfl

theorem run_all (i : Nat) (h : i < 27) (y : Int) : runOf i y = true := by
  have ha := congrFun run_a y
  have hb := congrFun run_b y
  have hc := congrFun run_c y
  simp only [List.all_eq_true] at ha hb hc
  by_cases h1 : i < 9
  · exact ha i (by simp [List.mem_range'_1]; omega)
  · by_cases h2 : i < 18
    · exact hb i (by simp [List.mem_range'_1]; omega)
    · exact hc i (by simp [List.mem_range'_1]; omega)

theorem isTrue_ok {r : Option (AV × St × Bool)} (h : isTrue r = true) : ∃ s1 q, r = some (.bool true, s1, q) := by
  unfold isTrue at h
  split at h
  · subst h; exact ⟨_, _, rfl⟩
  · cases h

theorem run_at (i : Nat) (h : i < 27) (y : Int) : ∃ s1 q, (evF Try.prog (orcOf L7) 5000).call 7 [byteOf i y] st0 = some (.bool true, s1, q) :=
  isTrue_ok (run_all i h y)

end Go.Proofs.Ytjphnpbknaedcaa
