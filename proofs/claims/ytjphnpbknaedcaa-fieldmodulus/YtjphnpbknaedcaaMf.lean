/- What is known of calls: which polynomials are products. -/
import Derived.Test.YtjphnpbknaedcaaMdD
import Derived.Test.YtjphnpbknaedcaaMdE
import Derived.Test.YtjphnpbknaedcaaMdF
import Derived.Test.YtjphnpbknaedcaaMdG
import Derived.Test.YtjphnpbknaedcaaMdH
namespace Go.Proofs.Ytjphnpbknaedcaa
open Go.Ev

theorem all_app {α : Type} {p : α → Bool} {a b : List α} (h : (a ++ b).all p = true) : a.all p = true ∧ b.all p = true := by simpa only [List.all_append, Bool.and_eq_true] using h

theorem holds_app {f : FuncId} {a b : List Fct} (h : ∀ F ∈ a, F.Holds Try.prog f) (k : ∀ F ∈ b, F.Holds Try.prog f) : ∀ F ∈ a ++ b, F.Holds Try.prog f := fun F hF => (List.mem_append.1 hF).elim (h F) (k F)

abbrev ok58 {l : List Fct} (h : l.all (chk noOrc 58) = true) : ∀ F ∈ l, F.Holds Try.prog 58 := chkAll_ok (noOrc_ok _) h
abbrev ok59 {l : List Fct} (h : l.all (chk noOrc 59) = true) : ∀ F ∈ l, F.Holds Try.prog 59 := chkAll_ok (noOrc_ok _) h

def numbersOf (p e q : Nat) : List Nat := (List.range' 1 (e / 2)).flatMap fun d => (List.range (p ^ d)).flatMap fun i => (List.range (q / p ^ d)).map fun k => numberOf p (monicL p i d) (monicL p k (e - d))
def productsF (p e q : Nat) : Fct :=
  { args := [I p, I e, I q], old := [], v := .slice 0 0 q q true 1, sel := [0], new := [{ elem := 4, cells := (List.range q).map fun i => .bool ((numbersOf p e q).contains i), ro := false }] }

theorem m21 : (monics 2 1 2).all (chk noOrc 59) = true := (all_app monic_a).1
theorem m25 : (monics 2 5 32).all (chk noOrc 59) = true := (all_app (all_app monic_a).2).1
theorem m22 : (monics 2 2 4).all (chk noOrc 59) = true := (all_app (all_app (all_app monic_a).2).2).1
theorem m24 : (monics 2 4 16).all (chk noOrc 59) = true := (all_app (all_app (all_app (all_app monic_a).2).2).2).1
theorem m23 : (monics 2 3 8).all (chk noOrc 59) = true := (all_app (all_app (all_app (all_app monic_a).2).2).2).2

def T64 : List Fct := (timess 2 6 1 32 [0] ++ timess 2 6 1 32 [1]) ++ ((timess 2 6 2 16 [0, 1] ++ timess 2 6 2 16 [2, 3]) ++ ((timess 2 6 3 8 [0, 1] ++ timess 2 6 3 8 [2, 3]) ++ (timess 2 6 3 8 [4, 5] ++ timess 2 6 3 8 [6, 7])))
theorem T64_ok : ∀ F ∈ T64, F.Holds Try.prog 58 :=
  holds_app (holds_app (ok58 times_a0) (ok58 times_a1)) (holds_app (holds_app (ok58 times_b0) (ok58 times_b2)) (holds_app (holds_app (ok58 times_c0) (ok58 times_c2)) (holds_app (ok58 times_c4) (ok58 times_c6))))
def T32 : List Fct := (timess 2 5 1 16 [0] ++ timess 2 5 1 16 [1]) ++ (timess 2 5 2 8 [0, 1] ++ timess 2 5 2 8 [2, 3])
theorem T32_ok : ∀ F ∈ T32, F.Holds Try.prog 58 := holds_app (holds_app (ok58 times_e0) (ok58 times_e1)) (holds_app (ok58 times_f0) (ok58 times_f2))
def M2 : List Fct := (monics 2 1 2 ++ monics 2 5 32) ++ ((monics 2 2 4 ++ monics 2 4 16) ++ monics 2 3 8)
theorem M2_ok : ∀ F ∈ M2, F.Holds Try.prog 59 := holds_app (holds_app (ok59 m21) (ok59 m25)) (holds_app (holds_app (ok59 m22) (ok59 m24)) (ok59 m23))

def L64 : List (FuncId × List Fct) := [(58, T64), (59, M2)]
theorem L64_ok : FactsOk Try.prog L64 := ⟨T64_ok, M2_ok, trivial⟩
def L32 : List (FuncId × List Fct) := [(58, T32), (59, M2)]
theorem L32_ok : FactsOk Try.prog L32 := ⟨T32_ok, M2_ok, trivial⟩
def L16 : List (FuncId × List Fct) := [(58, timess 2 4 1 8 [0, 1] ++ timess 2 4 2 4 [0, 1, 2, 3]), (59, M2)]
theorem L16_ok : FactsOk Try.prog L16 := ⟨ok58 times_h, M2_ok, trivial⟩
def L8 : List (FuncId × List Fct) := [(58, timess 3 2 1 3 [0, 1, 2] ++ (timess 2 3 1 4 [0, 1] ++ timess 2 2 1 2 [0, 1])), (59, M2 ++ (monics 7 1 7 ++ (monics 3 1 3 ++ (monics 3 2 9 ++ monics 5 1 5))))]
theorem L8_ok : FactsOk Try.prog L8 := ⟨ok58 times_i, holds_app M2_ok (ok59 monic_b), trivial⟩
def L25 : List (FuncId × List Fct) := [(58, timess 3 3 1 9 [0, 1, 2] ++ timess 5 2 1 5 [0, 1, 2, 3, 4]), (59, monics 7 1 7 ++ (monics 3 1 3 ++ (monics 3 2 9 ++ monics 5 1 5)))]
theorem L25_ok : FactsOk Try.prog L25 := ⟨ok58 times_g, ok59 monic_b, trivial⟩
def L49 : List (FuncId × List Fct) := [(58, timess 7 2 1 7 [0, 1, 2, 3, 4, 5, 6]), (59, monics 7 1 7 ++ (monics 3 1 3 ++ (monics 3 2 9 ++ monics 5 1 5)))]
theorem L49_ok : FactsOk Try.prog L49 := ⟨ok58 times_d, ok59 monic_b, trivial⟩

theorem products_64 : chk (orcOf L64) 41 (productsF 2 6 64) = true := by kernel_rfl
theorem products_32 : chk (orcOf L32) 41 (productsF 2 5 32) = true := by kernel_rfl
theorem products_16 : chk (orcOf L16) 41 (productsF 2 4 16) = true := by kernel_rfl
theorem products_8 : [productsF 3 2 9, productsF 2 3 8, productsF 2 2 4].all (chk (orcOf L8) 41) = true := by kernel_rfl
theorem products_25 : [productsF 3 3 27, productsF 5 2 25].all (chk (orcOf L25) 41) = true := by kernel_rfl
theorem products_49 : chk (orcOf L49) 41 (productsF 7 2 49) = true := by kernel_rfl

def productsFs : List Fct := [productsF 2 6 64, productsF 2 5 32, productsF 2 4 16, productsF 7 2 49] ++ ([productsF 3 2 9, productsF 2 3 8, productsF 2 2 4] ++ [productsF 3 3 27, productsF 5 2 25])
theorem products_ok : ∀ F ∈ productsFs, F.Holds Try.prog 41 := by
  refine holds_app ?_ (holds_app (chkAll_ok (orcOf_ok L8_ok) products_8) (chkAll_ok (orcOf_ok L25_ok) products_25))
  intro F hF
  simp only [List.mem_cons, List.not_mem_nil, or_false] at hF
  rcases hF with rfl | rfl | rfl | rfl
  · exact chk_ok (orcOf_ok L64_ok) products_64
  · exact chk_ok (orcOf_ok L32_ok) products_32
  · exact chk_ok (orcOf_ok L16_ok) products_16
  · exact chk_ok (orcOf_ok L49_ok) products_49

end Go.Proofs.Ytjphnpbknaedcaa
