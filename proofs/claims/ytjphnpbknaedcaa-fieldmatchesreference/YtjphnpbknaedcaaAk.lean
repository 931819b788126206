/- The fields' operations and the fields that the laws take: all facts. -/
import Derived.Test.YtjphnpbknaedcaaAi
import Derived.Test.YtjphnpbknaedcaaAb3
import Derived.Test.YtjphnpbknaedcaaAh0
import Derived.Test.YtjphnpbknaedcaaAe4
namespace Go.Proofs.Ytjphnpbknaedcaa
open Go.Ev Go.Fl
open Go.RowKit (Below)
set_option linter.unusedSectionVars false
set_option linter.unusedVariables false

theorem ops_ok {F : Gf} (h : F ∈ fds) : OpsOk F := ⟨h, ex_ok F h, add_ok F h, sub_ok F h, mul_ok F h, neg_ok F h, List.all_eq_true.1 inv_k F h⟩

theorem mem_parts {α : Type} {l : List α} {x : α} (n : Nat) (h : x ∈ l) : x ∈ l.take n ∨ x ∈ l.drop n := by
  rw [← List.mem_append, List.take_append_drop]; exact h

section
variable [Rho]
theorem rm_ok : ∀ G ∈ rmk.map rmakeF, G.Holds Try.prog 11 := by
  intro G hG
  obtain ⟨x, hx, rfl⟩ := List.mem_map.1 hG
  have e : rmk = (rmk.drop 0).take 9 ++ ((rmk.drop 9).take 5 ++ ((rmk.drop 14).take 4 ++ ((rmk.drop 18).take 5 ++ (rmk.drop 23).take 4))) := by rfl
  rw [e] at hx
  simp only [List.mem_append] at hx
  rcases hx with h | h | h | h | h
  · exact chk_ok (noOrc_ok _) (List.all_eq_true.1 rm_0 x h)
  · exact chk_ok (noOrc_ok _) (List.all_eq_true.1 rm_1 x h)
  · exact chk_ok (noOrc_ok _) (List.all_eq_true.1 rm_2 x h)
  · exact chk_ok (noOrc_ok _) (List.all_eq_true.1 rm_3 x h)
  · exact chk_ok (noOrc_ok _) (List.all_eq_true.1 rm_4 x h)
theorem LO_ok : FactsOk Try.prog LO := ⟨one orders_ok, rm_ok, trivial⟩
theorem of_ok {F : Gf} {i : Nat} (h : (F, i) ∈ fds.zipIdx) : (ofF i F).Holds Try.prog 14 := chk_ok (orcOf_ok LO_ok) (List.all_eq_true.1 of_k _ h)
end

theorem zip_mem {i : Nat} (h : i < fds.length) : (fds[i], i) ∈ fds.zipIdx := by
  rw [List.mem_zipIdx_iff_getElem?]; exact List.getElem?_eq_getElem h
theorem zip_mem1 {i : Nat} (h : i < fds.length) (h1 : 1 ≤ i) : (fds[i], i) ∈ fds.zipIdx.drop 1 := by
  rw [List.mem_iff_getElem?]
  refine ⟨i - 1, ?_⟩
  rw [List.getElem?_drop, List.getElem?_zipIdx, show 1 + (i - 1) = i by omega, List.getElem?_eq_getElem h]
  simp

theorem calls_args {f : FuncId} {a b : Array Value} {w : World} {Q : Ending → World → Prop} (h : Calls Try.prog f a w Q) (e : a = b) : Calls Try.prog f b w Q := e ▸ h

end Go.Proofs.Ytjphnpbknaedcaa
