/- FieldRefuses, its first part evaluated. -/
import Derived.Test.YtjphnpbknaedcaaDa
namespace Go.Proofs.Ytjphnpbknaedcaa
open Go.Ev Go.Fl
theorem a_0 : chkA 0 (qRep 0) = true := by kernel_rfl
theorem a_1 : chkA 1 (qRep 1) = true := by kernel_rfl
theorem a_k : allLt 32 (fun j => chkA (clsOf (j + 2)) (I (j + 2))) = true := by kernel_rfl
theorem a_l : allLt 31 (fun j => chkA (clsOf (j + 34)) (I (j + 34))) = true := by kernel_rfl
theorem a_all (j : Nat) (h : j < 63) : chkA (clsOf (j + 2)) (I (j + 2)) = true := by
  by_cases h1 : j < 32
  · exact allLt_ok a_k j h1
  · have := allLt_ok a_l (j - 32) (by omega)
    rwa [show j - 32 + 34 = j + 2 by omega] at this
end Go.Proofs.Ytjphnpbknaedcaa
