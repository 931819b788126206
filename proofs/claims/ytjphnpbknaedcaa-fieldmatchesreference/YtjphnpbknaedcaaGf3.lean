/- The reference's inverses, evaluated. -/
import Derived.Test.YtjphnpbknaedcaaGd
namespace Go.Proofs.Ytjphnpbknaedcaa
open Go.Ev Go.Fl
theorem ri_61_0 : (fdOf 61).all (fun F => chkRIs F 1 20) = true := by kernel_rfl
theorem ri_59_0 : (fdOf 59).all (fun F => chkRIs F 1 19) = true := by kernel_rfl
theorem ri_64_2 : (fdOf 64).all (fun F => chkRIs F 32 16) = true := by kernel_rfl
theorem ri_64_0 : (fdOf 64).all (fun F => chkRIs F 1 15) = true := by kernel_rfl
theorem ri_53_0 : (fdOf 53).all (fun F => chkRIs F 1 17) = true := by kernel_rfl
theorem ri_41_0 : (fdOf 41).all (fun F => chkRIs F 1 20) = true := by kernel_rfl
theorem ri_37_1 : (fdOf 37).all (fun F => chkRIs F 19 18) = true := by kernel_rfl
theorem ri_23_0 : (fdOf 23).all (fun F => chkRIs F 1 22) = true := by kernel_rfl
end Go.Proofs.Ytjphnpbknaedcaa

/- The reference's inverses, evaluated. -/
namespace Go.Proofs.Ytjphnpbknaedcaa
open Go.Ev Go.Fl
theorem ri_49_1 : (fdOf 49).all (fun F => chkRIs F 25 24) = true := by kernel_rfl
theorem ri_49_0 : (fdOf 49).all (fun F => chkRIs F 1 24) = true := by kernel_rfl
theorem ri_47_1 : (fdOf 47).all (fun F => chkRIs F 24 23) = true := by kernel_rfl
theorem ri_32_0 : (fdOf 32).all (fun F => chkRIs F 1 31) = true := by kernel_rfl
theorem ri_43_1 : (fdOf 43).all (fun F => chkRIs F 22 21) = true := by kernel_rfl
theorem ri_29_0 : (fdOf 29).all (fun F => chkRIs F 1 28) = true := by kernel_rfl
theorem ri_37_0 : (fdOf 37).all (fun F => chkRIs F 1 18) = true := by kernel_rfl
theorem ri_17_0 : (fdOf 17).all (fun F => chkRIs F 1 16) = true := by kernel_rfl
theorem ri_11_0 : (fdOf 11).all (fun F => chkRIs F 1 10) = true := by kernel_rfl
theorem ri_8_0 : (fdOf 8).all (fun F => chkRIs F 1 7) = true := by kernel_rfl
theorem ri_3_0 : (fdOf 3).all (fun F => chkRIs F 1 2) = true := by kernel_rfl
end Go.Proofs.Ytjphnpbknaedcaa
