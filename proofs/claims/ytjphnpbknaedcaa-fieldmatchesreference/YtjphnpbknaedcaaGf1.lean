/- The reference's inverses, evaluated. -/
import Derived.Test.YtjphnpbknaedcaaGd
namespace Go.Proofs.Ytjphnpbknaedcaa
open Go.Ev Go.Fl
theorem ri_61_2 : (fdOf 61).all (fun F => chkRIs F 41 20) = true := by kernel_rfl
theorem ri_59_2 : (fdOf 59).all (fun F => chkRIs F 39 20) = true := by kernel_rfl
theorem ri_47_0 : (fdOf 47).all (fun F => chkRIs F 1 23) = true := by kernel_rfl
theorem ri_31_0 : (fdOf 31).all (fun F => chkRIs F 1 30) = true := by kernel_rfl
theorem ri_53_2 : (fdOf 53).all (fun F => chkRIs F 35 18) = true := by kernel_rfl
theorem ri_43_0 : (fdOf 43).all (fun F => chkRIs F 1 21) = true := by kernel_rfl
theorem ri_25_0 : (fdOf 25).all (fun F => chkRIs F 1 24) = true := by kernel_rfl
theorem ri_19_0 : (fdOf 19).all (fun F => chkRIs F 1 18) = true := by kernel_rfl
theorem ri_9_0 : (fdOf 9).all (fun F => chkRIs F 1 8) = true := by kernel_rfl
theorem ri_7_0 : (fdOf 7).all (fun F => chkRIs F 1 6) = true := by kernel_rfl
end Go.Proofs.Ytjphnpbknaedcaa

/- The reference's inverses, evaluated. -/
namespace Go.Proofs.Ytjphnpbknaedcaa
open Go.Ev Go.Fl
theorem ri_61_1 : (fdOf 61).all (fun F => chkRIs F 21 20) = true := by kernel_rfl
theorem ri_59_1 : (fdOf 59).all (fun F => chkRIs F 20 19) = true := by kernel_rfl
theorem ri_64_3 : (fdOf 64).all (fun F => chkRIs F 48 16) = true := by kernel_rfl
theorem ri_64_1 : (fdOf 64).all (fun F => chkRIs F 16 16) = true := by kernel_rfl
theorem ri_53_1 : (fdOf 53).all (fun F => chkRIs F 18 17) = true := by kernel_rfl
theorem ri_41_1 : (fdOf 41).all (fun F => chkRIs F 21 20) = true := by kernel_rfl
theorem ri_27_0 : (fdOf 27).all (fun F => chkRIs F 1 26) = true := by kernel_rfl
theorem ri_16_0 : (fdOf 16).all (fun F => chkRIs F 1 15) = true := by kernel_rfl
theorem ri_13_0 : (fdOf 13).all (fun F => chkRIs F 1 12) = true := by kernel_rfl
theorem ri_5_0 : (fdOf 5).all (fun F => chkRIs F 1 4) = true := by kernel_rfl
theorem ri_4_0 : (fdOf 4).all (fun F => chkRIs F 1 3) = true := by kernel_rfl
theorem ri_2_0 : (fdOf 2).all (fun F => chkRIs F 1 1) = true := by kernel_rfl
end Go.Proofs.Ytjphnpbknaedcaa
