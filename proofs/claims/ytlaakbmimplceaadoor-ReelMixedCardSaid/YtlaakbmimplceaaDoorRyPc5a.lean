/- RyPc5a -/
import Derived.Test.YtlaakbmimplceaaDoorMxO
namespace Go.Sx
noncomputable section
set_option maxRecDepth 100000
theorem kL4_0_0 : lAll (ckLs 4 0) (upN 8 0) = true := by kernel_rfl
theorem kL4_0_8 : lAll (ckLs 4 0) (upN 8 8) = true := by kernel_rfl
theorem kL4_1_0 : lAll (ckLs 4 1) (upN 8 0) = true := by kernel_rfl
theorem kL4_1_8 : lAll (ckLs 4 1) (upN 8 8) = true := by kernel_rfl
theorem kL4_2_0 : lAll (ckLs 4 2) (upN 8 0) = true := by kernel_rfl
theorem kL4_2_8 : lAll (ckLs 4 2) (upN 8 8) = true := by kernel_rfl
theorem kL4_3_0 : lAll (ckLs 4 3) (upN 8 0) = true := by kernel_rfl
theorem kL4_3_8 : lAll (ckLs 4 3) (upN 8 8) = true := by kernel_rfl
end
end Go.Sx
namespace Go.Sx
noncomputable section
set_option maxRecDepth 100000
theorem kL5_0_0 : lAll (ckLs 5 0) (upN 8 0) = true := by kernel_rfl
theorem kL5_0_8 : lAll (ckLs 5 0) (upN 8 8) = true := by kernel_rfl
theorem kL5_0_16 : lAll (ckLs 5 0) (upN 8 16) = true := by kernel_rfl
theorem kL5_0_24 : lAll (ckLs 5 0) (upN 8 24) = true := by kernel_rfl
theorem kL5_1_0 : lAll (ckLs 5 1) (upN 8 0) = true := by kernel_rfl
theorem kL5_1_8 : lAll (ckLs 5 1) (upN 8 8) = true := by kernel_rfl
theorem kL5_1_16 : lAll (ckLs 5 1) (upN 8 16) = true := by kernel_rfl
theorem kL5_1_24 : lAll (ckLs 5 1) (upN 8 24) = true := by kernel_rfl
theorem kL5_2_0 : lAll (ckLs 5 2) (upN 8 0) = true := by kernel_rfl
theorem kL5_2_8 : lAll (ckLs 5 2) (upN 8 8) = true := by kernel_rfl
theorem kL5_2_16 : lAll (ckLs 5 2) (upN 8 16) = true := by kernel_rfl
theorem kL5_2_24 : lAll (ckLs 5 2) (upN 8 24) = true := by kernel_rfl
end
end Go.Sx
