/- RyPc62 -/
import Derived.Test.YtlaakbmimplceaaDoorMxO
namespace Go.Sx
noncomputable section
set_option maxRecDepth 100000
theorem kL6_1_0 : lAll (ckLs 6 1) (upN 8 0) = true := by kernel_rfl
theorem kL6_1_8 : lAll (ckLs 6 1) (upN 8 8) = true := by kernel_rfl
theorem kL6_1_16 : lAll (ckLs 6 1) (upN 8 16) = true := by kernel_rfl
theorem kL6_1_24 : lAll (ckLs 6 1) (upN 8 24) = true := by kernel_rfl
theorem kL6_1_32 : lAll (ckLs 6 1) (upN 8 32) = true := by kernel_rfl
theorem kL6_1_40 : lAll (ckLs 6 1) (upN 8 40) = true := by kernel_rfl
theorem kL6_1_48 : lAll (ckLs 6 1) (upN 8 48) = true := by kernel_rfl
theorem kL6_1_56 : lAll (ckLs 6 1) (upN 8 56) = true := by kernel_rfl
end
end Go.Sx
namespace Go.Sx
noncomputable section
set_option maxRecDepth 100000
theorem kL6_2_0 : lAll (ckLs 6 2) (upN 8 0) = true := by kernel_rfl
theorem kL6_2_8 : lAll (ckLs 6 2) (upN 8 8) = true := by kernel_rfl
theorem kL6_2_16 : lAll (ckLs 6 2) (upN 8 16) = true := by kernel_rfl
theorem kL6_2_24 : lAll (ckLs 6 2) (upN 8 24) = true := by kernel_rfl
theorem kL6_2_32 : lAll (ckLs 6 2) (upN 8 32) = true := by kernel_rfl
theorem kL6_2_40 : lAll (ckLs 6 2) (upN 8 40) = true := by kernel_rfl
theorem kL6_2_48 : lAll (ckLs 6 2) (upN 8 48) = true := by kernel_rfl
theorem kL6_2_56 : lAll (ckLs 6 2) (upN 8 56) = true := by kernel_rfl
end
end Go.Sx
