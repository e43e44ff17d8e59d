/- RyPc64 -/
import Derived.Test.YtlaakbmimplceaaDoorMxO
namespace Go.Sx
noncomputable section
set_option maxRecDepth 100000
theorem kL6_3_0 : lAll (ckLs 6 3) (upN 8 0) = true := by kernel_rfl
theorem kL6_3_8 : lAll (ckLs 6 3) (upN 8 8) = true := by kernel_rfl
theorem kL6_3_16 : lAll (ckLs 6 3) (upN 8 16) = true := by kernel_rfl
theorem kL6_3_24 : lAll (ckLs 6 3) (upN 8 24) = true := by kernel_rfl
theorem kL6_3_32 : lAll (ckLs 6 3) (upN 8 32) = true := by kernel_rfl
theorem kL6_3_40 : lAll (ckLs 6 3) (upN 8 40) = true := by kernel_rfl
theorem kL6_3_48 : lAll (ckLs 6 3) (upN 8 48) = true := by kernel_rfl
theorem kL6_3_56 : lAll (ckLs 6 3) (upN 8 56) = true := by kernel_rfl
end
end Go.Sx
namespace Go.Sx
noncomputable section
set_option maxRecDepth 100000
theorem kL6_4_0 : lAll (ckLs 6 4) (upN 8 0) = true := by kernel_rfl
theorem kL6_4_8 : lAll (ckLs 6 4) (upN 8 8) = true := by kernel_rfl
theorem kL6_4_16 : lAll (ckLs 6 4) (upN 8 16) = true := by kernel_rfl
theorem kL6_4_24 : lAll (ckLs 6 4) (upN 8 24) = true := by kernel_rfl
theorem kL6_4_32 : lAll (ckLs 6 4) (upN 8 32) = true := by kernel_rfl
theorem kL6_4_40 : lAll (ckLs 6 4) (upN 8 40) = true := by kernel_rfl
theorem kL6_4_48 : lAll (ckLs 6 4) (upN 8 48) = true := by kernel_rfl
theorem kL6_4_56 : lAll (ckLs 6 4) (upN 8 56) = true := by kernel_rfl
end
end Go.Sx
