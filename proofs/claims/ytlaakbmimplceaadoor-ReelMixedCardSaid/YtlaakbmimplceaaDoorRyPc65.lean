/- RyPc65 -/
import Derived.Test.YtlaakbmimplceaaDoorMxO
namespace Go.Sx
noncomputable section
set_option maxRecDepth 100000
theorem kL6_5_0 : lAll (ckLs 6 5) (upN 8 0) = true := by kernel_rfl
theorem kL6_5_8 : lAll (ckLs 6 5) (upN 8 8) = true := by kernel_rfl
theorem kL6_5_16 : lAll (ckLs 6 5) (upN 8 16) = true := by kernel_rfl
theorem kL6_5_24 : lAll (ckLs 6 5) (upN 8 24) = true := by kernel_rfl
theorem kL6_5_32 : lAll (ckLs 6 5) (upN 8 32) = true := by kernel_rfl
theorem kL6_5_40 : lAll (ckLs 6 5) (upN 8 40) = true := by kernel_rfl
theorem kL6_5_48 : lAll (ckLs 6 5) (upN 8 48) = true := by kernel_rfl
theorem kL6_5_56 : lAll (ckLs 6 5) (upN 8 56) = true := by kernel_rfl
end
end Go.Sx
