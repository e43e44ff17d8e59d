/- RyKC6a -/
import Derived.Test.YtlaakbmimplceaaDoorRyI
namespace Go.Sx
noncomputable section
set_option maxRecDepth 100000
theorem kC1 : lAll (ckC 1) (upN 2 0) = true := by kernel_rfl
theorem kC2 : lAll (ckC 2) (upN 4 0) = true := by kernel_rfl
theorem kC3 : lAll (ckC 3) (upN 8 0) = true := by kernel_rfl
theorem kC4 : lAll (ckC 4) (upN 16 0) = true := by kernel_rfl
theorem kC5_0 : lAll (ckC 5) (upN 8 0) = true := by kernel_rfl
theorem kC5_1 : lAll (ckC 5) (upN 8 8) = true := by kernel_rfl
theorem kC5_2 : lAll (ckC 5) (upN 8 16) = true := by kernel_rfl
theorem kC5_3 : lAll (ckC 5) (upN 8 24) = true := by kernel_rfl
end
end Go.Sx
namespace Go.Sx
noncomputable section
set_option maxRecDepth 100000
theorem kC6_0 : lAll (ckC 6) (upN 4 0) = true := by kernel_rfl
theorem kC6_1 : lAll (ckC 6) (upN 4 4) = true := by kernel_rfl
theorem kC6_2 : lAll (ckC 6) (upN 4 8) = true := by kernel_rfl
theorem kC6_3 : lAll (ckC 6) (upN 4 12) = true := by kernel_rfl
end
end Go.Sx
