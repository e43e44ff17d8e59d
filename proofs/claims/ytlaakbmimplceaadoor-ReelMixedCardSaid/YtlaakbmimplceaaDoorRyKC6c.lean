/- RyKC6c -/
import Derived.Test.YtlaakbmimplceaaDoorRyI
namespace Go.Sx
noncomputable section
set_option maxRecDepth 100000
theorem kC6_4 : lAll (ckC 6) (upN 4 16) = true := by kernel_rfl
theorem kC6_5 : lAll (ckC 6) (upN 4 20) = true := by kernel_rfl
theorem kC6_6 : lAll (ckC 6) (upN 4 24) = true := by kernel_rfl
theorem kC6_7 : lAll (ckC 6) (upN 4 28) = true := by kernel_rfl
end
end Go.Sx
namespace Go.Sx
noncomputable section
set_option maxRecDepth 100000
theorem kC6_8 : lAll (ckC 6) (upN 4 32) = true := by kernel_rfl
theorem kC6_9 : lAll (ckC 6) (upN 4 36) = true := by kernel_rfl
theorem kC6_10 : lAll (ckC 6) (upN 4 40) = true := by kernel_rfl
theorem kC6_11 : lAll (ckC 6) (upN 4 44) = true := by kernel_rfl
end
end Go.Sx
