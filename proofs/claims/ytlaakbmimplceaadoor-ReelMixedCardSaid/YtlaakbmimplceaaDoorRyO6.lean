/- RyO6 -/
import Derived.Test.YtlaakbmimplceaaDoorFiPe
namespace Go.Sx
noncomputable section
set_option maxRecDepth 100000
theorem kO3 : lAll (ckO 3) (upN 8 0) = true := by kernel_rfl
theorem kO4 : lAll (ckO 4) (upN 16 0) = true := by kernel_rfl
theorem kO5_0 : lAll (ckO 5) (upN 8 0) = true := by kernel_rfl
theorem kO5_1 : lAll (ckO 5) (upN 8 8) = true := by kernel_rfl
theorem kO5_2 : lAll (ckO 5) (upN 8 16) = true := by kernel_rfl
theorem kO5_3 : lAll (ckO 5) (upN 8 24) = true := by kernel_rfl
end
end Go.Sx
namespace Go.Sx
noncomputable section
set_option maxRecDepth 100000
theorem kO6_0 : lAll (ckO 6) (upN 8 0) = true := by kernel_rfl
theorem kO6_1 : lAll (ckO 6) (upN 8 8) = true := by kernel_rfl
theorem kO6_2 : lAll (ckO 6) (upN 8 16) = true := by kernel_rfl
theorem kO6_3 : lAll (ckO 6) (upN 8 24) = true := by kernel_rfl
end
end Go.Sx
