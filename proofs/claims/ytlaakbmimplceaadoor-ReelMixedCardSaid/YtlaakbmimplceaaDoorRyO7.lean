/- RyO7 -/
import Derived.Test.YtlaakbmimplceaaDoorFiPe
namespace Go.Sx
noncomputable section
set_option maxRecDepth 100000
theorem kO6_4 : lAll (ckO 6) (upN 8 32) = true := by kernel_rfl
theorem kO6_5 : lAll (ckO 6) (upN 8 40) = true := by kernel_rfl
theorem kO6_6 : lAll (ckO 6) (upN 8 48) = true := by kernel_rfl
theorem kO6_7 : lAll (ckO 6) (upN 8 56) = true := by kernel_rfl
end
end Go.Sx
