/- RyKC6e -/
import Derived.Test.YtlaakbmimplceaaDoorRyI
namespace Go.Sx
noncomputable section
set_option maxRecDepth 100000
theorem kC6_12 : lAll (ckC 6) (upN 4 48) = true := by kernel_rfl
theorem kC6_13 : lAll (ckC 6) (upN 4 52) = true := by kernel_rfl
end
end Go.Sx
namespace Go.Sx
noncomputable section
set_option maxRecDepth 100000
theorem kC6_14 : lAll (ckC 6) (upN 4 56) = true := by kernel_rfl
theorem kC6_15a : lAll (ckC 6) (upN 2 60) = true := by kernel_rfl
end
end Go.Sx
