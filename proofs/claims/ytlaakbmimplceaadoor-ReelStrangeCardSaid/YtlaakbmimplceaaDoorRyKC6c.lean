/- WHO LOOKS FOR AN ORDER: the runs, compared with what is said. -/
import Derived.Test.YtlaakbmimplceaaDoorRyI
/-! WHO LOOKS FOR AN ORDER: the runs, compared with what is said. -/
namespace Go.Sx
set_option maxRecDepth 100000
theorem kC6_8 : lAll (ckC 6) (upN 4 32) = true := by kernel_rfl
theorem kC6_9 : lAll (ckC 6) (upN 4 36) = true := by kernel_rfl
theorem kC6_10 : lAll (ckC 6) (upN 4 40) = true := by kernel_rfl
theorem kC6_11 : lAll (ckC 6) (upN 4 44) = true := by kernel_rfl
end Go.Sx
