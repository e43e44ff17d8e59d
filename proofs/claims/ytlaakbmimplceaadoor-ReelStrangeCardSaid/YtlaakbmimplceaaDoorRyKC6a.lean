/- WHO LOOKS FOR AN ORDER: the runs, compared with what is said. -/
import Derived.Test.YtlaakbmimplceaaDoorRyI
/-! WHO LOOKS FOR AN ORDER: the runs, compared with what is said. -/
namespace Go.Sx
set_option maxRecDepth 100000
theorem kC6_0 : lAll (ckC 6) (upN 4 0) = true := by kernel_rfl
theorem kC6_1 : lAll (ckC 6) (upN 4 4) = true := by kernel_rfl
theorem kC6_2 : lAll (ckC 6) (upN 4 8) = true := by kernel_rfl
theorem kC6_3 : lAll (ckC 6) (upN 4 12) = true := by kernel_rfl
end Go.Sx
