/- WHO LOOKS FOR AN ORDER: the runs, compared with what is said. -/
import Derived.Test.YtlaakbmimplceaaDoorRyI
/-! WHO LOOKS FOR AN ORDER: the runs, compared with what is said. -/
namespace Go.Sx
set_option maxRecDepth 100000
theorem kC6_4 : lAll (ckC 6) (upN 4 16) = true := by kernel_rfl
theorem kC6_5 : lAll (ckC 6) (upN 4 20) = true := by kernel_rfl
theorem kC6_6 : lAll (ckC 6) (upN 4 24) = true := by kernel_rfl
theorem kC6_7 : lAll (ckC 6) (upN 4 28) = true := by kernel_rfl
end Go.Sx
