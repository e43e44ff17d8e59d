/- WHO LOOKS FOR AN ORDER: the runs, compared with what is said. -/
import Derived.Test.YtlaakbmimplceaaDoorRyI
/-! WHO LOOKS FOR AN ORDER: the runs, compared with what is said. -/
namespace Go.Sx
set_option maxRecDepth 100000
theorem kC6_12 : lAll (ckC 6) (upN 4 48) = true := by kernel_rfl
theorem kC6_13 : lAll (ckC 6) (upN 4 52) = true := by kernel_rfl
end Go.Sx
