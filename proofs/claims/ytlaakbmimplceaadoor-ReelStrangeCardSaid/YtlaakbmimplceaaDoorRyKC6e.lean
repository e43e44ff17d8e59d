/- WHO LOOKS FOR AN ORDER: the runs, compared with what is said. -/
import Derived.Test.YtlaakbmimplceaaDoorRyI
/-! WHO LOOKS FOR AN ORDER: the runs, compared with what is said. -/
namespace Go.Sx
set_option maxRecDepth 100000
theorem kC6_14 : lAll (ckC 6) (upN 4 56) = true := by kernel_rfl
theorem kC6_15a : lAll (ckC 6) (upN 2 60) = true := by kernel_rfl
end Go.Sx
