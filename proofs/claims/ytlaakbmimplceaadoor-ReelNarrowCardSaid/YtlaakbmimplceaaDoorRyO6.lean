/- HOW MANY ORDERS: the runs, compared with what is said. -/
import Derived.Test.YtlaakbmimplceaaDoorRyO
/-! HOW MANY ORDERS: the runs, compared with what is said. -/
namespace Go.Sx
set_option maxRecDepth 100000
theorem kO6_0 : lAll (ckO 6) (upN 8 0) = true := by kernel_rfl
theorem kO6_1 : lAll (ckO 6) (upN 8 8) = true := by kernel_rfl
theorem kO6_2 : lAll (ckO 6) (upN 8 16) = true := by kernel_rfl
theorem kO6_3 : lAll (ckO 6) (upN 8 24) = true := by kernel_rfl
end Go.Sx
