/- HOW MANY ORDERS: the runs, compared with what is said. -/
import Derived.Test.YtlaakbmimplceaaDoorRyO
/-! HOW MANY ORDERS: the runs, compared with what is said. -/
namespace Go.Sx
set_option maxRecDepth 100000
theorem kO6_4 : lAll (ckO 6) (upN 8 32) = true := by kernel_rfl
theorem kO6_5 : lAll (ckO 6) (upN 8 40) = true := by kernel_rfl
theorem kO6_6 : lAll (ckO 6) (upN 8 48) = true := by kernel_rfl
theorem kO6_7 : lAll (ckO 6) (upN 8 56) = true := by kernel_rfl
end Go.Sx
