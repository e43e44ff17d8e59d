/- WHO LOOKS FOR AN ORDER: the runs, compared with what is said. -/
import Derived.Test.YtlaakbmimplceaaDoorRyI
/-! WHO LOOKS FOR AN ORDER: the runs, compared with what is said. -/
namespace Go.Sx
set_option maxRecDepth 100000
theorem kP6_0 : lAll (ckP 6) (upN 8 0) = true := by kernel_rfl
theorem kP6_1 : lAll (ckP 6) (upN 8 8) = true := by kernel_rfl
theorem kP6_2 : lAll (ckP 6) (upN 8 16) = true := by kernel_rfl
theorem kP6_3 : lAll (ckP 6) (upN 8 24) = true := by kernel_rfl
theorem kP6_4 : lAll (ckP 6) (upN 8 32) = true := by kernel_rfl
theorem kP6_5 : lAll (ckP 6) (upN 8 40) = true := by kernel_rfl
theorem kP6_6 : lAll (ckP 6) (upN 8 48) = true := by kernel_rfl
theorem kP6_7 : lAll (ckP 6) (upN 8 56) = true := by kernel_rfl
end Go.Sx
