/- WHO LOOKS FOR AN ORDER: the runs, compared with what is said. -/
import Derived.Test.YtlaakbmimplceaaDoorRyI
/-! WHO LOOKS FOR AN ORDER: the runs, compared with what is said. -/
namespace Go.Sx
set_option maxRecDepth 100000
theorem kP1 : lAll (ckP 1) (upN 2 0) = true := by kernel_rfl
theorem kP2 : lAll (ckP 2) (upN 4 0) = true := by kernel_rfl
theorem kP3 : lAll (ckP 3) (upN 8 0) = true := by kernel_rfl
theorem kP4 : lAll (ckP 4) (upN 16 0) = true := by kernel_rfl
theorem kP5_0 : lAll (ckP 5) (upN 8 0) = true := by kernel_rfl
theorem kP5_1 : lAll (ckP 5) (upN 8 8) = true := by kernel_rfl
theorem kP5_2 : lAll (ckP 5) (upN 8 16) = true := by kernel_rfl
theorem kP5_3 : lAll (ckP 5) (upN 8 24) = true := by kernel_rfl
end Go.Sx
