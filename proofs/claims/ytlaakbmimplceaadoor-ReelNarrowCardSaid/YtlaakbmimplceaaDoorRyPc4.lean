/- AT WHICH PLACES A REEL CAN BE: the runs, compared with what is said. -/
import Derived.Test.YtlaakbmimplceaaDoorRyPb
/-! AT WHICH PLACES A REEL CAN BE: the runs, compared with what is said. -/
namespace Go.Sx
set_option maxRecDepth 100000
theorem kL4_0_0 : lAll (ckLs 4 0) (upN 8 0) = true := by kernel_rfl
theorem kL4_0_8 : lAll (ckLs 4 0) (upN 8 8) = true := by kernel_rfl
theorem kL4_1_0 : lAll (ckLs 4 1) (upN 8 0) = true := by kernel_rfl
theorem kL4_1_8 : lAll (ckLs 4 1) (upN 8 8) = true := by kernel_rfl
theorem kL4_2_0 : lAll (ckLs 4 2) (upN 8 0) = true := by kernel_rfl
theorem kL4_2_8 : lAll (ckLs 4 2) (upN 8 8) = true := by kernel_rfl
theorem kL4_3_0 : lAll (ckLs 4 3) (upN 8 0) = true := by kernel_rfl
theorem kL4_3_8 : lAll (ckLs 4 3) (upN 8 8) = true := by kernel_rfl
end Go.Sx
