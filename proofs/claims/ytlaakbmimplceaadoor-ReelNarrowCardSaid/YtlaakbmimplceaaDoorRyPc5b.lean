/- AT WHICH PLACES A REEL CAN BE: the runs, compared with what is said. -/
import Derived.Test.YtlaakbmimplceaaDoorRyPb
/-! AT WHICH PLACES A REEL CAN BE: the runs, compared with what is said. -/
namespace Go.Sx
set_option maxRecDepth 100000
theorem kL5_3_0 : lAll (ckLs 5 3) (upN 8 0) = true := by kernel_rfl
theorem kL5_3_8 : lAll (ckLs 5 3) (upN 8 8) = true := by kernel_rfl
theorem kL5_3_16 : lAll (ckLs 5 3) (upN 8 16) = true := by kernel_rfl
theorem kL5_3_24 : lAll (ckLs 5 3) (upN 8 24) = true := by kernel_rfl
theorem kL5_4_0 : lAll (ckLs 5 4) (upN 8 0) = true := by kernel_rfl
theorem kL5_4_8 : lAll (ckLs 5 4) (upN 8 8) = true := by kernel_rfl
theorem kL5_4_16 : lAll (ckLs 5 4) (upN 8 16) = true := by kernel_rfl
theorem kL5_4_24 : lAll (ckLs 5 4) (upN 8 24) = true := by kernel_rfl
end Go.Sx
