/- BeK09 -/
import Derived.Test.YtoefmmmfefdcdaaDoorBeT
namespace Go.Sx
open Go.RowKit Go.Proofs
set_option maxRecDepth 100000
theorem ckC64_0_40 : lAll (ckOne 6 4 (nodeAt 6 4 0)) (lTake (lDrop (combos (kidsOf 6 4 (nodeAt 6 4 0))) 40) 40) = true := by kernel_rfl
theorem ckC64_0_80 : lAll (ckOne 6 4 (nodeAt 6 4 0)) (lTake (lDrop (combos (kidsOf 6 4 (nodeAt 6 4 0))) 80) 40) = true := by kernel_rfl
end Go.Sx
