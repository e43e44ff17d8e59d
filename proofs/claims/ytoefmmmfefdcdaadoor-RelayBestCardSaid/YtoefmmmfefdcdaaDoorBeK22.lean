/- BeK22 -/
import Derived.Test.YtoefmmmfefdcdaaDoorBeT
namespace Go.Sx
open Go.RowKit Go.Proofs
set_option maxRecDepth 100000
theorem ckC66_0_15 : lAll (ckOne 6 6 (nodeAt 6 6 0)) (lTake (lDrop (combos (kidsOf 6 6 (nodeAt 6 6 0))) 15) 5) = true := by kernel_rfl
theorem ckC66_0_20 : lAll (ckOne 6 6 (nodeAt 6 6 0)) (lTake (lDrop (combos (kidsOf 6 6 (nodeAt 6 6 0))) 20) 5) = true := by kernel_rfl
end Go.Sx
namespace Go.Sx
open Go.RowKit Go.Proofs
set_option maxRecDepth 100000
theorem ckC66_0_25 : lAll (ckOne 6 6 (nodeAt 6 6 0)) (lTake (lDrop (combos (kidsOf 6 6 (nodeAt 6 6 0))) 25) 5) = true := by kernel_rfl
theorem ckC66_0_30 : lAll (ckOne 6 6 (nodeAt 6 6 0)) (lTake (lDrop (combos (kidsOf 6 6 (nodeAt 6 6 0))) 30) 5) = true := by kernel_rfl
end Go.Sx
