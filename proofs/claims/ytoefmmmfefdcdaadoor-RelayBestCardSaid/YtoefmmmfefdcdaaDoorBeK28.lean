/- BeK28 -/
import Derived.Test.YtoefmmmfefdcdaaDoorBeT
namespace Go.Sx
open Go.RowKit Go.Proofs
set_option maxRecDepth 100000
theorem ckC66_0_75 : lAll (ckOne 6 6 (nodeAt 6 6 0)) (lTake (lDrop (combos (kidsOf 6 6 (nodeAt 6 6 0))) 75) 5) = true := by kernel_rfl
theorem ckC66_0_80 : lAll (ckOne 6 6 (nodeAt 6 6 0)) (lTake (lDrop (combos (kidsOf 6 6 (nodeAt 6 6 0))) 80) 5) = true := by kernel_rfl
end Go.Sx
namespace Go.Sx
open Go.RowKit Go.Proofs
set_option maxRecDepth 100000
theorem ckC66_0_85 : lAll (ckOne 6 6 (nodeAt 6 6 0)) (lTake (lDrop (combos (kidsOf 6 6 (nodeAt 6 6 0))) 85) 5) = true := by kernel_rfl
theorem ckC66_0_90 : lAll (ckOne 6 6 (nodeAt 6 6 0)) (lTake (lDrop (combos (kidsOf 6 6 (nodeAt 6 6 0))) 90) 5) = true := by kernel_rfl
end Go.Sx
