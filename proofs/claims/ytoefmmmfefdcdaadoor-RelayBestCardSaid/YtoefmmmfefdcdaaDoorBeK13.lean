/- BeK13 -/
import Derived.Test.YtoefmmmfefdcdaaDoorBeT
namespace Go.Sx
open Go.RowKit Go.Proofs
set_option maxRecDepth 100000
theorem ckC65_0_15 : lAll (ckOne 6 5 (nodeAt 6 5 0)) (lTake (lDrop (combos (kidsOf 6 5 (nodeAt 6 5 0))) 15) 15) = true := by kernel_rfl
theorem ckC65_0_30 : lAll (ckOne 6 5 (nodeAt 6 5 0)) (lTake (lDrop (combos (kidsOf 6 5 (nodeAt 6 5 0))) 30) 15) = true := by kernel_rfl
end Go.Sx
