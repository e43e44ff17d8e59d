/- BeK04 -/
import Derived.Test.YtoefmmmfefdcdaaDoorBeT
namespace Go.Sx
open Go.RowKit Go.Proofs
set_option maxRecDepth 100000
theorem ckG55_22 : lAll (ckAll 5 5) (lTake (lDrop (nodeTab 5 5) 22) 10) = true := by kernel_rfl
theorem ckC56_0_0 : lAll (ckOne 5 6 (nodeAt 5 6 0)) (lTake (lDrop (combos (kidsOf 5 6 (nodeAt 5 6 0))) 0) 15) = true := by kernel_rfl
theorem ckC56_0_15 : lAll (ckOne 5 6 (nodeAt 5 6 0)) (lTake (lDrop (combos (kidsOf 5 6 (nodeAt 5 6 0))) 15) 15) = true := by kernel_rfl
end Go.Sx
