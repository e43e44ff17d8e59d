/- BeK16 -/
import Derived.Test.YtoefmmmfefdcdaaDoorFeA
namespace Go.Sx
open Go.RowKit Go.Proofs
set_option maxRecDepth 100000
theorem ckC65_0_105:lAll (ckOne 6 5 (nodeAt 6 5 0)) (lTake (lDrop (combos (kidsOf 6 5 (nodeAt 6 5 0))) 105) 15)=true:=by kernel_rfl
theorem ckC65_1_0:lAll (ckOne 6 5 (nodeAt 6 5 1)) (lTake (lDrop (combos (kidsOf 6 5 (nodeAt 6 5 1))) 0) 15)=true:=by kernel_rfl
theorem ckC65_1_15:lAll (ckOne 6 5 (nodeAt 6 5 1)) (lTake (lDrop (combos (kidsOf 6 5 (nodeAt 6 5 1))) 15) 15)=true:=by kernel_rfl
end Go.Sx
