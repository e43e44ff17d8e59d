/- BeK31 -/
import Derived.Test.YtoefmmmfefdcdaaDoorFeA
namespace Go.Sx
open Go.RowKit Go.Proofs
set_option maxRecDepth 100000
theorem ckC66_0_115:lAll (ckOne 6 6 (nodeAt 6 6 0)) (lTake (lDrop (combos (kidsOf 6 6 (nodeAt 6 6 0))) 115) 5)=true:=by kernel_rfl
theorem ckC66_1_0:lAll (ckOne 6 6 (nodeAt 6 6 1)) (lTake (lDrop (combos (kidsOf 6 6 (nodeAt 6 6 1))) 0) 15)=true:=by kernel_rfl
theorem ckC66_1_15:lAll (ckOne 6 6 (nodeAt 6 6 1)) (lTake (lDrop (combos (kidsOf 6 6 (nodeAt 6 6 1))) 15) 15)=true:=by kernel_rfl
end Go.Sx
