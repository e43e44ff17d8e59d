/- BeK03 -/
import Derived.Test.YtoefmmmfefdcdaaDoorFeA
namespace Go.Sx
open Go.RowKit Go.Proofs
set_option maxRecDepth 100000
theorem ckC55_0_0:lAll (ckOne 5 5 (nodeAt 5 5 0)) (lTake (lDrop (combos (kidsOf 5 5 (nodeAt 5 5 0))) 0) 15)=true:=by kernel_rfl
theorem ckC55_0_15:lAll (ckOne 5 5 (nodeAt 5 5 0)) (lTake (lDrop (combos (kidsOf 5 5 (nodeAt 5 5 0))) 15) 15)=true:=by kernel_rfl
theorem ckG55_1:lAll (ckAll 5 5) (lTake (lDrop (nodeTab 5 5) 1) 21)=true:=by kernel_rfl
end Go.Sx
