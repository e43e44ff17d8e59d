/- BeK33 -/
import Derived.Test.YtoefmmmfefdcdaaDoorFeA
namespace Go.Sx
open Go.RowKit Go.Proofs
set_option maxRecDepth 100000
theorem ckC65_33_2:lAll (ckOne 6 5 (nodeAt 6 5 33)) (lTake (lDrop (combos (kidsOf 6 5 (nodeAt 6 5 33))) 2) 2)=true:=by kernel_rfl
theorem ckC65_33_4:lAll (ckOne 6 5 (nodeAt 6 5 33)) (lTake (lDrop (combos (kidsOf 6 5 (nodeAt 6 5 33))) 4) 2)=true:=by kernel_rfl
theorem ckG65_34:lAll (ckAll 6 5) (lTake (lDrop (nodeTab 6 5) 34) 15)=true:=by kernel_rfl
end Go.Sx
namespace Go.Sx
open Go.RowKit Go.Proofs
set_option maxRecDepth 100000
theorem ckC66_33_2:lAll (ckOne 6 6 (nodeAt 6 6 33)) (lTake (lDrop (combos (kidsOf 6 6 (nodeAt 6 6 33))) 2) 2)=true:=by kernel_rfl
theorem ckC66_33_4:lAll (ckOne 6 6 (nodeAt 6 6 33)) (lTake (lDrop (combos (kidsOf 6 6 (nodeAt 6 6 33))) 4) 2)=true:=by kernel_rfl
theorem ckG66_34:lAll (ckAll 6 6) (lTake (lDrop (nodeTab 6 6) 34) 15)=true:=by kernel_rfl
end Go.Sx
