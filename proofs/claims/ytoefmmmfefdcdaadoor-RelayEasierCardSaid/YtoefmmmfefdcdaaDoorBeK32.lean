/- BeK32 -/
import Derived.Test.YtoefmmmfefdcdaaDoorFeA
namespace Go.Sx
open Go.RowKit Go.Proofs
set_option maxRecDepth 100000
theorem ckG65_2:lAll (ckAll 6 5) (lTake (lDrop (nodeTab 6 5) 2) 17)=true:=by kernel_rfl
theorem ckG65_19:lAll (ckAll 6 5) (lTake (lDrop (nodeTab 6 5) 19) 14)=true:=by kernel_rfl
theorem ckC65_33_0:lAll (ckOne 6 5 (nodeAt 6 5 33)) (lTake (lDrop (combos (kidsOf 6 5 (nodeAt 6 5 33))) 0) 2)=true:=by kernel_rfl
end Go.Sx
namespace Go.Sx
open Go.RowKit Go.Proofs
set_option maxRecDepth 100000
theorem ckG66_2:lAll (ckAll 6 6) (lTake (lDrop (nodeTab 6 6) 2) 17)=true:=by kernel_rfl
theorem ckG66_19:lAll (ckAll 6 6) (lTake (lDrop (nodeTab 6 6) 19) 14)=true:=by kernel_rfl
theorem ckC66_33_0:lAll (ckOne 6 6 (nodeAt 6 6 33)) (lTake (lDrop (combos (kidsOf 6 6 (nodeAt 6 6 33))) 0) 2)=true:=by kernel_rfl
end Go.Sx
