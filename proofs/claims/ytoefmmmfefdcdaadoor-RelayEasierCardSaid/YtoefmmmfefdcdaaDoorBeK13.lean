/- BeK13 -/
import Derived.Test.YtoefmmmfefdcdaaDoorFeA
namespace Go.Sx
open Go.RowKit Go.Proofs
set_option maxRecDepth 100000
theorem ckG64_1:lAll (ckAll 6 4) (lTake (lDrop (nodeTab 6 4) 1) 10)=true:=by kernel_rfl
theorem ckG64_11:lAll (ckAll 6 4) (lTake (lDrop (nodeTab 6 4) 11) 16)=true:=by kernel_rfl
theorem ckG64_27:lAll (ckAll 6 4) (lTake (lDrop (nodeTab 6 4) 27) 5)=true:=by kernel_rfl
end Go.Sx
namespace Go.Sx
open Go.RowKit Go.Proofs
set_option maxRecDepth 100000
theorem ckC65_0_15:lAll (ckOne 6 5 (nodeAt 6 5 0)) (lTake (lDrop (combos (kidsOf 6 5 (nodeAt 6 5 0))) 15) 15)=true:=by kernel_rfl
theorem ckC65_0_30:lAll (ckOne 6 5 (nodeAt 6 5 0)) (lTake (lDrop (combos (kidsOf 6 5 (nodeAt 6 5 0))) 30) 15)=true:=by kernel_rfl
end Go.Sx
