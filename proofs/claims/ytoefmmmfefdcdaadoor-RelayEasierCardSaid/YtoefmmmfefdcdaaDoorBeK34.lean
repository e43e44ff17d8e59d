/- BeK34 -/
import Derived.Test.YtoefmmmfefdcdaaDoorFeA
namespace Go.Sx
open Go.RowKit Go.Proofs
set_option maxRecDepth 100000
theorem ckC64_32_0:lAll (ckOne 6 4 (nodeAt 6 4 32)) (lTake (lDrop (combos (kidsOf 6 4 (nodeAt 6 4 32))) 0) 2)=true:=by kernel_rfl
theorem ckC64_32_2:lAll (ckOne 6 4 (nodeAt 6 4 32)) (lTake (lDrop (combos (kidsOf 6 4 (nodeAt 6 4 32))) 2) 2)=true:=by kernel_rfl
theorem ckC64_32_4:lAll (ckOne 6 4 (nodeAt 6 4 32)) (lTake (lDrop (combos (kidsOf 6 4 (nodeAt 6 4 32))) 4) 2)=true:=by kernel_rfl
end Go.Sx
namespace Go.Sx
open Go.RowKit Go.Proofs
set_option maxRecDepth 100000
theorem ckG66_49:lAll (ckAll 6 6) (lTake (lDrop (nodeTab 6 6) 49) 15)=true:=by kernel_rfl
end Go.Sx
