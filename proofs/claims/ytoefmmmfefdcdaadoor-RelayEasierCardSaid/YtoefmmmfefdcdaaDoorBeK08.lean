/- BeK08 -/
import Derived.Test.YtoefmmmfefdcdaaDoorFeA
namespace Go.Sx
open Go.RowKit Go.Proofs
set_option maxRecDepth 100000
theorem ckG63_30:lAll (ckAll 6 3) (lTake (lDrop (nodeTab 6 3) 30) 14)=true:=by kernel_rfl
theorem ckG63_44:lAll (ckAll 6 3) (lTake (lDrop (nodeTab 6 3) 44) 8)=true:=by kernel_rfl
theorem ckC64_0_0:lAll (ckOne 6 4 (nodeAt 6 4 0)) (lTake (lDrop (combos (kidsOf 6 4 (nodeAt 6 4 0))) 0) 40)=true:=by kernel_rfl
end Go.Sx
