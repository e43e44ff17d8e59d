/- BeK12 -/
import Derived.Test.YtoefmmmfefdcdaaDoorFeA
namespace Go.Sx
open Go.RowKit Go.Proofs
set_option maxRecDepth 100000
theorem ckG64_33:lAll (ckAll 6 4) (lTake (lDrop (nodeTab 6 4) 33) 15)=true:=by kernel_rfl
theorem ckG64_48:lAll (ckAll 6 4) (lTake (lDrop (nodeTab 6 4) 48) 12)=true:=by kernel_rfl
theorem ckC65_0_0:lAll (ckOne 6 5 (nodeAt 6 5 0)) (lTake (lDrop (combos (kidsOf 6 5 (nodeAt 6 5 0))) 0) 15)=true:=by kernel_rfl
end Go.Sx
