/- BeK30 -/
import Derived.Test.YtoefmmmfefdcdaaDoorFeA
namespace Go.Sx
open Go.RowKit Go.Proofs
set_option maxRecDepth 100000
theorem ckC66_0_85:lAll (ckOne 6 6 (nodeAt 6 6 0)) (lTake (lDrop (combos (kidsOf 6 6 (nodeAt 6 6 0))) 85) 5)=true:=by kernel_rfl
theorem ckC66_0_90:lAll (ckOne 6 6 (nodeAt 6 6 0)) (lTake (lDrop (combos (kidsOf 6 6 (nodeAt 6 6 0))) 90) 5)=true:=by kernel_rfl
end Go.Sx
namespace Go.Sx
open Go.RowKit Go.Proofs
set_option maxRecDepth 100000
theorem ckC66_0_95:lAll (ckOne 6 6 (nodeAt 6 6 0)) (lTake (lDrop (combos (kidsOf 6 6 (nodeAt 6 6 0))) 95) 5)=true:=by kernel_rfl
theorem ckC66_0_100:lAll (ckOne 6 6 (nodeAt 6 6 0)) (lTake (lDrop (combos (kidsOf 6 6 (nodeAt 6 6 0))) 100) 5)=true:=by kernel_rfl
end Go.Sx
namespace Go.Sx
open Go.RowKit Go.Proofs
set_option maxRecDepth 100000
theorem ckC66_0_105:lAll (ckOne 6 6 (nodeAt 6 6 0)) (lTake (lDrop (combos (kidsOf 6 6 (nodeAt 6 6 0))) 105) 5)=true:=by kernel_rfl
theorem ckC66_0_110:lAll (ckOne 6 6 (nodeAt 6 6 0)) (lTake (lDrop (combos (kidsOf 6 6 (nodeAt 6 6 0))) 110) 5)=true:=by kernel_rfl
end Go.Sx
