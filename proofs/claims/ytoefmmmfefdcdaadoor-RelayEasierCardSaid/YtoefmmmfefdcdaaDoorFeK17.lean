/- FeK17 -/
import Derived.Test.YtoefmmmfefdcdaaDoorFeA
namespace Go.Sx
open Go.RowKit Go.Proofs
set_option maxRecDepth 100000
theorem ckFC66_0_56:lAll (ckFo 6 6 (nodeAt 6 6 0)) (lTake (lDrop (combos (kidsOf 6 6 (nodeAt 6 6 0))) 56) 14)=true:=by kernel_rfl
theorem ckFC66_0_70:lAll (ckFo 6 6 (nodeAt 6 6 0)) (lTake (lDrop (combos (kidsOf 6 6 (nodeAt 6 6 0))) 70) 14)=true:=by kernel_rfl
end Go.Sx
