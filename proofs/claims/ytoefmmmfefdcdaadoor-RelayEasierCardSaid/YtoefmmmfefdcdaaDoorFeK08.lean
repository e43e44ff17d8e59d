/- FeK08 -/
import Derived.Test.YtoefmmmfefdcdaaDoorFeA
namespace Go.Sx
open Go.RowKit Go.Proofs
set_option maxRecDepth 100000
theorem ckFC64_0_0:lAll (ckFo 6 4 (nodeAt 6 4 0)) (lTake (lDrop (combos (kidsOf 6 4 (nodeAt 6 4 0))) 0) 50)=true:=by kernel_rfl
theorem ckFC64_0_50:lAll (ckFo 6 4 (nodeAt 6 4 0)) (lTake (lDrop (combos (kidsOf 6 4 (nodeAt 6 4 0))) 50) 50)=true:=by kernel_rfl
theorem ckFC64_0_100:lAll (ckFo 6 4 (nodeAt 6 4 0)) (lTake (lDrop (combos (kidsOf 6 4 (nodeAt 6 4 0))) 100) 50)=true:=by kernel_rfl
end Go.Sx
