/- FeK16 -/
import Derived.Test.YtoefmmmfefdcdaaDoorFeA
namespace Go.Sx
open Go.RowKit Go.Proofs
set_option maxRecDepth 100000
theorem ckFC66_0_28:lAll (ckFo 6 6 (nodeAt 6 6 0)) (lTake (lDrop (combos (kidsOf 6 6 (nodeAt 6 6 0))) 28) 14)=true:=by kernel_rfl
theorem ckFC66_0_42:lAll (ckFo 6 6 (nodeAt 6 6 0)) (lTake (lDrop (combos (kidsOf 6 6 (nodeAt 6 6 0))) 42) 14)=true:=by kernel_rfl
end Go.Sx
