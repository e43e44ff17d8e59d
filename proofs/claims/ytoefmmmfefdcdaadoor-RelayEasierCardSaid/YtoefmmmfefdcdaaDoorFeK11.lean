/- FeK11 -/
import Derived.Test.YtoefmmmfefdcdaaDoorFeA
namespace Go.Sx
open Go.RowKit Go.Proofs
set_option maxRecDepth 100000
theorem ckFC65_0_0:lAll (ckFo 6 5 (nodeAt 6 5 0)) (lTake (lDrop (combos (kidsOf 6 5 (nodeAt 6 5 0))) 0) 27)=true:=by kernel_rfl
theorem ckFC65_0_27:lAll (ckFo 6 5 (nodeAt 6 5 0)) (lTake (lDrop (combos (kidsOf 6 5 (nodeAt 6 5 0))) 27) 27)=true:=by kernel_rfl
end Go.Sx
