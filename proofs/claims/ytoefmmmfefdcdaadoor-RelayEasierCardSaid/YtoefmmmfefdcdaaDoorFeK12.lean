/- FeK12 -/
import Derived.Test.YtoefmmmfefdcdaaDoorFeA
namespace Go.Sx
open Go.RowKit Go.Proofs
set_option maxRecDepth 100000
theorem ckFC65_0_54:lAll (ckFo 6 5 (nodeAt 6 5 0)) (lTake (lDrop (combos (kidsOf 6 5 (nodeAt 6 5 0))) 54) 27)=true:=by kernel_rfl
theorem ckFC65_0_81:lAll (ckFo 6 5 (nodeAt 6 5 0)) (lTake (lDrop (combos (kidsOf 6 5 (nodeAt 6 5 0))) 81) 27)=true:=by kernel_rfl
theorem ckFC65_0_108:lAll (ckFo 6 5 (nodeAt 6 5 0)) (lTake (lDrop (combos (kidsOf 6 5 (nodeAt 6 5 0))) 108) 27)=true:=by kernel_rfl
end Go.Sx
