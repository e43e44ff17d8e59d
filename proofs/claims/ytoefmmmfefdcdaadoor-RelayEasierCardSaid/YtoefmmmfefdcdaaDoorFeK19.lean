/- FeK19 -/
import Derived.Test.YtoefmmmfefdcdaaDoorFeA
namespace Go.Sx
open Go.RowKit Go.Proofs
set_option maxRecDepth 100000
theorem ckFC66_0_112:lAll (ckFo 6 6 (nodeAt 6 6 0)) (lTake (lDrop (combos (kidsOf 6 6 (nodeAt 6 6 0))) 112) 14)=true:=by kernel_rfl
theorem ckFG66_1:lAll (ckFa 6 6) (lTake (lDrop (nodeTab 6 6) 1) 2)=true:=by kernel_rfl
end Go.Sx
