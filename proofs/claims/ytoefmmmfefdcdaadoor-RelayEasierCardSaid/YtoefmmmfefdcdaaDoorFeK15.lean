/- FeK15 -/
import Derived.Test.YtoefmmmfefdcdaaDoorFeA
namespace Go.Sx
open Go.RowKit Go.Proofs
set_option maxRecDepth 100000
theorem ckFG62_0:lAll (ckFa 6 2) (lTake (lDrop (nodeTab 6 2) 0) 21)=true:=by kernel_rfl
theorem ckFG62_21:lAll (ckFa 6 2) (lTake (lDrop (nodeTab 6 2) 21) 12)=true:=by kernel_rfl
end Go.Sx
namespace Go.Sx
open Go.RowKit Go.Proofs
set_option maxRecDepth 100000
theorem ckFC66_0_0:lAll (ckFo 6 6 (nodeAt 6 6 0)) (lTake (lDrop (combos (kidsOf 6 6 (nodeAt 6 6 0))) 0) 14)=true:=by kernel_rfl
theorem ckFC66_0_14:lAll (ckFo 6 6 (nodeAt 6 6 0)) (lTake (lDrop (combos (kidsOf 6 6 (nodeAt 6 6 0))) 14) 14)=true:=by kernel_rfl
end Go.Sx
