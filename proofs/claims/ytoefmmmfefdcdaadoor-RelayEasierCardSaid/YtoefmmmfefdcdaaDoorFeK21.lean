/- FeK21 -/
import Derived.Test.YtoefmmmfefdcdaaDoorFeA
namespace Go.Sx
open Go.RowKit Go.Proofs
set_option maxRecDepth 100000
theorem ckFG66_3:lAll (ckFa 6 6) (lTake (lDrop (nodeTab 6 6) 3) 28)=true:=by kernel_rfl
theorem ckFG66_31:lAll (ckFa 6 6) (lTake (lDrop (nodeTab 6 6) 31) 3)=true:=by kernel_rfl
end Go.Sx
namespace Go.Sx
open Go.RowKit Go.Proofs
set_option maxRecDepth 100000
theorem ckFG66_34:lAll (ckFa 6 6) (lTake (lDrop (nodeTab 6 6) 34) 21)=true:=by kernel_rfl
theorem ckFG66_55:lAll (ckFa 6 6) (lTake (lDrop (nodeTab 6 6) 55) 9)=true:=by kernel_rfl
theorem ckFC66_0_98:lAll (ckFo 6 6 (nodeAt 6 6 0)) (lTake (lDrop (combos (kidsOf 6 6 (nodeAt 6 6 0))) 98) 14)=true:=by kernel_rfl
end Go.Sx
