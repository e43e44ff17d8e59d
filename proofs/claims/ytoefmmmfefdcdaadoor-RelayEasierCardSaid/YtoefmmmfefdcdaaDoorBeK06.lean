/- BeK06 -/
import Derived.Test.YtoefmmmfefdcdaaDoorFeA
namespace Go.Sx
open Go.RowKit Go.Proofs
set_option maxRecDepth 100000
theorem ckG55_22:lAll (ckAll 5 5) (lTake (lDrop (nodeTab 5 5) 22) 10)=true:=by kernel_rfl
theorem ckC56_0_0:lAll (ckOne 5 6 (nodeAt 5 6 0)) (lTake (lDrop (combos (kidsOf 5 6 (nodeAt 5 6 0))) 0) 15)=true:=by kernel_rfl
theorem ckC56_0_15:lAll (ckOne 5 6 (nodeAt 5 6 0)) (lTake (lDrop (combos (kidsOf 5 6 (nodeAt 5 6 0))) 15) 15)=true:=by kernel_rfl
end Go.Sx
namespace Go.Sx
open Go.RowKit Go.Proofs
set_option maxRecDepth 100000
theorem ckG62_20:lAll (ckAll 6 2) (lTake (lDrop (nodeTab 6 2) 20) 11)=true:=by kernel_rfl
theorem ckG62_31:lAll (ckAll 6 2) (lTake (lDrop (nodeTab 6 2) 31) 2)=true:=by kernel_rfl
theorem ckG63_0:lAll (ckAll 6 3) (lTake (lDrop (nodeTab 6 3) 0) 2)=true:=by kernel_rfl
end Go.Sx
