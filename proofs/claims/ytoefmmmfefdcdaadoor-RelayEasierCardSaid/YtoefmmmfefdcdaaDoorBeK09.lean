/- BeK09 -/
import Derived.Test.YtoefmmmfefdcdaaDoorFeA
namespace Go.Sx
open Go.RowKit Go.Proofs
set_option maxRecDepth 100000
theorem ckG11_0:lAll (ckAll 1 1) (lTake (lDrop (nodeTab 1 1) 0) 2)=true:=by kernel_rfl
theorem ckG12_0:lAll (ckAll 1 2) (lTake (lDrop (nodeTab 1 2) 0) 2)=true:=by kernel_rfl
theorem ckG21_0:lAll (ckAll 2 1) (lTake (lDrop (nodeTab 2 1) 0) 3)=true:=by kernel_rfl
theorem ckG22_0:lAll (ckAll 2 2) (lTake (lDrop (nodeTab 2 2) 0) 4)=true:=by kernel_rfl
theorem ckG23_0:lAll (ckAll 2 3) (lTake (lDrop (nodeTab 2 3) 0) 4)=true:=by kernel_rfl
theorem ckG31_0:lAll (ckAll 3 1) (lTake (lDrop (nodeTab 3 1) 0) 4)=true:=by kernel_rfl
theorem ckG32_0:lAll (ckAll 3 2) (lTake (lDrop (nodeTab 3 2) 0) 7)=true:=by kernel_rfl
theorem ckG33_0:lAll (ckAll 3 3) (lTake (lDrop (nodeTab 3 3) 0) 8)=true:=by kernel_rfl
theorem ckG34_0:lAll (ckAll 3 4) (lTake (lDrop (nodeTab 3 4) 0) 8)=true:=by kernel_rfl
theorem ckG41_0:lAll (ckAll 4 1) (lTake (lDrop (nodeTab 4 1) 0) 5)=true:=by kernel_rfl
theorem ckG42_0:lAll (ckAll 4 2) (lTake (lDrop (nodeTab 4 2) 0) 12)=true:=by kernel_rfl
theorem ckG43_0:lAll (ckAll 4 3) (lTake (lDrop (nodeTab 4 3) 0) 15)=true:=by kernel_rfl
theorem ckG44_0:lAll (ckAll 4 4) (lTake (lDrop (nodeTab 4 4) 0) 16)=true:=by kernel_rfl
theorem ckG45_0:lAll (ckAll 4 5) (lTake (lDrop (nodeTab 4 5) 0) 16)=true:=by kernel_rfl
theorem ckG51_0:lAll (ckAll 5 1) (lTake (lDrop (nodeTab 5 1) 0) 6)=true:=by kernel_rfl
end Go.Sx
namespace Go.Sx
open Go.RowKit Go.Proofs
set_option maxRecDepth 100000
theorem ckC64_0_40:lAll (ckOne 6 4 (nodeAt 6 4 0)) (lTake (lDrop (combos (kidsOf 6 4 (nodeAt 6 4 0))) 40) 40)=true:=by kernel_rfl
theorem ckC64_0_80:lAll (ckOne 6 4 (nodeAt 6 4 0)) (lTake (lDrop (combos (kidsOf 6 4 (nodeAt 6 4 0))) 80) 40)=true:=by kernel_rfl
end Go.Sx
