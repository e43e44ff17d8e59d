/- FeK01 -/
import Derived.Test.YtoefmmmfefdcdaaDoorFeA
namespace Go.Sx
open Go.RowKit Go.Proofs
set_option maxRecDepth 100000
theorem ckFG11_0:lAll (ckFa 1 1) (lTake (lDrop (nodeTab 1 1) 0) 2)=true:=by kernel_rfl
theorem ckFG12_0:lAll (ckFa 1 2) (lTake (lDrop (nodeTab 1 2) 0) 2)=true:=by kernel_rfl
theorem ckFG21_0:lAll (ckFa 2 1) (lTake (lDrop (nodeTab 2 1) 0) 3)=true:=by kernel_rfl
theorem ckFG22_0:lAll (ckFa 2 2) (lTake (lDrop (nodeTab 2 2) 0) 4)=true:=by kernel_rfl
theorem ckFG23_0:lAll (ckFa 2 3) (lTake (lDrop (nodeTab 2 3) 0) 4)=true:=by kernel_rfl
theorem ckFG31_0:lAll (ckFa 3 1) (lTake (lDrop (nodeTab 3 1) 0) 4)=true:=by kernel_rfl
theorem ckFG32_0:lAll (ckFa 3 2) (lTake (lDrop (nodeTab 3 2) 0) 7)=true:=by kernel_rfl
theorem ckFG33_0:lAll (ckFa 3 3) (lTake (lDrop (nodeTab 3 3) 0) 8)=true:=by kernel_rfl
theorem ckFG34_0:lAll (ckFa 3 4) (lTake (lDrop (nodeTab 3 4) 0) 8)=true:=by kernel_rfl
theorem ckFG41_0:lAll (ckFa 4 1) (lTake (lDrop (nodeTab 4 1) 0) 5)=true:=by kernel_rfl
theorem ckFG42_0:lAll (ckFa 4 2) (lTake (lDrop (nodeTab 4 2) 0) 12)=true:=by kernel_rfl
theorem ckFG43_0:lAll (ckFa 4 3) (lTake (lDrop (nodeTab 4 3) 0) 15)=true:=by kernel_rfl
theorem ckFG44_0:lAll (ckFa 4 4) (lTake (lDrop (nodeTab 4 4) 0) 16)=true:=by kernel_rfl
theorem ckFG45_0:lAll (ckFa 4 5) (lTake (lDrop (nodeTab 4 5) 0) 16)=true:=by kernel_rfl
theorem ckFG51_0:lAll (ckFa 5 1) (lTake (lDrop (nodeTab 5 1) 0) 6)=true:=by kernel_rfl
end Go.Sx
namespace Go.Sx
open Go.RowKit Go.Proofs
set_option maxRecDepth 100000
theorem ckFG52_0:lAll (ckFa 5 2) (lTake (lDrop (nodeTab 5 2) 0) 20)=true:=by kernel_rfl
theorem ckFG53_0:lAll (ckFa 5 3) (lTake (lDrop (nodeTab 5 3) 0) 22)=true:=by kernel_rfl
theorem ckFG53_22:lAll (ckFa 5 3) (lTake (lDrop (nodeTab 5 3) 22) 6)=true:=by kernel_rfl
end Go.Sx
