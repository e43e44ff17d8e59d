/- BeL00 -/
import Derived.Test.YtoefmmmfefdcdaaDoorFeA
namespace Go.Sx
open Go.RowKit Go.Proofs
set_option maxRecDepth 100000
theorem ckS11_0:lAll (ckSu 1) (lTake (lDrop (leafs 1 1) 0) 40)=true:=by kernel_rfl
theorem ckS21_0:lAll (ckSu 2) (lTake (lDrop (leafs 2 1) 0) 40)=true:=by kernel_rfl
theorem ckS22_0:lAll (ckSu 2) (lTake (lDrop (leafs 2 2) 0) 40)=true:=by kernel_rfl
theorem ckS31_0:lAll (ckSu 3) (lTake (lDrop (leafs 3 1) 0) 40)=true:=by kernel_rfl
theorem ckS32_0:lAll (ckSu 3) (lTake (lDrop (leafs 3 2) 0) 40)=true:=by kernel_rfl
theorem ckS33_0:lAll (ckSu 3) (lTake (lDrop (leafs 3 3) 0) 40)=true:=by kernel_rfl
theorem ckS41_0:lAll (ckSu 4) (lTake (lDrop (leafs 4 1) 0) 40)=true:=by kernel_rfl
theorem ckS42_0:lAll (ckSu 4) (lTake (lDrop (leafs 4 2) 0) 40)=true:=by kernel_rfl
theorem ckS43_0:lAll (ckSu 4) (lTake (lDrop (leafs 4 3) 0) 40)=true:=by kernel_rfl
theorem ckS44_0:lAll (ckSu 4) (lTake (lDrop (leafs 4 4) 0) 40)=true:=by kernel_rfl
theorem ckS51_0:lAll (ckSu 5) (lTake (lDrop (leafs 5 1) 0) 16)=true:=by kernel_rfl
theorem ckS52_0:lAll (ckSu 5) (lTake (lDrop (leafs 5 2) 0) 16)=true:=by kernel_rfl
theorem ckS53_0:lAll (ckSu 5) (lTake (lDrop (leafs 5 3) 0) 16)=true:=by kernel_rfl
theorem ckS54_0:lAll (ckSu 5) (lTake (lDrop (leafs 5 4) 0) 16)=true:=by kernel_rfl
theorem ckS55_0:lAll (ckSu 5) (lTake (lDrop (leafs 5 5) 0) 16)=true:=by kernel_rfl
theorem ckS61_0:lAll (ckSu 6) (lTake (lDrop (leafs 6 1) 0) 10)=true:=by kernel_rfl
theorem ckS62_0:lAll (ckSu 6) (lTake (lDrop (leafs 6 2) 0) 10)=true:=by kernel_rfl
end Go.Sx
