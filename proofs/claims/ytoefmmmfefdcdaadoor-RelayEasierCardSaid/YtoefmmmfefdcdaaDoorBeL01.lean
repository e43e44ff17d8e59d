/- BeL01 -/
import Derived.Test.YtoefmmmfefdcdaaDoorFeA
namespace Go.Sx
open Go.RowKit Go.Proofs
set_option maxRecDepth 100000
theorem ckS62_10:lAll (ckSu 6) (lTake (lDrop (leafs 6 2) 10) 10)=true:=by kernel_rfl
theorem ckS63_0:lAll (ckSu 6) (lTake (lDrop (leafs 6 3) 0) 10)=true:=by kernel_rfl
theorem ckS63_10:lAll (ckSu 6) (lTake (lDrop (leafs 6 3) 10) 10)=true:=by kernel_rfl
theorem ckS63_20:lAll (ckSu 6) (lTake (lDrop (leafs 6 3) 20) 10)=true:=by kernel_rfl
theorem ckS64_0:lAll (ckSu 6) (lTake (lDrop (leafs 6 4) 0) 10)=true:=by kernel_rfl
end Go.Sx
