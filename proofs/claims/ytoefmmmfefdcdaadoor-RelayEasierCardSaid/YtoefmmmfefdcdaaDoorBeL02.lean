/- BeL02 -/
import Derived.Test.YtoefmmmfefdcdaaDoorFeA
namespace Go.Sx
open Go.RowKit Go.Proofs
set_option maxRecDepth 100000
theorem ckS64_10:lAll (ckSu 6) (lTake (lDrop (leafs 6 4) 10) 10)=true:=by kernel_rfl
theorem ckS64_20:lAll (ckSu 6) (lTake (lDrop (leafs 6 4) 20) 10)=true:=by kernel_rfl
theorem ckS65_0:lAll (ckSu 6) (lTake (lDrop (leafs 6 5) 0) 10)=true:=by kernel_rfl
theorem ckS65_10:lAll (ckSu 6) (lTake (lDrop (leafs 6 5) 10) 10)=true:=by kernel_rfl
end Go.Sx
