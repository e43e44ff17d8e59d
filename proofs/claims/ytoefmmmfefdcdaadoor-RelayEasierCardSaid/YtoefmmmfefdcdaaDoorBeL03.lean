/- BeL03 -/
import Derived.Test.YtoefmmmfefdcdaaDoorFeA
namespace Go.Sx
open Go.RowKit Go.Proofs
set_option maxRecDepth 100000
theorem ckS65_20:lAll (ckSu 6) (lTake (lDrop (leafs 6 5) 20) 10)=true:=by kernel_rfl
theorem ckS65_30:lAll (ckSu 6) (lTake (lDrop (leafs 6 5) 30) 10)=true:=by kernel_rfl
theorem ckS66_0:lAll (ckSu 6) (lTake (lDrop (leafs 6 6) 0) 10)=true:=by kernel_rfl
theorem ckS66_10:lAll (ckSu 6) (lTake (lDrop (leafs 6 6) 10) 10)=true:=by kernel_rfl
theorem ckS66_20:lAll (ckSu 6) (lTake (lDrop (leafs 6 6) 20) 10)=true:=by kernel_rfl
theorem ckS66_30:lAll (ckSu 6) (lTake (lDrop (leafs 6 6) 30) 10)=true:=by kernel_rfl
end Go.Sx
