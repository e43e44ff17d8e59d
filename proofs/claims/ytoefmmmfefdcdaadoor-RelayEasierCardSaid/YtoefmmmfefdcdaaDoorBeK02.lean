/- BeK02 -/
import Derived.Test.YtoefmmmfefdcdaaDoorFeA
namespace Go.Sx
open Go.RowKit Go.Proofs
set_option maxRecDepth 100000
theorem ckG52_0:lAll (ckAll 5 2) (lTake (lDrop (nodeTab 5 2) 0) 20)=true:=by kernel_rfl
theorem ckG53_0:lAll (ckAll 5 3) (lTake (lDrop (nodeTab 5 3) 0) 17)=true:=by kernel_rfl
theorem ckG53_17:lAll (ckAll 5 3) (lTake (lDrop (nodeTab 5 3) 17) 11)=true:=by kernel_rfl
end Go.Sx
namespace Go.Sx
open Go.RowKit Go.Proofs
set_option maxRecDepth 100000
theorem ckG54_0:lAll (ckAll 5 4) (lTake (lDrop (nodeTab 5 4) 0) 11)=true:=by kernel_rfl
theorem ckG54_11:lAll (ckAll 5 4) (lTake (lDrop (nodeTab 5 4) 11) 20)=true:=by kernel_rfl
end Go.Sx
