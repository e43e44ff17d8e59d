/- FeK14 -/
import Derived.Test.YtoefmmmfefdcdaaDoorFeA
namespace Go.Sx
open Go.RowKit Go.Proofs
set_option maxRecDepth 100000
theorem ckFG64_32:lAll (ckFa 6 4) (lTake (lDrop (nodeTab 6 4) 32) 2)=true:=by kernel_rfl
theorem ckFG64_34:lAll (ckFa 6 4) (lTake (lDrop (nodeTab 6 4) 34) 24)=true:=by kernel_rfl
theorem ckFG64_58:lAll (ckFa 6 4) (lTake (lDrop (nodeTab 6 4) 58) 2)=true:=by kernel_rfl
end Go.Sx
namespace Go.Sx
open Go.RowKit Go.Proofs
set_option maxRecDepth 100000
theorem ckFG65_31:lAll (ckFa 6 5) (lTake (lDrop (nodeTab 6 5) 31) 3)=true:=by kernel_rfl
theorem ckFG65_34:lAll (ckFa 6 5) (lTake (lDrop (nodeTab 6 5) 34) 21)=true:=by kernel_rfl
theorem ckFG65_55:lAll (ckFa 6 5) (lTake (lDrop (nodeTab 6 5) 55) 8)=true:=by kernel_rfl
end Go.Sx
