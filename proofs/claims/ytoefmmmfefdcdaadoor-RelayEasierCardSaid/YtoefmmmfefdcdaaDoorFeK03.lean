/- FeK03 -/
import Derived.Test.YtoefmmmfefdcdaaDoorFeA
namespace Go.Sx
open Go.RowKit Go.Proofs
set_option maxRecDepth 100000
theorem ckFG55_0:lAll (ckFa 5 5) (lTake (lDrop (nodeTab 5 5) 0) 2)=true:=by kernel_rfl
theorem ckFG55_2:lAll (ckFa 5 5) (lTake (lDrop (nodeTab 5 5) 2) 30)=true:=by kernel_rfl
end Go.Sx
