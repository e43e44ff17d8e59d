/- FeK13 -/
import Derived.Test.YtoefmmmfefdcdaaDoorFeA
namespace Go.Sx
open Go.RowKit Go.Proofs
set_option maxRecDepth 100000
theorem ckFG65_1:lAll (ckFa 6 5) (lTake (lDrop (nodeTab 6 5) 1) 2)=true:=by kernel_rfl
theorem ckFG65_3:lAll (ckFa 6 5) (lTake (lDrop (nodeTab 6 5) 3) 28)=true:=by kernel_rfl
end Go.Sx
