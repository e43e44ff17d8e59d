/- FeK02 -/
import Derived.Test.YtoefmmmfefdcdaaDoorFeA
namespace Go.Sx
open Go.RowKit Go.Proofs
set_option maxRecDepth 100000
theorem ckFG54_0:lAll (ckFa 5 4) (lTake (lDrop (nodeTab 5 4) 0) 17)=true:=by kernel_rfl
theorem ckFG54_17:lAll (ckFa 5 4) (lTake (lDrop (nodeTab 5 4) 17) 14)=true:=by kernel_rfl
end Go.Sx
