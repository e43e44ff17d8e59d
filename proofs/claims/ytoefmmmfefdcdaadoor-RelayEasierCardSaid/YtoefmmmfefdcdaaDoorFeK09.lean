/- FeK09 -/
import Derived.Test.YtoefmmmfefdcdaaDoorFeA
namespace Go.Sx
open Go.RowKit Go.Proofs
set_option maxRecDepth 100000
theorem ckFG64_1:lAll (ckFa 6 4) (lTake (lDrop (nodeTab 6 4) 1) 16)=true:=by kernel_rfl
theorem ckFG64_17:lAll (ckFa 6 4) (lTake (lDrop (nodeTab 6 4) 17) 15)=true:=by kernel_rfl
end Go.Sx
