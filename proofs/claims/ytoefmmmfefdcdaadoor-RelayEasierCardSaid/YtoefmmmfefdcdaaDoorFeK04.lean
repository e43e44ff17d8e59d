/- FeK04 -/
import Derived.Test.YtoefmmmfefdcdaaDoorFeA
namespace Go.Sx
open Go.RowKit Go.Proofs
set_option maxRecDepth 100000
theorem ckFG56_0:lAll (ckFa 5 6) (lTake (lDrop (nodeTab 5 6) 0) 2)=true:=by kernel_rfl
theorem ckFG56_2:lAll (ckFa 5 6) (lTake (lDrop (nodeTab 5 6) 2) 30)=true:=by kernel_rfl
theorem ckFG61_0:lAll (ckFa 6 1) (lTake (lDrop (nodeTab 6 1) 0) 7)=true:=by kernel_rfl
end Go.Sx
