/- FeK07 -/
import Derived.Test.YtoefmmmfefdcdaaDoorFeA
namespace Go.Sx
open Go.RowKit Go.Proofs
set_option maxRecDepth 100000
theorem ckFG63_0:lAll (ckFa 6 3) (lTake (lDrop (nodeTab 6 3) 0) 2)=true:=by kernel_rfl
theorem ckFG63_2:lAll (ckFa 6 3) (lTake (lDrop (nodeTab 6 3) 2) 27)=true:=by kernel_rfl
end Go.Sx
namespace Go.Sx
open Go.RowKit Go.Proofs
set_option maxRecDepth 100000
theorem ckFG63_29:lAll (ckFa 6 3) (lTake (lDrop (nodeTab 6 3) 29) 11)=true:=by kernel_rfl
theorem ckFG63_40:lAll (ckFa 6 3) (lTake (lDrop (nodeTab 6 3) 40) 12)=true:=by kernel_rfl
end Go.Sx
