/- BeK02 -/
import Derived.Test.YtoefmmmfefdcdaaDoorBeT
namespace Go.Sx
open Go.RowKit Go.Proofs
set_option maxRecDepth 100000
theorem ckG54_0 : lAll (ckAll 5 4) (lTake (lDrop (nodeTab 5 4) 0) 11) = true := by kernel_rfl
theorem ckG54_11 : lAll (ckAll 5 4) (lTake (lDrop (nodeTab 5 4) 11) 20) = true := by kernel_rfl
end Go.Sx
