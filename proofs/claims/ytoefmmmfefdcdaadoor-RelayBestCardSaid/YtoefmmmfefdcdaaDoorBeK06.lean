/- BeK06 -/
import Derived.Test.YtoefmmmfefdcdaaDoorBeT
namespace Go.Sx
open Go.RowKit Go.Proofs
set_option maxRecDepth 100000
theorem ckG62_20 : lAll (ckAll 6 2) (lTake (lDrop (nodeTab 6 2) 20) 11) = true := by kernel_rfl
theorem ckG62_31 : lAll (ckAll 6 2) (lTake (lDrop (nodeTab 6 2) 31) 2) = true := by kernel_rfl
theorem ckG63_0 : lAll (ckAll 6 3) (lTake (lDrop (nodeTab 6 3) 0) 2) = true := by kernel_rfl
end Go.Sx
