/- BeG1 -/
import Derived.Test.YtoefmmmfefdcdaaDoorRlI
namespace Go.Sx
open Go.RowKit Go.Proofs
set_option maxRecDepth 100000
theorem ckG1 : lAll (ckG 1) (upN 1 0) = true := by kernel_rfl
theorem ckG2 : lAll (ckG 2) (upN 2 0) = true := by kernel_rfl
theorem ckG3 : lAll (ckG 3) (upN 4 0) = true := by kernel_rfl
theorem ckG4 : lAll (ckG 4) (upN 8 0) = true := by kernel_rfl
theorem ckG5_0 : lAll (ckG 5) (upN 8 0) = true := by kernel_rfl
theorem ckG5_1 : lAll (ckG 5) (upN 8 8) = true := by kernel_rfl
end Go.Sx
