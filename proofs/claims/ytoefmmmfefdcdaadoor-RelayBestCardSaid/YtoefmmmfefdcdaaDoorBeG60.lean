/- BeG60 -/
import Derived.Test.YtoefmmmfefdcdaaDoorRlI
namespace Go.Sx
open Go.RowKit Go.Proofs
set_option maxRecDepth 100000
theorem ckG6_0 : lAll (ckG 6) (upN 4 0) = true := by kernel_rfl
theorem ckG6_1 : lAll (ckG 6) (upN 4 4) = true := by kernel_rfl
end Go.Sx
