/- BeG61 -/
import Derived.Test.YtoefmmmfefdcdaaDoorRlI
namespace Go.Sx
open Go.RowKit Go.Proofs
set_option maxRecDepth 100000
theorem ckG6_2 : lAll (ckG 6) (upN 4 8) = true := by kernel_rfl
theorem ckG6_3 : lAll (ckG 6) (upN 4 12) = true := by kernel_rfl
end Go.Sx
